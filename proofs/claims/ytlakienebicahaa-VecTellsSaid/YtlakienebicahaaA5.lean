/- Covers, Order and Next of vec and of the reference. -/
import Derived.Test.YtlakienebicahaaA4
namespace Go.Proofs.Ytlakienebicahaa
open Go.RowKit

theorem arr8 (f : Nat → Nat) : arrOf .u64 8 f = #[.int .u64 (f 0 : Int), .int .u64 (f 1 : Int), .int .u64 (f 2 : Int), .int .u64 (f 3 : Int), .int .u64 (f 4 : Int), .int .u64 (f 5 : Int), .int .u64 (f 6 : Int), .int .u64 (f 7 : Int)] := rfl
def cells16 (f g : Nat → Nat) : Array Value := arrOf .u64 16 fun i => if i < 8 then f i else g (i - 8)
theorem run_two (f g : Nat → Nat) (x : World) : (Instr.buildSlice 49 2 #[(0, .agg (arrOf .u64 8 f)), (1, .agg (arrOf .u64 8 g))]).run Try.prog x = .ok (.slice (some ⟨x.heap.size, 0, none⟩) 2 2) (x.alloc (.cells (cells16 f g) 24)) := by
  have e : cells16 f g = #[.int .u64 (f 0 : Int), .int .u64 (f 1 : Int), .int .u64 (f 2 : Int), .int .u64 (f 3 : Int), .int .u64 (f 4 : Int), .int .u64 (f 5 : Int), .int .u64 (f 6 : Int), .int .u64 (f 7 : Int), .int .u64 (g 0 : Int), .int .u64 (g 1 : Int), .int .u64 (g 2 : Int), .int .u64 (g 3 : Int), .int .u64 (g 4 : Int), .int .u64 (g 5 : Int), .int .u64 (g 6 : Int), .int .u64 (g 7 : Int)] := rfl
  rw [e, arr8, arr8]
  go_simp
theorem exec_build {P : Program} {ev : Operand → Value} {o : Oper} {w w' : World} {v : Value} (t : TypeId) (n : Nat) (ps : Array (Nat × Operand)) (ho : o.op = .buildSlice t n ps) (vs : Array (Nat × Value)) (hv : ps.map (fun p => (p.1, ev p.2)) = vs)
    (h : (Instr.buildSlice t n vs).run P w = .ok v w') : (execOp ev o).run P w = .ok (.value v) w' := by
  unfold execOp
  simp only [ho, hv, Sem.run_bind, h, Result.andThen_ok, Sem.run_pure]

/-- A slice of vectors as a value. -/
def PV (ls : List (Nat → Nat)) (v : Value) (x : World) : Prop := ∃ A c, v = .slice A ls.length c ∧ Vecs x (· < x.heap.size) A ls
theorem PV.up {ls : List (Nat → Nat)} {v : Value} {x y : World} (h : Below x.heap.size x y) : PV ls v x → PV ls v y := fun ⟨A, c, e, hv⟩ => ⟨A, c, e, ⟨fun hp => by
  obtain ⟨b, o, e, hb, hr⟩ := (hv.below h).at_ hp
  exact ⟨b, o, e, Nat.lt_of_lt_of_le hb h.size, hr⟩⟩⟩
theorem pv_two (f g : Nat → Nat) (x : World) : PV [f, g] (.slice (some ⟨x.heap.size, 0, none⟩) 2 2) (x.alloc (.cells (cells16 f g) 24)) := by
  refine ⟨_, 2, rfl, ⟨fun _ => ⟨_, _, rfl, by simp, fun j hj => rangeA_arr fun i hi => ?_⟩⟩⟩
  rw [cell_of_row _ _ _ _ _ _ (heap_alloc_new _ _), cells16, arrOf_get _ _ (by simp at hj; omega)]
  match j, hj with
  | 0, _ => simp [hi]
  | 1, _ =>
    have : ¬ (8 + i < 8) := by omega
    simp [this]
theorem join_pv {f g : Nat → Nat} {v : Value} {x : World} (h : PV [f, g] v x) : Calls Try.prog 19 #[v] x fun e w' => e = .returned (vecV fun i => max (f i) (g i)) ∧ Below x.heap.size x w' := by
  obtain ⟨A, c, rfl, hv⟩ := h
  refine (join_any [f, g] c A x hv (by simp)).mono ?_
  rintro e y ⟨rfl, hg⟩
  refine ⟨?_, hg⟩
  rw [show joinAll [f, g] = fun i => max (f i) (g i) by funext i; simp [joinAll]]
theorem eq_vec (f g : Nat → Nat) (x : World) : (Op.equalIn 10000 24 (.agg (arrOf .u64 8 f)) (.agg (arrOf .u64 8 g))).run Try.prog x = .ok (Vec.same f g) x := by
  rw [run_equalIn_arr (P := Try.prog) 24 22 8 .u64 .u64 Try.underlying24 Try.underlying22 size22 agg22 f g x]
  congr 1
  rw [Bool.eq_iff_iff, decide_eq_true_eq, Vec.same_iff]
theorem covers_same (f g : Nat → Nat) : Vec.same (fun i => max (f i) (g i)) f = Vec.covers f g := by
  rw [Bool.eq_iff_iff, Vec.same_iff, Vec.covers_iff]
  exact ⟨fun h i hi => by have := h i hi; omega, fun h i hi => by have := h i hi; omega⟩

/-- Two boxed vectors. -/
structure VInv (w : World) (f g : Nat → Nat) (wr : World) : Prop where
  a : wr.rowIs w.heap.size 24 8 (fun i => .int .u64 ((f i : Nat) : Int))
  b : wr.rowIs (w.heap.size + 1) 24 8 (fun i => .int .u64 ((g i : Nat) : Int))
  below : Below w.heap.size w wr
theorem VInv.start (w : World) (f g : Nat → Nat) : VInv w f g ((w.alloc (.cells (arrOf .u64 8 f) 24)).alloc (.cells (arrOf .u64 8 g) 24)) := by
  refine ⟨(vec_row w f).alloc _, ?_, below2 _ _ _⟩
  have h := vec_row (w.alloc (.cells (arrOf .u64 8 f) 24)) g
  simpa using h
theorem VInv.then_ {w w1 w2 : World} {f g : Nat → Nat} (hb : Below w1.heap.size w1 w2) (h : VInv w f g w1) : VInv w f g w2 :=
  ⟨row_below h.a hb h.a.lt, row_below h.b hb h.b.lt, h.below.trans (hb.mono h.below.size)⟩
theorem VInv.drew {w wr : World} {f g : Nat → Nat} (I : VInv w f g wr) : VInv w f g wr.drew := ⟨I.a, I.b, ⟨I.below.os, I.below.tape, I.below.output, I.below.size, I.below.block⟩⟩

set_option maxHeartbeats 1000000 in
theorem covers_any (f g : Nat → Nat) (w : World) : Calls Try.prog 23 #[vecV f, vecV g] w fun e w' => e = .returned (.bool (Vec.covers f g)) ∧ Below w.heap.size w w' := by
  have HI0 := Lib.hid (VInv.start w f g)
  go_enter Try.func23, Try.ntmps23
  go_wp2_with fail
  generalize (w.alloc (.cells (arrOf .u64 8 f) 24)).alloc (.cells (arrOf .u64 8 g) 24) = w1 at *
  refine M2.wp_region_kinds (fun _ x y => Below x.heap.size x y) (fun _ x => VInv w f g x) (fun x => VInv w f g x)
    [(0, .val (vecV f) fun _ => True), (1, .val (vecV g) fun _ => True), (2, .mem (PV [f, g])), (3, .val (vecV fun i => max (f i) (g i)) fun _ => True), (4, .val (vecV f) fun _ => True)] (by kernel_rfl) (by kernel_rfl) (fun _ _ _ hb h => VInv.then_ hb h) (fun _ _ _ _ _ hb h => VInv.then_ hb h) ?_ HI0.out.drew (fun _ => HI0.out.drew) ?_
  · intro z hz
    simp only [List.mem_cons, List.mem_nil_iff, or_false] at hz
    rcases hz with rfl | rfl | rfl | rfl | rfl <;> first
      | exact fun _ _ _ _ _ _ => trivial
      | exact fun j v x y _ hr => PV.up hr
  refine M2.mono_val rfl rfl (fun x hD hF => ?_) ?_
  · have hl := run_loadVar_arr (P := Try.prog) x w.heap.size 0 24 (arrOf .u64 8 f) _ (row_range hD.a) Try.underlying24 rfl (by rw [arrOf_size]; exact size24)
    rw [exec_load 24 (.tmp 2) rfl w.heap.size 0 rfl hl]
    exact ⟨Below.refl _ _, rfl, trivial⟩
  apply Exists.intro
  refine ⟨by simp only [Act.put, List.setIfInBounds_toArray, List.set_cons_succ, List.set_cons_zero]; rfl, ?_⟩
  refine M2.mono_val rfl rfl (fun x hD hF => ?_) ?_
  · have hl := run_loadVar_arr (P := Try.prog) x (w.heap.size + 1) 0 24 (arrOf .u64 8 g) _ (row_range hD.b) Try.underlying24 rfl (by rw [arrOf_size]; exact size24)
    rw [exec_load 24 (.tmp 3) rfl (w.heap.size + 1) 0 rfl hl]
    exact ⟨Below.refl _ _, rfl, trivial⟩
  apply Exists.intro
  refine ⟨by simp only [Act.put, List.setIfInBounds_toArray, List.set_cons_succ, List.set_cons_zero]; rfl, ?_⟩
  refine M2.mono_mem rfl rfl (fun x hD hF => ?_) (fun v7 => ?_)
  · rw [exec_build 49 2 _ rfl #[(0, .agg (arrOf .u64 8 f)), (1, .agg (arrOf .u64 8 g))] (by simp only [List.map_toArray, List.map_cons, List.map_nil]; rfl) (run_two f g x)]
    exact ⟨below1 _ _, pv_two f g x⟩
  apply Exists.intro
  refine ⟨by simp only [Act.put, List.setIfInBounds_toArray, List.set_cons_succ, List.set_cons_zero]; rfl, ?_⟩
  refine M2.mono_val rfl rfl (fun x hD hF => ?_) ?_
  · have h1 := (hF 2 _ 7 rfl rfl (by decide)).1
    go_simp
    refine (join_pv h1).mono ?_
    rintro e y ⟨rfl, hg⟩
    exact ⟨_, rfl, hg, rfl⟩
  apply Exists.intro
  refine ⟨by simp only [Act.put, List.setIfInBounds_toArray, List.set_cons_succ, List.set_cons_zero]; rfl, ?_⟩
  refine M2.mono_val rfl rfl (fun x hD hF => ?_) ?_
  · have hl := run_loadVar_arr (P := Try.prog) x w.heap.size 0 24 (arrOf .u64 8 f) _ (row_range hD.a) Try.underlying24 rfl (by rw [arrOf_size]; exact size24)
    rw [exec_load 24 (.tmp 2) rfl w.heap.size 0 rfl hl]
    exact ⟨Below.refl _ _, rfl, trivial⟩
  apply Exists.intro
  refine ⟨by simp only [Act.put, List.setIfInBounds_toArray, List.set_cons_succ, List.set_cons_zero]; rfl, ?_⟩
  refine M2.mono_pure rfl rfl ?_
  apply Exists.intro
  refine ⟨fun x => ?_, ?_⟩
  · have h1 := eq_vec (fun i => max (f i) (g i)) f x
    go_simp
    rfl
  apply Exists.intro
  refine ⟨by simp only [Act.put, List.setIfInBounds_toArray, List.set_cons_succ, List.set_cons_zero]; rfl, ?_⟩
  iterate 1
    refine M2.mono_pure rfl rfl ?_
    apply Exists.intro
    refine ⟨fun x => ?_, ?_⟩
    · go_simp
      rfl
    apply Exists.intro
    refine ⟨by simp only [Act.put, List.setIfInBounds_toArray, List.set_cons_succ, List.set_cons_zero]; rfl, ?_⟩
  refine M2.mono_nil ?_
  intro w3 hD hF
  have HB := Lib.hid hD.below
  clear hD hF
  go_simp
  go_wp2_with fail
  go_ret
  exact ⟨ret_bool (covers_same f g), HB.out⟩

set_option maxHeartbeats 1000000 in
theorem coversR_any (f g : Nat → Nat) (w : World) : Calls Try.prog 24 #[vecV f, vecV g] w fun e w' => e = .returned (.bool (Vec.covers f g)) ∧ Below w.heap.size w w' := by
  have HI0 := Lib.hid (VInv.start w f g)
  go_enter Try.func24, Try.ntmps24
  go_wp2
  generalize (w.alloc (.cells (arrOf .u64 8 f) 24)).alloc (.cells (arrOf .u64 8 g) 24) = w1 at *
  go_loopw [5] (fun v wr => ∃ i : Nat, i ≤ 8 ∧ v = .int .i64 i ∧ Hid (∀ j : Nat, j < i → g j ≤ f j) ∧ Hid (VInv w f g wr)) (fun v _ => 8 - (intOf v).toNat)
  case atStart => exact ⟨0, by omega, rfl, fun j h => by omega, HI0⟩
  case round =>
    clear HI0
    obtain ⟨i, hi, rfl, HN, HI⟩ := hrel
    by_cases hlt : i < 8
    · have c1 := HI.out.a.cell (i := i) hlt
      have c2 := HI.out.b.cell (i := i) hlt
      by_cases hc : f i < g i
      · have hci : (f i : Int) < (g i : Int) := by omega
        go_wp2
        go_region
        go_wp2
        go_ret
        refine ⟨ret_bool ?_, HI.out.below.drew⟩
        cases hv : Vec.covers f g with
        | false => rfl
        | true => exact absurd ((Vec.covers_iff f g).1 hv i hlt) (by omega)
      · have hci : ¬ ((f i : Int) < (g i : Int)) := by omega
        go_wp2
        go_region
        go_wp2
        go_roundw
        case rel =>
          refine ⟨i + 1, by omega, by go_num, fun j hj => ?_, HI.out.drew⟩
          by_cases e : j = i
          · subst e; omega
          · exact HN.out j (by omega)
        case measure => simp [intOf]; omega
    · obtain rfl : i = 8 := by omega
      go_wp2
      go_ret
      refine ⟨ret_bool ?_, HI.out.below⟩
      exact ((Vec.covers_iff f g).2 HN.out).symm

namespace Vec
def order (f g : Nat → Nat) : Int := if same f g = true then 0 else if covers f g = true then 1 else if covers g f = true then -1 else 2
end Vec

set_option maxHeartbeats 1000000 in
theorem order_any (f g : Nat → Nat) (w : World) : Calls Try.prog 27 #[vecV f, vecV g] w fun e w' => e = .returned (.int .i64 (Vec.order f g)) ∧ Below w.heap.size w w' := by
  have HI0 := Lib.hid (VInv.start w f g)
  have s24 : ∀ {f : Nat → Nat}, Hid ((Try.prog.info? 24).map (·.size) = some (arrOf .u64 8 f).size) := fun {f} => by rw [arrOf_size]; exact size24
  have he := fun x => eq_vec f g x
  have ha := Lib.hid (row24 HI0.out.a)
  have hb := Lib.hid (row24 HI0.out.b)
  by_cases h1 : Vec.same f g = true
  · go_enter Try.func27, Try.ntmps27
    go_wp2_with (first
      | (refine wpList_load_row rfl 24 _ rfl w.heap.size rfl 24 _ (0, 0) _ ha.out Try.underlying24 rfl s24.out ?_)
      | (refine wpList_load_row rfl 24 _ rfl (w.heap.size + 1) rfl 24 _ (0, 0) _ hb.out Try.underlying24 rfl s24.out ?_))
    go_ret
    exact ⟨ret_int (by rw [Vec.order, if_pos h1]), HI0.out.below⟩
  · have h1' : Vec.same f g = false := by simpa using h1
    go_enter Try.func27, Try.ntmps27
    go_wp2_with (first
      | (refine wpList_load_row rfl 24 _ rfl w.heap.size rfl 24 _ (0, 0) _ ha.out Try.underlying24 rfl s24.out ?_)
      | (refine wpList_load_row rfl 24 _ rfl (w.heap.size + 1) rfl 24 _ (0, 0) _ hb.out Try.underlying24 rfl s24.out ?_))
    refine (covers_any f g _).mono ?_
    rintro e w1 ⟨rfl, hb1⟩
    have HI1 := Lib.hid (HI0.out.then_ hb1)
    have ha1 := Lib.hid (row24 HI1.out.a)
    have hb1' := Lib.hid (row24 HI1.out.b)
    clear hb1 HI0 ha hb
    by_cases h2 : Vec.covers f g = true
    · go_wp2_with (first
        | (refine wpList_load_row rfl 24 _ rfl w.heap.size rfl 24 _ (0, 0) _ ha1.out Try.underlying24 rfl s24.out ?_)
        | (refine wpList_load_row rfl 24 _ rfl (w.heap.size + 1) rfl 24 _ (0, 0) _ hb1'.out Try.underlying24 rfl s24.out ?_))
      go_ret
      exact ⟨ret_int (by rw [Vec.order, if_neg h1, if_pos h2]), HI1.out.below⟩
    · have h2' : Vec.covers f g = false := by simpa using h2
      go_wp2_with (first
        | (refine wpList_load_row rfl 24 _ rfl w.heap.size rfl 24 _ (0, 0) _ ha1.out Try.underlying24 rfl s24.out ?_)
        | (refine wpList_load_row rfl 24 _ rfl (w.heap.size + 1) rfl 24 _ (0, 0) _ hb1'.out Try.underlying24 rfl s24.out ?_))
      refine (covers_any g f _).mono ?_
      rintro e w2 ⟨rfl, hb2⟩
      have HI2 := Lib.hid (HI1.out.then_ hb2)
      clear hb2 HI1 ha1 hb1'
      by_cases h3 : Vec.covers g f = true
      · go_wp2_with fail
        go_ret
        exact ⟨ret_int (by rw [Vec.order, if_neg h1, if_neg h2, if_pos h3]), HI2.out.below⟩
      · have h3' : Vec.covers g f = false := by simpa using h3
        go_wp2_with fail
        go_ret
        exact ⟨ret_int (by rw [Vec.order, if_neg h1, if_neg h2, if_neg h3]), HI2.out.below⟩

set_option maxHeartbeats 1000000 in
theorem orderR_any (f g : Nat → Nat) (w : World) : Calls Try.prog 28 #[vecV f, vecV g] w fun e w' => e = .returned (.int .i64 (Vec.order f g)) ∧ Below w.heap.size w w' := by
  have HI0 := Lib.hid (VInv.start w f g)
  have s24 : ∀ {f : Nat → Nat}, Hid ((Try.prog.info? 24).map (·.size) = some (arrOf .u64 8 f).size) := fun {f} => by rw [arrOf_size]; exact size24
  have he := fun x => eq_vec f g x
  have ha := Lib.hid (row24 HI0.out.a)
  have hb := Lib.hid (row24 HI0.out.b)
  by_cases h1 : Vec.same f g = true
  · go_enter Try.func28, Try.ntmps28
    go_wp2_with (first
      | (refine wpList_load_row rfl 24 _ rfl w.heap.size rfl 24 _ (0, 0) _ ha.out Try.underlying24 rfl s24.out ?_)
      | (refine wpList_load_row rfl 24 _ rfl (w.heap.size + 1) rfl 24 _ (0, 0) _ hb.out Try.underlying24 rfl s24.out ?_))
    go_ret
    exact ⟨ret_int (by rw [Vec.order, if_pos h1]), HI0.out.below⟩
  · have h1' : Vec.same f g = false := by simpa using h1
    go_enter Try.func28, Try.ntmps28
    go_wp2_with (first
      | (refine wpList_load_row rfl 24 _ rfl w.heap.size rfl 24 _ (0, 0) _ ha.out Try.underlying24 rfl s24.out ?_)
      | (refine wpList_load_row rfl 24 _ rfl (w.heap.size + 1) rfl 24 _ (0, 0) _ hb.out Try.underlying24 rfl s24.out ?_))
    refine (coversR_any f g _).mono ?_
    rintro e w1 ⟨rfl, hb1⟩
    have HI1 := Lib.hid (HI0.out.then_ hb1)
    have ha1 := Lib.hid (row24 HI1.out.a)
    have hb1' := Lib.hid (row24 HI1.out.b)
    clear hb1 HI0 ha hb
    by_cases h2 : Vec.covers f g = true
    · go_wp2_with (first
        | (refine wpList_load_row rfl 24 _ rfl w.heap.size rfl 24 _ (0, 0) _ ha1.out Try.underlying24 rfl s24.out ?_)
        | (refine wpList_load_row rfl 24 _ rfl (w.heap.size + 1) rfl 24 _ (0, 0) _ hb1'.out Try.underlying24 rfl s24.out ?_))
      go_ret
      exact ⟨ret_int (by rw [Vec.order, if_neg h1, if_pos h2]), HI1.out.below⟩
    · have h2' : Vec.covers f g = false := by simpa using h2
      go_wp2_with (first
        | (refine wpList_load_row rfl 24 _ rfl w.heap.size rfl 24 _ (0, 0) _ ha1.out Try.underlying24 rfl s24.out ?_)
        | (refine wpList_load_row rfl 24 _ rfl (w.heap.size + 1) rfl 24 _ (0, 0) _ hb1'.out Try.underlying24 rfl s24.out ?_))
      refine (coversR_any g f _).mono ?_
      rintro e w2 ⟨rfl, hb2⟩
      have HI2 := Lib.hid (HI1.out.then_ hb2)
      clear hb2 HI1 ha1 hb1'
      by_cases h3 : Vec.covers g f = true
      · go_wp2_with fail
        go_ret
        exact ⟨ret_int (by rw [Vec.order, if_neg h1, if_neg h2, if_pos h3]), HI2.out.below⟩
      · have h3' : Vec.covers g f = false := by simpa using h3
        go_wp2_with fail
        go_ret
        exact ⟨ret_int (by rw [Vec.order, if_neg h1, if_neg h2, if_neg h3]), HI2.out.below⟩
end Go.Proofs.Ytlakienebicahaa
