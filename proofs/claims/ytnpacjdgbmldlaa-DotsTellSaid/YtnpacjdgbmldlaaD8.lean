/- The reference's Span. -/
import Derived.Test.YtnpacjdgbmldlaaD7
import Derived.Test.YtnpacjdgbmldlaaV7
namespace Go.Proofs.Ytnpacjdgbmldlaa
open Go.RowKit
def spanF (ls : List Dt) : Nat → Nat := ls.foldl (fun f d => Vec.with_ f d.1 d.2) fun _ => 0
theorem spanF_take (ls : List Dt) {j : Nat} (h : j < ls.length) : spanF (ls.take (j + 1)) = Vec.with_ (spanF (ls.take j)) (ls.getD j (0, 0)).1 (ls.getD j (0, 0)).2 := by
  rw [List.take_add_one, List.getD_eq_getElem?_getD, List.getElem?_eq_getElem h]
  unfold spanF
  rw [List.foldl_append]
  rfl
/-- A result of noughts, a vector, a list. -/
structure SI (w : World) (A : Option Addr) (ls : List Dt) (f : Nat → Nat) (x : World) : Prop where
  r : x.rowIs w.heap.size 27 8 (fun _ => .int .u64 0)
  v : x.rowIs (w.heap.size + 1) 27 8 (fun i => .int .u64 ((f i : Nat) : Int))
  l : Dots x (· < w.heap.size) A ls
  below : Below w.heap.size w x
theorem SI.then_ {w x y : World} {A : Option Addr} {ls : List Dt} {f : Nat → Nat} (hb : Below x.heap.size x y) (I : SI w A ls f x) : SI w A ls f y :=
  ⟨row_below I.r hb I.r.lt, row_below I.v hb I.v.lt, I.l.below (hb.mono I.below.size), I.below.trans (hb.mono I.below.size)⟩
theorem SI.drew {w x : World} {A : Option Addr} {ls : List Dt} {f : Nat → Nat} (I : SI w A ls f x) : SI w A ls f x.drew := SI.then_ (x := x) (y := x.drew) ⟨rfl, rfl, rfl, Nat.le_refl _, fun _ _ => rfl⟩ I
theorem SI.put {w x : World} {A : Option Addr} {ls : List Dt} {f : Nat → Nat} (I : SI w A ls f x) (g : Nat → Nat) : SI w A ls g (x.setRow (w.heap.size + 1) (arrOf .u64 8 g)) :=
  ⟨I.r.of_block (setRow_other _ _ _ _ (by omega)), arr_row (setRow_heap _ _ _ _ _ _ (row_arr I.v)), I.l.keep fun b j hb _ => World.cell?_of_block (w := x) (a := ⟨b, j, none⟩) (setRow_other _ _ _ _ (by show b ≠ _; omega)), below_setRow' I.below (by omega) _⟩
theorem SI.start (w : World) {A : Option Addr} {ls : List Dt} (h : Dots w (· < w.heap.size) A ls) : SI w A ls (fun _ => 0) ((w.alloc (.cells #[.int .u64 0, .int .u64 0, .int .u64 0, .int .u64 0, .int .u64 0, .int .u64 0, .int .u64 0, .int .u64 0] 27)).alloc (.cells #[.int .u64 0, .int .u64 0, .int .u64 0, .int .u64 0, .int .u64 0, .int .u64 0, .int .u64 0, .int .u64 0] 27)) := by
  have h2 := zero_row (w.alloc (.cells #[.int .u64 0, .int .u64 0, .int .u64 0, .int .u64 0, .int .u64 0, .int .u64 0, .int .u64 0, .int .u64 0] 27))
  refine ⟨(zero_row w).alloc _, by simpa using h2, h.below (below2 _ _ _), below2 _ _ _⟩
set_option maxRecDepth 100000 in
set_option maxHeartbeats 4000000 in
theorem dspanR_any (ls : List Dt) (c : Nat) (A : Option Addr) (w : World) (hv : Dots w (· < w.heap.size) A ls) (hm : ls.length ≤ 9223372036854775806) :
    Calls Try.prog 28 #[.slice A ls.length c] w fun e w' => e = .returned (vecV (spanF ls)) ∧ Below w.heap.size w w' := by
  have HI0 := Lib.hid (SI.start w hv)
  have HM := Lib.hid hm
  have s27 : ∀ {f : Nat → Nat}, Hid ((Try.prog.info? 27).map (·.size) = some (arrOf .u64 8 f).size) := fun {f} => by rw [arrOf_size]; exact size27
  have ss : ∀ {f g : Nat → Nat}, Hid ((arrOf .u64 8 f).size = (arrOf .u64 8 g).size) := fun {f g} => by rw [arrOf_size, arrOf_size]; exact rfl
  clear hv hm
  go_enter Try.func28, Try.ntmps28
  go_wp2
  generalize (w.alloc (.cells #[.int .u64 0, .int .u64 0, .int .u64 0, .int .u64 0, .int .u64 0, .int .u64 0, .int .u64 0, .int .u64 0] 27)).alloc (.cells #[.int .u64 0, .int .u64 0, .int .u64 0, .int .u64 0, .int .u64 0, .int .u64 0, .int .u64 0, .int .u64 0] 27) = w1 at *
  go_loopw [4] (fun v wr => ∃ j : Nat, j ≤ ls.length ∧ v = .int .i64 j ∧ Hid (SI w A ls (spanF (ls.take j)) wr)) (fun v _ => ls.length - (intOf v).toNat)
  case atStart => exact ⟨0, by omega, rfl, HI0⟩
  case round =>
    clear HI0
    obtain ⟨j, hj, rfl, HI⟩ := hrel
    by_cases hlt : j < ls.length
    · obtain ⟨b, o, hA⟩ := HI.out.l.some_ (by omega)
      subst hA
      obtain ⟨d, hd⟩ : ∃ d, d = ls.getD j (0, 0) := ⟨_, rfl⟩
      have HD := Lib.hid hd
      obtain ⟨f, hf⟩ : ∃ f, f = spanF (ls.take j) := ⟨_, rfl⟩
      have HF : Hid (spanF (ls.take (j + 1)) = Vec.with_ f d.1 d.2) := Lib.hid (by rw [spanF_take ls hlt, ← hf, ← hd])
      rw [← hf] at HI
      have HLT := Lib.hid hlt
      have eJ : IntKind.i64.wrap ((j : Int) + 1) = (j : Int) + 1 := by have := HM.out; rw [IntKind.wrap_i64]; omega
      clear hd hf
      go_wp2_with fail
      refine WM.wp_region_front 6 [] (fun _ x y => Below x.heap.size x y) (fun _ x => SI w (some ⟨b, o, none⟩) ls f x) (fun x => SI w (some ⟨b, o, none⟩) ls f x)
        [(0, .val (vecV f) fun _ => True), (4, .val (dotV d.1 d.2) fun _ => True), (5, .val (vecV (Vec.with_ f d.1 d.2)) fun _ => True)] (by kernel_rfl) (by kernel_rfl) (by kernel_rfl) (by kernel_rfl) (of_decide_eq_true (by kernel_rfl)) ?_ ?_ (fun _ _ _ hb => hb.size) (fun _ _ _ hb h => SI.then_ hb h) (fun _ _ _ _ _ hb h => SI.then_ hb h) ?_ HI.out.drew (fun _ => HI.out.drew) ?_
      · intro p hp
        cases hp
      · intro p hp
        cases hp
      · intro z hz
        simp only [List.mem_cons, List.mem_nil_iff, or_false] at hz
        rcases hz with rfl | rfl | rfl <;> exact fun _ _ _ _ _ _ => trivial
      refine WM.mono_val rfl rfl (fun x hD hF => ?_) ?_
      · have hl := run_loadVar_arr (P := Try.prog) x (w.heap.size + 1) 0 27 (arrOf .u64 8 f) _ (row_range hD.v) Try.underlying27 rfl (by rw [arrOf_size]; exact size27)
        rw [exec_load 27 (.tmp 3) rfl (w.heap.size + 1) 0 rfl hl]
        exact ⟨Below.refl _ _, rfl, trivial⟩
      apply Exists.intro
      refine ⟨by simp only [Act.put, List.setIfInBounds_toArray, List.set_cons_succ, List.set_cons_zero]; rfl, ?_⟩
      iterate 2
        refine WM.mono_pure rfl rfl ?_
        apply Exists.intro
        refine ⟨fun x => ?_, ?_⟩
        · go_simp
          rfl
        apply Exists.intro
        refine ⟨by simp only [Act.put, List.setIfInBounds_toArray, List.set_cons_succ, List.set_cons_zero]; rfl, ?_⟩
      refine WM.mono_pure rfl rfl ?_
      refine ⟨.pointer (some ⟨b, o + j * 2, none⟩), fun x => ?_, ?_⟩
      · go_simp
      apply Exists.intro
      refine ⟨by simp only [Act.put, List.setIfInBounds_toArray, List.set_cons_succ, List.set_cons_zero]; rfl, ?_⟩
      refine WM.mono_val rfl rfl (fun x hD hF => ?_) ?_
      · have hl := run_loadVar_arr (P := Try.prog) x b (o + j * 2) 35 (dotC d) _ (by rw [HD.out]; exact hD.l.at_j HLT.out) Try.underlying35 rfl size35
        rw [exec_load 35 (.tmp 14) rfl b (o + j * 2) rfl hl]
        exact ⟨Below.refl _ _, rfl, trivial⟩
      apply Exists.intro
      refine ⟨by simp only [Act.put, List.setIfInBounds_toArray, List.set_cons_succ, List.set_cons_zero]; rfl, ?_⟩
      refine WM.mono_val rfl rfl (fun x hD hF => ?_) ?_
      · go_simp
        refine (withR_any f d.1 d.2 x).mono ?_
        rintro e y ⟨rfl, hg⟩
        exact ⟨_, rfl, hg, rfl⟩
      apply Exists.intro
      refine ⟨by simp only [Act.put, List.setIfInBounds_toArray, List.set_cons_succ, List.set_cons_zero]; rfl, ?_⟩
      refine WM.mono_nil ?_
      intro x hD hF _
      have HX := Lib.hid hD
      have HV : Hid (_ = _) := row_arr hD.v
      have HN2 : Hid (SI w (some ⟨b, o, none⟩) ls (spanF (ls.take (j + 1))) (x.setRow (w.heap.size + 1) (arrOf .u64 8 (Vec.with_ f d.1 d.2)))) := Lib.hid (by rw [HF.out]; exact hD.put _)
      clear hD hF HI
      refine wpList_store_row rfl 27 _ _ rfl (w.heap.size + 1) (arrOf .u64 8 (Vec.with_ f d.1 d.2)) rfl rfl 27 _ HV.out s27.out ss.out (arrOf_one _ _ _) ?_
      generalize x.setRow (w.heap.size + 1) (arrOf .u64 8 (Vec.with_ f d.1 d.2)) = w5 at *
      go_simp
      go_wp2
      go_roundw
      all_goals clear eJ
      case rel => exact ⟨j + 1, by omega, by go_num, HN2⟩
      case measure => simp [intOf]; omega
    · obtain rfl : j = ls.length := by omega
      rw [List.take_length] at HI
      have ha : Hid (_ = _) := row_arr HI.out.v
      have hz0 : Hid (wr.heap[w.heap.size]? = some (.cells (arrOf .u64 8 fun _ => 0) 27 (0, 0))) := row_arr (f := fun _ => 0) HI.out.r
      have HB := Lib.hid HI.out.below
      clear HI
      go_wp2_with (first
        | (refine wpList_load_row rfl 27 _ rfl (w.heap.size + 1) rfl 27 (arrOf .u64 8 (spanF ls)) (0, 0) _ ha.out Try.underlying27 rfl s27.out ?_)
        | (refine wpList_store_row rfl 27 _ _ rfl w.heap.size (arrOf .u64 8 (spanF ls)) rfl rfl 27 _ hz0.out s27.out ss.out (arrOf_one _ _ _) ?_)
        | (refine bodyPost_ret (results_cell_row Try.results28 _ _ w.heap.size 27 _ (0, 0) _ rfl (setRow_heap _ _ _ _ _ _ hz0.out) Try.underlying27 rfl s27.out) rfl ⟨rfl, below_setRow' HB.out (Nat.le_refl _) _⟩))
end Go.Proofs.Ytnpacjdgbmldlaa
