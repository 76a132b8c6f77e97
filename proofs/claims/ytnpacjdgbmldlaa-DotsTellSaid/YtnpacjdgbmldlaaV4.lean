/- Has of vec and of the reference. -/
import Derived.Test.YtnpacjdgbmldlaaV3
import Derived.Test.YtnpacjdgbmldlaaMonb
namespace Go.Proofs.Ytnpacjdgbmldlaa
open Go.RowKit

/-- A boxed vector and a boxed dot. -/
structure HInv (w : World) (t : TypeId) (f : Nat → Nat) (n : Int) (k : Nat) (wr : World) : Prop where
  a : wr.rowIs w.heap.size 27 8 (fun i => .int .u64 ((f i : Nat) : Int))
  d : DotAt wr (w.heap.size + 1) t n k
  below : Below w.heap.size w wr
theorem HInv.start (w : World) (t : TypeId) (f : Nat → Nat) (n : Int) (k : Nat) : HInv w t f n k ((w.alloc (.cells (arrOf .u64 8 f) 27)).alloc (.cells #[.int .i64 n, .int .u64 (k : Int)] t)) := by
  refine ⟨(vec_row w f).alloc _, ?_, below2 _ _ _⟩
  have h := DotAt.new (w.alloc (.cells (arrOf .u64 8 f) 27)) t n k
  simpa using h
theorem HInv.then_ {w w1 w2 : World} {t : TypeId} {f : Nat → Nat} {n : Int} {k : Nat} (hb : Below w1.heap.size w1 w2) (h : HInv w t f n k w1) : HInv w t f n k w2 :=
  ⟨row_below h.a hb h.a.lt, h.d.below hb h.d.lt, h.below.trans (hb.mono h.below.size)⟩
theorem HInv.drew {w wr : World} {t : TypeId} {f : Nat → Nat} {n : Int} {k : Nat} (I : HInv w t f n k wr) : HInv w t f n k wr.drew := ⟨I.a, I.d, ⟨I.below.os, I.below.tape, I.below.output, I.below.size, I.below.block⟩⟩
theorem row_range {w : World} {b : Nat} {t : TypeId} {n : Nat} {k : IntKind} {f : Nat → Nat} (h : w.rowIs b t n (fun i => .int k ((f i : Nat) : Int))) : rangeA w b 0 (arrOf k n f) := rangeA_arr fun j hj => by rw [Nat.zero_add]; exact h.cell hj
theorem DotAt.range {w : World} {b : Nat} {t : TypeId} {n : Int} {k : Nat} (h : DotAt w b t n k) : rangeA w b 0 #[.int .i64 n, .int .u64 (k : Int)] := fun j v hv => by
  match j, hv with
  | 0, hv => injection hv with hv; subst hv; exact h.node
  | 1, hv => injection hv with hv; subst hv; exact h.num
  | j + 2, hv => simp at hv
theorem exec_load {P : Program} {ev : Operand → Value} {o : Oper} {w w' : World} {v : Value} (ty : TypeId) (x : Operand) (ho : o.op = .load ty x) (b off : Nat) (hx : ev x = .pointer (some ⟨b, off, none⟩))
    (hl : (loadVar ty ⟨b, off, none⟩).run P w = .ok v w') : (execOp ev o).run P w = .ok (.value v) w' := by
  unfold execOp
  simp only [ho, hx, Instr.loadAt, Instr.sureAddr, Sem.run_bind, Sem.run_pure, Result.andThen_ok, hl]

set_option maxHeartbeats 1000000 in
theorem has_any (f : Nat → Nat) (n : Int) (k : Nat) (w : World) : Calls Try.prog 41 #[vecV f, dotV n k] w fun e w' => e = .returned (.bool (Vec.has f n k)) ∧ Below w.heap.size w w' := by
  have HI0 := Lib.hid (HInv.start w 25 f n k)
  go_enter Try.func41, Try.ntmps41
  go_wp2_with fail
  generalize (w.alloc (.cells (arrOf .u64 8 f) 27)).alloc (.cells #[.int .i64 n, .int .u64 (k : Int)] 25) = w1 at *
  by_cases hr : Vec.right n k = true
  · refine M2.wp_region_kinds (fun _ x y => Below x.heap.size x y) (fun _ x => HInv w 25 f n k x) (fun x => HInv w 25 f n k x)
      [(0, .val (dotV n k) fun _ => True), (1, .val (.bool true) fun _ => True), (3, .val (vecV f) fun _ => True), (5, .val (.int .i64 n) fun _ => True), (6, .val (.int .u64 ((Vec.get f n : Nat) : Int)) fun _ => True), (8, .val (.int .u64 (k : Int)) fun _ => True)] (by kernel_rfl) (by kernel_rfl) (fun _ _ _ hb h => HInv.then_ hb h) (fun _ _ _ _ _ hb h => HInv.then_ hb h) ?_ HI0.out.drew (fun _ => HI0.out.drew) ?_
    · intro z hz
      simp only [List.mem_cons, List.mem_nil_iff, or_false] at hz
      rcases hz with rfl | rfl | rfl | rfl | rfl | rfl <;> exact fun _ _ _ _ _ _ => trivial
    refine M2.mono_val rfl rfl (fun x hD hF => ?_) ?_
    · have hl := run_loadVar_arr (P := Try.prog) x (w.heap.size + 1) 0 25 #[.int .i64 n, .int .u64 (k : Int)] _ hD.d.range Try.underlying25 rfl size25
      rw [exec_load 25 (.tmp 3) rfl (w.heap.size + 1) 0 rfl hl]
      exact ⟨Below.refl _ _, rfl, trivial⟩
    apply Exists.intro
    refine ⟨by simp only [Act.put, List.setIfInBounds_toArray, List.set_cons_succ, List.set_cons_zero]; rfl, ?_⟩
    refine M2.mono_val rfl rfl (fun x hD hF => ?_) ?_
    · go_simp
      refine (right_any n k x).mono ?_
      rintro e y ⟨rfl, hg⟩
      exact ⟨_, rfl, hg, by rw [hr]⟩
    apply Exists.intro
    refine ⟨by simp only [Act.put, List.setIfInBounds_toArray, List.set_cons_succ, List.set_cons_zero]; rfl, ?_⟩
    iterate 1
      refine M2.mono_pure rfl rfl ?_
      apply Exists.intro
      refine ⟨fun x => ?_, ?_⟩
      · go_simp
        rfl
      apply Exists.intro
      refine ⟨by simp only [Act.put, List.setIfInBounds_toArray, List.set_cons_succ, List.set_cons_zero]; rfl, ?_⟩
    refine M2.mono_val rfl rfl (fun x hD hF => ?_) ?_
    · have hl := run_loadVar_arr (P := Try.prog) x w.heap.size 0 27 (arrOf .u64 8 f) _ (row_range hD.a) Try.underlying27 rfl (by rw [arrOf_size]; exact size27)
      rw [exec_load 27 (.tmp 2) rfl w.heap.size 0 rfl hl]
      exact ⟨Below.refl _ _, rfl, trivial⟩
    apply Exists.intro
    refine ⟨by simp only [Act.put, List.setIfInBounds_toArray, List.set_cons_succ, List.set_cons_zero]; rfl, ?_⟩
    iterate 1
      refine M2.mono_pure rfl rfl ?_
      apply Exists.intro
      refine ⟨fun x => ?_, ?_⟩
      · go_simp
        rfl
      apply Exists.intro
      refine ⟨by simp only [Act.put, List.setIfInBounds_toArray, List.set_cons_succ, List.set_cons_zero]; rfl, ?_⟩
    refine M2.mono_val rfl rfl (fun x hD hF => ?_) ?_
    · have hc := hD.d.node
      go_simp
      exact ⟨Below.refl _ _, rfl⟩
    apply Exists.intro
    refine ⟨by simp only [Act.put, List.setIfInBounds_toArray, List.set_cons_succ, List.set_cons_zero]; rfl, ?_⟩
    refine M2.mono_val rfl rfl (fun x hD hF => ?_) ?_
    · go_simp
      refine (get_any f n x).mono ?_
      rintro e y ⟨rfl, hg⟩
      exact ⟨_, rfl, hg, rfl⟩
    apply Exists.intro
    refine ⟨by simp only [Act.put, List.setIfInBounds_toArray, List.set_cons_succ, List.set_cons_zero]; rfl, ?_⟩
    iterate 1
      refine M2.mono_pure rfl rfl ?_
      apply Exists.intro
      refine ⟨fun x => ?_, ?_⟩
      · go_simp
        rfl
      apply Exists.intro
      refine ⟨by simp only [Act.put, List.setIfInBounds_toArray, List.set_cons_succ, List.set_cons_zero]; rfl, ?_⟩
    refine M2.mono_val rfl rfl (fun x hD hF => ?_) ?_
    · have hc := hD.d.num
      go_simp
      exact ⟨Below.refl _ _, rfl⟩
    apply Exists.intro
    refine ⟨by simp only [Act.put, List.setIfInBounds_toArray, List.set_cons_succ, List.set_cons_zero]; rfl, ?_⟩
    iterate 3
      refine M2.mono_pure rfl rfl ?_
      apply Exists.intro
      refine ⟨fun x => ?_, ?_⟩
      · go_simp
        rfl
      apply Exists.intro
      refine ⟨by simp only [Act.put, List.setIfInBounds_toArray, List.set_cons_succ, List.set_cons_zero]; rfl, ?_⟩
    refine M2.mono_nil ?_
    intro w3 hD hF
    have HB := Lib.hid hD.below
    clear hD hF
    go_simp
    go_wp2_with fail
    go_ret
    refine ⟨ret_bool ?_, HB.out⟩
    simp only [Vec.has, hr, Bool.true_and]
  · have hr' : Vec.right n k = false := by simpa using hr
    refine M2.wp_region_kinds (fun _ x y => Below x.heap.size x y) (fun _ x => HInv w 25 f n k x) (fun x => HInv w 25 f n k x)
      [(0, .val (dotV n k) fun _ => True), (1, .val (.bool false) fun _ => True)] (by kernel_rfl) (by kernel_rfl) (fun _ _ _ hb h => HInv.then_ hb h) (fun _ _ _ _ _ hb h => HInv.then_ hb h) ?_ HI0.out.drew (fun _ => HI0.out.drew) ?_
    · intro z hz
      simp only [List.mem_cons, List.mem_nil_iff, or_false] at hz
      rcases hz with rfl | rfl <;> exact fun _ _ _ _ _ _ => trivial
    refine M2.mono_val rfl rfl (fun x hD hF => ?_) ?_
    · have hl := run_loadVar_arr (P := Try.prog) x (w.heap.size + 1) 0 25 #[.int .i64 n, .int .u64 (k : Int)] _ hD.d.range Try.underlying25 rfl size25
      rw [exec_load 25 (.tmp 3) rfl (w.heap.size + 1) 0 rfl hl]
      exact ⟨Below.refl _ _, rfl, trivial⟩
    apply Exists.intro
    refine ⟨by simp only [Act.put, List.setIfInBounds_toArray, List.set_cons_succ, List.set_cons_zero]; rfl, ?_⟩
    refine M2.mono_val rfl rfl (fun x hD hF => ?_) ?_
    · go_simp
      refine (right_any n k x).mono ?_
      rintro e y ⟨rfl, hg⟩
      exact ⟨_, rfl, hg, by rw [hr']⟩
    apply Exists.intro
    refine ⟨by simp only [Act.put, List.setIfInBounds_toArray, List.set_cons_succ, List.set_cons_zero]; rfl, ?_⟩
    iterate 1
      refine M2.mono_pure rfl rfl ?_
      apply Exists.intro
      refine ⟨fun x => ?_, ?_⟩
      · go_simp
        rfl
      apply Exists.intro
      refine ⟨by simp only [Act.put, List.setIfInBounds_toArray, List.set_cons_succ, List.set_cons_zero]; rfl, ?_⟩
    refine M2.mono_skip rfl ?_
    apply Exists.intro
    refine ⟨by simp only [Act.put, List.setIfInBounds_toArray, List.set_cons_succ, List.set_cons_zero]; rfl, ?_⟩
    refine M2.mono_skip rfl ?_
    apply Exists.intro
    refine ⟨by simp only [Act.put, List.setIfInBounds_toArray, List.set_cons_succ, List.set_cons_zero]; rfl, ?_⟩
    refine M2.mono_skip rfl ?_
    apply Exists.intro
    refine ⟨by simp only [Act.put, List.setIfInBounds_toArray, List.set_cons_succ, List.set_cons_zero]; rfl, ?_⟩
    refine M2.mono_skip rfl ?_
    apply Exists.intro
    refine ⟨by simp only [Act.put, List.setIfInBounds_toArray, List.set_cons_succ, List.set_cons_zero]; rfl, ?_⟩
    refine M2.mono_skip rfl ?_
    apply Exists.intro
    refine ⟨by simp only [Act.put, List.setIfInBounds_toArray, List.set_cons_succ, List.set_cons_zero]; rfl, ?_⟩
    refine M2.mono_skip rfl ?_
    apply Exists.intro
    refine ⟨by simp only [Act.put, List.setIfInBounds_toArray, List.set_cons_succ, List.set_cons_zero]; rfl, ?_⟩
    refine M2.mono_skip rfl ?_
    apply Exists.intro
    refine ⟨by simp only [Act.put, List.setIfInBounds_toArray, List.set_cons_succ, List.set_cons_zero]; rfl, ?_⟩
    iterate 2
      refine M2.mono_pure rfl rfl ?_
      apply Exists.intro
      refine ⟨fun x => ?_, ?_⟩
      · go_simp
        rfl
      apply Exists.intro
      refine ⟨by simp only [Act.put, List.setIfInBounds_toArray, List.set_cons_succ, List.set_cons_zero]; rfl, ?_⟩
    refine M2.mono_nil ?_
    intro w3 hD hF
    have HB := Lib.hid hD.below
    clear hD hF
    go_simp
    go_wp2_with fail
    go_ret
    refine ⟨ret_bool ?_, HB.out⟩
    simp only [Vec.has, hr', Bool.false_and]

set_option maxHeartbeats 1000000 in
theorem hasR_any (f : Nat → Nat) (n : Int) (k : Nat) (w : World) : Calls Try.prog 79 #[vecV f, dotV n k] w fun e w' => e = .returned (.bool (Vec.has f n k)) ∧ Below w.heap.size w w' := by
  have HI0 := Lib.hid (HInv.start w 35 f n k)
  go_enter Try.func79, Try.ntmps79
  go_wp2_with fail
  generalize (w.alloc (.cells (arrOf .u64 8 f) 27)).alloc (.cells #[.int .i64 n, .int .u64 (k : Int)] 35) = w1 at *
  by_cases hr : Vec.right n k = true
  · refine M2.wp_region_kinds (fun _ x y => Below x.heap.size x y) (fun _ x => HInv w 35 f n k x) (fun x => HInv w 35 f n k x)
      [(0, .val (dotV n k) fun _ => True), (1, .val (.bool true) fun _ => True), (4, .val (.int .u64 (k : Int)) fun _ => True), (5, .val (vecV f) fun _ => True), (7, .val (.int .i64 n) fun _ => True), (8, .val (.int .u64 ((Vec.get f n : Nat) : Int)) fun _ => True)] (by kernel_rfl) (by kernel_rfl) (fun _ _ _ hb h => HInv.then_ hb h) (fun _ _ _ _ _ hb h => HInv.then_ hb h) ?_ HI0.out.drew (fun _ => HI0.out.drew) ?_
    · intro z hz
      simp only [List.mem_cons, List.mem_nil_iff, or_false] at hz
      rcases hz with rfl | rfl | rfl | rfl | rfl | rfl <;> exact fun _ _ _ _ _ _ => trivial
    refine M2.mono_val rfl rfl (fun x hD hF => ?_) ?_
    · have hl := run_loadVar_arr (P := Try.prog) x (w.heap.size + 1) 0 35 #[.int .i64 n, .int .u64 (k : Int)] _ hD.d.range Try.underlying35 rfl size35
      rw [exec_load 35 (.tmp 3) rfl (w.heap.size + 1) 0 rfl hl]
      exact ⟨Below.refl _ _, rfl, trivial⟩
    apply Exists.intro
    refine ⟨by simp only [Act.put, List.setIfInBounds_toArray, List.set_cons_succ, List.set_cons_zero]; rfl, ?_⟩
    refine M2.mono_val rfl rfl (fun x hD hF => ?_) ?_
    · go_simp
      refine (rightR_any n k x).mono ?_
      rintro e y ⟨rfl, hg⟩
      exact ⟨_, rfl, hg, by rw [hr]⟩
    apply Exists.intro
    refine ⟨by simp only [Act.put, List.setIfInBounds_toArray, List.set_cons_succ, List.set_cons_zero]; rfl, ?_⟩
    iterate 2
      refine M2.mono_pure rfl rfl ?_
      apply Exists.intro
      refine ⟨fun x => ?_, ?_⟩
      · go_simp
        rfl
      apply Exists.intro
      refine ⟨by simp only [Act.put, List.setIfInBounds_toArray, List.set_cons_succ, List.set_cons_zero]; rfl, ?_⟩
    refine M2.mono_val rfl rfl (fun x hD hF => ?_) ?_
    · have hc := hD.d.num
      go_simp
      exact ⟨Below.refl _ _, rfl⟩
    apply Exists.intro
    refine ⟨by simp only [Act.put, List.setIfInBounds_toArray, List.set_cons_succ, List.set_cons_zero]; rfl, ?_⟩
    refine M2.mono_val rfl rfl (fun x hD hF => ?_) ?_
    · have hl := run_loadVar_arr (P := Try.prog) x w.heap.size 0 27 (arrOf .u64 8 f) _ (row_range hD.a) Try.underlying27 rfl (by rw [arrOf_size]; exact size27)
      rw [exec_load 27 (.tmp 2) rfl w.heap.size 0 rfl hl]
      exact ⟨Below.refl _ _, rfl, trivial⟩
    apply Exists.intro
    refine ⟨by simp only [Act.put, List.setIfInBounds_toArray, List.set_cons_succ, List.set_cons_zero]; rfl, ?_⟩
    iterate 1
      refine M2.mono_pure rfl rfl ?_
      apply Exists.intro
      refine ⟨fun x => ?_, ?_⟩
      · go_simp
        rfl
      apply Exists.intro
      refine ⟨by simp only [Act.put, List.setIfInBounds_toArray, List.set_cons_succ, List.set_cons_zero]; rfl, ?_⟩
    refine M2.mono_val rfl rfl (fun x hD hF => ?_) ?_
    · have hc := hD.d.node
      go_simp
      exact ⟨Below.refl _ _, rfl⟩
    apply Exists.intro
    refine ⟨by simp only [Act.put, List.setIfInBounds_toArray, List.set_cons_succ, List.set_cons_zero]; rfl, ?_⟩
    refine M2.mono_val rfl rfl (fun x hD hF => ?_) ?_
    · go_simp
      refine (getR_any f n x).mono ?_
      rintro e y ⟨rfl, hg⟩
      exact ⟨_, rfl, hg, rfl⟩
    apply Exists.intro
    refine ⟨by simp only [Act.put, List.setIfInBounds_toArray, List.set_cons_succ, List.set_cons_zero]; rfl, ?_⟩
    iterate 3
      refine M2.mono_pure rfl rfl ?_
      apply Exists.intro
      refine ⟨fun x => ?_, ?_⟩
      · go_simp
        rfl
      apply Exists.intro
      refine ⟨by simp only [Act.put, List.setIfInBounds_toArray, List.set_cons_succ, List.set_cons_zero]; rfl, ?_⟩
    refine M2.mono_nil ?_
    intro w3 hD hF
    have HB := Lib.hid hD.below
    clear hD hF
    go_simp
    go_wp2_with fail
    go_ret
    refine ⟨ret_bool ?_, HB.out⟩
    simp only [Vec.has, hr, Bool.true_and]
  · have hr' : Vec.right n k = false := by simpa using hr
    refine M2.wp_region_kinds (fun _ x y => Below x.heap.size x y) (fun _ x => HInv w 35 f n k x) (fun x => HInv w 35 f n k x)
      [(0, .val (dotV n k) fun _ => True), (1, .val (.bool false) fun _ => True)] (by kernel_rfl) (by kernel_rfl) (fun _ _ _ hb h => HInv.then_ hb h) (fun _ _ _ _ _ hb h => HInv.then_ hb h) ?_ HI0.out.drew (fun _ => HI0.out.drew) ?_
    · intro z hz
      simp only [List.mem_cons, List.mem_nil_iff, or_false] at hz
      rcases hz with rfl | rfl <;> exact fun _ _ _ _ _ _ => trivial
    refine M2.mono_val rfl rfl (fun x hD hF => ?_) ?_
    · have hl := run_loadVar_arr (P := Try.prog) x (w.heap.size + 1) 0 35 #[.int .i64 n, .int .u64 (k : Int)] _ hD.d.range Try.underlying35 rfl size35
      rw [exec_load 35 (.tmp 3) rfl (w.heap.size + 1) 0 rfl hl]
      exact ⟨Below.refl _ _, rfl, trivial⟩
    apply Exists.intro
    refine ⟨by simp only [Act.put, List.setIfInBounds_toArray, List.set_cons_succ, List.set_cons_zero]; rfl, ?_⟩
    refine M2.mono_val rfl rfl (fun x hD hF => ?_) ?_
    · go_simp
      refine (rightR_any n k x).mono ?_
      rintro e y ⟨rfl, hg⟩
      exact ⟨_, rfl, hg, by rw [hr']⟩
    apply Exists.intro
    refine ⟨by simp only [Act.put, List.setIfInBounds_toArray, List.set_cons_succ, List.set_cons_zero]; rfl, ?_⟩
    iterate 1
      refine M2.mono_pure rfl rfl ?_
      apply Exists.intro
      refine ⟨fun x => ?_, ?_⟩
      · go_simp
        rfl
      apply Exists.intro
      refine ⟨by simp only [Act.put, List.setIfInBounds_toArray, List.set_cons_succ, List.set_cons_zero]; rfl, ?_⟩
    refine M2.mono_skip rfl ?_
    apply Exists.intro
    refine ⟨by simp only [Act.put, List.setIfInBounds_toArray, List.set_cons_succ, List.set_cons_zero]; rfl, ?_⟩
    refine M2.mono_skip rfl ?_
    apply Exists.intro
    refine ⟨by simp only [Act.put, List.setIfInBounds_toArray, List.set_cons_succ, List.set_cons_zero]; rfl, ?_⟩
    refine M2.mono_skip rfl ?_
    apply Exists.intro
    refine ⟨by simp only [Act.put, List.setIfInBounds_toArray, List.set_cons_succ, List.set_cons_zero]; rfl, ?_⟩
    refine M2.mono_skip rfl ?_
    apply Exists.intro
    refine ⟨by simp only [Act.put, List.setIfInBounds_toArray, List.set_cons_succ, List.set_cons_zero]; rfl, ?_⟩
    refine M2.mono_skip rfl ?_
    apply Exists.intro
    refine ⟨by simp only [Act.put, List.setIfInBounds_toArray, List.set_cons_succ, List.set_cons_zero]; rfl, ?_⟩
    refine M2.mono_skip rfl ?_
    apply Exists.intro
    refine ⟨by simp only [Act.put, List.setIfInBounds_toArray, List.set_cons_succ, List.set_cons_zero]; rfl, ?_⟩
    refine M2.mono_skip rfl ?_
    apply Exists.intro
    refine ⟨by simp only [Act.put, List.setIfInBounds_toArray, List.set_cons_succ, List.set_cons_zero]; rfl, ?_⟩
    iterate 2
      refine M2.mono_pure rfl rfl ?_
      apply Exists.intro
      refine ⟨fun x => ?_, ?_⟩
      · go_simp
        rfl
      apply Exists.intro
      refine ⟨by simp only [Act.put, List.setIfInBounds_toArray, List.set_cons_succ, List.set_cons_zero]; rfl, ?_⟩
    refine M2.mono_nil ?_
    intro w3 hD hF
    have HB := Lib.hid hD.below
    clear hD hF
    go_simp
    go_wp2_with fail
    go_ret
    refine ⟨ret_bool ?_, HB.out⟩
    simp only [Vec.has, hr', Bool.false_and]
end Go.Proofs.Ytnpacjdgbmldlaa
