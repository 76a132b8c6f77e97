/- The law TallyCounts of layer 5, walked. -/
import Derived.Test.YtbjndjmbbephbaaT16
namespace Go.Proofs.Ytbjndjmbbephbaa
open Go.RowKit
theorem exec_eql38 {ev : Operand → Value} {o : Oper} {w : World} (x y : Operand) (ho : o.op = .binOp .eql 38 x y 38) {a b : Nat} (hx : ev x = tallyV a b) (hy : ev y = tallyV a b) : (execOp ev o).run Try.prog w = .ok (.value (.bool true)) w := by
  unfold execOp
  simp only [ho, hx, hy]
  have h : (Op.equalIn 10000 38 (tallyV a b) (tallyV a b)).run Try.prog w = .ok true w := by go_simp
  simp [eqGuard, Sem.run_bind, run_eql_struct, h, Result.andThen]
/-- Two boxed counters, and two that were counted. -/
structure C4 (w : World) (f g : Nat → Nat) (b9 b11 : Nat) (d : Nat → Nat) (x : World) : Prop where
  a : x.heap[w.heap.size]? = some (.cells (arrOf .u64 16 f) 26 (0, 0))
  b : x.heap[w.heap.size + 1]? = some (.cells (arrOf .u64 16 g) 26 (0, 0))
  p : x.heap[b9]? = some (.cells (arrOf .u64 16 d) 26 (0, 0))
  q : x.heap[b11]? = some (.cells (arrOf .u64 16 d) 30 (0, 0))
  below : Below w.heap.size w x
theorem C4.then_ {w x y : World} {f g d : Nat → Nat} {b9 b11 : Nat} (hb : Below x.heap.size x y) (I : C4 w f g b9 b11 d x) : C4 w f g b9 b11 d y :=
  ⟨(hb.block _ (lt_of_row I.a)).trans I.a, (hb.block _ (lt_of_row I.b)).trans I.b, (hb.block _ (lt_of_row I.p)).trans I.p, (hb.block _ (lt_of_row I.q)).trans I.q, I.below.trans (hb.mono I.below.size)⟩
theorem C4.drew {w x : World} {f g d : Nat → Nat} {b9 b11 : Nat} (I : C4 w f g b9 b11 d x) : C4 w f g b9 b11 d x.drew := ⟨I.a, I.b, I.p, I.q, ⟨I.below.os, I.below.tape, I.below.output, I.below.size, I.below.block⟩⟩

set_option maxRecDepth 100000 in
set_option maxHeartbeats 8000000 in
theorem law_counts (f g : Nat → Nat) (node n : Int) (w : World) (hf : ∀ i, i < 16 → f i < 18446744073709551616) (h1 : -9223372036854775808 ≤ n) (h2 : n ≤ 9223372036854775807) :
    Calls Try.prog 3 #[ctrV f, ctrV g, .int .i64 node, .int .i64 n] w fun e w' => e = .returned (.bool true) ∧ Below w.heap.size w w' := by
  have HI0 := Lib.hid (V2.start w f g)
  have HLa : Hid (_ = _) := HI0.out.a
  have HF := Lib.hid hf
  have H1 := Lib.hid h1
  have H2 := Lib.hid h2
  have s26 : ∀ {f : Nat → Nat}, Hid ((Try.prog.info? 26).map (·.size) = some (arrOf .u64 16 f).size) := fun {f} => by rw [arrOf_size]; exact size26
  have s30 : ∀ {f : Nat → Nat}, Hid ((Try.prog.info? 30).map (·.size) = some (arrOf .u64 16 f).size) := fun {f} => by rw [arrOf_size]; exact size30
  have ss : ∀ {f g : Nat → Nat}, Hid ((arrOf .u64 16 f).size = (arrOf .u64 16 g).size) := fun {f g} => by rw [arrOf_size, arrOf_size]; exact rfl
  clear hf h1 h2
  go_enter Try.func3, Try.ntmps3
  go_wp2_with (refine wpList_load_row rfl 26 _ rfl w.heap.size rfl 26 (arrOf .u64 16 f) (0, 0) _ HLa.out Try.underlying26 rfl s26.out ?_)
  generalize (w.alloc (.cells (arrOf .u64 16 f) 26)).alloc (.cells (arrOf .u64 16 g) 26) = w1 at *
  clear HLa
  refine (tcount_any f node n w1 HF.out H1.out H2.out).mono ?_
  rintro e1 w2 ⟨rfl, hb⟩
  have HI2 := Lib.hid (HI0.out.then_ hb)
  clear hb HI0
  obtain ⟨d, hd⟩ : ∃ d, d = (Tal.cnt f node n).1 := ⟨_, rfl⟩
  obtain ⟨er, her⟩ : ∃ er, er = (Tal.cnt f node n).2 := ⟨_, rfl⟩
  have HCR : Hid (∀ x, Calls Try.prog 8 #[ctrV f, .int .i64 node, .int .i64 n] x fun e w' => e = .returned (.tuple #[ctrV d, .int .i64 er]) ∧ Below x.heap.size x w') := fun x => by
    rw [hd, her]; exact tcountR_any f node n x HF.out H1.out H2.out
  unfold cntV
  rw [← hd, ← her]
  clear hd her
  have hN := Lib.hid (zero_row16 w2 26)
  have HI3 := Lib.hid (HI2.out.then_ (below1 w2 (.cells (arrOf .u64 16 d) 26)))
  have HP3 : Hid ((w2.alloc (.cells (arrOf .u64 16 d) 26)).heap[w2.heap.size]? = some (.cells (arrOf .u64 16 d) 26 (0, 0))) := heap_alloc_new _ _
  have HLa : Hid (_ = _) := HI3.out.a
  go_wp2_with (first
    | (refine wpList_store_row rfl 26 _ _ rfl w2.heap.size (arrOf .u64 16 d) rfl rfl 26 _ hN.out s26.out ss.out (arrOf_one _ _ _) ?_; rw [set_z16])
    | (refine wpList_load_row rfl 26 _ rfl w.heap.size rfl 26 (arrOf .u64 16 f) (0, 0) _ HLa.out Try.underlying26 rfl s26.out ?_))
  generalize w2.alloc (.cells (arrOf .u64 16 d) 26) = w3 at *
  generalize w2.heap.size = b9 at *
  clear hN HLa HI2
  refine (of_any f w3).mono ?_
  rintro e1 w4 ⟨rfl, hb⟩
  have HI4 := Lib.hid (HI3.out.then_ hb)
  have HP4 : Hid (_ = _) := (hb.block _ (lt_of_row HP3.out)).trans HP3.out
  clear hb HI3 HP3
  go_wp2_with fail
  refine (HCR.out w4).mono ?_
  rintro e1 w5 ⟨rfl, hb⟩
  have HI5 := Lib.hid (HI4.out.then_ hb)
  have HP5 : Hid (_ = _) := (hb.block _ (lt_of_row HP4.out)).trans HP4.out
  clear hb HI4 HP4 HCR
  have hN := Lib.hid (zero_row16 w5 30)
  have HI : Hid (C4 w f g b9 w5.heap.size d (w5.alloc (.cells (arrOf .u64 16 d) 30))) := by
    have I := HI5.out.then_ (below1 w5 (.cells (arrOf .u64 16 d) 30))
    exact ⟨I.a, I.b, ((below1 w5 _).block _ (lt_of_row HP5.out)).trans HP5.out, heap_alloc_new _ _, I.below⟩
  go_wp2_with (refine wpList_store_row rfl 30 _ _ rfl w5.heap.size (arrOf .u64 16 d) rfl rfl 30 _ hN.out s30.out ss.out (arrOf_one _ _ _) ?_; rw [set_z16])
  generalize w5.alloc (.cells (arrOf .u64 16 d) 30) = w6 at *
  generalize w5.heap.size = b11 at *
  clear hN HI5 HP5
  refine M2.wp_region_kinds (fun _ x y => Below x.heap.size x y) (fun _ x => C4 w f g b9 b11 d x) (fun x => C4 w f g b9 b11 d x)
    [(0, .val (.bool true) fun _ => True), (2, .val (ctrV d) fun _ => True), (3, .val (ctrV d) fun _ => True), (4, .val (ctrV d) fun _ => True), (13, .val (ctrV f) fun _ => True), (14, .val (ctrV g) fun _ => True), (15, .val (ctrV (cmax f g)) fun _ => True), (16, .val (ctrV (cmax f g)) fun _ => True), (17, .val (ctrV f) fun _ => True), (18, .val (ctrV f) fun _ => True), (19, .val (ctrV g) fun _ => True), (20, .val (ctrV g) fun _ => True), (21, .val (ctrV (cmax f g)) fun _ => True), (25, .val (ctrV f) fun _ => True), (26, .val (tallyV (Tal.sum (list8 f)) (Tal.sum (list8 (half f)))) fun _ => True), (27, .val (tallyV (Tal.sum (list8 f)) (Tal.sum (list8 (half f)))) fun _ => True), (28, .val (ctrV f) fun _ => True), (29, .val (ctrV f) fun _ => True), (30, .val (tallyV (Tal.sum (list8 f)) (Tal.sum (list8 (half f)))) fun _ => True)] (by kernel_rfl) (by kernel_rfl) (fun _ _ _ hb h => C4.then_ hb h) (fun _ _ _ _ _ hb h => C4.then_ hb h) ?_ HI.out.drew (fun _ => HI.out.drew) ?_
  · intro z hz
    simp only [List.mem_cons, List.mem_nil_iff, or_false] at hz
    rcases hz with rfl | rfl | rfl | rfl | rfl | rfl | rfl | rfl | rfl | rfl | rfl | rfl | rfl | rfl | rfl | rfl | rfl | rfl | rfl <;> exact fun _ _ _ _ _ _ => trivial
  refine M2.mono_val rfl rfl (fun x hD hF => ?_) ?_
  · go_simp
    refine (alive_any x).mono ?_
    rintro e y ⟨rfl, hg⟩
    exact ⟨_, rfl, hg, rfl⟩
  apply Exists.intro
  refine ⟨by simp only [Act.put, List.setIfInBounds_toArray, List.set_cons_succ, List.set_cons_zero]; rfl, ?_⟩
  iterate 1
    refine M2.mono_pure rfl rfl ?_
    apply Exists.intro
    refine ⟨fun x => ?_, ?_⟩
    · go_simp
      rfl
    apply Exists.intro
    refine ⟨by simp only [Act.put, List.setIfInBounds_toArray, List.set_cons_succ, List.set_cons_zero]; rfl, ?_⟩
  refine M2.mono_val rfl rfl (fun x hD hF => ?_) ?_
  · have hl := run_loadVar_arr (P := Try.prog) x (b9) 0 26 _ _ (range_all hD.p) Try.underlying26 rfl (by rw [arrOf_size]; exact size26)
    rw [exec_load 26 (.tmp 9) rfl (b9) 0 rfl hl]
    exact ⟨Below.refl _ _, rfl, trivial⟩
  apply Exists.intro
  refine ⟨by simp only [Act.put, List.setIfInBounds_toArray, List.set_cons_succ, List.set_cons_zero]; rfl, ?_⟩
  refine M2.mono_val rfl rfl (fun x hD hF => ?_) ?_
  · go_simp
    refine (of_any d x).mono ?_
    rintro e y ⟨rfl, hg⟩
    exact ⟨_, rfl, hg, rfl⟩
  apply Exists.intro
  refine ⟨by simp only [Act.put, List.setIfInBounds_toArray, List.set_cons_succ, List.set_cons_zero]; rfl, ?_⟩
  refine M2.mono_val rfl rfl (fun x hD hF => ?_) ?_
  · have hl := run_loadVar_arr (P := Try.prog) x (b11) 0 30 _ _ (range_all hD.q) Try.underlying30 rfl (by rw [arrOf_size]; exact size30)
    rw [exec_load 30 (.tmp 11) rfl (b11) 0 rfl hl]
    exact ⟨Below.refl _ _, rfl, trivial⟩
  apply Exists.intro
  refine ⟨by simp only [Act.put, List.setIfInBounds_toArray, List.set_cons_succ, List.set_cons_zero]; rfl, ?_⟩
  refine M2.mono_pure rfl rfl ?_
  refine ⟨.bool true, fun x => ?_, ?_⟩
  · exact exec_eql30 (.tmp 31) (.tmp 32) rfl rfl rfl (sameC_refl _)
  apply Exists.intro
  refine ⟨by simp only [Act.put, List.setIfInBounds_toArray, List.set_cons_succ, List.set_cons_zero]; rfl, ?_⟩
  iterate 7
    refine M2.mono_pure rfl rfl ?_
    apply Exists.intro
    refine ⟨fun x => ?_, ?_⟩
    · go_simp
      rfl
    apply Exists.intro
    refine ⟨by simp only [Act.put, List.setIfInBounds_toArray, List.set_cons_succ, List.set_cons_zero]; rfl, ?_⟩
  refine M2.mono_val rfl rfl (fun x hD hF => ?_) ?_
  · have hl := run_loadVar_arr (P := Try.prog) x (w.heap.size) 0 26 _ _ (range_all hD.a) Try.underlying26 rfl (by rw [arrOf_size]; exact size26)
    rw [exec_load 26 (.tmp 4) rfl (w.heap.size) 0 rfl hl]
    exact ⟨Below.refl _ _, rfl, trivial⟩
  apply Exists.intro
  refine ⟨by simp only [Act.put, List.setIfInBounds_toArray, List.set_cons_succ, List.set_cons_zero]; rfl, ?_⟩
  refine M2.mono_val rfl rfl (fun x hD hF => ?_) ?_
  · have hl := run_loadVar_arr (P := Try.prog) x (w.heap.size + 1) 0 26 _ _ (range_all hD.b) Try.underlying26 rfl (by rw [arrOf_size]; exact size26)
    rw [exec_load 26 (.tmp 5) rfl (w.heap.size + 1) 0 rfl hl]
    exact ⟨Below.refl _ _, rfl, trivial⟩
  apply Exists.intro
  refine ⟨by simp only [Act.put, List.setIfInBounds_toArray, List.set_cons_succ, List.set_cons_zero]; rfl, ?_⟩
  refine M2.mono_val rfl rfl (fun x hD hF => ?_) ?_
  · go_simp
    refine (tjoin_any f g x).mono ?_
    rintro e y ⟨rfl, hg⟩
    exact ⟨_, rfl, hg, rfl⟩
  apply Exists.intro
  refine ⟨by simp only [Act.put, List.setIfInBounds_toArray, List.set_cons_succ, List.set_cons_zero]; rfl, ?_⟩
  refine M2.mono_val rfl rfl (fun x hD hF => ?_) ?_
  · go_simp
    refine (of_any (cmax f g) x).mono ?_
    rintro e y ⟨rfl, hg⟩
    exact ⟨_, rfl, hg, rfl⟩
  apply Exists.intro
  refine ⟨by simp only [Act.put, List.setIfInBounds_toArray, List.set_cons_succ, List.set_cons_zero]; rfl, ?_⟩
  refine M2.mono_val rfl rfl (fun x hD hF => ?_) ?_
  · have hl := run_loadVar_arr (P := Try.prog) x (w.heap.size) 0 26 _ _ (range_all hD.a) Try.underlying26 rfl (by rw [arrOf_size]; exact size26)
    rw [exec_load 26 (.tmp 4) rfl (w.heap.size) 0 rfl hl]
    exact ⟨Below.refl _ _, rfl, trivial⟩
  apply Exists.intro
  refine ⟨by simp only [Act.put, List.setIfInBounds_toArray, List.set_cons_succ, List.set_cons_zero]; rfl, ?_⟩
  refine M2.mono_val rfl rfl (fun x hD hF => ?_) ?_
  · go_simp
    refine (of_any f x).mono ?_
    rintro e y ⟨rfl, hg⟩
    exact ⟨_, rfl, hg, rfl⟩
  apply Exists.intro
  refine ⟨by simp only [Act.put, List.setIfInBounds_toArray, List.set_cons_succ, List.set_cons_zero]; rfl, ?_⟩
  refine M2.mono_val rfl rfl (fun x hD hF => ?_) ?_
  · have hl := run_loadVar_arr (P := Try.prog) x (w.heap.size + 1) 0 26 _ _ (range_all hD.b) Try.underlying26 rfl (by rw [arrOf_size]; exact size26)
    rw [exec_load 26 (.tmp 5) rfl (w.heap.size + 1) 0 rfl hl]
    exact ⟨Below.refl _ _, rfl, trivial⟩
  apply Exists.intro
  refine ⟨by simp only [Act.put, List.setIfInBounds_toArray, List.set_cons_succ, List.set_cons_zero]; rfl, ?_⟩
  refine M2.mono_val rfl rfl (fun x hD hF => ?_) ?_
  · go_simp
    refine (of_any g x).mono ?_
    rintro e y ⟨rfl, hg⟩
    exact ⟨_, rfl, hg, rfl⟩
  apply Exists.intro
  refine ⟨by simp only [Act.put, List.setIfInBounds_toArray, List.set_cons_succ, List.set_cons_zero]; rfl, ?_⟩
  refine M2.mono_val rfl rfl (fun x hD hF => ?_) ?_
  · go_simp
    refine (tjoinR_any f g x).mono ?_
    rintro e y ⟨rfl, hg⟩
    exact ⟨_, rfl, hg, rfl⟩
  apply Exists.intro
  refine ⟨by simp only [Act.put, List.setIfInBounds_toArray, List.set_cons_succ, List.set_cons_zero]; rfl, ?_⟩
  refine M2.mono_pure rfl rfl ?_
  refine ⟨.bool true, fun x => ?_, ?_⟩
  · exact exec_eql30 (.tmp 44) (.tmp 49) rfl rfl rfl (sameC_refl _)
  apply Exists.intro
  refine ⟨by simp only [Act.put, List.setIfInBounds_toArray, List.set_cons_succ, List.set_cons_zero]; rfl, ?_⟩
  iterate 2
    refine M2.mono_pure rfl rfl ?_
    apply Exists.intro
    refine ⟨fun x => ?_, ?_⟩
    · go_simp
      rfl
    apply Exists.intro
    refine ⟨by simp only [Act.put, List.setIfInBounds_toArray, List.set_cons_succ, List.set_cons_zero]; rfl, ?_⟩
  refine M2.mono_val rfl rfl (fun x hD hF => ?_) ?_
  · have hl := run_loadVar_arr (P := Try.prog) x (w.heap.size) 0 26 _ _ (range_all hD.a) Try.underlying26 rfl (by rw [arrOf_size]; exact size26)
    rw [exec_load 26 (.tmp 4) rfl (w.heap.size) 0 rfl hl]
    exact ⟨Below.refl _ _, rfl, trivial⟩
  apply Exists.intro
  refine ⟨by simp only [Act.put, List.setIfInBounds_toArray, List.set_cons_succ, List.set_cons_zero]; rfl, ?_⟩
  refine M2.mono_val rfl rfl (fun x hD hF => ?_) ?_
  · go_simp
    refine (ttotal_any f x).mono ?_
    rintro e y ⟨rfl, hg⟩
    exact ⟨_, rfl, hg, rfl⟩
  apply Exists.intro
  refine ⟨by simp only [Act.put, List.setIfInBounds_toArray, List.set_cons_succ, List.set_cons_zero]; rfl, ?_⟩
  refine M2.mono_val rfl rfl (fun x hD hF => ?_) ?_
  · go_simp
    refine (as_any (Tal.sum (list8 f)) (Tal.sum (list8 (half f))) x).mono ?_
    rintro e y ⟨rfl, hg⟩
    exact ⟨_, rfl, hg, rfl⟩
  apply Exists.intro
  refine ⟨by simp only [Act.put, List.setIfInBounds_toArray, List.set_cons_succ, List.set_cons_zero]; rfl, ?_⟩
  refine M2.mono_val rfl rfl (fun x hD hF => ?_) ?_
  · have hl := run_loadVar_arr (P := Try.prog) x (w.heap.size) 0 26 _ _ (range_all hD.a) Try.underlying26 rfl (by rw [arrOf_size]; exact size26)
    rw [exec_load 26 (.tmp 4) rfl (w.heap.size) 0 rfl hl]
    exact ⟨Below.refl _ _, rfl, trivial⟩
  apply Exists.intro
  refine ⟨by simp only [Act.put, List.setIfInBounds_toArray, List.set_cons_succ, List.set_cons_zero]; rfl, ?_⟩
  refine M2.mono_val rfl rfl (fun x hD hF => ?_) ?_
  · go_simp
    refine (of_any f x).mono ?_
    rintro e y ⟨rfl, hg⟩
    exact ⟨_, rfl, hg, rfl⟩
  apply Exists.intro
  refine ⟨by simp only [Act.put, List.setIfInBounds_toArray, List.set_cons_succ, List.set_cons_zero]; rfl, ?_⟩
  refine M2.mono_val rfl rfl (fun x hD hF => ?_) ?_
  · go_simp
    refine (ttotalR_any f x HF.out).mono ?_
    rintro e y ⟨rfl, hg⟩
    exact ⟨_, rfl, hg, rfl⟩
  apply Exists.intro
  refine ⟨by simp only [Act.put, List.setIfInBounds_toArray, List.set_cons_succ, List.set_cons_zero]; rfl, ?_⟩
  refine M2.mono_pure rfl rfl ?_
  refine ⟨.bool true, fun x => ?_, ?_⟩
  · exact exec_eql38 (.tmp 55) (.tmp 58) rfl rfl rfl
  apply Exists.intro
  refine ⟨by simp only [Act.put, List.setIfInBounds_toArray, List.set_cons_succ, List.set_cons_zero]; rfl, ?_⟩
  iterate 2
    refine M2.mono_pure rfl rfl ?_
    apply Exists.intro
    refine ⟨fun x => ?_, ?_⟩
    · go_simp
      rfl
    apply Exists.intro
    refine ⟨by simp only [Act.put, List.setIfInBounds_toArray, List.set_cons_succ, List.set_cons_zero]; rfl, ?_⟩
  refine M2.mono_nil ?_
  intro x hD hF
  have HB := Lib.hid hD.below
  clear hD hF HI
  go_simp
  go_wp2
  go_ret
  exact ⟨rfl, HB.out⟩
end Go.Proofs.Ytbjndjmbbephbaa
