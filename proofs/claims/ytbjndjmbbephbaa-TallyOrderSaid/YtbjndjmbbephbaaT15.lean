/- The law TallyJoins of layer 5, walked. -/
import Derived.Test.YtbjndjmbbephbaaT14
import Derived.Deep.Cut
namespace Go.Proofs.Ytbjndjmbbephbaa
open Go.RowKit

theorem range_all {x : World} {b : Nat} {t : TypeId} {n : Nat} {h : Nat → Nat} (hr : x.heap[b]? = some (.cells (arrOf .u64 n h) t (0, 0))) : rangeA x b 0 (arrOf .u64 n h) :=
  rangeA_arr fun j hj => by rw [cell_of_row _ _ _ _ _ _ hr, Nat.zero_add, arrOf_get _ _ hj]
/-- Three boxed counters, and one more. -/
structure J4 (w : World) (f g h : Nat → Nat) (b : Nat) (k : Nat → Nat) (x : World) : Prop where
  a : x.heap[w.heap.size]? = some (.cells (arrOf .u64 16 f) 26 (0, 0))
  b_ : x.heap[w.heap.size + 1]? = some (.cells (arrOf .u64 16 g) 26 (0, 0))
  c : x.heap[w.heap.size + 1 + 1]? = some (.cells (arrOf .u64 16 h) 26 (0, 0))
  d : x.heap[b]? = some (.cells (arrOf .u64 16 k) 26 (0, 0))
  below : Below w.heap.size w x
theorem J4.then_ {w x y : World} {f g h k : Nat → Nat} {b : Nat} (hb : Below x.heap.size x y) (I : J4 w f g h b k x) : J4 w f g h b k y :=
  ⟨(hb.block _ (lt_of_row I.a)).trans I.a, (hb.block _ (lt_of_row I.b_)).trans I.b_, (hb.block _ (lt_of_row I.c)).trans I.c, (hb.block _ (lt_of_row I.d)).trans I.d, I.below.trans (hb.mono I.below.size)⟩
theorem J4.drew {w x : World} {f g h k : Nat → Nat} {b : Nat} (I : J4 w f g h b k x) : J4 w f g h b k x.drew := ⟨I.a, I.b_, I.c, I.d, ⟨I.below.os, I.below.tape, I.below.output, I.below.size, I.below.block⟩⟩
theorem J4.start (w : World) (f g h : Nat → Nat) : J4 w f g h w.heap.size f (((w.alloc (.cells (arrOf .u64 16 f) 26)).alloc (.cells (arrOf .u64 16 g) 26)).alloc (.cells (arrOf .u64 16 h) 26)) := by
  have I := Two.start w (arrOf .u64 16 f) (arrOf .u64 16 g) (arrOf .u64 16 h) 26 26 26 16 (arrOf_size _ _ _)
  have h3 : (((w.alloc (.cells (arrOf .u64 16 f) 26)).alloc (.cells (arrOf .u64 16 g) 26)).alloc (.cells (arrOf .u64 16 h) 26)).heap[w.heap.size + 1 + 1]? = some (.cells (arrOf .u64 16 h) 26 (0, 0)) := by simpa using heap_alloc_new ((w.alloc (.cells (arrOf .u64 16 f) 26)).alloc (.cells (arrOf .u64 16 g) 26)) (.cells (arrOf .u64 16 h) 26)
  exact ⟨I.a, I.b, h3, I.a, I.below⟩
theorem J4.new {w x : World} {f g h k : Nat → Nat} {b : Nat} (I : J4 w f g h b k x) (m : Nat → Nat) : J4 w f g h x.heap.size m (x.alloc (.cells (arrOf .u64 16 m) 26)) := by
  have I2 := I.then_ (below1 x (.cells (arrOf .u64 16 m) 26))
  exact ⟨I2.a, I2.b_, I2.c, heap_alloc_new _ _, I2.below⟩
theorem join_ab_ba (f g : Nat → Nat) : sameC (cmax f g) (cmax g f) = true := sameC_of fun i _ => by unfold cmax; omega
theorem join_ja (f g : Nat → Nat) : sameC (cmax (cmax f g) f) (cmax f g) = true := sameC_of fun i _ => by unfold cmax; omega
theorem join_assoc (f g h : Nat → Nat) : sameC (cmax (cmax f g) h) (cmax f (cmax g h)) = true := sameC_of fun i _ => by unfold cmax; omega
theorem join_aa (f : Nat → Nat) : sameC (cmax f f) f = true := sameC_of fun i _ => by unfold cmax; omega
namespace Tal
theorem cnt_cases (h : Nat → Nat) (node n : Int) : (∃ z, cnt h node n = (z, 11)) ∨ (∃ z, cnt h node n = (z, 13)) ∨ ∃ d, cnt h node n = (d, 0) ∧ ∀ i, h i ≤ d i := by
  unfold cnt
  split
  · split
    · exact .inr (.inl ⟨_, rfl⟩)
    · refine .inr (.inr ⟨_, rfl, fun i => ?_⟩)
      unfold plusAt
      split <;> split <;> omega
  · exact .inl ⟨_, rfl⟩
end Tal
theorem join_up {h d : Nat → Nat} (e : ∀ i, h i ≤ d i) : sameC (cmax h d) d = true := sameC_of fun i _ => by have := e i; unfold cmax; omega

set_option maxRecDepth 100000 in
set_option maxHeartbeats 8000000 in
theorem law_joins (f g h : Nat → Nat) (node n : Int) (w : World) (hf : ∀ i, i < 16 → f i < 18446744073709551616) (h1 : -9223372036854775808 ≤ n) (h2 : n ≤ 9223372036854775807) :
    Calls Try.prog 5 #[ctrV f, ctrV g, ctrV h, .int .i64 node, .int .i64 n] w fun e w' => e = .returned (.bool true) ∧ Below w.heap.size w w' := by
  have HI0 := J4.start w f g h
  have HLa := Lib.hid HI0.a
  have HLb := Lib.hid HI0.b_
  have HS := Lib.hid HI0
  have HF := Lib.hid hf
  have H1 := Lib.hid h1
  have H2 := Lib.hid h2
  have s26 : ∀ {f : Nat → Nat}, Hid ((Try.prog.info? 26).map (·.size) = some (arrOf .u64 16 f).size) := fun {f} => by rw [arrOf_size]; exact size26
  have ss : ∀ {f g : Nat → Nat}, Hid ((arrOf .u64 16 f).size = (arrOf .u64 16 g).size) := fun {f g} => by rw [arrOf_size, arrOf_size]; exact rfl
  clear HI0 hf h1 h2
  go_enter Try.func5, Try.ntmps5
  go_wp2_with (first
    | (refine wpList_load_row rfl 26 _ rfl w.heap.size rfl 26 (arrOf .u64 16 f) (0, 0) _ HLa.out Try.underlying26 rfl s26.out ?_)
    | (refine wpList_load_row rfl 26 _ rfl (w.heap.size + 1) rfl 26 (arrOf .u64 16 g) (0, 0) _ HLb.out Try.underlying26 rfl s26.out ?_))
  generalize ((w.alloc (.cells (arrOf .u64 16 f) 26)).alloc (.cells (arrOf .u64 16 g) 26)).alloc (.cells (arrOf .u64 16 h) 26) = w1 at *
  clear HLa HLb
  refine (tjoin_any f g w1).mono ?_
  rintro e w2 ⟨rfl, hb⟩
  have HI1 := Lib.hid ((HS.out.then_ hb).new (cmax f g))
  have hN := Lib.hid (zero_row16 w2 26)
  clear hb HS
  go_wp2_with (refine wpList_store_row rfl 26 _ _ rfl w2.heap.size (arrOf .u64 16 (cmax f g)) rfl rfl 26 _ hN.out s26.out ss.out (arrOf_one _ _ _) ?_; rw [set_z16])
  generalize w2.alloc (.cells (arrOf .u64 16 (cmax f g)) 26) = wj at *
  generalize w2.heap.size = b at *
  clear hN
  refine M2.wp_region_kinds (fun _ x y => Below x.heap.size x y) (fun _ x => J4 w f g h b (cmax f g) x) (fun x => J4 w f g h b (cmax f g) x)
    [(0, .val (ctrV (cmax f g)) fun _ => True), (1, .val (ctrV g) fun _ => True), (2, .val (ctrV f) fun _ => True), (3, .val (ctrV (cmax g f)) fun _ => True), (6, .val (ctrV (cmax f g)) fun _ => True), (7, .val (ctrV f) fun _ => True), (8, .val (ctrV (cmax (cmax f g) f)) fun _ => True), (9, .val (ctrV (cmax f g)) fun _ => True), (13, .val (ctrV f) fun _ => True), (14, .val (ctrV g) fun _ => True), (15, .val (ctrV (cmax f g)) fun _ => True), (16, .val (ctrV h) fun _ => True), (17, .val (ctrV (cmax (cmax f g) h)) fun _ => True), (18, .val (ctrV f) fun _ => True), (19, .val (ctrV g) fun _ => True), (20, .val (ctrV h) fun _ => True), (21, .val (ctrV (cmax g h)) fun _ => True), (22, .val (ctrV (cmax f (cmax g h))) fun _ => True), (26, .val (ctrV f) fun _ => True), (27, .val (ctrV f) fun _ => True), (28, .val (ctrV (cmax f f)) fun _ => True), (29, .val (ctrV f) fun _ => True)] (by kernel_rfl) (by kernel_rfl) (fun _ _ _ hb h => J4.then_ hb h) (fun _ _ _ _ _ hb h => J4.then_ hb h) ?_ HI1.out.drew (fun _ => HI1.out.drew) ?_
  · intro z hz
    simp only [List.mem_cons, List.mem_nil_iff, or_false] at hz
    rcases hz with rfl | rfl | rfl | rfl | rfl | rfl | rfl | rfl | rfl | rfl | rfl | rfl | rfl | rfl | rfl | rfl | rfl | rfl | rfl | rfl | rfl | rfl <;> exact fun _ _ _ _ _ _ => trivial
  refine M2.mono_val rfl rfl (fun x hD hF => ?_) ?_
  · have hl := run_loadVar_arr (P := Try.prog) x (b) 0 26 _ _ (range_all hD.d) Try.underlying26 rfl (by rw [arrOf_size]; exact size26)
    rw [exec_load 26 (.tmp 11) rfl (b) 0 rfl hl]
    exact ⟨Below.refl _ _, rfl, trivial⟩
  apply Exists.intro
  refine ⟨by simp only [Act.put, List.setIfInBounds_toArray, List.set_cons_succ, List.set_cons_zero]; rfl, ?_⟩
  refine M2.mono_val rfl rfl (fun x hD hF => ?_) ?_
  · have hl := run_loadVar_arr (P := Try.prog) x (w.heap.size + 1) 0 26 _ _ (range_all hD.b_) Try.underlying26 rfl (by rw [arrOf_size]; exact size26)
    rw [exec_load 26 (.tmp 6) rfl (w.heap.size + 1) 0 rfl hl]
    exact ⟨Below.refl _ _, rfl, trivial⟩
  apply Exists.intro
  refine ⟨by simp only [Act.put, List.setIfInBounds_toArray, List.set_cons_succ, List.set_cons_zero]; rfl, ?_⟩
  refine M2.mono_val rfl rfl (fun x hD hF => ?_) ?_
  · have hl := run_loadVar_arr (P := Try.prog) x (w.heap.size) 0 26 _ _ (range_all hD.a) Try.underlying26 rfl (by rw [arrOf_size]; exact size26)
    rw [exec_load 26 (.tmp 5) rfl (w.heap.size) 0 rfl hl]
    exact ⟨Below.refl _ _, rfl, trivial⟩
  apply Exists.intro
  refine ⟨by simp only [Act.put, List.setIfInBounds_toArray, List.set_cons_succ, List.set_cons_zero]; rfl, ?_⟩
  refine M2.mono_val rfl rfl (fun x hD hF => ?_) ?_
  · go_simp
    refine (tjoin_any g f x).mono ?_
    rintro e y ⟨rfl, hg⟩
    exact ⟨_, rfl, hg, rfl⟩
  apply Exists.intro
  refine ⟨by simp only [Act.put, List.setIfInBounds_toArray, List.set_cons_succ, List.set_cons_zero]; rfl, ?_⟩
  refine M2.mono_pure rfl rfl ?_
  refine ⟨.bool false, fun x => ?_, ?_⟩
  · exact exec_neq26 (.tmp 17) (.tmp 20) rfl rfl rfl (join_ab_ba _ _)
  apply Exists.intro
  refine ⟨by simp only [Act.put, List.setIfInBounds_toArray, List.set_cons_succ, List.set_cons_zero]; rfl, ?_⟩
  iterate 1
    refine M2.mono_pure rfl rfl ?_
    apply Exists.intro
    refine ⟨fun x => ?_, ?_⟩
    · go_simp
      rfl
    apply Exists.intro
    refine ⟨by simp only [Act.put, List.setIfInBounds_toArray, List.set_cons_succ, List.set_cons_zero]; rfl, ?_⟩
  refine M2.mono_val rfl rfl (fun x hD hF => ?_) ?_
  · have hl := run_loadVar_arr (P := Try.prog) x (b) 0 26 _ _ (range_all hD.d) Try.underlying26 rfl (by rw [arrOf_size]; exact size26)
    rw [exec_load 26 (.tmp 11) rfl (b) 0 rfl hl]
    exact ⟨Below.refl _ _, rfl, trivial⟩
  apply Exists.intro
  refine ⟨by simp only [Act.put, List.setIfInBounds_toArray, List.set_cons_succ, List.set_cons_zero]; rfl, ?_⟩
  refine M2.mono_val rfl rfl (fun x hD hF => ?_) ?_
  · have hl := run_loadVar_arr (P := Try.prog) x (w.heap.size) 0 26 _ _ (range_all hD.a) Try.underlying26 rfl (by rw [arrOf_size]; exact size26)
    rw [exec_load 26 (.tmp 5) rfl (w.heap.size) 0 rfl hl]
    exact ⟨Below.refl _ _, rfl, trivial⟩
  apply Exists.intro
  refine ⟨by simp only [Act.put, List.setIfInBounds_toArray, List.set_cons_succ, List.set_cons_zero]; rfl, ?_⟩
  refine M2.mono_val rfl rfl (fun x hD hF => ?_) ?_
  · go_simp
    refine (tjoin_any (cmax f g) f x).mono ?_
    rintro e y ⟨rfl, hg⟩
    exact ⟨_, rfl, hg, rfl⟩
  apply Exists.intro
  refine ⟨by simp only [Act.put, List.setIfInBounds_toArray, List.set_cons_succ, List.set_cons_zero]; rfl, ?_⟩
  refine M2.mono_val rfl rfl (fun x hD hF => ?_) ?_
  · have hl := run_loadVar_arr (P := Try.prog) x (b) 0 26 _ _ (range_all hD.d) Try.underlying26 rfl (by rw [arrOf_size]; exact size26)
    rw [exec_load 26 (.tmp 11) rfl (b) 0 rfl hl]
    exact ⟨Below.refl _ _, rfl, trivial⟩
  apply Exists.intro
  refine ⟨by simp only [Act.put, List.setIfInBounds_toArray, List.set_cons_succ, List.set_cons_zero]; rfl, ?_⟩
  refine M2.mono_pure rfl rfl ?_
  refine ⟨.bool false, fun x => ?_, ?_⟩
  · exact exec_neq26 (.tmp 25) (.tmp 26) rfl rfl rfl (join_ja _ _)
  apply Exists.intro
  refine ⟨by simp only [Act.put, List.setIfInBounds_toArray, List.set_cons_succ, List.set_cons_zero]; rfl, ?_⟩
  iterate 2
    refine M2.mono_pure rfl rfl ?_
    apply Exists.intro
    refine ⟨fun x => ?_, ?_⟩
    · go_simp
      rfl
    apply Exists.intro
    refine ⟨by simp only [Act.put, List.setIfInBounds_toArray, List.set_cons_succ, List.set_cons_zero]; rfl, ?_⟩
  refine M2.mono_val rfl rfl (fun x hD hF => ?_) ?_
  · have hl := run_loadVar_arr (P := Try.prog) x (w.heap.size) 0 26 _ _ (range_all hD.a) Try.underlying26 rfl (by rw [arrOf_size]; exact size26)
    rw [exec_load 26 (.tmp 5) rfl (w.heap.size) 0 rfl hl]
    exact ⟨Below.refl _ _, rfl, trivial⟩
  apply Exists.intro
  refine ⟨by simp only [Act.put, List.setIfInBounds_toArray, List.set_cons_succ, List.set_cons_zero]; rfl, ?_⟩
  refine M2.mono_val rfl rfl (fun x hD hF => ?_) ?_
  · have hl := run_loadVar_arr (P := Try.prog) x (w.heap.size + 1) 0 26 _ _ (range_all hD.b_) Try.underlying26 rfl (by rw [arrOf_size]; exact size26)
    rw [exec_load 26 (.tmp 6) rfl (w.heap.size + 1) 0 rfl hl]
    exact ⟨Below.refl _ _, rfl, trivial⟩
  apply Exists.intro
  refine ⟨by simp only [Act.put, List.setIfInBounds_toArray, List.set_cons_succ, List.set_cons_zero]; rfl, ?_⟩
  refine M2.mono_val rfl rfl (fun x hD hF => ?_) ?_
  · go_simp
    refine (tjoin_any f g x).mono ?_
    rintro e y ⟨rfl, hg⟩
    exact ⟨_, rfl, hg, rfl⟩
  apply Exists.intro
  refine ⟨by simp only [Act.put, List.setIfInBounds_toArray, List.set_cons_succ, List.set_cons_zero]; rfl, ?_⟩
  refine M2.mono_val rfl rfl (fun x hD hF => ?_) ?_
  · have hl := run_loadVar_arr (P := Try.prog) x (w.heap.size + 1 + 1) 0 26 _ _ (range_all hD.c) Try.underlying26 rfl (by rw [arrOf_size]; exact size26)
    rw [exec_load 26 (.tmp 7) rfl (w.heap.size + 1 + 1) 0 rfl hl]
    exact ⟨Below.refl _ _, rfl, trivial⟩
  apply Exists.intro
  refine ⟨by simp only [Act.put, List.setIfInBounds_toArray, List.set_cons_succ, List.set_cons_zero]; rfl, ?_⟩
  refine M2.mono_val rfl rfl (fun x hD hF => ?_) ?_
  · go_simp
    refine (tjoin_any (cmax f g) h x).mono ?_
    rintro e y ⟨rfl, hg⟩
    exact ⟨_, rfl, hg, rfl⟩
  apply Exists.intro
  refine ⟨by simp only [Act.put, List.setIfInBounds_toArray, List.set_cons_succ, List.set_cons_zero]; rfl, ?_⟩
  refine M2.mono_val rfl rfl (fun x hD hF => ?_) ?_
  · have hl := run_loadVar_arr (P := Try.prog) x (w.heap.size) 0 26 _ _ (range_all hD.a) Try.underlying26 rfl (by rw [arrOf_size]; exact size26)
    rw [exec_load 26 (.tmp 5) rfl (w.heap.size) 0 rfl hl]
    exact ⟨Below.refl _ _, rfl, trivial⟩
  apply Exists.intro
  refine ⟨by simp only [Act.put, List.setIfInBounds_toArray, List.set_cons_succ, List.set_cons_zero]; rfl, ?_⟩
  refine M2.mono_val rfl rfl (fun x hD hF => ?_) ?_
  · have hl := run_loadVar_arr (P := Try.prog) x (w.heap.size + 1) 0 26 _ _ (range_all hD.b_) Try.underlying26 rfl (by rw [arrOf_size]; exact size26)
    rw [exec_load 26 (.tmp 6) rfl (w.heap.size + 1) 0 rfl hl]
    exact ⟨Below.refl _ _, rfl, trivial⟩
  apply Exists.intro
  refine ⟨by simp only [Act.put, List.setIfInBounds_toArray, List.set_cons_succ, List.set_cons_zero]; rfl, ?_⟩
  refine M2.mono_val rfl rfl (fun x hD hF => ?_) ?_
  · have hl := run_loadVar_arr (P := Try.prog) x (w.heap.size + 1 + 1) 0 26 _ _ (range_all hD.c) Try.underlying26 rfl (by rw [arrOf_size]; exact size26)
    rw [exec_load 26 (.tmp 7) rfl (w.heap.size + 1 + 1) 0 rfl hl]
    exact ⟨Below.refl _ _, rfl, trivial⟩
  apply Exists.intro
  refine ⟨by simp only [Act.put, List.setIfInBounds_toArray, List.set_cons_succ, List.set_cons_zero]; rfl, ?_⟩
  refine M2.mono_val rfl rfl (fun x hD hF => ?_) ?_
  · go_simp
    refine (tjoin_any g h x).mono ?_
    rintro e y ⟨rfl, hg⟩
    exact ⟨_, rfl, hg, rfl⟩
  apply Exists.intro
  refine ⟨by simp only [Act.put, List.setIfInBounds_toArray, List.set_cons_succ, List.set_cons_zero]; rfl, ?_⟩
  refine M2.mono_val rfl rfl (fun x hD hF => ?_) ?_
  · go_simp
    refine (tjoin_any f (cmax g h) x).mono ?_
    rintro e y ⟨rfl, hg⟩
    exact ⟨_, rfl, hg, rfl⟩
  apply Exists.intro
  refine ⟨by simp only [Act.put, List.setIfInBounds_toArray, List.set_cons_succ, List.set_cons_zero]; rfl, ?_⟩
  refine M2.mono_pure rfl rfl ?_
  refine ⟨.bool false, fun x => ?_, ?_⟩
  · exact exec_neq26 (.tmp 34) (.tmp 39) rfl rfl rfl (join_assoc _ _ _)
  apply Exists.intro
  refine ⟨by simp only [Act.put, List.setIfInBounds_toArray, List.set_cons_succ, List.set_cons_zero]; rfl, ?_⟩
  iterate 2
    refine M2.mono_pure rfl rfl ?_
    apply Exists.intro
    refine ⟨fun x => ?_, ?_⟩
    · go_simp
      rfl
    apply Exists.intro
    refine ⟨by simp only [Act.put, List.setIfInBounds_toArray, List.set_cons_succ, List.set_cons_zero]; rfl, ?_⟩
  refine M2.mono_val rfl rfl (fun x hD hF => ?_) ?_
  · have hl := run_loadVar_arr (P := Try.prog) x (w.heap.size) 0 26 _ _ (range_all hD.a) Try.underlying26 rfl (by rw [arrOf_size]; exact size26)
    rw [exec_load 26 (.tmp 5) rfl (w.heap.size) 0 rfl hl]
    exact ⟨Below.refl _ _, rfl, trivial⟩
  apply Exists.intro
  refine ⟨by simp only [Act.put, List.setIfInBounds_toArray, List.set_cons_succ, List.set_cons_zero]; rfl, ?_⟩
  refine M2.mono_val rfl rfl (fun x hD hF => ?_) ?_
  · have hl := run_loadVar_arr (P := Try.prog) x (w.heap.size) 0 26 _ _ (range_all hD.a) Try.underlying26 rfl (by rw [arrOf_size]; exact size26)
    rw [exec_load 26 (.tmp 5) rfl (w.heap.size) 0 rfl hl]
    exact ⟨Below.refl _ _, rfl, trivial⟩
  apply Exists.intro
  refine ⟨by simp only [Act.put, List.setIfInBounds_toArray, List.set_cons_succ, List.set_cons_zero]; rfl, ?_⟩
  refine M2.mono_val rfl rfl (fun x hD hF => ?_) ?_
  · go_simp
    refine (tjoin_any f f x).mono ?_
    rintro e y ⟨rfl, hg⟩
    exact ⟨_, rfl, hg, rfl⟩
  apply Exists.intro
  refine ⟨by simp only [Act.put, List.setIfInBounds_toArray, List.set_cons_succ, List.set_cons_zero]; rfl, ?_⟩
  refine M2.mono_val rfl rfl (fun x hD hF => ?_) ?_
  · have hl := run_loadVar_arr (P := Try.prog) x (w.heap.size) 0 26 _ _ (range_all hD.a) Try.underlying26 rfl (by rw [arrOf_size]; exact size26)
    rw [exec_load 26 (.tmp 5) rfl (w.heap.size) 0 rfl hl]
    exact ⟨Below.refl _ _, rfl, trivial⟩
  apply Exists.intro
  refine ⟨by simp only [Act.put, List.setIfInBounds_toArray, List.set_cons_succ, List.set_cons_zero]; rfl, ?_⟩
  refine M2.mono_pure rfl rfl ?_
  refine ⟨.bool false, fun x => ?_, ?_⟩
  · exact exec_neq26 (.tmp 45) (.tmp 46) rfl rfl rfl (join_aa _)
  apply Exists.intro
  refine ⟨by simp only [Act.put, List.setIfInBounds_toArray, List.set_cons_succ, List.set_cons_zero]; rfl, ?_⟩
  iterate 1
    refine M2.mono_pure rfl rfl ?_
    apply Exists.intro
    refine ⟨fun x => ?_, ?_⟩
    · go_simp
      rfl
    apply Exists.intro
    refine ⟨by simp only [Act.put, List.setIfInBounds_toArray, List.set_cons_succ, List.set_cons_zero]; rfl, ?_⟩
  refine M2.mono_nil ?_
  intro x hD hF
  have HI2 := Lib.hid hD
  have HL := Lib.hid hD.a
  clear hD hF HI1
  go_simp
  go_wp2_with (refine wpList_load_row rfl 26 _ rfl w.heap.size rfl 26 (arrOf .u64 16 f) (0, 0) _ HL.out Try.underlying26 rfl s26.out ?_)
  refine (tcount_any f node n x HF.out H1.out H2.out).mono ?_
  rintro e w3 ⟨rfl, hb⟩
  have HI3 := Lib.hid (HI2.out.then_ hb)
  clear hb HI2 HL
  rcases Tal.cnt_cases f node n with hc | hc | hc
  · obtain ⟨d, e0⟩ := hc
    rw [e0]
    clear e0
    have HI4 := Lib.hid (HI3.out.new d)
    have hN := Lib.hid (zero_row16 w3 26)
    clear HI3
    go_wp2_with (refine wpList_store_row rfl 26 _ _ rfl w3.heap.size (arrOf .u64 16 d) rfl rfl 26 _ hN.out s26.out ss.out (arrOf_one _ _ _) ?_; rw [set_z16])
    generalize w3.alloc (.cells (arrOf .u64 16 d) 26) = w4 at *
    generalize w3.heap.size = b2 at *
    clear hN
    refine M2.wp_region_kinds (fun _ x y => Below x.heap.size x y) (fun _ x => J4 w f g h b2 d x) (fun x => J4 w f g h b2 d x)
      [(0, .val (.bool true) fun _ => True)] (by kernel_rfl) (by kernel_rfl) (fun _ _ _ hb h => J4.then_ hb h) (fun _ _ _ _ _ hb h => J4.then_ hb h) ?_ HI4.out.drew (fun _ => HI4.out.drew) ?_
    · intro z hz
      simp only [List.mem_cons, List.mem_nil_iff, or_false] at hz
      rcases hz with rfl <;> exact fun _ _ _ _ _ _ => trivial
    refine M2.mono_val rfl rfl (fun x hD hF => ?_) ?_
    · go_simp
      refine (alive_any x).mono ?_
      rintro e y ⟨rfl, hg⟩
      exact ⟨_, rfl, hg, rfl⟩
    apply Exists.intro
    refine ⟨by simp only [Act.put, List.setIfInBounds_toArray, List.set_cons_succ, List.set_cons_zero]; rfl, ?_⟩
    iterate 4
      refine M2.mono_pure rfl rfl ?_
      apply Exists.intro
      refine ⟨fun x => ?_, ?_⟩
      · go_simp
        rfl
      apply Exists.intro
      refine ⟨by simp only [Act.put, List.setIfInBounds_toArray, List.set_cons_succ, List.set_cons_zero]; rfl, ?_⟩
    refine M2.mono_skip rfl ?_
    apply Exists.intro
    refine ⟨by simp only [Act.put, List.setIfInBounds_toArray, List.set_cons_succ, List.set_cons_zero]; rfl, ?_⟩
    refine M2.mono_skip rfl ?_
    apply Exists.intro
    refine ⟨by simp only [Act.put, List.setIfInBounds_toArray, List.set_cons_succ, List.set_cons_zero]; rfl, ?_⟩
    refine M2.mono_skip rfl ?_
    apply Exists.intro
    refine ⟨by simp only [Act.put, List.setIfInBounds_toArray, List.set_cons_succ, List.set_cons_zero]; rfl, ?_⟩
    refine M2.mono_skip rfl ?_
    apply Exists.intro
    refine ⟨by simp only [Act.put, List.setIfInBounds_toArray, List.set_cons_succ, List.set_cons_zero]; rfl, ?_⟩
    refine M2.mono_skip rfl ?_
    apply Exists.intro
    refine ⟨by simp only [Act.put, List.setIfInBounds_toArray, List.set_cons_succ, List.set_cons_zero]; rfl, ?_⟩
    iterate 3
      refine M2.mono_pure rfl rfl ?_
      apply Exists.intro
      refine ⟨fun x => ?_, ?_⟩
      · go_simp
        rfl
      apply Exists.intro
      refine ⟨by simp only [Act.put, List.setIfInBounds_toArray, List.set_cons_succ, List.set_cons_zero]; rfl, ?_⟩
    refine M2.mono_nil ?_
    intro x hD hF
    have HB := Lib.hid hD.below
    clear hD hF HI4
    go_simp
    go_wp2
    go_ret
    exact ⟨rfl, HB.out⟩
  · obtain ⟨d, e0⟩ := hc
    rw [e0]
    clear e0
    have HI4 := Lib.hid (HI3.out.new d)
    have hN := Lib.hid (zero_row16 w3 26)
    clear HI3
    go_wp2_with (refine wpList_store_row rfl 26 _ _ rfl w3.heap.size (arrOf .u64 16 d) rfl rfl 26 _ hN.out s26.out ss.out (arrOf_one _ _ _) ?_; rw [set_z16])
    generalize w3.alloc (.cells (arrOf .u64 16 d) 26) = w4 at *
    generalize w3.heap.size = b2 at *
    clear hN
    refine M2.wp_region_kinds (fun _ x y => Below x.heap.size x y) (fun _ x => J4 w f g h b2 d x) (fun x => J4 w f g h b2 d x)
      [(0, .val (.bool true) fun _ => True)] (by kernel_rfl) (by kernel_rfl) (fun _ _ _ hb h => J4.then_ hb h) (fun _ _ _ _ _ hb h => J4.then_ hb h) ?_ HI4.out.drew (fun _ => HI4.out.drew) ?_
    · intro z hz
      simp only [List.mem_cons, List.mem_nil_iff, or_false] at hz
      rcases hz with rfl <;> exact fun _ _ _ _ _ _ => trivial
    refine M2.mono_val rfl rfl (fun x hD hF => ?_) ?_
    · go_simp
      refine (alive_any x).mono ?_
      rintro e y ⟨rfl, hg⟩
      exact ⟨_, rfl, hg, rfl⟩
    apply Exists.intro
    refine ⟨by simp only [Act.put, List.setIfInBounds_toArray, List.set_cons_succ, List.set_cons_zero]; rfl, ?_⟩
    iterate 4
      refine M2.mono_pure rfl rfl ?_
      apply Exists.intro
      refine ⟨fun x => ?_, ?_⟩
      · go_simp
        rfl
      apply Exists.intro
      refine ⟨by simp only [Act.put, List.setIfInBounds_toArray, List.set_cons_succ, List.set_cons_zero]; rfl, ?_⟩
    refine M2.mono_skip rfl ?_
    apply Exists.intro
    refine ⟨by simp only [Act.put, List.setIfInBounds_toArray, List.set_cons_succ, List.set_cons_zero]; rfl, ?_⟩
    refine M2.mono_skip rfl ?_
    apply Exists.intro
    refine ⟨by simp only [Act.put, List.setIfInBounds_toArray, List.set_cons_succ, List.set_cons_zero]; rfl, ?_⟩
    refine M2.mono_skip rfl ?_
    apply Exists.intro
    refine ⟨by simp only [Act.put, List.setIfInBounds_toArray, List.set_cons_succ, List.set_cons_zero]; rfl, ?_⟩
    refine M2.mono_skip rfl ?_
    apply Exists.intro
    refine ⟨by simp only [Act.put, List.setIfInBounds_toArray, List.set_cons_succ, List.set_cons_zero]; rfl, ?_⟩
    refine M2.mono_skip rfl ?_
    apply Exists.intro
    refine ⟨by simp only [Act.put, List.setIfInBounds_toArray, List.set_cons_succ, List.set_cons_zero]; rfl, ?_⟩
    iterate 3
      refine M2.mono_pure rfl rfl ?_
      apply Exists.intro
      refine ⟨fun x => ?_, ?_⟩
      · go_simp
        rfl
      apply Exists.intro
      refine ⟨by simp only [Act.put, List.setIfInBounds_toArray, List.set_cons_succ, List.set_cons_zero]; rfl, ?_⟩
    refine M2.mono_nil ?_
    intro x hD hF
    have HB := Lib.hid hD.below
    clear hD hF HI4
    go_simp
    go_wp2
    go_ret
    exact ⟨rfl, HB.out⟩
  · obtain ⟨d, e0, hup⟩ := hc
    have HUp := Lib.hid hup
    clear hup
    rw [e0]
    clear e0
    have HI4 := Lib.hid (HI3.out.new d)
    have hN := Lib.hid (zero_row16 w3 26)
    clear HI3
    go_wp2_with (refine wpList_store_row rfl 26 _ _ rfl w3.heap.size (arrOf .u64 16 d) rfl rfl 26 _ hN.out s26.out ss.out (arrOf_one _ _ _) ?_; rw [set_z16])
    generalize w3.alloc (.cells (arrOf .u64 16 d) 26) = w4 at *
    generalize w3.heap.size = b2 at *
    clear hN
    refine M2.wp_region_kinds (fun _ x y => Below x.heap.size x y) (fun _ x => J4 w f g h b2 d x) (fun x => J4 w f g h b2 d x)
      [(0, .val (.bool true) fun _ => True), (5, .val (ctrV f) fun _ => True), (6, .val (ctrV d) fun _ => True), (7, .val (ctrV (cmax f d)) fun _ => True), (8, .val (ctrV d) fun _ => True)] (by kernel_rfl) (by kernel_rfl) (fun _ _ _ hb h => J4.then_ hb h) (fun _ _ _ _ _ hb h => J4.then_ hb h) ?_ HI4.out.drew (fun _ => HI4.out.drew) ?_
    · intro z hz
      simp only [List.mem_cons, List.mem_nil_iff, or_false] at hz
      rcases hz with rfl | rfl | rfl | rfl | rfl <;> exact fun _ _ _ _ _ _ => trivial
    refine M2.mono_val rfl rfl (fun x hD hF => ?_) ?_
    · go_simp
      refine (alive_any x).mono ?_
      rintro e y ⟨rfl, hg⟩
      exact ⟨_, rfl, hg, rfl⟩
    apply Exists.intro
    refine ⟨by simp only [Act.put, List.setIfInBounds_toArray, List.set_cons_succ, List.set_cons_zero]; rfl, ?_⟩
    iterate 4
      refine M2.mono_pure rfl rfl ?_
      apply Exists.intro
      refine ⟨fun x => ?_, ?_⟩
      · go_simp
        rfl
      apply Exists.intro
      refine ⟨by simp only [Act.put, List.setIfInBounds_toArray, List.set_cons_succ, List.set_cons_zero]; rfl, ?_⟩
    refine M2.mono_val rfl rfl (fun x hD hF => ?_) ?_
    · have hl := run_loadVar_arr (P := Try.prog) x (w.heap.size) 0 26 _ _ (range_all hD.a) Try.underlying26 rfl (by rw [arrOf_size]; exact size26)
      rw [exec_load 26 (.tmp 5) rfl (w.heap.size) 0 rfl hl]
      exact ⟨Below.refl _ _, rfl, trivial⟩
    apply Exists.intro
    refine ⟨by simp only [Act.put, List.setIfInBounds_toArray, List.set_cons_succ, List.set_cons_zero]; rfl, ?_⟩
    refine M2.mono_val rfl rfl (fun x hD hF => ?_) ?_
    · have hl := run_loadVar_arr (P := Try.prog) x (b2) 0 26 _ _ (range_all hD.d) Try.underlying26 rfl (by rw [arrOf_size]; exact size26)
      rw [exec_load 26 (.tmp 12) rfl (b2) 0 rfl hl]
      exact ⟨Below.refl _ _, rfl, trivial⟩
    apply Exists.intro
    refine ⟨by simp only [Act.put, List.setIfInBounds_toArray, List.set_cons_succ, List.set_cons_zero]; rfl, ?_⟩
    refine M2.mono_val rfl rfl (fun x hD hF => ?_) ?_
    · go_simp
      refine (tjoin_any f d x).mono ?_
      rintro e y ⟨rfl, hg⟩
      exact ⟨_, rfl, hg, rfl⟩
    apply Exists.intro
    refine ⟨by simp only [Act.put, List.setIfInBounds_toArray, List.set_cons_succ, List.set_cons_zero]; rfl, ?_⟩
    refine M2.mono_val rfl rfl (fun x hD hF => ?_) ?_
    · have hl := run_loadVar_arr (P := Try.prog) x (b2) 0 26 _ _ (range_all hD.d) Try.underlying26 rfl (by rw [arrOf_size]; exact size26)
      rw [exec_load 26 (.tmp 12) rfl (b2) 0 rfl hl]
      exact ⟨Below.refl _ _, rfl, trivial⟩
    apply Exists.intro
    refine ⟨by simp only [Act.put, List.setIfInBounds_toArray, List.set_cons_succ, List.set_cons_zero]; rfl, ?_⟩
    refine M2.mono_pure rfl rfl ?_
    refine ⟨.bool true, fun x => ?_, ?_⟩
    · exact exec_eql26 (.tmp 63) (.tmp 64) rfl rfl rfl (join_up HUp.out)
    apply Exists.intro
    refine ⟨by simp only [Act.put, List.setIfInBounds_toArray, List.set_cons_succ, List.set_cons_zero]; rfl, ?_⟩
    iterate 3
      refine M2.mono_pure rfl rfl ?_
      apply Exists.intro
      refine ⟨fun x => ?_, ?_⟩
      · go_simp
        rfl
      apply Exists.intro
      refine ⟨by simp only [Act.put, List.setIfInBounds_toArray, List.set_cons_succ, List.set_cons_zero]; rfl, ?_⟩
    refine M2.mono_nil ?_
    intro x hD hF
    have HB := Lib.hid hD.below
    clear hD hF HI4
    go_simp
    go_wp2
    go_ret
    exact ⟨rfl, HB.out⟩
end Go.Proofs.Ytbjndjmbbephbaa
