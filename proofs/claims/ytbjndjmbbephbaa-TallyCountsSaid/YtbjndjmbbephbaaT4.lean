/- Plus of tally and of the reference. -/
import Derived.Test.YtbjndjmbbephbaaT3
namespace Go.Proofs.Ytbjndjmbbephbaa
open Go.RowKit

theorem nums_row2 {x : World} {b t a c : Nat} (h : x.heap[b]? = some (.cells #[.int .u64 (a : Int), .int .u64 (c : Int)] t (0, 0))) : Nums x (fun _ => True) (some ⟨b, 0, none⟩) [a, c] :=
  ⟨fun _ => ⟨b, 0, rfl, trivial, fun j hj => by
    rw [cell_of_row _ _ _ _ _ _ h]
    match j, hj with
    | 0, _ => rfl
    | 1, _ => rfl⟩⟩

set_option maxRecDepth 100000 in
set_option maxHeartbeats 2000000 in
theorem tplus_any (a b c d : Nat) (w : World) : Calls Try.prog 17 #[tallyV a b, tallyV c d] w fun e w' => e = .returned (tallyV (Tal.add a c) (Tal.add b d)) ∧ Below w.heap.size w w' := by
  have HI0 := Lib.hid (Two.start w #[.int .u64 (a : Int), .int .u64 (b : Int)] #[.int .u64 (c : Int), .int .u64 (d : Int)] #[.int .u64 0, .int .u64 0] 40 40 40 2 rfl)
  go_enter Try.func17, Try.ntmps17
  go_wp2_with fail
  generalize ((w.alloc (.cells #[.int .u64 (a : Int), .int .u64 (b : Int)] 40)).alloc (.cells #[.int .u64 (c : Int), .int .u64 (d : Int)] 40)).alloc (.cells #[.int .u64 0, .int .u64 0] 40) = w1 at *
  refine M2.wp_region_kinds (fun i x y => Rst 13 (w.heap.size + 1 + 1) #[.int .u64 ((Tal.add a c : Nat) : Int), .int .u64 ((Tal.add b d : Nat) : Int)] 40 i x y) (fun _ x => Two w #[.int .u64 (a : Int), .int .u64 (b : Int)] #[.int .u64 (c : Int), .int .u64 (d : Int)] 40 40 40 2 x) (fun x => Two w #[.int .u64 (a : Int), .int .u64 (b : Int)] #[.int .u64 (c : Int), .int .u64 (d : Int)] 40 40 40 2 x)
    [(1, .val (.int .u64 (a : Int)) fun _ => True), (3, .val (.int .u64 (c : Int)) fun _ => True), (4, .mem (NB (w.heap.size + 1 + 1) #[.int .u64 (a : Int), .int .u64 (c : Int)] 22 2)), (5, .val (.int .u64 ((Tal.add a c : Nat) : Int)) fun _ => True), (7, .val (.int .u64 (b : Int)) fun _ => True), (9, .val (.int .u64 (d : Int)) fun _ => True), (10, .mem (NB (w.heap.size + 1 + 1) #[.int .u64 (b : Int), .int .u64 (d : Int)] 22 2)), (11, .val (.int .u64 ((Tal.add b d : Nat) : Int)) fun _ => True), (13, .val (undef) (Done (w.heap.size + 1 + 1) #[.int .u64 ((Tal.add a c : Nat) : Int), .int .u64 ((Tal.add b d : Nat) : Int)] 40))] (by kernel_rfl) (by kernel_rfl) (fun _ _ _ hb h => Two.then_ rfl hb h) (fun _ _ _ _ _ hb h => Two.then_ rfl hb h) ?_ HI0.out.drew (fun _ => HI0.out.drew) ?_
  · intro z hz
    simp only [List.mem_cons, List.mem_nil_iff, or_false] at hz
    rcases hz with rfl | rfl | rfl | rfl | rfl | rfl | rfl | rfl | rfl <;> first
      | exact fun _ _ _ _ _ _ => trivial
      | exact fun j v x y _ hr => NB.up hr
      | exact fun j x y hi hr => Done.up hi hr
  iterate 1
    refine M2.mono_pure rfl rfl ?_
    apply Exists.intro
    refine ⟨fun x => ?_, ?_⟩
    · go_simp
      rfl
    apply Exists.intro
    refine ⟨by simp only [Act.put, List.setIfInBounds_toArray, List.set_cons_succ, List.set_cons_zero]; rfl, ?_⟩
  refine M2.mono_val rfl rfl (fun x hD hF => ?_) ?_
  · have hc : x.cell? ⟨w.heap.size, 0, none⟩ = some (.int .u64 (a : Int)) := by rw [cell_of_row _ _ _ _ _ _ hD.a]; rfl
    go_simp
    exact ⟨Rst.of (Below.refl _ _) (by decide), rfl⟩
  apply Exists.intro
  refine ⟨by simp only [Act.put, List.setIfInBounds_toArray, List.set_cons_succ, List.set_cons_zero]; rfl, ?_⟩
  iterate 1
    refine M2.mono_pure rfl rfl ?_
    apply Exists.intro
    refine ⟨fun x => ?_, ?_⟩
    · go_simp
      rfl
    apply Exists.intro
    refine ⟨by simp only [Act.put, List.setIfInBounds_toArray, List.set_cons_succ, List.set_cons_zero]; rfl, ?_⟩
  refine M2.mono_val rfl rfl (fun x hD hF => ?_) ?_
  · have hc : x.cell? ⟨w.heap.size + 1, 0, none⟩ = some (.int .u64 (c : Int)) := by rw [cell_of_row _ _ _ _ _ _ hD.b]; rfl
    go_simp
    exact ⟨Rst.of (Below.refl _ _) (by decide), rfl⟩
  apply Exists.intro
  refine ⟨by simp only [Act.put, List.setIfInBounds_toArray, List.set_cons_succ, List.set_cons_zero]; rfl, ?_⟩
  refine M2.mono_mem rfl rfl (fun x hD hF => ?_) (fun v9 => ?_)
  · have hg : w.heap.size + 1 + 1 < x.heap.size := by obtain ⟨_, h1, _⟩ := hD.r; exact lt_of_row h1
    go_simp
    exact ⟨Rst.of (below1 _ _) (by decide), NB.new _ _ _ hg⟩
  apply Exists.intro
  refine ⟨by simp only [Act.put, List.setIfInBounds_toArray, List.set_cons_succ, List.set_cons_zero]; rfl, ?_⟩
  refine M2.mono_val rfl rfl (fun x hD hF => ?_) ?_
  · obtain ⟨q, e1, _, hr⟩ := (hF 4 _ 9 rfl rfl (by decide)).1
    have hN := Lib.hid (nums_row2 hr)
    clear hr hF
    subst e1
    go_simp
    refine (total_any [a, c] 2 _ x hN.out (by simp)).mono ?_
    rintro e y ⟨rfl, rfl⟩
    exact ⟨_, rfl, Rst.of (Below.refl _ _) (by decide), by rw [Tal.sum_two]⟩
  apply Exists.intro
  refine ⟨by simp only [Act.put, List.setIfInBounds_toArray, List.set_cons_succ, List.set_cons_zero]; rfl, ?_⟩
  iterate 1
    refine M2.mono_pure rfl rfl ?_
    apply Exists.intro
    refine ⟨fun x => ?_, ?_⟩
    · go_simp
      rfl
    apply Exists.intro
    refine ⟨by simp only [Act.put, List.setIfInBounds_toArray, List.set_cons_succ, List.set_cons_zero]; rfl, ?_⟩
  refine M2.mono_val rfl rfl (fun x hD hF => ?_) ?_
  · have hc : x.cell? ⟨w.heap.size, 1, none⟩ = some (.int .u64 (b : Int)) := by rw [cell_of_row _ _ _ _ _ _ hD.a]; rfl
    go_simp
    exact ⟨Rst.of (Below.refl _ _) (by decide), rfl⟩
  apply Exists.intro
  refine ⟨by simp only [Act.put, List.setIfInBounds_toArray, List.set_cons_succ, List.set_cons_zero]; rfl, ?_⟩
  iterate 1
    refine M2.mono_pure rfl rfl ?_
    apply Exists.intro
    refine ⟨fun x => ?_, ?_⟩
    · go_simp
      rfl
    apply Exists.intro
    refine ⟨by simp only [Act.put, List.setIfInBounds_toArray, List.set_cons_succ, List.set_cons_zero]; rfl, ?_⟩
  refine M2.mono_val rfl rfl (fun x hD hF => ?_) ?_
  · have hc : x.cell? ⟨w.heap.size + 1, 1, none⟩ = some (.int .u64 (d : Int)) := by rw [cell_of_row _ _ _ _ _ _ hD.b]; rfl
    go_simp
    exact ⟨Rst.of (Below.refl _ _) (by decide), rfl⟩
  apply Exists.intro
  refine ⟨by simp only [Act.put, List.setIfInBounds_toArray, List.set_cons_succ, List.set_cons_zero]; rfl, ?_⟩
  refine M2.mono_mem rfl rfl (fun x hD hF => ?_) (fun v15 => ?_)
  · have hg : w.heap.size + 1 + 1 < x.heap.size := by obtain ⟨_, h1, _⟩ := hD.r; exact lt_of_row h1
    go_simp
    exact ⟨Rst.of (below1 _ _) (by decide), NB.new _ _ _ hg⟩
  apply Exists.intro
  refine ⟨by simp only [Act.put, List.setIfInBounds_toArray, List.set_cons_succ, List.set_cons_zero]; rfl, ?_⟩
  refine M2.mono_val rfl rfl (fun x hD hF => ?_) ?_
  · obtain ⟨q, e1, _, hr⟩ := (hF 10 _ 15 rfl rfl (by decide)).1
    have hN := Lib.hid (nums_row2 hr)
    clear hr hF
    subst e1
    go_simp
    refine (total_any [b, d] 2 _ x hN.out (by simp)).mono ?_
    rintro e y ⟨rfl, rfl⟩
    exact ⟨_, rfl, Rst.of (Below.refl _ _) (by decide), by rw [Tal.sum_two]⟩
  apply Exists.intro
  refine ⟨by simp only [Act.put, List.setIfInBounds_toArray, List.set_cons_succ, List.set_cons_zero]; rfl, ?_⟩
  iterate 1
    refine M2.mono_pure rfl rfl ?_
    apply Exists.intro
    refine ⟨fun x => ?_, ?_⟩
    · go_simp
      rfl
    apply Exists.intro
    refine ⟨by simp only [Act.put, List.setIfInBounds_toArray, List.set_cons_succ, List.set_cons_zero]; rfl, ?_⟩
  refine M2.mono_val rfl rfl (fun x hD hF => ?_) ?_
  · obtain ⟨old, h1, h2⟩ := hD.r
    rw [exec_store 40 (.tmp 4) (.tmp 17) rfl (w.heap.size + 1 + 1) #[.int .u64 ((Tal.add a c : Nat) : Int), .int .u64 ((Tal.add b d : Nat) : Int)] rfl rfl 40 old h1 size40 h2 (two_one _ _ rfl rfl)]
    exact ⟨Rst.at_ h1, rfl, setRow_heap _ _ _ _ _ _ h1⟩
  apply Exists.intro
  refine ⟨by simp only [Act.put, List.setIfInBounds_toArray, List.set_cons_succ, List.set_cons_zero]; rfl, ?_⟩
  refine M2.mono_nil ?_
  intro x hD hF
  have hd : Hid (Done (w.heap.size + 1 + 1) #[.int .u64 ((Tal.add a c : Nat) : Int), .int .u64 ((Tal.add b d : Nat) : Int)] 40 x) := (hF 13).1
  have HB := Lib.hid hD.below
  clear hD hF HI0
  go_simp
  go_wp2_with (refine bodyPost_ret (results_cell_row Try.results17 _ _ (w.heap.size + 1 + 1) 40 _ (0, 0) _ rfl hd.out Try.underlying40 rfl size40) rfl ⟨rfl, HB.out⟩)

set_option maxRecDepth 100000 in
set_option maxHeartbeats 2000000 in
theorem tplusR_any (a b c d : Nat) (w : World) (ha : a < 18446744073709551616) (hb : b < 18446744073709551616) (hc : c < 18446744073709551616) (hd : d < 18446744073709551616) : Calls Try.prog 24 #[tallyV a b, tallyV c d] w fun e w' => e = .returned (tallyV (Tal.add a c) (Tal.add b d)) ∧ Below w.heap.size w w' := by
  have HI0 := Lib.hid (Two.start w #[.int .u64 (a : Int), .int .u64 (b : Int)] #[.int .u64 (c : Int), .int .u64 (d : Int)] #[.int .u64 0, .int .u64 0] 38 38 38 2 rfl)
  have Ha := Lib.hid ha
  have Hb := Lib.hid hb
  have Hc := Lib.hid hc
  have Hd := Lib.hid hd
  clear ha hb hc hd
  go_enter Try.func24, Try.ntmps24
  go_wp2_with fail
  generalize ((w.alloc (.cells #[.int .u64 (a : Int), .int .u64 (b : Int)] 38)).alloc (.cells #[.int .u64 (c : Int), .int .u64 (d : Int)] 38)).alloc (.cells #[.int .u64 0, .int .u64 0] 38) = w1 at *
  refine M2.wp_region_kinds (fun i x y => Rst 11 (w.heap.size + 1 + 1) #[.int .u64 ((Tal.add a c : Nat) : Int), .int .u64 ((Tal.add b d : Nat) : Int)] 38 i x y) (fun _ x => Two w #[.int .u64 (a : Int), .int .u64 (b : Int)] #[.int .u64 (c : Int), .int .u64 (d : Int)] 38 38 38 2 x) (fun x => Two w #[.int .u64 (a : Int), .int .u64 (b : Int)] #[.int .u64 (c : Int), .int .u64 (d : Int)] 38 38 38 2 x)
    [(1, .val (.int .u64 (a : Int)) fun _ => True), (3, .val (.int .u64 (c : Int)) fun _ => True), (4, .val (.int .u64 ((Tal.add a c : Nat) : Int)) fun _ => True), (6, .val (.int .u64 (b : Int)) fun _ => True), (8, .val (.int .u64 (d : Int)) fun _ => True), (9, .val (.int .u64 ((Tal.add b d : Nat) : Int)) fun _ => True), (11, .val (undef) (Done (w.heap.size + 1 + 1) #[.int .u64 ((Tal.add a c : Nat) : Int), .int .u64 ((Tal.add b d : Nat) : Int)] 38))] (by kernel_rfl) (by kernel_rfl) (fun _ _ _ hb h => Two.then_ rfl hb h) (fun _ _ _ _ _ hb h => Two.then_ rfl hb h) ?_ HI0.out.drew (fun _ => HI0.out.drew) ?_
  · intro z hz
    simp only [List.mem_cons, List.mem_nil_iff, or_false] at hz
    rcases hz with rfl | rfl | rfl | rfl | rfl | rfl | rfl <;> first
      | exact fun _ _ _ _ _ _ => trivial
      | exact fun j v x y _ hr => NB.up hr
      | exact fun j x y hi hr => Done.up hi hr
  iterate 1
    refine M2.mono_pure rfl rfl ?_
    apply Exists.intro
    refine ⟨fun x => ?_, ?_⟩
    · go_simp
      rfl
    apply Exists.intro
    refine ⟨by simp only [Act.put, List.setIfInBounds_toArray, List.set_cons_succ, List.set_cons_zero]; rfl, ?_⟩
  refine M2.mono_val rfl rfl (fun x hD hF => ?_) ?_
  · have hc : x.cell? ⟨w.heap.size, 0, none⟩ = some (.int .u64 (a : Int)) := by rw [cell_of_row _ _ _ _ _ _ hD.a]; rfl
    go_simp
    exact ⟨Rst.of (Below.refl _ _) (by decide), rfl⟩
  apply Exists.intro
  refine ⟨by simp only [Act.put, List.setIfInBounds_toArray, List.set_cons_succ, List.set_cons_zero]; rfl, ?_⟩
  iterate 1
    refine M2.mono_pure rfl rfl ?_
    apply Exists.intro
    refine ⟨fun x => ?_, ?_⟩
    · go_simp
      rfl
    apply Exists.intro
    refine ⟨by simp only [Act.put, List.setIfInBounds_toArray, List.set_cons_succ, List.set_cons_zero]; rfl, ?_⟩
  refine M2.mono_val rfl rfl (fun x hD hF => ?_) ?_
  · have hc : x.cell? ⟨w.heap.size + 1, 0, none⟩ = some (.int .u64 (c : Int)) := by rw [cell_of_row _ _ _ _ _ _ hD.b]; rfl
    go_simp
    exact ⟨Rst.of (Below.refl _ _) (by decide), rfl⟩
  apply Exists.intro
  refine ⟨by simp only [Act.put, List.setIfInBounds_toArray, List.set_cons_succ, List.set_cons_zero]; rfl, ?_⟩
  refine M2.mono_val rfl rfl (fun x hD hF => ?_) ?_
  · go_simp
    refine (plus_any a c x Ha.out Hc.out).mono ?_
    rintro e y ⟨rfl, rfl⟩
    exact ⟨_, rfl, Rst.of (Below.refl _ _) (by decide), rfl⟩
  apply Exists.intro
  refine ⟨by simp only [Act.put, List.setIfInBounds_toArray, List.set_cons_succ, List.set_cons_zero]; rfl, ?_⟩
  iterate 1
    refine M2.mono_pure rfl rfl ?_
    apply Exists.intro
    refine ⟨fun x => ?_, ?_⟩
    · go_simp
      rfl
    apply Exists.intro
    refine ⟨by simp only [Act.put, List.setIfInBounds_toArray, List.set_cons_succ, List.set_cons_zero]; rfl, ?_⟩
  refine M2.mono_val rfl rfl (fun x hD hF => ?_) ?_
  · have hc : x.cell? ⟨w.heap.size, 1, none⟩ = some (.int .u64 (b : Int)) := by rw [cell_of_row _ _ _ _ _ _ hD.a]; rfl
    go_simp
    exact ⟨Rst.of (Below.refl _ _) (by decide), rfl⟩
  apply Exists.intro
  refine ⟨by simp only [Act.put, List.setIfInBounds_toArray, List.set_cons_succ, List.set_cons_zero]; rfl, ?_⟩
  iterate 1
    refine M2.mono_pure rfl rfl ?_
    apply Exists.intro
    refine ⟨fun x => ?_, ?_⟩
    · go_simp
      rfl
    apply Exists.intro
    refine ⟨by simp only [Act.put, List.setIfInBounds_toArray, List.set_cons_succ, List.set_cons_zero]; rfl, ?_⟩
  refine M2.mono_val rfl rfl (fun x hD hF => ?_) ?_
  · have hc : x.cell? ⟨w.heap.size + 1, 1, none⟩ = some (.int .u64 (d : Int)) := by rw [cell_of_row _ _ _ _ _ _ hD.b]; rfl
    go_simp
    exact ⟨Rst.of (Below.refl _ _) (by decide), rfl⟩
  apply Exists.intro
  refine ⟨by simp only [Act.put, List.setIfInBounds_toArray, List.set_cons_succ, List.set_cons_zero]; rfl, ?_⟩
  refine M2.mono_val rfl rfl (fun x hD hF => ?_) ?_
  · go_simp
    refine (plus_any b d x Hb.out Hd.out).mono ?_
    rintro e y ⟨rfl, rfl⟩
    exact ⟨_, rfl, Rst.of (Below.refl _ _) (by decide), rfl⟩
  apply Exists.intro
  refine ⟨by simp only [Act.put, List.setIfInBounds_toArray, List.set_cons_succ, List.set_cons_zero]; rfl, ?_⟩
  iterate 1
    refine M2.mono_pure rfl rfl ?_
    apply Exists.intro
    refine ⟨fun x => ?_, ?_⟩
    · go_simp
      rfl
    apply Exists.intro
    refine ⟨by simp only [Act.put, List.setIfInBounds_toArray, List.set_cons_succ, List.set_cons_zero]; rfl, ?_⟩
  refine M2.mono_val rfl rfl (fun x hD hF => ?_) ?_
  · obtain ⟨old, h1, h2⟩ := hD.r
    rw [exec_store 38 (.tmp 4) (.tmp 15) rfl (w.heap.size + 1 + 1) #[.int .u64 ((Tal.add a c : Nat) : Int), .int .u64 ((Tal.add b d : Nat) : Int)] rfl rfl 38 old h1 size38 h2 (two_one _ _ rfl rfl)]
    exact ⟨Rst.at_ h1, rfl, setRow_heap _ _ _ _ _ _ h1⟩
  apply Exists.intro
  refine ⟨by simp only [Act.put, List.setIfInBounds_toArray, List.set_cons_succ, List.set_cons_zero]; rfl, ?_⟩
  refine M2.mono_nil ?_
  intro x hD hF
  have hd : Hid (Done (w.heap.size + 1 + 1) #[.int .u64 ((Tal.add a c : Nat) : Int), .int .u64 ((Tal.add b d : Nat) : Int)] 38 x) := (hF 11).1
  have HB := Lib.hid hD.below
  clear hD hF HI0
  go_simp
  go_wp2_with (refine bodyPost_ret (results_cell_row Try.results24 _ _ (w.heap.size + 1 + 1) 38 _ (0, 0) _ rfl hd.out Try.underlying38 rfl size38) rfl ⟨rfl, HB.out⟩)
end Go.Proofs.Ytbjndjmbbephbaa
