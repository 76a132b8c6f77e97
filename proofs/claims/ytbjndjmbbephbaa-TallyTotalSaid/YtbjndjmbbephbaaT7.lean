/- Join of tally. -/
import Derived.Test.YtbjndjmbbephbaaT6
namespace Go.Proofs.Ytbjndjmbbephbaa
open Go.RowKit

def cmax (h k : Nat → Nat) : Nat → Nat := fun i => max (h i) (k i)
theorem nb_pv {g : Nat} {f e : Nat → Nat} {v : Value} {x : World} (h : NB g (cells16 f e) 24 2 v x) : PV [f, e] v x := by
  obtain ⟨b, rfl, _, hr⟩ := h
  refine ⟨_, 2, rfl, ⟨fun _ => ⟨_, _, rfl, lt_of_row hr, fun j hj => rangeA_arr fun i hi => ?_⟩⟩⟩
  rw [cell_of_row _ _ _ _ _ _ hr, cells16, arrOf_get _ _ (by simp at hj; omega)]
  match j, hj with
  | 0, _ => simp [hi]
  | 1, _ =>
    have : ¬ (8 + i < 8) := by omega
    simp [this]
theorem exec_built {P : Program} {ev : Operand → Value} {o : Oper} {w : World} (t : TypeId) (parts : Array (Nat × Operand)) (ho : o.op = .build t parts)
    (vals : List (Nat × Value)) (hv : parts.toList.map (fun (i, x) => (i, ev x)) = vals) (R : Array Value) (hR : P.built t vals = some R) : (execOp ev o).run P w = .ok (.value (.agg R)) w := by
  have e : (parts.map fun (i, x) => (i, ev x)).toList = vals := by rw [Array.toList_map]; exact hv
  have h2 : P.built t (parts.map fun (i, x) => (i, ev x)).toList = some R := by rw [e]; exact hR
  unfold execOp
  simp only [ho, Sem.run_bind, run_build w t _ R h2, Result.andThen_ok, Sem.run_pure]

set_option maxRecDepth 100000 in
set_option maxHeartbeats 2000000 in
theorem tjoin_any (h k : Nat → Nat) (w : World) : Calls Try.prog 11 #[ctrV h, ctrV k] w fun e w' => e = .returned (ctrV (cmax h k)) ∧ Below w.heap.size w w' := by
  have HI0 := Lib.hid (Two.start w (arrOf .u64 16 h) (arrOf .u64 16 k) #[.int .u64 0, .int .u64 0, .int .u64 0, .int .u64 0, .int .u64 0, .int .u64 0, .int .u64 0, .int .u64 0, .int .u64 0, .int .u64 0, .int .u64 0, .int .u64 0, .int .u64 0, .int .u64 0, .int .u64 0, .int .u64 0] 26 26 26 16 rfl)
  go_enter Try.func11, Try.ntmps11
  go_wp2_with fail
  generalize ((w.alloc (.cells (arrOf .u64 16 h) 26)).alloc (.cells (arrOf .u64 16 k) 26)).alloc (.cells #[.int .u64 0, .int .u64 0, .int .u64 0, .int .u64 0, .int .u64 0, .int .u64 0, .int .u64 0, .int .u64 0, .int .u64 0, .int .u64 0, .int .u64 0, .int .u64 0, .int .u64 0, .int .u64 0, .int .u64 0, .int .u64 0] 26) = w1 at *
  refine M2.wp_region_kinds (fun i x y => Rst 13 (w.heap.size + 1 + 1) (arrOf .u64 16 (cmax h k)) 26 i x y) (fun _ x => Two w (arrOf .u64 16 h) (arrOf .u64 16 k) 26 26 26 16 x) (fun x => Two w (arrOf .u64 16 h) (arrOf .u64 16 k) 26 26 26 16 x)
    [(1, .val (vecV h) fun _ => True), (3, .val (vecV k) fun _ => True), (4, .mem (NB (w.heap.size + 1 + 1) (cells16 h k) 24 2)), (5, .val (vecV (cmax h k)) fun _ => True), (7, .val (vecV (half h)) fun _ => True), (9, .val (vecV (half k)) fun _ => True), (10, .mem (NB (w.heap.size + 1 + 1) (cells16 (half h) (half k)) 24 2)), (11, .val (vecV (half (cmax h k))) fun _ => True), (13, .val (undef) (Done (w.heap.size + 1 + 1) (arrOf .u64 16 (cmax h k)) 26))] (by kernel_rfl) (by kernel_rfl) (fun _ _ _ hb h => Two.then_ (arrOf_size _ _ _) hb h) (fun _ _ _ _ _ hb h => Two.then_ (arrOf_size _ _ _) hb h) ?_ HI0.out.drew (fun _ => HI0.out.drew) ?_
  · intro z hz
    simp only [List.mem_cons, List.mem_nil_iff, or_false] at hz
    rcases hz with rfl | rfl | rfl | rfl | rfl | rfl | rfl | rfl | rfl <;> first
      | exact fun _ _ _ _ _ _ => trivial
      | exact fun j v x y _ hr => NB.up hr
      | exact fun j x y hi hr => Done.up hi hr
  iterate 1
    refine M2.mono_pure rfl rfl ?_
    apply Exists.intro
    refine ⟨fun x => ?_, ?_⟩
    · go_simp
      rfl
    apply Exists.intro
    refine ⟨by simp only [Act.put, List.setIfInBounds_toArray, List.set_cons_succ, List.set_cons_zero]; rfl, ?_⟩
  refine M2.mono_val rfl rfl (fun x hD hF => ?_) ?_
  · have hl := run_loadVar_arr (P := Try.prog) x (w.heap.size) 0 24 _ _ (range_lo hD.a) Try.underlying24 rfl (by rw [arrOf_size]; exact size24)
    rw [exec_load 24 (.tmp 5) rfl (w.heap.size) 0 rfl hl]
    exact ⟨Rst.of (Below.refl _ _) (by decide), rfl, trivial⟩
  apply Exists.intro
  refine ⟨by simp only [Act.put, List.setIfInBounds_toArray, List.set_cons_succ, List.set_cons_zero]; rfl, ?_⟩
  iterate 1
    refine M2.mono_pure rfl rfl ?_
    apply Exists.intro
    refine ⟨fun x => ?_, ?_⟩
    · go_simp
      rfl
    apply Exists.intro
    refine ⟨by simp only [Act.put, List.setIfInBounds_toArray, List.set_cons_succ, List.set_cons_zero]; rfl, ?_⟩
  refine M2.mono_val rfl rfl (fun x hD hF => ?_) ?_
  · have hl := run_loadVar_arr (P := Try.prog) x (w.heap.size + 1) 0 24 _ _ (range_lo hD.b) Try.underlying24 rfl (by rw [arrOf_size]; exact size24)
    rw [exec_load 24 (.tmp 7) rfl (w.heap.size + 1) 0 rfl hl]
    exact ⟨Rst.of (Below.refl _ _) (by decide), rfl, trivial⟩
  apply Exists.intro
  refine ⟨by simp only [Act.put, List.setIfInBounds_toArray, List.set_cons_succ, List.set_cons_zero]; rfl, ?_⟩
  refine M2.mono_mem rfl rfl (fun x hD hF => ?_) (fun v9 => ?_)
  · have hg : w.heap.size + 1 + 1 < x.heap.size := by obtain ⟨_, h1, _⟩ := hD.r; exact lt_of_row h1
    rw [exec_build 64 2 _ rfl #[(0, .agg (arrOf .u64 8 h)), (1, .agg (arrOf .u64 8 k))] (by simp only [List.map_toArray, List.map_cons, List.map_nil]; rfl) (run_two h k x)]
    exact ⟨Rst.of (below1 _ _) (by decide), NB.new _ _ _ hg⟩
  apply Exists.intro
  refine ⟨by simp only [Act.put, List.setIfInBounds_toArray, List.set_cons_succ, List.set_cons_zero]; rfl, ?_⟩
  refine M2.mono_val rfl rfl (fun x hD hF => ?_) ?_
  · have h1 := nb_pv (hF 4 _ 9 rfl rfl (by decide)).1
    go_simp
    refine (join_pv h1).mono ?_
    rintro e y ⟨rfl, hg⟩
    exact ⟨_, rfl, Rst.of hg (by decide), rfl⟩
  apply Exists.intro
  refine ⟨by simp only [Act.put, List.setIfInBounds_toArray, List.set_cons_succ, List.set_cons_zero]; rfl, ?_⟩
  iterate 1
    refine M2.mono_pure rfl rfl ?_
    apply Exists.intro
    refine ⟨fun x => ?_, ?_⟩
    · go_simp
      rfl
    apply Exists.intro
    refine ⟨by simp only [Act.put, List.setIfInBounds_toArray, List.set_cons_succ, List.set_cons_zero]; rfl, ?_⟩
  refine M2.mono_val rfl rfl (fun x hD hF => ?_) ?_
  · have hl := run_loadVar_arr (P := Try.prog) x (w.heap.size) 8 24 _ _ (range_hi hD.a) Try.underlying24 rfl (by rw [arrOf_size]; exact size24)
    rw [exec_load 24 (.tmp 11) rfl (w.heap.size) 8 rfl hl]
    exact ⟨Rst.of (Below.refl _ _) (by decide), rfl, trivial⟩
  apply Exists.intro
  refine ⟨by simp only [Act.put, List.setIfInBounds_toArray, List.set_cons_succ, List.set_cons_zero]; rfl, ?_⟩
  iterate 1
    refine M2.mono_pure rfl rfl ?_
    apply Exists.intro
    refine ⟨fun x => ?_, ?_⟩
    · go_simp
      rfl
    apply Exists.intro
    refine ⟨by simp only [Act.put, List.setIfInBounds_toArray, List.set_cons_succ, List.set_cons_zero]; rfl, ?_⟩
  refine M2.mono_val rfl rfl (fun x hD hF => ?_) ?_
  · have hl := run_loadVar_arr (P := Try.prog) x (w.heap.size + 1) 8 24 _ _ (range_hi hD.b) Try.underlying24 rfl (by rw [arrOf_size]; exact size24)
    rw [exec_load 24 (.tmp 13) rfl (w.heap.size + 1) 8 rfl hl]
    exact ⟨Rst.of (Below.refl _ _) (by decide), rfl, trivial⟩
  apply Exists.intro
  refine ⟨by simp only [Act.put, List.setIfInBounds_toArray, List.set_cons_succ, List.set_cons_zero]; rfl, ?_⟩
  refine M2.mono_mem rfl rfl (fun x hD hF => ?_) (fun v15 => ?_)
  · have hg : w.heap.size + 1 + 1 < x.heap.size := by obtain ⟨_, h1, _⟩ := hD.r; exact lt_of_row h1
    rw [exec_build 64 2 _ rfl #[(0, .agg (arrOf .u64 8 (half h))), (1, .agg (arrOf .u64 8 (half k)))] (by simp only [List.map_toArray, List.map_cons, List.map_nil]; rfl) (run_two (half h) (half k) x)]
    exact ⟨Rst.of (below1 _ _) (by decide), NB.new _ _ _ hg⟩
  apply Exists.intro
  refine ⟨by simp only [Act.put, List.setIfInBounds_toArray, List.set_cons_succ, List.set_cons_zero]; rfl, ?_⟩
  refine M2.mono_val rfl rfl (fun x hD hF => ?_) ?_
  · have h1 := nb_pv (hF 10 _ 15 rfl rfl (by decide)).1
    go_simp
    refine (join_pv h1).mono ?_
    rintro e y ⟨rfl, hg⟩
    exact ⟨_, rfl, Rst.of hg (by decide), rfl⟩
  apply Exists.intro
  refine ⟨by simp only [Act.put, List.setIfInBounds_toArray, List.set_cons_succ, List.set_cons_zero]; rfl, ?_⟩
  refine M2.mono_pure rfl rfl ?_
  refine ⟨.agg (arrOf .u64 16 (cmax h k)), fun x => ?_, ?_⟩
  · exact exec_built 26 _ rfl [(0, vecV (cmax h k)), (1, vecV (half (cmax h k)))] rfl _ (built26 _)
  apply Exists.intro
  refine ⟨by simp only [Act.put, List.setIfInBounds_toArray, List.set_cons_succ, List.set_cons_zero]; rfl, ?_⟩
  refine M2.mono_val rfl rfl (fun x hD hF => ?_) ?_
  · obtain ⟨old, h1, h2⟩ := hD.r
    rw [exec_store 26 (.tmp 4) (.tmp 17) rfl (w.heap.size + 1 + 1) (arrOf .u64 16 (cmax h k)) rfl rfl 26 old h1 (by rw [arrOf_size]; exact size26) (by rw [h2, arrOf_size]) (arrOf_one _ _ _)]
    exact ⟨Rst.at_ h1, rfl, setRow_heap _ _ _ _ _ _ h1⟩
  apply Exists.intro
  refine ⟨by simp only [Act.put, List.setIfInBounds_toArray, List.set_cons_succ, List.set_cons_zero]; rfl, ?_⟩
  refine M2.mono_nil ?_
  intro x hD hF
  have hd : Hid (Done (w.heap.size + 1 + 1) (arrOf .u64 16 (cmax h k)) 26 x) := (hF 13).1
  have HB := Lib.hid hD.below
  have s16 : Hid ((Try.prog.info? 26).map (·.size) = some (arrOf .u64 16 (cmax h k)).size) := by rw [arrOf_size]; exact size26
  clear hD hF HI0
  go_simp
  go_wp2_with (refine bodyPost_ret (results_cell_row Try.results11 _ _ (w.heap.size + 1 + 1) 26 _ (0, 0) _ rfl hd.out Try.underlying26 rfl s16.out) rfl ⟨rfl, HB.out⟩)
end Go.Proofs.Ytbjndjmbbephbaa
