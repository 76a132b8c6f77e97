/- A ring's membership: Right, New, Config. A ring's points and owners. -/
import Derived.Test.YtdbhboglccggdaaGreatDoorRX
set_option maxRecDepth 100000
set_option linter.unusedVariables false
set_option linter.unusedSimpArgs false
namespace Go.Proofs.YtdbhboglccggdaaGreatDoor
open Go.RowKit
def cfg (N V R : Int) : Array Value := #[.int .i64 N, .int .i64 V, .int .i64 R]
def rightC (N V R : Int) : Bool := withinB N 8 && withinB V 16 && withinB R N
set_option maxHeartbeats 2000000 in
theorem right_cfg (N V R : Int) (w : World) : Calls Tryz.prog 30 #[.agg (cfg N V R)] w fun e w' => e = .returned (.bool (rightC N V R)) ∧ Below w.heap.size w w' := by
  have hx := heap_alloc_new w (.cells (cfg N V R) 23)
  have c0 : (w.alloc (.cells (cfg N V R) 23)).cell? ⟨w.heap.size, 0, none⟩ = some (.int .i64 N) := by rw [cell_of_row _ _ _ _ _ _ hx]; rfl
  have c1 : (w.alloc (.cells (cfg N V R) 23)).cell? ⟨w.heap.size, 1, none⟩ = some (.int .i64 V) := by rw [cell_of_row _ _ _ _ _ _ hx]; rfl
  have c2 : (w.alloc (.cells (cfg N V R) 23)).cell? ⟨w.heap.size, 2, none⟩ = some (.int .i64 R) := by rw [cell_of_row _ _ _ _ _ _ hx]; rfl
  have HB := Lib.hid ((Below.refl w.heap.size w).alloc (Nat.le_refl _) (.cells (cfg N V R) 23))
  clear hx
  have HE : Hid (rightC N V R = (withinB N 8 && withinB V 16 && withinB R N)) := rfl
  cases h1 : withinB N 8 <;> cases h2 : withinB V 16 <;> cases h3 : withinB R N
  all_goals
    have H1 := Lib.hid h1
    have H2 := Lib.hid h2
    have H3 := Lib.hid h3
    rw [h1, h2, h3] at HE
    clear h1 h2 h3
    go_enter Tryz.func30, Tryz.ntmps30
    go_wp2_with (go_at_call 52; refine (within_any _ _ _).mono ?_; (first | rw [H1.out] | rw [H2.out] | rw [H3.out]); rintro e w1 ⟨rfl, rfl⟩)
    go_ret
    exact ⟨ret_bool HE.out.symm, HB.out⟩
theorem built69 (N V R : Int) : Tryz.prog.built 71 [(0, .agg (cfg N V R))] = some #[.int .i64 N, .int .i64 V, .int .i64 R, .int .u32 0, .int .i32 0, .int .u32 0, .slice none 0 0] := by kernel_rfl
theorem cfg_size (N V R : Int) : (Tryz.prog.info? 23).map (·.size) = some (cfg N V R).size := size38
set_option maxHeartbeats 2000000 in
theorem new_bad (N V R : Int) (w : World) (h : rightC N V R = false) : Calls Tryz.prog 7 #[.agg (cfg N V R)] w fun e w' => e = .returned (.tuple #[.pointer none, .int .i64 1]) ∧ Below w.heap.size w w' := by
  have HC := Lib.hid (right_cfg N V R (w.alloc (.cells (cfg N V R) 23)))
  have HB := Lib.hid ((Below.refl w.heap.size w).alloc (Nat.le_refl _) (.cells (cfg N V R) 23))
  have HX := Lib.hid (heap_alloc_new w (.cells (cfg N V R) 23))
  have HS := Lib.hid (cfg_size N V R)
  rw [h] at HC
  clear h
  go_enter Tryz.func7, Tryz.ntmps7
  go_wp2_with (first
    | (refine wpList_load_row rfl 23 _ rfl w.heap.size rfl 23 (cfg N V R) (0, 0) _ HX.out Tryz.underlying23 rfl HS.out ?_)
    | (go_at_call 30; refine HC.out.mono ?_; rintro e w1 ⟨rfl, hb⟩; have HB1 := Lib.hid (HB.out.trans (hb.mono HB.out.size)); clear hb))
  go_ret2
  exact ⟨rfl, HB1.out⟩
set_option maxHeartbeats 2000000 in
theorem new_ok (N V R : Nat) (w : World) (h : rightC N V R = true) (ht : Tabs w) : Calls Tryz.prog 7 #[.agg (cfg N V R)] w fun e w' => ∃ g, e = .returned (.tuple #[.pointer (some ⟨g, 0, none⟩), .int .i64 0]) ∧ w.heap.size ≤ g ∧ RingAt w' g N V R ∧ Below w.heap.size w w' := by
  have HC := Lib.hid (right_cfg N V R (w.alloc (.cells (cfg N V R) 23)))
  have HB := Lib.hid ((Below.refl w.heap.size w).alloc (Nat.le_refl _) (.cells (cfg N V R) 23))
  have HX := Lib.hid (heap_alloc_new w (.cells (cfg N V R) 23))
  have HS := Lib.hid (cfg_size N V R)
  have HLIM : Hid (N ≤ 8 ∧ V ≤ 16 ∧ 2 ≤ w.heap.size) := Lib.hid (by
    unfold rightC withinB at h
    simp only [Bool.and_eq_true, decide_eq_true_eq] at h
    exact ⟨by omega, by omega, ht.two⟩)
  rw [h] at HC
  clear h ht
  go_enter Tryz.func7, Tryz.ntmps7
  go_wp2_with (first
    | (refine wpList_load_row rfl 23 _ rfl w.heap.size rfl 23 (cfg N V R) (0, 0) _ HX.out Tryz.underlying23 rfl HS.out ?_)
    | (refine wpList_load_row rfl 23 _ rfl w.heap.size rfl 23 (cfg N V R) (0, 0) _ HX1.out Tryz.underlying23 rfl HS.out ?_)
    | (refine wpList_built rfl 71 #[(0, .tmp 7)] rfl [(0, .agg (cfg N V R))] rfl _ (built69 _ _ _) ?_)
    | (go_at_call 30; refine HC.out.mono ?_; rintro e w1 ⟨rfl, hb⟩; have HB1 := Lib.hid (HB.out.trans (hb.mono HB.out.size)); have HX1 := Lib.hid ((hb.block w.heap.size (by simp)).trans HX.out); clear hb))
  go_ret2
  refine ⟨w1.heap.size, rfl, HB1.out.size, ⟨HLIM.out.1, HLIM.out.2.1, Nat.le_trans HLIM.out.2.2 HB1.out.size, .inl (heap_alloc_new _ _)⟩, HB1.out.alloc HB1.out.size _⟩
theorem info38 : (Tryz.prog.info? 23).map (fun i => (i.zero, i.size)) = some (some (.agg (cfg 0 0 0)), 3) := by kernel_rfl
theorem built38 : Tryz.prog.built 23 [] = some (cfg 0 0 0) := by kernel_rfl
theorem cfg_one (N V R : Int) : (cfg N V R).all (·.oneCell') = true := by simp [cfg, Value.oneCell']
set_option maxHeartbeats 2000000 in
theorem config_any (g : Nat) (N V R : Int) (w : World) (h : rangeA w g 0 (cfg N V R)) (hg : g < w.heap.size) : Calls Tryz.prog 49 #[.pointer (some ⟨g, 0, none⟩)] w fun e w' => e = .returned (.agg (cfg N V R)) ∧ Below w.heap.size w w' := by
  have hz := (zero_of_info info38).1
  have HR : Hid (∀ o : Obj, rangeA (w.alloc o) g 0 (cfg N V R)) := Lib.hid (fun o j v hj => (World.cell?_of_block (w := w) (a := ⟨g, 0 + j, none⟩) (Below.heap_alloc _ _ _ hg)).trans (h j v hj))
  have HS := Lib.hid (cfg_size N V R)
  have HO := Lib.hid (cfg_one N V R)
  have HB := Lib.hid ((Below.refl w.heap.size w).alloc (Nat.le_refl _) (.cells (cfg 0 0 0) 23))
  obtain ⟨Z, hZ⟩ : ∃ Z, Z = cfg 0 0 0 := ⟨_, rfl⟩
  have HZS : Hid (Z.size = (cfg N V R).size) := by rw [hZ]; exact rfl
  rw [← hZ] at hz HB
  have HX := Lib.hid (heap_alloc_new w (.cells Z 23))
  clear h hg hZ
  obtain ⟨C, hC⟩ : ∃ C, C = cfg N V R := ⟨_, rfl⟩
  rw [← hC] at HR HS HO HZS ⊢
  clear hC
  go_enter Tryz.func49, Tryz.ntmps49
  go_wp2_with (first
    | (refine wpList_load_arr rfl 23 _ rfl g 0 rfl C _ (HR.out _) Tryz.underlying23 rfl HS.out ?_)
    | (refine wpList_store_row rfl 23 _ _ rfl w.heap.size C rfl rfl 23 _ HX.out HS.out HZS.out HO.out ?_)
    | (refine bodyPost_ret (results_cell_row Tryz.results49 _ _ w.heap.size 23 C (0, 0) _ rfl (setRow_heap _ _ _ _ _ _ HX.out) Tryz.underlying23 rfl HS.out) rfl ⟨rfl, below_setRow' HB.out (Nat.le_refl _) _⟩))
set_option maxHeartbeats 2000000 in
theorem config_nil (w : World) : Calls Tryz.prog 49 #[.pointer none] w fun e w' => e = .returned (.agg (cfg 0 0 0)) ∧ Below w.heap.size w w' := by
  have hz := (zero_of_info info38).1
  have HS := Lib.hid (cfg_size 0 0 0)
  have HO := Lib.hid (cfg_one 0 0 0)
  have HB := Lib.hid ((Below.refl w.heap.size w).alloc (Nat.le_refl _) (.cells (cfg 0 0 0) 23))
  have HBT : Hid (Tryz.prog.built 23 [] = some (cfg 0 0 0)) := built38
  obtain ⟨Z, hZ⟩ : ∃ Z, Z = cfg 0 0 0 := ⟨_, rfl⟩
  rw [← hZ] at hz HB HS HO HBT ⊢
  have HX := Lib.hid (heap_alloc_new w (.cells Z 23))
  clear hZ
  go_enter Tryz.func49, Tryz.ntmps49
  go_wp2_with (first
    | (refine wpList_built rfl 23 #[] rfl [] rfl Z HBT.out ?_)
    | (refine wpList_store_row rfl 23 _ _ rfl w.heap.size Z rfl rfl 23 _ HX.out HS.out rfl HO.out ?_)
    | (refine bodyPost_ret (results_cell_row Tryz.results49 _ _ w.heap.size 23 Z (0, 0) _ rfl (setRow_heap _ _ _ _ _ _ HX.out) Tryz.underlying23 rfl HS.out) rfl ⟨rfl, below_setRow' HB.out (Nat.le_refl _) _⟩))
end Go.Proofs.YtdbhboglccggdaaGreatDoor

set_option maxRecDepth 100000
set_option linter.unusedVariables false
set_option linter.unusedSimpArgs false
namespace Go.Proofs.YtdbhboglccggdaaGreatDoor
open Go.RowKit
theorem info79z : (Tryz.prog.info? 101).map (fun i => (i.zero, i.size)) = some (some (.agg (ptC (0, 0))), 2) := by kernel_rfl
theorem size79 : (Tryz.prog.info? 101).map (·.size) = some 2 := by kernel_rfl
end Go.Proofs.YtdbhboglccggdaaGreatDoor
