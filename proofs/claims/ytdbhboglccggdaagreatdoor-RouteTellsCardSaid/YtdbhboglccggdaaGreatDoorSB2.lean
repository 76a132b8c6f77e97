/- Contracts of the reference's table of words, and of its step for a block. -/
import Derived.Test.YtdbhboglccggdaaGreatDoorSA5
import Derived.Test.YtdbhboglccggdaaGreatDoorSB1
set_option linter.unusedVariables false
set_option linter.unusedSimpArgs false
namespace Go.Proofs.YtdbhboglccggdaaGreatDoor
open Go.RowKit
theorem size46 : (Tryz.prog.info? 105).map (·.size) = some 8 := by kernel_rfl
theorem size58 : (Tryz.prog.info? 121).map (·.size) = some 64 := by kernel_rfl
theorem info46 : (Tryz.prog.info? 105).map (fun i => (i.zero, i.size)) = some (some (.agg (arrOf .u64 8 fun _ => 0)), 8) := by kernel_rfl
theorem info58 : (Tryz.prog.info? 121).map (fun i => (i.zero, i.size)) = some (some (.agg (arrOf .u64 64 fun _ => 0)), 64) := by kernel_rfl
def kvals : List (Nat × Value) := (List.range 64).map fun i => (i, .int .u64 ((Sha.K.getD i 0 : Nat) : Int))
def karr : Array Value := arrOf .u64 64 fun i => Sha.K.getD i 0
theorem built58 : Tryz.prog.built 121 kvals = some karr := by kernel_rfl
def kparts : Array (Nat × Operand) := ((List.range 64).map fun i => (i, Operand.const (.int .u64 ((Sha.K.getD i 0 : Nat) : Int)))).toArray
theorem kparts_vals (a : Act) : kparts.toList.map (fun (i, x) => (i, a.eval x)) = kvals := by
  unfold kparts kvals
  rw [List.toList_toArray, List.map_map]
  rfl
set_option maxRecDepth 100000 in
set_option maxHeartbeats 1000000 in
theorem consts_any (w : World) : Calls Tryz.prog 86 #[] w fun e w' => e = .returned (.agg karr) ∧ Below w.heap.size w w' := by
  have hz := (zero_of_info info58).1
  obtain ⟨Z, hZ⟩ : ∃ Z, Z = arrOf .u64 64 (fun _ => 0) := ⟨_, rfl⟩
  rw [← hZ] at hz
  have ZS : Hid (Z.size = karr.size) := by rw [hZ]; unfold karr; rw [arrOf_size, arrOf_size]; exact rfl
  have s58 : Hid ((Tryz.prog.info? 121).map (·.size) = some karr.size) := by unfold karr; rw [arrOf_size]; exact size58
  have o58 : Hid (karr.all (·.oneCell') = true) := arrOf_one _ _ _
  have HB : Hid (Below w.heap.size w ((w.alloc (.cells Z 121)).setRow w.heap.size karr)) := below_setRow' ((Below.refl _ _).alloc (Nat.le_refl _) _) (Nat.le_refl _) _
  clear hZ
  go_enter Tryz.func86, Tryz.ntmps86
  go_wp2_with (first
    | (refine wpList_built rfl 121 _ rfl kvals (by kernel_rfl) karr built58 ?_)
    | (refine wpList_store_row rfl 121 _ _ rfl w.heap.size karr rfl rfl 121 _ (heap_alloc_new _ _) s58.out ZS.out o58.out ?_)
    | (refine bodyPost_ret (results_cell_row Tryz.results86 _ _ w.heap.size 121 _ (0, 0) _ rfl (setRow_heap _ _ _ _ _ _ (heap_alloc_new _ _)) Tryz.underlying121 rfl s58.out) rfl ⟨rfl, HB.out⟩))
end Go.Proofs.YtdbhboglccggdaaGreatDoor
