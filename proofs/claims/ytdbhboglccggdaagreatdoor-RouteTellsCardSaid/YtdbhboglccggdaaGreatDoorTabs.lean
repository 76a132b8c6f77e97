/- What the rows' list of package-level variables gives: the two tables of words as they are laid; a world in which they are. -/
import Derived.Test.YtdbhboglccggdaaGreatDoorCards
import Derived.Test.YtdbhboglccggdaaGreatDoorTie
import Derived.Test.YtdbhboglccggdaaGreatDoorSA2
import Derived.Test.YtdbhboglccggdaaGreatDoorLaw
import Derived.LaidMore
import Derived.Lay
import Derived.Lib.LaidTab
import Derived.SevenTiedAt
import Derived.Stop.Joined
set_option linter.unusedVariables false
set_option linter.unusedSimpArgs false
namespace Go.Proofs.YtdbhboglccggdaaGreatDoor
open Go.RowKit Go.WideShapes Go.ChangeShapes

theorem own : ownKnob Tryz.prog.godebug = none := by kernel_rfl
theorem laidOut : laidOutB Tryz.prog = true := by kernel_rfl
theorem laid_tail {P : Program} {x : String × DataW Unit} {rest : List (String × DataW Unit)} {W : World} (h : laidMet P (x :: rest) W) : laidMet P rest W := by
  obtain ⟨ps, ⟨g, t, cs, fu, p, q, h1, h2, h3, h4, h5, rfl⟩, hn, hc⟩ := h
  exact ⟨q, h5, (List.nodup_append.1 hn).2.1, fun b off hm => hc b off (List.mem_append_right _ hm)⟩
def beginZ : List Int := [1779033703, 3144134277, 1013904242, 2773480762, 1359893119, 2600822924, 528734635, 1541459225]
def kZ : List Int := Sha.K.map fun (n : Nat) => (n : Int)
theorem begin_is : (Rows.laid_maund_sha_begin : DataW Unit) = Lib.tabData .u32 beginZ := by kernel_rfl
theorem k_is : (Rows.laid_maund_sha_k : DataW Unit) = Lib.tabData .u32 kZ := by kernel_rfl
theorem gBegin : Tryz.prog.globalNamed "maund/sha.begin" = some 0 := by kernel_rfl
theorem gK : Tryz.prog.globalNamed "maund/sha.k" = some 1 := by kernel_rfl
theorem tBegin : (Tryz.prog.globals[0]?).map (·.type) = some 151 := by kernel_rfl
theorem tK : (Tryz.prog.globals[1]?).map (·.type) = some 177 := by kernel_rfl
theorem cells51 : Tryz.prog.cellsOf 60 = 1 := by kernel_rfl
theorem cells52 : Tryz.prog.cellsOf 151 = 8 := by kernel_rfl
theorem cells69 : Tryz.prog.cellsOf 177 = 64 := by kernel_rfl
abbrev laid2 : List (String × DataW Unit) := [("maund/sha.begin", Rows.laid_maund_sha_begin), ("maund/sha.k", Rows.laid_maund_sha_k)]
theorem tabs_of_laid {W : World} (h : laidMetH Tryz.prog laid2 W) : Tabs W := by
  rw [MakeChecks.laidMetH_plain _ _ _ (by kernel_rfl)] at h
  have h2 := laid_tail h
  have h1 := h
  unfold laid2 at h1
  rw [begin_is] at h1
  rw [k_is] at h2
  have t1 := Lib.tabIs_of_head gBegin tBegin Tryz.underlying151 Tryz.underlying60 cells51 cells52 h1
  have t2 := Lib.tabIs_of_head gK tK Tryz.underlying177 Tryz.underlying60 cells51 cells69 h2
  refine ⟨fun j hj => ?_, fun j hj => ?_, ?_⟩
  · rw [t1.cell gBegin j (by simpa [beginZ] using hj)]
    congr 2
    have : ∀ t : Fin 8, beginZ.getD t.1 0 = ((Sha.I.getD t.1 0 : Nat) : Int) := by decide
    exact this ⟨j, hj⟩
  · rw [t2.cell gK j (by simpa [kZ, Sha.K] using hj)]
    congr 2
    have : ∀ t : Fin 64, kZ.getD t.1 0 = ((Sha.K.getD t.1 0 : Nat) : Int) := by decide +kernel
    exact this ⟨j, hj⟩
  · have := World.block_lt_of_cell? W _ (t2.cell gK 0 (by decide +kernel))
    exact this
end Go.Proofs.YtdbhboglccggdaaGreatDoor
