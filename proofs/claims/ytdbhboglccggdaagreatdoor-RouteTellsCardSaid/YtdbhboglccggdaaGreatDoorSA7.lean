/- The digest of abc. -/
import Derived.Test.YtdbhboglccggdaaGreatDoorGrow
set_option linter.unusedVariables false
set_option linter.unusedSimpArgs false
namespace Go.Proofs.YtdbhboglccggdaaGreatDoor
open Go.RowKit
def abc : List Nat := [97, 98, 99]
theorem abcP : pt (sha abc) 8 = 13436514500253700074 := by decide +kernel

theorem exec_load {P : Program} {ev : Operand → Value} {o : Oper} {w w' : World} {v : Value} (ty : TypeId) (x : Operand) (ho : o.op = .load ty x) (b off : Nat) (hx : ev x = .pointer (some ⟨b, off, none⟩))
    (hl : (loadVar ty ⟨b, off, none⟩).run P w = .ok v w') : (execOp ev o).run P w = .ok (.value v) w' := by
  unfold execOp
  simp only [ho, hx, Instr.loadAt, Instr.sureAddr, Sem.run_bind, Sem.run_pure, Result.andThen_ok, hl]
theorem agg5 (w : World) : (isAgg 5).run Tryz.prog w = .ok false w := by kernel_rfl

end Go.Proofs.YtdbhboglccggdaaGreatDoor
