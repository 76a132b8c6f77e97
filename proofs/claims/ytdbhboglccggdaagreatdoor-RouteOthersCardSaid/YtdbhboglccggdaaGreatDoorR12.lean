/- A ring's points and owners. -/
import Derived.Test.YtdbhboglccggdaaGreatDoorR11
set_option maxRecDepth 100000
set_option linter.unusedVariables false
set_option linter.unusedSimpArgs false
namespace Go.Proofs.YtdbhboglccggdaaGreatDoor
open Go.RowKit
theorem info79z : (Tryz.prog.info? 101).map (fun i => (i.zero, i.size)) = some (some (.agg (ptC (0, 0))), 2) := by kernel_rfl
theorem size79 : (Tryz.prog.info? 101).map (·.size) = some 2 := by kernel_rfl
end Go.Proofs.YtdbhboglccggdaaGreatDoor
