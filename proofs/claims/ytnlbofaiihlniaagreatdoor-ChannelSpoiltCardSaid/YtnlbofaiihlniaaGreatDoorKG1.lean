/- Walks of functions of layer 2 (contracts that the laws of this seat use). Conditions: as each theorem states them. -/
import Derived.Test.YtnlbofaiihlniaaGreatDoorKA
set_option linter.unusedVariables false
set_option linter.unusedSimpArgs false
namespace Go.Kn
open Go Go.Clo
theorem g1 : gRun 1 39 = true := by kernel_rfl
end Go.Kn
