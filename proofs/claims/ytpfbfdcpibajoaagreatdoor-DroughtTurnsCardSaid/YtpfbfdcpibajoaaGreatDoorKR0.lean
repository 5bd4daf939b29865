/- Contracts of functions that the laws of this seat call, or the evaluator of closed calls and its runs. Conditions: as each theorem states them. -/
import Derived.Test.YtpfbfdcpibajoaaGreatDoorKA
set_option linter.unusedVariables false
set_option linter.unusedSimpArgs false
namespace Go.Kn
open Go Go.Clo
theorem r0_ok : rowRun T0 400 72 row0 = true := by kernel_rfl
theorem r1_ok : rowRun T0 400 72 row1 = true := by kernel_rfl
theorem r2_ok : rowRun T0 400 72 row2 = true := by kernel_rfl
theorem r10_ok : rowRun T0 400 72 row10 = true := by kernel_rfl
end Go.Kn
