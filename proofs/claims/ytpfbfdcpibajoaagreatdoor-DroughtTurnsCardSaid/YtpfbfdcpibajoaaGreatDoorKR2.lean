/- Contracts of functions that the laws of this seat call, or the evaluator of closed calls and its runs. Conditions: as each theorem states them. -/
import Derived.Test.YtpfbfdcpibajoaaGreatDoorKA
set_option linter.unusedVariables false
set_option linter.unusedSimpArgs false
namespace Go.Kn
open Go Go.Clo
theorem r6_ok : rowRun T0 400 72 row6 = true := by kernel_rfl
theorem r7_ok : rowRun T0 400 72 row7 = true := by kernel_rfl
theorem r8_ok : rowRun T0 400 72 row8 = true := by kernel_rfl
theorem r9_ok : rowRun T0 400 72 row9 = true := by kernel_rfl
end Go.Kn
