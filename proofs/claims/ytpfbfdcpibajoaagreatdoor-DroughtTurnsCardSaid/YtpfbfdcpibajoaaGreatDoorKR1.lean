/- Contracts of functions that the laws of this seat call, or the evaluator of closed calls and its runs. Conditions: as each theorem states them. -/
import Derived.Test.YtpfbfdcpibajoaaGreatDoorKA
set_option linter.unusedVariables false
set_option linter.unusedSimpArgs false
namespace Go.Kn
open Go Go.Clo
theorem r3_ok : rowRun T0 400 72 row3 = true := by kernel_rfl
theorem r4_ok : rowRun T0 400 72 row4 = true := by kernel_rfl
theorem r5_ok : rowRun T0 400 72 row5 = true := by kernel_rfl
theorem r11_ok : rowRun T0 400 72 row11 = true := by kernel_rfl
end Go.Kn
