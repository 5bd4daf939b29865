/- Contracts of functions that the laws of this seat call, or the evaluator of closed calls and its runs. Conditions: as each theorem states them. -/
import Derived.Test.YtddlghdglknloaaGreatDoorKA
set_option linter.unusedVariables false
set_option linter.unusedSimpArgs false
namespace Go.Kn
open Go Go.Clo
theorem rFed0 : rowRun T1 400 23 rowFed0 = true := by kernel_rfl
theorem rFed1 : rowRun T1 400 23 rowFed1 = true := by kernel_rfl
theorem rMost0 : rowRun T1 400 29 rowMost0 = true := by kernel_rfl
end Go.Kn
