/- Contracts of functions that the laws of this seat call, or the evaluator of closed calls and its runs. Conditions: as each theorem states them. -/
import Derived.Test.YtddlghdglknloaaGreatDoorKA
set_option linter.unusedVariables false
set_option linter.unusedSimpArgs false
namespace Go.Kn
open Go Go.Clo
theorem rFeeds0 : rowRun T1 400 17 rowFeeds0 = true := by kernel_rfl
theorem rVital0 : rowRun T1 400 44 rowVital0 = true := by kernel_rfl
theorem rPlan0 : rowRun T1 400 50 rowPlan0 = true := by kernel_rfl
theorem rRounds0 : rowRun T1 400 52 rowRounds0 = true := by kernel_rfl
end Go.Kn
