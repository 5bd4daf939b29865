/- Contracts of functions that the laws of this seat call, or the evaluator of closed calls and its runs. Conditions: as each theorem states them. -/
import Derived.Test.YtddlghdglknloaaGreatDoorKA
set_option linter.unusedVariables false
set_option linter.unusedSimpArgs false
namespace Go.Kn
open Go Go.Clo
theorem rCut0 : rowRun T1 400 24 rowCut0 = true := by kernel_rfl
theorem rFewest0 : rowRun T1 400 37 rowFewest0 = true := by kernel_rfl
theorem rMoves0 : rowRun T1 400 38 rowMoves0 = true := by kernel_rfl
end Go.Kn
