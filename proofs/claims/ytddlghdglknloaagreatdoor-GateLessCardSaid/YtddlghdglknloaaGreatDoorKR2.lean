/- Contracts of functions that the laws of this seat call, or the evaluator of closed calls and its runs. Conditions: as each theorem states them. -/
import Derived.Test.YtddlghdglknloaaGreatDoorKA
set_option linter.unusedVariables false
set_option linter.unusedSimpArgs false
namespace Go.Kn
open Go Go.Clo
theorem rProof0 : rowRun T1 400 43 rowProof0 = true := by kernel_rfl
theorem rTogether0 : rowRun T1 400 51 rowTogether0 = true := by kernel_rfl
end Go.Kn
