/- The function of the chapter's known examples returns true in every world: run by the kernel (a part of it). No condition. -/
import Derived.Test.YtifdohhffmlbaaaGreatDoorKA
set_option linter.unusedVariables false
set_option linter.unusedSimpArgs false
namespace Go.Kn
open Go Go.Clo
theorem g0 : gRun 0 59 = true := by kernel_rfl
end Go.Kn
