/- The function of the chapter's known examples returns true in every world: run by the kernel (a part of it). No condition. -/
import Derived.Test.YtifdohhffmlbaaaGreatDoorKA
set_option linter.unusedVariables false
set_option linter.unusedSimpArgs false
namespace Go.Kn
open Go Go.Clo
theorem g1 : gRun 1 39 = true := by kernel_rfl
end Go.Kn
