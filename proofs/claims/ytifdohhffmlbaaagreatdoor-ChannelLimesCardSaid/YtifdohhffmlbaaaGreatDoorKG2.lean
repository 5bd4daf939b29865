/- The function of the chapter's known examples returns true in every world: run by the kernel (a part of it). No condition. -/
import Derived.Test.YtifdohhffmlbaaaGreatDoorKA
set_option linter.unusedVariables false
set_option linter.unusedSimpArgs false
namespace Go.Kn
open Go Go.Clo
theorem g2 : gRun 2 9 = true := by kernel_rfl
end Go.Kn
