/- Contracts of functions that the laws of this seat call, or the evaluator of closed calls and its runs. Conditions: as each theorem states them. -/
import Derived.Test.YtpbhpgebaopdoaaGreatDoorJQ
import Derived.Test.YtpbhpgebaopdoaaGreatDoorT2
set_option linter.unusedVariables false
set_option linter.unusedSimpArgs false
namespace Go.Kn
open Go Go.Proofs Go.RowKit
theorem pow_of_laid {x y : String × DataW Unit} {rest : List (String × DataW Unit)} {W : World} (h : laidMet Tryz.prog (x :: y :: ("internal/strconv.uint64pow10", Lib.tabData .u64 Lib.pow10Tab) :: rest) W) : Pow W :=
  Lib.tabBelow_of_tabIs (Lib.tabIs_of_head (g := 1) (t := 225) (e := 206) (n := 20) (by kernel_rfl) (by kernel_rfl) Tryz.underlying225 Tryz.underlying206 (by kernel_rfl) (by kernel_rfl) (laidMet.tail (laidMet.tail h)))

theorem ml_of_shape {W : World} (h : W.ShapedOpen Tryz.prog) : ML W := Tryz.laysM146.s1_3 W h
end Go.Kn
