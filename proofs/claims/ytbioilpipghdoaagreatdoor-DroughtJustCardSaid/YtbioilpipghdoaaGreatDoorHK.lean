/- Contracts of functions that the laws of this seat call, or the evaluator of closed calls and its runs. Conditions: as each theorem states them. -/
import Derived.Test.YtbioilpipghdoaaGreatDoorHJ
set_option linter.unusedVariables false
set_option linter.unusedSimpArgs false
namespace Go.Kn
open Go Go.Proofs Go.RowKit
set_option maxHeartbeats 1000000 in
theorem lawju_w (f : Int) (na oa sa : Option Addr) (ln cn lo co ls cs : Nat) (N : Nat → N2) (U : Nat → O3) (s : Nat → Int) (w : World) (hls : ln ≤ maxLen) (hlt : lo ≤ maxLen) (hlz : ls ≤ maxLen) (H : Tr7 w na oa ln lo N U) (HS : IntSl w sa ls s) (K : KnownOk) :
    Calls Tryz.prog 5 #[.agg #[.int .i64 f, .slice na ln cn, .slice oa lo co], .slice sa ls cs] w
      fun e w' => e = .returned (.bool true) ∧ Below w.heap.size w w' := by
  by_cases hq : ln ≤ 8 ∧ lo ≤ 10
  · by_cases hq2 : 12 < ls
    · exact lawju_b f na oa sa ln cn lo co ls cs N U s w (by omega) (by omega) hlz (Lib.hid H) (Lib.hid HS) (Lib.hid K) hq hq2
    · by_cases HR : TreeP f ln lo N U
      · by_cases HSP : SharesP ls lo s U
        · obtain rfl := HSP.len
          exact lawju_e f na oa sa ln cn ls co cs N U s w (by omega) (by omega) hlz (Lib.hid H) (Lib.hid HS) (Lib.hid K) hq hq2 (Lib.hid HR) (Lib.hid HSP)
        · exact lawju_d f na oa sa ln cn lo co ls cs N U s w (by omega) (by omega) hlz (Lib.hid H) (Lib.hid HS) (Lib.hid K) hq hq2 (Lib.hid HR) (Lib.hid HSP)
      · exact lawju_c f na oa sa ln cn lo co ls cs N U s w (by omega) (by omega) hlz (Lib.hid H) (Lib.hid HS) (Lib.hid K) hq hq2 (Lib.hid HR)
  · exact lawju_a f na oa sa ln cn lo co ls cs N U s w hls hlt hlz (Lib.hid H) (Lib.hid HS) (Lib.hid K) hq
end Go.Kn
