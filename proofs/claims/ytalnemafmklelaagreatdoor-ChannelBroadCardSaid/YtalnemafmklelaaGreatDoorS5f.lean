/- The law ChannelBroad returns true, without a panic, for every line, all ages, every need, stretch and breadth, at commit 31547c6. No condition beyond those of the given statement. -/
import Derived.Test.YtalnemafmklelaaGreatDoorTie
import Derived.Test.YtalnemafmklelaaGreatDoorCards
import Derived.ProofKit
import Derived.OpenShut
import Derived.LaidMore
import Derived.Lay
import Derived.Carry
import Derived.SevenTiedAt
import Derived.Stop.Joined
set_option linter.unusedVariables false
set_option linter.unusedSimpArgs false
namespace Go.Proofs.YtalnemafmklelaaGreatDoor
open Go Go.Proofs Go.ChangeShapes Go.WideShapes Go.ChangeAt Go.RowKit

theorem jandchannelBroad {a b : Bool} (h1 : a = true) (h2 : b = true) : (a && b) = true := by rw [h1, h2]; rfl

set_option maxRecDepth 100000 in
set_option maxHeartbeats 40000000 in
theorem channelBroad_facts : joinedFacts Tryz.pinned.checked.prog 15 Tryz.f15 Rows.channelBroadSpec Rows.channelBroadRow = true := by
  unfold joinedFacts
  repeat' (with_reducible refine jandchannelBroad ?_ ?_)
  all_goals decide +kernel
end Go.Proofs.YtalnemafmklelaaGreatDoor
