/- The law ChannelTrue returns true, without a panic, for every line, stretch, age, rate and later age, at commit 31547c6. No condition beyond those of the given statement. -/
import Derived.Test.YtalnemafmklelaaGreatDoorTie
import Derived.Test.YtalnemafmklelaaGreatDoorCards
import Derived.ProofKit
import Derived.OpenShut
import Derived.LaidMore
import Derived.Lay
import Derived.SevenTiedAt
import Derived.Stop.Joined
set_option linter.unusedVariables false
set_option linter.unusedSimpArgs false
namespace Go.Proofs.YtalnemafmklelaaGreatDoor
open Go Go.Proofs Go.ChangeShapes Go.WideShapes Go.ChangeAt Go.RowKit

theorem jandchannelTrue {a b : Bool} (h1 : a = true) (h2 : b = true) : (a && b) = true := by rw [h1, h2]; rfl

set_option maxRecDepth 100000 in
set_option maxHeartbeats 40000000 in
theorem channelTrue_facts : joinedFacts Tryz.pinned.checked.prog 4 Tryz.f4 Rows.channelTrueSpec Rows.channelTrueRow = true := by
  unfold joinedFacts
  repeat' (with_reducible refine jandchannelTrue ?_ ?_)
  all_goals decide +kernel
end Go.Proofs.YtalnemafmklelaaGreatDoor
