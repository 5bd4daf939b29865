/- Walks of functions of layer 2 (contracts that the laws of this seat use). Conditions: as each theorem states them. -/
import Derived.Test.YtfjfipijogjkbaaGreatDoorEW
import Derived.Test.YtfjfipijogjkbaaGreatDoorTie
import Derived.Test.YtfjfipijogjkbaaGreatDoorCards
import Derived.ProofKit
import Derived.OpenShut
import Derived.LaidMore
import Derived.Lay
import Derived.Carry
import Derived.SevenTiedAt
import Derived.Stop.Joined
set_option linter.unusedVariables false
set_option linter.unusedSimpArgs false
namespace Go.Proofs.YtfjfipijogjkbaaGreatDoor
open Go Go.Proofs Go.ChangeShapes Go.WideShapes Go.ChangeAt Go.RowKit

theorem jand {a b : Bool} (h1 : a = true) (h2 : b = true) : (a && b) = true := by rw [h1, h2]; rfl

set_option maxRecDepth 100000 in
set_option maxHeartbeats 40000000 in
theorem more_facts : joinedFacts Tryz.pinned.checked.prog 7 Tryz.f7 Rows.channelMoreSpec Rows.channelMoreRow = true := by
  unfold joinedFacts
  repeat' (with_reducible refine jand ?_ ?_)
  all_goals decide +kernel
end Go.Proofs.YtfjfipijogjkbaaGreatDoor
