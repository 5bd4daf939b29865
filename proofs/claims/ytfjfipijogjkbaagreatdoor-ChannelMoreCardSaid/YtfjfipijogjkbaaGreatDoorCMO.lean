/- For every line, stretch, ages, widths, need, siphon, classes and class more the law that more is never worse returns true, and leaves its arguments as they were. No conditions. -/
import Derived.Test.YtfjfipijogjkbaaGreatDoorCMH
import Derived.Test.YtfjfipijogjkbaaGreatDoorTie
import Derived.Test.YtfjfipijogjkbaaGreatDoorCards
import Derived.ProofKit
import Derived.OpenShut
import Derived.LaidMore
import Derived.Lay
import Derived.Carry
import Derived.SevenTiedAt
import Derived.Stop.Joined
import Derived.Test.YtfjfipijogjkbaaGreatDoorKB
set_option linter.unusedVariables false
set_option linter.unusedSimpArgs false
namespace Go.Proofs.YtfjfipijogjkbaaGreatDoor
open Go Go.Proofs Go.ChangeShapes Go.WideShapes Go.ChangeAt Go.RowKit Go.Kn Go.Joins

theorem channelMore_card (K : KnownOk') : Rows.ChannelMoreCardSaid :=
  Claim7.holds_tied_plain_at .later [] [.data, .data, .data, .data, .pinned] true (true, "1506d26a0f60c33fb576bc2b41af569fda77dac288cdb9d6378bd4a40c7761f5") true (channelMore_holds K) (fun _ h => by cases h) (by kernel_rfl) (fun _ h => by cases h) channelMore_row_tie rfl ⟨rfl, rfl⟩ (by kernel_rfl) rfl
    (fun f fn hf hfn => by
      obtain rfl : f = 7 := Option.some.inj ((show Tryz.prog.funcNamed "quinaria/quinarialaw02.ChannelMore" = some 7 by kernel_rfl).symm.trans hf) |>.symm
      obtain rfl : fn = Tryz.f7 := (Option.some.inj (Tryz.func7.symm.trans hfn)).symm
      exact ⟨by kernel_rfl, fun j t ht => by
        rw [Tryz.params7] at ht
        have hm : t ∈ [25, 3, 22, 3, 3, 3, 3, 40, 41, 54] := by simpa using Array.mem_of_getElem? ht
        have hall : ([25, 3, 22, 3, 3, 3, 3, 40, 41, 54].all fun u => !Tryz.prog.wantsStandIn u) = true := by kernel_rfl
        exact (show Tryz.prog.wantsStandIn t = false by simpa using List.all_eq_true.1 hall t hm)⟩)
    (by kernel_rfl)
/-- THE CARD. -/
theorem channelMore_proved : Rows.ChannelMoreCardSaid := channelMore_card known_calls
#print axioms channelMore_proved
end Go.Proofs.YtfjfipijogjkbaaGreatDoor
