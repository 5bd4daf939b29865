/- The law GateSpoilt holds for all networks, places and digits: a text of a network of which one digit was changed to another one is never read. Conditions: as the statement has them. -/
import Derived.Test.YtpbhpgebaopdoaaGreatDoorT4
import Derived.Test.YtpbhpgebaopdoaaGreatDoorT3
import Derived.Test.YtpbhpgebaopdoaaGreatDoorTie
import Derived.Test.YtpbhpgebaopdoaaGreatDoorCards
import Derived.ProofKit
import Derived.OpenShut
import Derived.LaidMore
import Derived.Lay
import Derived.Carry
import Derived.SevenTiedAt
import Derived.Stop.Joined
import Derived.Test.YtpbhpgebaopdoaaGreatDoorKB
set_option linter.unusedVariables false
set_option linter.unusedSimpArgs false
namespace Go.Proofs.YtpbhpgebaopdoaaGreatDoor
open Go Go.Proofs Go.ChangeShapes Go.WideShapes Go.ChangeAt Go.RowKit Go.Kn Go.Joins

theorem kspoi_own : ownKnob Tryz.prog.godebug = none := by kernel_rfl
theorem kspoi_laidOut : laidOutB Tryz.prog = true := by kernel_rfl

set_option maxRecDepth 100000 in
theorem gateSpoilt_lifted (K : KnownOk) (os : Os) (started : os.Started) (H : Type) (enc : TypeId × Value → H) :
    ReturnsInHanded {} Tryz.checked os 8 .any (fun w args => (Rows.gateSpoiltSpec.pre enc Tryz.prog Tryz.f8 Rows.gateSpoiltRow.domain false w args ∧ laidMetH Tryz.prog Rows.gateSpoiltRow.laid w) ∧ sizedMet enc Tryz.prog Tryz.f8 (OpenSpec.ofChange Rows.gateSpoiltSpec) false w args)
      (Rows.gateSpoiltSpec.post enc Tryz.prog Tryz.f8 false true false false) := by
  refine retShaped (C := Tryz.checked) (X := fun w _ => laidMetH Tryz.prog Rows.gateSpoiltRow.laid w) (fun _ _ _ hh h => h.of_heap hh) kspoi_own started (by kernel_rfl) Tryz.func8
    (ChangeSpec.witness_shaped (enc := enc) (C := Tryz.checked) (os := os) (X := fun w _ => laidMetH Tryz.prog Rows.gateSpoiltRow.laid w) false (World.laidAll Tryz.prog os Rows.gateSpoiltRow.laid) #[.agg #[.slice none 0 0, .slice none 0 0], .int .i64 0, .int .i64 0] 8 (World.laidAll_os _ _ _)
      (World.shaped_of_ZipB (by kernel_rfl) (by kernel_rfl)) (by kernel_rfl) (by kernel_rfl) (by kernel_rfl)
      (by rw [MakeChecks.laidMetH_plain _ _ _ (by kernel_rfl)]; exact laidMet_laidAll _ (by kernel_rfl) (by kernel_rfl))) ?_
  intro W base args ds gs before hval0 hW hL hsh
  have hL1 := hL
  rw [MakeChecks.laidMetH_plain _ _ _ (by kernel_rfl)] at hL1
  have hPw := Lib.hid (pw_of hL1 hsh)
  have hPo := Lib.hid (pow_of_laid hL1)
  have hMl := Lib.hid (ml_of_shape hsh)
  clear hL1 hL hsh
  have hval : ∀ (j : Nat) t v, Tryz.f8.params[j]? = some t → args[j]? = some v → Value.okWide Tryz.prog W .any base t v := hval0
  have hW' := hW
  obtain ⟨p, q, hA0, hV, rfl, _, _⟩ := hW
  have hA : DataW.TrodAll enc Tryz.prog W 0 (fun _ => true) true Tryz.f8.params.toList args.toList ds p := hA0
  rw [Tryz.params8] at hA hval
  obtain ⟨v0, v1, v2, d0, d1, d2, p0, p1, p2, rfl, rfl, rfl, h0, h1, h2⟩ := trodAll_three hA
  obtain ⟨rfl, rfl⟩ := trodVars_none hV
  obtain ⟨z1, rfl, rfl, rfl, wz1⟩ := open_int Tryz.underlying3 (hval 1 3 v1 rfl rfl) h1
  obtain ⟨z2, rfl, rfl, rfl, wz2⟩ := open_int Tryz.underlying3 (hval 2 3 v2 rfl rfl) h2
  obtain ⟨pa, ca, lp, cp, lc, cc, P, C, rfl, hlp, hlc, HN, HU⟩ := net_open rfl (hval 0 25 v0 rfl rfl) h0
  clear hA0 hval0
  have hlt0 : ∀ x ∈ p0, x.block < W.heap.size := fun x hx => by
    have := hW'.lt x (by simp [hx])
    simpa using this
  refine (lawsp_w pa ca lp cp lc cc P C z1 z2 W hlp hlc (Lib.hid ⟨HN, HU⟩) hPo hMl (Lib.hid K) hPw).mono fun e W' ⟨he, hb⟩ => ?_
  subst he
  refine ⟨_, rfl, ?_⟩
  refine ⟨_, _, _, [], p0 ++ ([] ++ ([])), [], hW', ?_, ?_, rfl, hb.frame _, fun h => by cases h⟩
  · exact trodAll_mk1 (shut_bool Tryz.underlying4 _)
  · exact trodAll_cons_mk (Below.trod kspoi_laidOut (by kernel_rfl) (of_decide_eq_true (by kernel_rfl)) h0 hb hlt0) (trodAll_cons_mk (shut_int Tryz.underlying3 wz1) (trodAll_mk1 (shut_int Tryz.underlying3 wz2)))

theorem gateSpoilt_holds (K : KnownOk) : Rows.GateSpoiltSaid :=
  OpenClaim.holds_of_wide 8 Tryz.f8 rfl rfl rfl rfl rfl rfl rfl ⟨rfl, rfl, rfl, rfl, rfl⟩ rfl rfl rfl rfl rfl (by kernel_rfl) Tryz.func8 (by kernel_rfl)
    (of_decide_eq_true (by kernel_rfl)) (by unfold Func.isWrapper; first | (rw [if_pos (by decide +kernel)]; kernel_rfl) | (rw [if_neg (by decide +kernel)]; exact ⟨rfl, rfl⟩))
    (fun os started H enc _ => gateSpoilt_lifted K os started H enc)

theorem gateSpoilt_card (K : KnownOk) : Rows.GateSpoiltCardSaid :=
  Claim7.holds_tied_plain_at .later [] [.data, .data, .data, .data, .pinned] true (true, "0c7b7fe5d3393365da11bc1569c36a15a4d8cf4cea5c6b31c4046894abaad881") true (gateSpoilt_holds K) (fun _ h => by cases h) (by kernel_rfl) (fun _ h => by cases h) gateSpoilt_row_tie rfl ⟨rfl, rfl⟩ (by kernel_rfl) rfl
    (fun f fn hf hfn => by
      obtain rfl : f = 8 := Option.some.inj ((show Tryz.prog.funcNamed "quinaria/quinarialaw08.GateSpoilt" = some 8 by kernel_rfl).symm.trans hf) |>.symm
      obtain rfl : fn = Tryz.f8 := (Option.some.inj (Tryz.func8.symm.trans hfn)).symm
      exact ⟨by kernel_rfl, fun j t ht => by
        rw [Tryz.params8] at ht
        have hm : t ∈ [25, 3, 3] := by simpa using Array.mem_of_getElem? ht
        have hall : ([25, 3, 3].all fun u => !Tryz.prog.wantsStandIn u) = true := by kernel_rfl
        exact (show Tryz.prog.wantsStandIn t = false by simpa using List.all_eq_true.1 hall t hm)⟩)
    (by kernel_rfl)
/-- THE CARD. -/
theorem gateSpoilt_proved : Rows.GateSpoiltCardSaid := gateSpoilt_card known_calls
#print axioms gateSpoilt_proved
end Go.Proofs.YtpbhpgebaopdoaaGreatDoor
