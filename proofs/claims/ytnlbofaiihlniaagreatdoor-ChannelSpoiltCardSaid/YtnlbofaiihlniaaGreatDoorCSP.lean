/- A text of a line of which one digit was changed to another one is never read: ChannelSpoilt answers true whatever the line, the place and the digit. Conditions: none but those of the card. -/
import Derived.Test.YtnlbofaiihlniaaGreatDoorGW
import Derived.Test.YtnlbofaiihlniaaGreatDoorGL
import Derived.Test.YtnlbofaiihlniaaGreatDoorTie
import Derived.Test.YtnlbofaiihlniaaGreatDoorCards
import Derived.ProofKit
import Derived.OpenShut
import Derived.LaidMore
import Derived.Lay
import Derived.Carry
import Derived.SevenTiedAt
import Derived.Stop.Joined
import Derived.Test.YtnlbofaiihlniaaGreatDoorKB
set_option linter.unusedVariables false
set_option linter.unusedSimpArgs false
namespace Go.Proofs.YtnlbofaiihlniaaGreatDoor
open Go Go.Proofs Go.ChangeShapes Go.WideShapes Go.ChangeAt Go.RowKit Go.Kn Go.Joins

theorem kspoi_own : ownKnob Tryz.prog.godebug = none := by kernel_rfl
theorem kspoi_laidOut : laidOutB Tryz.prog = true := by kernel_rfl

set_option maxRecDepth 100000 in
theorem channelSpoilt_lifted (K : KnownOk) (os : Os) (started : os.Started) (H : Type) (enc : TypeId × Value → H) :
    ReturnsInHanded {} Tryz.checked os 5 .any (fun w args => (Rows.channelSpoiltSpec.pre enc Tryz.prog Tryz.f5 Rows.channelSpoiltRow.domain false w args ∧ laidMetH Tryz.prog Rows.channelSpoiltRow.laid w) ∧ sizedMet enc Tryz.prog Tryz.f5 (OpenSpec.ofChange Rows.channelSpoiltSpec) false w args)
      (Rows.channelSpoiltSpec.post enc Tryz.prog Tryz.f5 false true false false) := by
  refine retShaped (C := Tryz.checked) (X := fun w _ => laidMetH Tryz.prog Rows.channelSpoiltRow.laid w) (fun _ _ _ hh h => h.of_heap hh) kspoi_own started (by kernel_rfl) Tryz.func5
    (ChangeSpec.witness_shaped (enc := enc) (C := Tryz.checked) (os := os) (X := fun w _ => laidMetH Tryz.prog Rows.channelSpoiltRow.laid w) false (World.laidAll Tryz.prog os Rows.channelSpoiltRow.laid) #[.agg #[.slice none 0 0, .slice none 0 0], .int .i64 0, .int .i64 0] 8 (World.laidAll_os _ _ _)
      (World.shaped_of_ZipB (by kernel_rfl) (by kernel_rfl)) (by kernel_rfl) (by kernel_rfl) (by kernel_rfl)
      (by rw [MakeChecks.laidMetH_plain _ _ _ (by kernel_rfl)]; exact laidMet_laidAll _ (by kernel_rfl) (by kernel_rfl))) ?_
  intro W base args ds gs before hval0 hW hL hsh
  have hL1 := hL
  rw [MakeChecks.laidMetH_plain _ _ _ (by kernel_rfl)] at hL1
  have hPw := Lib.hid (pow_of_laid hL1)
  have hMl := Lib.hid (ml_of_shape hsh)
  clear hL1 hL hsh
  have hval : ∀ (j : Nat) t v, Tryz.f5.params[j]? = some t → args[j]? = some v → Value.okWide Tryz.prog W .any base t v := hval0
  have hW' := hW
  obtain ⟨p, q, hA0, hV, rfl, _, _⟩ := hW
  have hA : DataW.TrodAll enc Tryz.prog W 0 (fun _ => true) true Tryz.f5.params.toList args.toList ds p := hA0
  rw [Tryz.params5] at hA hval
  obtain ⟨v0, v1, v2, d0, d1, d2, p0, p1, p2, rfl, rfl, rfl, h0, h1, h2⟩ := trodAll_three hA
  obtain ⟨rfl, rfl⟩ := trodVars_none hV
  obtain ⟨z1, rfl, rfl, rfl, wz1⟩ := open_int Tryz.underlying3 (hval 1 3 v1 rfl rfl) h1
  obtain ⟨z2, rfl, rfl, rfl, wz2⟩ := open_int Tryz.underlying3 (hval 2 3 v2 rfl rfl) h2
  have hk0 := h0
  obtain ⟨u0, u1, y0, y1, n, rfl, rfl, rfl, hy0, hy1⟩ := open_agg2 Tryz.underlying25 (by kernel_rfl) cells25 (hval 0 25 v0 rfl rfl) h0
  obtain ⟨sa, ls, cs, s, rfl, hls, HS⟩ := num_open hy0
  obtain ⟨ta, lt, ct, t, rfl, hlt, HT⟩ := st_open hy1
  clear hA0 hval0
  have hlt0 : ∀ x ∈ y0.2 ++ y1.2, x.block < W.heap.size := fun x hx => by
    have := hW'.lt x (by simp at hx ⊢; rcases hx with hx | hx <;> simp [hx])
    simpa using this
  refine (lawsp_w sa ta ls cs lt ct s t z1 z2 W hls hlt HS HT hPw hMl (Lib.hid K)).mono fun e W' ⟨he, hb⟩ => ?_
  subst he
  refine ⟨_, rfl, ?_⟩
  refine ⟨_, _, _, [], (y0.2 ++ y1.2) ++ ([] ++ ([])), [], hW', ?_, ?_, rfl, hb.frame _, fun h => by cases h⟩
  · exact trodAll_mk1 (shut_bool Tryz.underlying4 _)
  · exact trodAll_cons_mk (Below.trod kspoi_laidOut (by kernel_rfl) (of_decide_eq_true (by kernel_rfl)) hk0 hb hlt0) (trodAll_cons_mk (shut_int Tryz.underlying3 wz1) (trodAll_mk1 (shut_int Tryz.underlying3 wz2)))

theorem channelSpoilt_holds (K : KnownOk) : Rows.ChannelSpoiltSaid :=
  OpenClaim.holds_of_wide 5 Tryz.f5 rfl rfl rfl rfl rfl rfl rfl ⟨rfl, rfl, rfl, rfl, rfl⟩ rfl rfl rfl rfl rfl (by kernel_rfl) Tryz.func5 (by kernel_rfl)
    (of_decide_eq_true (by kernel_rfl)) (by unfold Func.isWrapper; first | (rw [if_pos (by decide +kernel)]; kernel_rfl) | (rw [if_neg (by decide +kernel)]; exact ⟨rfl, rfl⟩))
    (fun os started H enc _ => channelSpoilt_lifted K os started H enc)

theorem channelSpoilt_card (K : KnownOk) : Rows.ChannelSpoiltCardSaid :=
  Claim7.holds_tied_plain_at .later [] [.data, .data, .data, .data, .pinned] true (true, "dd7948b7f1981bc219377ace6ecea2cc4daefeb3c368e16be1f78e52dee1c9f4") true (channelSpoilt_holds K) (fun _ h => by cases h) (by kernel_rfl) (fun _ h => by cases h) channelSpoilt_row_tie rfl ⟨rfl, rfl⟩ (by kernel_rfl) rfl
    (fun f fn hf hfn => by
      obtain rfl : f = 5 := Option.some.inj ((show Tryz.prog.funcNamed "quinaria/quinarialaw02.ChannelSpoilt" = some 5 by kernel_rfl).symm.trans hf) |>.symm
      obtain rfl : fn = Tryz.f5 := (Option.some.inj (Tryz.func5.symm.trans hfn)).symm
      exact ⟨by kernel_rfl, fun j t ht => by
        rw [Tryz.params5] at ht
        have hm : t ∈ [25, 3, 3] := by simpa using Array.mem_of_getElem? ht
        have hall : ([25, 3, 3].all fun u => !Tryz.prog.wantsStandIn u) = true := by kernel_rfl
        exact (show Tryz.prog.wantsStandIn t = false by simpa using List.all_eq_true.1 hall t hm)⟩)
    (by kernel_rfl)
/-- THE CARD. -/
theorem channelSpoilt_proved : Rows.ChannelSpoiltCardSaid := channelSpoilt_card known_calls
#print axioms channelSpoilt_proved
end Go.Proofs.YtnlbofaiihlniaaGreatDoor
