/- The law GateLess holds for all networks, positions, gates, channels, points and lists: a gate more that is open, a channel that carries more and a need that is less never make a network less fed, and of channels that can be emptied any some can be. Conditions: as the statement has them. -/
import Derived.Test.YtddlghdglknloaaGreatDoorJQ
import Derived.Test.YtddlghdglknloaaGreatDoorO2
import Derived.Test.YtddlghdglknloaaGreatDoorTie
import Derived.Test.YtddlghdglknloaaGreatDoorCards
import Derived.ProofKit
import Derived.OpenShut
import Derived.LaidMore
import Derived.Lay
import Derived.Carry
import Derived.SevenTiedAt
import Derived.Stop.Joined
import Derived.Test.YtddlghdglknloaaGreatDoorKB
set_option linter.unusedVariables false
set_option linter.unusedSimpArgs false
namespace Go.Proofs.YtddlghdglknloaaGreatDoor
open Go Go.Proofs Go.ChangeShapes Go.WideShapes Go.ChangeAt Go.RowKit Go.Kn Go.Joins

theorem kless_own : ownKnob Tryz.prog.godebug = none := by kernel_rfl
theorem kless_laidOut : laidOutB Tryz.prog = true := by kernel_rfl

theorem kless_args {H : Type} {enc : TypeId × Value → H} {P : Program} {w : World} {base : Nat} {spare : Nat → Bool} {held : Bool} {t0 t1 t2 t3 t4 t5 t6 t7 t8 : TypeId} {args : Array Value} {ds : List (DataW H)} {ps : List MemPlace} (h : DataW.TrodAll enc P w base spare held [t0, t1, t2, t3, t4, t5, t6, t7, t8] args.toList ds ps) :
    ∃ v0 v1 v2 v3 v4 v5 v6 v7 v8 d0 d1 d2 d3 d4 d5 d6 d7 d8 p0 p1 p2 p3 p4 p5 p6 p7 p8, args = #[v0, v1, v2, v3, v4, v5, v6, v7, v8] ∧ ds = [d0, d1, d2, d3, d4, d5, d6, d7, d8] ∧ ps = p0 ++ (p1 ++ (p2 ++ (p3 ++ (p4 ++ (p5 ++ (p6 ++ (p7 ++ (p8)))))))) ∧
      DataW.Trod enc P w base spare held t0 v0 d0 p0 ∧ DataW.Trod enc P w base spare held t1 v1 d1 p1 ∧ DataW.Trod enc P w base spare held t2 v2 d2 p2 ∧ DataW.Trod enc P w base spare held t3 v3 d3 p3 ∧ DataW.Trod enc P w base spare held t4 v4 d4 p4 ∧ DataW.Trod enc P w base spare held t5 v5 d5 p5 ∧ DataW.Trod enc P w base spare held t6 v6 d6 p6 ∧ DataW.Trod enc P w base spare held t7 v7 d7 p7 ∧ DataW.Trod enc P w base spare held t8 v8 d8 p8 := by
  obtain ⟨v0, r0, d0, e0, p0, q0, h0, rfl, rfl, g0, hr0⟩ := trodAll_cons h
  obtain ⟨v1, r1, d1, e1, p1, q1, rfl, rfl, rfl, g1, hr1⟩ := trodAll_cons hr0
  obtain ⟨v2, r2, d2, e2, p2, q2, rfl, rfl, rfl, g2, hr2⟩ := trodAll_cons hr1
  obtain ⟨v3, r3, d3, e3, p3, q3, rfl, rfl, rfl, g3, hr3⟩ := trodAll_cons hr2
  obtain ⟨v4, r4, d4, e4, p4, q4, rfl, rfl, rfl, g4, hr4⟩ := trodAll_cons hr3
  obtain ⟨v5, r5, d5, e5, p5, q5, rfl, rfl, rfl, g5, hr5⟩ := trodAll_cons hr4
  obtain ⟨v6, r6, d6, e6, p6, q6, rfl, rfl, rfl, g6, hr6⟩ := trodAll_cons hr5
  obtain ⟨v7, r7, d7, e7, p7, q7, rfl, rfl, rfl, g7, hr7⟩ := trodAll_cons hr6
  obtain ⟨v8, r8, d8, e8, p8, q8, rfl, rfl, rfl, g8, hr8⟩ := trodAll_cons hr7
  obtain ⟨rfl, rfl, rfl⟩ := trodAll_nil hr8
  exact ⟨v0, v1, v2, v3, v4, v5, v6, v7, v8, d0, d1, d2, d3, d4, d5, d6, d7, d8, p0, p1, p2, p3, p4, p5, p6, p7, p8, by cases args; simp_all, rfl, by simp, g0, g1, g2, g3, g4, g5, g6, g7, g8⟩

set_option maxRecDepth 100000 in
theorem gateLess_lifted (K : KnownOk) (os : Os) (started : os.Started) (H : Type) (enc : TypeId × Value → H) :
    ReturnsInHanded {} Tryz.checked os 14 .any (fun w args => (Rows.gateLessSpec.pre enc Tryz.prog Tryz.f14 Rows.gateLessRow.domain false w args ∧ laidMetH Tryz.prog Rows.gateLessRow.laid w) ∧ sizedMet enc Tryz.prog Tryz.f14 (OpenSpec.ofChange Rows.gateLessSpec) false w args)
      (Rows.gateLessSpec.post enc Tryz.prog Tryz.f14 false true false false) := by
  refine retShaped (C := Tryz.checked) (X := fun w _ => laidMetH Tryz.prog Rows.gateLessRow.laid w) (fun _ _ _ hh h => h.of_heap hh) kless_own started (by kernel_rfl) Tryz.func14
    (ChangeSpec.witness_shaped (enc := enc) (C := Tryz.checked) (os := os) (X := fun w _ => laidMetH Tryz.prog Rows.gateLessRow.laid w) false (World.laidAll Tryz.prog os Rows.gateLessRow.laid) #[.agg #[.slice none 0 0, .slice none 0 0], .slice none 0 0, .int .i64 0, .int .i64 0, .int .i64 0, .int .i64 0, .int .i64 0, .slice none 0 0, .slice none 0 0] 8 (World.laidAll_os _ _ _)
      (World.shaped_of_ZipB (by kernel_rfl) (by kernel_rfl)) (by kernel_rfl) (by kernel_rfl) (by kernel_rfl)
      (by rw [MakeChecks.laidMetH_plain _ _ _ (by kernel_rfl)]; exact laidMet_laidAll _ (by kernel_rfl) (by kernel_rfl))) ?_
  intro W base args ds gs before hval0 hW hL hsh
  have hL1 := hL
  rw [MakeChecks.laidMetH_plain _ _ _ (by kernel_rfl)] at hL1
  have hPw := Lib.hid (pw_of hL1 hsh)
  clear hL1 hL hsh
  have hval : ∀ (j : Nat) t v, Tryz.f14.params[j]? = some t → args[j]? = some v → Value.okWide Tryz.prog W .any base t v := hval0
  have hW' := hW
  obtain ⟨p, q, hA0, hV, rfl, _, _⟩ := hW
  have hA : DataW.TrodAll enc Tryz.prog W 0 (fun _ => true) true Tryz.f14.params.toList args.toList ds p := hA0
  rw [Tryz.params14] at hA hval
  obtain ⟨v0, v1, v2, v3, v4, v5, v6, v7, v8, d0, d1, d2, d3, d4, d5, d6, d7, d8, p0, p1, p2, p3, p4, p5, p6, p7, p8, rfl, rfl, rfl, h0, h1, h2, h3, h4, h5, h6, h7, h8⟩ := kless_args hA
  obtain ⟨rfl, rfl⟩ := trodVars_none hV
  obtain ⟨z2, rfl, rfl, rfl, wz2⟩ := open_int Tryz.underlying3 (hval 2 3 v2 rfl rfl) h2
  obtain ⟨z3, rfl, rfl, rfl, wz3⟩ := open_int Tryz.underlying3 (hval 3 3 v3 rfl rfl) h3
  obtain ⟨z4, rfl, rfl, rfl, wz4⟩ := open_int Tryz.underlying3 (hval 4 3 v4 rfl rfl) h4
  obtain ⟨z5, rfl, rfl, rfl, wz5⟩ := open_int Tryz.underlying3 (hval 5 3 v5 rfl rfl) h5
  obtain ⟨z6, rfl, rfl, rfl, wz6⟩ := open_int Tryz.underlying3 (hval 6 3 v6 rfl rfl) h6
  obtain ⟨pa, ca, lp, cp, lc, cc, P, C, rfl, hlp, hlc, HN, HU⟩ := net_open rfl (hval 0 25 v0 rfl rfl) h0
  obtain ⟨a1, n1, c1, rfl⟩ := okWide_slice Tryz.underlying26 (hval 1 26 v1 rfl rfl)
  obtain ⟨fu1, hf1⟩ := id h1
  obtain ⟨sq1, lq1, cq1, g1, e1, hlq1, HG1⟩ := int_open (v := .slice a1 n1 c1) hf1
  cases e1
  obtain ⟨a7, n7, c7, rfl⟩ := okWide_slice Tryz.underlying26 (hval 7 26 v7 rfl rfl)
  obtain ⟨fu7, hf7⟩ := id h7
  obtain ⟨sq7, lq7, cq7, g7, e7, hlq7, HG7⟩ := int_open (v := .slice a7 n7 c7) hf7
  cases e7
  obtain ⟨a8, n8, c8, rfl⟩ := okWide_slice Tryz.underlying26 (hval 8 26 v8 rfl rfl)
  obtain ⟨fu8, hf8⟩ := id h8
  obtain ⟨sq8, lq8, cq8, g8, e8, hlq8, HG8⟩ := int_open (v := .slice a8 n8 c8) hf8
  cases e8
  clear hA0 hval0
  have hlt0 : ∀ x ∈ p0, x.block < W.heap.size := fun x hx => by
    have := hW'.lt x (by simp [hx])
    simpa using this
  have hlt1 : ∀ x ∈ p1, x.block < W.heap.size := fun x hx => by
    have := hW'.lt x (by simp [hx])
    simpa using this
  have hlt7 : ∀ x ∈ p7, x.block < W.heap.size := fun x hx => by
    have := hW'.lt x (by simp [hx])
    simpa using this
  have hlt8 : ∀ x ∈ p8, x.block < W.heap.size := fun x hx => by
    have := hW'.lt x (by simp [hx])
    simpa using this
  refine (lawle_w pa ca lp cp lc cc P C a1 a7 a8 n1 c1 n7 c7 n8 c8 g1 g7 g8 z2 z3 z4 z5 z6 W (Lib.hid ⟨HN, HU⟩) (Lib.hid HG1) hlq1 (Lib.hid HG7) hlq7 (Lib.hid HG8) hlq8 (Lib.hid K) hPw).mono fun e W' ⟨he, hb⟩ => ?_
  subst he
  refine ⟨_, rfl, ?_⟩
  refine ⟨_, _, _, [], p0 ++ (p1 ++ ([] ++ ([] ++ ([] ++ ([] ++ ([] ++ (p7 ++ (p8)))))))), [], hW', ?_, ?_, rfl, hb.frame _, fun h => by cases h⟩
  · exact trodAll_mk1 (shut_bool Tryz.underlying4 _)
  · exact trodAll_cons_mk (Below.trod kless_laidOut (by kernel_rfl) (of_decide_eq_true (by kernel_rfl)) h0 hb hlt0) (trodAll_cons_mk (Below.trod kless_laidOut (by kernel_rfl) (of_decide_eq_true (by kernel_rfl)) h1 hb hlt1) (trodAll_cons_mk (shut_int Tryz.underlying3 wz2) (trodAll_cons_mk (shut_int Tryz.underlying3 wz3) (trodAll_cons_mk (shut_int Tryz.underlying3 wz4) (trodAll_cons_mk (shut_int Tryz.underlying3 wz5) (trodAll_cons_mk (shut_int Tryz.underlying3 wz6) (trodAll_cons_mk (Below.trod kless_laidOut (by kernel_rfl) (of_decide_eq_true (by kernel_rfl)) h7 hb hlt7) (trodAll_mk1 (Below.trod kless_laidOut (by kernel_rfl) (of_decide_eq_true (by kernel_rfl)) h8 hb hlt8)))))))))

theorem gateLess_holds (K : KnownOk) : Rows.GateLessSaid :=
  OpenClaim.holds_of_wide 14 Tryz.f14 rfl rfl rfl rfl rfl rfl rfl ⟨rfl, rfl, rfl, rfl, rfl⟩ rfl rfl rfl rfl rfl (by kernel_rfl) Tryz.func14 (by kernel_rfl)
    (of_decide_eq_true (by kernel_rfl)) (by unfold Func.isWrapper; first | (rw [if_pos (by decide +kernel)]; kernel_rfl) | (rw [if_neg (by decide +kernel)]; exact ⟨rfl, rfl⟩))
    (fun os started H enc _ => gateLess_lifted K os started H enc)

theorem gateLess_card (K : KnownOk) : Rows.GateLessCardSaid :=
  Claim7.holds_tied_plain_at .later [] [.data, .data, .data, .data, .pinned] true (true, "3f1769d5b283e4e81563835580316755629812d86574d2d8b676aefb0fdf8434") true (gateLess_holds K) (fun _ h => by cases h) (by kernel_rfl) (fun _ h => by cases h) gateLess_row_tie rfl ⟨rfl, rfl⟩ (by kernel_rfl) rfl
    (fun f fn hf hfn => by
      obtain rfl : f = 14 := Option.some.inj ((show Tryz.prog.funcNamed "quinaria/quinarialaw08.GateLess" = some 14 by kernel_rfl).symm.trans hf) |>.symm
      obtain rfl : fn = Tryz.f14 := (Option.some.inj (Tryz.func14.symm.trans hfn)).symm
      exact ⟨by kernel_rfl, fun j t ht => by
        rw [Tryz.params14] at ht
        have hm : t ∈ [25, 26, 3, 3, 3, 3, 3, 26, 26] := by simpa using Array.mem_of_getElem? ht
        have hall : ([25, 26, 3, 3, 3, 3, 3, 26, 26].all fun u => !Tryz.prog.wantsStandIn u) = true := by kernel_rfl
        exact (show Tryz.prog.wantsStandIn t = false by simpa using List.all_eq_true.1 hall t hm)⟩)
    (by kernel_rfl)
/-- THE CARD. -/
theorem gateLess_proved : Rows.GateLessCardSaid := gateLess_card known_calls
#print axioms gateLess_proved
end Go.Proofs.YtddlghdglknloaaGreatDoor
