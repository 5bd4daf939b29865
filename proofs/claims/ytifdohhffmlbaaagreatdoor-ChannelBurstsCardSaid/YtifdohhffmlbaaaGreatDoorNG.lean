/- Walks of the functions of layer 2 that ChannelPressures calls, and the law itself (a part of it). Conditions: as each theorem states them. -/
import Derived.Test.YtifdohhffmlbaaaGreatDoorNF
import Derived.Test.YtifdohhffmlbaaaGreatDoorNB
set_option linter.unusedVariables false
set_option linter.unusedSimpArgs false
namespace Go.Kn
open Go Go.Proofs Go.RowKit

theorem rpress2_w (il ih : Int) (C P cp A O ll cl : Nat) (p : Nat → Sp2) (l : Nat → Int) (w : World) (H : Hid (SipAt w C P (ll + 1) A O ll il ih p l)) :
    Calls Tryz.prog 45 #[.agg #[.int .i64 il, .int .i64 ih, .slice (some ⟨C, P, none⟩) (ll + 1) cp, .slice (some ⟨A, O, none⟩) ll cl]] w
      fun e w' => (∃ g cap, e = .returned (.slice (some ⟨g, 0, none⟩) ll cap) ∧ w.heap.size ≤ g ∧ g < w'.heap.size ∧ SpAt w' g 0 ll (prOf il ih p)) ∧ Below w.heap.size w w' :=
  (rpress_w il ih C P cp A O ll cl p l w H).mono (by
    rintro e w' ⟨⟨v, rfl, hown⟩, hb⟩
    refine ⟨?_, hb⟩
    have q1 := H.out.lp1
    have h2 := hown
    rcases h2.2 with ⟨_, h0⟩ | ⟨g, cap, cur, rfl, hbg, hg, _⟩
    · omega
    · exact ⟨g, cap, rfl, by omega, (Array.getElem?_eq_some_iff.1 hg).1, spAt_of_owns hown⟩)

set_option maxRecDepth 100000 in
set_option maxHeartbeats 4000000 in
theorem lawp_a (il ih : Int) (pa la : Option Addr) (lp cp ll cl : Nat) (p : Nat → Sp2) (l : Nat → Int) (w : World) (hlp : lp ≤ maxLen) (hll : ll ≤ maxLen) (H : Hid (AnySip w pa la lp ll p l)) (K : Hid KnownOk')
    (hq : ¬ (lp ≤ 10 ∧ ll ≤ 10)) :
    Calls Tryz.prog 11 #[.agg #[.int .i64 il, .int .i64 ih, .slice pa lp cp, .slice la ll cl]] w
      fun e w' => e = .returned (.bool true) ∧ Below w.heap.size w w' := by
  have BX := Lib.hid (fun (w1 : World) (hb : Below (w.alloc (.cells #[.int .i64 il, .int .i64 ih, .slice pa lp cp, .slice la ll cl] 70)).heap.size (w.alloc (.cells #[.int .i64 il, .int .i64 ih, .slice pa lp cp, .slice la ll cl] 70)) w1) => bcell4 hb)
  have HL : Hid (∀ w1, Below (w.alloc (.cells #[.int .i64 il, .int .i64 ih, .slice pa lp cp, .slice la ll cl] 70)).heap.size (w.alloc (.cells #[.int .i64 il, .int .i64 ih, .slice pa lp cp, .slice la ll cl] 70)) w1 → AnySip w1 pa la lp ll p l) := Lib.hid fun w1 h => H.out.below (below_al h)
  have hl0 : (0 : Nat) ≤ maxLen := Nat.zero_le _
  have hsh : decide (lp ≤ 10 ∧ ll ≤ 10 ∧ 0 ≤ 6) = false := decide_eq_false (fun h => hq ⟨h.1, h.2.1⟩)
  go_enter Tryz.func11, Tryz.ntmps11
  go_wp2_with (first
    | (go_at_call 40; refine (slim_w _ _ _ _ _ _ _ _ _ _ _ _ hlp hll hl0).mono ?_; rw [hsh]; rintro e w1 ⟨rfl, hb1⟩; obtain ⟨x0, x1, x2, x3, x4⟩ := BX.out _ hb1)
    | (go_at_call 16; refine (K.out _).mono ?_; rintro e w11 ⟨rfl, hb11⟩))
  go_ret
  exact ⟨rfl, below_al (hb1.trans (hb11.mono hb1.size))⟩

set_option maxRecDepth 100000 in
set_option maxHeartbeats 4000000 in
theorem lawp_b (il ih : Int) (pa la : Option Addr) (lp cp ll cl : Nat) (p : Nat → Sp2) (l : Nat → Int) (w : World) (hlp : lp ≤ maxLen) (hll : ll ≤ maxLen) (H : Hid (AnySip w pa la lp ll p l)) (K : Hid KnownOk')
    (hq : lp ≤ 10 ∧ ll ≤ 10) (hR : ¬ SipP il ih lp ll p l) :
    Calls Tryz.prog 11 #[.agg #[.int .i64 il, .int .i64 ih, .slice pa lp cp, .slice la ll cl]] w
      fun e w' => e = .returned (.bool true) ∧ Below w.heap.size w w' := by
  have BX := Lib.hid (fun (w1 : World) (hb : Below (w.alloc (.cells #[.int .i64 il, .int .i64 ih, .slice pa lp cp, .slice la ll cl] 70)).heap.size (w.alloc (.cells #[.int .i64 il, .int .i64 ih, .slice pa lp cp, .slice la ll cl] 70)) w1) => bcell4 hb)
  have HL : Hid (∀ w1, Below (w.alloc (.cells #[.int .i64 il, .int .i64 ih, .slice pa lp cp, .slice la ll cl] 70)).heap.size (w.alloc (.cells #[.int .i64 il, .int .i64 ih, .slice pa lp cp, .slice la ll cl] 70)) w1 → AnySip w1 pa la lp ll p l) := Lib.hid fun w1 h => H.out.below (below_al h)
  have hl0 : (0 : Nat) ≤ maxLen := Nat.zero_le _
  have hsh : decide (lp ≤ 10 ∧ ll ≤ 10 ∧ 0 ≤ 6) = true := decide_eq_true ⟨hq.1, hq.2, by omega⟩
  obtain ⟨hq1, hq2⟩ := hq
  have HR := Lib.hid hR
  clear hR
  go_enter Tryz.func11, Tryz.ntmps11
  go_wp2_with (first
    | (go_at_call 40; refine (slim_w _ _ _ _ _ _ _ _ _ _ _ _ hlp hll hl0).mono ?_; rw [hsh]; rintro e w1 ⟨rfl, hb1⟩; obtain ⟨x0, x1, x2, x3, x4⟩ := BX.out _ hb1)
    | (go_at_call 41; refine (ppressF_w _ _ _ _ _ _ _ _ p l _ (by omega) (by omega) (Lib.hid (HL.out _ hb1)) HR).mono ?_; rintro e w2 ⟨rfl, hb2⟩; have hb12 := hb1.trans (hb2.mono hb1.size); clear x0 x1 x2 x3 x4; obtain ⟨x0, x1, x2, x3, x4⟩ := BX.out _ hb12)
    | (go_at_call 42; refine (pflowsF_w _ _ _ _ _ _ _ _ p l _ (by omega) (by omega) (Lib.hid (HL.out _ hb12)) HR).mono ?_; rintro e w3 ⟨rfl, hb3⟩; have hb13 := hb12.trans (hb3.mono hb12.size); clear x0 x1 x2 x3 x4; obtain ⟨x0, x1, x2, x3, x4⟩ := BX.out _ hb13)
    | (go_at_call 43; refine (rsiph_w _ _ _ _ _ _ _ _ p l _ (by omega) (by omega) (Lib.hid (HL.out _ hb13))).mono ?_; rintro e w4 ⟨⟨rb, rfl, hrb⟩, hb4⟩; obtain rfl : rb = false := (by cases rb <;> first | rfl | exact (HR.out (hrb.1 rfl)).elim); clear hrb; have hb14 := hb13.trans (hb4.mono hb13.size); clear x0 x1 x2 x3 x4; obtain ⟨x0, x1, x2, x3, x4⟩ := BX.out _ hb14)
    | (go_at_call 16; refine (K.out _).mono ?_; rintro e w11 ⟨rfl, hb11⟩))
  go_ret
  exact ⟨rfl, below_al (hb14.trans (hb11.mono hb14.size))⟩

set_option maxRecDepth 100000 in
set_option maxHeartbeats 4000000 in
theorem lawp_d (il ih : Int) (C P cp A O ll cl : Nat) (p : Nat → Sp2) (l : Nat → Int) (w : World) (H : Hid (SipAt w C P (ll + 1) A O ll il ih p l)) (K : Hid KnownOk') :
    Calls Tryz.prog 11 #[.agg #[.int .i64 il, .int .i64 ih, .slice (some ⟨C, P, none⟩) (ll + 1) cp, .slice (some ⟨A, O, none⟩) ll cl]] w
      fun e w' => e = .returned (.bool true) ∧ Below w.heap.size w w' := by
  have BX := Lib.hid (fun (w1 : World) (hb : Below (w.alloc (.cells #[.int .i64 il, .int .i64 ih, .slice (some ⟨C, P, none⟩) (ll + 1) cp, .slice (some ⟨A, O, none⟩) ll cl] 70)).heap.size (w.alloc (.cells #[.int .i64 il, .int .i64 ih, .slice (some ⟨C, P, none⟩) (ll + 1) cp, .slice (some ⟨A, O, none⟩) ll cl] 70)) w1) => bcell4 hb)
  have HL : Hid (∀ w1, Below (w.alloc (.cells #[.int .i64 il, .int .i64 ih, .slice (some ⟨C, P, none⟩) (ll + 1) cp, .slice (some ⟨A, O, none⟩) ll cl] 70)).heap.size (w.alloc (.cells #[.int .i64 il, .int .i64 ih, .slice (some ⟨C, P, none⟩) (ll + 1) cp, .slice (some ⟨A, O, none⟩) ll cl] 70)) w1 → SipAt w1 C P (ll + 1) A O ll il ih p l) := Lib.hid fun w1 h => H.out.below (below_al h)
  have hl0 : (0 : Nat) ≤ maxLen := Nat.zero_le _
  have q1 := H.out.lp1
  have q2 := H.out.lp2
  have hlp : ll + 1 ≤ maxLen := by unfold maxLen; omega
  have hll : ll ≤ maxLen := by unfold maxLen; omega
  have hsh : decide (ll + 1 ≤ 10 ∧ ll ≤ 10 ∧ 0 ≤ 6) = true := decide_eq_true ⟨by omega, by omega, by omega⟩
  have HR : Hid (SipP il ih (ll + 1) ll p l) := Lib.hid H.out.ok
  go_enter Tryz.func11, Tryz.ntmps11
  go_wp2_with (first
    | (go_at_call 40; refine (slim_w _ _ _ _ _ _ _ _ _ _ _ _ hlp hll hl0).mono ?_; rw [hsh]; rintro e w1 ⟨rfl, hb1⟩; obtain ⟨x0, x1, x2, x3, x4⟩ := BX.out _ hb1)
    | (go_at_call 41; refine (ppress_w _ _ _ _ _ _ _ _ _ _ p l _ (Lib.hid (HL.out _ hb1))).mono ?_; rintro e w2 ⟨⟨G, rfl, hG1, hG2, hG3⟩, hb2⟩; have HG := Lib.hid hG3; clear hG3; have hb12 := hb1.trans (hb2.mono hb1.size); clear x0 x1 x2 x3 x4; obtain ⟨x0, x1, x2, x3, x4⟩ := BX.out _ hb12)
    | (go_at_call 42; refine (pflows_w _ _ _ _ _ _ _ _ _ p l _ (Lib.hid (HL.out _ hb12))).mono ?_; rintro e w3 ⟨rfl, hb3⟩; have hb13 := hb12.trans (hb3.mono hb12.size); clear x0 x1 x2 x3 x4; obtain ⟨x0, x1, x2, x3, x4⟩ := BX.out _ hb13)
    | (go_at_call 43; refine (rsiph_w _ _ _ _ _ _ _ _ p l _ (by omega) (by omega) (Lib.hid (HL.out _ hb13).any)).mono ?_; rintro e w4 ⟨⟨rb, rfl, hrb⟩, hb4⟩; obtain rfl : rb = true := hrb.2 HR.out; clear hrb; have hb14 := hb13.trans (hb4.mono hb13.size); clear x0 x1 x2 x3 x4; obtain ⟨x0, x1, x2, x3, x4⟩ := BX.out _ hb14)
    | (go_at_call 45; refine (rpress2_w _ _ _ _ _ _ _ _ _ p l _ (Lib.hid (HL.out _ hb14))).mono ?_; rintro e w5 ⟨⟨G2, cap2, rfl, hJ1, hJ2, hJ3⟩, hb5⟩; have HJ := Lib.hid hJ3; clear hJ3; have hb15 := hb14.trans (hb5.mono hb14.size); clear x0 x1 x2 x3 x4; obtain ⟨x0, x1, x2, x3, x4⟩ := BX.out _ hb15; have hg3 := hb3.trans (hb4.mono hb3.size); have hg5 := hg3.trans (hb5.mono hg3.size); have HG5 := Lib.hid (HG.out.below hG2 hg5))
    | (go_at_call 44; refine (sameSp_w _ _ _ _ _ (prOf il ih p) _ (by omega) HG5 HJ).mono ?_; rintro e w6 ⟨rfl, hb6⟩; have hb16 := hb15.trans (hb6.mono hb15.size); clear x0 x1 x2 x3 x4; obtain ⟨x0, x1, x2, x3, x4⟩ := BX.out _ hb16)
    | (go_at_call 46; refine (rflows_w _ _ _ _ _ _ _ _ _ p l _ (Lib.hid (HL.out _ hb16))).mono ?_; rintro e w7 ⟨rfl, hb7⟩; have hb17 := hb16.trans (hb7.mono hb16.size); clear x0 x1 x2 x3 x4; obtain ⟨x0, x1, x2, x3, x4⟩ := BX.out _ hb17)
    | (go_at_call 16; refine (K.out _).mono ?_; rintro e w11 ⟨rfl, hb11⟩))
  go_ret
  exact ⟨rfl, below_al (hb17.trans (hb11.mono hb17.size))⟩

theorem lawp_w (il ih : Int) (pa la : Option Addr) (lp cp ll cl : Nat) (p : Nat → Sp2) (l : Nat → Int) (w : World) (hlp : lp ≤ maxLen) (hll : ll ≤ maxLen) (H : AnySip w pa la lp ll p l) (K : Hid KnownOk') :
    Calls Tryz.prog 11 #[.agg #[.int .i64 il, .int .i64 ih, .slice pa lp cp, .slice la ll cl]] w
      fun e w' => e = .returned (.bool true) ∧ Below w.heap.size w w' := by
  by_cases hq : lp ≤ 10 ∧ ll ≤ 10
  case neg => exact lawp_a il ih pa la lp cp ll cl p l w hlp hll (Lib.hid H) K hq
  by_cases hR : SipP il ih lp ll p l
  case neg => exact lawp_b il ih pa la lp cp ll cl p l w hlp hll (Lib.hid H) K hq hR
  obtain rfl := hR.lpe
  obtain ⟨C, P, rfl, hC, hsp⟩ := H.hp.resolve_left (by have := hR.lp1; omega)
  obtain ⟨A, O, rfl, hA, hln⟩ := H.hl.resolve_left (by have := hR.lp1; omega)
  exact lawp_d il ih C P cp A O ll cl p l w (Lib.hid ⟨hC, hA, hsp, hln, hR.lp1, hR.lp2, rfl, hR.iok, hR.pok, hR.lok⟩) K
end Go.Kn
