/- Walks of the functions of layer 2 that ChannelHeights calls, and the law itself (a part of it). Conditions: as each theorem states them. -/
import Derived.Test.YtifdohhffmlbaaaGreatDoorNA
set_option linter.unusedVariables false
set_option linter.unusedSimpArgs false
namespace Go.Kn
open Go Go.Proofs Go.RowKit

abbrev KnownOk' : Prop := ∀ w : World, Calls Tryz.prog 16 #[] w fun e w' => e = .returned (.bool true) ∧ Below w.heap.size w w'

set_option maxRecDepth 100000 in
set_option maxHeartbeats 4000000 in
theorem lawh_a (il ih : Int) (pa la : Option Addr) (lp cp ll cl : Nat) (p : Nat → Sp2) (l : Nat → Int) (n : Int) (sq : Option Addr) (lq cq : Nat) (s : Nat → Int) (w : World) (hlp : lp ≤ maxLen) (hll : ll ≤ maxLen) (hlq : lq ≤ maxLen) (H : Hid (AnySip w pa la lp ll p l)) (HS : Hid (IntSl w sq lq s)) (K : Hid KnownOk')
    (hq : ¬ (lp ≤ 10 ∧ ll ≤ 10)) :
    Calls Tryz.prog 12 #[.agg #[.int .i64 il, .int .i64 ih, .slice pa lp cp, .slice la ll cl], .int .i64 n, .slice sq lq cq] w
      fun e w' => e = .returned (.bool true) ∧ Below w.heap.size w w' := by
  have BX := Lib.hid (fun (w1 : World) (hb : Below (w.alloc (.cells #[.int .i64 il, .int .i64 ih, .slice pa lp cp, .slice la ll cl] 70)).heap.size (w.alloc (.cells #[.int .i64 il, .int .i64 ih, .slice pa lp cp, .slice la ll cl] 70)) w1) => bcell4 hb)
  have HL : Hid (∀ w1, Below (w.alloc (.cells #[.int .i64 il, .int .i64 ih, .slice pa lp cp, .slice la ll cl] 70)).heap.size (w.alloc (.cells #[.int .i64 il, .int .i64 ih, .slice pa lp cp, .slice la ll cl] 70)) w1 → AnySip w1 pa la lp ll p l ∧ IntSl w1 sq lq s) := Lib.hid fun w1 h => ⟨H.out.below (below_al h), HS.out.below (below_al h)⟩
  have hl0 : (0 : Nat) ≤ maxLen := Nat.zero_le _
  have hsh : decide (lp ≤ 10 ∧ ll ≤ 10 ∧ 0 ≤ 6) = false := decide_eq_false (fun h => hq ⟨h.1, h.2.1⟩)
  go_enter Tryz.func12, Tryz.ntmps12
  go_wp2_with (first
    | (go_at_call 40; refine (slim_w _ _ _ _ _ _ _ _ _ _ _ _ hlp hll hl0).mono ?_; rw [hsh]; rintro e w1 ⟨rfl, hb1⟩; obtain ⟨x0, x1, x2, x3, x4⟩ := BX.out _ hb1)
    | (go_at_call 16; refine (K.out _).mono ?_; rintro e w11 ⟨rfl, hb11⟩))
  go_ret
  exact ⟨rfl, below_al (hb1.trans (hb11.mono hb1.size))⟩

set_option maxRecDepth 100000 in
set_option maxHeartbeats 4000000 in
theorem lawh_b (il ih : Int) (pa la : Option Addr) (lp cp ll cl : Nat) (p : Nat → Sp2) (l : Nat → Int) (n : Int) (sq : Option Addr) (lq cq : Nat) (s : Nat → Int) (w : World) (hlp : lp ≤ maxLen) (hll : ll ≤ maxLen) (hlq : lq ≤ maxLen) (H : Hid (AnySip w pa la lp ll p l)) (HS : Hid (IntSl w sq lq s)) (K : Hid KnownOk')
    (hq : lp ≤ 10 ∧ ll ≤ 10) (hR : ¬ SipP il ih lp ll p l) :
    Calls Tryz.prog 12 #[.agg #[.int .i64 il, .int .i64 ih, .slice pa lp cp, .slice la ll cl], .int .i64 n, .slice sq lq cq] w
      fun e w' => e = .returned (.bool true) ∧ Below w.heap.size w w' := by
  have BX := Lib.hid (fun (w1 : World) (hb : Below (w.alloc (.cells #[.int .i64 il, .int .i64 ih, .slice pa lp cp, .slice la ll cl] 70)).heap.size (w.alloc (.cells #[.int .i64 il, .int .i64 ih, .slice pa lp cp, .slice la ll cl] 70)) w1) => bcell4 hb)
  have HL : Hid (∀ w1, Below (w.alloc (.cells #[.int .i64 il, .int .i64 ih, .slice pa lp cp, .slice la ll cl] 70)).heap.size (w.alloc (.cells #[.int .i64 il, .int .i64 ih, .slice pa lp cp, .slice la ll cl] 70)) w1 → AnySip w1 pa la lp ll p l ∧ IntSl w1 sq lq s) := Lib.hid fun w1 h => ⟨H.out.below (below_al h), HS.out.below (below_al h)⟩
  have hl0 : (0 : Nat) ≤ maxLen := Nat.zero_le _
  have hsh : decide (lp ≤ 10 ∧ ll ≤ 10 ∧ 0 ≤ 6) = true := decide_eq_true ⟨hq.1, hq.2, by omega⟩
  obtain ⟨hq1, hq2⟩ := hq
  have HR := Lib.hid hR
  clear hR
  go_enter Tryz.func12, Tryz.ntmps12
  go_wp2_with (first
    | (go_at_call 40; refine (slim_w _ _ _ _ _ _ _ _ _ _ _ _ hlp hll hl0).mono ?_; rw [hsh]; rintro e w1 ⟨rfl, hb1⟩; obtain ⟨x0, x1, x2, x3, x4⟩ := BX.out _ hb1)
    | (go_at_call 43; refine (rsiph_w _ _ _ _ _ _ _ _ p l _ (by omega) (by omega) (Lib.hid (HL.out _ hb1).1)).mono ?_; rintro e w2 ⟨⟨rb, rfl, hrb⟩, hb2⟩; obtain rfl : rb = false := (by cases rb <;> first | rfl | exact (HR.out (hrb.1 rfl)).elim); clear hrb; have hb12 := hb1.trans (hb2.mono hb1.size); clear x0 x1 x2 x3 x4; obtain ⟨x0, x1, x2, x3, x4⟩ := BX.out _ hb12)
    | (go_at_call 16; refine (K.out _).mono ?_; rintro e w11 ⟨rfl, hb11⟩))
  go_ret
  exact ⟨rfl, below_al (hb12.trans (hb11.mono hb12.size))⟩

set_option maxRecDepth 100000 in
set_option maxHeartbeats 4000000 in
theorem lawh_c (il ih : Int) (C P cp A O ll cl : Nat) (p : Nat → Sp2) (l : Nat → Int) (n : Int) (sq : Option Addr) (lq cq : Nat) (s : Nat → Int) (w : World) (hlq : lq ≤ maxLen) (H : Hid (SipAt w C P (ll + 1) A O ll il ih p l)) (HS : Hid (IntSl w sq lq s)) (K : Hid KnownOk')
    (hQ : ¬ HeiP il ih (ll + 1) p n lq s) :
    Calls Tryz.prog 12 #[.agg #[.int .i64 il, .int .i64 ih, .slice (some ⟨C, P, none⟩) (ll + 1) cp, .slice (some ⟨A, O, none⟩) ll cl], .int .i64 n, .slice sq lq cq] w
      fun e w' => e = .returned (.bool true) ∧ Below w.heap.size w w' := by
  have BX := Lib.hid (fun (w1 : World) (hb : Below (w.alloc (.cells #[.int .i64 il, .int .i64 ih, .slice (some ⟨C, P, none⟩) (ll + 1) cp, .slice (some ⟨A, O, none⟩) ll cl] 70)).heap.size (w.alloc (.cells #[.int .i64 il, .int .i64 ih, .slice (some ⟨C, P, none⟩) (ll + 1) cp, .slice (some ⟨A, O, none⟩) ll cl] 70)) w1) => bcell4 hb)
  have HL : Hid (∀ w1, Below (w.alloc (.cells #[.int .i64 il, .int .i64 ih, .slice (some ⟨C, P, none⟩) (ll + 1) cp, .slice (some ⟨A, O, none⟩) ll cl] 70)).heap.size (w.alloc (.cells #[.int .i64 il, .int .i64 ih, .slice (some ⟨C, P, none⟩) (ll + 1) cp, .slice (some ⟨A, O, none⟩) ll cl] 70)) w1 → SipAt w1 C P (ll + 1) A O ll il ih p l ∧ IntSl w1 sq lq s) := Lib.hid fun w1 h => ⟨H.out.below (below_al h), HS.out.below (below_al h)⟩
  have hl0 : (0 : Nat) ≤ maxLen := Nat.zero_le _
  have q1 := H.out.lp1
  have q2 := H.out.lp2
  have hlp : ll + 1 ≤ maxLen := by unfold maxLen; omega
  have hll : ll ≤ maxLen := by unfold maxLen; omega
  have hsh : decide (ll + 1 ≤ 10 ∧ ll ≤ 10 ∧ 0 ≤ 6) = true := decide_eq_true ⟨by omega, by omega, by omega⟩
  have HR : Hid (SipP il ih (ll + 1) ll p l) := Lib.hid H.out.ok
  have HQ := Lib.hid hQ
  clear hQ
  go_enter Tryz.func12, Tryz.ntmps12
  go_wp2_with (first
    | (go_at_call 40; refine (slim_w _ _ _ _ _ _ _ _ _ _ _ _ hlp hll hl0).mono ?_; rw [hsh]; rintro e w1 ⟨rfl, hb1⟩; obtain ⟨x0, x1, x2, x3, x4⟩ := BX.out _ hb1)
    | (go_at_call 43; refine (rsiph_w _ _ _ _ _ _ _ _ p l _ (by omega) (by omega) (Lib.hid (HL.out _ hb1).1.any)).mono ?_; rintro e w2 ⟨⟨rb, rfl, hrb⟩, hb2⟩; obtain rfl : rb = true := hrb.2 HR.out; clear hrb; have hb12 := hb1.trans (hb2.mono hb1.size); clear x0 x1 x2 x3 x4; obtain ⟨x0, x1, x2, x3, x4⟩ := BX.out _ hb12)
    | (go_at_call 47; refine (heights_w _ _ _ _ _ _ _ _ _ _ p l _ _ _ _ s _ hlq (Lib.hid (HL.out _ hb12).1) (Lib.hid (HL.out _ hb12).2)).mono ?_; rintro e w3 ⟨⟨rb, rfl, hrb⟩, hb3⟩; obtain rfl : rb = false := (by cases rb <;> first | rfl | exact (HQ.out (hrb.1 rfl)).elim); clear hrb; have hb13 := hb12.trans (hb3.mono hb12.size); clear x0 x1 x2 x3 x4; obtain ⟨x0, x1, x2, x3, x4⟩ := BX.out _ hb13)
    | (go_at_call 16; refine (K.out _).mono ?_; rintro e w11 ⟨rfl, hb11⟩))
  go_ret
  exact ⟨rfl, below_al (hb13.trans (hb11.mono hb13.size))⟩
end Go.Kn
