/- Walks of the functions of layer 2 that ChannelBursts calls, and the law itself (a part of it). Conditions: as each theorem states them. -/
import Derived.Test.YtifdohhffmlbaaaGreatDoorNQ
set_option linter.unusedVariables false
set_option linter.unusedSimpArgs false
namespace Go.Kn
open Go Go.Proofs Go.RowKit

set_option maxRecDepth 100000 in
set_option maxHeartbeats 4000000 in
theorem lawb_a (il ih : Int) (pa la ka sq : Option Addr) (lp cp ll cl lk ck lq cq : Nat) (p : Nat → Sp2) (l : Nat → Int) (c : Nat → Cl3) (s : Nat → Int) (w : World) (hlp : lp ≤ maxLen) (hll : ll ≤ maxLen) (hlk : lk ≤ maxLen) (hlq : lq ≤ maxLen) (H : Hid (AnySip w pa la lp ll p l)) (HC : Hid (ClSl w ka lk c)) (HS : Hid (IntSl w sq lq s)) (K : Hid KnownOk')
    (hq : ¬ (lp ≤ 10 ∧ ll ≤ 10 ∧ lk ≤ 6)) :
    Calls Tryz.prog 13 #[.agg #[.int .i64 il, .int .i64 ih, .slice pa lp cp, .slice la ll cl], .slice ka lk ck, .slice sq lq cq] w
      fun e w' => e = .returned (.bool true) ∧ Below w.heap.size w w' := by
  have BX := Lib.hid (fun (w1 : World) (hb : Below (w.alloc (.cells #[.int .i64 il, .int .i64 ih, .slice pa lp cp, .slice la ll cl] 70)).heap.size (w.alloc (.cells #[.int .i64 il, .int .i64 ih, .slice pa lp cp, .slice la ll cl] 70)) w1) => bcell4 hb)
  have HL : Hid (∀ w1, Below (w.alloc (.cells #[.int .i64 il, .int .i64 ih, .slice pa lp cp, .slice la ll cl] 70)).heap.size (w.alloc (.cells #[.int .i64 il, .int .i64 ih, .slice pa lp cp, .slice la ll cl] 70)) w1 → AnySip w1 pa la lp ll p l ∧ ClSl w1 ka lk c ∧ IntSl w1 sq lq s) := Lib.hid fun w1 h => ⟨H.out.below (below_al h), HC.out.below (below_al h), HS.out.below (below_al h)⟩
  have hlq9 : lq ≤ 9223372036854775807 := hlq
  have hsh : decide (lp ≤ 10 ∧ ll ≤ 10 ∧ lk ≤ 6) = false := decide_eq_false hq
  go_enter Tryz.func13, Tryz.ntmps13
  go_wp2_with (first
    | (go_at_call 40; refine (slim_w _ _ _ _ _ _ _ _ _ _ _ _ hlp hll hlk).mono ?_; rw [hsh]; rintro e w1 ⟨rfl, hb1⟩; obtain ⟨x0, x1, x2, x3, x4⟩ := BX.out _ hb1)
    | (go_at_call 16; refine (K.out _).mono ?_; rintro e w11 ⟨rfl, hb11⟩))
  go_ret
  exact ⟨rfl, below_al (hb1.trans (hb11.mono hb1.size))⟩

set_option maxRecDepth 100000 in
set_option maxHeartbeats 4000000 in
theorem lawb_a2 (il ih : Int) (pa la ka sq : Option Addr) (lp cp ll cl lk ck lq cq : Nat) (p : Nat → Sp2) (l : Nat → Int) (c : Nat → Cl3) (s : Nat → Int) (w : World) (hlp : lp ≤ maxLen) (hll : ll ≤ maxLen) (hlk : lk ≤ maxLen) (hlq : lq ≤ maxLen) (H : Hid (AnySip w pa la lp ll p l)) (HC : Hid (ClSl w ka lk c)) (HS : Hid (IntSl w sq lq s)) (K : Hid KnownOk')
    (hq : lp ≤ 10 ∧ ll ≤ 10 ∧ lk ≤ 6) (hq4 : ¬ lq ≤ 10) :
    Calls Tryz.prog 13 #[.agg #[.int .i64 il, .int .i64 ih, .slice pa lp cp, .slice la ll cl], .slice ka lk ck, .slice sq lq cq] w
      fun e w' => e = .returned (.bool true) ∧ Below w.heap.size w w' := by
  have BX := Lib.hid (fun (w1 : World) (hb : Below (w.alloc (.cells #[.int .i64 il, .int .i64 ih, .slice pa lp cp, .slice la ll cl] 70)).heap.size (w.alloc (.cells #[.int .i64 il, .int .i64 ih, .slice pa lp cp, .slice la ll cl] 70)) w1) => bcell4 hb)
  have HL : Hid (∀ w1, Below (w.alloc (.cells #[.int .i64 il, .int .i64 ih, .slice pa lp cp, .slice la ll cl] 70)).heap.size (w.alloc (.cells #[.int .i64 il, .int .i64 ih, .slice pa lp cp, .slice la ll cl] 70)) w1 → AnySip w1 pa la lp ll p l ∧ ClSl w1 ka lk c ∧ IntSl w1 sq lq s) := Lib.hid fun w1 h => ⟨H.out.below (below_al h), HC.out.below (below_al h), HS.out.below (below_al h)⟩
  have hlq9 : lq ≤ 9223372036854775807 := hlq
  have hsh : decide (lp ≤ 10 ∧ ll ≤ 10 ∧ lk ≤ 6) = true := decide_eq_true hq
  obtain ⟨hq1, hq2, hq3⟩ := hq
  go_enter Tryz.func13, Tryz.ntmps13
  go_wp2_with (first
    | (go_at_call 40; refine (slim_w _ _ _ _ _ _ _ _ _ _ _ _ hlp hll hlk).mono ?_; rw [hsh]; rintro e w1 ⟨rfl, hb1⟩; obtain ⟨x0, x1, x2, x3, x4⟩ := BX.out _ hb1)
    | (go_at_call 16; refine (K.out _).mono ?_; rintro e w11 ⟨rfl, hb11⟩))
  go_ret
  exact ⟨rfl, below_al (hb1.trans (hb11.mono hb1.size))⟩

set_option maxRecDepth 100000 in
set_option maxHeartbeats 4000000 in
theorem lawb_b1 (il ih : Int) (pa la ka sq : Option Addr) (lp cp ll cl lk ck lq cq : Nat) (p : Nat → Sp2) (l : Nat → Int) (c : Nat → Cl3) (s : Nat → Int) (w : World) (hlp : lp ≤ maxLen) (hll : ll ≤ maxLen) (hlk : lk ≤ maxLen) (hlq : lq ≤ maxLen) (H : Hid (AnySip w pa la lp ll p l)) (HC : Hid (ClSl w ka lk c)) (HS : Hid (IntSl w sq lq s)) (K : Hid KnownOk')
    (hq : lp ≤ 10 ∧ ll ≤ 10 ∧ lk ≤ 6) (hq4 : lq ≤ 10) (HR : Hid (¬ SipP il ih lp ll p l)) :
    Calls Tryz.prog 13 #[.agg #[.int .i64 il, .int .i64 ih, .slice pa lp cp, .slice la ll cl], .slice ka lk ck, .slice sq lq cq] w
      fun e w' => e = .returned (.bool true) ∧ Below w.heap.size w w' := by
  have BX := Lib.hid (fun (w1 : World) (hb : Below (w.alloc (.cells #[.int .i64 il, .int .i64 ih, .slice pa lp cp, .slice la ll cl] 70)).heap.size (w.alloc (.cells #[.int .i64 il, .int .i64 ih, .slice pa lp cp, .slice la ll cl] 70)) w1) => bcell4 hb)
  have HL : Hid (∀ w1, Below (w.alloc (.cells #[.int .i64 il, .int .i64 ih, .slice pa lp cp, .slice la ll cl] 70)).heap.size (w.alloc (.cells #[.int .i64 il, .int .i64 ih, .slice pa lp cp, .slice la ll cl] 70)) w1 → AnySip w1 pa la lp ll p l ∧ ClSl w1 ka lk c ∧ IntSl w1 sq lq s) := Lib.hid fun w1 h => ⟨H.out.below (below_al h), HC.out.below (below_al h), HS.out.below (below_al h)⟩
  have hlq9 : lq ≤ 9223372036854775807 := hlq
  have hsh : decide (lp ≤ 10 ∧ ll ≤ 10 ∧ lk ≤ 6) = true := decide_eq_true hq
  obtain ⟨hq1, hq2, hq3⟩ := hq
  go_enter Tryz.func13, Tryz.ntmps13
  go_wp2_with (first
    | (go_at_call 40; refine (slim_w _ _ _ _ _ _ _ _ _ _ _ _ hlp hll hlk).mono ?_; rw [hsh]; rintro e w1 ⟨rfl, hb1⟩; obtain ⟨x0, x1, x2, x3, x4⟩ := BX.out _ hb1)
    | (go_at_call 49; refine (pburF1 _ _ _ _ _ _ _ _ _ _ _ _ _ _ p l c s _ (by omega) (by omega) (by omega) hlq (Lib.hid (HL.out _ hb1).1) (Lib.hid (HL.out _ hb1).2.1) (Lib.hid (HL.out _ hb1).2.2) HR).mono ?_; rintro e w2 ⟨rfl, hb2⟩; have hb12 := hb1.trans (hb2.mono hb1.size); clear x0 x1 x2 x3 x4; obtain ⟨x0, x1, x2, x3, x4⟩ := BX.out _ hb12)
    | (go_at_call 43; refine (rsiph_w _ _ _ _ _ _ _ _ p l _ (by omega) (by omega) (Lib.hid (HL.out _ hb12).1)).mono ?_; rintro e w3 ⟨⟨rb, rfl, hrb⟩, hb3⟩; obtain rfl : rb = false := (by cases rb <;> first | rfl | exact (HR.out (hrb.1 rfl)).elim); clear hrb; have hb13 := hb12.trans (hb3.mono hb12.size); clear x0 x1 x2 x3 x4; obtain ⟨x0, x1, x2, x3, x4⟩ := BX.out _ hb13)
    | (go_at_call 16; refine (K.out _).mono ?_; rintro e w11 ⟨rfl, hb11⟩))
  go_ret
  exact ⟨rfl, below_al (hb13.trans (hb11.mono hb13.size))⟩

set_option maxRecDepth 100000 in
set_option maxHeartbeats 4000000 in
theorem lawb_b2 (il ih : Int) (pa la ka sq : Option Addr) (lp cp ll cl lk ck lq cq : Nat) (p : Nat → Sp2) (l : Nat → Int) (c : Nat → Cl3) (s : Nat → Int) (w : World) (hlp : lp ≤ maxLen) (hll : ll ≤ maxLen) (hlk : lk ≤ maxLen) (hlq : lq ≤ maxLen) (H : Hid (AnySip w pa la lp ll p l)) (HC : Hid (ClSl w ka lk c)) (HS : Hid (IntSl w sq lq s)) (K : Hid KnownOk')
    (hq : lp ≤ 10 ∧ ll ≤ 10 ∧ lk ≤ 6) (hq4 : lq ≤ 10) (HR : Hid (SipP il ih lp ll p l)) (HK : Hid (¬ ClsP lk c)) :
    Calls Tryz.prog 13 #[.agg #[.int .i64 il, .int .i64 ih, .slice pa lp cp, .slice la ll cl], .slice ka lk ck, .slice sq lq cq] w
      fun e w' => e = .returned (.bool true) ∧ Below w.heap.size w w' := by
  have BX := Lib.hid (fun (w1 : World) (hb : Below (w.alloc (.cells #[.int .i64 il, .int .i64 ih, .slice pa lp cp, .slice la ll cl] 70)).heap.size (w.alloc (.cells #[.int .i64 il, .int .i64 ih, .slice pa lp cp, .slice la ll cl] 70)) w1) => bcell4 hb)
  have HL : Hid (∀ w1, Below (w.alloc (.cells #[.int .i64 il, .int .i64 ih, .slice pa lp cp, .slice la ll cl] 70)).heap.size (w.alloc (.cells #[.int .i64 il, .int .i64 ih, .slice pa lp cp, .slice la ll cl] 70)) w1 → AnySip w1 pa la lp ll p l ∧ ClSl w1 ka lk c ∧ IntSl w1 sq lq s) := Lib.hid fun w1 h => ⟨H.out.below (below_al h), HC.out.below (below_al h), HS.out.below (below_al h)⟩
  have hlq9 : lq ≤ 9223372036854775807 := hlq
  have hsh : decide (lp ≤ 10 ∧ ll ≤ 10 ∧ lk ≤ 6) = true := decide_eq_true hq
  obtain ⟨hq1, hq2, hq3⟩ := hq
  go_enter Tryz.func13, Tryz.ntmps13
  go_wp2_with (first
    | (go_at_call 40; refine (slim_w _ _ _ _ _ _ _ _ _ _ _ _ hlp hll hlk).mono ?_; rw [hsh]; rintro e w1 ⟨rfl, hb1⟩; obtain ⟨x0, x1, x2, x3, x4⟩ := BX.out _ hb1)
    | (go_at_call 49; refine (pburF2 _ _ _ _ _ _ _ _ _ _ _ _ _ _ p l c s _ (by omega) (by omega) (by omega) hlq (Lib.hid (HL.out _ hb1).1) (Lib.hid (HL.out _ hb1).2.1) (Lib.hid (HL.out _ hb1).2.2) HR HK).mono ?_; rintro e w2 ⟨rfl, hb2⟩; have hb12 := hb1.trans (hb2.mono hb1.size); clear x0 x1 x2 x3 x4; obtain ⟨x0, x1, x2, x3, x4⟩ := BX.out _ hb12)
    | (go_at_call 43; refine (rsiph_w _ _ _ _ _ _ _ _ p l _ (by omega) (by omega) (Lib.hid (HL.out _ hb12).1)).mono ?_; rintro e w3 ⟨⟨rb, rfl, hrb⟩, hb3⟩; obtain rfl : rb = true := hrb.2 HR.out; clear hrb; have hb13 := hb12.trans (hb3.mono hb12.size); clear x0 x1 x2 x3 x4; obtain ⟨x0, x1, x2, x3, x4⟩ := BX.out _ hb13)
    | (go_at_call 50; refine (rcls_w _ _ _ c _ (by omega) (Lib.hid (HL.out _ hb13).2.1)).mono ?_; rintro e w4 ⟨⟨rb, rfl, hrb⟩, rfl⟩; obtain rfl : rb = false := (by cases rb <;> first | rfl | exact (HK.out (hrb.1 rfl)).elim); clear hrb)
    | (go_at_call 16; refine (K.out _).mono ?_; rintro e w11 ⟨rfl, hb11⟩))
  go_ret
  exact ⟨rfl, below_al (hb13.trans (hb11.mono hb13.size))⟩

set_option maxRecDepth 100000 in
set_option maxHeartbeats 4000000 in
theorem lawb_b3 (il ih : Int) (pa la ka sq : Option Addr) (lp cp ll cl lk ck lq cq : Nat) (p : Nat → Sp2) (l : Nat → Int) (c : Nat → Cl3) (s : Nat → Int) (w : World) (hlp : lp ≤ maxLen) (hll : ll ≤ maxLen) (hlk : lk ≤ maxLen) (hlq : lq ≤ maxLen) (H : Hid (AnySip w pa la lp ll p l)) (HC : Hid (ClSl w ka lk c)) (HS : Hid (IntSl w sq lq s)) (K : Hid KnownOk')
    (hq : lp ≤ 10 ∧ ll ≤ 10 ∧ lk ≤ 6) (hq4 : lq ≤ 10) (HR : Hid (SipP il ih lp ll p l)) (HK : Hid (ClsP lk c)) (HQ : Hid (¬ ChoP lk ll lq s)) :
    Calls Tryz.prog 13 #[.agg #[.int .i64 il, .int .i64 ih, .slice pa lp cp, .slice la ll cl], .slice ka lk ck, .slice sq lq cq] w
      fun e w' => e = .returned (.bool true) ∧ Below w.heap.size w w' := by
  have BX := Lib.hid (fun (w1 : World) (hb : Below (w.alloc (.cells #[.int .i64 il, .int .i64 ih, .slice pa lp cp, .slice la ll cl] 70)).heap.size (w.alloc (.cells #[.int .i64 il, .int .i64 ih, .slice pa lp cp, .slice la ll cl] 70)) w1) => bcell4 hb)
  have HL : Hid (∀ w1, Below (w.alloc (.cells #[.int .i64 il, .int .i64 ih, .slice pa lp cp, .slice la ll cl] 70)).heap.size (w.alloc (.cells #[.int .i64 il, .int .i64 ih, .slice pa lp cp, .slice la ll cl] 70)) w1 → AnySip w1 pa la lp ll p l ∧ ClSl w1 ka lk c ∧ IntSl w1 sq lq s) := Lib.hid fun w1 h => ⟨H.out.below (below_al h), HC.out.below (below_al h), HS.out.below (below_al h)⟩
  have hlq9 : lq ≤ 9223372036854775807 := hlq
  have hsh : decide (lp ≤ 10 ∧ ll ≤ 10 ∧ lk ≤ 6) = true := decide_eq_true hq
  obtain ⟨hq1, hq2, hq3⟩ := hq
  go_enter Tryz.func13, Tryz.ntmps13
  go_wp2_with (first
    | (go_at_call 40; refine (slim_w _ _ _ _ _ _ _ _ _ _ _ _ hlp hll hlk).mono ?_; rw [hsh]; rintro e w1 ⟨rfl, hb1⟩; obtain ⟨x0, x1, x2, x3, x4⟩ := BX.out _ hb1)
    | (go_at_call 49; refine (pburF3 _ _ _ _ _ _ _ _ _ _ _ _ _ _ p l c s _ (by omega) (by omega) (by omega) hlq (Lib.hid (HL.out _ hb1).1) (Lib.hid (HL.out _ hb1).2.1) (Lib.hid (HL.out _ hb1).2.2) HR HK HQ).mono ?_; rintro e w2 ⟨rfl, hb2⟩; have hb12 := hb1.trans (hb2.mono hb1.size); clear x0 x1 x2 x3 x4; obtain ⟨x0, x1, x2, x3, x4⟩ := BX.out _ hb12)
    | (go_at_call 43; refine (rsiph_w _ _ _ _ _ _ _ _ p l _ (by omega) (by omega) (Lib.hid (HL.out _ hb12).1)).mono ?_; rintro e w3 ⟨⟨rb, rfl, hrb⟩, hb3⟩; obtain rfl : rb = true := hrb.2 HR.out; clear hrb; have hb13 := hb12.trans (hb3.mono hb12.size); clear x0 x1 x2 x3 x4; obtain ⟨x0, x1, x2, x3, x4⟩ := BX.out _ hb13)
    | (go_at_call 50; refine (rcls_w _ _ _ c _ (by omega) (Lib.hid (HL.out _ hb13).2.1)).mono ?_; rintro e w4 ⟨⟨rb, rfl, hrb⟩, rfl⟩; obtain rfl : rb = true := hrb.2 HK.out; clear hrb)
    | (go_at_call 51; refine (rchosen_w _ _ _ _ _ _ _ _ _ _ _ _ s _ (by omega) (by omega) hlq (Lib.hid (HL.out _ hb13).2.2)).mono ?_; rintro e w5 ⟨⟨rb, rfl, hrb⟩, hb5⟩; obtain rfl : rb = false := (by cases rb <;> first | rfl | exact (HQ.out (hrb.1 rfl)).elim); clear hrb; have hb15 := hb13.trans (hb5.mono hb13.size); clear x0 x1 x2 x3 x4; obtain ⟨x0, x1, x2, x3, x4⟩ := BX.out _ hb15)
    | (go_at_call 16; refine (K.out _).mono ?_; rintro e w11 ⟨rfl, hb11⟩))
  go_ret
  exact ⟨rfl, below_al (hb15.trans (hb11.mono hb15.size))⟩

set_option maxRecDepth 100000 in
set_option maxHeartbeats 4000000 in
theorem lawb_d (il ih : Int) (C P cp A O ll cl : Nat) (p : Nat → Sp2) (l : Nat → Int) (C2 P2 lk ck : Nat) (c : Nat → Cl3) (D F cq : Nat) (s : Nat → Int) (w : World) (H : Hid (SipAt w C P (ll + 1) A O ll il ih p l)) (hC2 : C2 < w.heap.size) (HC : Hid (ClAt w C2 P2 lk c)) (HK : Hid (ClsP lk c)) (hD : D < w.heap.size) (HD : Hid (NumAt w D F ll s)) (HQ : Hid (ChoP lk ll ll s)) (K : Hid KnownOk') :
    Calls Tryz.prog 13 #[.agg #[.int .i64 il, .int .i64 ih, .slice (some ⟨C, P, none⟩) (ll + 1) cp, .slice (some ⟨A, O, none⟩) ll cl], .slice (some ⟨C2, P2, none⟩) lk ck, .slice (some ⟨D, F, none⟩) ll cq] w
      fun e w' => e = .returned (.bool true) ∧ Below w.heap.size w w' := by
  have BX := Lib.hid (fun (w1 : World) (hb : Below (w.alloc (.cells #[.int .i64 il, .int .i64 ih, .slice (some ⟨C, P, none⟩) (ll + 1) cp, .slice (some ⟨A, O, none⟩) ll cl] 70)).heap.size (w.alloc (.cells #[.int .i64 il, .int .i64 ih, .slice (some ⟨C, P, none⟩) (ll + 1) cp, .slice (some ⟨A, O, none⟩) ll cl] 70)) w1) => bcell4 hb)
  have HL : Hid (∀ w1, Below (w.alloc (.cells #[.int .i64 il, .int .i64 ih, .slice (some ⟨C, P, none⟩) (ll + 1) cp, .slice (some ⟨A, O, none⟩) ll cl] 70)).heap.size (w.alloc (.cells #[.int .i64 il, .int .i64 ih, .slice (some ⟨C, P, none⟩) (ll + 1) cp, .slice (some ⟨A, O, none⟩) ll cl] 70)) w1 → SipAt w1 C P (ll + 1) A O ll il ih p l ∧ ClAt w1 C2 P2 lk c ∧ NumAt w1 D F ll s ∧ C2 < w1.heap.size ∧ D < w1.heap.size) := Lib.hid fun w1 h => ⟨H.out.below (below_al h), HC.out.below hC2 (below_al h), HD.out.below hD (below_al h), Nat.lt_of_lt_of_le hC2 (below_al h).size, Nat.lt_of_lt_of_le hD (below_al h).size⟩
  have q1 := H.out.lp1
  have q2 := H.out.lp2
  have g1 := HK.out.n1
  have g2 := HK.out.n2
  have hlp : ll + 1 ≤ maxLen := by unfold maxLen; omega
  have hll : ll ≤ maxLen := by unfold maxLen; omega
  have hlk : lk ≤ maxLen := by unfold maxLen; omega
  have hsh : decide (ll + 1 ≤ 10 ∧ ll ≤ 10 ∧ lk ≤ 6) = true := decide_eq_true ⟨by omega, by omega, by omega⟩
  have HR : Hid (SipP il ih (ll + 1) ll p l) := Lib.hid H.out.ok
  have HPL := Lib.hid (pick_len (burB (prOf il ih p) c s) ll)
  go_enter Tryz.func13, Tryz.ntmps13
  go_wp2_with (first
    | (go_at_call 40; refine (slim_w _ _ _ _ _ _ _ _ _ _ _ _ hlp hll hlk).mono ?_; rw [hsh]; rintro e w1 ⟨rfl, hb1⟩; obtain ⟨x0, x1, x2, x3, x4⟩ := BX.out _ hb1)
    | (go_at_call 49; refine (pbursts_w _ _ _ _ _ _ _ _ _ p l _ _ _ _ c _ _ _ s _ (Lib.hid (HL.out _ hb1).1) (HL.out _ hb1).2.2.2.1 (Lib.hid (HL.out _ hb1).2.1) HK.out (HL.out _ hb1).2.2.2.2 (Lib.hid (HL.out _ hb1).2.2.1) HQ).mono ?_; rintro e w2 ⟨⟨v, n, rfl, hv⟩, hb2⟩; obtain ⟨va, vc, rfl, hn, hvs⟩ := intSl_of_owns hv; have HV := Lib.hid hvs; have HN := Lib.hid hn; clear hvs hv hn; have hb12 := hb1.trans (hb2.mono hb1.size); clear x0 x1 x2 x3 x4; obtain ⟨x0, x1, x2, x3, x4⟩ := BX.out _ hb12)
    | (go_at_call 43; refine (rsiph_w _ _ _ _ _ _ _ _ p l _ (by omega) (by omega) (Lib.hid (HL.out _ hb12).1.any)).mono ?_; rintro e w3 ⟨⟨rb, rfl, hrb⟩, hb3⟩; obtain rfl : rb = true := hrb.2 HR.out; clear hrb; have hb13 := hb12.trans (hb3.mono hb12.size); clear x0 x1 x2 x3 x4; obtain ⟨x0, x1, x2, x3, x4⟩ := BX.out _ hb13)
    | (go_at_call 50; refine (rcls_w _ _ _ c _ (by omega) (Lib.hid (.inr ⟨C2, P2, rfl, (HL.out _ hb13).2.2.2.1, (HL.out _ hb13).2.1⟩))).mono ?_; rintro e w4 ⟨⟨rb, rfl, hrb⟩, rfl⟩; obtain rfl : rb = true := hrb.2 HK.out; clear hrb)
    | (go_at_call 51; refine (rchosen_w _ _ _ _ _ _ _ _ _ _ _ _ s _ (by omega) (by omega) hll (Lib.hid (.inr ⟨D, F, rfl, (HL.out _ hb13).2.2.2.2, (HL.out _ hb13).2.2.1⟩))).mono ?_; rintro e w5 ⟨⟨rb, rfl, hrb⟩, hb5⟩; obtain rfl : rb = true := hrb.2 HQ.out; clear hrb; have hb15 := hb13.trans (hb5.mono hb13.size); clear x0 x1 x2 x3 x4; obtain ⟨x0, x1, x2, x3, x4⟩ := BX.out _ hb15)
    | (go_at_call 52; refine (rbursts_w _ _ _ _ _ _ _ _ _ p l _ _ _ _ c _ _ _ s _ (Lib.hid (HL.out _ hb15).1) (HL.out _ hb15).2.2.2.1 (Lib.hid (HL.out _ hb15).2.1) (by omega) (HL.out _ hb15).2.2.2.2 (Lib.hid (HL.out _ hb15).2.2.1) HQ).mono ?_; rintro e w6 ⟨⟨v2, n2, rfl, hv2⟩, hb6⟩; obtain ⟨va2, vc2, rfl, hn2, hvs2⟩ := intSl_of_owns hv2; have HV2 := Lib.hid hvs2; obtain rfl : n2 = n := hn2.trans HN.out.symm; clear hvs2 hv2 hn2; have hb16 := hb15.trans (hb6.mono hb15.size); clear x0 x1 x2 x3 x4; obtain ⟨x0, x1, x2, x3, x4⟩ := BX.out _ hb16; have hbx := (hb3.trans (hb5.mono hb3.size)).trans (hb6.mono (Nat.le_trans hb3.size hb5.size)); have HV1 := Lib.hid (HV.out.below hbx))
    | (go_at_call 28; refine (same_w _ _ _ _ _ _ _ (by have := HN.out; have := HPL.out; unfold maxLen; omega) HV1 HV2).mono ?_; rintro e w7 ⟨rfl, hb7⟩; have hb17 := hb16.trans (hb7.mono hb16.size); clear x0 x1 x2 x3 x4; obtain ⟨x0, x1, x2, x3, x4⟩ := BX.out _ hb17)
    | (go_at_call 16; refine (K.out _).mono ?_; rintro e w11 ⟨rfl, hb11⟩))
  go_ret
  exact ⟨rfl, below_al (hb17.trans (hb11.mono hb17.size))⟩

theorem lawb_w (il ih : Int) (pa la ka sq : Option Addr) (lp cp ll cl lk ck lq cq : Nat) (p : Nat → Sp2) (l : Nat → Int) (c : Nat → Cl3) (s : Nat → Int) (w : World) (hlp : lp ≤ maxLen) (hll : ll ≤ maxLen) (hlk : lk ≤ maxLen) (hlq : lq ≤ maxLen) (H : AnySip w pa la lp ll p l) (HC : ClSl w ka lk c) (HS : IntSl w sq lq s) (K : Hid KnownOk') :
    Calls Tryz.prog 13 #[.agg #[.int .i64 il, .int .i64 ih, .slice pa lp cp, .slice la ll cl], .slice ka lk ck, .slice sq lq cq] w
      fun e w' => e = .returned (.bool true) ∧ Below w.heap.size w w' := by
  by_cases hq : lp ≤ 10 ∧ ll ≤ 10 ∧ lk ≤ 6
  case neg => exact lawb_a il ih pa la ka sq lp cp ll cl lk ck lq cq p l c s w hlp hll hlk hlq (Lib.hid H) (Lib.hid HC) (Lib.hid HS) K hq
  by_cases hq4 : lq ≤ 10
  case neg => exact lawb_a2 il ih pa la ka sq lp cp ll cl lk ck lq cq p l c s w hlp hll hlk hlq (Lib.hid H) (Lib.hid HC) (Lib.hid HS) K hq hq4
  by_cases hR : SipP il ih lp ll p l
  case neg => exact lawb_b1 il ih pa la ka sq lp cp ll cl lk ck lq cq p l c s w hlp hll hlk hlq (Lib.hid H) (Lib.hid HC) (Lib.hid HS) K hq hq4 (Lib.hid hR)
  by_cases hK : ClsP lk c
  case neg => exact lawb_b2 il ih pa la ka sq lp cp ll cl lk ck lq cq p l c s w hlp hll hlk hlq (Lib.hid H) (Lib.hid HC) (Lib.hid HS) K hq hq4 (Lib.hid hR) (Lib.hid hK)
  by_cases hQ : ChoP lk ll lq s
  case neg => exact lawb_b3 il ih pa la ka sq lp cp ll cl lk ck lq cq p l c s w hlp hll hlk hlq (Lib.hid H) (Lib.hid HC) (Lib.hid HS) K hq hq4 (Lib.hid hR) (Lib.hid hK) (Lib.hid hQ)
  obtain rfl := hR.lpe
  obtain rfl := hQ.eq
  obtain ⟨C, P, rfl, hC, hsp⟩ := H.hp.resolve_left (by have := hR.lp1; omega)
  obtain ⟨A, O, rfl, hA, hln⟩ := H.hl.resolve_left (by have := hR.lp1; omega)
  obtain ⟨C2, P2, rfl, hC2, hcl⟩ := HC.resolve_left (by have := hK.n1; omega)
  obtain ⟨D, F, rfl, hD, hss⟩ := HS.resolve_left (by have := hR.lp1; omega)
  exact lawb_d il ih C P cp A O _ cl p l C2 P2 lk ck c D F cq s w (Lib.hid ⟨hC, hA, hsp, hln, hR.lp1, hR.lp2, rfl, hR.iok, hR.pok, hR.lok⟩) hC2 (Lib.hid hcl) (Lib.hid hK) hD (Lib.hid hss) (Lib.hid hQ) K
end Go.Kn
