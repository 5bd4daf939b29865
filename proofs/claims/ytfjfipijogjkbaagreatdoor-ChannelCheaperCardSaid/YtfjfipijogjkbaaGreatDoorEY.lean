/- Walks of functions of layer 2 (contracts that the laws of this seat use). Conditions: as each theorem states them. -/
import Derived.Test.YtfjfipijogjkbaaGreatDoorEX
set_option linter.unusedVariables false
set_option linter.unusedSimpArgs false
namespace Go.Kn
open Go Go.Proofs Go.RowKit

abbrev KnownOk' : Prop := ∀ w : World, Calls Tryz.prog 9 #[] w fun e w' => e = .returned (.bool true) ∧ Below w.heap.size w w'

theorem numAt_congr {w : World} {A O n : Nat} {s t : Nat → Int} (h : NumAt w A O n s) (e : ∀ i, i < n → s i = t i) : NumAt w A O n t := fun i hi => by rw [← e i hi]; exact h i hi
theorem chL_self (t : List Nat) : chL (fun i => ((t.getD i 0 : Nat) : Int)) t.length = t := by
  apply List.ext_getElem?
  intro i
  by_cases h : i < t.length
  · rw [chL_get h, List.getElem?_eq_getElem h]; simp [List.getD, List.getElem?_eq_getElem h]
  · rw [List.getElem?_eq_none (by rw [chL_len]; omega), List.getElem?_eq_none (by omega)]
theorem chL_getD {s : Nat → Int} {n i : Nat} (h : i < n) : (chL s n).getD i 0 = (s i).toNat := by simp [List.getD, chL_get h]
theorem atY_num {W : World} {x : Yd} (h : AtY W x) : NumAt W x.g 0 x.c.length (fun i => ((x.c.getD i 0 : Nat) : Int)) := fun i hi => by rw [Nat.zero_add]; exact h.2 i hi

set_option maxRecDepth 100000 in
set_option maxHeartbeats 4000000 in
theorem lawch_a (il ih : Int) (pa la ka sq : Option Addr) (lp cp ll cl lk ck lq cq : Nat) (p : Nat → Sp2) (l : Nat → Int) (c : Nat → Cl3) (s : Nat → Int) (w : World) (hlp : lp ≤ maxLen) (hll : ll ≤ maxLen) (hlk : lk ≤ maxLen) (hlq : lq ≤ maxLen) (H : Hid (AnySip w pa la lp ll p l)) (HC : Hid (ClSl w ka lk c)) (HS : Hid (IntSl w sq lq s)) (K : Hid KnownOk')
    (hq : ¬ (lp ≤ 10 ∧ ll ≤ 10 ∧ lk ≤ 6)) :
    Calls Tryz.prog 6 #[.agg #[.int .i64 il, .int .i64 ih, .slice pa lp cp, .slice la ll cl], .slice ka lk ck, .slice sq lq cq] w
      fun e w' => e = .returned (.bool true) ∧ Below w.heap.size w w' := by
  have BX := Lib.hid (fun (w1 : World) (hb : Below (w.alloc (.cells #[.int .i64 il, .int .i64 ih, .slice pa lp cp, .slice la ll cl] 40)).heap.size (w.alloc (.cells #[.int .i64 il, .int .i64 ih, .slice pa lp cp, .slice la ll cl] 40)) w1) => bcell4 hb)
  have HL : Hid (∀ w1, Below (w.alloc (.cells #[.int .i64 il, .int .i64 ih, .slice pa lp cp, .slice la ll cl] 40)).heap.size (w.alloc (.cells #[.int .i64 il, .int .i64 ih, .slice pa lp cp, .slice la ll cl] 40)) w1 → AnySip w1 pa la lp ll p l ∧ ClSl w1 ka lk c ∧ IntSl w1 sq lq s) := Lib.hid fun w1 h => ⟨H.out.below (below_al h), HC.out.below (below_al h), HS.out.below (below_al h)⟩
  unfold maxLen at hlq
  have hsh : decide (lp ≤ 10 ∧ ll ≤ 10 ∧ lk ≤ 6) = false := decide_eq_false hq
  go_enter Tryz.func6, Tryz.ntmps6
  go_wp2_with (first
    | (go_at_call 16; refine (slim_w _ _ _ _ _ _ _ _ _ _ _ _ hlp hll hlk).mono ?_; rw [hsh]; rintro e w1 ⟨rfl, hb1⟩; obtain ⟨x0, x1, x2, x3, x4⟩ := BX.out _ hb1)
    | (go_at_call 9; refine (K.out _).mono ?_; rintro e w11 ⟨rfl, hb11⟩))
  go_ret
  exact ⟨rfl, below_al (hb1.trans (hb11.mono hb1.size))⟩

set_option maxRecDepth 100000 in
set_option maxHeartbeats 4000000 in
theorem lawch_a2 (il ih : Int) (pa la ka sq : Option Addr) (lp cp ll cl lk ck lq cq : Nat) (p : Nat → Sp2) (l : Nat → Int) (c : Nat → Cl3) (s : Nat → Int) (w : World) (hlp : lp ≤ maxLen) (hll : ll ≤ maxLen) (hlk : lk ≤ maxLen) (hlq : lq ≤ maxLen) (H : Hid (AnySip w pa la lp ll p l)) (HC : Hid (ClSl w ka lk c)) (HS : Hid (IntSl w sq lq s)) (K : Hid KnownOk')
    (hq : lp ≤ 10 ∧ ll ≤ 10 ∧ lk ≤ 6) (hq4 : ¬ lq ≤ 10) :
    Calls Tryz.prog 6 #[.agg #[.int .i64 il, .int .i64 ih, .slice pa lp cp, .slice la ll cl], .slice ka lk ck, .slice sq lq cq] w
      fun e w' => e = .returned (.bool true) ∧ Below w.heap.size w w' := by
  have BX := Lib.hid (fun (w1 : World) (hb : Below (w.alloc (.cells #[.int .i64 il, .int .i64 ih, .slice pa lp cp, .slice la ll cl] 40)).heap.size (w.alloc (.cells #[.int .i64 il, .int .i64 ih, .slice pa lp cp, .slice la ll cl] 40)) w1) => bcell4 hb)
  have HL : Hid (∀ w1, Below (w.alloc (.cells #[.int .i64 il, .int .i64 ih, .slice pa lp cp, .slice la ll cl] 40)).heap.size (w.alloc (.cells #[.int .i64 il, .int .i64 ih, .slice pa lp cp, .slice la ll cl] 40)) w1 → AnySip w1 pa la lp ll p l ∧ ClSl w1 ka lk c ∧ IntSl w1 sq lq s) := Lib.hid fun w1 h => ⟨H.out.below (below_al h), HC.out.below (below_al h), HS.out.below (below_al h)⟩
  unfold maxLen at hlq
  have hsh : decide (lp ≤ 10 ∧ ll ≤ 10 ∧ lk ≤ 6) = true := decide_eq_true hq
  obtain ⟨hq1, hq2, hq3⟩ := hq
  have hq5 : (10 : Int) < (lq : Int) := by omega
  go_enter Tryz.func6, Tryz.ntmps6
  go_wp2_with (first
    | (go_at_call 16; refine (slim_w _ _ _ _ _ _ _ _ _ _ _ _ hlp hll hlk).mono ?_; rw [hsh]; rintro e w1 ⟨rfl, hb1⟩; obtain ⟨x0, x1, x2, x3, x4⟩ := BX.out _ hb1)
    | (go_at_call 9; refine (K.out _).mono ?_; rintro e w11 ⟨rfl, hb11⟩))
  go_ret
  exact ⟨rfl, below_al (hb1.trans (hb11.mono hb1.size))⟩

set_option maxRecDepth 100000 in
set_option maxHeartbeats 4000000 in
theorem lawch_b1 (il ih : Int) (pa la ka sq : Option Addr) (lp cp ll cl lk ck lq cq : Nat) (p : Nat → Sp2) (l : Nat → Int) (c : Nat → Cl3) (s : Nat → Int) (w : World) (hlp : lp ≤ maxLen) (hll : ll ≤ maxLen) (hlk : lk ≤ maxLen) (hlq : lq ≤ maxLen) (H : Hid (AnySip w pa la lp ll p l)) (HC : Hid (ClSl w ka lk c)) (HS : Hid (IntSl w sq lq s)) (K : Hid KnownOk')
    (hq : lp ≤ 10 ∧ ll ≤ 10 ∧ lk ≤ 6) (hq4 : lq ≤ 10) (HR : Hid (¬ SipP il ih lp ll p l)) :
    Calls Tryz.prog 6 #[.agg #[.int .i64 il, .int .i64 ih, .slice pa lp cp, .slice la ll cl], .slice ka lk ck, .slice sq lq cq] w
      fun e w' => e = .returned (.bool true) ∧ Below w.heap.size w w' := by
  have BX := Lib.hid (fun (w1 : World) (hb : Below (w.alloc (.cells #[.int .i64 il, .int .i64 ih, .slice pa lp cp, .slice la ll cl] 40)).heap.size (w.alloc (.cells #[.int .i64 il, .int .i64 ih, .slice pa lp cp, .slice la ll cl] 40)) w1) => bcell4 hb)
  have HL : Hid (∀ w1, Below (w.alloc (.cells #[.int .i64 il, .int .i64 ih, .slice pa lp cp, .slice la ll cl] 40)).heap.size (w.alloc (.cells #[.int .i64 il, .int .i64 ih, .slice pa lp cp, .slice la ll cl] 40)) w1 → AnySip w1 pa la lp ll p l ∧ ClSl w1 ka lk c ∧ IntSl w1 sq lq s) := Lib.hid fun w1 h => ⟨H.out.below (below_al h), HC.out.below (below_al h), HS.out.below (below_al h)⟩
  unfold maxLen at hlq
  have hsh : decide (lp ≤ 10 ∧ ll ≤ 10 ∧ lk ≤ 6) = true := decide_eq_true hq
  obtain ⟨hq1, hq2, hq3⟩ := hq
  have hq5 : ¬ (10 : Int) < (lq : Int) := by omega
  go_enter Tryz.func6, Tryz.ntmps6
  go_wp2_with (first
    | (go_at_call 16; refine (slim_w _ _ _ _ _ _ _ _ _ _ _ _ hlp hll hlk).mono ?_; rw [hsh]; rintro e w1 ⟨rfl, hb1⟩; obtain ⟨x0, x1, x2, x3, x4⟩ := BX.out _ hb1)
    | (go_at_call 17; refine (rsiph_w _ _ _ _ _ _ _ _ p l _ (by omega) (by omega) (Lib.hid (HL.out _ hb1).1)).mono ?_; rintro e w2 ⟨⟨rb, rfl, hrb⟩, hb2⟩; obtain rfl : rb = false := (by cases rb <;> first | rfl | exact (HR.out (hrb.1 rfl)).elim); clear hrb; have chb2 := hb1.trans (hb2.mono hb1.size); clear x0 x1 x2 x3 x4; obtain ⟨x0, x1, x2, x3, x4⟩ := BX.out _ chb2)
    | (go_at_call 9; refine (K.out _).mono ?_; rintro e w11 ⟨rfl, hb11⟩))
  go_ret
  exact ⟨rfl, below_al (chb2.trans (hb11.mono chb2.size))⟩

set_option maxRecDepth 100000 in
set_option maxHeartbeats 4000000 in
theorem lawch_b2 (il ih : Int) (pa la ka sq : Option Addr) (lp cp ll cl lk ck lq cq : Nat) (p : Nat → Sp2) (l : Nat → Int) (c : Nat → Cl3) (s : Nat → Int) (w : World) (hlp : lp ≤ maxLen) (hll : ll ≤ maxLen) (hlk : lk ≤ maxLen) (hlq : lq ≤ maxLen) (H : Hid (AnySip w pa la lp ll p l)) (HC : Hid (ClSl w ka lk c)) (HS : Hid (IntSl w sq lq s)) (K : Hid KnownOk')
    (hq : lp ≤ 10 ∧ ll ≤ 10 ∧ lk ≤ 6) (hq4 : lq ≤ 10) (HR : Hid (SipP il ih lp ll p l)) (HK : Hid (¬ ClsP lk c)) :
    Calls Tryz.prog 6 #[.agg #[.int .i64 il, .int .i64 ih, .slice pa lp cp, .slice la ll cl], .slice ka lk ck, .slice sq lq cq] w
      fun e w' => e = .returned (.bool true) ∧ Below w.heap.size w w' := by
  have BX := Lib.hid (fun (w1 : World) (hb : Below (w.alloc (.cells #[.int .i64 il, .int .i64 ih, .slice pa lp cp, .slice la ll cl] 40)).heap.size (w.alloc (.cells #[.int .i64 il, .int .i64 ih, .slice pa lp cp, .slice la ll cl] 40)) w1) => bcell4 hb)
  have HL : Hid (∀ w1, Below (w.alloc (.cells #[.int .i64 il, .int .i64 ih, .slice pa lp cp, .slice la ll cl] 40)).heap.size (w.alloc (.cells #[.int .i64 il, .int .i64 ih, .slice pa lp cp, .slice la ll cl] 40)) w1 → AnySip w1 pa la lp ll p l ∧ ClSl w1 ka lk c ∧ IntSl w1 sq lq s) := Lib.hid fun w1 h => ⟨H.out.below (below_al h), HC.out.below (below_al h), HS.out.below (below_al h)⟩
  unfold maxLen at hlq
  have hsh : decide (lp ≤ 10 ∧ ll ≤ 10 ∧ lk ≤ 6) = true := decide_eq_true hq
  obtain ⟨hq1, hq2, hq3⟩ := hq
  have hq5 : ¬ (10 : Int) < (lq : Int) := by omega
  go_enter Tryz.func6, Tryz.ntmps6
  go_wp2_with (first
    | (go_at_call 16; refine (slim_w _ _ _ _ _ _ _ _ _ _ _ _ hlp hll hlk).mono ?_; rw [hsh]; rintro e w1 ⟨rfl, hb1⟩; obtain ⟨x0, x1, x2, x3, x4⟩ := BX.out _ hb1)
    | (go_at_call 17; refine (rsiph_w _ _ _ _ _ _ _ _ p l _ (by omega) (by omega) (Lib.hid (HL.out _ hb1).1)).mono ?_; rintro e w2 ⟨⟨rb, rfl, hrb⟩, hb2⟩; obtain rfl : rb = true := hrb.2 HR.out; clear hrb; have chb2 := hb1.trans (hb2.mono hb1.size); clear x0 x1 x2 x3 x4; obtain ⟨x0, x1, x2, x3, x4⟩ := BX.out _ chb2)
    | (go_at_call 18; refine (rcls_w _ _ _ c _ (by omega) (Lib.hid (HL.out _ chb2).2.1)).mono ?_; rintro e w3 ⟨⟨rb, rfl, hrb⟩, rfl⟩; obtain rfl : rb = false := (by cases rb <;> first | rfl | exact (HK.out (hrb.1 rfl)).elim); clear hrb)
    | (go_at_call 9; refine (K.out _).mono ?_; rintro e w11 ⟨rfl, hb11⟩))
  go_ret
  exact ⟨rfl, below_al (chb2.trans (hb11.mono chb2.size))⟩

set_option maxRecDepth 100000 in
set_option maxHeartbeats 4000000 in
theorem lawch_b3 (il ih : Int) (pa la ka sq : Option Addr) (lp cp ll cl lk ck lq cq : Nat) (p : Nat → Sp2) (l : Nat → Int) (c : Nat → Cl3) (s : Nat → Int) (w : World) (hlp : lp ≤ maxLen) (hll : ll ≤ maxLen) (hlk : lk ≤ maxLen) (hlq : lq ≤ maxLen) (H : Hid (AnySip w pa la lp ll p l)) (HC : Hid (ClSl w ka lk c)) (HS : Hid (IntSl w sq lq s)) (K : Hid KnownOk')
    (hq : lp ≤ 10 ∧ ll ≤ 10 ∧ lk ≤ 6) (hq4 : lq ≤ 10) (HR : Hid (SipP il ih lp ll p l)) (HK : Hid (ClsP lk c)) (HQ : Hid (¬ ChoP lk ll lq s)) :
    Calls Tryz.prog 6 #[.agg #[.int .i64 il, .int .i64 ih, .slice pa lp cp, .slice la ll cl], .slice ka lk ck, .slice sq lq cq] w
      fun e w' => e = .returned (.bool true) ∧ Below w.heap.size w w' := by
  have BX := Lib.hid (fun (w1 : World) (hb : Below (w.alloc (.cells #[.int .i64 il, .int .i64 ih, .slice pa lp cp, .slice la ll cl] 40)).heap.size (w.alloc (.cells #[.int .i64 il, .int .i64 ih, .slice pa lp cp, .slice la ll cl] 40)) w1) => bcell4 hb)
  have HL : Hid (∀ w1, Below (w.alloc (.cells #[.int .i64 il, .int .i64 ih, .slice pa lp cp, .slice la ll cl] 40)).heap.size (w.alloc (.cells #[.int .i64 il, .int .i64 ih, .slice pa lp cp, .slice la ll cl] 40)) w1 → AnySip w1 pa la lp ll p l ∧ ClSl w1 ka lk c ∧ IntSl w1 sq lq s) := Lib.hid fun w1 h => ⟨H.out.below (below_al h), HC.out.below (below_al h), HS.out.below (below_al h)⟩
  unfold maxLen at hlq
  have hsh : decide (lp ≤ 10 ∧ ll ≤ 10 ∧ lk ≤ 6) = true := decide_eq_true hq
  obtain ⟨hq1, hq2, hq3⟩ := hq
  have hq5 : ¬ (10 : Int) < (lq : Int) := by omega
  go_enter Tryz.func6, Tryz.ntmps6
  go_wp2_with (first
    | (go_at_call 16; refine (slim_w _ _ _ _ _ _ _ _ _ _ _ _ hlp hll hlk).mono ?_; rw [hsh]; rintro e w1 ⟨rfl, hb1⟩; obtain ⟨x0, x1, x2, x3, x4⟩ := BX.out _ hb1)
    | (go_at_call 17; refine (rsiph_w _ _ _ _ _ _ _ _ p l _ (by omega) (by omega) (Lib.hid (HL.out _ hb1).1)).mono ?_; rintro e w2 ⟨⟨rb, rfl, hrb⟩, hb2⟩; obtain rfl : rb = true := hrb.2 HR.out; clear hrb; have chb2 := hb1.trans (hb2.mono hb1.size); clear x0 x1 x2 x3 x4; obtain ⟨x0, x1, x2, x3, x4⟩ := BX.out _ chb2)
    | (go_at_call 18; refine (rcls_w _ _ _ c _ (by omega) (Lib.hid (HL.out _ chb2).2.1)).mono ?_; rintro e w3 ⟨⟨rb, rfl, hrb⟩, rfl⟩; obtain rfl : rb = true := hrb.2 HK.out; clear hrb)
    | (go_at_call 19; refine (rchosen_w _ _ _ _ _ _ _ _ _ _ _ _ s _ (by omega) (by omega) (by unfold maxLen; omega) (Lib.hid (HL.out _ chb2).2.2)).mono ?_; rintro e w4 ⟨⟨rb, rfl, hrb⟩, hb4⟩; obtain rfl : rb = false := (by cases rb <;> first | rfl | exact (HQ.out (hrb.1 rfl)).elim); clear hrb; have chb4 := chb2.trans (hb4.mono chb2.size); clear x0 x1 x2 x3 x4; obtain ⟨x0, x1, x2, x3, x4⟩ := BX.out _ chb4)
    | (go_at_call 9; refine (K.out _).mono ?_; rintro e w11 ⟨rfl, hb11⟩))
  go_ret
  exact ⟨rfl, below_al (chb4.trans (hb11.mono chb4.size))⟩

set_option maxRecDepth 100000 in
set_option maxHeartbeats 4000000 in
theorem lawch_d0 (il ih : Int) (C P cp A O ll cl : Nat) (p : Nat → Sp2) (l : Nat → Int) (C2 P2 lk ck : Nat) (c : Nat → Cl3) (D F cq : Nat) (s : Nat → Int) (w : World) (H : Hid (SipAt w C P (ll + 1) A O ll il ih p l)) (hC2 : C2 < w.heap.size) (HC : Hid (ClAt w C2 P2 lk c)) (HK : Hid (ClsP lk c)) (hD : D < w.heap.size) (HD : Hid (NumAt w D F ll s)) (HQ : Hid (ChoP lk ll ll s)) (K : Hid KnownOk') (HCH : Hid (cheap (sufL lk (cBu c (prOf il ih p)) l (cSt c) (cPr c) ll) = none)) (HOB : Hid (okV il ih p l c (chL s ll) = false)) :
    Calls Tryz.prog 6 #[.agg #[.int .i64 il, .int .i64 ih, .slice (some ⟨C, P, none⟩) (ll + 1) cp, .slice (some ⟨A, O, none⟩) ll cl], .slice (some ⟨C2, P2, none⟩) lk ck, .slice (some ⟨D, F, none⟩) ll cq] w
      fun e w' => e = .returned (.bool true) ∧ Below w.heap.size w w' := by
  have BX := Lib.hid (fun (w1 : World) (hb : Below (w.alloc (.cells #[.int .i64 il, .int .i64 ih, .slice (some ⟨C, P, none⟩) (ll + 1) cp, .slice (some ⟨A, O, none⟩) ll cl] 40)).heap.size (w.alloc (.cells #[.int .i64 il, .int .i64 ih, .slice (some ⟨C, P, none⟩) (ll + 1) cp, .slice (some ⟨A, O, none⟩) ll cl] 40)) w1) => bcell4 hb)
  have HL : Hid (∀ w1, Below (w.alloc (.cells #[.int .i64 il, .int .i64 ih, .slice (some ⟨C, P, none⟩) (ll + 1) cp, .slice (some ⟨A, O, none⟩) ll cl] 40)).heap.size (w.alloc (.cells #[.int .i64 il, .int .i64 ih, .slice (some ⟨C, P, none⟩) (ll + 1) cp, .slice (some ⟨A, O, none⟩) ll cl] 40)) w1 → SipAt w1 C P (ll + 1) A O ll il ih p l ∧ ClAt w1 C2 P2 lk c ∧ NumAt w1 D F ll s ∧ C2 < w1.heap.size ∧ D < w1.heap.size) := Lib.hid fun w1 h => ⟨H.out.below (below_al h), HC.out.below hC2 (below_al h), HD.out.below hD (below_al h), Nat.lt_of_lt_of_le hC2 (below_al h).size, Nat.lt_of_lt_of_le hD (below_al h).size⟩
  have q1 := H.out.lp1
  have q2 := H.out.lp2
  have g1 := HK.out.n1
  have g2 := HK.out.n2
  have hlp : ll + 1 ≤ maxLen := by unfold maxLen; omega
  have hll : ll ≤ maxLen := by unfold maxLen; omega
  have hlk : lk ≤ maxLen := by unfold maxLen; omega
  have hsh : decide (ll + 1 ≤ 10 ∧ ll ≤ 10 ∧ lk ≤ 6) = true := decide_eq_true ⟨by omega, by omega, by omega⟩
  have HR : Hid (SipP il ih (ll + 1) ll p l) := Lib.hid H.out.ok
  have hf1 : fstV none = .slice none 0 0 := rfl
  have hf2 : ∀ y : Yd, fstV (some y) = .slice (some ⟨y.g, 0, none⟩) y.c.length y.cap := fun _ => rfl
  have hf3 : fstQ none = 0 := rfl
  have hf4 : ∀ y : Yd, fstQ (some y) = y.q := fun _ => rfl
  go_enter Tryz.func6, Tryz.ntmps6
  go_wp2_with (first
    | (go_at_call 16; refine (slim_w _ _ _ _ _ _ _ _ _ _ _ _ hlp hll hlk).mono ?_; rw [hsh]; rintro e w1 ⟨rfl, hb1⟩; obtain ⟨x0, x1, x2, x3, x4⟩ := BX.out _ hb1)
    | (go_at_call 17; refine (rsiph_w _ _ _ _ _ _ _ _ p l _ (by omega) (by omega) (Lib.hid (HL.out _ hb1).1.any)).mono ?_; rintro e w2 ⟨⟨rb, rfl, hrb⟩, hb2⟩; obtain rfl : rb = true := hrb.2 HR.out; clear hrb; have chb2 := hb1.trans (hb2.mono hb1.size); clear x0 x1 x2 x3 x4; obtain ⟨x0, x1, x2, x3, x4⟩ := BX.out _ chb2)
    | (go_at_call 18; refine (rcls_w _ _ _ c _ (by omega) (Lib.hid (.inr ⟨C2, P2, rfl, (HL.out _ chb2).2.2.2.1, (HL.out _ chb2).2.1⟩))).mono ?_; rintro e w3 ⟨⟨rb, rfl, hrb⟩, rfl⟩; obtain rfl : rb = true := hrb.2 HK.out; clear hrb)
    | (go_at_call_of 19 (some (Addr.mk D F none)); refine (rchosen_w _ _ _ _ _ _ _ _ _ _ _ _ s _ (by omega) (by omega) hll (Lib.hid (.inr ⟨D, F, rfl, (HL.out _ chb2).2.2.2.2, (HL.out _ chb2).2.2.1⟩))).mono ?_; rintro e w4 ⟨⟨rb, rfl, hrb⟩, hb4⟩; obtain rfl : rb = true := hrb.2 HQ.out; clear hrb; have chb4 := chb2.trans (hb4.mono chb2.size); clear x0 x1 x2 x3 x4; obtain ⟨x0, x1, x2, x3, x4⟩ := BX.out _ chb4)
    | (go_at_call 22; refine (ppipes_w _ _ _ _ _ _ _ _ _ p l _ _ _ _ c _ (Lib.hid (HL.out _ chb4).1) (HL.out _ chb4).2.2.2.1 (Lib.hid (HL.out _ chb4).2.1) HK).mono ?_; rintro e w5 ⟨hb5, o, ho, rfl, hy⟩; obtain rfl : o = none := (by rw [HCH.out] at ho; cases o <;> first | rfl | cases ho); clear ho hy; have chb5 := chb4.trans (hb5.mono chb4.size); clear x0 x1 x2 x3 x4; obtain ⟨x0, x1, x2, x3, x4⟩ := BX.out _ chb5)
    | (go_at_call_of 27 (some (Addr.mk D F none)); refine (rsuff_w _ _ _ _ _ _ _ _ _ p l _ _ _ _ c _ _ _ s _ (Lib.hid (HL.out _ chb5).1) (HL.out _ chb5).2.2.2.1 (Lib.hid (HL.out _ chb5).2.1) HK (HL.out _ chb5).2.2.2.2 (Lib.hid (HL.out _ chb5).2.2.1) HQ).mono ?_; rw [HOB.out]; rintro e w6 ⟨rfl, hb6⟩; have chb6 := chb5.trans (hb6.mono chb5.size); clear x0 x1 x2 x3 x4; obtain ⟨x0, x1, x2, x3, x4⟩ := BX.out _ chb6)
    | (go_at_call 9; refine (K.out _).mono ?_; rintro e w11 ⟨rfl, hb11⟩))
  go_ret
  exact ⟨rfl, below_al (chb6.trans (hb11.mono chb6.size))⟩

set_option maxRecDepth 100000 in
set_option maxHeartbeats 4000000 in
theorem lawch_d1 (il ih : Int) (C P cp A O ll cl : Nat) (p : Nat → Sp2) (l : Nat → Int) (C2 P2 lk ck : Nat) (c : Nat → Cl3) (D F cq : Nat) (s : Nat → Int) (y : List Nat × Int) (X : Int) (w : World) (H : Hid (SipAt w C P (ll + 1) A O ll il ih p l)) (hC2 : C2 < w.heap.size) (HC : Hid (ClAt w C2 P2 lk c)) (HK : Hid (ClsP lk c)) (hD : D < w.heap.size) (HD : Hid (NumAt w D F ll s)) (HQ : Hid (ChoP lk ll ll s)) (K : Hid KnownOk') (HCH : Hid (cheap (sufL lk (cBu c (prOf il ih p)) l (cSt c) (cPr c) ll) = some y)) (HY1 : Hid (y.1.length = ll)) (HCY : Hid (ChoP lk ll ll fun i => ((y.1.getD i 0 : Nat) : Int))) (HOY : Hid (okV il ih p l c (chL (fun i => ((y.1.getD i 0 : Nat) : Int)) ll) = true)) (HPY : Hid (priceT l (cPr c) 0 (chL (fun i => ((y.1.getD i 0 : Nat) : Int)) ll) = y.2)) (HOB : Hid (okV il ih p l c (chL s ll) = false)) (HPO : Hid (priceT l (cPr c) 0 (chL s ll) = X)) :
    Calls Tryz.prog 6 #[.agg #[.int .i64 il, .int .i64 ih, .slice (some ⟨C, P, none⟩) (ll + 1) cp, .slice (some ⟨A, O, none⟩) ll cl], .slice (some ⟨C2, P2, none⟩) lk ck, .slice (some ⟨D, F, none⟩) ll cq] w
      fun e w' => e = .returned (.bool true) ∧ Below w.heap.size w w' := by
  have BX := Lib.hid (fun (w1 : World) (hb : Below (w.alloc (.cells #[.int .i64 il, .int .i64 ih, .slice (some ⟨C, P, none⟩) (ll + 1) cp, .slice (some ⟨A, O, none⟩) ll cl] 40)).heap.size (w.alloc (.cells #[.int .i64 il, .int .i64 ih, .slice (some ⟨C, P, none⟩) (ll + 1) cp, .slice (some ⟨A, O, none⟩) ll cl] 40)) w1) => bcell4 hb)
  have HL : Hid (∀ w1, Below (w.alloc (.cells #[.int .i64 il, .int .i64 ih, .slice (some ⟨C, P, none⟩) (ll + 1) cp, .slice (some ⟨A, O, none⟩) ll cl] 40)).heap.size (w.alloc (.cells #[.int .i64 il, .int .i64 ih, .slice (some ⟨C, P, none⟩) (ll + 1) cp, .slice (some ⟨A, O, none⟩) ll cl] 40)) w1 → SipAt w1 C P (ll + 1) A O ll il ih p l ∧ ClAt w1 C2 P2 lk c ∧ NumAt w1 D F ll s ∧ C2 < w1.heap.size ∧ D < w1.heap.size) := Lib.hid fun w1 h => ⟨H.out.below (below_al h), HC.out.below hC2 (below_al h), HD.out.below hD (below_al h), Nat.lt_of_lt_of_le hC2 (below_al h).size, Nat.lt_of_lt_of_le hD (below_al h).size⟩
  have q1 := H.out.lp1
  have q2 := H.out.lp2
  have g1 := HK.out.n1
  have g2 := HK.out.n2
  have hlp : ll + 1 ≤ maxLen := by unfold maxLen; omega
  have hll : ll ≤ maxLen := by unfold maxLen; omega
  have hlk : lk ≤ maxLen := by unfold maxLen; omega
  have hsh : decide (ll + 1 ≤ 10 ∧ ll ≤ 10 ∧ lk ≤ 6) = true := decide_eq_true ⟨by omega, by omega, by omega⟩
  have HR : Hid (SipP il ih (ll + 1) ll p l) := Lib.hid H.out.ok
  have hf1 : fstV none = .slice none 0 0 := rfl
  have hf2 : ∀ y : Yd, fstV (some y) = .slice (some ⟨y.g, 0, none⟩) y.c.length y.cap := fun _ => rfl
  have hf3 : fstQ none = 0 := rfl
  have hf4 : ∀ y : Yd, fstQ (some y) = y.q := fun _ => rfl
  go_enter Tryz.func6, Tryz.ntmps6
  go_wp2_with (first
    | (go_at_call 16; refine (slim_w _ _ _ _ _ _ _ _ _ _ _ _ hlp hll hlk).mono ?_; rw [hsh]; rintro e w1 ⟨rfl, hb1⟩; obtain ⟨x0, x1, x2, x3, x4⟩ := BX.out _ hb1)
    | (go_at_call 17; refine (rsiph_w _ _ _ _ _ _ _ _ p l _ (by omega) (by omega) (Lib.hid (HL.out _ hb1).1.any)).mono ?_; rintro e w2 ⟨⟨rb, rfl, hrb⟩, hb2⟩; obtain rfl : rb = true := hrb.2 HR.out; clear hrb; have chb2 := hb1.trans (hb2.mono hb1.size); clear x0 x1 x2 x3 x4; obtain ⟨x0, x1, x2, x3, x4⟩ := BX.out _ chb2)
    | (go_at_call 18; refine (rcls_w _ _ _ c _ (by omega) (Lib.hid (.inr ⟨C2, P2, rfl, (HL.out _ chb2).2.2.2.1, (HL.out _ chb2).2.1⟩))).mono ?_; rintro e w3 ⟨⟨rb, rfl, hrb⟩, rfl⟩; obtain rfl : rb = true := hrb.2 HK.out; clear hrb)
    | (go_at_call_of 19 (some (Addr.mk D F none)); refine (rchosen_w _ _ _ _ _ _ _ _ _ _ _ _ s _ (by omega) (by omega) hll (Lib.hid (.inr ⟨D, F, rfl, (HL.out _ chb2).2.2.2.2, (HL.out _ chb2).2.2.1⟩))).mono ?_; rintro e w4 ⟨⟨rb, rfl, hrb⟩, hb4⟩; obtain rfl : rb = true := hrb.2 HQ.out; clear hrb; have chb4 := chb2.trans (hb4.mono chb2.size); clear x0 x1 x2 x3 x4; obtain ⟨x0, x1, x2, x3, x4⟩ := BX.out _ chb4)
    | (go_at_call 22; refine (ppipes_w _ _ _ _ _ _ _ _ _ p l _ _ _ _ c _ (Lib.hid (HL.out _ chb4).1) (HL.out _ chb4).2.2.2.1 (Lib.hid (HL.out _ chb4).2.1) HK).mono ?_; rintro e w5 ⟨hb5, o, ho, rfl, hy⟩; obtain ⟨yd, rfl⟩ : ∃ yd, o = some yd := (by rw [HCH.out] at ho; cases o <;> first | exact ⟨_, rfl⟩ | cases ho); have hpr : yd.pr = y := (by rw [HCH.out] at ho; simpa using ho); obtain ⟨hyc, hyq⟩ : yd.c = y.1 ∧ yd.q = y.2 := ⟨congrArg Prod.fst hpr, congrArg Prod.snd hpr⟩; have hlen : yd.c.length = ll := (by rw [hyc]; exact HY1.out); have HNY := Lib.hid (atY_num (hy yd rfl).2); have HGY := Lib.hid (hy yd rfl).2.1; rw [hyc, HY1.out] at HNY; have HYQ := Lib.hid hyq; clear ho hy hpr hyc; have chb5 := chb4.trans (hb5.mono chb4.size); clear x0 x1 x2 x3 x4; obtain ⟨x0, x1, x2, x3, x4⟩ := BX.out _ chb5)
    | (go_at_call_of 27 (some (Addr.mk D F none)); refine (rsuff_w _ _ _ _ _ _ _ _ _ p l _ _ _ _ c _ _ _ s _ (Lib.hid (HL.out _ chb5).1) (HL.out _ chb5).2.2.2.1 (Lib.hid (HL.out _ chb5).2.1) HK (HL.out _ chb5).2.2.2.2 (Lib.hid (HL.out _ chb5).2.2.1) HQ).mono ?_; rw [HOB.out]; rintro e w6 ⟨rfl, hb6⟩; have chb6 := chb5.trans (hb6.mono chb5.size); clear x0 x1 x2 x3 x4; obtain ⟨x0, x1, x2, x3, x4⟩ := BX.out _ chb6)
    | (go_at_call_of 19 (some (Addr.mk yd.g 0 none)); refine (rchosen_w _ _ _ _ _ _ _ _ _ _ _ _ (fun i => ((y.1.getD i 0 : Nat) : Int)) _ (by omega) (by omega) hll (Lib.hid (.inr ⟨yd.g, 0, rfl, Nat.lt_of_lt_of_le HGY.out hb6.size, HNY.out.below HGY.out hb6⟩))).mono ?_; rintro e w7 ⟨⟨rb, rfl, hrb⟩, hb7⟩; obtain rfl : rb = true := hrb.2 HCY.out; clear hrb; have hn7 := hb6.trans (hb7.mono hb6.size); have chb7 := chb6.trans (hb7.mono chb6.size); clear x0 x1 x2 x3 x4; obtain ⟨x0, x1, x2, x3, x4⟩ := BX.out _ chb7)
    | (go_at_call_of 27 (some (Addr.mk yd.g 0 none)); refine (rsuff_w _ _ _ _ _ _ _ _ _ p l _ _ _ _ c _ _ _ (fun i => ((y.1.getD i 0 : Nat) : Int)) _ (Lib.hid (HL.out _ chb7).1) (HL.out _ chb7).2.2.2.1 (Lib.hid (HL.out _ chb7).2.1) HK (Nat.lt_of_lt_of_le HGY.out hn7.size) (Lib.hid (HNY.out.below HGY.out hn7)) HCY).mono ?_; rw [HOY.out]; rintro e w8 ⟨rfl, hb8⟩; have hn8 := hn7.trans (hb8.mono hn7.size); have chb8 := chb7.trans (hb8.mono chb7.size); clear x0 x1 x2 x3 x4; obtain ⟨x0, x1, x2, x3, x4⟩ := BX.out _ chb8)
    | (go_at_call_of 26 (some (Addr.mk yd.g 0 none)); refine (rprice_w _ _ _ _ _ _ _ _ _ p l _ _ _ _ c _ _ _ (fun i => ((y.1.getD i 0 : Nat) : Int)) _ (Lib.hid (HL.out _ chb8).1) (HL.out _ chb8).2.2.2.1 (Lib.hid (HL.out _ chb8).2.1) HK (Nat.lt_of_lt_of_le HGY.out hn8.size) (Lib.hid (HNY.out.below HGY.out hn8)) HCY).mono ?_; rw [HPY.out]; rintro e w9 ⟨rfl, hb9⟩; have hn9 := hn8.trans (hb9.mono hn8.size); have chb9 := chb8.trans (hb9.mono chb8.size); clear x0 x1 x2 x3 x4; obtain ⟨x0, x1, x2, x3, x4⟩ := BX.out _ chb9)
    | (go_at_call_of 26 (some (Addr.mk D F none)); refine (rprice_w _ _ _ _ _ _ _ _ _ p l _ _ _ _ c _ _ _ s _ (Lib.hid (HL.out _ chb9).1) (HL.out _ chb9).2.2.2.1 (Lib.hid (HL.out _ chb9).2.1) HK (HL.out _ chb9).2.2.2.2 (Lib.hid (HL.out _ chb9).2.2.1) HQ).mono ?_; rw [HPO.out]; rintro e w10 ⟨rfl, hb10⟩; have hn10 := hn9.trans (hb10.mono hn9.size); have chb10 := chb9.trans (hb10.mono chb9.size); clear x0 x1 x2 x3 x4; obtain ⟨x0, x1, x2, x3, x4⟩ := BX.out _ chb10)
    | (go_at_call 9; refine (K.out _).mono ?_; rintro e w11 ⟨rfl, hb11⟩))
  go_ret
  exact ⟨rfl, below_al (chb10.trans (hb11.mono chb10.size))⟩

set_option maxRecDepth 100000 in
set_option maxHeartbeats 4000000 in
theorem lawch_d2 (il ih : Int) (C P cp A O ll cl : Nat) (p : Nat → Sp2) (l : Nat → Int) (C2 P2 lk ck : Nat) (c : Nat → Cl3) (D F cq : Nat) (s : Nat → Int) (y : List Nat × Int) (X : Int) (w : World) (H : Hid (SipAt w C P (ll + 1) A O ll il ih p l)) (hC2 : C2 < w.heap.size) (HC : Hid (ClAt w C2 P2 lk c)) (HK : Hid (ClsP lk c)) (hD : D < w.heap.size) (HD : Hid (NumAt w D F ll s)) (HQ : Hid (ChoP lk ll ll s)) (K : Hid KnownOk') (HCH : Hid (cheap (sufL lk (cBu c (prOf il ih p)) l (cSt c) (cPr c) ll) = some y)) (HY1 : Hid (y.1.length = ll)) (HCY : Hid (ChoP lk ll ll fun i => ((y.1.getD i 0 : Nat) : Int))) (HOY : Hid (okV il ih p l c (chL (fun i => ((y.1.getD i 0 : Nat) : Int)) ll) = true)) (HPY : Hid (priceT l (cPr c) 0 (chL (fun i => ((y.1.getD i 0 : Nat) : Int)) ll) = y.2)) (HOB : Hid (okV il ih p l c (chL s ll) = true)) (HPO : Hid (priceT l (cPr c) 0 (chL s ll) = X)) (hX : y.2 < X) :
    Calls Tryz.prog 6 #[.agg #[.int .i64 il, .int .i64 ih, .slice (some ⟨C, P, none⟩) (ll + 1) cp, .slice (some ⟨A, O, none⟩) ll cl], .slice (some ⟨C2, P2, none⟩) lk ck, .slice (some ⟨D, F, none⟩) ll cq] w
      fun e w' => e = .returned (.bool true) ∧ Below w.heap.size w w' := by
  have BX := Lib.hid (fun (w1 : World) (hb : Below (w.alloc (.cells #[.int .i64 il, .int .i64 ih, .slice (some ⟨C, P, none⟩) (ll + 1) cp, .slice (some ⟨A, O, none⟩) ll cl] 40)).heap.size (w.alloc (.cells #[.int .i64 il, .int .i64 ih, .slice (some ⟨C, P, none⟩) (ll + 1) cp, .slice (some ⟨A, O, none⟩) ll cl] 40)) w1) => bcell4 hb)
  have HL : Hid (∀ w1, Below (w.alloc (.cells #[.int .i64 il, .int .i64 ih, .slice (some ⟨C, P, none⟩) (ll + 1) cp, .slice (some ⟨A, O, none⟩) ll cl] 40)).heap.size (w.alloc (.cells #[.int .i64 il, .int .i64 ih, .slice (some ⟨C, P, none⟩) (ll + 1) cp, .slice (some ⟨A, O, none⟩) ll cl] 40)) w1 → SipAt w1 C P (ll + 1) A O ll il ih p l ∧ ClAt w1 C2 P2 lk c ∧ NumAt w1 D F ll s ∧ C2 < w1.heap.size ∧ D < w1.heap.size) := Lib.hid fun w1 h => ⟨H.out.below (below_al h), HC.out.below hC2 (below_al h), HD.out.below hD (below_al h), Nat.lt_of_lt_of_le hC2 (below_al h).size, Nat.lt_of_lt_of_le hD (below_al h).size⟩
  have q1 := H.out.lp1
  have q2 := H.out.lp2
  have g1 := HK.out.n1
  have g2 := HK.out.n2
  have hlp : ll + 1 ≤ maxLen := by unfold maxLen; omega
  have hll : ll ≤ maxLen := by unfold maxLen; omega
  have hlk : lk ≤ maxLen := by unfold maxLen; omega
  have hsh : decide (ll + 1 ≤ 10 ∧ ll ≤ 10 ∧ lk ≤ 6) = true := decide_eq_true ⟨by omega, by omega, by omega⟩
  have HR : Hid (SipP il ih (ll + 1) ll p l) := Lib.hid H.out.ok
  have hf1 : fstV none = .slice none 0 0 := rfl
  have hf2 : ∀ y : Yd, fstV (some y) = .slice (some ⟨y.g, 0, none⟩) y.c.length y.cap := fun _ => rfl
  have hf3 : fstQ none = 0 := rfl
  have hf4 : ∀ y : Yd, fstQ (some y) = y.q := fun _ => rfl
  go_enter Tryz.func6, Tryz.ntmps6
  go_wp2_with (first
    | (go_at_call 16; refine (slim_w _ _ _ _ _ _ _ _ _ _ _ _ hlp hll hlk).mono ?_; rw [hsh]; rintro e w1 ⟨rfl, hb1⟩; obtain ⟨x0, x1, x2, x3, x4⟩ := BX.out _ hb1)
    | (go_at_call 17; refine (rsiph_w _ _ _ _ _ _ _ _ p l _ (by omega) (by omega) (Lib.hid (HL.out _ hb1).1.any)).mono ?_; rintro e w2 ⟨⟨rb, rfl, hrb⟩, hb2⟩; obtain rfl : rb = true := hrb.2 HR.out; clear hrb; have chb2 := hb1.trans (hb2.mono hb1.size); clear x0 x1 x2 x3 x4; obtain ⟨x0, x1, x2, x3, x4⟩ := BX.out _ chb2)
    | (go_at_call 18; refine (rcls_w _ _ _ c _ (by omega) (Lib.hid (.inr ⟨C2, P2, rfl, (HL.out _ chb2).2.2.2.1, (HL.out _ chb2).2.1⟩))).mono ?_; rintro e w3 ⟨⟨rb, rfl, hrb⟩, rfl⟩; obtain rfl : rb = true := hrb.2 HK.out; clear hrb)
    | (go_at_call_of 19 (some (Addr.mk D F none)); refine (rchosen_w _ _ _ _ _ _ _ _ _ _ _ _ s _ (by omega) (by omega) hll (Lib.hid (.inr ⟨D, F, rfl, (HL.out _ chb2).2.2.2.2, (HL.out _ chb2).2.2.1⟩))).mono ?_; rintro e w4 ⟨⟨rb, rfl, hrb⟩, hb4⟩; obtain rfl : rb = true := hrb.2 HQ.out; clear hrb; have chb4 := chb2.trans (hb4.mono chb2.size); clear x0 x1 x2 x3 x4; obtain ⟨x0, x1, x2, x3, x4⟩ := BX.out _ chb4)
    | (go_at_call 22; refine (ppipes_w _ _ _ _ _ _ _ _ _ p l _ _ _ _ c _ (Lib.hid (HL.out _ chb4).1) (HL.out _ chb4).2.2.2.1 (Lib.hid (HL.out _ chb4).2.1) HK).mono ?_; rintro e w5 ⟨hb5, o, ho, rfl, hy⟩; obtain ⟨yd, rfl⟩ : ∃ yd, o = some yd := (by rw [HCH.out] at ho; cases o <;> first | exact ⟨_, rfl⟩ | cases ho); have hpr : yd.pr = y := (by rw [HCH.out] at ho; simpa using ho); obtain ⟨hyc, hyq⟩ : yd.c = y.1 ∧ yd.q = y.2 := ⟨congrArg Prod.fst hpr, congrArg Prod.snd hpr⟩; have hlen : yd.c.length = ll := (by rw [hyc]; exact HY1.out); have HNY := Lib.hid (atY_num (hy yd rfl).2); have HGY := Lib.hid (hy yd rfl).2.1; rw [hyc, HY1.out] at HNY; have HYQ := Lib.hid hyq; clear ho hy hpr hyc; have chb5 := chb4.trans (hb5.mono chb4.size); clear x0 x1 x2 x3 x4; obtain ⟨x0, x1, x2, x3, x4⟩ := BX.out _ chb5)
    | (go_at_call_of 27 (some (Addr.mk D F none)); refine (rsuff_w _ _ _ _ _ _ _ _ _ p l _ _ _ _ c _ _ _ s _ (Lib.hid (HL.out _ chb5).1) (HL.out _ chb5).2.2.2.1 (Lib.hid (HL.out _ chb5).2.1) HK (HL.out _ chb5).2.2.2.2 (Lib.hid (HL.out _ chb5).2.2.1) HQ).mono ?_; rw [HOB.out]; rintro e w6 ⟨rfl, hb6⟩; have chb6 := chb5.trans (hb6.mono chb5.size); clear x0 x1 x2 x3 x4; obtain ⟨x0, x1, x2, x3, x4⟩ := BX.out _ chb6)
    | (go_at_call_of 19 (some (Addr.mk yd.g 0 none)); refine (rchosen_w _ _ _ _ _ _ _ _ _ _ _ _ (fun i => ((y.1.getD i 0 : Nat) : Int)) _ (by omega) (by omega) hll (Lib.hid (.inr ⟨yd.g, 0, rfl, Nat.lt_of_lt_of_le HGY.out hb6.size, HNY.out.below HGY.out hb6⟩))).mono ?_; rintro e w7 ⟨⟨rb, rfl, hrb⟩, hb7⟩; obtain rfl : rb = true := hrb.2 HCY.out; clear hrb; have hn7 := hb6.trans (hb7.mono hb6.size); have chb7 := chb6.trans (hb7.mono chb6.size); clear x0 x1 x2 x3 x4; obtain ⟨x0, x1, x2, x3, x4⟩ := BX.out _ chb7)
    | (go_at_call_of 27 (some (Addr.mk yd.g 0 none)); refine (rsuff_w _ _ _ _ _ _ _ _ _ p l _ _ _ _ c _ _ _ (fun i => ((y.1.getD i 0 : Nat) : Int)) _ (Lib.hid (HL.out _ chb7).1) (HL.out _ chb7).2.2.2.1 (Lib.hid (HL.out _ chb7).2.1) HK (Nat.lt_of_lt_of_le HGY.out hn7.size) (Lib.hid (HNY.out.below HGY.out hn7)) HCY).mono ?_; rw [HOY.out]; rintro e w8 ⟨rfl, hb8⟩; have hn8 := hn7.trans (hb8.mono hn7.size); have chb8 := chb7.trans (hb8.mono chb7.size); clear x0 x1 x2 x3 x4; obtain ⟨x0, x1, x2, x3, x4⟩ := BX.out _ chb8)
    | (go_at_call_of 26 (some (Addr.mk yd.g 0 none)); refine (rprice_w _ _ _ _ _ _ _ _ _ p l _ _ _ _ c _ _ _ (fun i => ((y.1.getD i 0 : Nat) : Int)) _ (Lib.hid (HL.out _ chb8).1) (HL.out _ chb8).2.2.2.1 (Lib.hid (HL.out _ chb8).2.1) HK (Nat.lt_of_lt_of_le HGY.out hn8.size) (Lib.hid (HNY.out.below HGY.out hn8)) HCY).mono ?_; rw [HPY.out]; rintro e w9 ⟨rfl, hb9⟩; have hn9 := hn8.trans (hb9.mono hn8.size); have chb9 := chb8.trans (hb9.mono chb8.size); clear x0 x1 x2 x3 x4; obtain ⟨x0, x1, x2, x3, x4⟩ := BX.out _ chb9)
    | (go_at_call_of 26 (some (Addr.mk D F none)); refine (rprice_w _ _ _ _ _ _ _ _ _ p l _ _ _ _ c _ _ _ s _ (Lib.hid (HL.out _ chb9).1) (HL.out _ chb9).2.2.2.1 (Lib.hid (HL.out _ chb9).2.1) HK (HL.out _ chb9).2.2.2.2 (Lib.hid (HL.out _ chb9).2.2.1) HQ).mono ?_; rw [HPO.out]; rintro e w10 ⟨rfl, hb10⟩; have hn10 := hn9.trans (hb10.mono hn9.size); have chb10 := chb9.trans (hb10.mono chb9.size); clear x0 x1 x2 x3 x4; obtain ⟨x0, x1, x2, x3, x4⟩ := BX.out _ chb10)
    | (go_at_call 9; refine (K.out _).mono ?_; rintro e w11 ⟨rfl, hb11⟩))
  go_ret
  exact ⟨rfl, below_al (chb10.trans (hb11.mono chb10.size))⟩

set_option maxRecDepth 100000 in
set_option maxHeartbeats 4000000 in
theorem lawch_d3 (il ih : Int) (C P cp A O ll cl : Nat) (p : Nat → Sp2) (l : Nat → Int) (C2 P2 lk ck : Nat) (c : Nat → Cl3) (D F cq : Nat) (s : Nat → Int) (y : List Nat × Int) (X : Int) (w : World) (H : Hid (SipAt w C P (ll + 1) A O ll il ih p l)) (hC2 : C2 < w.heap.size) (HC : Hid (ClAt w C2 P2 lk c)) (HK : Hid (ClsP lk c)) (hD : D < w.heap.size) (HD : Hid (NumAt w D F ll s)) (HQ : Hid (ChoP lk ll ll s)) (K : Hid KnownOk') (HCH : Hid (cheap (sufL lk (cBu c (prOf il ih p)) l (cSt c) (cPr c) ll) = some y)) (HY1 : Hid (y.1.length = ll)) (HCY : Hid (ChoP lk ll ll fun i => ((y.1.getD i 0 : Nat) : Int))) (HOY : Hid (okV il ih p l c (chL (fun i => ((y.1.getD i 0 : Nat) : Int)) ll) = true)) (HPY : Hid (priceT l (cPr c) 0 (chL (fun i => ((y.1.getD i 0 : Nat) : Int)) ll) = y.2)) (HOB : Hid (okV il ih p l c (chL s ll) = true)) (HPO : Hid (priceT l (cPr c) 0 (chL s ll) = X)) (HX : Hid (y.2 = X)) (HSE : Hid (∀ i, i < ll → s i = (((chL s ll).getD i 0 : Nat) : Int))) (HLX : Hid (lexB (chL s ll) y.1 = false)) :
    Calls Tryz.prog 6 #[.agg #[.int .i64 il, .int .i64 ih, .slice (some ⟨C, P, none⟩) (ll + 1) cp, .slice (some ⟨A, O, none⟩) ll cl], .slice (some ⟨C2, P2, none⟩) lk ck, .slice (some ⟨D, F, none⟩) ll cq] w
      fun e w' => e = .returned (.bool true) ∧ Below w.heap.size w w' := by
  have BX := Lib.hid (fun (w1 : World) (hb : Below (w.alloc (.cells #[.int .i64 il, .int .i64 ih, .slice (some ⟨C, P, none⟩) (ll + 1) cp, .slice (some ⟨A, O, none⟩) ll cl] 40)).heap.size (w.alloc (.cells #[.int .i64 il, .int .i64 ih, .slice (some ⟨C, P, none⟩) (ll + 1) cp, .slice (some ⟨A, O, none⟩) ll cl] 40)) w1) => bcell4 hb)
  have HL : Hid (∀ w1, Below (w.alloc (.cells #[.int .i64 il, .int .i64 ih, .slice (some ⟨C, P, none⟩) (ll + 1) cp, .slice (some ⟨A, O, none⟩) ll cl] 40)).heap.size (w.alloc (.cells #[.int .i64 il, .int .i64 ih, .slice (some ⟨C, P, none⟩) (ll + 1) cp, .slice (some ⟨A, O, none⟩) ll cl] 40)) w1 → SipAt w1 C P (ll + 1) A O ll il ih p l ∧ ClAt w1 C2 P2 lk c ∧ NumAt w1 D F ll s ∧ C2 < w1.heap.size ∧ D < w1.heap.size) := Lib.hid fun w1 h => ⟨H.out.below (below_al h), HC.out.below hC2 (below_al h), HD.out.below hD (below_al h), Nat.lt_of_lt_of_le hC2 (below_al h).size, Nat.lt_of_lt_of_le hD (below_al h).size⟩
  have q1 := H.out.lp1
  have q2 := H.out.lp2
  have g1 := HK.out.n1
  have g2 := HK.out.n2
  have hlp : ll + 1 ≤ maxLen := by unfold maxLen; omega
  have hll : ll ≤ maxLen := by unfold maxLen; omega
  have hlk : lk ≤ maxLen := by unfold maxLen; omega
  have hsh : decide (ll + 1 ≤ 10 ∧ ll ≤ 10 ∧ lk ≤ 6) = true := decide_eq_true ⟨by omega, by omega, by omega⟩
  have HR : Hid (SipP il ih (ll + 1) ll p l) := Lib.hid H.out.ok
  have hf1 : fstV none = .slice none 0 0 := rfl
  have hf2 : ∀ y : Yd, fstV (some y) = .slice (some ⟨y.g, 0, none⟩) y.c.length y.cap := fun _ => rfl
  have hf3 : fstQ none = 0 := rfl
  have hf4 : ∀ y : Yd, fstQ (some y) = y.q := fun _ => rfl
  have hX0 : ¬ y.2 < X := by have := HX.out; omega
  have hX2 : (X == y.2) = true := by have := HX.out; simp [this]
  go_enter Tryz.func6, Tryz.ntmps6
  go_wp2_with (first
    | (go_at_call 16; refine (slim_w _ _ _ _ _ _ _ _ _ _ _ _ hlp hll hlk).mono ?_; rw [hsh]; rintro e w1 ⟨rfl, hb1⟩; obtain ⟨x0, x1, x2, x3, x4⟩ := BX.out _ hb1)
    | (go_at_call 17; refine (rsiph_w _ _ _ _ _ _ _ _ p l _ (by omega) (by omega) (Lib.hid (HL.out _ hb1).1.any)).mono ?_; rintro e w2 ⟨⟨rb, rfl, hrb⟩, hb2⟩; obtain rfl : rb = true := hrb.2 HR.out; clear hrb; have chb2 := hb1.trans (hb2.mono hb1.size); clear x0 x1 x2 x3 x4; obtain ⟨x0, x1, x2, x3, x4⟩ := BX.out _ chb2)
    | (go_at_call 18; refine (rcls_w _ _ _ c _ (by omega) (Lib.hid (.inr ⟨C2, P2, rfl, (HL.out _ chb2).2.2.2.1, (HL.out _ chb2).2.1⟩))).mono ?_; rintro e w3 ⟨⟨rb, rfl, hrb⟩, rfl⟩; obtain rfl : rb = true := hrb.2 HK.out; clear hrb)
    | (go_at_call_of 19 (some (Addr.mk D F none)); refine (rchosen_w _ _ _ _ _ _ _ _ _ _ _ _ s _ (by omega) (by omega) hll (Lib.hid (.inr ⟨D, F, rfl, (HL.out _ chb2).2.2.2.2, (HL.out _ chb2).2.2.1⟩))).mono ?_; rintro e w4 ⟨⟨rb, rfl, hrb⟩, hb4⟩; obtain rfl : rb = true := hrb.2 HQ.out; clear hrb; have chb4 := chb2.trans (hb4.mono chb2.size); clear x0 x1 x2 x3 x4; obtain ⟨x0, x1, x2, x3, x4⟩ := BX.out _ chb4)
    | (go_at_call 22; refine (ppipes_w _ _ _ _ _ _ _ _ _ p l _ _ _ _ c _ (Lib.hid (HL.out _ chb4).1) (HL.out _ chb4).2.2.2.1 (Lib.hid (HL.out _ chb4).2.1) HK).mono ?_; rintro e w5 ⟨hb5, o, ho, rfl, hy⟩; obtain ⟨yd, rfl⟩ : ∃ yd, o = some yd := (by rw [HCH.out] at ho; cases o <;> first | exact ⟨_, rfl⟩ | cases ho); have hpr : yd.pr = y := (by rw [HCH.out] at ho; simpa using ho); obtain ⟨hyc, hyq⟩ : yd.c = y.1 ∧ yd.q = y.2 := ⟨congrArg Prod.fst hpr, congrArg Prod.snd hpr⟩; have hlen : yd.c.length = ll := (by rw [hyc]; exact HY1.out); have HNY := Lib.hid (atY_num (hy yd rfl).2); have HGY := Lib.hid (hy yd rfl).2.1; rw [hyc, HY1.out] at HNY; have HYQ := Lib.hid hyq; clear ho hy hpr hyc; have chb5 := chb4.trans (hb5.mono chb4.size); clear x0 x1 x2 x3 x4; obtain ⟨x0, x1, x2, x3, x4⟩ := BX.out _ chb5)
    | (go_at_call_of 27 (some (Addr.mk D F none)); refine (rsuff_w _ _ _ _ _ _ _ _ _ p l _ _ _ _ c _ _ _ s _ (Lib.hid (HL.out _ chb5).1) (HL.out _ chb5).2.2.2.1 (Lib.hid (HL.out _ chb5).2.1) HK (HL.out _ chb5).2.2.2.2 (Lib.hid (HL.out _ chb5).2.2.1) HQ).mono ?_; rw [HOB.out]; rintro e w6 ⟨rfl, hb6⟩; have chb6 := chb5.trans (hb6.mono chb5.size); clear x0 x1 x2 x3 x4; obtain ⟨x0, x1, x2, x3, x4⟩ := BX.out _ chb6)
    | (go_at_call_of 19 (some (Addr.mk yd.g 0 none)); refine (rchosen_w _ _ _ _ _ _ _ _ _ _ _ _ (fun i => ((y.1.getD i 0 : Nat) : Int)) _ (by omega) (by omega) hll (Lib.hid (.inr ⟨yd.g, 0, rfl, Nat.lt_of_lt_of_le HGY.out hb6.size, HNY.out.below HGY.out hb6⟩))).mono ?_; rintro e w7 ⟨⟨rb, rfl, hrb⟩, hb7⟩; obtain rfl : rb = true := hrb.2 HCY.out; clear hrb; have hn7 := hb6.trans (hb7.mono hb6.size); have chb7 := chb6.trans (hb7.mono chb6.size); clear x0 x1 x2 x3 x4; obtain ⟨x0, x1, x2, x3, x4⟩ := BX.out _ chb7)
    | (go_at_call_of 27 (some (Addr.mk yd.g 0 none)); refine (rsuff_w _ _ _ _ _ _ _ _ _ p l _ _ _ _ c _ _ _ (fun i => ((y.1.getD i 0 : Nat) : Int)) _ (Lib.hid (HL.out _ chb7).1) (HL.out _ chb7).2.2.2.1 (Lib.hid (HL.out _ chb7).2.1) HK (Nat.lt_of_lt_of_le HGY.out hn7.size) (Lib.hid (HNY.out.below HGY.out hn7)) HCY).mono ?_; rw [HOY.out]; rintro e w8 ⟨rfl, hb8⟩; have hn8 := hn7.trans (hb8.mono hn7.size); have chb8 := chb7.trans (hb8.mono chb7.size); clear x0 x1 x2 x3 x4; obtain ⟨x0, x1, x2, x3, x4⟩ := BX.out _ chb8)
    | (go_at_call_of 26 (some (Addr.mk yd.g 0 none)); refine (rprice_w _ _ _ _ _ _ _ _ _ p l _ _ _ _ c _ _ _ (fun i => ((y.1.getD i 0 : Nat) : Int)) _ (Lib.hid (HL.out _ chb8).1) (HL.out _ chb8).2.2.2.1 (Lib.hid (HL.out _ chb8).2.1) HK (Nat.lt_of_lt_of_le HGY.out hn8.size) (Lib.hid (HNY.out.below HGY.out hn8)) HCY).mono ?_; rw [HPY.out]; rintro e w9 ⟨rfl, hb9⟩; have hn9 := hn8.trans (hb9.mono hn8.size); have chb9 := chb8.trans (hb9.mono chb8.size); clear x0 x1 x2 x3 x4; obtain ⟨x0, x1, x2, x3, x4⟩ := BX.out _ chb9)
    | (go_at_call_of 26 (some (Addr.mk D F none)); refine (rprice_w _ _ _ _ _ _ _ _ _ p l _ _ _ _ c _ _ _ s _ (Lib.hid (HL.out _ chb9).1) (HL.out _ chb9).2.2.2.1 (Lib.hid (HL.out _ chb9).2.1) HK (HL.out _ chb9).2.2.2.2 (Lib.hid (HL.out _ chb9).2.2.1) HQ).mono ?_; rw [HPO.out]; rintro e w10 ⟨rfl, hb10⟩; have hn10 := hn9.trans (hb10.mono hn9.size); have chb10 := chb9.trans (hb10.mono chb9.size); clear x0 x1 x2 x3 x4; obtain ⟨x0, x1, x2, x3, x4⟩ := BX.out _ chb10)
    | (go_at_call 28; refine (before_w _ _ _ _ _ _ _ (chL s ll) y.1 _ (by omega) (chL_len _ _) HY1.out (HL.out _ chb10).2.2.2.2 (Nat.lt_of_lt_of_le HGY.out hn10.size) (Lib.hid (numAt_congr (HL.out _ chb10).2.2.1 HSE.out)) (Lib.hid (HNY.out.below HGY.out hn10))).mono ?_; rw [HLX.out]; rintro e w12 ⟨rfl, hb12⟩; have chb12 := chb10.trans (hb12.mono chb10.size); clear x0 x1 x2 x3 x4; obtain ⟨x0, x1, x2, x3, x4⟩ := BX.out _ chb12)
    | (go_at_call 9; refine (K.out _).mono ?_; rintro e w11 ⟨rfl, hb11⟩))
  go_ret
  exact ⟨rfl, below_al (chb12.trans (hb11.mono chb12.size))⟩

end Go.Kn

namespace Go.Kn
open Go Go.Proofs Go.RowKit

theorem chL_lt {lk ll : Nat} {s : Nat → Int} (hQ : ChoP lk ll ll s) : ∀ j ∈ chL s ll, j < lk := by
  intro j hj
  simp only [chL, List.mem_map, List.mem_range] at hj
  obtain ⟨i, hi, rfl⟩ := hj
  have h1 := hQ.ok i hi
  simp only [fromB, decide_eq_true_eq] at h1
  omega

/-- what is known of the choice that is returned -/
theorem best_of {lk ll : Nat} {il ih : Int} {p : Nat → Sp2} {l : Nat → Int} {c : Nat → Cl3} {y : List Nat × Int} (hch : cheap (sufL lk (cBu c (prOf il ih p)) l (cSt c) (cPr c) ll) = some y) :
    y.1.length = ll ∧ ChoP lk ll ll (fun i => ((y.1.getD i 0 : Nat) : Int)) ∧ okV il ih p l c (chL (fun i => ((y.1.getD i 0 : Nat) : Int)) ll) = true ∧ priceT l (cPr c) 0 (chL (fun i => ((y.1.getD i 0 : Nat) : Int)) ll) = y.2 ∧ okV il ih p l c y.1 = true := by
  obtain ⟨h1, h2⟩ := cheap_mem rfl hch
  obtain ⟨⟨h3, h4⟩, h5, h6⟩ := mem_sufL.1 h1
  have h7 : chL (fun i => ((y.1.getD i 0 : Nat) : Int)) ll = y.1 := by rw [← h3]; exact chL_self y.1
  refine ⟨h3, ⟨rfl, fun i hi => ?_⟩, by rw [h7]; exact h5, by rw [h7]; exact h6.symm, h5⟩
  have h8 : y.1.getD i 0 ∈ y.1 := by
    have hi' : i < y.1.length := by omega
    simp [List.getD, List.getElem?_eq_getElem hi']
  have := h4 _ h8
  simp only [fromB, decide_eq_true_eq]
  omega

theorem lawch_w (il ih : Int) (pa la ka sq : Option Addr) (lp cp ll cl lk ck lq cq : Nat) (p : Nat → Sp2) (l : Nat → Int) (c : Nat → Cl3) (s : Nat → Int) (w : World) (hlp : lp ≤ maxLen) (hll : ll ≤ maxLen) (hlk : lk ≤ maxLen) (hlq : lq ≤ maxLen) (H : AnySip w pa la lp ll p l) (HC : ClSl w ka lk c) (HS : IntSl w sq lq s) (K : Hid KnownOk') :
    Calls Tryz.prog 6 #[.agg #[.int .i64 il, .int .i64 ih, .slice pa lp cp, .slice la ll cl], .slice ka lk ck, .slice sq lq cq] w
      fun e w' => e = .returned (.bool true) ∧ Below w.heap.size w w' := by
  by_cases hq : lp ≤ 10 ∧ ll ≤ 10 ∧ lk ≤ 6
  case neg => exact lawch_a il ih pa la ka sq lp cp ll cl lk ck lq cq p l c s w hlp hll hlk hlq (Lib.hid H) (Lib.hid HC) (Lib.hid HS) K hq
  by_cases hq4 : lq ≤ 10
  case neg => exact lawch_a2 il ih pa la ka sq lp cp ll cl lk ck lq cq p l c s w hlp hll hlk hlq (Lib.hid H) (Lib.hid HC) (Lib.hid HS) K hq hq4
  by_cases hR : SipP il ih lp ll p l
  case neg => exact lawch_b1 il ih pa la ka sq lp cp ll cl lk ck lq cq p l c s w hlp hll hlk hlq (Lib.hid H) (Lib.hid HC) (Lib.hid HS) K hq hq4 (Lib.hid hR)
  by_cases hK : ClsP lk c
  case neg => exact lawch_b2 il ih pa la ka sq lp cp ll cl lk ck lq cq p l c s w hlp hll hlk hlq (Lib.hid H) (Lib.hid HC) (Lib.hid HS) K hq hq4 (Lib.hid hR) (Lib.hid hK)
  by_cases hQ : ChoP lk ll lq s
  case neg => exact lawch_b3 il ih pa la ka sq lp cp ll cl lk ck lq cq p l c s w hlp hll hlk hlq (Lib.hid H) (Lib.hid HC) (Lib.hid HS) K hq hq4 (Lib.hid hR) (Lib.hid hK) (Lib.hid hQ)
  obtain rfl := hR.lpe
  obtain rfl := hQ.eq
  obtain ⟨C, P, rfl, hC, hsp⟩ := H.hp.resolve_left (by have := hR.lp1; omega)
  obtain ⟨A, O, rfl, hA, hln⟩ := H.hl.resolve_left (by have := hR.lp1; omega)
  obtain ⟨C2, P2, rfl, hC2, hcl⟩ := HC.resolve_left (by have := hK.n1; omega)
  obtain ⟨D, F, rfl, hD, hss⟩ := HS.resolve_left (by have := hR.lp1; omega)
  have HSA : Hid (SipAt w C P (lq + 1) A O lq il ih p l) := Lib.hid ⟨hC, hA, hsp, hln, hR.lp1, hR.lp2, rfl, hR.iok, hR.pok, hR.lok⟩
  have hlen : (chL s lq).length = lq := chL_len _ _
  have hin : okV il ih p l c (chL s lq) = true → (chL s lq, priceT l (cPr c) 0 (chL s lq)) ∈ sufL lk (cBu c (prOf il ih p)) l (cSt c) (cPr c) lq := fun h => mem_sufL.2 ⟨⟨hlen, chL_lt hQ⟩, h, rfl⟩
  cases hch : cheap (sufL lk (cBu c (prOf il ih p)) l (cSt c) (cPr c) lq) with
  | none =>
    refine lawch_d0 il ih C P cp A O lq cl p l C2 P2 lk ck c D F cq s w HSA hC2 (Lib.hid hcl) (Lib.hid hK) hD (Lib.hid hss) (Lib.hid hQ) K (Lib.hid hch) (Lib.hid ?_)
    cases hb : okV il ih p l c (chL s lq) with
    | false => rfl
    | true => have := hin hb; rw [cheap_nil.1 hch] at this; cases this
  | some y =>
    obtain ⟨h1, h2, h3, h4, _⟩ := best_of hch
    obtain ⟨_, hmin⟩ := cheap_mem rfl hch
    cases hb : okV il ih p l c (chL s lq) with
    | false => exact lawch_d1 il ih C P cp A O lq cl p l C2 P2 lk ck c D F cq s y _ w HSA hC2 (Lib.hid hcl) (Lib.hid hK) hD (Lib.hid hss) (Lib.hid hQ) K (Lib.hid hch) (Lib.hid h1) (Lib.hid h2) (Lib.hid h3) (Lib.hid h4) (Lib.hid hb) (Lib.hid rfl)
    | true =>
      have hle := hmin _ (hin hb)
      simp only at hle
      by_cases hX : y.2 < priceT l (cPr c) 0 (chL s lq)
      · exact lawch_d2 il ih C P cp A O lq cl p l C2 P2 lk ck c D F cq s y _ w HSA hC2 (Lib.hid hcl) (Lib.hid hK) hD (Lib.hid hss) (Lib.hid hQ) K (Lib.hid hch) (Lib.hid h1) (Lib.hid h2) (Lib.hid h3) (Lib.hid h4) (Lib.hid hb) (Lib.hid rfl) hX
      · have hlx := cheap_lex (sufL_sorted _ _ _ _ _ _) hch (hin hb) (by simp only; omega)
        refine lawch_d3 il ih C P cp A O lq cl p l C2 P2 lk ck c D F cq s y _ w HSA hC2 (Lib.hid hcl) (Lib.hid hK) hD (Lib.hid hss) (Lib.hid hQ) K (Lib.hid hch) (Lib.hid h1) (Lib.hid h2) (Lib.hid h3) (Lib.hid h4) (Lib.hid hb) (Lib.hid rfl) (Lib.hid (by omega)) (Lib.hid fun i hi => ?_) (Lib.hid hlx)
        rw [chL_getD hi]
        have := hQ.ok i hi
        simp only [fromB, decide_eq_true_eq] at this
        omega
end Go.Kn
