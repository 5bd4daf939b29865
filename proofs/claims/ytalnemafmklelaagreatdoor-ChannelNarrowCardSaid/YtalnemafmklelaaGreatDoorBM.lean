/- Walks of functions of layer 2 (contracts that the laws of this seat use). Conditions: as each theorem states them. -/
import Derived.Test.YtalnemafmklelaaGreatDoorBL
import Derived.Test.YtalnemafmklelaaGreatDoorBQ
import Derived.Deep.RegionHeld3
set_option linter.unusedVariables false
set_option linter.unusedSimpArgs false
namespace Go.Kn
open Go Go.Proofs Go.RowKit

structure RateP (lt lq : Nat) (t : Nat → St5) (r : Nat → Int) : Prop where
  eq : lq = lt
  ok : ∀ i, i < lt → (t i).lo ≤ r i ∧ r i ≤ (t i).hi

set_option maxRecDepth 100000 in
set_option maxHeartbeats 4000000 in
theorem rated_w (A O C P ls cs lt ct : Nat) (sq : Option Addr) (lq cq : Nat) (s : Nat → Int) (t : Nat → St5) (r : Nat → Int) (w : World) (H : Hid (LineAt w A O C P ls lt s t)) (hlq : lq ≤ maxLen) (HS : Hid (IntSl w sq lq r)) :
    Calls Tryz.prog 31 #[.agg #[.slice (some ⟨A, O, none⟩) ls cs, .slice (some ⟨C, P, none⟩) lt ct], .slice sq lq cq] w
      fun e w' => (∃ rb : Bool, e = .returned (.bool rb) ∧ (rb = true ↔ RateP lt lq t r)) ∧ Below w.heap.size w w' := by
  have BX := Lib.hid (fun (w1 : World) (hb : Below (w.alloc (.cells #[.slice (some ⟨A, O, none⟩) ls cs, .slice (some ⟨C, P, none⟩) lt ct] 25)).heap.size (w.alloc (.cells #[.slice (some ⟨A, O, none⟩) ls cs, .slice (some ⟨C, P, none⟩) lt ct] 25)) w1) => box_cells hb)
  have q1 := H.out.lt1
  have q2 := H.out.lt2
  have hlt : lt ≤ maxLen := by unfold maxLen; omega
  by_cases h3 : lq = lt
  case neg =>
    have h3' : ((lq : Int) != (lt : Int)) = true := by simp; omega
    go_enter Tryz.func31, Tryz.ntmps31
    go_wp2
    go_ret
    first
      | exact ⟨.inl ⟨rfl, fun h => h3 h.eq⟩, (Below.refl _ _).alloc (Nat.le_refl _) _⟩
      | exact ⟨⟨false, rfl, no_iff' (fun h => h3 h.eq)⟩, (Below.refl _ _).alloc (Nat.le_refl _) _⟩
  obtain rfl : lt = lq := h3.symm
  obtain ⟨D, F, rfl, hD, hcs⟩ := HS.out.resolve_left (by omega)
  have HL : Hid (∀ w1, Below (w.alloc (.cells #[.slice (some ⟨A, O, none⟩) ls cs, .slice (some ⟨C, P, none⟩) lt ct] 25)).heap.size (w.alloc (.cells #[.slice (some ⟨A, O, none⟩) ls cs, .slice (some ⟨C, P, none⟩) lt ct] 25)) w1 → LineAt w1 A O C P ls lt s t ∧ NumAt w1 D F lt r) := Lib.hid fun w1 h => ⟨H.out.below (below_al h), hcs.below hD (below_al h)⟩
  clear hcs
  go_enter Tryz.func31, Tryz.ntmps31
  go_wp2
  go_loopw [5] (fun i wr => ∃ k : Nat, k ≤ lt ∧ i = .int .i64 k ∧ Below (w.alloc (.cells #[.slice (some ⟨A, O, none⟩) ls cs, .slice (some ⟨C, P, none⟩) lt ct] 25)).heap.size (w.alloc (.cells #[.slice (some ⟨A, O, none⟩) ls cs, .slice (some ⟨C, P, none⟩) lt ct] 25)) wr ∧ ∀ j, j < k → (t j).lo ≤ r j ∧ r j ≤ (t j).hi) (fun i _ => lt - (intOf i).toNat)
  case atStart => exact ⟨0, Nat.zero_le _, rfl, Below.refl _ _, fun j hj => absurd hj (by omega)⟩
  case round =>
    obtain ⟨k, hk, rfl, hbw, hall⟩ := hrel
    have HALL := Lib.hid hall
    clear hall
    obtain ⟨x0, x1, x2⟩ := BX.out _ hbw
    by_cases hlt1 : k < lt
    · obtain ⟨_, _, _, y0, y1⟩ := (HL.out _ hbw).1.st k hlt1
      have y2 := (HL.out _ hbw).2 k hlt1
      have n1 : (0 : Int) ≤ (k : Int) := by omega
      have n2 : (k : Int) < (lt : Int) := by omega
      by_cases g1 : r k < (t k).lo
      · have d1 : decide (r k < (t k).lo) = true := decide_eq_true g1
        go_wp2
        go_quiet (fail)
        go_wp2
        go_ret
        exact ⟨⟨false, rfl, no_iff' (fun h => by have := (h.ok k hlt1).1; omega)⟩, below_al (below_drewM hbw _)⟩
      · have d1 : decide (r k < (t k).lo) = false := decide_eq_false g1
        by_cases g2 : (t k).hi < r k
        · have d2 : decide ((t k).hi < r k) = true := decide_eq_true g2
          go_wp2
          go_quiet (fail)
          go_wp2
          go_ret
          exact ⟨⟨false, rfl, no_iff' (fun h => by have := (h.ok k hlt1).2; omega)⟩, below_al (below_drewM hbw _)⟩
        · have d2 : decide ((t k).hi < r k) = false := decide_eq_false g2
          go_wp2
          go_quiet (fail)
          go_wp2
          go_roundw
          case rel => exact ⟨k + 1, by omega, by go_num, (below_drewM hbw _), fun j hj => by
            rcases Nat.lt_succ_iff_lt_or_eq.1 hj with h | h
            · exact HALL.out j h
            · rw [h]; omega⟩
          case measure => simp [intOf]; omega
    · go_wp2
      go_ret
      exact ⟨⟨true, rfl, fun _ => ⟨rfl, fun j hj => HALL.out j (by omega)⟩, fun _ => rfl⟩, below_al hbw⟩

set_option maxRecDepth 100000 in
set_option maxHeartbeats 4000000 in
theorem lawr_a (sa ta sq sr : Option Addr) (ls cs lt ct lq cq lr cr : Nat) (s : Nat → Int) (t : Nat → St5) (g r : Nat → Int) (w : World) (hls : ls ≤ maxLen) (hlt : lt ≤ maxLen) (hlq : lq ≤ maxLen) (hlr : lr ≤ maxLen) (H0 : AnyLine w sa ta ls lt s t) (HS0 : IntSl w sq lq g) (HR0 : IntSl w sr lr r) (K : Hid KnownOk)
    (hq : ¬ (ls ≤ 13 ∧ lt ≤ 10)) :
    Calls Tryz.prog 6 #[.agg #[.slice sa ls cs, .slice ta lt ct], .slice sq lq cq, .slice sr lr cr] w
      fun e w' => e = .returned (.bool true) ∧ Below w.heap.size w w' := by
  have BX := Lib.hid (fun (w1 : World) (hb : Below (w.alloc (.cells #[.slice sa ls cs, .slice ta lt ct] 25)).heap.size (w.alloc (.cells #[.slice sa ls cs, .slice ta lt ct] 25)) w1) => box_cells hb)
  have hsh : decide (ls ≤ 13 ∧ lt ≤ 10) = false := decide_eq_false hq
  clear H0 HS0 HR0
  go_enter Tryz.func6, Tryz.ntmps6
  go_wp2_with (first
    | (go_at_call 16; refine (short_w _ _ _ _ _ _ _ hls hlt).mono ?_; rw [hsh]; rintro e w1 ⟨rfl, hb1⟩; obtain ⟨x1, x2, x3⟩ := BX.out _ hb1)
    | (go_at_call 17; refine (K.out _).mono ?_; rintro e w11 ⟨rfl, hb11⟩))
  go_ret
  exact ⟨rfl, below_al (hb1.trans (hb11.mono hb1.size))⟩

set_option maxRecDepth 100000 in
set_option maxHeartbeats 4000000 in
theorem lawr_b (sa ta sq sr : Option Addr) (ls cs lt ct lq cq lr cr : Nat) (s : Nat → Int) (t : Nat → St5) (g r : Nat → Int) (w : World) (hls : ls ≤ maxLen) (hlt : lt ≤ maxLen) (hlq : lq ≤ maxLen) (hlr : lr ≤ maxLen) (H0 : AnyLine w sa ta ls lt s t) (HS0 : IntSl w sq lq g) (HR0 : IntSl w sr lr r) (K : Hid KnownOk)
    (hq : ls ≤ 13 ∧ lt ≤ 10) (hb : ¬ lq ≤ 10) :
    Calls Tryz.prog 6 #[.agg #[.slice sa ls cs, .slice ta lt ct], .slice sq lq cq, .slice sr lr cr] w
      fun e w' => e = .returned (.bool true) ∧ Below w.heap.size w w' := by
  have BX := Lib.hid (fun (w1 : World) (hb : Below (w.alloc (.cells #[.slice sa ls cs, .slice ta lt ct] 25)).heap.size (w.alloc (.cells #[.slice sa ls cs, .slice ta lt ct] 25)) w1) => box_cells hb)
  have hsh : decide (ls ≤ 13 ∧ lt ≤ 10) = true := decide_eq_true hq
  clear H0 HS0 HR0
  have hq10 : (10 : Int) < (lq : Int) := by omega
  go_enter Tryz.func6, Tryz.ntmps6
  go_wp2_with (first
    | (go_at_call 16; refine (short_w _ _ _ _ _ _ _ hls hlt).mono ?_; rw [hsh]; rintro e w1 ⟨rfl, hb1⟩; obtain ⟨x1, x2, x3⟩ := BX.out _ hb1)
    | (go_at_call 17; refine (K.out _).mono ?_; rintro e w11 ⟨rfl, hb11⟩))
  go_ret
  exact ⟨rfl, below_al (hb1.trans (hb11.mono hb1.size))⟩

set_option maxRecDepth 100000 in
set_option maxHeartbeats 4000000 in
theorem lawr_c (sa ta sq sr : Option Addr) (ls cs lt ct lq cq lr cr : Nat) (s : Nat → Int) (t : Nat → St5) (g r : Nat → Int) (w : World) (hls : ls ≤ maxLen) (hlt : lt ≤ maxLen) (hlq : lq ≤ maxLen) (hlr : lr ≤ maxLen) (H0 : AnyLine w sa ta ls lt s t) (HS0 : IntSl w sq lq g) (HR0 : IntSl w sr lr r) (K : Hid KnownOk)
    (hq : ls ≤ 13 ∧ lt ≤ 10) (hb : lq ≤ 10) (hR : ¬ RightP ls lt s t) :
    Calls Tryz.prog 6 #[.agg #[.slice sa ls cs, .slice ta lt ct], .slice sq lq cq, .slice sr lr cr] w
      fun e w' => e = .returned (.bool true) ∧ Below w.heap.size w w' := by
  have BX := Lib.hid (fun (w1 : World) (hb : Below (w.alloc (.cells #[.slice sa ls cs, .slice ta lt ct] 25)).heap.size (w.alloc (.cells #[.slice sa ls cs, .slice ta lt ct] 25)) w1) => box_cells hb)
  have HN : Hid (∀ w1, Below (w.alloc (.cells #[.slice sa ls cs, .slice ta lt ct] 25)).heap.size (w.alloc (.cells #[.slice sa ls cs, .slice ta lt ct] 25)) w1 → Hid (AnyLine w1 sa ta ls lt s t)) := Lib.hid fun w1 h => Lib.hid (H0.below (below_al h))
  have HI : Hid (∀ w1, Below (w.alloc (.cells #[.slice sa ls cs, .slice ta lt ct] 25)).heap.size (w.alloc (.cells #[.slice sa ls cs, .slice ta lt ct] 25)) w1 → Hid (IntSl w1 sq lq g)) := Lib.hid fun w1 h => Lib.hid (HS0.below (below_al h))
  clear H0 HS0 HR0
  have hsh : decide (ls ≤ 13 ∧ lt ≤ 10) = true := decide_eq_true hq
  obtain ⟨hq1, hq2⟩ := hq
  have hq10 : (lq : Int) ≤ (10 : Int) := by omega
  have HR := Lib.hid hR
  clear hR
  go_enter Tryz.func6, Tryz.ntmps6
  go_wp2_with (first
    | (go_at_call 16; refine (short_w _ _ _ _ _ _ _ hls hlt).mono ?_; rw [hsh]; rintro e w1 ⟨rfl, hb1⟩; obtain ⟨x1, x2, x3⟩ := BX.out _ hb1)
    | (go_at_call 20; refine (right_w _ _ _ _ _ _ s t _ (by omega) (by omega) (Lib.hid (HN.out _ hb1).out.hs) (Lib.hid (HN.out _ hb1).out.ht)).mono ?_; rintro e w2 ⟨⟨rb, rfl, hrb⟩, hb2⟩; obtain rfl : rb = false := (by cases rb <;> first | rfl | exact (HR.out (hrb.1 rfl)).elim); clear hrb; have hb12 := hb1.trans (hb2.mono hb1.size); clear x1 x2 x3; obtain ⟨x1, x2, x3⟩ := BX.out _ hb12)
    | (go_at_call 17; refine (K.out _).mono ?_; rintro e w11 ⟨rfl, hb11⟩))
  go_ret
  exact ⟨rfl, below_al (hb12.trans (hb11.mono hb12.size))⟩

set_option maxRecDepth 100000 in
set_option maxHeartbeats 4000000 in
theorem lawr_d (sa ta sq sr : Option Addr) (ls cs lt ct lq cq lr cr : Nat) (s : Nat → Int) (t : Nat → St5) (g r : Nat → Int) (w : World) (hls : ls ≤ maxLen) (hlt : lt ≤ maxLen) (hlq : lq ≤ maxLen) (hlr : lr ≤ maxLen) (H0 : AnyLine w sa ta ls lt s t) (HS0 : IntSl w sq lq g) (HR0 : IntSl w sr lr r) (K : Hid KnownOk)
    (hq : ls ≤ 13 ∧ lt ≤ 10) (hb : lq ≤ 10) (hR : RightP ls lt s t) (hQ : ¬ AgeP lt lq g) :
    Calls Tryz.prog 6 #[.agg #[.slice sa ls cs, .slice ta lt ct], .slice sq lq cq, .slice sr lr cr] w
      fun e w' => e = .returned (.bool true) ∧ Below w.heap.size w w' := by
  have BX := Lib.hid (fun (w1 : World) (hb : Below (w.alloc (.cells #[.slice sa ls cs, .slice ta lt ct] 25)).heap.size (w.alloc (.cells #[.slice sa ls cs, .slice ta lt ct] 25)) w1) => box_cells hb)
  have HN : Hid (∀ w1, Below (w.alloc (.cells #[.slice sa ls cs, .slice ta lt ct] 25)).heap.size (w.alloc (.cells #[.slice sa ls cs, .slice ta lt ct] 25)) w1 → Hid (AnyLine w1 sa ta ls lt s t)) := Lib.hid fun w1 h => Lib.hid (H0.below (below_al h))
  have HI : Hid (∀ w1, Below (w.alloc (.cells #[.slice sa ls cs, .slice ta lt ct] 25)).heap.size (w.alloc (.cells #[.slice sa ls cs, .slice ta lt ct] 25)) w1 → Hid (IntSl w1 sq lq g)) := Lib.hid fun w1 h => Lib.hid (HS0.below (below_al h))
  clear H0 HS0 HR0
  have hsh : decide (ls ≤ 13 ∧ lt ≤ 10) = true := decide_eq_true hq
  obtain ⟨hq1, hq2⟩ := hq
  have hq10 : (lq : Int) ≤ (10 : Int) := by omega
  have HR := Lib.hid hR
  clear hR
  have HQ := Lib.hid hQ
  clear hQ
  go_enter Tryz.func6, Tryz.ntmps6
  go_wp2_with (first
    | (go_at_call 16; refine (short_w _ _ _ _ _ _ _ hls hlt).mono ?_; rw [hsh]; rintro e w1 ⟨rfl, hb1⟩; obtain ⟨x1, x2, x3⟩ := BX.out _ hb1)
    | (go_at_call 20; refine (right_w _ _ _ _ _ _ s t _ (by omega) (by omega) (Lib.hid (HN.out _ hb1).out.hs) (Lib.hid (HN.out _ hb1).out.ht)).mono ?_; rintro e w2 ⟨⟨rb, rfl, hrb⟩, hb2⟩; obtain rfl : rb = true := hrb.2 HR.out; clear hrb; have hb12 := hb1.trans (hb2.mono hb1.size); clear x1 x2 x3; obtain ⟨x1, x2, x3⟩ := BX.out _ hb12)
    | (go_at_call 27; refine (refAges_w _ _ _ _ _ _ _ g _ (by omega) hlq (HI.out _ hb12)).mono ?_; rintro e w3 ⟨⟨rb, rfl, hrb⟩, hb3⟩; obtain rfl : rb = false := (by cases rb <;> first | rfl | exact (HQ.out (hrb.1 rfl)).elim); clear hrb; have hb13 := hb12.trans (hb3.mono hb12.size); clear x1 x2 x3; obtain ⟨x1, x2, x3⟩ := BX.out _ hb13)
    | (go_at_call 17; refine (K.out _).mono ?_; rintro e w11 ⟨rfl, hb11⟩))
  go_ret
  exact ⟨rfl, below_al (hb13.trans (hb11.mono hb13.size))⟩

set_option maxRecDepth 100000 in
set_option maxHeartbeats 4000000 in
theorem lawr_e (A O C P : Nat) (sq sr : Option Addr) (ls cs lt ct lq cq lr cr : Nat) (s : Nat → Int) (t : Nat → St5) (g r : Nat → Int) (w : World) (hlq : lq ≤ maxLen) (hlr : lr ≤ maxLen) (H : Hid (LineAt w A O C P ls lt s t)) (HS0 : IntSl w sq lq g) (HR0 : IntSl w sr lr r) (K : Hid KnownOk)
    (HQ : Hid (AgeP lt lq g)) (HP : Hid (¬ RateP lt lr t r)) :
    Calls Tryz.prog 6 #[.agg #[.slice (some ⟨A, O, none⟩) ls cs, .slice (some ⟨C, P, none⟩) lt ct], .slice sq lq cq, .slice sr lr cr] w
      fun e w' => e = .returned (.bool true) ∧ Below w.heap.size w w' := by
  have BX := Lib.hid (fun (w1 : World) (hb : Below (w.alloc (.cells #[.slice (some ⟨A, O, none⟩) ls cs, .slice (some ⟨C, P, none⟩) lt ct] 25)).heap.size (w.alloc (.cells #[.slice (some ⟨A, O, none⟩) ls cs, .slice (some ⟨C, P, none⟩) lt ct] 25)) w1) => box_cells hb)
  have hls' := H.out.ls2
  have hlt' := H.out.lt2
  have hls : ls ≤ maxLen := by unfold maxLen; omega
  have hlt : lt ≤ maxLen := by unfold maxLen; omega
  have hq10 : (lq : Int) ≤ (10 : Int) := by have := HQ.out.eq; omega
  have HR : Hid (RightP ls lt s t) := Lib.hid ⟨H.out.ls1, H.out.ls2, H.out.lt1, H.out.lt2, H.out.sok, H.out.tok⟩
  have hsh : decide (ls ≤ 13 ∧ lt ≤ 10) = true := by simp; omega
  have HL : Hid (∀ w1, Below (w.alloc (.cells #[.slice (some ⟨A, O, none⟩) ls cs, .slice (some ⟨C, P, none⟩) lt ct] 25)).heap.size (w.alloc (.cells #[.slice (some ⟨A, O, none⟩) ls cs, .slice (some ⟨C, P, none⟩) lt ct] 25)) w1 → LineAt w1 A O C P ls lt s t) := Lib.hid fun w1 h => H.out.below (below_al h)
  have HN : Hid (∀ w1, Below (w.alloc (.cells #[.slice (some ⟨A, O, none⟩) ls cs, .slice (some ⟨C, P, none⟩) lt ct] 25)).heap.size (w.alloc (.cells #[.slice (some ⟨A, O, none⟩) ls cs, .slice (some ⟨C, P, none⟩) lt ct] 25)) w1 → Hid (AnyLine w1 (some ⟨A, O, none⟩) (some ⟨C, P, none⟩) ls lt s t)) := Lib.hid fun w1 h => Lib.hid ⟨.inr ⟨A, O, rfl, (HL.out w1 h).hA, (HL.out w1 h).sp⟩, .inr ⟨C, P, rfl, (HL.out w1 h).hC, (HL.out w1 h).st⟩⟩
  have HI : Hid (∀ w1, Below (w.alloc (.cells #[.slice (some ⟨A, O, none⟩) ls cs, .slice (some ⟨C, P, none⟩) lt ct] 25)).heap.size (w.alloc (.cells #[.slice (some ⟨A, O, none⟩) ls cs, .slice (some ⟨C, P, none⟩) lt ct] 25)) w1 → Hid (IntSl w1 sq lq g)) := Lib.hid fun w1 h => Lib.hid (HS0.below (below_al h))
  have HJ : Hid (∀ w1, Below (w.alloc (.cells #[.slice (some ⟨A, O, none⟩) ls cs, .slice (some ⟨C, P, none⟩) lt ct] 25)).heap.size (w.alloc (.cells #[.slice (some ⟨A, O, none⟩) ls cs, .slice (some ⟨C, P, none⟩) lt ct] 25)) w1 → Hid (IntSl w1 sr lr r)) := Lib.hid fun w1 h => Lib.hid (HR0.below (below_al h))
  clear HS0 HR0
  go_enter Tryz.func6, Tryz.ntmps6
  go_wp2_with (first
    | (go_at_call 16; refine (short_w _ _ _ _ _ _ _ hls hlt).mono ?_; rw [hsh]; rintro e w1 ⟨rfl, hb1⟩; obtain ⟨x1, x2, x3⟩ := BX.out _ hb1)
    | (go_at_call 20; refine (right_w _ _ _ _ _ _ s t _ (by omega) (by omega) (Lib.hid (HN.out _ hb1).out.hs) (Lib.hid (HN.out _ hb1).out.ht)).mono ?_; rintro e w2 ⟨⟨rb, rfl, hrb⟩, hb2⟩; obtain rfl : rb = true := hrb.2 HR.out; clear hrb; have hb12 := hb1.trans (hb2.mono hb1.size); clear x1 x2 x3; obtain ⟨x1, x2, x3⟩ := BX.out _ hb12)
    | (go_at_call 27; refine (refAges_w _ _ _ _ _ _ _ g _ (by omega) hlq (HI.out _ hb12)).mono ?_; rintro e w3 ⟨⟨rb, rfl, hrb⟩, hb3⟩; obtain rfl : rb = true := hrb.2 HQ.out; clear hrb; have hb13 := hb12.trans (hb3.mono hb12.size); clear x1 x2 x3; obtain ⟨x1, x2, x3⟩ := BX.out _ hb13)
    | (go_at_call 31; refine (rated_w _ _ _ _ _ _ _ _ _ _ _ s t r _ (Lib.hid (HL.out _ hb13)) hlr (HJ.out _ hb13)).mono ?_; rintro e w4 ⟨⟨rb, rfl, hrb⟩, hb4⟩; obtain rfl : rb = false := (by cases rb <;> first | rfl | exact (HP.out (hrb.1 rfl)).elim); clear hrb; have hb14 := hb13.trans (hb4.mono hb13.size); clear x1 x2 x3; obtain ⟨x1, x2, x3⟩ := BX.out _ hb14)
    | (go_at_call 17; refine (K.out _).mono ?_; rintro e w11 ⟨rfl, hb11⟩))
  go_ret
  exact ⟨rfl, below_al (hb14.trans (hb11.mono hb14.size))⟩
end Go.Kn

namespace Go.Kn
open Go Go.Proofs Go.RowKit

/-- what stretch k carries at its age and true rate -/
def actOf (s : Nat → Int) (t : Nat → St5) (g r : Nat → Int) (k : Nat) : Int := cupsL s (t k) (g k) (r k)

theorem pick_mem {b : Nat → Bool} : ∀ (n : Nat) (x : Int), x ∈ pick b n ↔ ∃ j : Nat, x = (j : Int) ∧ j < n ∧ b j = true := by
  intro n
  induction n with
  | zero => intro x; constructor
            · intro h; simp [pick] at h
            · rintro ⟨j, _, h, _⟩; omega
  | succ n ih =>
    intro x
    cases e : b n
    · rw [pick_f e, ih]
      constructor
      · rintro ⟨j, h1, h2, h3⟩; exact ⟨j, h1, by omega, h3⟩
      · rintro ⟨j, h1, h2, h3⟩
        refine ⟨j, h1, ?_, h3⟩
        by_cases h : j = n
        · rw [h, e] at h3; cases h3
        · omega
    · rw [pick_t e]
      simp only [List.mem_append, List.mem_singleton]
      rw [ih]
      constructor
      · rintro (⟨j, h1, h2, h3⟩ | h)
        · exact ⟨j, h1, by omega, h3⟩
        · exact ⟨n, h, by omega, e⟩
      · rintro ⟨j, h1, h2, h3⟩
        by_cases h : j = n
        · exact .inr (by rw [h1, h])
        · exact .inl ⟨j, h1, by omega, h3⟩

theorem pick_sorted {b : Nat → Bool} : ∀ n : Nat, List.Pairwise (· < ·) (pick b n) := by
  intro n
  induction n with
  | zero => simp [pick]
  | succ n ih =>
    cases e : b n
    · rw [pick_f e]; exact ih
    · rw [pick_t e, List.pairwise_append]
      refine ⟨ih, by simp, ?_⟩
      intro x hx y hy
      obtain ⟨j, rfl, hj, _⟩ := (pick_mem n x).1 hx
      simp at hy
      subst hy
      omega

theorem pick_get {b : Nat → Bool} {n k : Nat} (hk : k < (pick b n).length) : ∃ j : Nat, (pick b n).getD k 0 = (j : Int) ∧ j < n ∧ b j = true := by
  have h : (pick b n).getD k 0 ∈ pick b n := by
    simp [List.getD, List.getElem?_eq_getElem hk]
  exact (pick_mem n _).1 h

theorem pick_lt {b : Nat → Bool} {n k : Nat} (hk : k + 1 < (pick b n).length) : (pick b n).getD k 0 < (pick b n).getD (k + 1) 0 := by
  have h := List.pairwise_iff_getElem.1 (pick_sorted (b := b) n) k (k + 1) (by omega) hk (by omega)
  simpa [List.getD, List.getElem?_eq_getElem hk, List.getElem?_eq_getElem (show k < (pick b n).length by omega)] using h

theorem act_between {w : World} {A O C P ls lt : Nat} {s : Nat → Int} {t : Nat → St5} {g r : Nat → Int} (H : LineAt w A O C P ls lt s t) (hQ : AgeP lt lt g) (hP : RateP lt lt t r) (k : Nat) (hk : k < lt) :
    (carOf s t g k).lo ≤ actOf s t g r k ∧ actOf s t g r k ≤ (carOf s t g k).hi ∧ (0 ≤ r k ∧ r k ≤ 100) ∧ (0 ≤ (t k).lo ∧ (t k).lo ≤ 100) ∧ (0 ≤ (t k).hi ∧ (t k).hi ≤ 100) := by
  obtain ⟨h1, h2⟩ := hP.ok k hk
  have ha := hQ.ok k hk
  simp only [fromB, decide_eq_true_eq] at ha
  obtain ⟨b1, b2, ⟨hf0, hf, hfe⟩, b4, b5⟩ := H.bds hk
  have hs := H.sok (t k).f.toNat (by omega)
  simp only [fromB, decide_eq_true_eq] at hs
  refine ⟨cupsL_mono (by omega) (by omega) h2 ha.1 (Int.le_refl _), cupsL_mono (by omega) (by omega) h1 ha.1 (Int.le_refl _), ?_, ?_, ?_⟩ <;> omega

theorem bmin_leq (f : Nat → Int) {n : Nat} (h : 1 ≤ n) {j : Nat} (hj : j < n) : bmin (upto f n) ≤ f j := (le_bmin f _ n h).1 (Int.le_refl _) j hj

theorem act_min {w : World} {A O C P ls lt : Nat} {s : Nat → Int} {t : Nat → St5} {g r : Nat → Int} {La Lb : Int} (H : LineAt w A O C P ls lt s t) (hQ : AgeP lt lt g) (hP : RateP lt lt t r) (HLA : La = bmin (upto (fun j => (carOf s t g j).lo) lt)) (HLB : Lb = bmin (upto (fun j => (carOf s t g j).hi) lt)) :
    La ≤ bmin (upto (actOf s t g r) lt) ∧ bmin (upto (actOf s t g r) lt) ≤ Lb := by
  have h0 := H.lt1
  constructor
  · rw [le_bmin _ _ _ h0]
    intro j hj
    have h1 := bmin_leq (fun j => (carOf s t g j).lo) h0 hj
    rw [← HLA] at h1
    have := (act_between H hQ hP j hj).1
    omega
  · rw [HLB, le_bmin _ _ _ h0]
    intro j hj
    have h1 := bmin_leq (actOf s t g r) h0 hj
    have := (act_between H hQ hP j hj).2.1
    omega

/-- the stretch that carries least is in the list -/
theorem least_in {w : World} {A O C P ls lt : Nat} {s : Nat → Int} {t : Nat → St5} {g r : Nat → Int} {La Lb : Int} (H : LineAt w A O C P ls lt s t) (hQ : AgeP lt lt g) (hP : RateP lt lt t r) (HLA : La = bmin (upto (fun j => (carOf s t g j).lo) lt)) (HLB : Lb = bmin (upto (fun j => (carOf s t g j).hi) lt)) (k : Nat) (hk : k < lt) (he : actOf s t g r k = bmin (upto (actOf s t g r) lt)) :
    narB s t g Lb k = true := by
  have h1 := (act_min H hQ hP HLA HLB).2
  have h2 := (act_between H hQ hP k hk).1
  simp only [narB, decide_eq_true_eq]
  omega

/-- no other stretch surely carries less than one of the list -/
theorem none_under {lt : Nat} {s : Nat → Int} {t : Nat → St5} {g : Nat → Int} {Lb : Int} (h0 : 1 ≤ lt) (HLB : Lb = bmin (upto (fun j => (carOf s t g j).hi) lt)) {k i : Nat} (hb : narB s t g Lb k = true) (hi : i < lt) :
    cupsL s (t k) (g k) (t k).hi ≤ cupsL s (t i) (g i) (t i).lo := by
  have h1 := bmin_leq (fun j => (carOf s t g j).hi) h0 hi
  rw [← HLB] at h1
  simp only [narB, decide_eq_true_eq] at hb
  exact Int.le_trans hb h1
end Go.Kn

namespace Go.Kn
open Go Go.Proofs Go.RowKit

theorem met_step {w8 : World} {M lt m : Nat} {f : Nat → Nat} (hr : RowAt w8 M lt) (hj : f m < lt) (h : ∀ j, j < m → w8.cell? ⟨M, f j, none⟩ = some (.bool true)) :
    ∀ j, j < m + 1 → (w8.setCell ⟨M, f m, none⟩ (.bool true)).cell? ⟨M, f j, none⟩ = some (.bool true) := by
  intro j hjm
  by_cases e : f j = f m
  · rw [e]
    obtain ⟨v, hv⟩ := (hr.2 _ hj).1
    exact World.cell?_setCell_same' _ _ _ (by rw [hv]; rfl)
  · refine (World.cell?_setCell_other _ _ _ _ (by intro h9; exact e (congrArg Addr.off h9).symm)).trans (h j ?_)
    by_cases e2 : j = m
    · subst e2; exact (e rfl).elim
    · omega
theorem wr_small (p : Nat) (h : p ≤ 1000) : wrap64 (p : Int) = (p : Int) := IntWalk.wrap64_in _ ⟨by omega, by omega⟩
theorem wrp_small (p : Nat) (h : p ≤ 1000) : IntKind.i64.wrap (p : Int) = (p : Int) := by
  first
    | exact wr_small p h
    | (rw [IntKind.wrap_i64]; omega)
end Go.Kn

namespace Go.Kn
open Go Go.Proofs Go.RowKit

theorem info4M : (Tryz.prog.info? 4).map (fun i => (i.zero, i.size, i.bytes)) = some (some (.bool false), 1, 1) := by kernel_rfl

set_option maxRecDepth 100000 in
set_option maxHeartbeats 16000000 in
theorem lawr_good (A O C P ls cs lt ct D F cq E U cr : Nat) (s : Nat → Int) (t : Nat → St5) (g r : Nat → Int) (La Lb : Int) (HLA : Hid (La = bmin (upto (fun j => (carOf s t g j).lo) lt))) (HLB : Hid (Lb = bmin (upto (fun j => (carOf s t g j).hi) lt))) (w : World) (H : Hid (LineAt w A O C P ls lt s t)) (hD : D < w.heap.size) (HD : Hid (NumAt w D F lt g)) (hE : E < w.heap.size) (HE : Hid (NumAt w E U lt r)) (HQ : Hid (AgeP lt lt g)) (HP : Hid (RateP lt lt t r)) (K : Hid KnownOk) :
    Calls Tryz.prog 6 #[.agg #[.slice (some ⟨A, O, none⟩) ls cs, .slice (some ⟨C, P, none⟩) lt ct], .slice (some ⟨D, F, none⟩) lt cq, .slice (some ⟨E, U, none⟩) lt cr] w
      fun e w' => e = .returned (.bool true) ∧ Below w.heap.size w w' := by
  have BX := Lib.hid (fun (w1 : World) (hb : Below (w.alloc (.cells #[.slice (some ⟨A, O, none⟩) ls cs, .slice (some ⟨C, P, none⟩) lt ct] 25)).heap.size (w.alloc (.cells #[.slice (some ⟨A, O, none⟩) ls cs, .slice (some ⟨C, P, none⟩) lt ct] 25)) w1) => box_cells hb)
  have hls' := H.out.ls2
  have hlt' := H.out.lt2
  have hlt1 := H.out.lt1
  have hls : ls ≤ maxLen := by unfold maxLen; omega
  have hlt : lt ≤ maxLen := by unfold maxLen; omega
  have hq10 : (lt : Int) ≤ (10 : Int) := by omega
  have HR : Hid (RightP ls lt s t) := Lib.hid ⟨H.out.ls1, H.out.ls2, H.out.lt1, H.out.lt2, H.out.sok, H.out.tok⟩
  have HAB := Lib.hid (act_between H.out HQ.out HP.out)
  have hsh : decide (ls ≤ 13 ∧ lt ≤ 10) = true := by simp; omega
  have HL : Hid (∀ w1, Below (w.alloc (.cells #[.slice (some ⟨A, O, none⟩) ls cs, .slice (some ⟨C, P, none⟩) lt ct] 25)).heap.size (w.alloc (.cells #[.slice (some ⟨A, O, none⟩) ls cs, .slice (some ⟨C, P, none⟩) lt ct] 25)) w1 → LineAt w1 A O C P ls lt s t ∧ D < w1.heap.size ∧ NumAt w1 D F lt g ∧ E < w1.heap.size ∧ NumAt w1 E U lt r) := Lib.hid fun w1 h => ⟨H.out.below (below_al h), Nat.lt_of_lt_of_le hD (below_al h).size, HD.out.below hD (below_al h), Nat.lt_of_lt_of_le hE (below_al h).size, HE.out.below hE (below_al h)⟩
  have HN : Hid (∀ w1, Below (w.alloc (.cells #[.slice (some ⟨A, O, none⟩) ls cs, .slice (some ⟨C, P, none⟩) lt ct] 25)).heap.size (w.alloc (.cells #[.slice (some ⟨A, O, none⟩) ls cs, .slice (some ⟨C, P, none⟩) lt ct] 25)) w1 → Hid (AnyLine w1 (some ⟨A, O, none⟩) (some ⟨C, P, none⟩) ls lt s t)) := Lib.hid fun w1 h => Lib.hid ⟨.inr ⟨A, O, rfl, (HL.out w1 h).1.hA, (HL.out w1 h).1.sp⟩, .inr ⟨C, P, rfl, (HL.out w1 h).1.hC, (HL.out w1 h).1.st⟩⟩
  have HI : Hid (∀ w1, Below (w.alloc (.cells #[.slice (some ⟨A, O, none⟩) ls cs, .slice (some ⟨C, P, none⟩) lt ct] 25)).heap.size (w.alloc (.cells #[.slice (some ⟨A, O, none⟩) ls cs, .slice (some ⟨C, P, none⟩) lt ct] 25)) w1 → Hid (IntSl w1 (some ⟨D, F, none⟩) lt g)) := Lib.hid fun w1 h => Lib.hid (.inr ⟨D, F, rfl, (HL.out w1 h).2.1, (HL.out w1 h).2.2.1⟩)
  have HJ : Hid (∀ w1, Below (w.alloc (.cells #[.slice (some ⟨A, O, none⟩) ls cs, .slice (some ⟨C, P, none⟩) lt ct] 25)).heap.size (w.alloc (.cells #[.slice (some ⟨A, O, none⟩) ls cs, .slice (some ⟨C, P, none⟩) lt ct] 25)) w1 → Hid (IntSl w1 (some ⟨E, U, none⟩) lt r)) := Lib.hid fun w1 h => Lib.hid (.inr ⟨E, U, rfl, (HL.out w1 h).2.2.2.1, (HL.out w1 h).2.2.2.2⟩)
  go_enter Tryz.func6, Tryz.ntmps6
  go_wp2_with (first
    | (go_at_call 16; refine (short_w _ _ _ _ _ _ _ hls hlt).mono ?_; rw [hsh]; rintro e w1 ⟨rfl, hb1⟩; obtain ⟨x1, x2, x3⟩ := BX.out _ hb1)
    | (go_at_call 20; refine (right_w _ _ _ _ _ _ s t _ (by omega) (by omega) (Lib.hid (HN.out _ hb1).out.hs) (Lib.hid (HN.out _ hb1).out.ht)).mono ?_; rintro e w2 ⟨⟨rb, rfl, hrb⟩, hb2⟩; obtain rfl : rb = true := hrb.2 HR.out; clear hrb; have hb12 := hb1.trans (hb2.mono hb1.size); clear x1 x2 x3; obtain ⟨x1, x2, x3⟩ := BX.out _ hb12)
    | (go_at_call 27; refine (refAges_w _ _ _ _ _ _ _ g _ (by omega) hlt (HI.out _ hb12)).mono ?_; rintro e w3 ⟨⟨rb, rfl, hrb⟩, hb3⟩; obtain rfl : rb = true := hrb.2 HQ.out; clear hrb; have hb13 := hb12.trans (hb3.mono hb12.size); clear x1 x2 x3; obtain ⟨x1, x2, x3⟩ := BX.out _ hb13)
    | (go_at_call 31; refine (rated_w _ _ _ _ _ _ _ _ _ _ _ s t r _ (Lib.hid (HL.out _ hb13).1) hlt (HJ.out _ hb13)).mono ?_; rintro e w4 ⟨⟨rb, rfl, hrb⟩, hb4⟩; obtain rfl : rb = true := hrb.2 HP.out; clear hrb; have hb14 := hb13.trans (hb4.mono hb13.size); clear x1 x2 x3; obtain ⟨x1, x2, x3⟩ := BX.out _ hb14)
    | (go_at_call 25; refine (pline_w _ _ _ _ _ _ _ _ _ _ _ s t g La Lb HLA HLB _ (Lib.hid (HL.out _ hb14).1) (HL.out _ hb14).2.1 (Lib.hid (HL.out _ hb14).2.2.1) HQ).mono ?_; rintro e w5 ⟨rfl, hb5⟩; have hb15 := hb14.trans (hb5.mono hb14.size); have hb16 := hb15.alloc hb15.size (.cells #[.int .i64 La, .int .i64 Lb] 31); clear x1 x2 x3; obtain ⟨x1, x2, x3⟩ := BX.out _ hb15)
    | (go_at_call 26; refine (pnar_w _ _ _ _ _ _ _ _ _ _ _ s t g La Lb HLA HLB _ (Lib.hid (HL.out _ hb16).1) (HL.out _ hb16).2.1 (Lib.hid (HL.out _ hb16).2.2.1) HQ).mono ?_; rintro e w6 ⟨⟨v, n, rfl, hv⟩, hb6⟩; obtain ⟨va, vc, rfl, hn, hvs⟩ := intSl_of_owns hv; have HV := Lib.hid hvs; have HNn := Lib.hid hn; have hnl := (by have h2 := pick_len (narB s t g Lb) lt; omega : n ≤ lt); clear hvs hv hn; have hb17 := hb16.trans (hb6.mono hb16.size); clear x1 x2 x3; obtain ⟨x1, x2, x3⟩ := BX.out _ hb17; obtain ⟨y1, y2, y3⟩ := box_cells hb6))
  have hB17 : Below w.heap.size w w6 := below_al hb17
  have FX : Hid (∀ w', Below w6.heap.size w6 w' → (w'.cell? ⟨w.heap.size, 0, none⟩ = some (.slice (some ⟨A, O, none⟩) ls cs) ∧ w'.cell? ⟨w.heap.size, 1, none⟩ = some (.slice (some ⟨C, P, none⟩) lt ct) ∧ w'.cell? ⟨w5.heap.size, 0, none⟩ = some (.int .i64 La) ∧ w'.cell? ⟨w5.heap.size, 1, none⟩ = some (.int .i64 Lb)) ∧ (LineAt w' A O C P ls lt s t ∧ NumAt w' D F lt g ∧ NumAt w' E U lt r) ∧ IntSl w' va n (fun i => (pick (narB s t g Lb) lt).getD i 0)) := Lib.hid fun w' h => by
    have q : ∀ b o, b < w6.heap.size → w'.cell? ⟨b, o, none⟩ = w6.cell? ⟨b, o, none⟩ := (bcell h).1
    have hx := HL.out _ (hb17.trans (h.mono hb17.size))
    exact ⟨⟨(q _ _ x3).trans x1, (q _ _ x3).trans x2, (q _ _ y3).trans y1, (q _ _ y3).trans y2⟩, ⟨hx.1, hx.2.2.1, hx.2.2.2.2⟩, HV.out.below h⟩
  have hw56 : w5.heap.size < w6.heap.size := y3
  have hw06 : w.heap.size < w6.heap.size := x3
  clear hb1 hb2 hb12 hb3 hb13 hb4 hb14 hb5 hb15 hb16 hb6 hb17 BX hsh HN HL HI HJ HV
  go_loopw [11, 12] (fun m i wr => ∃ k : Nat, k ≤ lt ∧ i = .int .i64 k ∧ m = .int .i64 (mnOf (actOf s t g r) k) ∧ Below w6.heap.size w6 wr) (fun _ i _ => lt - (intOf i).toNat)
  case atStart => exact ⟨0, Nat.zero_le _, rfl, rfl, Below.refl _ _⟩
  case round =>
    obtain ⟨k, hk, rfl, rfl, hbw⟩ := hrel
    by_cases hlt1 : k < lt
    · obtain ⟨⟨x1, x2, _, _⟩, ⟨HLW0, z1, z2⟩, _⟩ := FX.out _ hbw
      have y0 := z1 k hlt1
      have y4 := z2 k hlt1
      have HLW := Lib.hid HLW0
      have HBW := Lib.hid hbw
      clear z1 z2 HLW0
      have hag := HQ.out.ok k hlt1
      simp only [fromB, decide_eq_true_eq] at hag
      have HAG := Lib.hid hag
      clear hag hbw
      have n1 : (0 : Int) ≤ (k : Int) := by omega
      have n2 : (k : Int) < (lt : Int) := by omega
      have FY : Hid (∀ w', Below wr.heap.size wr w' → (w'.cell? ⟨w.heap.size, 0, none⟩ = some (.slice (some ⟨A, O, none⟩) ls cs) ∧ w'.cell? ⟨w.heap.size, 1, none⟩ = some (.slice (some ⟨C, P, none⟩) lt ct)) ∧ w'.cell? ⟨D, F + k, none⟩ = some (.int .i64 (g k)) ∧ w'.cell? ⟨E, U + k, none⟩ = some (.int .i64 (r k))) := Lib.hid fun w' h => by
        obtain ⟨⟨x1, x2, _, _⟩, ⟨_, z1, z2⟩, _⟩ := FX.out _ (HBW.out.trans (h.mono HBW.out.size))
        exact ⟨⟨x1, x2⟩, z1 k hlt1, z2 k hlt1⟩
      have mn : (if cupsL s (t k) (g k) (r k) < mnOf (actOf s t g r) k then cupsL s (t k) (g k) (r k) else mnOf (actOf s t g r) k) = mnOf (actOf s t g r) (k + 1) := by
        show _ = min (mnOf (actOf s t g r) k) (cupsL s (t k) (g k) (r k))
        split <;> omega
      have MN := Lib.hid mn
      clear mn
      go_wp2
      go_region_held3 (fun w' => (w'.cell? ⟨w.heap.size, 0, none⟩ = some (.slice (some ⟨A, O, none⟩) ls cs) ∧ w'.cell? ⟨w.heap.size, 1, none⟩ = some (.slice (some ⟨C, P, none⟩) lt ct)) ∧ w'.cell? ⟨D, F + k, none⟩ = some (.int .i64 (g k)) ∧ w'.cell? ⟨E, U + k, none⟩ = some (.int .i64 (r k)))
        ((first | exact FY.out _ hb8r | (refine FY.out _ ?_; repeat (first | exact Below.refl _ _ | refine Below.drew ?_))))
        ((go_at_call 24; refine (rcups_l (HLW.out.below ((Below.refl _ _).drew)) hlt1 _ _ _ _ HAG.out (HAB.out k hlt1).2.2.1).mono ?_; rintro e w8 ⟨rfl, hb8⟩; have hb8r : Below wr.heap.size wr w8 := (Below.refl _ _).drew.trans hb8))
      go_wp2
      all_goals
        first
          | exact ⟨⟨k + 1, by omega, by omega, by have h9 := MN.out; split at h9 <;> omega, HBW.out.trans (hb8r.mono HBW.out.size)⟩, by simp [intOf]; omega⟩
          | (go_roundw
             case rel => exact ⟨k + 1, by omega, by go_num, by have h9 := MN.out; first | exact h9 | rfl | (split at h9 <;> first | omega | (simp; omega)), HBW.out.trans (hb8r.mono HBW.out.size)⟩
             case measure => simp [intOf]; omega)
    · obtain rfl : lt = k := by omega
      have hm1 := mnOf_bmin (actOf s t g r) lt (by omega) (fun j hj => by have := (HAB.out j hj).2.1; have := (carOf_bd H.out HQ.out j hj).2.1.2; omega)
      rw [hm1]
      obtain ⟨⟨x1, x2, y1, y2⟩, _, _⟩ := FX.out _ hbw
      obtain ⟨l1, l2⟩ := act_min H.out HQ.out HP.out HLA.out HLB.out
      have LI := Lib.hid (fun j hj he => least_in H.out HQ.out HP.out HLA.out HLB.out j hj he)
      generalize bmin (upto (actOf s t g r) lt) = Lm at l1 l2 LI ⊢
      have d1 : decide (Lm < La) = false := decide_eq_false (by omega)
      have d2 : decide (Lb < Lm) = false := decide_eq_false (by omega)
      clear l1 l2 hm1
      obtain ⟨i0, hi, hz0, hz1, hz2⟩ := info_parts info4M
      go_wp2_with (at_make; refine wpList_make_full _ rfl _ _ 49 rfl wr.heap.size 4 i0 _ 1 Tryz.underlying49 hi hz0 hz1 _ _ _ _ lt rfl rfl rfl rfl (by rw [hz2]; omega) (by unfold maxLen; omega) (by simp) ?_; intro w9 hown hgrow)
      have hrow : RowAt w9 wr.heap.size (lt * 1) := rowAt_of_owns hown
      rw [Nat.mul_one] at hrow
      have hM := hbw.size
      have hb9 : Below w6.heap.size w6 w9 := hbw.trans ((((Below.refl _ _).grown hgrow (Nat.le_refl _) (fun k h => by cases h)) : Below wr.heap.size wr w9).mono hbw.size)
      have HB9 := Lib.hid hb9
      have HROW := Lib.hid hrow
      obtain ⟨M, hMe⟩ : ∃ M, M = wr.heap.size := ⟨_, rfl⟩
      rw [← hMe] at hM HROW ⊢
      clear hown hgrow hrow hb9 hbw x1 x2 y1 y2 d1 d2 hMe
      go_loopw [14] (fun kk wr => ∃ m : Nat, m ≤ n ∧ kk = .int .i64 m ∧ Below w6.heap.size w6 wr ∧ RowAt wr M lt ∧ ∀ j, j < m → wr.cell? ⟨M, ((pick (narB s t g Lb) lt).getD j 0).toNat, none⟩ = some (.bool true)) (fun kk _ => n - (intOf kk).toNat)
      case atStart => exact ⟨0, Nat.zero_le _, rfl, HB9.out, HROW.out, fun j hj => absurd hj (by omega)⟩
      case round =>
        obtain ⟨m, hm, rfl, hbw, hrw, hmt⟩ := hrel
        have HMT := Lib.hid hmt
        have HRW := Lib.hid hrw
        have HBW := Lib.hid hbw
        clear hmt hrw hbw
        by_cases hmn : m < n
        · obtain ⟨j, hjx, hjl, hjn⟩ := pick_get (b := narB s t g Lb) (n := lt) (k := m) (by have := HNn.out; omega)
          obtain ⟨_, ⟨HLW0, z1, z2⟩, hva⟩ := FX.out _ HBW.out
          obtain ⟨G, Q, rfl, hG, hgc⟩ := hva.resolve_left (by omega)
          have HLW := Lib.hid HLW0
          have hag := HQ.out.ok j hjl
          simp only [fromB, decide_eq_true_eq] at hag
          have HAG := Lib.hid hag
          have HJN := Lib.hid hjn
          have HJX := Lib.hid hjx
          clear HLW0 z1 z2 hag hgc hjn hjx
          have hfn : fromB 0 ((lt : Int) - 1) (j : Int) = true := by simp only [fromB, decide_eq_true_eq]; omega
          have n1 : (0 : Int) ≤ (m : Int) := by omega
          have n2 : (m : Int) < (n : Int) := by omega
          have n3 : (0 : Int) ≤ (j : Int) := by omega
          have n4 : (j : Int) < (lt : Int) := by omega
          have FA : Hid (∀ w', Below w6.heap.size w6 w' → ((w'.cell? ⟨w.heap.size, 0, none⟩ = some (.slice (some ⟨A, O, none⟩) ls cs) ∧ w'.cell? ⟨w.heap.size, 1, none⟩ = some (.slice (some ⟨C, P, none⟩) lt ct)) ∧ w'.cell? ⟨G, Q + m, none⟩ = some (.int .i64 (j : Int))) ∧ w'.cell? ⟨D, F + j, none⟩ = some (.int .i64 (g j)) ∧ w'.cell? ⟨C, P + j * 5 + 4, none⟩ = some (.int .i64 (t j).hi)) := Lib.hid fun w' h => by
            obtain ⟨⟨x1, x2, _, _⟩, ⟨q1, q2, _⟩, q4⟩ := FX.out w' h
            obtain ⟨G', Q', hGe, _, q5⟩ := q4.resolve_left (by omega)
            cases hGe
            have q6 : w'.cell? ⟨G, Q + m, none⟩ = some (.int .i64 ((pick (narB s t g Lb) lt).getD m 0)) := q5 m hmn
            rw [HJX.out] at q6
            exact ⟨⟨⟨x1, x2⟩, q6⟩, q2 j hjl, (q1.st j hjl).2.2.2.2⟩
          obtain ⟨⟨⟨x1, x2⟩, y0⟩, y4, y5⟩ := FA.out _ HBW.out
          have FY : Hid (∀ w', Below wr.heap.size wr w' → ((w'.cell? ⟨w.heap.size, 0, none⟩ = some (.slice (some ⟨A, O, none⟩) ls cs) ∧ w'.cell? ⟨w.heap.size, 1, none⟩ = some (.slice (some ⟨C, P, none⟩) lt ct)) ∧ w'.cell? ⟨G, Q + m, none⟩ = some (.int .i64 (j : Int)))) := Lib.hid fun w' h => (FA.out w' (HBW.out.trans (h.mono HBW.out.size))).1
          have HMEET : Hid (∀ w8, Below wr.heap.size wr w8 → ∃ v8, w8.cell? ⟨M, j, none⟩ = some v8 ∧ w8.frozen? ⟨M, j, none⟩ = false ∧ Below w6.heap.size w6 (w8.setCell ⟨M, j, none⟩ (.bool true)) ∧ RowAt (w8.setCell ⟨M, j, none⟩ (.bool true)) M lt ∧ (∀ i, i < m + 1 → (w8.setCell ⟨M, j, none⟩ (.bool true)).cell? ⟨M, ((pick (narB s t g Lb) lt).getD i 0).toNat, none⟩ = some (.bool true))) := Lib.hid fun w8 h => by
            have hr8 := HRW.out.below HRW.out.1 h
            obtain ⟨⟨v8, hv8⟩, hf8⟩ := hr8.2 j hjl
            have hfm : ((pick (narB s t g Lb) lt).getD m 0).toNat = j := by rw [HJX.out]; simp
            have h3 := met_step (w8 := w8) (M := M) (lt := lt) (m := m) (f := fun i => ((pick (narB s t g Lb) lt).getD i 0).toNat) hr8 (by simp only [hfm]; exact hjl) (fun i hi => ((bcell h).1 _ _ HRW.out.1).trans (HMT.out i hi))
            simp only [hfm] at h3
            exact ⟨v8, hv8, hf8, (HBW.out.trans (h.mono HBW.out.size)).setCell hM _, hr8.set _ _, h3⟩
          clear HMT HRW
          have mid : ∀ w8, Below wr.heap.size wr w8 → True := fun _ _ => trivial
          clear mid
          by_cases hm0 : m = 0
          · have hk0 : decide ((0 : Int) < (m : Int)) = false := decide_eq_false (by omega)
            have hk1 : decide (0 < m) = false := decide_eq_false (by omega)
            clear hm0
            go_wp2
            refine wp_region_calm (W := wr) (by kernel_rfl) (by kernel_rfl) (Below.refl _ _) ?_
            repeat (first
              | (refine calm_no (by rfl) ?_
                 (try simp only [Act.put, List.setIfInBounds_toArray, List.set_cons_zero, List.set_cons_succ]))
              | (apply calm_yes
                 focus rfl
                 focus
                   intro w' hw'
                   obtain ⟨⟨x1, x2⟩, y0⟩ := FY.out w' hw'
                   go_simp
                   first
                     | done
                     | with_reducible rfl
                     | (go_at_call 21; refine (number_w _ undef _ _ _ _ _ hlt).mono ?_; rintro e w8 ⟨rfl, hb8⟩; rw [hfn]; exact ⟨rfl, hw'.trans (hb8.mono hw'.size)⟩)
                 (try simp only [Act.put, List.setIfInBounds_toArray, List.set_cons_zero, List.set_cons_succ])))
            refine calm_nil ?_
            intro w8 hb8r
            
            obtain ⟨v8, k1, k2, k3, k4, k5⟩ := HMEET.out _ hb8r
            clear x1 x2 y0 y4 y5
            obtain ⟨⟨⟨x1, x2⟩, y0⟩, y4, y5⟩ := FA.out _ (HBW.out.trans (hb8r.mono HBW.out.size))
            go_wp2
            generalize hw9 : w8.setCell ⟨M, j, none⟩ (.bool true) = w9 at k3 k4 k5 ⊢
            have K3 := Lib.hid k3
            have K4 := Lib.hid k4
            have K5 := Lib.hid k5
            clear hw9 k1 k2 k3 k4 k5
            have FC : Hid (∀ w', Below w9.heap.size w9 w' → ((w'.cell? ⟨w.heap.size, 0, none⟩ = some (.slice (some ⟨A, O, none⟩) ls cs) ∧ w'.cell? ⟨w.heap.size, 1, none⟩ = some (.slice (some ⟨C, P, none⟩) lt ct)) ∧ w'.cell? ⟨G, Q + m, none⟩ = some (.int .i64 (j : Int))) ∧ w'.cell? ⟨D, F + j, none⟩ = some (.int .i64 (g j)) ∧ w'.cell? ⟨C, P + j * 5 + 4, none⟩ = some (.int .i64 (t j).hi)) := Lib.hid fun w' h => FA.out w' (K3.out.trans (h.mono K3.out.size))
            have HL9 : Hid (∀ w', Below w9.heap.size w9 w' → LineAt w' A O C P ls lt s t) := Lib.hid fun w' h => (FX.out _ (K3.out.trans (h.mono K3.out.size))).2.1.1
            clear x1 x2 y0 y4 y5
            refine wp_region_calm (W := w9) (by kernel_rfl) (by kernel_rfl) (Below.refl _ _) ?_
            repeat (first
              | (refine calm_no (by rfl) ?_
                 (try simp only [Act.put, List.setIfInBounds_toArray, List.set_cons_zero, List.set_cons_succ]))
              | (apply calm_yes
                 focus rfl
                 focus
                   intro w' hw'
                   obtain ⟨⟨⟨x1, x2⟩, y0⟩, y4, y5⟩ := FC.out w' hw'
                   go_simp
                   first
                     | done
                     | with_reducible rfl
                     | (go_at_call 24; refine (rcups_l (HL9.out _ hw') hjl _ _ _ _ HAG.out (HAB.out j hjl).2.2.2.2).mono ?_; rintro e w8 ⟨rfl, hb8⟩; exact ⟨rfl, hw'.trans (hb8.mono hw'.size)⟩)
                 (try simp only [Act.put, List.setIfInBounds_toArray, List.set_cons_zero, List.set_cons_succ])))
            refine calm_nil ?_
            intro w10 hb10
            
            obtain ⟨⟨⟨x1, x2⟩, y0⟩, y4, y5⟩ := FC.out _ hb10
            have H10 := Lib.hid hb10
            clear hb10
            go_wp2
            go_loopw [16] (fun ii w2 => ∃ q : Nat, q ≤ lt ∧ ii = .int .i64 q ∧ Below w10.heap.size w10 w2) (fun ii _ => lt - (intOf ii).toNat)
            case atStart => exact ⟨0, Nat.zero_le _, rfl, Below.refl _ _⟩
            case round =>
              obtain ⟨q, hq, rfl, hbq⟩ := hrel
              have HB9Q := Lib.hid (H10.out.trans (hbq.mono H10.out.size))
              have HBQ := Lib.hid hbq
              clear x1 x2 y0 y4 y5 hbq
              have FB : Hid (∀ w', Below wr.heap.size wr w' → Below w6.heap.size w6 w') := Lib.hid fun w' h => K3.out.trans ((HB9Q.out.trans (h.mono HB9Q.out.size)).mono K3.out.size)
              obtain ⟨⟨⟨x1, x2⟩, y0⟩, _, _⟩ := FA.out _ (FB.out _ (Below.refl _ _))
              by_cases hqk : q < lt
              · have FD : Hid (∀ w', Below wr.heap.size wr w' → ((w'.cell? ⟨w.heap.size, 0, none⟩ = some (.slice (some ⟨A, O, none⟩) ls cs) ∧ w'.cell? ⟨w.heap.size, 1, none⟩ = some (.slice (some ⟨C, P, none⟩) lt ct)) ∧ w'.cell? ⟨G, Q + m, none⟩ = some (.int .i64 (j : Int))) ∧ w'.cell? ⟨D, F + q, none⟩ = some (.int .i64 (g q)) ∧ w'.cell? ⟨C, P + q * 5 + 3, none⟩ = some (.int .i64 (t q).lo)) := Lib.hid fun w' h => by
                  obtain ⟨_, ⟨q1, q2, _⟩, _⟩ := FX.out w' (FB.out w' h)
                  exact ⟨(FA.out w' (FB.out w' h)).1, q2 q hqk, (q1.st q hqk).2.2.2.1⟩
                obtain ⟨_, y4, y5⟩ := FD.out _ (Below.refl _ _)
                have HLq : Hid (∀ w', Below wr.heap.size wr w' → LineAt w' A O C P ls lt s t) := Lib.hid fun w' h => (FX.out _ (FB.out w' h)).2.1.1
                have hag := HQ.out.ok q hqk
                simp only [fromB, decide_eq_true_eq] at hag
                have HAQ := Lib.hid hag
                clear hag
                have m1 : (0 : Int) ≤ (q : Int) := by omega
                have m2 : (q : Int) < (lt : Int) := by omega
                by_cases e : q = j
                · have e1 : ((q : Int) != (j : Int)) = false := by rw [e]; simp
                  clear e
                  go_wp2
                  refine wp_region_calm (W := wr) (by kernel_rfl) (by kernel_rfl) (Below.refl _ _) ?_
                  repeat (first
                    | (refine calm_no (by rfl) ?_
                       (try simp only [Act.put, List.setIfInBounds_toArray, List.set_cons_zero, List.set_cons_succ]))
                    | (apply calm_yes
                       focus rfl
                       focus
                         intro w' hw'
                         obtain ⟨⟨⟨x1, x2⟩, y0⟩, y4, y5⟩ := FD.out w' hw'
                         go_simp
                         first
                           | done
                           | with_reducible rfl
                           | (go_at_call 24; refine (rcups_l (HLq.out _ hw') hqk _ _ _ _ HAQ.out (HAB.out q hqk).2.2.2.1).mono ?_; rintro e w8 ⟨rfl, hb8⟩; exact ⟨rfl, hw'.trans (hb8.mono hw'.size)⟩)
                       (try simp only [Act.put, List.setIfInBounds_toArray, List.set_cons_zero, List.set_cons_succ])))
                  refine calm_nil ?_
                  intro w12 hb12
                  
                  go_wp2
                  go_roundw
                  case rel => exact ⟨q + 1, by omega, by go_num, HBQ.out.trans (hb12.mono HBQ.out.size)⟩
                  case measure => simp [intOf]; omega
                · have e1 : ((q : Int) != (j : Int)) = true := by simp; omega
                  have hd9 : decide (cupsL s (t q) (g q) (t q).lo < cupsL s (t j) (g j) (t j).hi) = false := by
                    have h9 := none_under H.out.lt1 HLB.out HJN.out hqk
                    exact decide_eq_false (by omega)
                  clear e
                  go_wp2
                  refine wp_region_calm (W := wr) (by kernel_rfl) (by kernel_rfl) (Below.refl _ _) ?_
                  repeat (first
                    | (refine calm_no (by rfl) ?_
                       (try simp only [Act.put, List.setIfInBounds_toArray, List.set_cons_zero, List.set_cons_succ]))
                    | (apply calm_yes
                       focus rfl
                       focus
                         intro w' hw'
                         obtain ⟨⟨⟨x1, x2⟩, y0⟩, y4, y5⟩ := FD.out w' hw'
                         go_simp
                         first
                           | done
                           | with_reducible rfl
                           | (go_at_call 24; refine (rcups_l (HLq.out _ hw') hqk _ _ _ _ HAQ.out (HAB.out q hqk).2.2.2.1).mono ?_; rintro e w8 ⟨rfl, hb8⟩; exact ⟨rfl, hw'.trans (hb8.mono hw'.size)⟩)
                       (try simp only [Act.put, List.setIfInBounds_toArray, List.set_cons_zero, List.set_cons_succ])))
                  refine calm_nil ?_
                  intro w12 hb12
                  
                  go_wp2
                  go_roundw
                  case rel => exact ⟨q + 1, by omega, by go_num, HBQ.out.trans (hb12.mono HBQ.out.size)⟩
                  case measure => simp [intOf]; omega
              · obtain rfl : q = lt := by omega
                go_wp2
                go_roundw
                case rel => exact ⟨m + 1, by omega, by go_num, K3.out.trans (HB9Q.out.mono K3.out.size), K4.out.below K4.out.1 HB9Q.out, fun j' hj' => ((bcell HB9Q.out).1 _ _ K4.out.1).trans (K5.out j' hj')⟩
                case measure => simp [intOf]; omega
          · obtain ⟨p, hp⟩ : ∃ p : Nat, m = p + 1 := ⟨m - 1, by omega⟩
            have hk0 : decide ((0 : Int) < (m : Int)) = true := decide_eq_true (by omega)
            have hk1 : decide (0 < m) = true := decide_eq_true (by omega)
            obtain ⟨jp, hpx, hpl, _⟩ := pick_get (b := narB s t g Lb) (n := lt) (k := p) (by have := HNn.out; omega)
            have hjp : decide ((j : Int) ≤ (jp : Int)) = false := by
              have h9 := pick_lt (b := narB s t g Lb) (n := lt) (k := p) (by have := HNn.out; omega)
              rw [← hp, HJX.out, hpx] at h9
              exact decide_eq_false (by omega)
            have hjp2 : decide (j ≤ jp) = false := by
              have := of_decide_eq_false hjp
              exact decide_eq_false (by omega)
            have HPX := Lib.hid hpx
            have FP : Hid (∀ w', Below wr.heap.size wr w' → ((w'.cell? ⟨w.heap.size, 0, none⟩ = some (.slice (some ⟨A, O, none⟩) ls cs) ∧ w'.cell? ⟨w.heap.size, 1, none⟩ = some (.slice (some ⟨C, P, none⟩) lt ct)) ∧ w'.cell? ⟨G, Q + m, none⟩ = some (.int .i64 (j : Int))) ∧ w'.cell? ⟨G, Q + p, none⟩ = some (.int .i64 (jp : Int))) := Lib.hid fun w' h => by
              obtain ⟨_, _, q4⟩ := FX.out w' (HBW.out.trans (h.mono HBW.out.size))
              obtain ⟨G', Q', hGe, _, q5⟩ := q4.resolve_left (by omega)
              cases hGe
              have q6 : w'.cell? ⟨G, Q + p, none⟩ = some (.int .i64 ((pick (narB s t g Lb) lt).getD p 0)) := q5 p (by omega)
              rw [HPX.out] at q6
              exact ⟨FY.out w' h, q6⟩
            have y6 := (FP.out _ (Below.refl _ _)).2
            have hsub : (m : Int) - 1 = (p : Int) := by omega
            have n5 : (0 : Int) ≤ (p : Int) := by omega
            have n6 : (p : Int) < (n : Int) := by omega
            have hwr := wrp_small p (by omega)
            clear hpx hp
            go_wp2
            refine wp_region_calm (W := wr) (by kernel_rfl) (by kernel_rfl) (Below.refl _ _) ?_
            repeat (first
              | (refine calm_no (by rfl) ?_
                 (try simp only [Act.put, List.setIfInBounds_toArray, List.set_cons_zero, List.set_cons_succ]))
              | (apply calm_yes
                 focus rfl
                 focus
                   intro w' hw'
                   obtain ⟨⟨⟨x1, x2⟩, y0⟩, y6⟩ := FP.out w' hw'
                   go_simp
                   first
                     | done
                     | with_reducible rfl
                     | (go_at_call 21; refine (number_w _ undef _ _ _ _ _ hlt).mono ?_; rintro e w8 ⟨rfl, hb8⟩; rw [hfn]; exact ⟨rfl, hw'.trans (hb8.mono hw'.size)⟩)
                 (try simp only [Act.put, List.setIfInBounds_toArray, List.set_cons_zero, List.set_cons_succ])))
            refine calm_nil ?_
            intro w8 hb8r
            
            clear y6 hsub hwr
            obtain ⟨v8, k1, k2, k3, k4, k5⟩ := HMEET.out _ hb8r
            clear x1 x2 y0 y4 y5
            obtain ⟨⟨⟨x1, x2⟩, y0⟩, y4, y5⟩ := FA.out _ (HBW.out.trans (hb8r.mono HBW.out.size))
            go_wp2
            generalize hw9 : w8.setCell ⟨M, j, none⟩ (.bool true) = w9 at k3 k4 k5 ⊢
            have K3 := Lib.hid k3
            have K4 := Lib.hid k4
            have K5 := Lib.hid k5
            clear hw9 k1 k2 k3 k4 k5
            have FC : Hid (∀ w', Below w9.heap.size w9 w' → ((w'.cell? ⟨w.heap.size, 0, none⟩ = some (.slice (some ⟨A, O, none⟩) ls cs) ∧ w'.cell? ⟨w.heap.size, 1, none⟩ = some (.slice (some ⟨C, P, none⟩) lt ct)) ∧ w'.cell? ⟨G, Q + m, none⟩ = some (.int .i64 (j : Int))) ∧ w'.cell? ⟨D, F + j, none⟩ = some (.int .i64 (g j)) ∧ w'.cell? ⟨C, P + j * 5 + 4, none⟩ = some (.int .i64 (t j).hi)) := Lib.hid fun w' h => FA.out w' (K3.out.trans (h.mono K3.out.size))
            have HL9 : Hid (∀ w', Below w9.heap.size w9 w' → LineAt w' A O C P ls lt s t) := Lib.hid fun w' h => (FX.out _ (K3.out.trans (h.mono K3.out.size))).2.1.1
            clear x1 x2 y0 y4 y5
            refine wp_region_calm (W := w9) (by kernel_rfl) (by kernel_rfl) (Below.refl _ _) ?_
            repeat (first
              | (refine calm_no (by rfl) ?_
                 (try simp only [Act.put, List.setIfInBounds_toArray, List.set_cons_zero, List.set_cons_succ]))
              | (apply calm_yes
                 focus rfl
                 focus
                   intro w' hw'
                   obtain ⟨⟨⟨x1, x2⟩, y0⟩, y4, y5⟩ := FC.out w' hw'
                   go_simp
                   first
                     | done
                     | with_reducible rfl
                     | (go_at_call 24; refine (rcups_l (HL9.out _ hw') hjl _ _ _ _ HAG.out (HAB.out j hjl).2.2.2.2).mono ?_; rintro e w8 ⟨rfl, hb8⟩; exact ⟨rfl, hw'.trans (hb8.mono hw'.size)⟩)
                 (try simp only [Act.put, List.setIfInBounds_toArray, List.set_cons_zero, List.set_cons_succ])))
            refine calm_nil ?_
            intro w10 hb10
            
            obtain ⟨⟨⟨x1, x2⟩, y0⟩, y4, y5⟩ := FC.out _ hb10
            have H10 := Lib.hid hb10
            clear hb10
            go_wp2
            go_loopw [16] (fun ii w2 => ∃ q : Nat, q ≤ lt ∧ ii = .int .i64 q ∧ Below w10.heap.size w10 w2) (fun ii _ => lt - (intOf ii).toNat)
            case atStart => exact ⟨0, Nat.zero_le _, rfl, Below.refl _ _⟩
            case round =>
              obtain ⟨q, hq, rfl, hbq⟩ := hrel
              have HB9Q := Lib.hid (H10.out.trans (hbq.mono H10.out.size))
              have HBQ := Lib.hid hbq
              clear x1 x2 y0 y4 y5 hbq
              have FB : Hid (∀ w', Below wr.heap.size wr w' → Below w6.heap.size w6 w') := Lib.hid fun w' h => K3.out.trans ((HB9Q.out.trans (h.mono HB9Q.out.size)).mono K3.out.size)
              obtain ⟨⟨⟨x1, x2⟩, y0⟩, _, _⟩ := FA.out _ (FB.out _ (Below.refl _ _))
              by_cases hqk : q < lt
              · have FD : Hid (∀ w', Below wr.heap.size wr w' → ((w'.cell? ⟨w.heap.size, 0, none⟩ = some (.slice (some ⟨A, O, none⟩) ls cs) ∧ w'.cell? ⟨w.heap.size, 1, none⟩ = some (.slice (some ⟨C, P, none⟩) lt ct)) ∧ w'.cell? ⟨G, Q + m, none⟩ = some (.int .i64 (j : Int))) ∧ w'.cell? ⟨D, F + q, none⟩ = some (.int .i64 (g q)) ∧ w'.cell? ⟨C, P + q * 5 + 3, none⟩ = some (.int .i64 (t q).lo)) := Lib.hid fun w' h => by
                  obtain ⟨_, ⟨q1, q2, _⟩, _⟩ := FX.out w' (FB.out w' h)
                  exact ⟨(FA.out w' (FB.out w' h)).1, q2 q hqk, (q1.st q hqk).2.2.2.1⟩
                obtain ⟨_, y4, y5⟩ := FD.out _ (Below.refl _ _)
                have HLq : Hid (∀ w', Below wr.heap.size wr w' → LineAt w' A O C P ls lt s t) := Lib.hid fun w' h => (FX.out _ (FB.out w' h)).2.1.1
                have hag := HQ.out.ok q hqk
                simp only [fromB, decide_eq_true_eq] at hag
                have HAQ := Lib.hid hag
                clear hag
                have m1 : (0 : Int) ≤ (q : Int) := by omega
                have m2 : (q : Int) < (lt : Int) := by omega
                by_cases e : q = j
                · have e1 : ((q : Int) != (j : Int)) = false := by rw [e]; simp
                  clear e
                  go_wp2
                  refine wp_region_calm (W := wr) (by kernel_rfl) (by kernel_rfl) (Below.refl _ _) ?_
                  repeat (first
                    | (refine calm_no (by rfl) ?_
                       (try simp only [Act.put, List.setIfInBounds_toArray, List.set_cons_zero, List.set_cons_succ]))
                    | (apply calm_yes
                       focus rfl
                       focus
                         intro w' hw'
                         obtain ⟨⟨⟨x1, x2⟩, y0⟩, y4, y5⟩ := FD.out w' hw'
                         go_simp
                         first
                           | done
                           | with_reducible rfl
                           | (go_at_call 24; refine (rcups_l (HLq.out _ hw') hqk _ _ _ _ HAQ.out (HAB.out q hqk).2.2.2.1).mono ?_; rintro e w8 ⟨rfl, hb8⟩; exact ⟨rfl, hw'.trans (hb8.mono hw'.size)⟩)
                       (try simp only [Act.put, List.setIfInBounds_toArray, List.set_cons_zero, List.set_cons_succ])))
                  refine calm_nil ?_
                  intro w12 hb12
                  
                  go_wp2
                  go_roundw
                  case rel => exact ⟨q + 1, by omega, by go_num, HBQ.out.trans (hb12.mono HBQ.out.size)⟩
                  case measure => simp [intOf]; omega
                · have e1 : ((q : Int) != (j : Int)) = true := by simp; omega
                  have hd9 : decide (cupsL s (t q) (g q) (t q).lo < cupsL s (t j) (g j) (t j).hi) = false := by
                    have h9 := none_under H.out.lt1 HLB.out HJN.out hqk
                    exact decide_eq_false (by omega)
                  clear e
                  go_wp2
                  refine wp_region_calm (W := wr) (by kernel_rfl) (by kernel_rfl) (Below.refl _ _) ?_
                  repeat (first
                    | (refine calm_no (by rfl) ?_
                       (try simp only [Act.put, List.setIfInBounds_toArray, List.set_cons_zero, List.set_cons_succ]))
                    | (apply calm_yes
                       focus rfl
                       focus
                         intro w' hw'
                         obtain ⟨⟨⟨x1, x2⟩, y0⟩, y4, y5⟩ := FD.out w' hw'
                         go_simp
                         first
                           | done
                           | with_reducible rfl
                           | (go_at_call 24; refine (rcups_l (HLq.out _ hw') hqk _ _ _ _ HAQ.out (HAB.out q hqk).2.2.2.1).mono ?_; rintro e w8 ⟨rfl, hb8⟩; exact ⟨rfl, hw'.trans (hb8.mono hw'.size)⟩)
                       (try simp only [Act.put, List.setIfInBounds_toArray, List.set_cons_zero, List.set_cons_succ])))
                  refine calm_nil ?_
                  intro w12 hb12
                  
                  go_wp2
                  go_roundw
                  case rel => exact ⟨q + 1, by omega, by go_num, HBQ.out.trans (hb12.mono HBQ.out.size)⟩
                  case measure => simp [intOf]; omega
              · obtain rfl : q = lt := by omega
                go_wp2
                go_roundw
                case rel => exact ⟨m + 1, by omega, by go_num, K3.out.trans (HB9Q.out.mono K3.out.size), K4.out.below K4.out.1 HB9Q.out, fun j' hj' => ((bcell HB9Q.out).1 _ _ K4.out.1).trans (K5.out j' hj')⟩
                case measure => simp [intOf]; omega
        · obtain rfl : m = n := by omega
          have HMI : Hid (∀ i, i < lt → narB s t g Lb i = true → wr.cell? ⟨M, i, none⟩ = some (.bool true)) := Lib.hid fun i hi hn => by
            obtain ⟨j, hj, he⟩ := List.getElem_of_mem ((pick_mem lt (i : Int)).2 ⟨i, rfl, hi, hn⟩)
            have h1 := HMT.out j (by have := HNn.out; omega)
            have h2 : ((pick (narB s t g Lb) lt).getD j 0).toNat = i := by
              rw [List.getD, List.getElem?_eq_getElem hj, he]; simp
            rw [h2] at h1
            exact h1
          have hMr := HRW.out.1
          clear HMT HRW
          go_wp2
          go_loopw [17] (fun ii w2 => ∃ q : Nat, q ≤ lt ∧ ii = .int .i64 q ∧ Below wr.heap.size wr w2) (fun ii _ => lt - (intOf ii).toNat)
          case atStart => exact ⟨0, Nat.zero_le _, rfl, Below.refl _ _⟩
          case round =>
            obtain ⟨q, hq, rfl, hbq⟩ := hrel
            by_cases hqk : q < lt
            · obtain ⟨⟨x1, x2, _, _⟩, ⟨HLW0, z1, z2⟩, _⟩ := FX.out _ (HBW.out.trans (hbq.mono HBW.out.size))
              have y0 := z1 q hqk
              have y4 := z2 q hqk
              have HLW := Lib.hid HLW0
              have HBQ := Lib.hid hbq
              clear z1 z2 HLW0
              have hag := HQ.out.ok q hqk
              simp only [fromB, decide_eq_true_eq] at hag
              have HAG := Lib.hid hag
              clear hag hbq
              have n1 : (0 : Int) ≤ (q : Int) := by omega
              have n2 : (q : Int) < (lt : Int) := by omega
              by_cases e : actOf s t g r q = Lm
              · have hmq := HMI.out q hqk (LI.out q hqk e)
                have z0 := ((bcell HBQ.out).1 _ q hMr).trans hmq
                have e1 : (cupsL s (t q) (g q) (r q) == Lm) = true := by simpa [actOf] using e
                have FY : Hid (∀ w', Below wr.heap.size wr w' → (w'.cell? ⟨w.heap.size, 0, none⟩ = some (.slice (some ⟨A, O, none⟩) ls cs) ∧ w'.cell? ⟨w.heap.size, 1, none⟩ = some (.slice (some ⟨C, P, none⟩) lt ct)) ∧ w'.cell? ⟨D, F + q, none⟩ = some (.int .i64 (g q)) ∧ w'.cell? ⟨E, U + q, none⟩ = some (.int .i64 (r q)) ∧ w'.cell? ⟨M, q, none⟩ = some (.bool true)) := Lib.hid fun w' h => by
                  have h9 := HBQ.out.trans (h.mono HBQ.out.size)
                  obtain ⟨⟨x1, x2, _, _⟩, ⟨_, z1, z2⟩, _⟩ := FX.out _ (HBW.out.trans (h9.mono HBW.out.size))
                  exact ⟨⟨x1, x2⟩, z1 q hqk, z2 q hqk, ((bcell h9).1 _ q hMr).trans hmq⟩
                clear e hmq
                go_wp2
                go_region_held3 (fun w' => (w'.cell? ⟨w.heap.size, 0, none⟩ = some (.slice (some ⟨A, O, none⟩) ls cs) ∧ w'.cell? ⟨w.heap.size, 1, none⟩ = some (.slice (some ⟨C, P, none⟩) lt ct)) ∧ w'.cell? ⟨D, F + q, none⟩ = some (.int .i64 (g q)) ∧ w'.cell? ⟨E, U + q, none⟩ = some (.int .i64 (r q)) ∧ w'.cell? ⟨M, q, none⟩ = some (.bool true))
                  ((first | exact FY.out _ hb8r | (refine FY.out _ ?_; repeat (first | exact Below.refl _ _ | refine Below.drew ?_))))
                  ((go_at_call 24; refine (rcups_l (HLW.out.below ((Below.refl _ _).drew)) hqk _ _ _ _ HAG.out (HAB.out q hqk).2.2.1).mono ?_; rintro e w8 ⟨rfl, hb8⟩; have hb8r : Below wr.heap.size wr w8 := (Below.refl _ _).drew.trans hb8))
                go_wp2
                go_roundw
                case rel => exact ⟨q + 1, by omega, by go_num, HBQ.out.trans (hb8r.mono HBQ.out.size)⟩
                case measure => simp [intOf]; omega
              · have e1 : (cupsL s (t q) (g q) (r q) == Lm) = false := by simpa [actOf] using e
                have FY : Hid (∀ w', Below wr.heap.size wr w' → (w'.cell? ⟨w.heap.size, 0, none⟩ = some (.slice (some ⟨A, O, none⟩) ls cs) ∧ w'.cell? ⟨w.heap.size, 1, none⟩ = some (.slice (some ⟨C, P, none⟩) lt ct)) ∧ w'.cell? ⟨D, F + q, none⟩ = some (.int .i64 (g q)) ∧ w'.cell? ⟨E, U + q, none⟩ = some (.int .i64 (r q))) := Lib.hid fun w' h => by
                  have h9 := HBQ.out.trans (h.mono HBQ.out.size)
                  obtain ⟨⟨x1, x2, _, _⟩, ⟨_, z1, z2⟩, _⟩ := FX.out _ (HBW.out.trans (h9.mono HBW.out.size))
                  exact ⟨⟨x1, x2⟩, z1 q hqk, z2 q hqk⟩
                clear e
                go_wp2
                refine wp_region_calm (W := wr) (by kernel_rfl) (by kernel_rfl) (Below.refl _ _) ?_
                repeat (first
                  | (refine calm_no (by rfl) ?_
                     (try simp only [Act.put, List.setIfInBounds_toArray, List.set_cons_zero, List.set_cons_succ]))
                  | (apply calm_yes
                     focus rfl
                     focus
                       intro w' hw'
                       obtain ⟨⟨x1, x2⟩, y0, y4⟩ := FY.out w' hw'
                       go_simp
                       first
                         | done
                         | with_reducible rfl
                         | (go_at_call 24; refine (rcups_l (HLW.out.below hw') hqk _ _ _ _ HAG.out (HAB.out q hqk).2.2.1).mono ?_; rintro e w8 ⟨rfl, hb8⟩; exact ⟨rfl, hw'.trans (hb8.mono hw'.size)⟩)
                     (try simp only [Act.put, List.setIfInBounds_toArray, List.set_cons_zero, List.set_cons_succ])))
                refine calm_nil ?_
                intro w8 hb8r
                
                go_wp2
                go_roundw
                case rel => exact ⟨q + 1, by omega, by go_num, HBQ.out.trans (hb8r.mono HBQ.out.size)⟩
                case measure => simp [intOf]; omega
            · have HBQ := Lib.hid hbq
              clear hbq
              go_wp2_with (go_at_call 17; refine (K.out _).mono ?_; rintro e w11 ⟨rfl, hb11⟩)
              go_ret
              exact ⟨rfl, hB17.trans ((HBW.out.trans ((HBQ.out.trans (hb11.mono HBQ.out.size)).mono HBW.out.size)).mono (by omega))⟩
end Go.Kn

namespace Go.Kn
open Go Go.Proofs Go.RowKit

theorem lawr_w (sa ta sq sr : Option Addr) (ls cs lt ct lq cq lr cr : Nat) (s : Nat → Int) (t : Nat → St5) (g r : Nat → Int) (w : World) (hls : ls ≤ maxLen) (hlt : lt ≤ maxLen) (hlq : lq ≤ maxLen) (hlr : lr ≤ maxLen) (HS : NumSl w sa ls s) (HT : StSl w ta lt t) (HG : IntSl w sq lq g) (HR : IntSl w sr lr r) (K : Hid KnownOk) :
    Calls Tryz.prog 6 #[.agg #[.slice sa ls cs, .slice ta lt ct], .slice sq lq cq, .slice sr lr cr] w
      fun e w' => e = .returned (.bool true) ∧ Below w.heap.size w w' := by
  by_cases hq : ls ≤ 13 ∧ lt ≤ 10
  case neg => exact lawr_a sa ta sq sr ls cs lt ct lq cq lr cr s t g r w hls hlt hlq hlr ⟨HS, HT⟩ HG HR K hq
  by_cases hb : lq ≤ 10
  case neg => exact lawr_b sa ta sq sr ls cs lt ct lq cq lr cr s t g r w hls hlt hlq hlr ⟨HS, HT⟩ HG HR K hq hb
  by_cases hR : RightP ls lt s t
  case neg => exact lawr_c sa ta sq sr ls cs lt ct lq cq lr cr s t g r w hls hlt hlq hlr ⟨HS, HT⟩ HG HR K hq hb hR
  by_cases hQ : AgeP lt lq g
  case neg => exact lawr_d sa ta sq sr ls cs lt ct lq cq lr cr s t g r w hls hlt hlq hlr ⟨HS, HT⟩ HG HR K hq hb hR hQ
  obtain ⟨A, O, rfl, hA, hsp⟩ := HS.resolve_left (by have := hR.ls1; omega)
  obtain ⟨C, P, rfl, hC, hst⟩ := HT.resolve_left (by have := hR.lt1; omega)
  have H : LineAt w A O C P ls lt s t := ⟨hA, hC, hR.ls1, hR.ls2, hR.lt1, hR.lt2, hsp, hst, hR.sok, hR.tok⟩
  by_cases hP : RateP lt lr t r
  case neg => exact lawr_e A O C P sq sr ls cs lt ct lq cq lr cr s t g r w hlq hlr (Lib.hid H) HG HR K (Lib.hid hQ) (Lib.hid hP)
  have e1 := hQ.eq
  have e2 := hP.eq
  subst e1
  obtain rfl : lr = lq := e2
  obtain ⟨D, F, rfl, hD, hg⟩ := HG.resolve_left (by have := hR.lt1; omega)
  obtain ⟨E, U, rfl, hE, hr⟩ := HR.resolve_left (by have := hR.lt1; omega)
  exact lawr_good A O C P ls cs _ ct D F cq E U cr s t g r _ _ (Lib.hid rfl) (Lib.hid rfl) w (Lib.hid H) hD (Lib.hid hg) hE (Lib.hid hr) (Lib.hid hQ) (Lib.hid hP) K
end Go.Kn
