/- Walks of the functions of layer 2 that ChannelNarrow calls, and the law itself (a part of it). Conditions: as each theorem states them. -/
import Derived.Test.YtifdohhffmlbaaaGreatDoorW4
import Derived.Deep.QuietTactic
import Derived.Test.YtifdohhffmlbaaaGreatDoorLR
set_option linter.unusedVariables false
set_option linter.unusedSimpArgs false
namespace Go.Kn
open Go Go.Proofs Go.RowKit

/-- The lexical walk, behind a door: so that nobody lays it open unasked. -/
structure Calm (P : Program) (ops : Array Oper) (C : World → Prop) (Q : Act → Prop) (l : List Oper) (a : Act) : Prop where
  out : wpQuiet P ops C Q l a

/-- One walk of the lexical order serves every order: the class of worlds in which nothing below a mark has changed. -/
theorem wp_region_calm {P : Program} {id : Nat} {Q : Exit → Act → World → Prop} {a : Act} {w W : World} {l : List Oper} (hm : P.follows .mixedOrders = true) (hB : Region.lexB .any l.toArray = true) (h0 : Below W.heap.size W w)
    (h : Calm P l.toArray (fun w' => Below W.heap.size W w') (fun a' => ∀ w', Below W.heap.size W w' → Q .normal a' w') l a) : (Code.region id l.toArray true).wp P Q a w :=
  wp_region_quiet (C := fun w' => Below W.heap.size W w') hm hB (below_drew h0) (by simpa using h.out)

theorem calm_nil {P : Program} {ops : Array Oper} {C : World → Prop} {Q : Act → Prop} {a : Act} (h : Q a) : Calm P ops C Q [] a := ⟨wpQuiet_nil h⟩

theorem calm_yes {P : Program} {ops : Array Oper} {C : World → Prop} {Q : Act → Prop} {a : Act} {o : Oper} {rest : List Oper} {v : Value} (hw : Region.wanted o (yielded ops a.tmps) = true)
    (h1 : ∀ w', C w' → o.quietAt P a C w' v) (h2 : Calm P ops C Q rest (a.put o.dst v)) : Calm P ops C Q (o :: rest) a := by
  refine ⟨?_⟩
  unfold wpQuiet
  rw [if_pos hw]
  exact ⟨v, h1, h2.out⟩

theorem calm_no {P : Program} {ops : Array Oper} {C : World → Prop} {Q : Act → Prop} {a : Act} {o : Oper} {rest : List Oper} (hw : Region.wanted o (yielded ops a.tmps) = false)
    (h2 : Calm P ops C Q rest (a.put o.dst undef)) : Calm P ops C Q (o :: rest) a := by
  refine ⟨?_⟩
  unfold wpQuiet
  rw [if_neg (by rw [hw]; decide)]
  exact h2.out
end Go.Kn

namespace Go.Kn
open Go Go.Proofs Go.RowKit

structure RateP (lt lq : Nat) (t : Nat → St5) (r : Nat → Int) : Prop where
  eq : lq = lt
  ok : ∀ i, i < lt → (t i).lo ≤ r i ∧ r i ≤ (t i).hi

set_option maxRecDepth 100000 in
set_option maxHeartbeats 4000000 in
theorem rated_w (A O C P ls cs lt ct : Nat) (sq : Option Addr) (lq cq : Nat) (s : Nat → Int) (t : Nat → St5) (r : Nat → Int) (w : World) (H : Hid (LineAt w A O C P ls lt s t)) (hlq : lq ≤ maxLen) (HS : Hid (IntSl w sq lq r)) :
    Calls Tryz.prog 30 #[.agg #[.slice (some ⟨A, O, none⟩) ls cs, .slice (some ⟨C, P, none⟩) lt ct], .slice sq lq cq] w
      fun e w' => (∃ rb : Bool, e = .returned (.bool rb) ∧ (rb = true ↔ RateP lt lq t r)) ∧ Below w.heap.size w w' := by
  have BX := Lib.hid (fun (w1 : World) (hb : Below (w.alloc (.cells #[.slice (some ⟨A, O, none⟩) ls cs, .slice (some ⟨C, P, none⟩) lt ct] 25)).heap.size (w.alloc (.cells #[.slice (some ⟨A, O, none⟩) ls cs, .slice (some ⟨C, P, none⟩) lt ct] 25)) w1) => box_cells hb)
  have q1 := H.out.lt1
  have q2 := H.out.lt2
  have hlt : lt ≤ maxLen := by unfold maxLen; omega
  by_cases h3 : lq = lt
  case neg =>
    have h3' : ((lq : Int) != (lt : Int)) = true := by simp; omega
    go_enter Tryz.func30, Tryz.ntmps30
    go_wp2
    go_ret
    first
      | exact ⟨.inl ⟨rfl, fun h => h3 h.eq⟩, (Below.refl _ _).alloc (Nat.le_refl _) _⟩
      | exact ⟨⟨false, rfl, no_iff' (fun h => h3 h.eq)⟩, (Below.refl _ _).alloc (Nat.le_refl _) _⟩
  obtain rfl : lt = lq := h3.symm
  obtain ⟨D, F, rfl, hD, hcs⟩ := HS.out.resolve_left (by omega)
  have HL : Hid (∀ w1, Below (w.alloc (.cells #[.slice (some ⟨A, O, none⟩) ls cs, .slice (some ⟨C, P, none⟩) lt ct] 25)).heap.size (w.alloc (.cells #[.slice (some ⟨A, O, none⟩) ls cs, .slice (some ⟨C, P, none⟩) lt ct] 25)) w1 → LineAt w1 A O C P ls lt s t ∧ NumAt w1 D F lt r) := Lib.hid fun w1 h => ⟨H.out.below (below_al h), hcs.below hD (below_al h)⟩
  clear hcs
  go_enter Tryz.func30, Tryz.ntmps30
  go_wp2
  go_loopw [5] (fun i wr => ∃ k : Nat, k ≤ lt ∧ i = .int .i64 k ∧ Below (w.alloc (.cells #[.slice (some ⟨A, O, none⟩) ls cs, .slice (some ⟨C, P, none⟩) lt ct] 25)).heap.size (w.alloc (.cells #[.slice (some ⟨A, O, none⟩) ls cs, .slice (some ⟨C, P, none⟩) lt ct] 25)) wr ∧ ∀ j, j < k → (t j).lo ≤ r j ∧ r j ≤ (t j).hi) (fun i _ => lt - (intOf i).toNat)
  case atStart => exact ⟨0, Nat.zero_le _, rfl, Below.refl _ _, fun j hj => absurd hj (by omega)⟩
  case round =>
    obtain ⟨k, hk, rfl, hbw, hall⟩ := hrel
    have HALL := Lib.hid hall
    clear hall
    obtain ⟨x0, x1, x2⟩ := BX.out _ hbw
    by_cases hlt1 : k < lt
    · obtain ⟨_, _, _, y0, y1⟩ := (HL.out _ hbw).1.st k hlt1
      have y2 := (HL.out _ hbw).2 k hlt1
      have n1 : (0 : Int) ≤ (k : Int) := by omega
      have n2 : (k : Int) < (lt : Int) := by omega
      by_cases g1 : r k < (t k).lo
      · have d1 : decide (r k < (t k).lo) = true := decide_eq_true g1
        go_wp2
        go_quiet (fail)
        go_wp2
        go_ret
        exact ⟨⟨false, rfl, no_iff' (fun h => by have := (h.ok k hlt1).1; omega)⟩, below_al (below_drewM hbw _)⟩
      · have d1 : decide (r k < (t k).lo) = false := decide_eq_false g1
        by_cases g2 : (t k).hi < r k
        · have d2 : decide ((t k).hi < r k) = true := decide_eq_true g2
          go_wp2
          go_quiet (fail)
          go_wp2
          go_ret
          exact ⟨⟨false, rfl, no_iff' (fun h => by have := (h.ok k hlt1).2; omega)⟩, below_al (below_drewM hbw _)⟩
        · have d2 : decide ((t k).hi < r k) = false := decide_eq_false g2
          go_wp2
          go_quiet (fail)
          go_wp2
          go_roundw
          case rel => exact ⟨k + 1, by omega, by go_num, (below_drewM hbw _), fun j hj => by
            rcases Nat.lt_succ_iff_lt_or_eq.1 hj with h | h
            · exact HALL.out j h
            · rw [h]; omega⟩
          case measure => simp [intOf]; omega
    · go_wp2
      go_ret
      exact ⟨⟨true, rfl, fun _ => ⟨rfl, fun j hj => HALL.out j (by omega)⟩, fun _ => rfl⟩, below_al hbw⟩

set_option maxRecDepth 100000 in
set_option maxHeartbeats 4000000 in
theorem lawr_a (sa ta sq sr : Option Addr) (ls cs lt ct lq cq lr cr : Nat) (s : Nat → Int) (t : Nat → St5) (g r : Nat → Int) (w : World) (hls : ls ≤ maxLen) (hlt : lt ≤ maxLen) (hlq : lq ≤ maxLen) (hlr : lr ≤ maxLen) (H0 : AnyLine w sa ta ls lt s t) (HS0 : IntSl w sq lq g) (HR0 : IntSl w sr lr r) (K : Hid KnownOk)
    (hq : ¬ (ls ≤ 13 ∧ lt ≤ 10)) :
    Calls Tryz.prog 6 #[.agg #[.slice sa ls cs, .slice ta lt ct], .slice sq lq cq, .slice sr lr cr] w
      fun e w' => e = .returned (.bool true) ∧ Below w.heap.size w w' := by
  have BX := Lib.hid (fun (w1 : World) (hb : Below (w.alloc (.cells #[.slice sa ls cs, .slice ta lt ct] 25)).heap.size (w.alloc (.cells #[.slice sa ls cs, .slice ta lt ct] 25)) w1) => box_cells hb)
  have hsh : decide (ls ≤ 13 ∧ lt ≤ 10) = false := decide_eq_false hq
  clear H0 HS0 HR0
  go_enter Tryz.func6, Tryz.ntmps6
  go_wp2_with (first
    | (go_at_call 15; refine (short_w _ _ _ _ _ _ _ hls hlt).mono ?_; rw [hsh]; rintro e w1 ⟨rfl, hb1⟩; obtain ⟨x1, x2, x3⟩ := BX.out _ hb1)
    | (go_at_call 16; refine (K.out _).mono ?_; rintro e w11 ⟨rfl, hb11⟩))
  go_ret
  exact ⟨rfl, below_al (hb1.trans (hb11.mono hb1.size))⟩

set_option maxRecDepth 100000 in
set_option maxHeartbeats 4000000 in
theorem lawr_b (sa ta sq sr : Option Addr) (ls cs lt ct lq cq lr cr : Nat) (s : Nat → Int) (t : Nat → St5) (g r : Nat → Int) (w : World) (hls : ls ≤ maxLen) (hlt : lt ≤ maxLen) (hlq : lq ≤ maxLen) (hlr : lr ≤ maxLen) (H0 : AnyLine w sa ta ls lt s t) (HS0 : IntSl w sq lq g) (HR0 : IntSl w sr lr r) (K : Hid KnownOk)
    (hq : ls ≤ 13 ∧ lt ≤ 10) (hb : ¬ lq ≤ 10) :
    Calls Tryz.prog 6 #[.agg #[.slice sa ls cs, .slice ta lt ct], .slice sq lq cq, .slice sr lr cr] w
      fun e w' => e = .returned (.bool true) ∧ Below w.heap.size w w' := by
  have BX := Lib.hid (fun (w1 : World) (hb : Below (w.alloc (.cells #[.slice sa ls cs, .slice ta lt ct] 25)).heap.size (w.alloc (.cells #[.slice sa ls cs, .slice ta lt ct] 25)) w1) => box_cells hb)
  have hsh : decide (ls ≤ 13 ∧ lt ≤ 10) = true := decide_eq_true hq
  clear H0 HS0 HR0
  have hq10 : (10 : Int) < (lq : Int) := by omega
  go_enter Tryz.func6, Tryz.ntmps6
  go_wp2_with (first
    | (go_at_call 15; refine (short_w _ _ _ _ _ _ _ hls hlt).mono ?_; rw [hsh]; rintro e w1 ⟨rfl, hb1⟩; obtain ⟨x1, x2, x3⟩ := BX.out _ hb1)
    | (go_at_call 16; refine (K.out _).mono ?_; rintro e w11 ⟨rfl, hb11⟩))
  go_ret
  exact ⟨rfl, below_al (hb1.trans (hb11.mono hb1.size))⟩

set_option maxRecDepth 100000 in
set_option maxHeartbeats 4000000 in
theorem lawr_c (sa ta sq sr : Option Addr) (ls cs lt ct lq cq lr cr : Nat) (s : Nat → Int) (t : Nat → St5) (g r : Nat → Int) (w : World) (hls : ls ≤ maxLen) (hlt : lt ≤ maxLen) (hlq : lq ≤ maxLen) (hlr : lr ≤ maxLen) (H0 : AnyLine w sa ta ls lt s t) (HS0 : IntSl w sq lq g) (HR0 : IntSl w sr lr r) (K : Hid KnownOk)
    (hq : ls ≤ 13 ∧ lt ≤ 10) (hb : lq ≤ 10) (hR : ¬ RightP ls lt s t) :
    Calls Tryz.prog 6 #[.agg #[.slice sa ls cs, .slice ta lt ct], .slice sq lq cq, .slice sr lr cr] w
      fun e w' => e = .returned (.bool true) ∧ Below w.heap.size w w' := by
  have BX := Lib.hid (fun (w1 : World) (hb : Below (w.alloc (.cells #[.slice sa ls cs, .slice ta lt ct] 25)).heap.size (w.alloc (.cells #[.slice sa ls cs, .slice ta lt ct] 25)) w1) => box_cells hb)
  have HN : Hid (∀ w1, Below (w.alloc (.cells #[.slice sa ls cs, .slice ta lt ct] 25)).heap.size (w.alloc (.cells #[.slice sa ls cs, .slice ta lt ct] 25)) w1 → Hid (AnyLine w1 sa ta ls lt s t)) := Lib.hid fun w1 h => Lib.hid (H0.below (below_al h))
  have HI : Hid (∀ w1, Below (w.alloc (.cells #[.slice sa ls cs, .slice ta lt ct] 25)).heap.size (w.alloc (.cells #[.slice sa ls cs, .slice ta lt ct] 25)) w1 → Hid (IntSl w1 sq lq g)) := Lib.hid fun w1 h => Lib.hid (HS0.below (below_al h))
  clear H0 HS0 HR0
  have hsh : decide (ls ≤ 13 ∧ lt ≤ 10) = true := decide_eq_true hq
  obtain ⟨hq1, hq2⟩ := hq
  have hq10 : (lq : Int) ≤ (10 : Int) := by omega
  have HR := Lib.hid hR
  clear hR
  go_enter Tryz.func6, Tryz.ntmps6
  go_wp2_with (first
    | (go_at_call 15; refine (short_w _ _ _ _ _ _ _ hls hlt).mono ?_; rw [hsh]; rintro e w1 ⟨rfl, hb1⟩; obtain ⟨x1, x2, x3⟩ := BX.out _ hb1)
    | (go_at_call 19; refine (right_w _ _ _ _ _ _ s t _ (by omega) (by omega) (Lib.hid (HN.out _ hb1).out.hs) (Lib.hid (HN.out _ hb1).out.ht)).mono ?_; rintro e w2 ⟨⟨rb, rfl, hrb⟩, hb2⟩; obtain rfl : rb = false := (by cases rb <;> first | rfl | exact (HR.out (hrb.1 rfl)).elim); clear hrb; have hb12 := hb1.trans (hb2.mono hb1.size); clear x1 x2 x3; obtain ⟨x1, x2, x3⟩ := BX.out _ hb12)
    | (go_at_call 16; refine (K.out _).mono ?_; rintro e w11 ⟨rfl, hb11⟩))
  go_ret
  exact ⟨rfl, below_al (hb12.trans (hb11.mono hb12.size))⟩

set_option maxRecDepth 100000 in
set_option maxHeartbeats 4000000 in
theorem lawr_d (sa ta sq sr : Option Addr) (ls cs lt ct lq cq lr cr : Nat) (s : Nat → Int) (t : Nat → St5) (g r : Nat → Int) (w : World) (hls : ls ≤ maxLen) (hlt : lt ≤ maxLen) (hlq : lq ≤ maxLen) (hlr : lr ≤ maxLen) (H0 : AnyLine w sa ta ls lt s t) (HS0 : IntSl w sq lq g) (HR0 : IntSl w sr lr r) (K : Hid KnownOk)
    (hq : ls ≤ 13 ∧ lt ≤ 10) (hb : lq ≤ 10) (hR : RightP ls lt s t) (hQ : ¬ AgeP lt lq g) :
    Calls Tryz.prog 6 #[.agg #[.slice sa ls cs, .slice ta lt ct], .slice sq lq cq, .slice sr lr cr] w
      fun e w' => e = .returned (.bool true) ∧ Below w.heap.size w w' := by
  have BX := Lib.hid (fun (w1 : World) (hb : Below (w.alloc (.cells #[.slice sa ls cs, .slice ta lt ct] 25)).heap.size (w.alloc (.cells #[.slice sa ls cs, .slice ta lt ct] 25)) w1) => box_cells hb)
  have HN : Hid (∀ w1, Below (w.alloc (.cells #[.slice sa ls cs, .slice ta lt ct] 25)).heap.size (w.alloc (.cells #[.slice sa ls cs, .slice ta lt ct] 25)) w1 → Hid (AnyLine w1 sa ta ls lt s t)) := Lib.hid fun w1 h => Lib.hid (H0.below (below_al h))
  have HI : Hid (∀ w1, Below (w.alloc (.cells #[.slice sa ls cs, .slice ta lt ct] 25)).heap.size (w.alloc (.cells #[.slice sa ls cs, .slice ta lt ct] 25)) w1 → Hid (IntSl w1 sq lq g)) := Lib.hid fun w1 h => Lib.hid (HS0.below (below_al h))
  clear H0 HS0 HR0
  have hsh : decide (ls ≤ 13 ∧ lt ≤ 10) = true := decide_eq_true hq
  obtain ⟨hq1, hq2⟩ := hq
  have hq10 : (lq : Int) ≤ (10 : Int) := by omega
  have HR := Lib.hid hR
  clear hR
  have HQ := Lib.hid hQ
  clear hQ
  go_enter Tryz.func6, Tryz.ntmps6
  go_wp2_with (first
    | (go_at_call 15; refine (short_w _ _ _ _ _ _ _ hls hlt).mono ?_; rw [hsh]; rintro e w1 ⟨rfl, hb1⟩; obtain ⟨x1, x2, x3⟩ := BX.out _ hb1)
    | (go_at_call 19; refine (right_w _ _ _ _ _ _ s t _ (by omega) (by omega) (Lib.hid (HN.out _ hb1).out.hs) (Lib.hid (HN.out _ hb1).out.ht)).mono ?_; rintro e w2 ⟨⟨rb, rfl, hrb⟩, hb2⟩; obtain rfl : rb = true := hrb.2 HR.out; clear hrb; have hb12 := hb1.trans (hb2.mono hb1.size); clear x1 x2 x3; obtain ⟨x1, x2, x3⟩ := BX.out _ hb12)
    | (go_at_call 26; refine (refAges_w _ _ _ _ _ _ _ g _ (by omega) hlq (HI.out _ hb12)).mono ?_; rintro e w3 ⟨⟨rb, rfl, hrb⟩, hb3⟩; obtain rfl : rb = false := (by cases rb <;> first | rfl | exact (HQ.out (hrb.1 rfl)).elim); clear hrb; have hb13 := hb12.trans (hb3.mono hb12.size); clear x1 x2 x3; obtain ⟨x1, x2, x3⟩ := BX.out _ hb13)
    | (go_at_call 16; refine (K.out _).mono ?_; rintro e w11 ⟨rfl, hb11⟩))
  go_ret
  exact ⟨rfl, below_al (hb13.trans (hb11.mono hb13.size))⟩

set_option maxRecDepth 100000 in
set_option maxHeartbeats 4000000 in
theorem lawr_e (A O C P : Nat) (sq sr : Option Addr) (ls cs lt ct lq cq lr cr : Nat) (s : Nat → Int) (t : Nat → St5) (g r : Nat → Int) (w : World) (hlq : lq ≤ maxLen) (hlr : lr ≤ maxLen) (H : Hid (LineAt w A O C P ls lt s t)) (HS0 : IntSl w sq lq g) (HR0 : IntSl w sr lr r) (K : Hid KnownOk)
    (HQ : Hid (AgeP lt lq g)) (HP : Hid (¬ RateP lt lr t r)) :
    Calls Tryz.prog 6 #[.agg #[.slice (some ⟨A, O, none⟩) ls cs, .slice (some ⟨C, P, none⟩) lt ct], .slice sq lq cq, .slice sr lr cr] w
      fun e w' => e = .returned (.bool true) ∧ Below w.heap.size w w' := by
  have BX := Lib.hid (fun (w1 : World) (hb : Below (w.alloc (.cells #[.slice (some ⟨A, O, none⟩) ls cs, .slice (some ⟨C, P, none⟩) lt ct] 25)).heap.size (w.alloc (.cells #[.slice (some ⟨A, O, none⟩) ls cs, .slice (some ⟨C, P, none⟩) lt ct] 25)) w1) => box_cells hb)
  have hls' := H.out.ls2
  have hlt' := H.out.lt2
  have hls : ls ≤ maxLen := by unfold maxLen; omega
  have hlt : lt ≤ maxLen := by unfold maxLen; omega
  have hq10 : (lq : Int) ≤ (10 : Int) := by have := HQ.out.eq; omega
  have HR : Hid (RightP ls lt s t) := Lib.hid ⟨H.out.ls1, H.out.ls2, H.out.lt1, H.out.lt2, H.out.sok, H.out.tok⟩
  have hsh : decide (ls ≤ 13 ∧ lt ≤ 10) = true := by simp; omega
  have HL : Hid (∀ w1, Below (w.alloc (.cells #[.slice (some ⟨A, O, none⟩) ls cs, .slice (some ⟨C, P, none⟩) lt ct] 25)).heap.size (w.alloc (.cells #[.slice (some ⟨A, O, none⟩) ls cs, .slice (some ⟨C, P, none⟩) lt ct] 25)) w1 → LineAt w1 A O C P ls lt s t) := Lib.hid fun w1 h => H.out.below (below_al h)
  have HN : Hid (∀ w1, Below (w.alloc (.cells #[.slice (some ⟨A, O, none⟩) ls cs, .slice (some ⟨C, P, none⟩) lt ct] 25)).heap.size (w.alloc (.cells #[.slice (some ⟨A, O, none⟩) ls cs, .slice (some ⟨C, P, none⟩) lt ct] 25)) w1 → Hid (AnyLine w1 (some ⟨A, O, none⟩) (some ⟨C, P, none⟩) ls lt s t)) := Lib.hid fun w1 h => Lib.hid ⟨.inr ⟨A, O, rfl, (HL.out w1 h).hA, (HL.out w1 h).sp⟩, .inr ⟨C, P, rfl, (HL.out w1 h).hC, (HL.out w1 h).st⟩⟩
  have HI : Hid (∀ w1, Below (w.alloc (.cells #[.slice (some ⟨A, O, none⟩) ls cs, .slice (some ⟨C, P, none⟩) lt ct] 25)).heap.size (w.alloc (.cells #[.slice (some ⟨A, O, none⟩) ls cs, .slice (some ⟨C, P, none⟩) lt ct] 25)) w1 → Hid (IntSl w1 sq lq g)) := Lib.hid fun w1 h => Lib.hid (HS0.below (below_al h))
  have HJ : Hid (∀ w1, Below (w.alloc (.cells #[.slice (some ⟨A, O, none⟩) ls cs, .slice (some ⟨C, P, none⟩) lt ct] 25)).heap.size (w.alloc (.cells #[.slice (some ⟨A, O, none⟩) ls cs, .slice (some ⟨C, P, none⟩) lt ct] 25)) w1 → Hid (IntSl w1 sr lr r)) := Lib.hid fun w1 h => Lib.hid (HR0.below (below_al h))
  clear HS0 HR0
  go_enter Tryz.func6, Tryz.ntmps6
  go_wp2_with (first
    | (go_at_call 15; refine (short_w _ _ _ _ _ _ _ hls hlt).mono ?_; rw [hsh]; rintro e w1 ⟨rfl, hb1⟩; obtain ⟨x1, x2, x3⟩ := BX.out _ hb1)
    | (go_at_call 19; refine (right_w _ _ _ _ _ _ s t _ (by omega) (by omega) (Lib.hid (HN.out _ hb1).out.hs) (Lib.hid (HN.out _ hb1).out.ht)).mono ?_; rintro e w2 ⟨⟨rb, rfl, hrb⟩, hb2⟩; obtain rfl : rb = true := hrb.2 HR.out; clear hrb; have hb12 := hb1.trans (hb2.mono hb1.size); clear x1 x2 x3; obtain ⟨x1, x2, x3⟩ := BX.out _ hb12)
    | (go_at_call 26; refine (refAges_w _ _ _ _ _ _ _ g _ (by omega) hlq (HI.out _ hb12)).mono ?_; rintro e w3 ⟨⟨rb, rfl, hrb⟩, hb3⟩; obtain rfl : rb = true := hrb.2 HQ.out; clear hrb; have hb13 := hb12.trans (hb3.mono hb12.size); clear x1 x2 x3; obtain ⟨x1, x2, x3⟩ := BX.out _ hb13)
    | (go_at_call 30; refine (rated_w _ _ _ _ _ _ _ _ _ _ _ s t r _ (Lib.hid (HL.out _ hb13)) hlr (HJ.out _ hb13)).mono ?_; rintro e w4 ⟨⟨rb, rfl, hrb⟩, hb4⟩; obtain rfl : rb = false := (by cases rb <;> first | rfl | exact (HP.out (hrb.1 rfl)).elim); clear hrb; have hb14 := hb13.trans (hb4.mono hb13.size); clear x1 x2 x3; obtain ⟨x1, x2, x3⟩ := BX.out _ hb14)
    | (go_at_call 16; refine (K.out _).mono ?_; rintro e w11 ⟨rfl, hb11⟩))
  go_ret
  exact ⟨rfl, below_al (hb14.trans (hb11.mono hb14.size))⟩
end Go.Kn

namespace Go.Kn
open Go Go.Proofs Go.RowKit

/-- what stretch k carries at its age and true rate -/
def actOf (s : Nat → Int) (t : Nat → St5) (g r : Nat → Int) (k : Nat) : Int := cupsL s (t k) (g k) (r k)

theorem pick_mem {b : Nat → Bool} : ∀ (n : Nat) (x : Int), x ∈ pick b n ↔ ∃ j : Nat, x = (j : Int) ∧ j < n ∧ b j = true := by
  intro n
  induction n with
  | zero => intro x; constructor
            · intro h; simp [pick] at h
            · rintro ⟨j, _, h, _⟩; omega
  | succ n ih =>
    intro x
    cases e : b n
    · rw [pick_f e, ih]
      constructor
      · rintro ⟨j, h1, h2, h3⟩; exact ⟨j, h1, by omega, h3⟩
      · rintro ⟨j, h1, h2, h3⟩
        refine ⟨j, h1, ?_, h3⟩
        by_cases h : j = n
        · rw [h, e] at h3; cases h3
        · omega
    · rw [pick_t e]
      simp only [List.mem_append, List.mem_singleton]
      rw [ih]
      constructor
      · rintro (⟨j, h1, h2, h3⟩ | h)
        · exact ⟨j, h1, by omega, h3⟩
        · exact ⟨n, h, by omega, e⟩
      · rintro ⟨j, h1, h2, h3⟩
        by_cases h : j = n
        · exact .inr (by rw [h1, h])
        · exact .inl ⟨j, h1, by omega, h3⟩

theorem pick_sorted {b : Nat → Bool} : ∀ n : Nat, List.Pairwise (· < ·) (pick b n) := by
  intro n
  induction n with
  | zero => simp [pick]
  | succ n ih =>
    cases e : b n
    · rw [pick_f e]; exact ih
    · rw [pick_t e, List.pairwise_append]
      refine ⟨ih, by simp, ?_⟩
      intro x hx y hy
      obtain ⟨j, rfl, hj, _⟩ := (pick_mem n x).1 hx
      simp at hy
      subst hy
      omega

theorem pick_get {b : Nat → Bool} {n k : Nat} (hk : k < (pick b n).length) : ∃ j : Nat, (pick b n).getD k 0 = (j : Int) ∧ j < n ∧ b j = true := by
  have h : (pick b n).getD k 0 ∈ pick b n := by
    simp [List.getD, List.getElem?_eq_getElem hk]
  exact (pick_mem n _).1 h

theorem pick_lt {b : Nat → Bool} {n k : Nat} (hk : k + 1 < (pick b n).length) : (pick b n).getD k 0 < (pick b n).getD (k + 1) 0 := by
  have h := List.pairwise_iff_getElem.1 (pick_sorted (b := b) n) k (k + 1) (by omega) hk (by omega)
  simpa [List.getD, List.getElem?_eq_getElem hk, List.getElem?_eq_getElem (show k < (pick b n).length by omega)] using h

theorem act_between {w : World} {A O C P ls lt : Nat} {s : Nat → Int} {t : Nat → St5} {g r : Nat → Int} (H : LineAt w A O C P ls lt s t) (hQ : AgeP lt lt g) (hP : RateP lt lt t r) (k : Nat) (hk : k < lt) :
    (carOf s t g k).lo ≤ actOf s t g r k ∧ actOf s t g r k ≤ (carOf s t g k).hi ∧ (0 ≤ r k ∧ r k ≤ 100) ∧ (0 ≤ (t k).lo ∧ (t k).lo ≤ 100) ∧ (0 ≤ (t k).hi ∧ (t k).hi ≤ 100) := by
  obtain ⟨h1, h2⟩ := hP.ok k hk
  have ha := hQ.ok k hk
  simp only [fromB, decide_eq_true_eq] at ha
  obtain ⟨b1, b2, ⟨hf0, hf, hfe⟩, b4, b5⟩ := H.bds hk
  have hs := H.sok (t k).f.toNat (by omega)
  simp only [fromB, decide_eq_true_eq] at hs
  refine ⟨cupsL_mono (by omega) (by omega) h2 ha.1 (Int.le_refl _), cupsL_mono (by omega) (by omega) h1 ha.1 (Int.le_refl _), ?_, ?_, ?_⟩ <;> omega

theorem bmin_leq (f : Nat → Int) {n : Nat} (h : 1 ≤ n) {j : Nat} (hj : j < n) : bmin (upto f n) ≤ f j := (le_bmin f _ n h).1 (Int.le_refl _) j hj

theorem act_min {w : World} {A O C P ls lt : Nat} {s : Nat → Int} {t : Nat → St5} {g r : Nat → Int} {La Lb : Int} (H : LineAt w A O C P ls lt s t) (hQ : AgeP lt lt g) (hP : RateP lt lt t r) (HLA : La = bmin (upto (fun j => (carOf s t g j).lo) lt)) (HLB : Lb = bmin (upto (fun j => (carOf s t g j).hi) lt)) :
    La ≤ bmin (upto (actOf s t g r) lt) ∧ bmin (upto (actOf s t g r) lt) ≤ Lb := by
  have h0 := H.lt1
  constructor
  · rw [le_bmin _ _ _ h0]
    intro j hj
    have h1 := bmin_leq (fun j => (carOf s t g j).lo) h0 hj
    rw [← HLA] at h1
    have := (act_between H hQ hP j hj).1
    omega
  · rw [HLB, le_bmin _ _ _ h0]
    intro j hj
    have h1 := bmin_leq (actOf s t g r) h0 hj
    have := (act_between H hQ hP j hj).2.1
    omega

/-- the stretch that carries least is in the list -/
theorem least_in {w : World} {A O C P ls lt : Nat} {s : Nat → Int} {t : Nat → St5} {g r : Nat → Int} {La Lb : Int} (H : LineAt w A O C P ls lt s t) (hQ : AgeP lt lt g) (hP : RateP lt lt t r) (HLA : La = bmin (upto (fun j => (carOf s t g j).lo) lt)) (HLB : Lb = bmin (upto (fun j => (carOf s t g j).hi) lt)) (k : Nat) (hk : k < lt) (he : actOf s t g r k = bmin (upto (actOf s t g r) lt)) :
    narB s t g Lb k = true := by
  have h1 := (act_min H hQ hP HLA HLB).2
  have h2 := (act_between H hQ hP k hk).1
  simp only [narB, decide_eq_true_eq]
  omega

/-- no other stretch surely carries less than one of the list -/
theorem none_under {lt : Nat} {s : Nat → Int} {t : Nat → St5} {g : Nat → Int} {Lb : Int} (h0 : 1 ≤ lt) (HLB : Lb = bmin (upto (fun j => (carOf s t g j).hi) lt)) {k i : Nat} (hb : narB s t g Lb k = true) (hi : i < lt) :
    cupsL s (t k) (g k) (t k).hi ≤ cupsL s (t i) (g i) (t i).lo := by
  have h1 := bmin_leq (fun j => (carOf s t g j).hi) h0 hi
  rw [← HLB] at h1
  simp only [narB, decide_eq_true_eq] at hb
  exact Int.le_trans hb h1
end Go.Kn

namespace Go.Kn
open Go Go.Proofs Go.RowKit

theorem met_step {w8 : World} {M lt m : Nat} {f : Nat → Nat} (hr : RowAt w8 M lt) (hj : f m < lt) (h : ∀ j, j < m → w8.cell? ⟨M, f j, none⟩ = some (.bool true)) :
    ∀ j, j < m + 1 → (w8.setCell ⟨M, f m, none⟩ (.bool true)).cell? ⟨M, f j, none⟩ = some (.bool true) := by
  intro j hjm
  by_cases e : f j = f m
  · rw [e]
    obtain ⟨v, hv⟩ := (hr.2 _ hj).1
    exact World.cell?_setCell_same' _ _ _ (by rw [hv]; rfl)
  · refine (World.cell?_setCell_other _ _ _ _ (by intro h9; exact e (congrArg Addr.off h9).symm)).trans (h j ?_)
    by_cases e2 : j = m
    · subst e2; exact (e rfl).elim
    · omega
theorem wr_small (p : Nat) (h : p ≤ 1000) : wrap64 (p : Int) = (p : Int) := IntWalk.wrap64_in _ ⟨by omega, by omega⟩
theorem wrp_small (p : Nat) (h : p ≤ 1000) : IntKind.i64.wrap (p : Int) = (p : Int) := by
  first
    | exact wr_small p h
    | (rw [IntKind.wrap_i64]; omega)
end Go.Kn
