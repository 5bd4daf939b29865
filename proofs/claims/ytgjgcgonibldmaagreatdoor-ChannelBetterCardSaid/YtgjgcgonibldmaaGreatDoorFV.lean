/- Walks of functions of layer 2 (contracts that the laws of this seat use). Conditions: as each theorem states them. -/
import Derived.Test.YtgjgcgonibldmaaGreatDoorFU
import Derived.Test.YtgjgcgonibldmaaGreatDoorFB
set_option linter.unusedVariables false
set_option linter.unusedSimpArgs false
namespace Go.Kn
open Go Go.Proofs Go.RowKit

theorem no_plan {n m : Nat} {bN du : Nat → Bool} {la : Nat → Int} (h : (∃ i, i < n ∧ bN i = false) ∨ NoYears (lst du la n) []) (q : Nat → Int) : ¬ (m = n ∧ ∀ j, j < n → PlAt bN du la q j) := by
  rintro ⟨_, hq⟩
  obtain ⟨h1, h2⟩ := plAt_all.mp hq
  rcases h with ⟨i, hi, hb⟩ | h
  · rw [h1 i hi] at hb; cases hb
  · exact plan_none h q h2

theorem pbefore_w' (p p' : Option Addr) (n n' c c' : Nat) (a b : Nat → Int) (w : World) (he : n = n') (hn : n' ≤ 10) (H : Hid (IntSl w p n a)) (H' : Hid (IntSl w p' n' b)) :
    Calls Tryz.prog 22 #[.slice p n c, .slice p' n' c'] w fun e w' => (∃ bb, e = .returned (.bool bb) ∧ (bb = true → befP n' a b)) ∧ Below w.heap.size w w' := by
  subst he
  exact pbefore_w p p' n c c' a b w hn H H'

set_option maxRecDepth 100000 in
set_option maxHeartbeats 2000000 in
theorem lawbe_a (sa ta sq so : Option Addr) (ls cs lt ct lq cq lo co : Nat) (s : Nat → Int) (t : Nat → St5) (g q : Nat → Int) (nd un : Int) (w : World) (hls : ls ≤ maxLen) (hlt : lt ≤ maxLen) (hlq : lq ≤ maxLen) (H : Hid (AnyLine w sa ta ls lt s t)) (HS : Hid (IntSl w sq lq g)) (K : Hid KnownOk) (hq : ¬ (ls ≤ 13 ∧ lt ≤ 10)) :
    Calls Tryz.prog 5 #[.agg #[.slice sa ls cs, .slice ta lt ct], .slice sq lq cq, .int .i64 nd, .int .i64 un, .slice so lo co] w
      fun e w' => e = .returned (.bool true) ∧ Below w.heap.size w w' := by
  have hsh : decide (ls ≤ 13 ∧ lt ≤ 10) = false := decide_eq_false hq
  have BX := Lib.hid (fun (w1 : World) (hb : Below (w.alloc (.cells #[.slice sa ls cs, .slice ta lt ct] 25)).heap.size (w.alloc (.cells #[.slice sa ls cs, .slice ta lt ct] 25)) w1) => box_cells hb)
  have HN : Hid (∀ w1, Below (w.alloc (.cells #[.slice sa ls cs, .slice ta lt ct] 25)).heap.size (w.alloc (.cells #[.slice sa ls cs, .slice ta lt ct] 25)) w1 → Hid (AnyLine w1 sa ta ls lt s t)) := Lib.hid fun w1 h => Lib.hid (H.out.below (below_al h))
  have HI : Hid (∀ w1, Below (w.alloc (.cells #[.slice sa ls cs, .slice ta lt ct] 25)).heap.size (w.alloc (.cells #[.slice sa ls cs, .slice ta lt ct] 25)) w1 → Hid (IntSl w1 sq lq g)) := Lib.hid fun w1 h => Lib.hid (HS.out.below (below_al h))
  have hb : Below (w.alloc (.cells #[.slice sa ls cs, .slice ta lt ct] 25)).heap.size (w.alloc (.cells #[.slice sa ls cs, .slice ta lt ct] 25)) (w.alloc (.cells #[.slice sa ls cs, .slice ta lt ct] 25)) := Below.refl _ _
  obtain ⟨x1, x2, x3⟩ := BX.out _ hb
  clear H HS
  go_enter Tryz.func5, Tryz.ntmps5
  go_wp2_with (first
    | (go_at_call 6; refine (short_w _ _ _ _ _ _ _ hls hlt).mono ?_; rw [hsh]; rintro e wl ⟨rfl, hv⟩; replace hb := hb.trans (hv.mono hb.size); clear x1 x2 x3; obtain ⟨x1, x2, x3⟩ := BX.out _ hb)
    | (go_at_call 7; refine (K.out _).mono ?_; rintro e wl ⟨rfl, hv⟩; replace hb := hb.trans (hv.mono hb.size); clear x1 x2 x3; obtain ⟨x1, x2, x3⟩ := BX.out _ hb)    )
  go_ret
  exact ⟨rfl, below_al hb⟩

set_option maxRecDepth 100000 in
set_option maxHeartbeats 2000000 in
theorem lawbe_b (sa ta sq so : Option Addr) (ls cs lt ct lq cq lo co : Nat) (s : Nat → Int) (t : Nat → St5) (g q : Nat → Int) (nd un : Int) (w : World) (hls : ls ≤ 1000000) (hlt : lt ≤ 1000000) (hlq : lq ≤ maxLen) (H : Hid (AnyLine w sa ta ls lt s t)) (HS : Hid (IntSl w sq lq g)) (K : Hid KnownOk) (hq : ls ≤ 13 ∧ lt ≤ 10) (hqq : ¬ lq ≤ 10) :
    Calls Tryz.prog 5 #[.agg #[.slice sa ls cs, .slice ta lt ct], .slice sq lq cq, .int .i64 nd, .int .i64 un, .slice so lo co] w
      fun e w' => e = .returned (.bool true) ∧ Below w.heap.size w w' := by
  have hsh : decide (ls ≤ 13 ∧ lt ≤ 10) = true := decide_eq_true hq
  have hq10 : (10 : Int) < (lq : Int) := by omega
  have BX := Lib.hid (fun (w1 : World) (hb : Below (w.alloc (.cells #[.slice sa ls cs, .slice ta lt ct] 25)).heap.size (w.alloc (.cells #[.slice sa ls cs, .slice ta lt ct] 25)) w1) => box_cells hb)
  have HN : Hid (∀ w1, Below (w.alloc (.cells #[.slice sa ls cs, .slice ta lt ct] 25)).heap.size (w.alloc (.cells #[.slice sa ls cs, .slice ta lt ct] 25)) w1 → Hid (AnyLine w1 sa ta ls lt s t)) := Lib.hid fun w1 h => Lib.hid (H.out.below (below_al h))
  have HI : Hid (∀ w1, Below (w.alloc (.cells #[.slice sa ls cs, .slice ta lt ct] 25)).heap.size (w.alloc (.cells #[.slice sa ls cs, .slice ta lt ct] 25)) w1 → Hid (IntSl w1 sq lq g)) := Lib.hid fun w1 h => Lib.hid (HS.out.below (below_al h))
  have hb : Below (w.alloc (.cells #[.slice sa ls cs, .slice ta lt ct] 25)).heap.size (w.alloc (.cells #[.slice sa ls cs, .slice ta lt ct] 25)) (w.alloc (.cells #[.slice sa ls cs, .slice ta lt ct] 25)) := Below.refl _ _
  obtain ⟨x1, x2, x3⟩ := BX.out _ hb
  clear H HS
  go_enter Tryz.func5, Tryz.ntmps5
  go_wp2_with (first
    | (go_at_call 6; refine (short_w _ _ _ _ _ _ _ (by unfold maxLen; omega) (by unfold maxLen; omega)).mono ?_; rw [hsh]; rintro e wl ⟨rfl, hv⟩; replace hb := hb.trans (hv.mono hb.size); clear x1 x2 x3; obtain ⟨x1, x2, x3⟩ := BX.out _ hb)
    | (go_at_call 7; refine (K.out _).mono ?_; rintro e wl ⟨rfl, hv⟩; replace hb := hb.trans (hv.mono hb.size); clear x1 x2 x3; obtain ⟨x1, x2, x3⟩ := BX.out _ hb)    )
  go_ret
  exact ⟨rfl, below_al hb⟩

set_option maxRecDepth 100000 in
set_option maxHeartbeats 2000000 in
theorem lawbe_b2 (sa ta sq so : Option Addr) (ls cs lt ct lq cq lo co : Nat) (s : Nat → Int) (t : Nat → St5) (g q : Nat → Int) (nd un : Int) (w : World) (hls : ls ≤ 1000000) (hlt : lt ≤ 1000000) (hlq : lq ≤ maxLen) (H : Hid (AnyLine w sa ta ls lt s t)) (HS : Hid (IntSl w sq lq g)) (K : Hid KnownOk) (hq : ls ≤ 13 ∧ lt ≤ 10) (hqq : lq ≤ 10) (hoo : ¬ lo ≤ 10) :
    Calls Tryz.prog 5 #[.agg #[.slice sa ls cs, .slice ta lt ct], .slice sq lq cq, .int .i64 nd, .int .i64 un, .slice so lo co] w
      fun e w' => e = .returned (.bool true) ∧ Below w.heap.size w w' := by
  have hsh : decide (ls ≤ 13 ∧ lt ≤ 10) = true := decide_eq_true hq
  have hq10 : ¬ ((10 : Int) < (lq : Int)) := by omega
  have ho10 : (10 : Int) < (lo : Int) := by omega
  have BX := Lib.hid (fun (w1 : World) (hb : Below (w.alloc (.cells #[.slice sa ls cs, .slice ta lt ct] 25)).heap.size (w.alloc (.cells #[.slice sa ls cs, .slice ta lt ct] 25)) w1) => box_cells hb)
  have HN : Hid (∀ w1, Below (w.alloc (.cells #[.slice sa ls cs, .slice ta lt ct] 25)).heap.size (w.alloc (.cells #[.slice sa ls cs, .slice ta lt ct] 25)) w1 → Hid (AnyLine w1 sa ta ls lt s t)) := Lib.hid fun w1 h => Lib.hid (H.out.below (below_al h))
  have HI : Hid (∀ w1, Below (w.alloc (.cells #[.slice sa ls cs, .slice ta lt ct] 25)).heap.size (w.alloc (.cells #[.slice sa ls cs, .slice ta lt ct] 25)) w1 → Hid (IntSl w1 sq lq g)) := Lib.hid fun w1 h => Lib.hid (HS.out.below (below_al h))
  have hb : Below (w.alloc (.cells #[.slice sa ls cs, .slice ta lt ct] 25)).heap.size (w.alloc (.cells #[.slice sa ls cs, .slice ta lt ct] 25)) (w.alloc (.cells #[.slice sa ls cs, .slice ta lt ct] 25)) := Below.refl _ _
  obtain ⟨x1, x2, x3⟩ := BX.out _ hb
  clear H HS
  go_enter Tryz.func5, Tryz.ntmps5
  go_wp2_with (first
    | (go_at_call 6; refine (short_w _ _ _ _ _ _ _ (by unfold maxLen; omega) (by unfold maxLen; omega)).mono ?_; rw [hsh]; rintro e wl ⟨rfl, hv⟩; replace hb := hb.trans (hv.mono hb.size); clear x1 x2 x3; obtain ⟨x1, x2, x3⟩ := BX.out _ hb)
    | (go_at_call 7; refine (K.out _).mono ?_; rintro e wl ⟨rfl, hv⟩; replace hb := hb.trans (hv.mono hb.size); clear x1 x2 x3; obtain ⟨x1, x2, x3⟩ := BX.out _ hb)    )
  go_ret
  exact ⟨rfl, below_al hb⟩

set_option maxRecDepth 100000 in
set_option maxHeartbeats 2000000 in
theorem lawbe_c (sa ta sq so : Option Addr) (ls cs lt ct lq cq lo co : Nat) (s : Nat → Int) (t : Nat → St5) (g q : Nat → Int) (nd un : Int) (w : World) (hls : ls ≤ 1000000) (hlt : lt ≤ 1000000) (hlq : lq ≤ maxLen) (H : Hid (AnyLine w sa ta ls lt s t)) (HS : Hid (IntSl w sq lq g)) (K : Hid KnownOk) (hq : ls ≤ 13 ∧ lt ≤ 10) (hqq : lq ≤ 10) (hoo : lo ≤ 10) (HR : Hid (¬ RightP ls lt s t)) :
    Calls Tryz.prog 5 #[.agg #[.slice sa ls cs, .slice ta lt ct], .slice sq lq cq, .int .i64 nd, .int .i64 un, .slice so lo co] w
      fun e w' => e = .returned (.bool true) ∧ Below w.heap.size w w' := by
  have hsh : decide (ls ≤ 13 ∧ lt ≤ 10) = true := decide_eq_true hq
  have hq10 : ¬ ((10 : Int) < (lq : Int)) := by omega
  have ho10 : ¬ ((10 : Int) < (lo : Int)) := by omega
  have BX := Lib.hid (fun (w1 : World) (hb : Below (w.alloc (.cells #[.slice sa ls cs, .slice ta lt ct] 25)).heap.size (w.alloc (.cells #[.slice sa ls cs, .slice ta lt ct] 25)) w1) => box_cells hb)
  have HN : Hid (∀ w1, Below (w.alloc (.cells #[.slice sa ls cs, .slice ta lt ct] 25)).heap.size (w.alloc (.cells #[.slice sa ls cs, .slice ta lt ct] 25)) w1 → Hid (AnyLine w1 sa ta ls lt s t)) := Lib.hid fun w1 h => Lib.hid (H.out.below (below_al h))
  have HI : Hid (∀ w1, Below (w.alloc (.cells #[.slice sa ls cs, .slice ta lt ct] 25)).heap.size (w.alloc (.cells #[.slice sa ls cs, .slice ta lt ct] 25)) w1 → Hid (IntSl w1 sq lq g)) := Lib.hid fun w1 h => Lib.hid (HS.out.below (below_al h))
  have hb : Below (w.alloc (.cells #[.slice sa ls cs, .slice ta lt ct] 25)).heap.size (w.alloc (.cells #[.slice sa ls cs, .slice ta lt ct] 25)) (w.alloc (.cells #[.slice sa ls cs, .slice ta lt ct] 25)) := Below.refl _ _
  obtain ⟨x1, x2, x3⟩ := BX.out _ hb
  clear H HS
  go_enter Tryz.func5, Tryz.ntmps5
  go_wp2_with (first
    | (go_at_call 6; refine (short_w _ _ _ _ _ _ _ (by unfold maxLen; omega) (by unfold maxLen; omega)).mono ?_; rw [hsh]; rintro e wl ⟨rfl, hv⟩; replace hb := hb.trans (hv.mono hb.size); clear x1 x2 x3; obtain ⟨x1, x2, x3⟩ := BX.out _ hb)
    | (go_at_call 10; refine (right_w _ _ _ _ _ _ s t _ hls hlt (Lib.hid (HN.out _ hb).out.hs) (Lib.hid (HN.out _ hb).out.ht)).mono ?_; rintro e wl ⟨⟨rb, rfl, hrb⟩, hv⟩; obtain rfl : rb = false := (by cases rb <;> first | rfl | exact (HR.out (hrb.1 rfl)).elim); clear hrb; replace hb := hb.trans (hv.mono hb.size); clear x1 x2 x3; obtain ⟨x1, x2, x3⟩ := BX.out _ hb)
    | (go_at_call 7; refine (K.out _).mono ?_; rintro e wl ⟨rfl, hv⟩; replace hb := hb.trans (hv.mono hb.size); clear x1 x2 x3; obtain ⟨x1, x2, x3⟩ := BX.out _ hb)    )
  go_ret
  exact ⟨rfl, below_al hb⟩

set_option maxRecDepth 100000 in
set_option maxHeartbeats 2000000 in
theorem lawbe_d (sa ta sq so : Option Addr) (ls cs lt ct lq cq lo co : Nat) (s : Nat → Int) (t : Nat → St5) (g q : Nat → Int) (nd un : Int) (w : World) (hls : ls ≤ 1000000) (hlt : lt ≤ 1000000) (hlq : lq ≤ maxLen) (H : Hid (AnyLine w sa ta ls lt s t)) (HS : Hid (IntSl w sq lq g)) (K : Hid KnownOk) (hq : ls ≤ 13 ∧ lt ≤ 10) (hqq : lq ≤ 10) (hoo : lo ≤ 10) (HR : Hid (RightP ls lt s t)) (HQ : Hid (¬ AgeP lt lq g)) :
    Calls Tryz.prog 5 #[.agg #[.slice sa ls cs, .slice ta lt ct], .slice sq lq cq, .int .i64 nd, .int .i64 un, .slice so lo co] w
      fun e w' => e = .returned (.bool true) ∧ Below w.heap.size w w' := by
  have hsh : decide (ls ≤ 13 ∧ lt ≤ 10) = true := decide_eq_true hq
  have hq10 : ¬ ((10 : Int) < (lq : Int)) := by omega
  have ho10 : ¬ ((10 : Int) < (lo : Int)) := by omega
  have BX := Lib.hid (fun (w1 : World) (hb : Below (w.alloc (.cells #[.slice sa ls cs, .slice ta lt ct] 25)).heap.size (w.alloc (.cells #[.slice sa ls cs, .slice ta lt ct] 25)) w1) => box_cells hb)
  have HN : Hid (∀ w1, Below (w.alloc (.cells #[.slice sa ls cs, .slice ta lt ct] 25)).heap.size (w.alloc (.cells #[.slice sa ls cs, .slice ta lt ct] 25)) w1 → Hid (AnyLine w1 sa ta ls lt s t)) := Lib.hid fun w1 h => Lib.hid (H.out.below (below_al h))
  have HI : Hid (∀ w1, Below (w.alloc (.cells #[.slice sa ls cs, .slice ta lt ct] 25)).heap.size (w.alloc (.cells #[.slice sa ls cs, .slice ta lt ct] 25)) w1 → Hid (IntSl w1 sq lq g)) := Lib.hid fun w1 h => Lib.hid (HS.out.below (below_al h))
  have hb : Below (w.alloc (.cells #[.slice sa ls cs, .slice ta lt ct] 25)).heap.size (w.alloc (.cells #[.slice sa ls cs, .slice ta lt ct] 25)) (w.alloc (.cells #[.slice sa ls cs, .slice ta lt ct] 25)) := Below.refl _ _
  obtain ⟨x1, x2, x3⟩ := BX.out _ hb
  clear H HS
  go_enter Tryz.func5, Tryz.ntmps5
  go_wp2_with (first
    | (go_at_call 6; refine (short_w _ _ _ _ _ _ _ (by unfold maxLen; omega) (by unfold maxLen; omega)).mono ?_; rw [hsh]; rintro e wl ⟨rfl, hv⟩; replace hb := hb.trans (hv.mono hb.size); clear x1 x2 x3; obtain ⟨x1, x2, x3⟩ := BX.out _ hb)
    | (go_at_call 10; refine (right_w _ _ _ _ _ _ s t _ hls hlt (Lib.hid (HN.out _ hb).out.hs) (Lib.hid (HN.out _ hb).out.ht)).mono ?_; rintro e wl ⟨⟨rb, rfl, hrb⟩, hv⟩; obtain rfl : rb = true := hrb.2 HR.out; clear hrb; replace hb := hb.trans (hv.mono hb.size); clear x1 x2 x3; obtain ⟨x1, x2, x3⟩ := BX.out _ hb)
    | (go_at_call 15; refine (refAges_w _ _ _ _ _ _ _ g _ hlt hlq (HI.out _ hb)).mono ?_; rintro e wl ⟨⟨rb, rfl, hrb⟩, hv⟩; obtain rfl : rb = false := (by cases rb <;> first | rfl | exact (HQ.out (hrb.1 rfl)).elim); clear hrb; replace hb := hb.trans (hv.mono hb.size); clear x1 x2 x3; obtain ⟨x1, x2, x3⟩ := BX.out _ hb)
    | (go_at_call 7; refine (K.out _).mono ?_; rintro e wl ⟨rfl, hv⟩; replace hb := hb.trans (hv.mono hb.size); clear x1 x2 x3; obtain ⟨x1, x2, x3⟩ := BX.out _ hb)    )
  go_ret
  exact ⟨rfl, below_al hb⟩

set_option maxRecDepth 100000 in
set_option maxHeartbeats 2000000 in
theorem lawbe_e (sa ta sq so : Option Addr) (ls cs lt ct lq cq lo co : Nat) (s : Nat → Int) (t : Nat → St5) (g q : Nat → Int) (nd un : Int) (w : World) (hls : ls ≤ 1000000) (hlt : lt ≤ 1000000) (hlq : lq ≤ maxLen) (H : Hid (AnyLine w sa ta ls lt s t)) (HS : Hid (IntSl w sq lq g)) (K : Hid KnownOk) (hq : ls ≤ 13 ∧ lt ≤ 10) (hqq : lq ≤ 10) (hoo : lo ≤ 10) (HR : Hid (RightP ls lt s t)) (HQ : Hid (AgeP lt lq g)) (g1 : fromB 1 10000000 nd = false) :
    Calls Tryz.prog 5 #[.agg #[.slice sa ls cs, .slice ta lt ct], .slice sq lq cq, .int .i64 nd, .int .i64 un, .slice so lo co] w
      fun e w' => e = .returned (.bool true) ∧ Below w.heap.size w w' := by
  have hsh : decide (ls ≤ 13 ∧ lt ≤ 10) = true := decide_eq_true hq
  have hq10 : ¬ ((10 : Int) < (lq : Int)) := by omega
  have ho10 : ¬ ((10 : Int) < (lo : Int)) := by omega
  have BX := Lib.hid (fun (w1 : World) (hb : Below (w.alloc (.cells #[.slice sa ls cs, .slice ta lt ct] 25)).heap.size (w.alloc (.cells #[.slice sa ls cs, .slice ta lt ct] 25)) w1) => box_cells hb)
  have HN : Hid (∀ w1, Below (w.alloc (.cells #[.slice sa ls cs, .slice ta lt ct] 25)).heap.size (w.alloc (.cells #[.slice sa ls cs, .slice ta lt ct] 25)) w1 → Hid (AnyLine w1 sa ta ls lt s t)) := Lib.hid fun w1 h => Lib.hid (H.out.below (below_al h))
  have HI : Hid (∀ w1, Below (w.alloc (.cells #[.slice sa ls cs, .slice ta lt ct] 25)).heap.size (w.alloc (.cells #[.slice sa ls cs, .slice ta lt ct] 25)) w1 → Hid (IntSl w1 sq lq g)) := Lib.hid fun w1 h => Lib.hid (HS.out.below (below_al h))
  have hb : Below (w.alloc (.cells #[.slice sa ls cs, .slice ta lt ct] 25)).heap.size (w.alloc (.cells #[.slice sa ls cs, .slice ta lt ct] 25)) (w.alloc (.cells #[.slice sa ls cs, .slice ta lt ct] 25)) := Below.refl _ _
  obtain ⟨x1, x2, x3⟩ := BX.out _ hb
  clear H HS
  go_enter Tryz.func5, Tryz.ntmps5
  go_wp2_with (first
    | (go_at_call 6; refine (short_w _ _ _ _ _ _ _ (by unfold maxLen; omega) (by unfold maxLen; omega)).mono ?_; rw [hsh]; rintro e wl ⟨rfl, hv⟩; replace hb := hb.trans (hv.mono hb.size); clear x1 x2 x3; obtain ⟨x1, x2, x3⟩ := BX.out _ hb)
    | (go_at_call 10; refine (right_w _ _ _ _ _ _ s t _ hls hlt (Lib.hid (HN.out _ hb).out.hs) (Lib.hid (HN.out _ hb).out.ht)).mono ?_; rintro e wl ⟨⟨rb, rfl, hrb⟩, hv⟩; obtain rfl : rb = true := hrb.2 HR.out; clear hrb; replace hb := hb.trans (hv.mono hb.size); clear x1 x2 x3; obtain ⟨x1, x2, x3⟩ := BX.out _ hb)
    | (go_at_call 15; refine (refAges_w _ _ _ _ _ _ _ g _ hlt hlq (HI.out _ hb)).mono ?_; rintro e wl ⟨⟨rb, rfl, hrb⟩, hv⟩; obtain rfl : rb = true := hrb.2 HQ.out; clear hrb; replace hb := hb.trans (hv.mono hb.size); clear x1 x2 x3; obtain ⟨x1, x2, x3⟩ := BX.out _ hb)
    | (go_at_call 16; refine (need_w _ _).mono ?_; rintro e w' ⟨rfl, rfl⟩)
    | (go_at_call 7; refine (K.out _).mono ?_; rintro e wl ⟨rfl, hv⟩; replace hb := hb.trans (hv.mono hb.size); clear x1 x2 x3; obtain ⟨x1, x2, x3⟩ := BX.out _ hb)    )
  go_ret
  exact ⟨rfl, below_al hb⟩

set_option maxRecDepth 100000 in
set_option maxHeartbeats 2000000 in
theorem lawbe_f (sa ta sq so : Option Addr) (ls cs lt ct lq cq lo co : Nat) (s : Nat → Int) (t : Nat → St5) (g q : Nat → Int) (nd un : Int) (w : World) (hls : ls ≤ 1000000) (hlt : lt ≤ 1000000) (hlq : lq ≤ maxLen) (H : Hid (AnyLine w sa ta ls lt s t)) (HS : Hid (IntSl w sq lq g)) (K : Hid KnownOk) (hq : ls ≤ 13 ∧ lt ≤ 10) (hqq : lq ≤ 10) (hoo : lo ≤ 10) (HR : Hid (RightP ls lt s t)) (HQ : Hid (AgeP lt lq g)) (g1 : fromB 1 10000000 nd = true) (g2 : fromB 0 40 un = false) :
    Calls Tryz.prog 5 #[.agg #[.slice sa ls cs, .slice ta lt ct], .slice sq lq cq, .int .i64 nd, .int .i64 un, .slice so lo co] w
      fun e w' => e = .returned (.bool true) ∧ Below w.heap.size w w' := by
  have hsh : decide (ls ≤ 13 ∧ lt ≤ 10) = true := decide_eq_true hq
  have hq10 : ¬ ((10 : Int) < (lq : Int)) := by omega
  have ho10 : ¬ ((10 : Int) < (lo : Int)) := by omega
  have BX := Lib.hid (fun (w1 : World) (hb : Below (w.alloc (.cells #[.slice sa ls cs, .slice ta lt ct] 25)).heap.size (w.alloc (.cells #[.slice sa ls cs, .slice ta lt ct] 25)) w1) => box_cells hb)
  have HN : Hid (∀ w1, Below (w.alloc (.cells #[.slice sa ls cs, .slice ta lt ct] 25)).heap.size (w.alloc (.cells #[.slice sa ls cs, .slice ta lt ct] 25)) w1 → Hid (AnyLine w1 sa ta ls lt s t)) := Lib.hid fun w1 h => Lib.hid (H.out.below (below_al h))
  have HI : Hid (∀ w1, Below (w.alloc (.cells #[.slice sa ls cs, .slice ta lt ct] 25)).heap.size (w.alloc (.cells #[.slice sa ls cs, .slice ta lt ct] 25)) w1 → Hid (IntSl w1 sq lq g)) := Lib.hid fun w1 h => Lib.hid (HS.out.below (below_al h))
  have hb : Below (w.alloc (.cells #[.slice sa ls cs, .slice ta lt ct] 25)).heap.size (w.alloc (.cells #[.slice sa ls cs, .slice ta lt ct] 25)) (w.alloc (.cells #[.slice sa ls cs, .slice ta lt ct] 25)) := Below.refl _ _
  obtain ⟨x1, x2, x3⟩ := BX.out _ hb
  clear H HS
  go_enter Tryz.func5, Tryz.ntmps5
  go_wp2_with (first
    | (go_at_call 6; refine (short_w _ _ _ _ _ _ _ (by unfold maxLen; omega) (by unfold maxLen; omega)).mono ?_; rw [hsh]; rintro e wl ⟨rfl, hv⟩; replace hb := hb.trans (hv.mono hb.size); clear x1 x2 x3; obtain ⟨x1, x2, x3⟩ := BX.out _ hb)
    | (go_at_call 10; refine (right_w _ _ _ _ _ _ s t _ hls hlt (Lib.hid (HN.out _ hb).out.hs) (Lib.hid (HN.out _ hb).out.ht)).mono ?_; rintro e wl ⟨⟨rb, rfl, hrb⟩, hv⟩; obtain rfl : rb = true := hrb.2 HR.out; clear hrb; replace hb := hb.trans (hv.mono hb.size); clear x1 x2 x3; obtain ⟨x1, x2, x3⟩ := BX.out _ hb)
    | (go_at_call 15; refine (refAges_w _ _ _ _ _ _ _ g _ hlt hlq (HI.out _ hb)).mono ?_; rintro e wl ⟨⟨rb, rfl, hrb⟩, hv⟩; obtain rfl : rb = true := hrb.2 HQ.out; clear hrb; replace hb := hb.trans (hv.mono hb.size); clear x1 x2 x3; obtain ⟨x1, x2, x3⟩ := BX.out _ hb)
    | (go_at_call 16; refine (need_w _ _).mono ?_; rintro e w' ⟨rfl, rfl⟩)
    | (go_at_call 17; refine (until_w _ _).mono ?_; rintro e w' ⟨rfl, rfl⟩)
    | (go_at_call 7; refine (K.out _).mono ?_; rintro e wl ⟨rfl, hv⟩; replace hb := hb.trans (hv.mono hb.size); clear x1 x2 x3; obtain ⟨x1, x2, x3⟩ := BX.out _ hb)    )
  go_ret
  exact ⟨rfl, below_al hb⟩
end Go.Kn

namespace Go.Kn
open Go Go.Proofs Go.RowKit

set_option maxRecDepth 100000 in
set_option maxHeartbeats 4000000 in
theorem lawbe_g (A O C P ls cs lt ct D F cq : Nat) (so : Option Addr) (lo co : Nat) (s : Nat → Int) (t : Nat → St5) (g aN q : Nat → Int) (bN : Nat → Bool) (nd un : Int) (w : World) (H : Hid (LineAt w A O C P ls lt s t)) (hD : D < w.heap.size) (HD : Hid (NumAt w D F lt g)) (HQ : Hid (AgeP lt lt g)) (hoo : lo ≤ 10) (HQO : Hid (IntSl w so lo q)) (K : Hid KnownOk) (g1 : fromB 1 10000000 nd = true) (g2 : fromB 0 40 un = true) (HA : Hid (∀ i, i < lt → Great s (t i) nd (aN i) (bN i))) (HE : Hid ((∃ i, i < lt ∧ bN i = false) ∨ NoYears (lst (duF aN g un) (laF aN g) lt) [])) :
    Calls Tryz.prog 5 #[.agg #[.slice (some ⟨A, O, none⟩) ls cs, .slice (some ⟨C, P, none⟩) lt ct], .slice (some ⟨D, F, none⟩) lt cq, .int .i64 nd, .int .i64 un, .slice so lo co] w
      fun e w' => e = .returned (.bool true) ∧ Below w.heap.size w w' := by
  have HNO : Hid (¬ (lo = lt ∧ ∀ j, j < lt → PlAt bN (duF aN g un) (laF aN g) q j)) := Lib.hid (no_plan HE.out q)
  have BX := Lib.hid (fun (w1 : World) (hb : Below (w.alloc (.cells #[.slice (some ⟨A, O, none⟩) ls cs, .slice (some ⟨C, P, none⟩) lt ct] 25)).heap.size (w.alloc (.cells #[.slice (some ⟨A, O, none⟩) ls cs, .slice (some ⟨C, P, none⟩) lt ct] 25)) w1) => box_cells hb)
  have HL : Hid (∀ w1, Below (w.alloc (.cells #[.slice (some ⟨A, O, none⟩) ls cs, .slice (some ⟨C, P, none⟩) lt ct] 25)).heap.size (w.alloc (.cells #[.slice (some ⟨A, O, none⟩) ls cs, .slice (some ⟨C, P, none⟩) lt ct] 25)) w1 → LineAt w1 A O C P ls lt s t ∧ D < w1.heap.size ∧ NumAt w1 D F lt g) := Lib.hid fun w1 h => ⟨H.out.below (below_al h), Nat.lt_of_lt_of_le hD (below_al h).size, HD.out.below hD (below_al h)⟩
  have HN : Hid (∀ w1, Below (w.alloc (.cells #[.slice (some ⟨A, O, none⟩) ls cs, .slice (some ⟨C, P, none⟩) lt ct] 25)).heap.size (w.alloc (.cells #[.slice (some ⟨A, O, none⟩) ls cs, .slice (some ⟨C, P, none⟩) lt ct] 25)) w1 → Hid (AnyLine w1 (some ⟨A, O, none⟩) (some ⟨C, P, none⟩) ls lt s t)) := Lib.hid fun w1 h => Lib.hid ⟨.inr ⟨A, O, rfl, (HL.out w1 h).1.hA, (HL.out w1 h).1.sp⟩, .inr ⟨C, P, rfl, (HL.out w1 h).1.hC, (HL.out w1 h).1.st⟩⟩
  have HI : Hid (∀ w1, Below (w.alloc (.cells #[.slice (some ⟨A, O, none⟩) ls cs, .slice (some ⟨C, P, none⟩) lt ct] 25)).heap.size (w.alloc (.cells #[.slice (some ⟨A, O, none⟩) ls cs, .slice (some ⟨C, P, none⟩) lt ct] 25)) w1 → Hid (IntSl w1 (some ⟨D, F, none⟩) lt g)) := Lib.hid fun w1 h => Lib.hid (.inr ⟨D, F, rfl, (HL.out w1 h).2.1, (HL.out w1 h).2.2⟩)
  have HO : Hid (∀ w1, Below (w.alloc (.cells #[.slice (some ⟨A, O, none⟩) ls cs, .slice (some ⟨C, P, none⟩) lt ct] 25)).heap.size (w.alloc (.cells #[.slice (some ⟨A, O, none⟩) ls cs, .slice (some ⟨C, P, none⟩) lt ct] 25)) w1 → Hid (IntSl w1 so lo q)) := Lib.hid fun w1 h => Lib.hid (HQO.out.below (below_al h))
  have ho10 : ¬ ((10 : Int) < (lo : Int)) := by omega
  have hlo : lo ≤ maxLen := by unfold maxLen; omega
  have HR : Hid (RightP ls lt s t) := Lib.hid ⟨H.out.ls1, H.out.ls2, H.out.lt1, H.out.lt2, H.out.sok, H.out.tok⟩
  have q0 := H.out.ls2
  have q2 := H.out.lt2
  have hls : ls ≤ 1000000 := by omega
  have hlt : lt ≤ 1000000 := by omega
  have hlq : lt ≤ maxLen := by unfold maxLen; omega
  have hsh : decide (ls ≤ 13 ∧ lt ≤ 10) = true := decide_eq_true ⟨by omega, by omega⟩
  have hq10 : ¬ ((10 : Int) < (lt : Int)) := by omega
  have hb : Below (w.alloc (.cells #[.slice (some ⟨A, O, none⟩) ls cs, .slice (some ⟨C, P, none⟩) lt ct] 25)).heap.size (w.alloc (.cells #[.slice (some ⟨A, O, none⟩) ls cs, .slice (some ⟨C, P, none⟩) lt ct] 25)) (w.alloc (.cells #[.slice (some ⟨A, O, none⟩) ls cs, .slice (some ⟨C, P, none⟩) lt ct] 25)) := Below.refl _ _
  obtain ⟨x1, x2, x3⟩ := BX.out _ hb
  go_enter Tryz.func5, Tryz.ntmps5
  go_wp2_with (first
    | (go_at_call 6; refine (short_w _ _ _ _ _ _ _ (by unfold maxLen; omega) (by unfold maxLen; omega)).mono ?_; rw [hsh]; rintro e wl ⟨rfl, hv⟩; replace hb := hb.trans (hv.mono hb.size); clear x1 x2 x3; obtain ⟨x1, x2, x3⟩ := BX.out _ hb)
    | (go_at_call 10; refine (right_w _ _ _ _ _ _ s t _ hls hlt (Lib.hid (HN.out _ hb).out.hs) (Lib.hid (HN.out _ hb).out.ht)).mono ?_; rintro e wl ⟨⟨rb, rfl, hrb⟩, hv⟩; obtain rfl : rb = true := hrb.2 HR.out; clear hrb; replace hb := hb.trans (hv.mono hb.size); clear x1 x2 x3; obtain ⟨x1, x2, x3⟩ := BX.out _ hb)
    | (go_at_call 15; refine (refAges_w _ _ _ _ _ _ _ g _ hlt hlq (HI.out _ hb)).mono ?_; rintro e wl ⟨⟨rb, rfl, hrb⟩, hv⟩; obtain rfl : rb = true := hrb.2 HQ.out; clear hrb; replace hb := hb.trans (hv.mono hb.size); clear x1 x2 x3; obtain ⟨x1, x2, x3⟩ := BX.out _ hb)
    | (go_at_call 16; refine (need_w _ _).mono ?_; rintro e w' ⟨rfl, rfl⟩)
    | (go_at_call 17; refine (until_w _ _).mono ?_; rintro e w' ⟨rfl, rfl⟩)
    | (go_at_call 14; refine (plan_e5 (aN := aN) (bN := bN) (Lib.hid (HL.out _ hb).1) (HL.out _ hb).2.1 (Lib.hid (HL.out _ hb).2.2) HQ g1 g2 HA HE).mono ?_; rintro e wl ⟨rfl, hv⟩; replace hb := hb.trans (hv.mono hb.size); clear x1 x2 x3; obtain ⟨x1, x2, x3⟩ := BX.out _ hb)
    | (go_at_call 20; refine (planned_w A O C P ls cs lt ct D F cq so lo co s t g aN q bN nd un _ hlo (Lib.hid (HL.out _ hb).1) (HL.out _ hb).2.1 (Lib.hid (HL.out _ hb).2.2) HQ g2 HA (HO.out _ hb)).mono ?_; rintro e wl ⟨⟨bb, rfl, hbb⟩, hv⟩; obtain rfl : bb = false := (by cases bb <;> first | rfl | exact (HNO.out (hbb.1 rfl)).elim); clear hbb; replace hb := hb.trans (hv.mono hb.size); clear x1 x2 x3; obtain ⟨x1, x2, x3⟩ := BX.out _ hb)
    | (go_at_call 7; refine (K.out _).mono ?_; rintro e wl ⟨rfl, hv⟩; replace hb := hb.trans (hv.mono hb.size); clear x1 x2 x3; obtain ⟨x1, x2, x3⟩ := BX.out _ hb))
  go_ret
  exact ⟨rfl, below_al hb⟩

set_option maxRecDepth 100000 in
set_option maxHeartbeats 4000000 in
theorem lawbe_i (A O C P ls cs lt ct D F cq : Nat) (so : Option Addr) (lo co : Nat) (s : Nat → Int) (t : Nat → St5) (g aN q : Nat → Int) (bN : Nat → Bool) (nd un : Int) (w : World) (H : Hid (LineAt w A O C P ls lt s t)) (hD : D < w.heap.size) (HD : Hid (NumAt w D F lt g)) (HQ : Hid (AgeP lt lt g)) (hoo : lo ≤ 10) (HQO : Hid (IntSl w so lo q)) (K : Hid KnownOk) (g1 : fromB 1 10000000 nd = true) (g2 : fromB 0 40 un = true) (HA : Hid (∀ i, i < lt → Great s (t i) nd (aN i) (bN i))) (HE : Hid (∀ i, i < lt → bN i = true)) (ys OUT : List Int) (HY : Hid (Greedy (lst (duF aN g un) (laF aN g) lt) [] ys)) (HP : Hid (Pl (lst (duF aN g un) (laF aN g) lt) ys OUT)) :
    Calls Tryz.prog 5 #[.agg #[.slice (some ⟨A, O, none⟩) ls cs, .slice (some ⟨C, P, none⟩) lt ct], .slice (some ⟨D, F, none⟩) lt cq, .int .i64 nd, .int .i64 un, .slice so lo co] w
      fun e w' => e = .returned (.bool true) ∧ Below w.heap.size w w' := by
  have HBEST : Hid (PlanOk lt (duF aN g un) (laF aN g) (plF (duF aN g un) OUT (cnt (duF aN g un) lt)) ∧ ∀ q, PlanOk lt (duF aN g un) (laF aN g) q → sumM q lt < sumM (plF (duF aN g un) OUT (cnt (duF aN g un) lt)) lt ∨ sumM q lt = sumM (plF (duF aN g un) OUT (cnt (duF aN g un) lt)) lt ∧ ¬ befP lt q (plF (duF aN g un) OUT (cnt (duF aN g un) lt))) := Lib.hid (plan_best HY.out HP.out)
  have HPA : Hid (∀ j, j < lt → PlAt bN (duF aN g un) (laF aN g) (plF (duF aN g un) OUT (cnt (duF aN g un) lt)) j) := Lib.hid (plAt_all.mpr ⟨HE.out, HBEST.out.1⟩)
  have hun' : 0 ≤ un ∧ un ≤ 40 := by simpa [fromB] using g2
  have HLE : Hid (∀ q, PlanOk lt (duF aN g un) (laF aN g) q → ∀ i, i < lt → q i ≤ 40) := Lib.hid fun q h i hi => by
    obtain ⟨h1, h2, _⟩ := h i hi
    cases hd : duF aN g un i
    · rw [h1 hd]; omega
    · have := laF_lt hd
      have := (h2 hd).2
      omega
  have BX := Lib.hid (fun (w1 : World) (hb : Below (w.alloc (.cells #[.slice (some ⟨A, O, none⟩) ls cs, .slice (some ⟨C, P, none⟩) lt ct] 25)).heap.size (w.alloc (.cells #[.slice (some ⟨A, O, none⟩) ls cs, .slice (some ⟨C, P, none⟩) lt ct] 25)) w1) => box_cells hb)
  have HL : Hid (∀ w1, Below (w.alloc (.cells #[.slice (some ⟨A, O, none⟩) ls cs, .slice (some ⟨C, P, none⟩) lt ct] 25)).heap.size (w.alloc (.cells #[.slice (some ⟨A, O, none⟩) ls cs, .slice (some ⟨C, P, none⟩) lt ct] 25)) w1 → LineAt w1 A O C P ls lt s t ∧ D < w1.heap.size ∧ NumAt w1 D F lt g) := Lib.hid fun w1 h => ⟨H.out.below (below_al h), Nat.lt_of_lt_of_le hD (below_al h).size, HD.out.below hD (below_al h)⟩
  have HN : Hid (∀ w1, Below (w.alloc (.cells #[.slice (some ⟨A, O, none⟩) ls cs, .slice (some ⟨C, P, none⟩) lt ct] 25)).heap.size (w.alloc (.cells #[.slice (some ⟨A, O, none⟩) ls cs, .slice (some ⟨C, P, none⟩) lt ct] 25)) w1 → Hid (AnyLine w1 (some ⟨A, O, none⟩) (some ⟨C, P, none⟩) ls lt s t)) := Lib.hid fun w1 h => Lib.hid ⟨.inr ⟨A, O, rfl, (HL.out w1 h).1.hA, (HL.out w1 h).1.sp⟩, .inr ⟨C, P, rfl, (HL.out w1 h).1.hC, (HL.out w1 h).1.st⟩⟩
  have HI : Hid (∀ w1, Below (w.alloc (.cells #[.slice (some ⟨A, O, none⟩) ls cs, .slice (some ⟨C, P, none⟩) lt ct] 25)).heap.size (w.alloc (.cells #[.slice (some ⟨A, O, none⟩) ls cs, .slice (some ⟨C, P, none⟩) lt ct] 25)) w1 → Hid (IntSl w1 (some ⟨D, F, none⟩) lt g)) := Lib.hid fun w1 h => Lib.hid (.inr ⟨D, F, rfl, (HL.out w1 h).2.1, (HL.out w1 h).2.2⟩)
  have HO : Hid (∀ w1, Below (w.alloc (.cells #[.slice (some ⟨A, O, none⟩) ls cs, .slice (some ⟨C, P, none⟩) lt ct] 25)).heap.size (w.alloc (.cells #[.slice (some ⟨A, O, none⟩) ls cs, .slice (some ⟨C, P, none⟩) lt ct] 25)) w1 → Hid (IntSl w1 so lo q)) := Lib.hid fun w1 h => Lib.hid (HQO.out.below (below_al h))
  have ho10 : ¬ ((10 : Int) < (lo : Int)) := by omega
  have hlo : lo ≤ maxLen := by unfold maxLen; omega
  have HR : Hid (RightP ls lt s t) := Lib.hid ⟨H.out.ls1, H.out.ls2, H.out.lt1, H.out.lt2, H.out.sok, H.out.tok⟩
  have q0 := H.out.ls2
  have q2 := H.out.lt2
  have hls : ls ≤ 1000000 := by omega
  have hlt : lt ≤ 1000000 := by omega
  have hlq : lt ≤ maxLen := by unfold maxLen; omega
  have hsh : decide (ls ≤ 13 ∧ lt ≤ 10) = true := decide_eq_true ⟨by omega, by omega⟩
  have hq10 : ¬ ((10 : Int) < (lt : Int)) := by omega
  have hb : Below (w.alloc (.cells #[.slice (some ⟨A, O, none⟩) ls cs, .slice (some ⟨C, P, none⟩) lt ct] 25)).heap.size (w.alloc (.cells #[.slice (some ⟨A, O, none⟩) ls cs, .slice (some ⟨C, P, none⟩) lt ct] 25)) (w.alloc (.cells #[.slice (some ⟨A, O, none⟩) ls cs, .slice (some ⟨C, P, none⟩) lt ct] 25)) := Below.refl _ _
  obtain ⟨x1, x2, x3⟩ := BX.out _ hb
  go_enter Tryz.func5, Tryz.ntmps5
  go_wp2_with (first
    | (go_at_call 6; refine (short_w _ _ _ _ _ _ _ (by unfold maxLen; omega) (by unfold maxLen; omega)).mono ?_; rw [hsh]; rintro e wl ⟨rfl, hv⟩; replace hb := hb.trans (hv.mono hb.size); clear x1 x2 x3; obtain ⟨x1, x2, x3⟩ := BX.out _ hb)
    | (go_at_call 10; refine (right_w _ _ _ _ _ _ s t _ hls hlt (Lib.hid (HN.out _ hb).out.hs) (Lib.hid (HN.out _ hb).out.ht)).mono ?_; rintro e wl ⟨⟨rb, rfl, hrb⟩, hv⟩; obtain rfl : rb = true := hrb.2 HR.out; clear hrb; replace hb := hb.trans (hv.mono hb.size); clear x1 x2 x3; obtain ⟨x1, x2, x3⟩ := BX.out _ hb)
    | (go_at_call 15; refine (refAges_w _ _ _ _ _ _ _ g _ hlt hlq (HI.out _ hb)).mono ?_; rintro e wl ⟨⟨rb, rfl, hrb⟩, hv⟩; obtain rfl : rb = true := hrb.2 HQ.out; clear hrb; replace hb := hb.trans (hv.mono hb.size); clear x1 x2 x3; obtain ⟨x1, x2, x3⟩ := BX.out _ hb)
    | (go_at_call 16; refine (need_w _ _).mono ?_; rintro e w' ⟨rfl, rfl⟩)
    | (go_at_call 17; refine (until_w _ _).mono ?_; rintro e w' ⟨rfl, rfl⟩)
    | (go_at_call 14; refine (plan_ok (aN := aN) (bN := bN) (Lib.hid (HL.out _ hb).1) (HL.out _ hb).2.1 (Lib.hid (HL.out _ hb).2.2) HQ g1 g2 HA HE HY HP).mono ?_; rintro e wl ⟨⟨G, rfl, hG1, hG2⟩, hv⟩; replace hb := hb.trans (hv.mono hb.size); clear x1 x2 x3; obtain ⟨x1, x2, x3⟩ := BX.out _ hb; have HG : Hid (∀ w', Below wl.heap.size wl w' → G < w'.heap.size ∧ NumAt w' G 0 lt (plF (duF aN g un) OUT (cnt (duF aN g un) lt))) := Lib.hid (fun w' h => ⟨Nat.lt_of_lt_of_le hG1 h.size, hG2.below hG1 h⟩); have HW := Lib.hid (Below.refl wl.heap.size wl); clear hG1 hG2)
    | (go_at_call_of 20 (Value.slice so lo co); refine (planned_w A O C P ls cs lt ct D F cq so lo co s t g aN q bN nd un _ hlo (Lib.hid (HL.out _ hb).1) (HL.out _ hb).2.1 (Lib.hid (HL.out _ hb).2.2) HQ g2 HA (HO.out _ hb)).mono ?_; rintro e wl ⟨⟨bb, rfl, hbb⟩, hv⟩; replace hb := hb.trans (hv.mono hb.size); clear x1 x2 x3; obtain ⟨x1, x2, x3⟩ := BX.out _ hb; replace HW := Lib.hid (HW.out.trans (hv.mono HW.out.size)); have HBB := Lib.hid hbb; clear hbb)
    | (go_at_call_of 20 (some (Addr.mk G 0 none)); refine (planned_w A O C P ls cs lt ct D F cq (some ⟨G, 0, none⟩) lt lt s t g aN (plF (duF aN g un) OUT (cnt (duF aN g un) lt)) bN nd un _ hlq (Lib.hid (HL.out _ hb).1) (HL.out _ hb).2.1 (Lib.hid (HL.out _ hb).2.2) HQ g2 HA (Lib.hid (.inr ⟨G, 0, rfl, (HG.out _ HW.out).1, (HG.out _ HW.out).2⟩))).mono ?_; rintro e wl ⟨⟨b2, rfl, hbb⟩, hv⟩; obtain rfl : b2 = true := hbb.2 ⟨rfl, HPA.out⟩; clear hbb; replace hb := hb.trans (hv.mono hb.size); clear x1 x2 x3; obtain ⟨x1, x2, x3⟩ := BX.out _ hb; replace HW := Lib.hid (HW.out.trans (hv.mono HW.out.size))))
  have HB1 := Lib.hid hb
  have HW1 := Lib.hid HW.out
  clear hb HW
  obtain ⟨Z, hZ⟩ : ∃ Z, Z = plF (duF aN g un) OUT (cnt (duF aN g un) lt) := ⟨_, rfl⟩
  rw [← hZ] at HBEST HPA HG
  clear hZ x1 x2 x3
  have FZ : Hid (∀ w', Below wl.heap.size wl w' → w'.cell? ⟨w.heap.size, 0, none⟩ = some (.slice (some ⟨A, O, none⟩) ls cs) ∧ w'.cell? ⟨w.heap.size, 1, none⟩ = some (.slice (some ⟨C, P, none⟩) lt ct) ∧ LineAt w' A O C P ls lt s t ∧ NumAt w' D F lt g ∧ (G < w'.heap.size ∧ NumAt w' G 0 lt Z) ∧ Hid (IntSl w' so lo q)) := Lib.hid fun w' h => by
    have h1 := HB1.out.trans (h.mono HB1.out.size)
    have h2 := HW1.out.trans (h.mono HW1.out.size)
    obtain ⟨p1, p2, _⟩ := BX.out _ h1
    exact ⟨p1, p2, (HL.out _ h1).1, (HL.out _ h1).2.2, HG.out _ h2, HO.out _ h1⟩
  have hzl := HB1.out.size
  go_loopw [14] (fun ii wr => ∃ i : Nat, i ≤ lt ∧ ii = .int .i64 (i : Int) ∧ Below wl.heap.size wl wr) (fun ii _ => lt - (intOf ii).toNat)
  case atStart => exact ⟨0, Nat.zero_le _, rfl, Below.refl _ _⟩
  case round =>
    obtain ⟨i, hi', rfl, hbw⟩ := hrel
    obtain ⟨x1, x2, x3, x4, ⟨x5, x6⟩, x7⟩ := FZ.out _ hbw
    have hzw := hbw.size
    by_cases hilt : i < lt
    · have y0 := x4 i hilt
      have y1 : wr.cell? ⟨G, i, none⟩ = some (.int .i64 (Z i)) := by have := x6 i hilt; rwa [Nat.zero_add] at this
      have hsp0 : 0 ≤ s (t i).f.toNat := by
        obtain ⟨_, _, _, _, b5⟩ := x3.bds hilt
        omega
      have hhi0 : 0 ≤ (t i).hi := by
        obtain ⟨_, _, _, b4, _⟩ := x3.bds hilt
        omega
      clear x3 x4 x6 x7
      have n1 : (0 : Int) ≤ (i : Int) := by omega
      have n2 : (i : Int) < (lt : Int) := by omega
      have hgi := HQ.out.ok i hilt
      simp only [fromB, decide_eq_true_eq] at hgi
      obtain ⟨hp1, hp2, _⟩ := HBEST.out.1 i hilt
      have hGR := HA.out i hilt
      rw [HE.out i hilt] at hGR
      obtain ⟨ga1, ga2, ga3⟩ : 0 ≤ aN i ∧ aN i ≤ 200 ∧ nd ≤ cupsL s (t i) (aN i) (t i).hi := by
        rcases hGR with ⟨_, a, b, c, _⟩ | ⟨h, _⟩
        · exact ⟨a, b, c⟩
        · cases h
      clear hGR
      have hlaF : laF aN g i = aN i - g i := rfl
      rw [hlaF] at hp2
      clear hlaF
      obtain ⟨z, hzz⟩ : ∃ z, Z i = z := ⟨_, rfl⟩
      rw [hzz] at y1 hp1 hp2
      obtain ⟨b, hbb⟩ : ∃ b, g i = b := ⟨_, rfl⟩
      rw [hbb] at y0 hgi hp2
      clear hzz hbb
      cases hdu : duF aN g un i
      · have hzm := hp1 hdu
        clear hp1 hp2 hdu
        subst hzm
        go_wp2
        go_quiet (fail)
        go_wp2
        go_roundw
        case rel => exact ⟨i + 1, by omega, by go_num, below_drewM hbw _⟩
        case measure => simp [intOf]; omega
      · obtain ⟨hz0, hz1⟩ := hp2 hdu
        clear hp1 hp2 hdu
        by_cases hzp : 0 < z
        · have hage : fromB 0 200 (b + z) = true := by simp only [fromB, decide_eq_true_eq]; omega
          have hcu : nd ≤ cupsL s (t i) (b + z) (t i).hi := by
            have h1 := cupsL_mono (s := s) (x := t i) (ag := b + z) (r := (t i).hi) (ag' := aN i) (r' := (t i).hi) hsp0 (by omega) (Int.le_refl _) (by omega) (by omega)
            omega
          have hcd : decide (cupsL s (t i) (b + z) (t i).hi < nd) = false := by rw [decide_eq_false_iff_not]; omega
          have hcn : ¬ (cupsL s (t i) (b + z) (t i).hi < nd) := by omega
          go_wp2
          go_quiet (fail)
          go_wp2_with (first
            | (go_at_call 12; refine (age_w _ _).mono ?_; rw [hage]; rintro e w9 ⟨rfl, rfl⟩)
            | (go_at_call 9; refine (pcarries_w A O C P ls cs lt ct i s t (b + z) _ (Lib.hid (FZ.out _ (below_drewM hbw _)).2.2.1) hilt ⟨by omega, by omega⟩).mono ?_; rintro e w5 ⟨rfl, hb5⟩; have hz5 := hb5.size))
          go_roundw
          case rel => exact ⟨i + 1, by omega, by go_num, ((below_drewM hbw _).trans (hb5.mono (below_drewM hbw _).size)).alloc ((below_drewM hbw _).trans (hb5.mono (below_drewM hbw _).size)).size _⟩
          case measure => simp [intOf]; omega
        · obtain rfl : z = 0 := by omega
          have hage : fromB 0 200 (b) = true := by simp only [fromB, decide_eq_true_eq]; omega
          have hcu : nd ≤ cupsL s (t i) (b) (t i).hi := by
            have h1 := cupsL_mono (s := s) (x := t i) (ag := b) (r := (t i).hi) (ag' := aN i) (r' := (t i).hi) hsp0 (by omega) (Int.le_refl _) (by omega) (by omega)
            omega
          have hcd : decide (cupsL s (t i) (b) (t i).hi < nd) = false := by rw [decide_eq_false_iff_not]; omega
          have hcn : ¬ (cupsL s (t i) (b) (t i).hi < nd) := by omega
          go_wp2
          go_quiet (fail)
          go_wp2_with (first
            | (go_at_call 12; refine (age_w _ _).mono ?_; rw [hage]; rintro e w9 ⟨rfl, rfl⟩)
            | (go_at_call 9; refine (pcarries_w A O C P ls cs lt ct i s t (b) _ (Lib.hid (FZ.out _ (below_drewM hbw _)).2.2.1) hilt ⟨by omega, by omega⟩).mono ?_; rintro e w5 ⟨rfl, hb5⟩; have hz5 := hb5.size))
          go_roundw
          case rel => exact ⟨i + 1, by omega, by go_num, ((below_drewM hbw _).trans (hb5.mono (below_drewM hbw _).size)).alloc ((below_drewM hbw _).trans (hb5.mono (below_drewM hbw _).size)).size _⟩
          case measure => simp [intOf]; omega
    · obtain rfl : lt = i := by omega
      clear x1 x2 x3 x4 x5 x6 x7
      have HS1 : Hid (∀ w', Below wl.heap.size wl w' → Calls Tryz.prog 21 #[.slice (some ⟨G, 0, none⟩) lt lt] w' fun e w2 => e = .returned (.int .i64 (sumM Z lt)) ∧ Below w'.heap.size w' w2) := Lib.hid fun w' h => psum_w (some ⟨G, 0, none⟩) lt lt Z w' (by omega) (Lib.hid (HLE.out _ HBEST.out.1)) (Lib.hid (.inr ⟨G, 0, rfl, (FZ.out _ h).2.2.2.2.1.1, (FZ.out _ h).2.2.2.2.1.2⟩))
      cases bb
      · go_wp2_with (first
          | (go_at_call_of 21 (some (Addr.mk G 0 none)); refine (HS1.out _ hbw).mono ?_; rintro e w5 ⟨rfl, hv⟩; replace hbw := hbw.trans (hv.mono hbw.size))
          | (go_at_call 7; refine (K.out _).mono ?_; rintro e w8 ⟨rfl, hv⟩; replace hbw := hbw.trans (hv.mono hbw.size)))
        go_ret
        exact ⟨rfl, below_al (HB1.out.trans (hbw.mono HB1.out.size))⟩
      · obtain ⟨hlol, hpq⟩ := HBB.out.1 rfl
        have HPQ := Lib.hid (plAt_all.mp hpq).2
        have HLQ := Lib.hid (HLE.out _ HPQ.out)
        have HLOL := Lib.hid hlol
        have HS2 : Hid (∀ w', Below wl.heap.size wl w' → Calls Tryz.prog 21 #[.slice so lo co] w' fun e w2 => e = .returned (.int .i64 (sumM q lt)) ∧ Below w'.heap.size w' w2) := Lib.hid fun w' h => by
          have h1 := psum_w so lo co q w' (by omega) (Lib.hid fun i hi => HLQ.out i (by have := HLOL.out; omega)) (FZ.out _ h).2.2.2.2.2
          rw [HLOL.out] at h1 ⊢
          exact h1
        have hS := HBEST.out.2 q HPQ.out
        clear hpq hlol
        obtain ⟨X, hX⟩ : ∃ X, sumM q lt = X := ⟨_, rfl⟩
        obtain ⟨Y, hY⟩ : ∃ Y, sumM Z lt = Y := ⟨_, rfl⟩
        rw [hX] at hS HS2
        rw [hY] at hS HS1
        clear hX hY
        rcases hS with hS | ⟨hS, hnb⟩
        · have hd : decide (X < Y) = true := decide_eq_true hS
          go_wp2_with (first
            | (go_at_call_of 21 (some (Addr.mk G 0 none)); refine (HS1.out _ hbw).mono ?_; rintro e w5 ⟨rfl, hv⟩; replace hbw := hbw.trans (hv.mono hbw.size))
            | (go_at_call_of 21 (Value.slice so lo co); refine (HS2.out _ hbw).mono ?_; rintro e w6 ⟨rfl, hv⟩; replace hbw := hbw.trans (hv.mono hbw.size))
            | (go_at_call 7; refine (K.out _).mono ?_; rintro e w8 ⟨rfl, hv⟩; replace hbw := hbw.trans (hv.mono hbw.size)))
          go_ret
          exact ⟨rfl, below_al (HB1.out.trans (hbw.mono HB1.out.size))⟩
        · subst hS
          have HNB := Lib.hid hnb
          clear hnb
          have hd : decide (X < X) = false := decide_eq_false (Int.lt_irrefl _)
          go_wp2_with (first
            | (go_at_call_of 21 (some (Addr.mk G 0 none)); refine (HS1.out _ hbw).mono ?_; rintro e w5 ⟨rfl, hv⟩; replace hbw := hbw.trans (hv.mono hbw.size))
            | (go_at_call_of 21 (Value.slice so lo co); refine (HS2.out _ hbw).mono ?_; rintro e w6 ⟨rfl, hv⟩; replace hbw := hbw.trans (hv.mono hbw.size))
            | (go_at_call 22; refine (pbefore_w' so (some ⟨G, 0, none⟩) lo lt co lt q Z _ HLOL.out (by omega) (FZ.out _ hbw).2.2.2.2.2 (Lib.hid (.inr ⟨G, 0, rfl, (FZ.out _ hbw).2.2.2.2.1.1, (FZ.out _ hbw).2.2.2.2.1.2⟩))).mono ?_; rintro e w7 ⟨⟨bf, rfl, hbf⟩, hv⟩; obtain rfl : bf = false := (by cases bf <;> first | rfl | exact (HNB.out (hbf rfl)).elim); clear hbf; replace hbw := hbw.trans (hv.mono hbw.size))
            | (go_at_call 7; refine (K.out _).mono ?_; rintro e w8 ⟨rfl, hv⟩; replace hbw := hbw.trans (hv.mono hbw.size)))
          go_ret
          exact ⟨rfl, below_al (HB1.out.trans (hbw.mono HB1.out.size))⟩
theorem lawbe_w (sa ta sq so : Option Addr) (ls cs lt ct lq cq lo co : Nat) (s : Nat → Int) (t : Nat → St5) (g q : Nat → Int) (nd un : Int) (w : World) (hls : ls ≤ maxLen) (hlt : lt ≤ maxLen) (hlq : lq ≤ maxLen) (hlo : lo ≤ maxLen) (HS : NumSl w sa ls s) (HT : StSl w ta lt t) (HG : IntSl w sq lq g) (HO : IntSl w so lo q) (K : Hid KnownOk) :
    Calls Tryz.prog 5 #[.agg #[.slice sa ls cs, .slice ta lt ct], .slice sq lq cq, .int .i64 nd, .int .i64 un, .slice so lo co] w
      fun e w' => e = .returned (.bool true) ∧ Below w.heap.size w w' := by
  by_cases hq : ls ≤ 13 ∧ lt ≤ 10
  case neg => exact lawbe_a sa ta sq so ls cs lt ct lq cq lo co s t g q nd un w hls hlt hlq (Lib.hid ⟨HS, HT⟩) (Lib.hid HG) K hq
  have hls' : ls ≤ 1000000 := by omega
  have hlt' : lt ≤ 1000000 := by omega
  by_cases hb : lq ≤ 10
  case neg => exact lawbe_b sa ta sq so ls cs lt ct lq cq lo co s t g q nd un w hls' hlt' hlq (Lib.hid ⟨HS, HT⟩) (Lib.hid HG) K hq hb
  by_cases hbo : lo ≤ 10
  case neg => exact lawbe_b2 sa ta sq so ls cs lt ct lq cq lo co s t g q nd un w hls' hlt' hlq (Lib.hid ⟨HS, HT⟩) (Lib.hid HG) K hq hb hbo
  by_cases hR : RightP ls lt s t
  case neg => exact lawbe_c sa ta sq so ls cs lt ct lq cq lo co s t g q nd un w hls' hlt' hlq (Lib.hid ⟨HS, HT⟩) (Lib.hid HG) K hq hb hbo (Lib.hid hR)
  by_cases hQ : AgeP lt lq g
  case neg => exact lawbe_d sa ta sq so ls cs lt ct lq cq lo co s t g q nd un w hls' hlt' hlq (Lib.hid ⟨HS, HT⟩) (Lib.hid HG) K hq hb hbo (Lib.hid hR) (Lib.hid hQ)
  cases g1 : fromB 1 10000000 nd
  · exact lawbe_e sa ta sq so ls cs lt ct lq cq lo co s t g q nd un w hls' hlt' hlq (Lib.hid ⟨HS, HT⟩) (Lib.hid HG) K hq hb hbo (Lib.hid hR) (Lib.hid hQ) g1
  cases g2 : fromB 0 40 un
  · exact lawbe_f sa ta sq so ls cs lt ct lq cq lo co s t g q nd un w hls' hlt' hlq (Lib.hid ⟨HS, HT⟩) (Lib.hid HG) K hq hb hbo (Lib.hid hR) (Lib.hid hQ) g1 g2
  obtain ⟨A, O, rfl, hA, hsp⟩ := HS.resolve_left (by have := hR.ls1; omega)
  obtain ⟨C, P, rfl, hC, hst⟩ := HT.resolve_left (by have := hR.lt1; omega)
  have H : LineAt w A O C P ls lt s t := ⟨hA, hC, hR.ls1, hR.ls2, hR.lt1, hR.lt2, hsp, hst, hR.sok, hR.tok⟩
  obtain rfl := hQ.eq
  obtain ⟨D, F, rfl, hD, hg⟩ := HG.resolve_left (by have := hR.lt1; omega)
  obtain ⟨aN, bN, hAB⟩ : ∃ (aN : Nat → Int) (bN : Nat → Bool), ∀ i, Great s (t i) nd (aN i) (bN i) :=
    ⟨fun i => Classical.choose (great_exists s (t i) nd), fun i => Classical.choose (Classical.choose_spec (great_exists s (t i) nd)), fun i => Classical.choose_spec (Classical.choose_spec (great_exists s (t i) nd))⟩
  have HA : Hid (∀ i, i < lq → Great s (t i) nd (aN i) (bN i)) := Lib.hid fun i _ => hAB i
  by_cases hE : ∃ i, i < lq ∧ bN i = false
  · exact lawbe_g A O C P ls cs lq ct D F cq so lo co s t g aN q bN nd un w (Lib.hid H) hD (Lib.hid hg) (Lib.hid hQ) hbo (Lib.hid HO) K g1 g2 HA (Lib.hid (.inl hE))
  rcases years_or (lst (duF aN g un) (laF aN g) lq) [] with ⟨ys, hys⟩ | hno
  · obtain ⟨OUT, hO⟩ := Pl.ex (greedy_opt hys)
    refine lawbe_i A O C P ls cs lq ct D F cq so lo co s t g aN q bN nd un w (Lib.hid H) hD (Lib.hid hg) (Lib.hid hQ) hbo (Lib.hid HO) K g1 g2 HA (Lib.hid fun i hi => ?_) ys OUT (Lib.hid hys) (Lib.hid hO)
    cases hbi : bN i
    · exact (hE ⟨i, hi, hbi⟩).elim
    · rfl
  · exact lawbe_g A O C P ls cs lq ct D F cq so lo co s t g aN q bN nd un w (Lib.hid H) hD (Lib.hid hg) (Lib.hid hQ) hbo (Lib.hid HO) K g1 g2 HA (Lib.hid (.inr hno))
end Go.Kn
