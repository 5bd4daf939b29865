/- Walks of the functions of layer 2 that ChannelHeights calls, and the law itself (a part of it). Conditions: as each theorem states them. -/
import Derived.Test.YtifdohhffmlbaaaGreatDoorN9
import Derived.Deep.QuietTactic
import Derived.BigQuiet
import Derived.WalkSmall
set_option linter.unusedVariables false
set_option linter.unusedSimpArgs false
namespace Go.Kn
open Go Go.Proofs Go.RowKit

theorem below_drewM {B : Nat} {a w : World} (h : Below B a w) (n : Nat) : Below B a (w.drewN n) := h.trans ⟨rfl, rfl, rfl, Nat.le_refl _, fun _ _ => rfl⟩

set_option maxHeartbeats 400000 in
theorem rheight_w (lo hi : Int) (w : World) :
    Calls Tryz.prog 81 #[.agg #[.int .i64 lo, .int .i64 hi]] w fun e w' => e = .returned (.bool (spanB 1000 lo hi)) ∧ Below w.heap.size w w' := by
  have hb : betB lo hi 0 1000 = spanB 1000 lo hi := by simp only [betB, spanB]; rw [decide_eq_decide]; omega
  go_enter Tryz.func81, Tryz.ntmps81
  go_wp2_with (go_at_call 100; refine (between_w _ _ _ _ _).mono ?_; rw [hb]; rintro e w1 ⟨rfl, hb1⟩)
  go_ret
  exact ⟨rfl, below_al hb1⟩

set_option maxRecDepth 100000 in
set_option maxHeartbeats 4000000 in
theorem rsiph_w (il ih : Int) (pa la : Option Addr) (lp cp ll cl : Nat) (p : Nat → Sp2) (l : Nat → Int) (w : World) (hlp : lp ≤ 1000000) (hll : ll ≤ 1000000) (H : Hid (AnySip w pa la lp ll p l)) :
    Calls Tryz.prog 43 #[.agg #[.int .i64 il, .int .i64 ih, .slice pa lp cp, .slice la ll cl]] w
      fun e w' => (∃ rb : Bool, e = .returned (.bool rb) ∧ (rb = true ↔ SipP il ih lp ll p l)) ∧ Below w.heap.size w w' := by
  have BX := Lib.hid (fun (w1 : World) (hb : Below (w.alloc (.cells #[.int .i64 il, .int .i64 ih, .slice pa lp cp, .slice la ll cl] 70)).heap.size (w.alloc (.cells #[.int .i64 il, .int .i64 ih, .slice pa lp cp, .slice la ll cl] 70)) w1) => bcell4 hb)
  have HL : Hid (∀ w1, Below (w.alloc (.cells #[.int .i64 il, .int .i64 ih, .slice pa lp cp, .slice la ll cl] 70)).heap.size (w.alloc (.cells #[.int .i64 il, .int .i64 ih, .slice pa lp cp, .slice la ll cl] 70)) w1 → AnySip w1 pa la lp ll p l) := Lib.hid fun w1 h => H.out.below (below_al h)
  go_enter Tryz.func43, Tryz.ntmps43
  go_wp2
  go_loopw [3] (fun i wr => ∃ k : Nat, k ≤ lp ∧ i = .int .i64 k ∧ Below (w.alloc (.cells #[.int .i64 il, .int .i64 ih, .slice pa lp cp, .slice la ll cl] 70)).heap.size (w.alloc (.cells #[.int .i64 il, .int .i64 ih, .slice pa lp cp, .slice la ll cl] 70)) wr ∧ ∀ j, j < k → spanB 1000 (p j).lo (p j).hi = true) (fun i _ => lp - (intOf i).toNat)
  case atStart => exact ⟨0, Nat.zero_le _, rfl, Below.refl _ _, fun j hj => absurd hj (by omega)⟩
  case round =>
    obtain ⟨k, hk, rfl, hbw, hall⟩ := hrel
    have HALL := Lib.hid hall
    clear hall
    obtain ⟨x0, x1, x2, x3, x4⟩ := BX.out _ hbw
    by_cases hlt1 : k < lp
    · obtain ⟨C, P, rfl, hC, hcells⟩ := (HL.out _ hbw).hp.resolve_left (by omega)
      obtain ⟨y0, y1⟩ := hcells k hlt1
      clear hcells
      cases hv : spanB 1000 (p k).lo (p k).hi
      · go_wp2_with (go_at_call 81; refine (rheight_w _ _ _).mono ?_; rw [hv]; rintro e w1 ⟨rfl, hb1⟩)
        go_ret
        exact ⟨⟨false, rfl, no_iff' (fun h => by have := h.pok k hlt1; rw [hv] at this; exact Bool.noConfusion this)⟩, below_al (hbw.trans (hb1.mono hbw.size))⟩
      · go_wp2_with (go_at_call 81; refine (rheight_w _ _ _).mono ?_; rw [hv]; rintro e w1 ⟨rfl, hb1⟩)
        go_roundw
        case rel => exact ⟨k + 1, by omega, by go_num, hbw.trans (hb1.mono hbw.size), fun j hj => by
          rcases Nat.lt_succ_iff_lt_or_eq.1 hj with h | h
          · exact HALL.out j h
          · rw [h]; exact hv⟩
        case measure => simp [intOf]; omega
    · have HSP : Hid (SpOk lp p) := Lib.hid fun j hj => HALL.out j (by omega)
      go_wp2
      go_loopw [4] (fun i wr => ∃ k : Nat, k ≤ ll ∧ i = .int .i64 k ∧ Below (w.alloc (.cells #[.int .i64 il, .int .i64 ih, .slice pa lp cp, .slice la ll cl] 70)).heap.size (w.alloc (.cells #[.int .i64 il, .int .i64 ih, .slice pa lp cp, .slice la ll cl] 70)) wr ∧ (∀ j, j < k → fromB 1 100 (l j) = true)) (fun i _ => ll - (intOf i).toNat)
      case atStart => exact ⟨0, Nat.zero_le _, rfl, hbw, fun j hj => absurd hj (by omega)⟩
      case round =>
        clear x0 x1 x2 x3 x4 hbw
        obtain ⟨j, hj, rfl, hbw, hall⟩ := hrel
        have HALL2 := Lib.hid hall
        clear hall
        obtain ⟨x0, x1, x2, x3, x4⟩ := BX.out _ hbw
        by_cases hlt2 : j < ll
        · obtain ⟨A, O, rfl, hA, hcells⟩ := (HL.out _ hbw).hl.resolve_left (by omega)
          have y0 := hcells j hlt2
          clear hcells
          cases hv : fromB 1 100 (l j)
          · go_wp2_with (go_at_call 65; refine (in_w _ _ _ _).mono ?_; rw [hv]; rintro e w1 ⟨rfl, rfl⟩)
            go_ret
            exact ⟨⟨false, rfl, no_iff' (fun h => by rw [h.lok j hlt2] at hv; exact Bool.noConfusion hv)⟩, below_al hbw⟩
          · go_wp2_with (go_at_call 65; refine (in_w _ _ _ _).mono ?_; rw [hv]; rintro e w1 ⟨rfl, rfl⟩)
            go_roundw
            case rel => exact ⟨j + 1, by omega, by go_num, hbw, fun i hi => by
              rcases Nat.lt_succ_iff_lt_or_eq.1 hi with h | h
              · exact HALL2.out i h
              · rw [h]; exact hv⟩
            case measure => simp [intOf]; omega
        · have HTOK : Hid (∀ k, k < ll → fromB 1 100 (l k) = true) := Lib.hid fun i hi => HALL2.out i (by omega)
          clear HALL2
          cases hv : spanB 1000 il ih
          · go_wp2_with (go_at_call 81; refine (rheight_w _ _ _).mono ?_; rw [hv]; rintro e w1 ⟨rfl, hb1⟩)
            go_ret
            exact ⟨⟨false, rfl, no_iff' (fun h => by rw [h.iok] at hv; exact Bool.noConfusion hv)⟩, below_al (hbw.trans (hb1.mono hbw.size))⟩
          cases hv2 : fromB 2 8 (lp : Int)
          · go_wp2_with (first | (go_at_call 81; refine (rheight_w _ _ _).mono ?_; rw [hv]; rintro e w1 ⟨rfl, hb1⟩; have hb2 := hbw.trans (hb1.mono hbw.size); clear x0 x1 x2 x3 x4; obtain ⟨x0, x1, x2, x3, x4⟩ := BX.out _ hb2) | (go_at_call 65; refine (in_w _ _ _ _).mono ?_; rw [hv2]; rintro e w2 ⟨rfl, rfl⟩))
            go_ret
            exact ⟨⟨false, rfl, no_iff' (fun h => by have := h.lp1; have := h.lp2; simp only [fromB, decide_eq_false_iff_not] at hv2; omega)⟩, below_al hb2⟩
          have g2 : 2 ≤ lp ∧ lp ≤ 8 := by simp only [fromB, decide_eq_true_eq] at hv2; omega
          go_wp2_with (first | (go_at_call 81; refine (rheight_w _ _ _).mono ?_; rw [hv]; rintro e w1 ⟨rfl, hb1⟩; have hb2 := hbw.trans (hb1.mono hbw.size); clear x0 x1 x2 x3 x4; obtain ⟨x0, x1, x2, x3, x4⟩ := BX.out _ hb2) | (go_at_call 65; refine (in_w _ _ _ _).mono ?_; rw [hv2]; rintro e w2 ⟨rfl, rfl⟩))
          go_ret
          refine ⟨⟨_, rfl, ?_⟩, below_al hb2⟩
          rw [beq_iff_eq]
          exact ⟨fun h => ⟨hv, g2.1, g2.2, by omega, HSP.out, HTOK.out⟩, fun h => by have := h.lpe; omega⟩

set_option maxHeartbeats 1000000 in
theorem slim_w (il ih : Int) (pa la ka : Option Addr) (lp cp ll cl lk ck : Nat) (w : World) (hlp : lp ≤ maxLen) (hll : ll ≤ maxLen) (hlk : lk ≤ maxLen) :
    Calls Tryz.prog 40 #[.agg #[.int .i64 il, .int .i64 ih, .slice pa lp cp, .slice la ll cl], .slice ka lk ck] w fun e w' => e = .returned (.bool (decide (lp ≤ 10 ∧ ll ≤ 10 ∧ lk ≤ 6))) ∧ Below w.heap.size w w' := by
  unfold maxLen at hlp hll hlk
  by_cases h : lp ≤ 10 <;> by_cases h2 : ll ≤ 10
  all_goals
    go_enter Tryz.func40, Tryz.ntmps40
    go_wp2
    go_ret
    exact ⟨by (simp [h, h2]; try omega), (Below.refl _ _).alloc (Nat.le_refl _) _⟩

def presV (i a b : Int) : Int := max (max 0 (i - a)) (i - b)

set_option maxHeartbeats 1000000 in
theorem pressure_w (i a b : Int) (w : World) (h1 : hOk i) (h2 : hOk a) (h3 : hOk b) :
    Calls Tryz.prog 48 #[.int .i64 i, .int .i64 a, .int .i64 b] w fun e w' => e = .returned (.int .i64 (presV i a b)) ∧ w = w' := by
  obtain ⟨a1, a2⟩ := h1
  obtain ⟨b1, b2⟩ := h2
  obtain ⟨c1, c2⟩ := h3
  go_enter Tryz.func48, Tryz.ntmps48
  go_wp2
  all_goals
    go_ret
    refine ⟨ret_int ?_, rfl⟩
    unfold presV
    omega

/-- heights of the inlet and the points that are possible -/
structure HeiP (il ih : Int) (lp : Nat) (p : Nat → Sp2) (n : Int) (lq : Nat) (s : Nat → Int) : Prop where
  n1 : il ≤ n
  n2 : n ≤ ih
  lq : lq = lp
  at_ : ∀ k, k < lp → (p k).lo ≤ s k ∧ s k ≤ (p k).hi

set_option maxRecDepth 100000 in
set_option maxHeartbeats 4000000 in
theorem heights_w (il ih : Int) (C P lp cp A O ll cl : Nat) (p : Nat → Sp2) (l : Nat → Int) (n : Int) (sq : Option Addr) (lq cq : Nat) (s : Nat → Int) (w : World) (hlq : lq ≤ maxLen) (H : Hid (SipAt w C P lp A O ll il ih p l)) (HS : Hid (IntSl w sq lq s)) :
    Calls Tryz.prog 47 #[.agg #[.int .i64 il, .int .i64 ih, .slice (some ⟨C, P, none⟩) lp cp, .slice (some ⟨A, O, none⟩) ll cl], .int .i64 n, .slice sq lq cq] w
      fun e w' => (∃ rb : Bool, e = .returned (.bool rb) ∧ (rb = true ↔ HeiP il ih lp p n lq s)) ∧ Below w.heap.size w w' := by
  unfold maxLen at hlq
  have BX := Lib.hid (fun (w1 : World) (hb : Below (w.alloc (.cells #[.int .i64 il, .int .i64 ih, .slice (some ⟨C, P, none⟩) lp cp, .slice (some ⟨A, O, none⟩) ll cl] 70)).heap.size (w.alloc (.cells #[.int .i64 il, .int .i64 ih, .slice (some ⟨C, P, none⟩) lp cp, .slice (some ⟨A, O, none⟩) ll cl] 70)) w1) => bcell4 hb)
  have HL : Hid (∀ w1, Below (w.alloc (.cells #[.int .i64 il, .int .i64 ih, .slice (some ⟨C, P, none⟩) lp cp, .slice (some ⟨A, O, none⟩) ll cl] 70)).heap.size (w.alloc (.cells #[.int .i64 il, .int .i64 ih, .slice (some ⟨C, P, none⟩) lp cp, .slice (some ⟨A, O, none⟩) ll cl] 70)) w1 → SipAt w1 C P lp A O ll il ih p l ∧ IntSl w1 sq lq s) := Lib.hid fun w1 h => ⟨H.out.below (below_al h), HS.out.below (below_al h)⟩
  have q1 := H.out.lp1
  have q2 := H.out.lp2
  by_cases h1 : n < il
  · go_enter Tryz.func47, Tryz.ntmps47
    go_wp2
    go_ret
    exact ⟨⟨false, rfl, no_iff' (fun h => by have := h.n1; omega)⟩, (Below.refl _ _).alloc (Nat.le_refl _) _⟩
  by_cases h2 : ih < n
  · go_enter Tryz.func47, Tryz.ntmps47
    go_wp2
    go_ret
    exact ⟨.inl ⟨rfl, fun h => by have := h.n2; omega⟩, (Below.refl _ _).alloc (Nat.le_refl _) _⟩
  by_cases h3 : lq = lp
  case neg =>
    have h3' : ((lq : Int) != (lp : Int)) = true := by simp; omega
    go_enter Tryz.func47, Tryz.ntmps47
    go_wp2
    go_ret
    exact ⟨.inl ⟨rfl, fun h => h3 h.lq⟩, (Below.refl _ _).alloc (Nat.le_refl _) _⟩
  subst h3
  obtain ⟨D, F, rfl, hD, hcs⟩ := HS.out.resolve_left (by omega)
  have HD : Hid (∀ w1, Below (w.alloc (.cells #[.int .i64 il, .int .i64 ih, .slice (some ⟨C, P, none⟩) lq cp, .slice (some ⟨A, O, none⟩) ll cl] 70)).heap.size (w.alloc (.cells #[.int .i64 il, .int .i64 ih, .slice (some ⟨C, P, none⟩) lq cp, .slice (some ⟨A, O, none⟩) ll cl] 70)) w1 → NumAt w1 D F lq s) := Lib.hid fun w1 h => hcs.below hD (below_al h)
  clear hcs
  go_enter Tryz.func47, Tryz.ntmps47
  go_wp2
  go_loopw [7] (fun i wr => ∃ k : Nat, k ≤ lq ∧ i = .int .i64 k ∧ Below (w.alloc (.cells #[.int .i64 il, .int .i64 ih, .slice (some ⟨C, P, none⟩) lq cp, .slice (some ⟨A, O, none⟩) ll cl] 70)).heap.size (w.alloc (.cells #[.int .i64 il, .int .i64 ih, .slice (some ⟨C, P, none⟩) lq cp, .slice (some ⟨A, O, none⟩) ll cl] 70)) wr ∧ ∀ j, j < k → (p j).lo ≤ s j ∧ s j ≤ (p j).hi) (fun i _ => lq - (intOf i).toNat)
  case atStart => exact ⟨0, Nat.zero_le _, rfl, Below.refl _ _, fun j hj => absurd hj (by omega)⟩
  case round =>
    obtain ⟨k, hk, rfl, hbw, hall⟩ := hrel
    have HALL := Lib.hid hall
    clear hall
    obtain ⟨x0, x1, x2, x3, x4⟩ := BX.out _ hbw
    by_cases hlt1 : k < lq
    · obtain ⟨y0, y1⟩ := (HL.out _ hbw).1.sp k hlt1
      have y2 := HD.out _ hbw k hlt1
      have n1 : (0 : Int) ≤ (k : Int) := by omega
      have n2 : (k : Int) < (lq : Int) := by omega
      by_cases g1 : s k < (p k).lo
      · have d1 : decide (s k < (p k).lo) = true := decide_eq_true g1
        go_wp2
        go_quiet (fail)
        go_wp2
        go_ret
        exact ⟨⟨false, rfl, no_iff' (fun h => by have := (h.at_ k hlt1).1; omega)⟩, below_al (below_drewM hbw _)⟩
      · have d1 : decide (s k < (p k).lo) = false := decide_eq_false g1
        by_cases g2 : (p k).hi < s k
        · have d2 : decide ((p k).hi < s k) = true := decide_eq_true g2
          go_wp2
          go_quiet (fail)
          go_wp2
          go_ret
          exact ⟨⟨false, rfl, no_iff' (fun h => by have := (h.at_ k hlt1).2; omega)⟩, below_al (below_drewM hbw _)⟩
        · have d2 : decide ((p k).hi < s k) = false := decide_eq_false g2
          go_wp2
          go_quiet (fail)
          go_wp2
          go_roundw
          case rel => exact ⟨k + 1, by omega, by go_num, (below_drewM hbw _), fun j hj => by
            rcases Nat.lt_succ_iff_lt_or_eq.1 hj with h | h
            · exact HALL.out j h
            · rw [h]; omega⟩
          case measure => simp [intOf]; omega
    · go_wp2
      go_ret
      exact ⟨⟨true, rfl, fun _ => ⟨by omega, by omega, rfl, fun j hj => HALL.out j (by omega)⟩, fun _ => rfl⟩, below_al hbw⟩
end Go.Kn
