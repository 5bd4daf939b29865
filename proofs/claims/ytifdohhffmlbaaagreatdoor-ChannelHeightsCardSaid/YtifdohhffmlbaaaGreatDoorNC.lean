/- Walks of the functions of layer 2 that ChannelHeights calls, and the law itself (a part of it). Conditions: as each theorem states them. -/
import Derived.Test.YtifdohhffmlbaaaGreatDoorNB
import Derived.Deep.RegionHeld3
set_option linter.unusedVariables false
set_option linter.unusedSimpArgs false
namespace Go.Kn
open Go Go.Proofs Go.RowKit

set_option maxRecDepth 100000 in
set_option maxHeartbeats 4000000 in
theorem lawh_d (il ih : Int) (C P cp A O ll cl : Nat) (p : Nat → Sp2) (l : Nat → Int) (n : Int) (D F cq : Nat) (s : Nat → Int) (w : World) (H : Hid (SipAt w C P (ll + 1) A O ll il ih p l)) (hD : D < w.heap.size) (HS : Hid (NumAt w D F (ll + 1) s)) (K : Hid KnownOk')
    (hQ : Hid (HeiP il ih (ll + 1) p n (ll + 1) s)) :
    Calls Tryz.prog 12 #[.agg #[.int .i64 il, .int .i64 ih, .slice (some ⟨C, P, none⟩) (ll + 1) cp, .slice (some ⟨A, O, none⟩) ll cl], .int .i64 n, .slice (some ⟨D, F, none⟩) (ll + 1) cq] w
      fun e w' => e = .returned (.bool true) ∧ Below w.heap.size w w' := by
  have BX := Lib.hid (fun (w1 : World) (hb : Below (w.alloc (.cells #[.int .i64 il, .int .i64 ih, .slice (some ⟨C, P, none⟩) (ll + 1) cp, .slice (some ⟨A, O, none⟩) ll cl] 70)).heap.size (w.alloc (.cells #[.int .i64 il, .int .i64 ih, .slice (some ⟨C, P, none⟩) (ll + 1) cp, .slice (some ⟨A, O, none⟩) ll cl] 70)) w1) => bcell4 hb)
  have HL : Hid (∀ w1, Below (w.alloc (.cells #[.int .i64 il, .int .i64 ih, .slice (some ⟨C, P, none⟩) (ll + 1) cp, .slice (some ⟨A, O, none⟩) ll cl] 70)).heap.size (w.alloc (.cells #[.int .i64 il, .int .i64 ih, .slice (some ⟨C, P, none⟩) (ll + 1) cp, .slice (some ⟨A, O, none⟩) ll cl] 70)) w1 → SipAt w1 C P (ll + 1) A O ll il ih p l ∧ IntSl w1 (some ⟨D, F, none⟩) (ll + 1) s) := Lib.hid fun w1 h => ⟨H.out.below (below_al h), .inr ⟨D, F, rfl, Nat.lt_of_lt_of_le hD (below_al h).size, HS.out.below hD (below_al h)⟩⟩
  have hl0 : (0 : Nat) ≤ maxLen := Nat.zero_le _
  have q1 := H.out.lp1
  have q2 := H.out.lp2
  have hlp : ll + 1 ≤ maxLen := by unfold maxLen; omega
  have hll : ll ≤ maxLen := by unfold maxLen; omega
  have hsh : decide (ll + 1 ≤ 10 ∧ ll ≤ 10 ∧ 0 ≤ 6) = true := decide_eq_true ⟨by omega, by omega, by omega⟩
  have HR : Hid (SipP il ih (ll + 1) ll p l) := Lib.hid H.out.ok
  have hlq := hlp
  have HD : Hid (∀ w1, Below (w.alloc (.cells #[.int .i64 il, .int .i64 ih, .slice (some ⟨C, P, none⟩) (ll + 1) cp, .slice (some ⟨A, O, none⟩) ll cl] 70)).heap.size (w.alloc (.cells #[.int .i64 il, .int .i64 ih, .slice (some ⟨C, P, none⟩) (ll + 1) cp, .slice (some ⟨A, O, none⟩) ll cl] 70)) w1 → NumAt w1 D F (ll + 1) s) := Lib.hid fun w1 h => HS.out.below hD (below_al h)
  go_enter Tryz.func12, Tryz.ntmps12
  go_wp2_with (first
    | (go_at_call 40; refine (slim_w _ _ _ _ _ _ _ _ _ _ _ _ hlp hll hl0).mono ?_; rw [hsh]; rintro e w1 ⟨rfl, hb1⟩; obtain ⟨x0, x1, x2, x3, x4⟩ := BX.out _ hb1)
    | (go_at_call 43; refine (rsiph_w _ _ _ _ _ _ _ _ p l _ (by omega) (by omega) (Lib.hid (HL.out _ hb1).1.any)).mono ?_; rintro e w2 ⟨⟨rb, rfl, hrb⟩, hb2⟩; obtain rfl : rb = true := hrb.2 HR.out; clear hrb; have hb12 := hb1.trans (hb2.mono hb1.size); clear x0 x1 x2 x3 x4; obtain ⟨x0, x1, x2, x3, x4⟩ := BX.out _ hb12)
    | (go_at_call 47; refine (heights_w _ _ _ _ _ _ _ _ _ _ p l _ _ _ _ s _ hlq (Lib.hid (HL.out _ hb12).1) (Lib.hid (HL.out _ hb12).2)).mono ?_; rintro e w3 ⟨⟨rb, rfl, hrb⟩, hb3⟩; obtain rfl : rb = true := hrb.2 hQ.out; clear hrb; have hb13 := hb12.trans (hb3.mono hb12.size); clear x0 x1 x2 x3 x4; obtain ⟨x0, x1, x2, x3, x4⟩ := BX.out _ hb13)
    | (go_at_call 41; refine (ppress_w _ _ _ _ _ _ _ _ _ _ p l _ (Lib.hid (HL.out _ hb13).1)).mono ?_; rintro e w4 ⟨⟨G, rfl, hG1, hG2, hG3⟩, hb4⟩; have HG := Lib.hid hG3; clear hG3; have hb14 := hb13.trans (hb4.mono hb13.size); clear x0 x1 x2 x3 x4; obtain ⟨x0, x1, x2, x3, x4⟩ := BX.out _ hb14)
    | (go_at_call 42; refine (pflows_w _ _ _ _ _ _ _ _ _ p l _ (Lib.hid (HL.out _ hb14).1)).mono ?_; rintro e w5 ⟨rfl, hb5⟩; have hb15 := hb14.trans (hb5.mono hb14.size); clear x0 x1 x2 x3 x4; obtain ⟨x0, x1, x2, x3, x4⟩ := BX.out _ hb15))
  have FX : Hid (∀ w', Below w5.heap.size w5 w' → w'.cell? ⟨w.heap.size, 0, none⟩ = some (.int .i64 il) ∧ w'.cell? ⟨w.heap.size, 1, none⟩ = some (.int .i64 ih) ∧ w'.cell? ⟨w.heap.size, 2, none⟩ = some (.slice (some ⟨C, P, none⟩) (ll + 1) cp) ∧ w'.cell? ⟨w.heap.size, 3, none⟩ = some (.slice (some ⟨A, O, none⟩) ll cl) ∧ SpAt w' C P (ll + 1) p ∧ NumAt w' D F (ll + 1) s ∧ SpAt w' G 0 ll (prOf il ih p)) := Lib.hid fun w' h => by
    have hh := hb15.trans (h.mono hb15.size)
    obtain ⟨z0, z1, z2, z3, z4⟩ := BX.out _ hh
    exact ⟨z0, z1, z2, z3, (HL.out _ hh).1.sp, HD.out _ hh, (HG.out.below hG2 hb5).below (Nat.lt_of_lt_of_le hG2 hb5.size) h⟩
  have hB15 : Below w.heap.size w w5 := below_al hb15
  have hZ := H.out
  have Hi := spanB_h hZ.iok
  have hP := Lib.hid hZ.pok
  clear hZ hb1 hb2 hb12 hb3 hb13 hb4 hb14 hb5 hb15 BX HL HD HG x0 x1 x2 x3 x4 hsh HR
  go_loopw [11] (fun i wr => ∃ k : Nat, k ≤ ll ∧ i = .int .i64 k ∧ Below w5.heap.size w5 wr) (fun i _ => ll - (intOf i).toNat)
  case atStart => exact ⟨0, Nat.zero_le _, rfl, Below.refl _ _⟩
  case round =>
    obtain ⟨k, hk, rfl, hbw⟩ := hrel
    obtain ⟨x0, x1, x2, x3, xp, xs, xg⟩ := FX.out _ hbw
    by_cases hlt : k < ll
    · obtain ⟨y0, y1⟩ := xp k (by omega)
      obtain ⟨y2, y3⟩ := xp (k + 1) (by omega)
      obtain ⟨y4, y5⟩ := xg k hlt
      have y6 := xs k (by omega)
      have y7 := xs (k + 1) (by omega)
      clear xp xs xg
      have FY : Hid (∀ w', Below wr.heap.size wr w' → w'.cell? ⟨w.heap.size, 0, none⟩ = some (.int .i64 il) ∧ w'.cell? ⟨w.heap.size, 1, none⟩ = some (.int .i64 ih) ∧ w'.cell? ⟨w.heap.size, 2, none⟩ = some (.slice (some ⟨C, P, none⟩) (ll + 1) cp) ∧ w'.cell? ⟨C, P + k * 2, none⟩ = some (.int .i64 (p k).lo) ∧ w'.cell? ⟨C, P + k * 2 + 1, none⟩ = some (.int .i64 (p k).hi) ∧ w'.cell? ⟨C, P + (k + 1) * 2, none⟩ = some (.int .i64 (p (k + 1)).lo) ∧ w'.cell? ⟨C, P + (k + 1) * 2 + 1, none⟩ = some (.int .i64 (p (k + 1)).hi) ∧ w'.cell? ⟨D, F + k, none⟩ = some (.int .i64 (s k)) ∧ w'.cell? ⟨D, F + (k + 1), none⟩ = some (.int .i64 (s (k + 1))) ∧ w'.cell? ⟨G, k * 2, none⟩ = some (.int .i64 (prOf il ih p k).lo) ∧ w'.cell? ⟨G, k * 2 + 1, none⟩ = some (.int .i64 (prOf il ih p k).hi)) := Lib.hid fun w' h => by
        obtain ⟨z0, z1, z2, z3, zp, zs, zg⟩ := FX.out _ (hbw.trans (h.mono hbw.size))
        obtain ⟨y0, y1⟩ := zp k (by omega)
        obtain ⟨y2, y3⟩ := zp (k + 1) (by omega)
        obtain ⟨y4, y5⟩ := zg k hlt
        simp only [Nat.zero_add] at y4 y5
        exact ⟨z0, z1, z2, y0, y1, y2, y3, zs k (by omega), zs (k + 1) (by omega), y4, y5⟩
      simp only [Nat.zero_add] at y4 y5
      go_wp2
      have n1 : (0 : Int) ≤ (k : Int) := by omega
      have n2 : (k : Int) < ((ll + 1 : Nat) : Int) := by omega
      have n3 : IntKind.i64.wrap ((k : Int) + 1) = (k : Int) + 1 := IntWalk.i64_in _ (by omega)
      have n4 : (0 : Int) ≤ (k : Int) + 1 := by omega
      have n5 : (k : Int) + 1 < ((ll + 1 : Nat) : Int) := by omega
      have n6 : ((k : Int) + 1).toNat = k + 1 := by omega
      have n7 : (k : Int) ≤ (ll : Int) := by omega
      have n8 : (k : Int) < (ll : Int) + 1 := by omega
      have n9 : (k : Int) + 1 < (ll : Int) + 1 := by omega
      have n10 : (k : Int) < (ll : Int) := by omega
      have hn : hOk n := ⟨by have := Hi.1.1; have := hQ.out.n1; omega, by have := Hi.2.1.2; have := hQ.out.n2; omega⟩
      have hs : ∀ j, j ≤ ll → hOk (s j) := fun j hj => by
        have h1 := spanB_h (hP.out j (by omega))
        have h2 := hQ.out.at_ j (by omega)
        exact ⟨by have := h1.1.1; omega, by have := h1.2.1.2; omega⟩
      obtain ⟨ha1, ha2, ha3⟩ := spanB_h (hP.out k (by omega))
      obtain ⟨hc1, hc2, hc3⟩ := spanB_h (hP.out (k + 1) (by omega))
      obtain ⟨hi1, hi2, hi3⟩ := Hi
      have hq1 := hQ.out.at_ k (by omega)
      have hq2 := hQ.out.at_ (k + 1) (by omega)
      have hq3 := hQ.out.n1
      have hq4 := hQ.out.n2
      have e1 : presV ih (p k).lo (p (k + 1)).lo = (prOf il ih p k).hi := by simp only [presV, prOf, prHi]; omega
      have e2 : presV il (p k).hi (p (k + 1)).hi = (prOf il ih p k).lo := by simp only [presV, prOf, prLo]; omega
      have d1 : decide (presV n (s k) (s (k + 1)) < (prOf il ih p k).lo) = false := decide_eq_false (by simp only [presV, prOf, prLo]; omega)
      have d2 : decide ((prOf il ih p k).hi < presV n (s k) (s (k + 1))) = false := decide_eq_false (by simp only [presV, prOf, prHi]; omega)
      clear hq1 hq2 hq3 hq4 ha3 hc3 hi3
      go_region_held3 (fun w' => w'.cell? ⟨w.heap.size, 0, none⟩ = some (.int .i64 il) ∧ w'.cell? ⟨w.heap.size, 1, none⟩ = some (.int .i64 ih) ∧ w'.cell? ⟨w.heap.size, 2, none⟩ = some (.slice (some ⟨C, P, none⟩) (ll + 1) cp) ∧ w'.cell? ⟨C, P + k * 2, none⟩ = some (.int .i64 (p k).lo) ∧ w'.cell? ⟨C, P + k * 2 + 1, none⟩ = some (.int .i64 (p k).hi) ∧ w'.cell? ⟨C, P + (k + 1) * 2, none⟩ = some (.int .i64 (p (k + 1)).lo) ∧ w'.cell? ⟨C, P + (k + 1) * 2 + 1, none⟩ = some (.int .i64 (p (k + 1)).hi) ∧ w'.cell? ⟨D, F + k, none⟩ = some (.int .i64 (s k)) ∧ w'.cell? ⟨D, F + (k + 1), none⟩ = some (.int .i64 (s (k + 1))) ∧ w'.cell? ⟨G, k * 2, none⟩ = some (.int .i64 (prOf il ih p k).lo) ∧ w'.cell? ⟨G, k * 2 + 1, none⟩ = some (.int .i64 (prOf il ih p k).hi))
        ((refine FY.out _ ?_; repeat (first | exact Below.refl _ _ | refine Below.setCell ?_ (by simp; try omega) _ | refine Below.alloc ?_ (by simp; try omega) _ | refine Below.drew ?_)))
        ((fail))
      · obtain ⟨W2, hW2⟩ : ∃ W2, W2 = ((wr.alloc (.cells #[.int .i64 (p k).lo, .int .i64 (p k).hi] 31)).alloc (.cells #[.int .i64 (p (k + 1)).lo, .int .i64 (p (k + 1)).hi] 31)).drew := ⟨_, rfl⟩
        have hz2 : W2.heap.size = wr.heap.size + 1 + 1 := by rw [hW2]; simp
        have hbr : Below wr.heap.size wr W2 := by rw [hW2]; repeat (first | exact Below.refl _ _ | refine Below.setCell ?_ (by simp; try omega) _ | refine Below.alloc ?_ (by simp; try omega) _ | refine Below.drew ?_)
        have FZ : Hid (∀ w', Below W2.heap.size W2 w' → w'.cell? ⟨w.heap.size, 0, none⟩ = some (.int .i64 il) ∧ w'.cell? ⟨w.heap.size, 1, none⟩ = some (.int .i64 ih) ∧ w'.cell? ⟨D, F + k, none⟩ = some (.int .i64 (s k)) ∧ w'.cell? ⟨D, F + (k + 1), none⟩ = some (.int .i64 (s (k + 1))) ∧ w'.cell? ⟨G, k * 2, none⟩ = some (.int .i64 (prOf il ih p k).lo) ∧ w'.cell? ⟨G, k * 2 + 1, none⟩ = some (.int .i64 (prOf il ih p k).hi) ∧ w'.cell? ⟨wr.heap.size, 0, none⟩ = some (.int .i64 (p k).lo) ∧ w'.cell? ⟨wr.heap.size, 1, none⟩ = some (.int .i64 (p k).hi) ∧ w'.cell? ⟨wr.heap.size + 1, 0, none⟩ = some (.int .i64 (p (k + 1)).lo) ∧ w'.cell? ⟨wr.heap.size + 1, 1, none⟩ = some (.int .i64 (p (k + 1)).hi)) := Lib.hid fun w' h => by
          obtain ⟨z0, z1, z2, y0, y1, y2, y3, y4, y5, y6, y7⟩ := FY.out _ (hbr.trans (h.mono hbr.size))
          have q : ∀ b o, b < W2.heap.size → w'.cell? ⟨b, o, none⟩ = W2.cell? ⟨b, o, none⟩ := (bcell h).1
          exact ⟨z0, z1, y4, y5, y6, y7, (q _ _ (by omega)).trans (by rw [hW2]; simp), (q _ _ (by omega)).trans (by rw [hW2]; simp), (q _ _ (by omega)).trans (by rw [hW2]; simp), (q _ _ (by omega)).trans (by rw [hW2]; simp)⟩
        rw [← hW2]
        clear hW2 x0 x1 x2 x3 y0 y1 y2 y3 y4 y5 y6 y7
        obtain ⟨x0, x1, x2, x3, x4, x5, y0, y1, y2, y3⟩ := FZ.out _ (Below.refl _ _)
        go_wp2
        go_region_held3 (fun w' => w'.cell? ⟨w.heap.size, 0, none⟩ = some (.int .i64 il) ∧ w'.cell? ⟨w.heap.size, 1, none⟩ = some (.int .i64 ih) ∧ w'.cell? ⟨D, F + k, none⟩ = some (.int .i64 (s k)) ∧ w'.cell? ⟨D, F + (k + 1), none⟩ = some (.int .i64 (s (k + 1))) ∧ w'.cell? ⟨G, k * 2, none⟩ = some (.int .i64 (prOf il ih p k).lo) ∧ w'.cell? ⟨G, k * 2 + 1, none⟩ = some (.int .i64 (prOf il ih p k).hi) ∧ w'.cell? ⟨wr.heap.size, 0, none⟩ = some (.int .i64 (p k).lo) ∧ w'.cell? ⟨wr.heap.size, 1, none⟩ = some (.int .i64 (p k).hi) ∧ w'.cell? ⟨wr.heap.size + 1, 0, none⟩ = some (.int .i64 (p (k + 1)).lo) ∧ w'.cell? ⟨wr.heap.size + 1, 1, none⟩ = some (.int .i64 (p (k + 1)).hi))
          ((refine FZ.out _ ?_; repeat (first | exact Below.refl _ _ | refine Below.drew ?_)))
          ((go_at_call 48; refine (pressure_w _ _ _ _ hn (hs k (by omega)) (hs (k + 1) (by omega))).mono ?_; rintro e w' ⟨rfl, rfl⟩))
        go_wp2
        go_region_held3 (fun w' => w'.cell? ⟨w.heap.size, 0, none⟩ = some (.int .i64 il) ∧ w'.cell? ⟨w.heap.size, 1, none⟩ = some (.int .i64 ih) ∧ w'.cell? ⟨D, F + k, none⟩ = some (.int .i64 (s k)) ∧ w'.cell? ⟨D, F + (k + 1), none⟩ = some (.int .i64 (s (k + 1))) ∧ w'.cell? ⟨G, k * 2, none⟩ = some (.int .i64 (prOf il ih p k).lo) ∧ w'.cell? ⟨G, k * 2 + 1, none⟩ = some (.int .i64 (prOf il ih p k).hi) ∧ w'.cell? ⟨wr.heap.size, 0, none⟩ = some (.int .i64 (p k).lo) ∧ w'.cell? ⟨wr.heap.size, 1, none⟩ = some (.int .i64 (p k).hi) ∧ w'.cell? ⟨wr.heap.size + 1, 0, none⟩ = some (.int .i64 (p (k + 1)).lo) ∧ w'.cell? ⟨wr.heap.size + 1, 1, none⟩ = some (.int .i64 (p (k + 1)).hi))
          ((refine FZ.out _ ?_; repeat (first | exact Below.refl _ _ | refine Below.drew ?_)))
          ((go_at_call 48; refine (pressure_w _ _ _ _ (by assumption) (by assumption) (by assumption)).mono ?_; rintro e w' ⟨rfl, rfl⟩))
        go_wp2
        go_roundw
        case rel => exact ⟨k + 1, by omega, by go_num, (hbw.trans (hbr.mono hbw.size)).drew.drew⟩
        case measure => simp [intOf]; omega
      · obtain ⟨W2, hW2⟩ : ∃ W2, W2 = ((wr.alloc (.cells #[.int .i64 (p (k + 1)).lo, .int .i64 (p (k + 1)).hi] 31)).alloc (.cells #[.int .i64 (p k).lo, .int .i64 (p k).hi] 31)).drew := ⟨_, rfl⟩
        have hz2 : W2.heap.size = wr.heap.size + 1 + 1 := by rw [hW2]; simp
        have hbr : Below wr.heap.size wr W2 := by rw [hW2]; repeat (first | exact Below.refl _ _ | refine Below.setCell ?_ (by simp; try omega) _ | refine Below.alloc ?_ (by simp; try omega) _ | refine Below.drew ?_)
        have FZ : Hid (∀ w', Below W2.heap.size W2 w' → w'.cell? ⟨w.heap.size, 0, none⟩ = some (.int .i64 il) ∧ w'.cell? ⟨w.heap.size, 1, none⟩ = some (.int .i64 ih) ∧ w'.cell? ⟨D, F + k, none⟩ = some (.int .i64 (s k)) ∧ w'.cell? ⟨D, F + (k + 1), none⟩ = some (.int .i64 (s (k + 1))) ∧ w'.cell? ⟨G, k * 2, none⟩ = some (.int .i64 (prOf il ih p k).lo) ∧ w'.cell? ⟨G, k * 2 + 1, none⟩ = some (.int .i64 (prOf il ih p k).hi) ∧ w'.cell? ⟨wr.heap.size + 1, 0, none⟩ = some (.int .i64 (p k).lo) ∧ w'.cell? ⟨wr.heap.size + 1, 1, none⟩ = some (.int .i64 (p k).hi) ∧ w'.cell? ⟨wr.heap.size, 0, none⟩ = some (.int .i64 (p (k + 1)).lo) ∧ w'.cell? ⟨wr.heap.size, 1, none⟩ = some (.int .i64 (p (k + 1)).hi)) := Lib.hid fun w' h => by
          obtain ⟨z0, z1, z2, y0, y1, y2, y3, y4, y5, y6, y7⟩ := FY.out _ (hbr.trans (h.mono hbr.size))
          have q : ∀ b o, b < W2.heap.size → w'.cell? ⟨b, o, none⟩ = W2.cell? ⟨b, o, none⟩ := (bcell h).1
          exact ⟨z0, z1, y4, y5, y6, y7, (q _ _ (by omega)).trans (by rw [hW2]; simp), (q _ _ (by omega)).trans (by rw [hW2]; simp), (q _ _ (by omega)).trans (by rw [hW2]; simp), (q _ _ (by omega)).trans (by rw [hW2]; simp)⟩
        rw [← hW2]
        clear hW2 x0 x1 x2 x3 y0 y1 y2 y3 y4 y5 y6 y7
        obtain ⟨x0, x1, x2, x3, x4, x5, y0, y1, y2, y3⟩ := FZ.out _ (Below.refl _ _)
        go_wp2
        go_region_held3 (fun w' => w'.cell? ⟨w.heap.size, 0, none⟩ = some (.int .i64 il) ∧ w'.cell? ⟨w.heap.size, 1, none⟩ = some (.int .i64 ih) ∧ w'.cell? ⟨D, F + k, none⟩ = some (.int .i64 (s k)) ∧ w'.cell? ⟨D, F + (k + 1), none⟩ = some (.int .i64 (s (k + 1))) ∧ w'.cell? ⟨G, k * 2, none⟩ = some (.int .i64 (prOf il ih p k).lo) ∧ w'.cell? ⟨G, k * 2 + 1, none⟩ = some (.int .i64 (prOf il ih p k).hi) ∧ w'.cell? ⟨wr.heap.size + 1, 0, none⟩ = some (.int .i64 (p k).lo) ∧ w'.cell? ⟨wr.heap.size + 1, 1, none⟩ = some (.int .i64 (p k).hi) ∧ w'.cell? ⟨wr.heap.size, 0, none⟩ = some (.int .i64 (p (k + 1)).lo) ∧ w'.cell? ⟨wr.heap.size, 1, none⟩ = some (.int .i64 (p (k + 1)).hi))
          ((refine FZ.out _ ?_; repeat (first | exact Below.refl _ _ | refine Below.drew ?_)))
          ((go_at_call 48; refine (pressure_w _ _ _ _ hn (hs k (by omega)) (hs (k + 1) (by omega))).mono ?_; rintro e w' ⟨rfl, rfl⟩))
        go_wp2
        go_region_held3 (fun w' => w'.cell? ⟨w.heap.size, 0, none⟩ = some (.int .i64 il) ∧ w'.cell? ⟨w.heap.size, 1, none⟩ = some (.int .i64 ih) ∧ w'.cell? ⟨D, F + k, none⟩ = some (.int .i64 (s k)) ∧ w'.cell? ⟨D, F + (k + 1), none⟩ = some (.int .i64 (s (k + 1))) ∧ w'.cell? ⟨G, k * 2, none⟩ = some (.int .i64 (prOf il ih p k).lo) ∧ w'.cell? ⟨G, k * 2 + 1, none⟩ = some (.int .i64 (prOf il ih p k).hi) ∧ w'.cell? ⟨wr.heap.size + 1, 0, none⟩ = some (.int .i64 (p k).lo) ∧ w'.cell? ⟨wr.heap.size + 1, 1, none⟩ = some (.int .i64 (p k).hi) ∧ w'.cell? ⟨wr.heap.size, 0, none⟩ = some (.int .i64 (p (k + 1)).lo) ∧ w'.cell? ⟨wr.heap.size, 1, none⟩ = some (.int .i64 (p (k + 1)).hi))
          ((refine FZ.out _ ?_; repeat (first | exact Below.refl _ _ | refine Below.drew ?_)))
          ((go_at_call 48; refine (pressure_w _ _ _ _ (by assumption) (by assumption) (by assumption)).mono ?_; rintro e w' ⟨rfl, rfl⟩))
        go_wp2
        go_roundw
        case rel => exact ⟨k + 1, by omega, by go_num, (hbw.trans (hbr.mono hbw.size)).drew.drew⟩
        case measure => simp [intOf]; omega
    · obtain rfl : k = ll := by omega
      obtain ⟨y0, y1⟩ := xp k (by omega)
      have y2 := xs k (by omega)
      clear xp xs xg
      have hq1 := hQ.out.at_ k (by omega)
      have hq3 := hQ.out.n1
      have hq4 := hQ.out.n2
      obtain ⟨hi1, hi2, hi3⟩ := Hi
      obtain ⟨ha1, ha2, ha3⟩ := spanB_h (hP.out k (by omega))
      have n1 : (0 : Int) ≤ (k : Int) := by omega
      have n2 : (k : Int) < ((k + 1 : Nat) : Int) := by omega
      have n8 : (k : Int) < (k : Int) + 1 := by omega
      have FY : Hid (∀ w', Below wr.heap.size wr w' → w'.cell? ⟨w.heap.size, 0, none⟩ = some (.int .i64 il) ∧ w'.cell? ⟨w.heap.size, 1, none⟩ = some (.int .i64 ih) ∧ w'.cell? ⟨w.heap.size, 2, none⟩ = some (.slice (some ⟨C, P, none⟩) (k + 1) cp) ∧ w'.cell? ⟨C, P + k * 2, none⟩ = some (.int .i64 (p k).lo) ∧ w'.cell? ⟨C, P + k * 2 + 1, none⟩ = some (.int .i64 (p k).hi)) := Lib.hid fun w' h => by
        obtain ⟨z0, z1, z2, z3, zp, zs, zg⟩ := FX.out _ (hbw.trans (h.mono hbw.size))
        obtain ⟨y0, y1⟩ := zp k (by omega)
        exact ⟨z0, z1, z2, y0, y1⟩
      clear x3
      have hfin : Below w.heap.size w wr := hB15.trans (hbw.mono hB15.size)
      have hcase : (flowV il ih (p k) = 3 ∧ (p k).hi < il ∧ s k < n) ∨ (flowV il ih (p k) = 1 ∧ ih ≤ (p k).lo ∧ n ≤ s k) ∨ (flowV il ih (p k) = 2 ∧ ¬ (p k).hi < il ∧ (p k).lo < ih) := by
        unfold flowV
        by_cases g1 : (p k).hi < il
        · exact .inl ⟨if_pos g1, g1, by omega⟩
        · rw [if_neg g1]
          by_cases g2 : ih ≤ (p k).lo
          · exact .inr (.inl ⟨if_pos g2, g2, by omega⟩)
          · exact .inr (.inr ⟨if_neg g2, g1, by omega⟩)
      rcases hcase with ⟨hf, g1, g2⟩ | ⟨hf, g1, g2⟩ | ⟨hf, g1, g2⟩
      all_goals
        rw [hf]
        go_wp2
        go_region_held3 (fun w' => w'.cell? ⟨w.heap.size, 0, none⟩ = some (.int .i64 il) ∧ w'.cell? ⟨w.heap.size, 1, none⟩ = some (.int .i64 ih) ∧ w'.cell? ⟨w.heap.size, 2, none⟩ = some (.slice (some ⟨C, P, none⟩) (k + 1) cp) ∧ w'.cell? ⟨C, P + k * 2, none⟩ = some (.int .i64 (p k).lo) ∧ w'.cell? ⟨C, P + k * 2 + 1, none⟩ = some (.int .i64 (p k).hi))
          ((refine FY.out _ ?_; repeat (first | exact Below.refl _ _ | refine Below.drew ?_)))
          ((fail))
        go_wp2_with (go_at_call 16; refine (K.out _).mono ?_; rintro e w11 ⟨rfl, hb11⟩)
        go_ret
        exact ⟨by first | rfl | (simp; omega), hfin.drew.trans (hb11.mono hfin.size)⟩
end Go.Kn
