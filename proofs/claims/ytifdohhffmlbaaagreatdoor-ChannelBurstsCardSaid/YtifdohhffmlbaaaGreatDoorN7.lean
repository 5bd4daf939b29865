/- Walks of the functions of layer 2 that ChannelHeights calls, and the law itself (a part of it). Conditions: as each theorem states them. -/
import Derived.Test.YtifdohhffmlbaaaGreatDoorN6
set_option linter.unusedVariables false
set_option linter.unusedSimpArgs false
namespace Go.Kn
open Go Go.Proofs Go.RowKit

/-- the pressures of the segments -/
def prOf (il ih : Int) (p : Nat → Sp2) (k : Nat) : Sp2 := ⟨prLo il (p k).hi (p (k + 1)).hi, prHi ih (p k).lo (p (k + 1)).lo⟩

abbrev sipV (il ih : Int) (C P lp cp A O ll cl : Nat) : Value := .agg #[.int .i64 il, .int .i64 ih, .slice (some ⟨C, P, none⟩) lp cp, .slice (some ⟨A, O, none⟩) ll cl]

set_option maxRecDepth 100000 in
set_option maxHeartbeats 4000000 in
theorem pressures_w (il ih : Int) (C P lp cp A O ll cl : Nat) (p : Nat → Sp2) (l : Nat → Int) (w : World) (H : Hid (SipAt w C P lp A O ll il ih p l)) :
    Calls Tryz.prog 80 #[.agg #[.int .i64 il, .int .i64 ih, .slice (some ⟨C, P, none⟩) lp cp, .slice (some ⟨A, O, none⟩) ll cl]] w
      fun e w' => (∃ G, e = .returned (.slice (some ⟨G, 0, none⟩) ll ll) ∧ w.heap.size ≤ G ∧ G < w'.heap.size ∧ SpAt w' G 0 ll (prOf il ih p)) ∧ Below w.heap.size w w' := by
  have q1 := H.out.lp1
  have q2 := H.out.lp2
  obtain rfl := H.out.lpe
  obtain ⟨W0, hW0⟩ : ∃ W0, W0 = w.alloc (.cells #[.int .i64 il, .int .i64 ih, .slice (some ⟨C, P, none⟩) (ll + 1) cp, .slice (some ⟨A, O, none⟩) ll cl] 70) := ⟨_, rfl⟩
  have hz : W0.heap.size = w.heap.size + 1 := by rw [hW0]; simp
  have hB0 : Below w.heap.size w W0 := by rw [hW0]; exact (Below.refl _ _).alloc (Nat.le_refl _) _
  have FX : Hid (∀ w', Below W0.heap.size W0 w' → w'.cell? ⟨w.heap.size, 0, none⟩ = some (.int .i64 il) ∧ w'.cell? ⟨w.heap.size, 1, none⟩ = some (.int .i64 ih) ∧ w'.cell? ⟨w.heap.size, 2, none⟩ = some (.slice (some ⟨C, P, none⟩) (ll + 1) cp) ∧ w'.cell? ⟨w.heap.size, 3, none⟩ = some (.slice (some ⟨A, O, none⟩) ll cl) ∧ SpAt w' C P (ll + 1) p) := Lib.hid fun w' h => by
    have q : ∀ b o, b < W0.heap.size → w'.cell? ⟨b, o, none⟩ = W0.cell? ⟨b, o, none⟩ := (bcell h).1
    have hall := hB0.trans (h.mono (by omega))
    exact ⟨(q _ _ (by omega)).trans (by rw [hW0]; simp), (q _ _ (by omega)).trans (by rw [hW0]; simp), (q _ _ (by omega)).trans (by rw [hW0]; simp), (q _ _ (by omega)).trans (by rw [hW0]; simp), (H.out.below hall).sp⟩
  obtain ⟨k0, k1, k2, k3, _⟩ := FX.out _ (Below.refl _ _)
  obtain ⟨i0, hi, hz0, hz1, hz2⟩ := info_parts info31
  go_enter Tryz.func80, Tryz.ntmps80
  go_wp2_with (at_make; refine wpList_make_full _ rfl _ _ 68 rfl w.heap.size 31 i0 _ 2 Tryz.underlying68 hi hz0 hz1 _ _ _ _ ll rfl rfl rfl rfl (by rw [hz2]; omega) (by unfold maxLen; omega) (by simp) ?_; intro w1 hown hgrow; rw [← hW0] at hown hgrow; have hb1 : Below W0.heap.size W0 w1 := (Below.refl _ _).grown hgrow (Nat.le_refl _) (fun k h => by cases h); have hrow := rowAt_of_owns hown; rw [hz] at hrow; obtain ⟨x0, x1, x2, x3, _⟩ := FX.out _ hb1)
  have HR0 : Hid (RowAt w1 (w.heap.size + 1) (ll * 2)) := Lib.hid hrow
  clear hown hgrow hrow
  go_loopw [13] (fun i wr => ∃ k : Nat, k ≤ ll ∧ i = .int .i64 k ∧ Below W0.heap.size W0 wr ∧ RowAt wr (w.heap.size + 1) (ll * 2) ∧ SpAt wr (w.heap.size + 1) 0 k (prOf il ih p)) (fun i _ => ll - (intOf i).toNat)
  case atStart => exact ⟨0, Nat.zero_le _, rfl, hb1, HR0.out, fun i hi => absurd hi (by omega)⟩
  case round =>
    clear x0 x1 x2 x3 hb1
    obtain ⟨k, hk, rfl, hbw, hrow, hsp⟩ := hrel
    have HROW := Lib.hid hrow
    have HSP := Lib.hid hsp
    clear hrow hsp
    obtain ⟨x0, x1, x2, x3, xs⟩ := FX.out _ hbw
    by_cases hlt : k < ll
    · obtain ⟨y0, y1⟩ := xs k (by omega)
      obtain ⟨y2, y3⟩ := xs (k + 1) (by omega)
      clear xs
      have hgz := HROW.out.1
      have FY : Hid (∀ w', Below wr.heap.size wr w' → w'.cell? ⟨w.heap.size, 0, none⟩ = some (.int .i64 il) ∧ w'.cell? ⟨w.heap.size, 1, none⟩ = some (.int .i64 ih) ∧ w'.cell? ⟨w.heap.size, 2, none⟩ = some (.slice (some ⟨C, P, none⟩) (ll + 1) cp) ∧ w'.cell? ⟨C, P + k * 2, none⟩ = some (.int .i64 (p k).lo) ∧ w'.cell? ⟨C, P + k * 2 + 1, none⟩ = some (.int .i64 (p k).hi) ∧ w'.cell? ⟨C, P + (k + 1) * 2, none⟩ = some (.int .i64 (p (k + 1)).lo) ∧ w'.cell? ⟨C, P + (k + 1) * 2 + 1, none⟩ = some (.int .i64 (p (k + 1)).hi)) := Lib.hid fun w' h => by
        obtain ⟨z0, z1, z2, z3, zs⟩ := FX.out _ (hbw.trans (h.mono hbw.size))
        obtain ⟨y0, y1⟩ := zs k (by omega)
        obtain ⟨y2, y3⟩ := zs (k + 1) (by omega)
        exact ⟨z0, z1, z2, y0, y1, y2, y3⟩
      go_wp2
      have n1 : (0 : Int) ≤ (k : Int) := by omega
      have n2 : (k : Int) < ((ll + 1 : Nat) : Int) := by omega
      have n3 : IntKind.i64.wrap ((k : Int) + 1) = (k : Int) + 1 := IntWalk.i64_in _ (by omega)
      have n4 : (0 : Int) ≤ (k : Int) + 1 := by omega
      have n5 : (k : Int) + 1 < ((ll + 1 : Nat) : Int) := by omega
      have n6 : ((k : Int) + 1).toNat = k + 1 := by omega
      have n7 : (k : Int) ≤ (ll : Int) := by omega
      have n8 : (k : Int) < (ll : Int) + 1 := by omega
      have n9 : (k : Int) + 1 < (ll : Int) + 1 := by omega
      go_region_held3 (fun w' => w'.cell? ⟨w.heap.size, 0, none⟩ = some (.int .i64 il) ∧ w'.cell? ⟨w.heap.size, 1, none⟩ = some (.int .i64 ih) ∧ w'.cell? ⟨w.heap.size, 2, none⟩ = some (.slice (some ⟨C, P, none⟩) (ll + 1) cp) ∧ w'.cell? ⟨C, P + k * 2, none⟩ = some (.int .i64 (p k).lo) ∧ w'.cell? ⟨C, P + k * 2 + 1, none⟩ = some (.int .i64 (p k).hi) ∧ w'.cell? ⟨C, P + (k + 1) * 2, none⟩ = some (.int .i64 (p (k + 1)).lo) ∧ w'.cell? ⟨C, P + (k + 1) * 2 + 1, none⟩ = some (.int .i64 (p (k + 1)).hi))
        ((refine FY.out _ ?_; repeat (first | exact Below.refl _ _ | refine Below.setCell ?_ (by simp) _ | refine Below.alloc ?_ (by simp) _ | refine Below.drew ?_)))
        ((fail))
      have h0 := spanB_h H.out.iok
      have h1 := spanB_h (H.out.pok k (by omega))
      have h2 := spanB_h (H.out.pok (k + 1) (by omega))
      clear FY x0 x1 x2 x3 y0 y1 y2 y3
      go_wp2_with (go_at_call 97; refine (segSpan_w _ _ _ _ _ _ _ h0.1 h0.2.1 h1.1 h1.2.1 h2.1 h2.2.1).mono ?_; rintro e w2 ⟨rfl, hb2⟩; have hbr : Below wr.heap.size wr w2 := Below.trans (by repeat (first | exact Below.refl _ _ | refine Below.setCell ?_ (by simp) _ | refine Below.alloc ?_ (by simp) _ | refine Below.drew ?_)) (hb2.mono (by simp)); have hr2 := HROW.out.below hgz hbr; obtain ⟨⟨v0, hv0⟩, hf0⟩ := hr2.2 (k * 2) (by omega); obtain ⟨⟨v1, hv1⟩, hf1⟩ := hr2.2 (k * 2 + 1) (by omega))
      go_roundw
      case rel => exact ⟨k + 1, by omega, by go_num, ((hbw.trans (hbr.mono hbw.size)).setCell (by simp; omega) _).setCell (by simp; omega) _, (hr2.set _ _).set _ _, (HSP.out.below hgz hbr).snoc hr2 (by omega)⟩
      case measure => simp [intOf]; omega
    · clear xs
      go_wp2
      go_ret
      obtain rfl : k = ll := by omega
      exact ⟨⟨_, rfl, by omega, HROW.out.1, HSP.out⟩, hB0.trans (hbw.mono (by omega))⟩
end Go.Kn
