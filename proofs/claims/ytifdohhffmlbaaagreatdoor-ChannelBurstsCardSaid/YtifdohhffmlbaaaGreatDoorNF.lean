/- Walks of the functions of layer 2 that ChannelPressures calls, and the law itself (a part of it). Conditions: as each theorem states them. -/
import Derived.Test.YtifdohhffmlbaaaGreatDoorNE
set_option linter.unusedVariables false
set_option linter.unusedSimpArgs false
namespace Go.Kn
open Go Go.Proofs Go.RowKit

/-- the cells of the first n spans -/
def flat (p : Nat → Sp2) : Nat → List Value
  | 0 => []
  | n + 1 => flat p n ++ [.int .i64 (p n).lo, .int .i64 (p n).hi]
theorem flat_len (p : Nat → Sp2) (n : Nat) : (flat p n).length = n * 2 := by
  induction n with
  | zero => rfl
  | succ n ih => simp [flat, ih]; omega
theorem flat_at (p : Nat → Sp2) : ∀ (n i : Nat), i < n → (flat p n)[i * 2]? = some (.int .i64 (p i).lo) ∧ (flat p n)[i * 2 + 1]? = some (.int .i64 (p i).hi) := by
  intro n
  induction n with
  | zero => intro i h; omega
  | succ n ih =>
    intro i h
    have hl := flat_len p n
    by_cases e : i = n
    · subst e
      simp only [flat]
      rw [List.getElem?_append_right (by omega), List.getElem?_append_right (by omega), hl]
      simp
    · obtain ⟨h1, h2⟩ := ih i (by omega)
      simp only [flat]
      rw [List.getElem?_append_left (by omega), List.getElem?_append_left (by omega)]
      exact ⟨h1, h2⟩
theorem spAt_of_owns {w : World} {base g n cap : Nat} {p : Nat → Sp2} (h : w.ownsRow base 31 2 (.slice (some ⟨g, 0, none⟩) n cap) n (flat p n)) : SpAt w g 0 n p := by
  intro i hi
  obtain ⟨h1, h2⟩ := flat_at p n i hi
  have key : ∀ j v, (flat p n)[j]? = some v → w.cell? ⟨g, j, none⟩ = some v := by
    rcases h.2 with ⟨e, _⟩ | ⟨g', cap', cur, e, hb, hg, hn, hc, hs, hx⟩
    · cases e
    · cases e
      intro j v hj
      rw [← hx] at hj
      rw [List.getElem?_take] at hj
      split at hj
      · simp only [Array.getElem?_toList] at hj
        simp [World.cell?, hg, hj]
      · cases hj
  simp only [Nat.zero_add]
  exact ⟨key _ _ h1, key _ _ h2⟩
theorem own_ne {W : World} {n0 e size k B : Nat} {v : Value} {xs : List Value} (h : W.ownsRow n0 e size v k xs) (hB : B < n0 ∨ W.heap.size ≤ B) : some B ≠ v.ownBlock := by
  rcases h.2 with ⟨rfl, _⟩ | ⟨g, cap, cur, rfl, hb, hg, _⟩
  · simp [Value.ownBlock]
  · intro e'
    obtain rfl : B = g := by simpa [Value.ownBlock] using e'
    have := (Array.getElem?_eq_some_iff.1 hg).1
    omega
theorem own_ge {W : World} {n0 e size k : Nat} {v : Value} {xs : List Value} (h : W.ownsRow n0 e size v k xs) (r : Nat) (hr : v.ownBlock = some r) : n0 ≤ r := by
  rcases h.2 with ⟨rfl, _⟩ | ⟨g, cap, cur, rfl, hb, hg, _⟩
  · simp [Value.ownBlock] at hr
  · obtain rfl : g = r := by simpa [Value.ownBlock] using hr
    exact hb
theorem lies2 {W2 : World} {n : Nat} (hz : W2.heap.size = n) (x y : Value) (T : TypeId) : ∀ (j : Nat) (u : Value), [x, y][j]? = some u → (W2.drew.alloc (.cells #[x, y] T)).cell? ((⟨n, 0, none⟩ : Addr).add j) = some u := by
  subst hz
  intro j u h
  match j, h with
  | 0, h =>
    simp at h; subst h
    show (W2.alloc (.cells #[x, y] T)).cell? _ = _
    simp [Addr.add]
  | 1, h =>
    simp at h; subst h
    show (W2.alloc (.cells #[x, y] T)).cell? _ = _
    simp [Addr.add]

set_option maxRecDepth 100000 in
set_option maxHeartbeats 4000000 in
theorem rpress_w (il ih : Int) (C P cp A O ll cl : Nat) (p : Nat → Sp2) (l : Nat → Int) (w : World) (H : Hid (SipAt w C P (ll + 1) A O ll il ih p l)) :
    Calls Tryz.prog 45 #[.agg #[.int .i64 il, .int .i64 ih, .slice (some ⟨C, P, none⟩) (ll + 1) cp, .slice (some ⟨A, O, none⟩) ll cl]] w
      fun e w' => (∃ v, e = .returned v ∧ w'.ownsRow (w.heap.size + 1) 31 2 v ll (flat (prOf il ih p) ll)) ∧ Below w.heap.size w w' := by
  have BX := Lib.hid (fun (w1 : World) (hb : Below (w.alloc (.cells #[.int .i64 il, .int .i64 ih, .slice (some ⟨C, P, none⟩) (ll + 1) cp, .slice (some ⟨A, O, none⟩) ll cl] 70)).heap.size (w.alloc (.cells #[.int .i64 il, .int .i64 ih, .slice (some ⟨C, P, none⟩) (ll + 1) cp, .slice (some ⟨A, O, none⟩) ll cl] 70)) w1) => bcell4 hb)
  have HL : Hid (∀ w1, Below (w.alloc (.cells #[.int .i64 il, .int .i64 ih, .slice (some ⟨C, P, none⟩) (ll + 1) cp, .slice (some ⟨A, O, none⟩) ll cl] 70)).heap.size (w.alloc (.cells #[.int .i64 il, .int .i64 ih, .slice (some ⟨C, P, none⟩) (ll + 1) cp, .slice (some ⟨A, O, none⟩) ll cl] 70)) w1 → SipAt w1 C P (ll + 1) A O ll il ih p l) := Lib.hid fun w1 h => H.out.below (below_al h)
  have q1 := H.out.lp1
  have q2 := H.out.lp2
  have hP := Lib.hid H.out.pok
  obtain ⟨hi1, hi2, hi3⟩ := spanB_h H.out.iok
  obtain ⟨i0, hi, hz0, hz1, hz22⟩ := info_parts info31
  go_enter Tryz.func45, Tryz.ntmps45
  go_wp2
  go_loopw [3, 4] (fun v i wr => ∃ k : Nat, k ≤ ll ∧ i = .int .i64 k ∧ wr.ownsRow (w.heap.size + 1) 31 2 v k (flat (prOf il ih p) k) ∧ Below (w.alloc (.cells #[.int .i64 il, .int .i64 ih, .slice (some ⟨C, P, none⟩) (ll + 1) cp, .slice (some ⟨A, O, none⟩) ll cl] 70)).heap.size (w.alloc (.cells #[.int .i64 il, .int .i64 ih, .slice (some ⟨C, P, none⟩) (ll + 1) cp, .slice (some ⟨A, O, none⟩) ll cl] 70)) wr) (fun _ i _ => ll - (intOf i).toNat)
  case atStart => exact ⟨0, Nat.zero_le _, rfl, World.ownsRow_nil _ _ _ _, Below.refl _ _⟩
  case round =>
    obtain ⟨k, hk, rfl, hown, hbw⟩ := hrel
    have HOWN := Lib.hid hown
    clear hown
    obtain ⟨x0, x1, x2, x3, x4⟩ := BX.out _ hbw
    by_cases hlt : k < ll
    · obtain ⟨y0, y1⟩ := (HL.out _ hbw).sp k (by omega)
      obtain ⟨y2, y3⟩ := (HL.out _ hbw).sp (k + 1) (by omega)
      have FY : Hid (∀ w', Below wr.heap.size wr w' → w'.cell? ⟨w.heap.size, 2, none⟩ = some (.slice (some ⟨C, P, none⟩) (ll + 1) cp) ∧ w'.cell? ⟨C, P + k * 2, none⟩ = some (.int .i64 (p k).lo) ∧ w'.cell? ⟨C, P + k * 2 + 1, none⟩ = some (.int .i64 (p k).hi) ∧ w'.cell? ⟨C, P + (k + 1) * 2, none⟩ = some (.int .i64 (p (k + 1)).lo) ∧ w'.cell? ⟨C, P + (k + 1) * 2 + 1, none⟩ = some (.int .i64 (p (k + 1)).hi)) := Lib.hid fun w' h => by
        have hh := hbw.trans (h.mono hbw.size)
        obtain ⟨z0, z1, z2, z3, _⟩ := BX.out _ hh
        obtain ⟨y0, y1⟩ := (HL.out _ hh).sp k (by omega)
        obtain ⟨y2, y3⟩ := (HL.out _ hh).sp (k + 1) (by omega)
        exact ⟨z2, y0, y1, y2, y3⟩
      obtain ⟨ha1, ha2, ha3⟩ := spanB_h (hP.out k (by omega))
      obtain ⟨hc1, hc2, hc3⟩ := spanB_h (hP.out (k + 1) (by omega))
      have e1 : presV ih (p k).lo (p (k + 1)).lo = (prOf il ih p k).hi := by simp only [presV, prOf, prHi]; omega
      have e2 : presV il (p k).hi (p (k + 1)).hi = (prOf il ih p k).lo := by simp only [presV, prOf, prLo]; omega
      clear ha3 hc3 hi3
      have n1 : (0 : Int) ≤ (k : Int) := by omega
      have n2 : (k : Int) < ((ll + 1 : Nat) : Int) := by omega
      have n3 : IntKind.i64.wrap ((k : Int) + 1) = (k : Int) + 1 := IntWalk.i64_in _ (by omega)
      have n4 : (0 : Int) ≤ (k : Int) + 1 := by omega
      have n5 : (k : Int) + 1 < ((ll + 1 : Nat) : Int) := by omega
      have n6 : ((k : Int) + 1).toNat = k + 1 := by omega
      have n8 : (k : Int) < (ll : Int) + 1 := by omega
      have n9 : (k : Int) + 1 < (ll : Int) + 1 := by omega
      have n10 : (k : Int) < (ll : Int) := by omega
      go_wp2
      go_region_held3 (fun w' => w'.cell? ⟨w.heap.size, 2, none⟩ = some (.slice (some ⟨C, P, none⟩) (ll + 1) cp) ∧ w'.cell? ⟨C, P + k * 2, none⟩ = some (.int .i64 (p k).lo) ∧ w'.cell? ⟨C, P + k * 2 + 1, none⟩ = some (.int .i64 (p k).hi) ∧ w'.cell? ⟨C, P + (k + 1) * 2, none⟩ = some (.int .i64 (p (k + 1)).lo) ∧ w'.cell? ⟨C, P + (k + 1) * 2 + 1, none⟩ = some (.int .i64 (p (k + 1)).hi))
        ((refine FY.out _ ?_; repeat (first | exact Below.refl _ _ | refine Below.setCell ?_ (by simp; try omega) _ | refine Below.alloc ?_ (by simp; try omega) _ | refine Below.drew ?_)))
        ((fail))
      · obtain ⟨W2, hW2⟩ : ∃ W2, W2 = ((wr.alloc (.cells #[.int .i64 (p k).lo, .int .i64 (p k).hi] 31)).alloc (.cells #[.int .i64 (p (k + 1)).lo, .int .i64 (p (k + 1)).hi] 31)).drew := ⟨_, rfl⟩
        have hz2 : W2.heap.size = wr.heap.size + 1 + 1 := by rw [hW2]; simp
        have hbr : Below wr.heap.size wr W2 := by rw [hW2]; repeat (first | exact Below.refl _ _ | refine Below.setCell ?_ (by simp; try omega) _ | refine Below.alloc ?_ (by simp; try omega) _ | refine Below.drew ?_)
        have hown2 := ((HOWN.out.alloc (.cells #[.int .i64 (p k).lo, .int .i64 (p k).hi] 31)).alloc (.cells #[.int .i64 (p (k + 1)).lo, .int .i64 (p (k + 1)).hi] 31)).drew
        rw [← hW2] at hown2
        have FZ : Hid (∀ w', Below W2.heap.size W2 w' → w'.cell? ⟨w.heap.size, 0, none⟩ = some (.int .i64 il) ∧ w'.cell? ⟨w.heap.size, 1, none⟩ = some (.int .i64 ih) ∧ w'.cell? ⟨wr.heap.size, 0, none⟩ = some (.int .i64 (p k).lo) ∧ w'.cell? ⟨wr.heap.size, 1, none⟩ = some (.int .i64 (p k).hi) ∧ w'.cell? ⟨wr.heap.size + 1, 0, none⟩ = some (.int .i64 (p (k + 1)).lo) ∧ w'.cell? ⟨wr.heap.size + 1, 1, none⟩ = some (.int .i64 (p (k + 1)).hi)) := Lib.hid fun w' h => by
          obtain ⟨x0, x1, _, _, _⟩ := BX.out _ (hbw.trans ((hbr.trans (h.mono hbr.size)).mono hbw.size))
          have q : ∀ b o, b < W2.heap.size → w'.cell? ⟨b, o, none⟩ = W2.cell? ⟨b, o, none⟩ := (bcell h).1
          exact ⟨x0, x1, (q _ _ (by omega)).trans (by rw [hW2]; simp), (q _ _ (by omega)).trans (by rw [hW2]; simp), (q _ _ (by omega)).trans (by rw [hW2]; simp), (q _ _ (by omega)).trans (by rw [hW2]; simp)⟩
        have FZ2 : Hid (∀ w' o row, (W2.drew.alloc o).grownBy w' row → some w.heap.size ≠ row → some wr.heap.size ≠ row → some (wr.heap.size + 1) ≠ row → w'.cell? ⟨w.heap.size, 0, none⟩ = some (.int .i64 il) ∧ w'.cell? ⟨w.heap.size, 1, none⟩ = some (.int .i64 ih) ∧ w'.cell? ⟨wr.heap.size, 0, none⟩ = some (.int .i64 (p k).lo) ∧ w'.cell? ⟨wr.heap.size, 1, none⟩ = some (.int .i64 (p k).hi) ∧ w'.cell? ⟨wr.heap.size + 1, 0, none⟩ = some (.int .i64 (p (k + 1)).lo) ∧ w'.cell? ⟨wr.heap.size + 1, 1, none⟩ = some (.int .i64 (p (k + 1)).hi)) := Lib.hid fun w' o row hg r0 r1 r2 => by
          have hz3 : (W2.drew.alloc o).heap.size = wr.heap.size + 1 + 1 + 1 := by simp; omega
          have hz4 : w.heap.size < wr.heap.size := x4
          obtain ⟨z0, z1, z2, z3, z4, z5⟩ := FZ.out (W2.drew.alloc o) ((Below.refl _ _).drew.alloc (Nat.le_refl _) _)
          exact ⟨(hg.cell_far _ (by simp only []; omega) r0).trans z0, (hg.cell_far _ (by simp only []; omega) r0).trans z1, (hg.cell_far _ (by simp only []; omega) (by assumption)).trans z2, (hg.cell_far _ (by simp only []; omega) (by assumption)).trans z3, (hg.cell_far _ (by simp only []; omega) (by assumption)).trans z4, (hg.cell_far _ (by simp only []; omega) (by assumption)).trans z5⟩
        rw [← hW2]
        clear hW2 x0 x1 x2 x3 y0 y1 y2 y3
        obtain ⟨x0, x1, y0, y1, y2, y3⟩ := FZ.out _ (Below.refl _ _)
        go_wp2
        go_region_held3 (fun w' => w'.cell? ⟨w.heap.size, 0, none⟩ = some (.int .i64 il) ∧ w'.cell? ⟨w.heap.size, 1, none⟩ = some (.int .i64 ih) ∧ w'.cell? ⟨wr.heap.size, 0, none⟩ = some (.int .i64 (p k).lo) ∧ w'.cell? ⟨wr.heap.size, 1, none⟩ = some (.int .i64 (p k).hi) ∧ w'.cell? ⟨wr.heap.size + 1, 0, none⟩ = some (.int .i64 (p (k + 1)).lo) ∧ w'.cell? ⟨wr.heap.size + 1, 1, none⟩ = some (.int .i64 (p (k + 1)).hi))
          ((first | exact hS | (refine FZ.out _ ?_; repeat (first | exact Below.refl _ _ | refine Below.alloc ?_ (by simp; try omega) _ | refine Below.drew ?_))))
          ((first
            | (go_at_call 48; refine (pressure_w _ _ _ _ (by assumption) (by assumption) (by assumption)).mono ?_; rintro e w' ⟨rfl, rfl⟩)
            | (refine step_append_lies _ rfl (.tmp 25) (.tmp 43) 68 rfl (w.heap.size + 1) 31 i0 _ 2 16 Tryz.underlying68 hi hz0 hz1 hz22 rfl (by decide) _ k _ rfl (hown2.drew.alloc _) ⟨_, 0, none⟩ 1 1 [.int .i64 (prOf il ih p k).lo, .int .i64 (prOf il ih p k).hi] rfl rfl (lies2 hz2 _ _ _) (by intro u hu; simp at hu; rcases hu with rfl | rfl <;> rfl) (by decide) (by unfold maxLen; omega) (by omega) (by simp; omega) _ rfl ?_; intro g cap w1 hown1 hgrow hat hlt9; have hS := FZ2.out _ _ _ hgrow (own_ne HOWN.out (.inl (by omega))) (own_ne HOWN.out (.inr (by omega))) (own_ne HOWN.out (.inr (by omega))))))
        go_wp2
        go_roundw
        case rel =>
          have hz5 : (w.alloc (.cells #[.int .i64 il, .int .i64 ih, .slice (some ⟨C, P, none⟩) (ll + 1) cp, .slice (some ⟨A, O, none⟩) ll cl] 70)).heap.size = w.heap.size + 1 := by simp
          have hbb := hbw.trans (hbr.mono hbw.size)
          exact ⟨k + 1, by omega, by go_num, hown1, (hbb.drew.alloc (by simp; omega) _).grown hgrow (by simp; omega) (fun r e => by rw [hz5]; exact own_ge HOWN.out r e)⟩
        case measure => simp [intOf]; omega
      · obtain ⟨W2, hW2⟩ : ∃ W2, W2 = ((wr.alloc (.cells #[.int .i64 (p (k + 1)).lo, .int .i64 (p (k + 1)).hi] 31)).alloc (.cells #[.int .i64 (p k).lo, .int .i64 (p k).hi] 31)).drew := ⟨_, rfl⟩
        have hz2 : W2.heap.size = wr.heap.size + 1 + 1 := by rw [hW2]; simp
        have hbr : Below wr.heap.size wr W2 := by rw [hW2]; repeat (first | exact Below.refl _ _ | refine Below.setCell ?_ (by simp; try omega) _ | refine Below.alloc ?_ (by simp; try omega) _ | refine Below.drew ?_)
        have hown2 := ((HOWN.out.alloc (.cells #[.int .i64 (p (k + 1)).lo, .int .i64 (p (k + 1)).hi] 31)).alloc (.cells #[.int .i64 (p k).lo, .int .i64 (p k).hi] 31)).drew
        rw [← hW2] at hown2
        have FZ : Hid (∀ w', Below W2.heap.size W2 w' → w'.cell? ⟨w.heap.size, 0, none⟩ = some (.int .i64 il) ∧ w'.cell? ⟨w.heap.size, 1, none⟩ = some (.int .i64 ih) ∧ w'.cell? ⟨wr.heap.size + 1, 0, none⟩ = some (.int .i64 (p k).lo) ∧ w'.cell? ⟨wr.heap.size + 1, 1, none⟩ = some (.int .i64 (p k).hi) ∧ w'.cell? ⟨wr.heap.size, 0, none⟩ = some (.int .i64 (p (k + 1)).lo) ∧ w'.cell? ⟨wr.heap.size, 1, none⟩ = some (.int .i64 (p (k + 1)).hi)) := Lib.hid fun w' h => by
          obtain ⟨x0, x1, _, _, _⟩ := BX.out _ (hbw.trans ((hbr.trans (h.mono hbr.size)).mono hbw.size))
          have q : ∀ b o, b < W2.heap.size → w'.cell? ⟨b, o, none⟩ = W2.cell? ⟨b, o, none⟩ := (bcell h).1
          exact ⟨x0, x1, (q _ _ (by omega)).trans (by rw [hW2]; simp), (q _ _ (by omega)).trans (by rw [hW2]; simp), (q _ _ (by omega)).trans (by rw [hW2]; simp), (q _ _ (by omega)).trans (by rw [hW2]; simp)⟩
        have FZ2 : Hid (∀ w' o row, (W2.drew.alloc o).grownBy w' row → some w.heap.size ≠ row → some wr.heap.size ≠ row → some (wr.heap.size + 1) ≠ row → w'.cell? ⟨w.heap.size, 0, none⟩ = some (.int .i64 il) ∧ w'.cell? ⟨w.heap.size, 1, none⟩ = some (.int .i64 ih) ∧ w'.cell? ⟨wr.heap.size + 1, 0, none⟩ = some (.int .i64 (p k).lo) ∧ w'.cell? ⟨wr.heap.size + 1, 1, none⟩ = some (.int .i64 (p k).hi) ∧ w'.cell? ⟨wr.heap.size, 0, none⟩ = some (.int .i64 (p (k + 1)).lo) ∧ w'.cell? ⟨wr.heap.size, 1, none⟩ = some (.int .i64 (p (k + 1)).hi)) := Lib.hid fun w' o row hg r0 r1 r2 => by
          have hz3 : (W2.drew.alloc o).heap.size = wr.heap.size + 1 + 1 + 1 := by simp; omega
          have hz4 : w.heap.size < wr.heap.size := x4
          obtain ⟨z0, z1, z2, z3, z4, z5⟩ := FZ.out (W2.drew.alloc o) ((Below.refl _ _).drew.alloc (Nat.le_refl _) _)
          exact ⟨(hg.cell_far _ (by simp only []; omega) r0).trans z0, (hg.cell_far _ (by simp only []; omega) r0).trans z1, (hg.cell_far _ (by simp only []; omega) (by assumption)).trans z2, (hg.cell_far _ (by simp only []; omega) (by assumption)).trans z3, (hg.cell_far _ (by simp only []; omega) (by assumption)).trans z4, (hg.cell_far _ (by simp only []; omega) (by assumption)).trans z5⟩
        rw [← hW2]
        clear hW2 x0 x1 x2 x3 y0 y1 y2 y3
        obtain ⟨x0, x1, y0, y1, y2, y3⟩ := FZ.out _ (Below.refl _ _)
        go_wp2
        go_region_held3 (fun w' => w'.cell? ⟨w.heap.size, 0, none⟩ = some (.int .i64 il) ∧ w'.cell? ⟨w.heap.size, 1, none⟩ = some (.int .i64 ih) ∧ w'.cell? ⟨wr.heap.size + 1, 0, none⟩ = some (.int .i64 (p k).lo) ∧ w'.cell? ⟨wr.heap.size + 1, 1, none⟩ = some (.int .i64 (p k).hi) ∧ w'.cell? ⟨wr.heap.size, 0, none⟩ = some (.int .i64 (p (k + 1)).lo) ∧ w'.cell? ⟨wr.heap.size, 1, none⟩ = some (.int .i64 (p (k + 1)).hi))
          ((first | exact hS | (refine FZ.out _ ?_; repeat (first | exact Below.refl _ _ | refine Below.alloc ?_ (by simp; try omega) _ | refine Below.drew ?_))))
          ((first
            | (go_at_call 48; refine (pressure_w _ _ _ _ (by assumption) (by assumption) (by assumption)).mono ?_; rintro e w' ⟨rfl, rfl⟩)
            | (refine step_append_lies _ rfl (.tmp 25) (.tmp 43) 68 rfl (w.heap.size + 1) 31 i0 _ 2 16 Tryz.underlying68 hi hz0 hz1 hz22 rfl (by decide) _ k _ rfl (hown2.drew.alloc _) ⟨_, 0, none⟩ 1 1 [.int .i64 (prOf il ih p k).lo, .int .i64 (prOf il ih p k).hi] rfl rfl (lies2 hz2 _ _ _) (by intro u hu; simp at hu; rcases hu with rfl | rfl <;> rfl) (by decide) (by unfold maxLen; omega) (by omega) (by simp; omega) _ rfl ?_; intro g cap w1 hown1 hgrow hat hlt9; have hS := FZ2.out _ _ _ hgrow (own_ne HOWN.out (.inl (by omega))) (own_ne HOWN.out (.inr (by omega))) (own_ne HOWN.out (.inr (by omega))))))
        go_wp2
        go_roundw
        case rel =>
          have hz5 : (w.alloc (.cells #[.int .i64 il, .int .i64 ih, .slice (some ⟨C, P, none⟩) (ll + 1) cp, .slice (some ⟨A, O, none⟩) ll cl] 70)).heap.size = w.heap.size + 1 := by simp
          have hbb := hbw.trans (hbr.mono hbw.size)
          exact ⟨k + 1, by omega, by go_num, hown1, (hbb.drew.alloc (by simp; omega) _).grown hgrow (by simp; omega) (fun r e => by rw [hz5]; exact own_ge HOWN.out r e)⟩
        case measure => simp [intOf]; omega
    · go_wp2
      go_ret
      obtain rfl : k = ll := by omega
      exact ⟨⟨_, rfl, HOWN.out⟩, below_al hbw⟩
end Go.Kn
