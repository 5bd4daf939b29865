/- Contracts of functions that the laws of this seat call, or the evaluator of closed calls and its runs. Conditions: as each theorem states them. -/
import Derived.Test.YtddlghdglknloaaGreatDoorL8
import Derived.Test.YtddlghdglknloaaGreatDoorKN
set_option linter.unusedVariables false
set_option linter.unusedSimpArgs false
namespace Go.Kn
open Go Go.Proofs Go.RowKit

/-- points of which one has another need -/
def updN (P : Nat → P8) (p : Nat) (v : Int) : Nat → P8 := fun i => if i = p then ⟨(P i).lo, (P i).hi, v⟩ else P i
theorem updN_lo {P : Nat → P8} {p i : Nat} {v : Int} : (updN P p v i).lo = (P i).lo := by unfold updN; split <;> rfl
theorem updN_hi {P : Nat → P8} {p i : Nat} {v : Int} : (updN P p v i).hi = (P i).hi := by unfold updN; split <;> rfl
theorem updN_nd {P : Nat → P8} {p i : Nat} {v : Int} : (updN P p v i).nd = if i = p then v else (P i).nd := by unfold updN; split <;> rfl
theorem NetP.upd {lp : Nat} {P : Nat → P8} {lc : Nat} {C : Nat → C8} (h : NetP lp P lc C) {p : Nat} {v : Int} (hv : 0 ≤ v ∧ v ≤ 10000) : NetP lp (updN P p v) lc C := by
  refine ⟨h.l1, h.l7, h.c10, fun i hi => ?_, h.ch, h.g7⟩
  have := h.p hi
  simp only [ptB, fromB, updN_lo, updN_hi, updN_nd, Bool.and_eq_true, decide_eq_true_eq]
  split <;> omega
theorem leftV_upd {P : Nat → P8} {p i : Nat} {v : Int} : leftV (updN P p v) false i = if i = p then leftV P false i + (P i).nd - v else leftV P false i := by
  simp only [leftV, updN_lo, updN_nd, Bool.false_eq_true, if_false]
  split <;> omega
theorem sumL_upd {P : Nat → P8} {p : Nat} {v : Int} : ∀ {L : List Nat}, L.Nodup → sumL (leftV (updN P p v) false) L = sumL (leftV P false) L + (if p ∈ L then (P p).nd - v else 0)
  | [], _ => by simp [sumL]
  | x :: L, hn => by
    obtain ⟨h1, h2⟩ := List.nodup_cons.1 hn
    have ih := sumL_upd (P := P) (p := p) (v := v) h2
    simp only [sumL, leftV_upd, ih, List.mem_cons]
    by_cases e : x = p
    · subst e
      simp [h1]; omega
    · have e2 : ¬ p = x := fun h => e h.symm
      simp [e, e2]; omega
theorem spareV_upd {P : Nat → P8} {lc : Nat} {C : Nat → C8} {op : Nat → Bool} {p : Nat} {v : Int} {L : List Nat} (h : L.Nodup) : spareV (updN P p v) lc C op false L = spareV P lc C op false L + (if p ∈ L then (P p).nd - v else 0) := by
  unfold spareV
  rw [sumL_upd h]
  omega
/-- a network that is fed is fed with another need just if that is not greater than the greatest -/
theorem fed_upd {lp : Nat} {P : Nat → P8} {lc : Nat} {C : Nat → C8} {op : Nat → Bool} {p : Nat} {v : Int} (hf : fedV lp P lc C op false = true) (hv : v ≤ 10000) : fedV lp (updN P p v) lc C op false = decide (v ≤ mosF P lc C op p (allLs (List.range lp))) := by
  rw [Bool.eq_iff_iff, fed_iff, decide_eq_true_eq, mosF_le]
  have hn : ∀ L ∈ allLs (List.range lp), L.Nodup := fun L hL => List.Nodup.sublist (allLs_iff.1 hL) List.nodup_range
  have h0 := fed_iff.1 hf
  constructor
  · intro h
    refine ⟨hv, fun L hL hm => ?_⟩
    have h1 := h L hL
    rw [spareV_upd (hn L hL)] at h1
    rw [memI_nat, decide_eq_true_eq] at hm
    rw [if_pos hm] at h1
    omega
  · rintro ⟨_, h⟩ L hL
    rw [spareV_upd (hn L hL)]
    by_cases hm : p ∈ L
    · have h1 := h L hL (by rw [memI_nat, decide_eq_true_eq]; exact hm)
      rw [if_pos hm]; omega
    · have := h0 L hL
      rw [if_neg hm]; omega
theorem mosF_need {lp : Nat} {P : Nat → P8} {lc : Nat} {C : Nat → C8} {op : Nat → Bool} {p : Nat} (h : NetP lp P lc C) (hp : p < lp) (hf : fedV lp P lc C op false = true) : (P p).nd ≤ mosF P lc C op p (allLs (List.range lp)) ∧ mosF P lc C op p (allLs (List.range lp)) ≤ 10000 := by
  have h1 := h.p hp
  refine ⟨(mosF_le _ _).2 ⟨by omega, fun L hL _ => by have := fed_iff.1 hf L hL; omega⟩, ((mosF_le _ _).1 (Int.le_refl _)).1⟩

/-- the cells of points, one behind another -/
def ptCell (P : Nat → P8) (j : Nat) : Value := if j % 3 = 0 then .int .i64 (P (j / 3)).lo else if j % 3 = 1 then .int .i64 (P (j / 3)).hi else .int .i64 (P (j / 3)).nd
def ptCells (P : Nat → P8) (lp : Nat) : List Value := (List.range (lp * 3)).map (ptCell P)
theorem ptCell_at {w : World} {A O lp : Nat} {P : Nat → P8} (h : PtAt w A O lp P) {j : Nat} (hj : j < lp * 3) : w.cell? ⟨A, O + j, none⟩ = some (ptCell P j) := by
  obtain ⟨h0, h1, h2⟩ := h (j / 3) (by omega)
  unfold ptCell
  by_cases e0 : j % 3 = 0
  · rw [if_pos e0]
    have : O + j = O + j / 3 * 3 := by omega
    rw [this]; exact h0
  · rw [if_neg e0]
    by_cases e1 : j % 3 = 1
    · rw [if_pos e1]
      have : O + j = O + j / 3 * 3 + 1 := by omega
      rw [this]; exact h1
    · rw [if_neg e1]
      have : O + j = O + j / 3 * 3 + 2 := by omega
      rw [this]; exact h2
theorem ptAt_of {w : World} {g lp : Nat} {P : Nat → P8} (h : ∀ j, j < lp * 3 → w.cell? ⟨g, j, none⟩ = some (ptCell P j)) : PtAt w g 0 lp P := by
  intro i hi
  have h0 := h (i * 3) (by omega)
  have h1 := h (i * 3 + 1) (by omega)
  have h2 := h (i * 3 + 2) (by omega)
  unfold ptCell at h0 h1 h2
  rw [if_pos (by omega), show i * 3 / 3 = i by omega] at h0
  rw [if_neg (by omega), if_pos (by omega), show (i * 3 + 1) / 3 = i by omega] at h1
  rw [if_neg (by omega), if_neg (by omega), show (i * 3 + 2) / 3 = i by omega] at h2
  rw [Nat.zero_add]
  exact ⟨h0, h1, h2⟩
theorem pt_owned {w : World} {base lp : Nat} {v : Value} {P : Nat → P8} (h : w.ownsRow base 37 3 v lp (ptCells P lp)) (h0 : 0 < lp) : ∃ g cap, v = .slice (some ⟨g, 0, none⟩) lp cap ∧ base ≤ g ∧ g < w.heap.size ∧ (∀ j, j < lp * 3 → w.cell? ⟨g, j, none⟩ = some (ptCell P j)) ∧ ∀ j, j < lp * 3 → w.frozen? ⟨g, j, none⟩ = false := by
  rcases h.2 with ⟨h1, h2⟩ | ⟨g, cap, cur, h1, hb, hg, hn, hc, hs, hx⟩
  · omega
  · refine ⟨g, cap, h1, hb, (Array.getElem?_eq_some_iff.1 hg).1, fun j hj => ?_, fun j hj => by simp [World.frozen?, hg]⟩
    have e1 : (ptCells P lp)[j]? = some (ptCell P j) := by simp [ptCells, hj]
    rw [← hx, List.getElem?_take, if_pos hj] at e1
    simp only [Array.getElem?_toList] at e1
    simp [World.cell?, hg, e1]
theorem al_froz {W : World} {n o : Nat} {cs : Array Value} {T : TypeId} (hn : W.heap.size = n) : (W.alloc (.cells cs T)).frozen? ⟨n, o, none⟩ = false := by
  subst hn
  simp
theorem info37 : (Tryz.prog.info? 37).map (fun i => (i.zero, i.size, i.bytes)) = some (some (.agg #[.int .i64 0, .int .i64 0, .int .i64 0]), 3, 24) := by kernel_rfl

set_option maxRecDepth 100000 in
set_option maxHeartbeats 8000000 in
theorem needed_w (pa ca : Option Addr) (lp cp lc cc p : Nat) (P : Nat → P8) (C : Nat → C8) (v : Int) (w : World) (hl7 : lp ≤ 7) (hp : p < lp) (H : Hid (Ne8 w pa ca lp lc P C)) :
    Calls Tryz.prog 30 #[.agg #[.slice pa lp cp, .slice ca lc cc], .int .i64 (p : Int), .int .i64 v] w fun e w' => (∃ g c2, e = .returned (.agg #[.slice (some ⟨g, 0, none⟩) lp c2, .slice ca lc cc]) ∧ Ne8 w' (some ⟨g, 0, none⟩) ca lp lc (updN P p v) C) ∧ Below w.heap.size w w' := by
  obtain ⟨i0, hi0, hz0, hz1, hz2⟩ := info_parts info37
  obtain ⟨PA, PO, rfl, hPA, hPN⟩ := H.out.hp.resolve_left (by omega)
  obtain ⟨W2, hW2⟩ : ∃ W2, W2 = ((w.alloc (.cells #[.slice (some ⟨PA, PO, none⟩) lp cp, .slice ca lc cc] 25)).alloc (.cells #[.slice none 0 0, .slice none 0 0] 25)).alloc (.cells #[.slice none 0 0, .slice ca lc cc] 25) := ⟨_, rfl⟩
  have n3 : (0 : Int) ≤ (p : Int) := by omega
  have n4 : (p : Int) < (lp : Int) := by omega
  have hb2 : Below w.heap.size w W2 := by rw [hW2]; exact (((Below.refl _ _).alloc (Nat.le_refl _) _).alloc (by simp) _).alloc (by simp; omega) _
  have hs2 : W2.heap.size = w.heap.size + 3 := by rw [hW2]; simp
  have HL := Lib.hid (show ∀ (j : Nat) (u : Value), (ptCells P lp)[j]? = some u → W2.cell? ((⟨PA, PO, none⟩ : Addr).add j) = some u from fun j u hu => by
    have hj : j < lp * 3 := by
      rcases Nat.lt_or_ge j (lp * 3) with h | h
      · exact h
      · rw [List.getElem?_eq_none (by simpa [ptCells] using h)] at hu; cases hu
    have e : u = ptCell P j := by simpa [ptCells, hj] using hu.symm
    have hc := ptCell_at (hPN.below hPA hb2) hj
    rw [e]
    by_cases hj0 : j = 0
    · subst hj0; simpa [Addr.add] using hc
    · simpa [Addr.add, hj0] using hc)
  have hc0 : W2.cell? ⟨w.heap.size + 2, 0, none⟩ = some (.slice none 0 0) := by rw [hW2]; exact al_get (by simp) rfl
  have hc1 : W2.cell? ⟨w.heap.size + 2, 1, none⟩ = some (.slice ca lc cc) := by rw [hW2]; exact al_get (by simp) rfl
  have hf0 : W2.frozen? ⟨w.heap.size + 2, 0, none⟩ = false := by rw [hW2]; exact al_froz (by simp)
  have hd : ∀ j, j < 2 → W2.cell? ⟨w.heap.size + 1, j, none⟩ = some (.slice none 0 0) ∧ W2.frozen? ⟨w.heap.size + 1, j, none⟩ = false := by
    have e : (w.alloc (.cells #[.slice (some ⟨PA, PO, none⟩) lp cp, .slice ca lc cc] 25)).heap.size = w.heap.size + 1 := by simp
    have hb : Below ((w.alloc (.cells #[.slice (some ⟨PA, PO, none⟩) lp cp, .slice ca lc cc] 25)).alloc (.cells #[.slice none 0 0, .slice none 0 0] 25)).heap.size ((w.alloc (.cells #[.slice (some ⟨PA, PO, none⟩) lp cp, .slice ca lc cc] 25)).alloc (.cells #[.slice none 0 0, .slice none 0 0] 25)) W2 := by rw [hW2]; exact (Below.refl _ _).alloc (Nat.le_refl _) _
    intro j hj
    refine ⟨((bcell hb).1 _ _ (by simp)).trans ?_, ((bcell hb).2 _ _ (by simp)).trans ?_⟩
    · rw [← e]
      match j, hj with
      | 0, _ => exact al_get rfl rfl
      | 1, _ => exact al_get rfl rfl
    · rw [← e]; simp
  have HCH : Hid (∀ w2, Below w.heap.size w w2 → ChSl w2 ca lc C) := Lib.hid fun w2 h => H.out.hc.below h
  have HFX : Hid (∀ w7 v7, w7.ownsRow W2.heap.size 37 3 v7 (0 + lp) ([] ++ ptCells P lp) → W2.grownBy w7 (Value.slice none 0 0).ownBlock → ∃ g cap, v7 = .slice (some ⟨g, 0, none⟩) lp cap ∧ W2.heap.size ≤ g ∧ g < w7.heap.size ∧ (∀ j, j < lp * 3 → w7.cell? ⟨g, j, none⟩ = some (ptCell P j)) ∧ (∀ j, j < lp * 3 → w7.frozen? ⟨g, j, none⟩ = false) ∧ Below W2.heap.size W2 w7) := Lib.hid fun w7 v7 h1 h2 => by
    obtain ⟨g, cap, e, q1, q2, q3, q4⟩ := pt_owned (P := P) (by simpa using h1) (by omega)
    exact ⟨g, cap, e, q1, q2, q3, q4, (Below.refl _ _).grown h2 (Nat.le_refl _) (fun r e => by cases e)⟩
  have HD := Lib.hid hd
  have HC0 := Lib.hid hc0
  have HC1 := Lib.hid hc1
  have HF0 := Lib.hid hf0
  have HB2 := Lib.hid hb2
  have HS2 := Lib.hid hs2
  clear hd hc0 hc1 hf0 hb2 H hPN hPA
  go_enter Tryz.func30, Tryz.ntmps30
  go_wp2_with (at_builtin; rw [← hW2]; refine wpList_append_own_at _ rfl (.const (.slice none 0 0)) (.tmp 12) 22 rfl W2.heap.size 37 i0 (.agg #[.int .i64 0, .int .i64 0, .int .i64 0]) 3 24 Tryz.underlying22 hi0 hz0 hz1 hz2 rfl (by decide) _ 0 [] rfl ⟨rfl, .inl ⟨rfl, rfl⟩⟩ ⟨PA, PO, none⟩ lp cp (ptCells P lp) rfl (by simp [ptCells]) HL.out (by intro u hu; simp [ptCells] at hu; obtain ⟨a, _, rfl⟩ := hu; unfold ptCell; split <;> (try split) <;> rfl) (by unfold maxLen; omega) (by omega) (Nat.le_refl _) ?_; intro v7 w7 hown7 hgrow7 _ hloc7; obtain ⟨g, cap, rfl, hg1, hg2, hcs, hfs, hb7⟩ := HFX.out _ _ hown7 hgrow7; clear hown7 hgrow7 hloc7 hW2; have r0 := (hb7.cell (p := ⟨w.heap.size + 2, 0, none⟩) (by show w.heap.size + 2 < _; omega)).trans HC0.out; have r1 := (hb7.cell (p := ⟨w.heap.size + 2, 1, none⟩) (by show w.heap.size + 2 < _; omega)).trans HC1.out; have r2 := (hb7.frozen (p := ⟨w.heap.size + 2, 0, none⟩) (by show w.heap.size + 2 < _; omega)).trans HF0.out; have r3 : (w7.setCell ⟨w.heap.size + 2, 0, none⟩ (.slice (some ⟨g, 0, none⟩) lp cap)).cell? ⟨w.heap.size + 2, 0, none⟩ = some (.slice (some ⟨g, 0, none⟩) lp cap) := World.cell?_setCell_same' _ _ _ (by rw [r0]; rfl); have hn5 := ptCell_at (ptAt_of hcs) (j := p * 3 + 2) (by omega); rw [Nat.zero_add] at hn5; have hn6 := hfs (p * 3 + 2) (by omega); have d0 := (hb7.cell (p := ⟨w.heap.size + 1, 0, none⟩) (by show w.heap.size + 1 < _; omega)).trans (HD.out 0 (by omega)).1; have d1 := (hb7.cell (p := ⟨w.heap.size + 1, 1, none⟩) (by show w.heap.size + 1 < _; omega)).trans (HD.out 1 (by omega)).1; have d2 := (hb7.frozen (p := ⟨w.heap.size + 1, 0, none⟩) (by show w.heap.size + 1 < _; omega)).trans (HD.out 0 (by omega)).2; have d3 := (hb7.frozen (p := ⟨w.heap.size + 1, 1, none⟩) (by show w.heap.size + 1 < _; omega)).trans (HD.out 1 (by omega)).2)
  have hs2' := HS2.out
  obtain ⟨W9, hW9⟩ : ∃ W9, W9 = ((((w7.setCell ⟨w.heap.size + 1 + 1, 0, none⟩ (.slice (some ⟨g, 0, none⟩) lp cap)).setCell ⟨g, p * 3 + 2, none⟩ (.int .i64 v)).setCell ⟨w.heap.size + 1, 0, none⟩ (.slice (some ⟨g, 0, none⟩) lp cap)).setCell ⟨w.heap.size + 1, 1, none⟩ (.slice ca lc cc)) := ⟨_, rfl⟩
  have hg3 : w.heap.size + 3 ≤ g := by omega
  have hfr : Frx [w.heap.size + 1, w.heap.size + 1 + 1, g] w7 W9 := by
    rw [hW9]
    exact (((Frx.setCell _ _ _ _ _ (by simp)).trans (Frx.setCell _ _ _ _ _ (by simp))).trans (Frx.setCell _ _ _ _ _ (by simp))).trans (Frx.setCell _ _ _ _ _ (by simp))
  have hcell : ∀ j, j < lp * 3 → W9.cell? ⟨g, j, none⟩ = some (ptCell (updN P p v) j) := fun j hj => by
    rw [hW9]
    have o1 : ∀ (W : World) (b o : Nat) (u : Value), b ≠ g → (W.setCell ⟨b, o, none⟩ u).cell? ⟨g, j, none⟩ = W.cell? ⟨g, j, none⟩ := fun W b o u hb => World.cell?_setCell_other _ _ _ _ (by intro e; cases e; exact hb rfl)
    rw [o1 _ _ _ _ (by omega), o1 _ _ _ _ (by omega)]
    by_cases e : j = p * 3 + 2
    · subst e
      rw [World.cell?_setCell_same' _ _ _ (by rw [o1 _ _ _ _ (by omega), hn5]; rfl)]
      unfold ptCell
      rw [if_neg (by omega), if_neg (by omega), updN_nd, if_pos (by omega)]
    · rw [World.cell?_setCell_other _ _ _ _ (by intro e2; cases e2; exact e rfl), o1 _ _ _ _ (by omega), hcs j hj]
      unfold ptCell
      rw [updN_lo, updN_hi, updN_nd]
      by_cases e0 : j % 3 = 0
      · rw [if_pos e0, if_pos e0]
      · rw [if_neg e0, if_neg e0]
        by_cases e1 : j % 3 = 1
        · rw [if_pos e1, if_pos e1]
        · rw [if_neg e1, if_neg e1, if_neg (show ¬ j / 3 = p by omega)]
  have k1 : W9.cell? ⟨w.heap.size + 1, 1, none⟩ = some (.slice ca lc cc) := by
    rw [hW9]
    refine World.cell?_setCell_same' _ _ _ ?_
    rw [World.cell?_setCell_other _ _ _ _ (by simp <;> omega), World.cell?_setCell_other _ _ _ _ (by simp <;> omega), World.cell?_setCell_other _ _ _ _ (by simp <;> omega), d1]; rfl
  have k0 : W9.cell? ⟨w.heap.size + 1, 0, none⟩ = some (.slice (some ⟨g, 0, none⟩) lp cap) := by
    rw [hW9, World.cell?_setCell_other _ _ _ _ (by simp <;> omega)]
    refine World.cell?_setCell_same' _ _ _ ?_
    rw [World.cell?_setCell_other _ _ _ _ (by simp <;> omega), World.cell?_setCell_other _ _ _ _ (by simp <;> omega), d0]; rfl
  have hbl : Below w.heap.size w W9 := HB2.out.trans ((hb7.mono HB2.out.size).trans (hfr.below (by have := hb7.size; omega) (by intro k hk; simp at hk; omega)))
  rw [← hW9]
  refine bodyPost_ret (v := .agg #[.slice (some ⟨g, 0, none⟩) lp cap, .slice ca lc cc]) (by simp [results, Tryz.results30, go_sem, k0, k1]) rfl ⟨⟨g, cap, rfl, ⟨.inr ⟨g, 0, rfl, Nat.lt_of_lt_of_le hg2 hfr.size, ptAt_of hcell⟩, HCH.out _ hbl⟩⟩, hbl⟩

set_option maxRecDepth 100000 in
set_option maxHeartbeats 4000000 in
theorem right_w (pa ca sa : Option Addr) (lp cp lc cc m sc : Nat) (P : Nat → P8) (C : Nat → C8) (s : Nat → Int) (w : World) (hm : m ≤ maxLen) (H : Hid (Ne8 w pa ca lp lc P C)) (HO : Hid (IntSl w sa m s)) :
    Calls Tryz.prog 22 #[.agg #[.slice pa lp cp, .slice ca lc cc], .slice sa m sc] w fun e w' => (∃ b : Bool, e = .returned (.bool b) ∧ (b = true → lp ≤ 9 ∧ lc ≤ 13 ∧ m ≤ 10 ∧ netV lp P lc C = true ∧ gatsB lc C s m = true)) ∧ Below w.heap.size w w' := by
  obtain ⟨W0, hW0⟩ : ∃ W0, W0 = w.alloc (.cells #[.slice pa lp cp, .slice ca lc cc] 25) := ⟨_, rfl⟩
  have hA : Below w.heap.size w W0 := by rw [hW0]; exact (Below.refl _ _).alloc (Nat.le_refl _) _
  have HF : Hid (∀ w2, Below W0.heap.size W0 w2 → w2.cell? ⟨w.heap.size, 0, none⟩ = some (.slice pa lp cp) ∧ w2.cell? ⟨w.heap.size, 1, none⟩ = some (.slice ca lc cc)) := Lib.hid fun w2 h => by
    rw [hW0] at h
    exact ⟨(box_cells h).1, (box_cells h).2.1⟩
  have HN : Hid (∀ w2, Below W0.heap.size W0 w2 → Hid (Ne8 w2 pa ca lp lc P C)) := Lib.hid fun w2 h => Lib.hid (H.out.below (hA.trans (h.mono hA.size)))
  have HOS : Hid (∀ w2, Below W0.heap.size W0 w2 → Hid (IntSl w2 sa m s)) := Lib.hid fun w2 h => Lib.hid (HO.out.below (hA.trans (h.mono hA.size)))
  have HSH : Hid (Calls Tryz.prog 15 #[.agg #[.slice pa lp cp, .slice ca lc cc]] W0 fun e w' => e = .returned (.bool (decide (lp ≤ 9 ∧ lc ≤ 13))) ∧ Below W0.heap.size W0 w') := Lib.hid (short_w pa ca lp cp lc cc W0)
  have HA := Lib.hid hA
  obtain ⟨f0, f1⟩ := HF.out _ (Below.refl _ _)
  rw [hW0] at f0 f1
  clear hA H HO
  by_cases hsh : lp ≤ 9 ∧ lc ≤ 13
  case neg =>
    have hd : decide (lp ≤ 9 ∧ lc ≤ 13) = false := decide_eq_false hsh
    rw [hd] at HSH
    clear hd hsh
    go_enter Tryz.func22, Tryz.ntmps22
    go_wp2_with (go_at_call 15; rw [← hW0]; refine HSH.out.mono ?_; rintro e w5 ⟨rfl, hv⟩)
    go_ret
    exact ⟨by first | exact ⟨false, rfl, fun h => by cases h⟩ | simp | rfl, HA.out.trans (hv.mono HA.out.size)⟩
  case pos =>
    have hd : decide (lp ≤ 9 ∧ lc ≤ 13) = true := decide_eq_true hsh
    rw [hd] at HSH
    clear hd
    obtain ⟨hs1, hs2⟩ := hsh
    by_cases hm10 : m ≤ 10
    case neg =>
      have n1 : ¬ ((m : Int) ≤ 10) := by omega
      go_enter Tryz.func22, Tryz.ntmps22
      go_wp2_with (go_at_call 15; rw [← hW0]; refine HSH.out.mono ?_; rintro e w5 ⟨rfl, hv⟩)
      go_ret
      exact ⟨by first | exact ⟨false, rfl, fun h => by cases h⟩ | simp | rfl, HA.out.trans (hv.mono HA.out.size)⟩
    case pos =>
      have n1 : ((m : Int) ≤ 10) := by omega
      have H1 : Hid (∀ w2, Below W0.heap.size W0 w2 → Calls Tryz.prog 18 #[.agg #[.slice pa lp cp, .slice ca lc cc]] w2 fun e w' => e = .returned (.bool (netV lp P lc C)) ∧ Below w2.heap.size w2 w') := Lib.hid fun w2 h => rnet_w pa ca lp cp lc cc P C w2 (by omega) (by omega) (HN.out _ h)
      have H2 : Hid (∀ w2, Below W0.heap.size W0 w2 → Calls Tryz.prog 19 #[.agg #[.slice pa lp cp, .slice ca lc cc], .slice sa m sc] w2 fun e w' => e = .returned (.bool (gatsB lc C s m)) ∧ Below w2.heap.size w2 w') := Lib.hid fun w2 h => rsome_w pa ca sa lp cp lc cc m sc P C s w2 (by omega) (by omega) (HN.out _ h) (HOS.out _ h)
      obtain ⟨q1, hq1⟩ : ∃ q, netV lp P lc C = q := ⟨_, rfl⟩
      obtain ⟨q2, hq2⟩ : ∃ q, gatsB lc C s m = q := ⟨_, rfl⟩
      rw [hq1] at H1
      rw [hq2] at H2
      rw [hq1, hq2]
      clear hq1 hq2
      cases q1 with
      | false =>
        go_enter Tryz.func22, Tryz.ntmps22
        go_wp2_with (first
          | (go_at_call 15; rw [← hW0]; refine HSH.out.mono ?_; rintro e w5 ⟨rfl, hv⟩; clear hW0 f0 f1; have HV5 := Lib.hid hv; obtain ⟨g0, g1⟩ := HF.out _ hv; clear hv)
          | (go_at_call 18; refine (H1.out _ HV5.out).mono ?_; rintro e w6 ⟨rfl, hv⟩; have HV6 := Lib.hid (HV5.out.trans (hv.mono HV5.out.size)); clear hv))
        go_ret
        exact ⟨by first | exact ⟨false, rfl, fun h => by cases h⟩ | simp | rfl, HA.out.trans (HV6.out.mono HA.out.size)⟩
      | true =>
        go_enter Tryz.func22, Tryz.ntmps22
        go_wp2_with (first
          | (go_at_call 15; rw [← hW0]; refine HSH.out.mono ?_; rintro e w5 ⟨rfl, hv⟩; clear hW0 f0 f1; have HV5 := Lib.hid hv; obtain ⟨g0, g1⟩ := HF.out _ hv; clear hv)
          | (go_at_call 18; refine (H1.out _ HV5.out).mono ?_; rintro e w6 ⟨rfl, hv⟩; have HV6 := Lib.hid (HV5.out.trans (hv.mono HV5.out.size)); clear hv g0 g1; obtain ⟨g0, g1⟩ := HF.out _ HV6.out)
          | (go_at_call 19; refine (H2.out _ HV6.out).mono ?_; rintro e w7 ⟨rfl, hv⟩; have HV7 := Lib.hid (HV6.out.trans (hv.mono HV6.out.size)); clear hv))
        go_ret
        exact ⟨⟨q2, rfl, fun h => ⟨hs1, hs2, hm10, by simp, h⟩⟩, HA.out.trans (HV7.out.mono HA.out.size)⟩
end Go.Kn

namespace Go.Kn
open Go Go.Proofs Go.RowKit

theorem wordV_three {lp : Nat} {P : Nat → P8} {lc : Nat} {C : Nat → C8} {op : Nat → Bool} (h : fedV lp P lc C op false = true) : wordV lp P lc C op = 3 := by unfold wordV; rw [h]; rfl
theorem wordV_else {lp : Nat} {P : Nat → P8} {lc : Nat} {C : Nat → C8} {op : Nat → Bool} (h : fedV lp P lc C op false = false) : (wordV lp P lc C op == 3) = false := by unfold wordV; rw [h]; simp only [Bool.false_eq_true, if_false]; split <;> rfl
theorem fedq_w (pa ca sa : Option Addr) (lp cp lc cc m sc : Nat) (P : Nat → P8) (C : Nat → C8) (s : Nat → Int) (u : Int) (w : World) (HP : NetP lp P lc C) (HG : gatsB lc C s m = true) (hu : wordV lp P lc C (opnF s m) = u) (hm : m ≤ 1000000) (H : Hid (Ne8 w pa ca lp lc P C)) (HO : Hid (IntSl w sa m s)) :
    Calls Tryz.prog 23 #[.agg #[.slice pa lp cp, .slice ca lc cc], .slice sa m sc] w fun e w' => e = .returned (.tuple #[.int .i64 u, .int .i64 0]) ∧ Below w.heap.size w w' := by
  have hq : fedQ lp P lc C s m = true := by unfold fedQ; rw [netV_iff.2 HP, HG]; rfl
  have h := fed_w pa ca sa lp cp lc cc m sc P C s w (by have := HP.l7; omega) (by have := HP.c10; omega) hm H HO
  rw [hq, hu] at h
  simpa only [if_true] using h

def rgB (lp : Nat) (P : Nat → P8) (lc : Nat) (C : Nat → C8) (s : Nat → Int) (m : Nat) : Bool := decide (lp ≤ 9 ∧ lc ≤ 13) && (decide (m ≤ 10) && (netV lp P lc C && gatsB lc C s m))
theorem rgB_t {lp : Nat} {P : Nat → P8} {lc : Nat} {C : Nat → C8} {s : Nat → Int} {m : Nat} (h : rgB lp P lc C s m = true) : lp ≤ 9 ∧ lc ≤ 13 ∧ m ≤ 10 ∧ netV lp P lc C = true ∧ gatsB lc C s m = true := by
  simp only [rgB, Bool.and_eq_true, decide_eq_true_eq] at h
  exact ⟨h.1.1, h.1.2, h.2.1, h.2.2.1, h.2.2.2⟩

set_option maxRecDepth 100000 in
set_option maxHeartbeats 4000000 in
theorem right_b (pa ca sa : Option Addr) (lp cp lc cc m sc : Nat) (P : Nat → P8) (C : Nat → C8) (s : Nat → Int) (w : World) (hm : m ≤ maxLen) (H : Hid (Ne8 w pa ca lp lc P C)) (HO : Hid (IntSl w sa m s)) :
    Calls Tryz.prog 22 #[.agg #[.slice pa lp cp, .slice ca lc cc], .slice sa m sc] w fun e w' => e = .returned (.bool (rgB lp P lc C s m)) ∧ Below w.heap.size w w' := by
  obtain ⟨W0, hW0⟩ : ∃ W0, W0 = w.alloc (.cells #[.slice pa lp cp, .slice ca lc cc] 25) := ⟨_, rfl⟩
  have hA : Below w.heap.size w W0 := by rw [hW0]; exact (Below.refl _ _).alloc (Nat.le_refl _) _
  have HF : Hid (∀ w2, Below W0.heap.size W0 w2 → w2.cell? ⟨w.heap.size, 0, none⟩ = some (.slice pa lp cp) ∧ w2.cell? ⟨w.heap.size, 1, none⟩ = some (.slice ca lc cc)) := Lib.hid fun w2 h => by
    rw [hW0] at h
    exact ⟨(box_cells h).1, (box_cells h).2.1⟩
  have HN : Hid (∀ w2, Below W0.heap.size W0 w2 → Hid (Ne8 w2 pa ca lp lc P C)) := Lib.hid fun w2 h => Lib.hid (H.out.below (hA.trans (h.mono hA.size)))
  have HOS : Hid (∀ w2, Below W0.heap.size W0 w2 → Hid (IntSl w2 sa m s)) := Lib.hid fun w2 h => Lib.hid (HO.out.below (hA.trans (h.mono hA.size)))
  have HSH : Hid (Calls Tryz.prog 15 #[.agg #[.slice pa lp cp, .slice ca lc cc]] W0 fun e w' => e = .returned (.bool (decide (lp ≤ 9 ∧ lc ≤ 13))) ∧ Below W0.heap.size W0 w') := Lib.hid (short_w pa ca lp cp lc cc W0)
  have HA := Lib.hid hA
  obtain ⟨f0, f1⟩ := HF.out _ (Below.refl _ _)
  rw [hW0] at f0 f1
  clear hA H HO
  by_cases hsh : lp ≤ 9 ∧ lc ≤ 13
  case neg =>
    have hd : decide (lp ≤ 9 ∧ lc ≤ 13) = false := decide_eq_false hsh
    rw [hd] at HSH
    have hrb : rgB lp P lc C s m = false := by unfold rgB; rw [hd]; rfl
    rw [hrb]
    clear hd hsh hrb
    go_enter Tryz.func22, Tryz.ntmps22
    go_wp2_with (go_at_call 15; rw [← hW0]; refine HSH.out.mono ?_; rintro e w5 ⟨rfl, hv⟩)
    go_ret
    exact ⟨rfl, HA.out.trans (hv.mono HA.out.size)⟩
  case pos =>
    have hd : decide (lp ≤ 9 ∧ lc ≤ 13) = true := decide_eq_true hsh
    rw [hd] at HSH
    have hrg : rgB lp P lc C s m = (decide (m ≤ 10) && (netV lp P lc C && gatsB lc C s m)) := by unfold rgB; rw [hd]; rfl
    rw [hrg]
    clear hd hrg
    obtain ⟨hs1, hs2⟩ := hsh
    by_cases hm10 : m ≤ 10
    case neg =>
      have n1 : ¬ ((m : Int) ≤ 10) := by omega
      have hdm : decide (m ≤ 10) = false := decide_eq_false hm10
      rw [hdm, Bool.false_and]
      clear hdm
      go_enter Tryz.func22, Tryz.ntmps22
      go_wp2_with (go_at_call 15; rw [← hW0]; refine HSH.out.mono ?_; rintro e w5 ⟨rfl, hv⟩)
      go_ret
      exact ⟨rfl, HA.out.trans (hv.mono HA.out.size)⟩
    case pos =>
      have n1 : ((m : Int) ≤ 10) := by omega
      have hdm : decide (m ≤ 10) = true := decide_eq_true hm10
      rw [hdm, Bool.true_and]
      clear hdm
      have H1 : Hid (∀ w2, Below W0.heap.size W0 w2 → Calls Tryz.prog 18 #[.agg #[.slice pa lp cp, .slice ca lc cc]] w2 fun e w' => e = .returned (.bool (netV lp P lc C)) ∧ Below w2.heap.size w2 w') := Lib.hid fun w2 h => rnet_w pa ca lp cp lc cc P C w2 (by omega) (by omega) (HN.out _ h)
      have H2 : Hid (∀ w2, Below W0.heap.size W0 w2 → Calls Tryz.prog 19 #[.agg #[.slice pa lp cp, .slice ca lc cc], .slice sa m sc] w2 fun e w' => e = .returned (.bool (gatsB lc C s m)) ∧ Below w2.heap.size w2 w') := Lib.hid fun w2 h => rsome_w pa ca sa lp cp lc cc m sc P C s w2 (by omega) (by omega) (HN.out _ h) (HOS.out _ h)
      obtain ⟨q1, hq1⟩ : ∃ q, netV lp P lc C = q := ⟨_, rfl⟩
      obtain ⟨q2, hq2⟩ : ∃ q, gatsB lc C s m = q := ⟨_, rfl⟩
      rw [hq1] at H1
      rw [hq2] at H2
      rw [hq1, hq2]
      clear hq1 hq2
      cases q1 with
      | false =>
        rw [Bool.false_and]
        go_enter Tryz.func22, Tryz.ntmps22
        go_wp2_with (first
          | (go_at_call 15; rw [← hW0]; refine HSH.out.mono ?_; rintro e w5 ⟨rfl, hv⟩; clear hW0 f0 f1; have HV5 := Lib.hid hv; obtain ⟨g0, g1⟩ := HF.out _ hv; clear hv)
          | (go_at_call 18; refine (H1.out _ HV5.out).mono ?_; rintro e w6 ⟨rfl, hv⟩; have HV6 := Lib.hid (HV5.out.trans (hv.mono HV5.out.size)); clear hv))
        go_ret
        exact ⟨rfl, HA.out.trans (HV6.out.mono HA.out.size)⟩
      | true =>
        rw [Bool.true_and]
        go_enter Tryz.func22, Tryz.ntmps22
        go_wp2_with (first
          | (go_at_call 15; rw [← hW0]; refine HSH.out.mono ?_; rintro e w5 ⟨rfl, hv⟩; clear hW0 f0 f1; have HV5 := Lib.hid hv; obtain ⟨g0, g1⟩ := HF.out _ hv; clear hv)
          | (go_at_call 18; refine (H1.out _ HV5.out).mono ?_; rintro e w6 ⟨rfl, hv⟩; have HV6 := Lib.hid (HV5.out.trans (hv.mono HV5.out.size)); clear hv g0 g1; obtain ⟨g0, g1⟩ := HF.out _ HV6.out)
          | (go_at_call 19; refine (H2.out _ HV6.out).mono ?_; rintro e w7 ⟨rfl, hv⟩; have HV7 := Lib.hid (HV6.out.trans (hv.mono HV6.out.size)); clear hv))
        go_ret
        exact ⟨rfl, HA.out.trans (HV7.out.mono HA.out.size)⟩
set_option maxRecDepth 100000 in
set_option maxHeartbeats 8000000 in
theorem lawne_w (pa ca sa : Option Addr) (lp cp lc cc m sc : Nat) (P : Nat → P8) (C : Nat → C8) (s : Nat → Int) (x y : Int) (w : World) (H : Hid (Ne8 w pa ca lp lc P C)) (HO : Hid (IntSl w sa m s)) (hml : m ≤ maxLen) (K : Hid KnownOk) (hpw : Hid (Pw w)) :
    Calls Tryz.prog 6 #[.agg #[.slice pa lp cp, .slice ca lc cc], .slice sa m sc, .int .i64 x, .int .i64 y] w fun e w' => e = .returned (.bool true) ∧ Below w.heap.size w w' := by
  obtain ⟨W0, hW0⟩ : ∃ W0, W0 = w.alloc (.cells #[.slice pa lp cp, .slice ca lc cc] 25) := ⟨_, rfl⟩
  have hA : Below w.heap.size w W0 := by rw [hW0]; exact (Below.refl _ _).alloc (Nat.le_refl _) _
  have HF : Hid (∀ w2, Below W0.heap.size W0 w2 → w2.cell? ⟨w.heap.size, 0, none⟩ = some (.slice pa lp cp) ∧ w2.cell? ⟨w.heap.size, 1, none⟩ = some (.slice ca lc cc)) := Lib.hid fun w2 h => by
    rw [hW0] at h
    exact ⟨(box_cells h).1, (box_cells h).2.1⟩
  have HN : Hid (∀ w2, Below W0.heap.size W0 w2 → Hid (Ne8 w2 pa ca lp lc P C)) := Lib.hid fun w2 h => Lib.hid (H.out.below (hA.trans (h.mono hA.size)))
  have HOS : Hid (∀ w2, Below W0.heap.size W0 w2 → Hid (IntSl w2 sa m s)) := Lib.hid fun w2 h => Lib.hid (HO.out.below (hA.trans (h.mono hA.size)))
  have HKN : Hid (∀ w2, Below W0.heap.size W0 w2 → Calls Tryz.prog 16 #[] w2 fun e w' => e = .returned (.bool true) ∧ Below w2.heap.size w2 w') := Lib.hid fun w2 h => K.out w2 (hpw.out.on (hA.trans (h.mono hA.size)))
  have HRI : Hid (Calls Tryz.prog 22 #[.agg #[.slice pa lp cp, .slice ca lc cc], .slice sa m sc] W0 fun e w' => e = .returned (.bool (rgB lp P lc C s m)) ∧ Below W0.heap.size W0 w') := Lib.hid (right_b pa ca sa lp cp lc cc m sc P C s W0 hml (HN.out _ (Below.refl _ _)) (HOS.out _ (Below.refl _ _)))
  have HA := Lib.hid hA
  obtain ⟨f0, f1⟩ := HF.out _ (Below.refl _ _)
  rw [hW0] at f0 f1
  clear hA H HO
  cases hrb : rgB lp P lc C s m with
  | false =>
    rw [hrb] at HRI
    clear hrb
    go_enter Tryz.func6, Tryz.ntmps6
    go_wp2_with (first
      | (go_at_call 22; rw [← hW0]; refine HRI.out.mono ?_; rintro e w5 ⟨rfl, hv⟩; clear hW0 f0 f1; have HV5 := Lib.hid hv; obtain ⟨g0, g1⟩ := HF.out _ hv; clear hv)
      | (go_at_call 16; refine (HKN.out _ HV5.out).mono ?_; rintro e w30 ⟨rfl, hv⟩; have HV30 := Lib.hid (HV5.out.trans (hv.mono HV5.out.size)); clear hv))
    go_ret
    exact ⟨rfl, HA.out.trans (HV30.out.mono HA.out.size)⟩
  | true =>
    rw [hrb] at HRI
    obtain ⟨hs1, hs2, hm, hnv, hgs⟩ := rgB_t hrb
    clear hrb
    have HQ2 := Lib.hid hgs
    have HP := Lib.hid (netV_iff.1 hnv)
    have hmq : moQ lp P lc C s m x = fromB 0 ((lp : Int) - 1) x := by unfold moQ; rw [hnv, hgs]; rfl
    have H3 : Hid (∀ w2, Below W0.heap.size W0 w2 → Calls Tryz.prog 28 #[.agg #[.slice pa lp cp, .slice ca lc cc], .int .i64 x] w2 fun e w' => e = .returned (.bool (fromB 0 ((lp : Int) - 1) x)) ∧ Below w2.heap.size w2 w') := Lib.hid fun w2 h => rpoint_w pa ca lp cp lc cc x w2 (by omega)
    clear hnv hgs
    cases hq3 : fromB 0 ((lp : Int) - 1) x with
    | false =>
      rw [hq3] at H3
      clear hq3 hmq
      go_enter Tryz.func6, Tryz.ntmps6
      go_wp2_with (first
        | (go_at_call 22; rw [← hW0]; refine HRI.out.mono ?_; rintro e w5 ⟨rfl, hv⟩; clear hW0 f0 f1; have HV5 := Lib.hid hv; obtain ⟨g0, g1⟩ := HF.out _ hv; clear hv)
        | (go_at_call 28; refine (H3.out _ HV5.out).mono ?_; rintro e w6 ⟨rfl, hv⟩; have HV6 := Lib.hid (HV5.out.trans (hv.mono HV5.out.size)); clear hv g0 g1; obtain ⟨g0, g1⟩ := HF.out _ HV6.out)
        | (go_at_call 16; refine (HKN.out _ HV6.out).mono ?_; rintro e w30 ⟨rfl, hv⟩; have HV30 := Lib.hid (HV6.out.trans (hv.mono HV6.out.size)); clear hv))
      go_ret
      exact ⟨rfl, HA.out.trans (HV30.out.mono HA.out.size)⟩
    | true =>
      rw [hq3] at H3
      have hx : 0 ≤ x ∧ x ≤ (lp : Int) - 1 := by simpa [fromB] using hq3
      rw [hq3] at hmq
      clear hq3
      by_cases hy0 : y < 0
      case pos =>
        clear hmq hx
        go_enter Tryz.func6, Tryz.ntmps6
        go_wp2_with (first
          | (go_at_call 22; rw [← hW0]; refine HRI.out.mono ?_; rintro e w5 ⟨rfl, hv⟩; clear hW0 f0 f1; have HV5 := Lib.hid hv; obtain ⟨g0, g1⟩ := HF.out _ hv; clear hv)
          | (go_at_call 28; refine (H3.out _ HV5.out).mono ?_; rintro e w6 ⟨rfl, hv⟩; have HV6 := Lib.hid (HV5.out.trans (hv.mono HV5.out.size)); clear hv g0 g1; obtain ⟨g0, g1⟩ := HF.out _ HV6.out)
          | (go_at_call 16; refine (HKN.out _ HV6.out).mono ?_; rintro e w30 ⟨rfl, hv⟩; have HV30 := Lib.hid (HV6.out.trans (hv.mono HV6.out.size)); clear hv))
        go_ret
        exact ⟨rfl, HA.out.trans (HV30.out.mono HA.out.size)⟩
      case neg =>
      by_cases hy1 : 10000 < y
      case pos =>
        clear hmq hx
        go_enter Tryz.func6, Tryz.ntmps6
        go_wp2_with (first
          | (go_at_call 22; rw [← hW0]; refine HRI.out.mono ?_; rintro e w5 ⟨rfl, hv⟩; clear hW0 f0 f1; have HV5 := Lib.hid hv; obtain ⟨g0, g1⟩ := HF.out _ hv; clear hv)
          | (go_at_call 28; refine (H3.out _ HV5.out).mono ?_; rintro e w6 ⟨rfl, hv⟩; have HV6 := Lib.hid (HV5.out.trans (hv.mono HV5.out.size)); clear hv g0 g1; obtain ⟨g0, g1⟩ := HF.out _ HV6.out)
          | (go_at_call 16; refine (HKN.out _ HV6.out).mono ?_; rintro e w30 ⟨rfl, hv⟩; have HV30 := Lib.hid (HV6.out.trans (hv.mono HV6.out.size)); clear hv))
        go_ret
        exact ⟨rfl, HA.out.trans (HV30.out.mono HA.out.size)⟩
      case neg =>
      obtain ⟨p, rfl⟩ : ∃ p : Nat, x = (p : Int) := ⟨x.toNat, by omega⟩
      have hp : p < lp := by omega
      have M1 := Lib.hid True.intro
      cases hfd : fedV lp P lc C (opnF s m) false with
      | false =>
        have HMO : Hid (∀ w2, Below W0.heap.size W0 w2 → Calls Tryz.prog 29 #[.agg #[.slice pa lp cp, .slice ca lc cc], .slice sa m sc, .int .i64 (p : Int)] w2 fun e w' => e = .returned (.tuple #[.int .i64 0, .int .i64 7]) ∧ Below w2.heap.size w2 w') := Lib.hid fun w2 h => by
          have h1 := most_bad pa ca sa lp cp lc cc m sc P C s (p : Int) w2 (by omega) (by omega) (by omega) (HN.out _ h) (HOS.out _ h) (by rw [hfd, Bool.and_false])
          rw [hmq] at h1
          simpa only [if_true] using h1
        obtain ⟨u, hu⟩ : ∃ u, wordV lp P lc C (opnF s m) = u := ⟨_, rfl⟩
        have q0 : (u == 3) = false := by rw [← hu]; exact wordV_else hfd
        have HFE : Hid (∀ w2, Below W0.heap.size W0 w2 → Calls Tryz.prog 23 #[.agg #[.slice pa lp cp, .slice ca lc cc], .slice sa m sc] w2 fun e w' => e = .returned (.tuple #[.int .i64 u, .int .i64 0]) ∧ Below w2.heap.size w2 w') := Lib.hid fun w2 h => fedq_w pa ca sa lp cp lc cc m sc P C s u w2 HP.out HQ2.out hu (by omega) (HN.out _ h) (HOS.out _ h)
        clear hfd hu hmq
        go_enter Tryz.func6, Tryz.ntmps6
        go_wp2_with (first
          | (go_at_call 22; rw [← hW0]; refine HRI.out.mono ?_; rintro e w5 ⟨rfl, hv⟩; clear hW0 f0 f1; have HV5 := Lib.hid hv; obtain ⟨g0, g1⟩ := HF.out _ hv; clear hv)
          | (go_at_call 28; refine (H3.out _ HV5.out).mono ?_; rintro e w6 ⟨rfl, hv⟩; have HV6 := Lib.hid (HV5.out.trans (hv.mono HV5.out.size)); clear hv g0 g1; obtain ⟨g0, g1⟩ := HF.out _ HV6.out)
          | (go_at_call 29; refine (HMO.out _ HV6.out).mono ?_; rintro e w7 ⟨rfl, hv⟩; have HV7 := Lib.hid (HV6.out.trans (hv.mono HV6.out.size)); clear hv g0 g1; obtain ⟨g0, g1⟩ := HF.out _ HV7.out)
          | (go_at_call 23; have hB := M1.out; clear hB M1; refine (HFE.out _ HV7.out).mono ?_; rintro e w8 ⟨rfl, hv⟩; have HV8 := Lib.hid (HV7.out.trans (hv.mono HV7.out.size)); clear hv g0 g1; obtain ⟨g0, g1⟩ := HF.out _ HV8.out)
          | (go_at_call 16; refine (HKN.out _ HV8.out).mono ?_; rintro e w30 ⟨rfl, hv⟩; have HV30 := Lib.hid (HV8.out.trans (hv.mono HV8.out.size)); clear hv))
        go_ret
        exact ⟨rfl, HA.out.trans (HV30.out.mono HA.out.size)⟩
      | true =>
        obtain ⟨PA, PO, rfl, hPA, hPN⟩ := (HN.out _ (Below.refl _ _)).out.hp.resolve_left (by omega)
        have HND : Hid (∀ w2, Below W0.heap.size W0 w2 → w2.cell? ⟨PA, PO + p * 3 + 2, none⟩ = some (.int .i64 (P p).nd)) := Lib.hid fun w2 h => (hPN.below hPA h p hp).2.2
        obtain ⟨v, hv⟩ : ∃ v, mosF P lc C (opnF s m) p (allLs (List.range lp)) = v := ⟨_, rfl⟩
        have hvn := mosF_need HP.out hp hfd
        rw [hv] at hvn
        have hnd := HP.out.p hp
        have HMO : Hid (∀ w2, Below W0.heap.size W0 w2 → Calls Tryz.prog 29 #[.agg #[.slice (some ⟨PA, PO, none⟩) lp cp, .slice ca lc cc], .slice sa m sc, .int .i64 (p : Int)] w2 fun e w' => e = .returned (.tuple #[.int .i64 v, .int .i64 0]) ∧ Below w2.heap.size w2 w') := Lib.hid fun w2 h => by
          rw [← hv]
          exact most_ok _ ca sa lp cp lc cc m sc p P C s w2 HP HQ2 hp hfd (by omega) (HN.out _ h) (HOS.out _ h)
        have HFE : Hid (∀ w2, Below W0.heap.size W0 w2 → Calls Tryz.prog 23 #[.agg #[.slice (some ⟨PA, PO, none⟩) lp cp, .slice ca lc cc], .slice sa m sc] w2 fun e w' => e = .returned (.tuple #[.int .i64 3, .int .i64 0]) ∧ Below w2.heap.size w2 w') := Lib.hid fun w2 h => fedq_w _ ca sa lp cp lc cc m sc P C s 3 w2 HP.out HQ2.out (wordV_three hfd) (by omega) (HN.out _ h) (HOS.out _ h)
        have hv0 : 0 ≤ v := by omega
        have hup : ∀ z : Int, z ≤ 10000 → fedV lp (updN P p z) lc C (opnF s m) false = decide (z ≤ v) := fun z hz => by rw [fed_upd hfd hz, hv]
        have M2 := Lib.hid True.intro
        have M3 := Lib.hid True.intro
        have M4 := Lib.hid True.intro
        have M5 := Lib.hid True.intro
        have HN1 : Hid (∀ w2, Below W0.heap.size W0 w2 → Calls Tryz.prog 30 #[.agg #[.slice (some ⟨PA, PO, none⟩) lp cp, .slice ca lc cc], .int .i64 (p : Int), .int .i64 (y)] w2 fun e w' => (∃ g c2, e = .returned (.agg #[.slice (some ⟨g, 0, none⟩) lp c2, .slice ca lc cc]) ∧ Ne8 w' (some ⟨g, 0, none⟩) ca lp lc (updN P p (y)) C) ∧ Below w2.heap.size w2 w') := Lib.hid fun w2 h => needed_w (some ⟨PA, PO, none⟩) ca lp cp lc cc p P C (y) w2 HP.out.l7 hp (HN.out _ h)
        have HN2 : Hid (∀ w2, Below W0.heap.size W0 w2 → Calls Tryz.prog 30 #[.agg #[.slice (some ⟨PA, PO, none⟩) lp cp, .slice ca lc cc], .int .i64 (p : Int), .int .i64 (v)] w2 fun e w' => (∃ g c2, e = .returned (.agg #[.slice (some ⟨g, 0, none⟩) lp c2, .slice ca lc cc]) ∧ Ne8 w' (some ⟨g, 0, none⟩) ca lp lc (updN P p (v)) C) ∧ Below w2.heap.size w2 w') := Lib.hid fun w2 h => needed_w (some ⟨PA, PO, none⟩) ca lp cp lc cc p P C (v) w2 HP.out.l7 hp (HN.out _ h)
        have HF2 : Hid (∀ w2 g c2, Below W0.heap.size W0 w2 → Hid (Ne8 w2 (some ⟨g, 0, none⟩) ca lp lc (updN P p (v)) C) → Calls Tryz.prog 23 #[.agg #[.slice (some ⟨g, 0, none⟩) lp c2, .slice ca lc cc], .slice sa m sc] w2 fun e w' => e = .returned (.tuple #[.int .i64 (3), .int .i64 0]) ∧ Below w2.heap.size w2 w') := Lib.hid fun w2 g c2 h hne => fedq_w (some ⟨g, 0, none⟩) ca sa lp c2 lc cc m sc (updN P p (v)) C s (3) w2 (HP.out.upd ⟨hv0, hvn.2⟩) HQ2.out (wordV_three (by rw [hup v hvn.2]; simp)) (by omega) hne (HOS.out _ h)
        have n1 : ¬ v < (P p).nd := by omega
        have n2 : ¬ 10000 < v := by omega
        have n3 : (0 : Int) ≤ (p : Int) := by omega
        have n4 : (p : Int) < (lp : Int) := by omega
        by_cases h10 : v = 10000
        case pos =>
          have q1 : (v == 10000) = true := by simp [h10]
          have n5 : y ≤ v := by omega
          have HF1 : Hid (∀ w2 g c2, Below W0.heap.size W0 w2 → Hid (Ne8 w2 (some ⟨g, 0, none⟩) ca lp lc (updN P p (y)) C) → Calls Tryz.prog 23 #[.agg #[.slice (some ⟨g, 0, none⟩) lp c2, .slice ca lc cc], .slice sa m sc] w2 fun e w' => e = .returned (.tuple #[.int .i64 (3), .int .i64 0]) ∧ Below w2.heap.size w2 w') := Lib.hid fun w2 g c2 h hne => fedq_w (some ⟨g, 0, none⟩) ca sa lp c2 lc cc m sc (updN P p (y)) C s (3) w2 (HP.out.upd ⟨by omega, by omega⟩) HQ2.out (wordV_three (by rw [hup y (by omega)]; simpa using n5)) (by omega) hne (HOS.out _ h)
          clear hup hfd hv hmq h10
          go_enter Tryz.func6, Tryz.ntmps6
          go_wp2_with (first
            | (go_at_call 22; rw [← hW0]; refine HRI.out.mono ?_; rintro e w5 ⟨rfl, hv⟩; clear hW0 f0 f1; have HV5 := Lib.hid hv; obtain ⟨g0, g1⟩ := HF.out _ hv; clear hv)
            | (go_at_call 28; refine (H3.out _ HV5.out).mono ?_; rintro e w6 ⟨rfl, hv⟩; have HV6 := Lib.hid (HV5.out.trans (hv.mono HV5.out.size)); clear hv g0 g1; obtain ⟨g0, g1⟩ := HF.out _ HV6.out)
            | (go_at_call 29; refine (HMO.out _ HV6.out).mono ?_; rintro e w7 ⟨rfl, hv⟩; have HV7 := Lib.hid (HV6.out.trans (hv.mono HV6.out.size)); clear hv g0 g1; obtain ⟨g0, g1⟩ := HF.out _ HV7.out)
            | (go_at_call 23; have hB := M1.out; clear hB M1; refine (HFE.out _ HV7.out).mono ?_; rintro e w8 ⟨rfl, hv⟩; have HV8 := Lib.hid (HV7.out.trans (hv.mono HV7.out.size)); clear hv g0 g1; obtain ⟨g0, g1⟩ := HF.out _ HV8.out; have r5 := HND.out _ HV8.out)
            | (go_at_call 30; have hB := M2.out; clear hB M2; refine (HN1.out _ HV8.out).mono ?_; rintro e w9 ⟨⟨G1, c1, rfl, hne⟩, hv⟩; have HE1 := Lib.hid hne; have HV9 := Lib.hid (HV8.out.trans (hv.mono HV8.out.size)); clear hv hne g0 g1; obtain ⟨g0, g1⟩ := HF.out _ HV9.out)
            | (go_at_call 23; have hB := M3.out; clear hB M3; refine (HF1.out _ G1 c1 HV9.out HE1).mono ?_; rintro e w10 ⟨rfl, hv⟩; have HV10 := Lib.hid (HV9.out.trans (hv.mono HV9.out.size)); clear hv g0 g1; obtain ⟨g0, g1⟩ := HF.out _ HV10.out)
            | (go_at_call 30; have hB := M4.out; clear hB M4; refine (HN2.out _ HV10.out).mono ?_; rintro e w11 ⟨⟨G2, c2, rfl, hne⟩, hv⟩; have HE2 := Lib.hid hne; have HV11 := Lib.hid (HV10.out.trans (hv.mono HV10.out.size)); clear hv hne g0 g1; obtain ⟨g0, g1⟩ := HF.out _ HV11.out)
            | (go_at_call 23; have hB := M5.out; clear hB M5; refine (HF2.out _ G2 c2 HV11.out HE2).mono ?_; rintro e w12 ⟨rfl, hv⟩; have HV12 := Lib.hid (HV11.out.trans (hv.mono HV11.out.size)); clear hv g0 g1; obtain ⟨g0, g1⟩ := HF.out _ HV12.out)
            | (go_at_call 16; refine (HKN.out _ HV12.out).mono ?_; rintro e w30 ⟨rfl, hv⟩; have HV30 := Lib.hid (HV12.out.trans (hv.mono HV12.out.size)); clear hv))
          go_ret
          exact ⟨rfl, HA.out.trans (HV30.out.mono HA.out.size)⟩
        case neg =>
          have q1 : (v == 10000) = false := by simpa using h10
          have M6 := Lib.hid True.intro
          have M7 := Lib.hid True.intro
          have hwr : wrap64 (v + 1) = v + 1 := by unfold wrap64; omega
          have HN3 : Hid (∀ w2, Below W0.heap.size W0 w2 → Calls Tryz.prog 30 #[.agg #[.slice (some ⟨PA, PO, none⟩) lp cp, .slice ca lc cc], .int .i64 (p : Int), .int .i64 (v + 1)] w2 fun e w' => (∃ g c2, e = .returned (.agg #[.slice (some ⟨g, 0, none⟩) lp c2, .slice ca lc cc]) ∧ Ne8 w' (some ⟨g, 0, none⟩) ca lp lc (updN P p (v + 1)) C) ∧ Below w2.heap.size w2 w') := Lib.hid fun w2 h => needed_w (some ⟨PA, PO, none⟩) ca lp cp lc cc p P C (v + 1) w2 HP.out.l7 hp (HN.out _ h)
          obtain ⟨u3, hu3⟩ : ∃ u, wordV lp (updN P p (v + 1)) lc C (opnF s m) = u := ⟨_, rfl⟩
          have q3 : (u3 == 3) = false := by rw [← hu3]; exact wordV_else (by rw [hup _ (by omega)]; simp; omega)
          have q5 : (u3 != 3) = true := by simpa using q3
          have HF3 : Hid (∀ w2 g c2, Below W0.heap.size W0 w2 → Hid (Ne8 w2 (some ⟨g, 0, none⟩) ca lp lc (updN P p (v + 1)) C) → Calls Tryz.prog 23 #[.agg #[.slice (some ⟨g, 0, none⟩) lp c2, .slice ca lc cc], .slice sa m sc] w2 fun e w' => e = .returned (.tuple #[.int .i64 (u3), .int .i64 0]) ∧ Below w2.heap.size w2 w') := Lib.hid fun w2 g c2 h hne => fedq_w (some ⟨g, 0, none⟩) ca sa lp c2 lc cc m sc (updN P p (v + 1)) C s (u3) w2 (HP.out.upd ⟨by omega, by omega⟩) HQ2.out hu3 (by omega) hne (HOS.out _ h)
          by_cases n5 : y ≤ v
          case pos =>
            have HF1 : Hid (∀ w2 g c2, Below W0.heap.size W0 w2 → Hid (Ne8 w2 (some ⟨g, 0, none⟩) ca lp lc (updN P p (y)) C) → Calls Tryz.prog 23 #[.agg #[.slice (some ⟨g, 0, none⟩) lp c2, .slice ca lc cc], .slice sa m sc] w2 fun e w' => e = .returned (.tuple #[.int .i64 (3), .int .i64 0]) ∧ Below w2.heap.size w2 w') := Lib.hid fun w2 g c2 h hne => fedq_w (some ⟨g, 0, none⟩) ca sa lp c2 lc cc m sc (updN P p (y)) C s (3) w2 (HP.out.upd ⟨by omega, by omega⟩) HQ2.out (wordV_three (by rw [hup y (by omega)]; simpa using n5)) (by omega) hne (HOS.out _ h)
            clear hup hfd hv hmq h10 hu3
            go_enter Tryz.func6, Tryz.ntmps6
            go_wp2_with (first
              | (go_at_call 22; rw [← hW0]; refine HRI.out.mono ?_; rintro e w5 ⟨rfl, hv⟩; clear hW0 f0 f1; have HV5 := Lib.hid hv; obtain ⟨g0, g1⟩ := HF.out _ hv; clear hv)
              | (go_at_call 28; refine (H3.out _ HV5.out).mono ?_; rintro e w6 ⟨rfl, hv⟩; have HV6 := Lib.hid (HV5.out.trans (hv.mono HV5.out.size)); clear hv g0 g1; obtain ⟨g0, g1⟩ := HF.out _ HV6.out)
              | (go_at_call 29; refine (HMO.out _ HV6.out).mono ?_; rintro e w7 ⟨rfl, hv⟩; have HV7 := Lib.hid (HV6.out.trans (hv.mono HV6.out.size)); clear hv g0 g1; obtain ⟨g0, g1⟩ := HF.out _ HV7.out)
              | (go_at_call 23; have hB := M1.out; clear hB M1; refine (HFE.out _ HV7.out).mono ?_; rintro e w8 ⟨rfl, hv⟩; have HV8 := Lib.hid (HV7.out.trans (hv.mono HV7.out.size)); clear hv g0 g1; obtain ⟨g0, g1⟩ := HF.out _ HV8.out; have r5 := HND.out _ HV8.out)
              | (go_at_call 30; have hB := M2.out; clear hB M2; refine (HN1.out _ HV8.out).mono ?_; rintro e w9 ⟨⟨G1, c1, rfl, hne⟩, hv⟩; have HE1 := Lib.hid hne; have HV9 := Lib.hid (HV8.out.trans (hv.mono HV8.out.size)); clear hv hne g0 g1; obtain ⟨g0, g1⟩ := HF.out _ HV9.out)
              | (go_at_call 23; have hB := M3.out; clear hB M3; refine (HF1.out _ G1 c1 HV9.out HE1).mono ?_; rintro e w10 ⟨rfl, hv⟩; have HV10 := Lib.hid (HV9.out.trans (hv.mono HV9.out.size)); clear hv g0 g1; obtain ⟨g0, g1⟩ := HF.out _ HV10.out)
              | (go_at_call 30; have hB := M4.out; clear hB M4; refine (HN2.out _ HV10.out).mono ?_; rintro e w11 ⟨⟨G2, c2, rfl, hne⟩, hv⟩; have HE2 := Lib.hid hne; have HV11 := Lib.hid (HV10.out.trans (hv.mono HV10.out.size)); clear hv hne g0 g1; obtain ⟨g0, g1⟩ := HF.out _ HV11.out)
              | (go_at_call 23; have hB := M5.out; clear hB M5; refine (HF2.out _ G2 c2 HV11.out HE2).mono ?_; rintro e w12 ⟨rfl, hv⟩; have HV12 := Lib.hid (HV11.out.trans (hv.mono HV11.out.size)); clear hv g0 g1; obtain ⟨g0, g1⟩ := HF.out _ HV12.out)
              | (go_at_call 30; have hB := M6.out; clear hB M6; refine (HN3.out _ HV12.out).mono ?_; rintro e w13 ⟨⟨G3, c3, rfl, hne⟩, hv⟩; have HE3 := Lib.hid hne; have HV13 := Lib.hid (HV12.out.trans (hv.mono HV12.out.size)); clear hv hne g0 g1; obtain ⟨g0, g1⟩ := HF.out _ HV13.out)
              | (go_at_call 23; have hB := M7.out; clear hB M7; refine (HF3.out _ G3 c3 HV13.out HE3).mono ?_; rintro e w14 ⟨rfl, hv⟩; have HV14 := Lib.hid (HV13.out.trans (hv.mono HV13.out.size)); clear hv g0 g1; obtain ⟨g0, g1⟩ := HF.out _ HV14.out)
              | (go_at_call 16; refine (HKN.out _ HV14.out).mono ?_; rintro e w30 ⟨rfl, hv⟩; have HV30 := Lib.hid (HV14.out.trans (hv.mono HV14.out.size)); clear hv))
            go_ret
            exact ⟨rfl, HA.out.trans (HV30.out.mono HA.out.size)⟩
          case neg =>
            obtain ⟨u1, hu1⟩ : ∃ u, wordV lp (updN P p y) lc C (opnF s m) = u := ⟨_, rfl⟩
            have q4 : (u1 == 3) = false := by rw [← hu1]; exact wordV_else (by rw [hup _ (by omega)]; simpa using n5)
            have HF1 : Hid (∀ w2 g c2, Below W0.heap.size W0 w2 → Hid (Ne8 w2 (some ⟨g, 0, none⟩) ca lp lc (updN P p (y)) C) → Calls Tryz.prog 23 #[.agg #[.slice (some ⟨g, 0, none⟩) lp c2, .slice ca lc cc], .slice sa m sc] w2 fun e w' => e = .returned (.tuple #[.int .i64 (u1), .int .i64 0]) ∧ Below w2.heap.size w2 w') := Lib.hid fun w2 g c2 h hne => fedq_w (some ⟨g, 0, none⟩) ca sa lp c2 lc cc m sc (updN P p (y)) C s (u1) w2 (HP.out.upd ⟨by omega, by omega⟩) HQ2.out hu1 (by omega) hne (HOS.out _ h)
            clear hup hfd hv hmq h10 hu3 hu1
            go_enter Tryz.func6, Tryz.ntmps6
            go_wp2_with (first
              | (go_at_call 22; rw [← hW0]; refine HRI.out.mono ?_; rintro e w5 ⟨rfl, hv⟩; clear hW0 f0 f1; have HV5 := Lib.hid hv; obtain ⟨g0, g1⟩ := HF.out _ hv; clear hv)
              | (go_at_call 28; refine (H3.out _ HV5.out).mono ?_; rintro e w6 ⟨rfl, hv⟩; have HV6 := Lib.hid (HV5.out.trans (hv.mono HV5.out.size)); clear hv g0 g1; obtain ⟨g0, g1⟩ := HF.out _ HV6.out)
              | (go_at_call 29; refine (HMO.out _ HV6.out).mono ?_; rintro e w7 ⟨rfl, hv⟩; have HV7 := Lib.hid (HV6.out.trans (hv.mono HV6.out.size)); clear hv g0 g1; obtain ⟨g0, g1⟩ := HF.out _ HV7.out)
              | (go_at_call 23; have hB := M1.out; clear hB M1; refine (HFE.out _ HV7.out).mono ?_; rintro e w8 ⟨rfl, hv⟩; have HV8 := Lib.hid (HV7.out.trans (hv.mono HV7.out.size)); clear hv g0 g1; obtain ⟨g0, g1⟩ := HF.out _ HV8.out; have r5 := HND.out _ HV8.out)
              | (go_at_call 30; have hB := M2.out; clear hB M2; refine (HN1.out _ HV8.out).mono ?_; rintro e w9 ⟨⟨G1, c1, rfl, hne⟩, hv⟩; have HE1 := Lib.hid hne; have HV9 := Lib.hid (HV8.out.trans (hv.mono HV8.out.size)); clear hv hne g0 g1; obtain ⟨g0, g1⟩ := HF.out _ HV9.out)
              | (go_at_call 23; have hB := M3.out; clear hB M3; refine (HF1.out _ G1 c1 HV9.out HE1).mono ?_; rintro e w10 ⟨rfl, hv⟩; have HV10 := Lib.hid (HV9.out.trans (hv.mono HV9.out.size)); clear hv g0 g1; obtain ⟨g0, g1⟩ := HF.out _ HV10.out)
              | (go_at_call 30; have hB := M4.out; clear hB M4; refine (HN2.out _ HV10.out).mono ?_; rintro e w11 ⟨⟨G2, c2, rfl, hne⟩, hv⟩; have HE2 := Lib.hid hne; have HV11 := Lib.hid (HV10.out.trans (hv.mono HV10.out.size)); clear hv hne g0 g1; obtain ⟨g0, g1⟩ := HF.out _ HV11.out)
              | (go_at_call 23; have hB := M5.out; clear hB M5; refine (HF2.out _ G2 c2 HV11.out HE2).mono ?_; rintro e w12 ⟨rfl, hv⟩; have HV12 := Lib.hid (HV11.out.trans (hv.mono HV11.out.size)); clear hv g0 g1; obtain ⟨g0, g1⟩ := HF.out _ HV12.out)
              | (go_at_call 30; have hB := M6.out; clear hB M6; refine (HN3.out _ HV12.out).mono ?_; rintro e w13 ⟨⟨G3, c3, rfl, hne⟩, hv⟩; have HE3 := Lib.hid hne; have HV13 := Lib.hid (HV12.out.trans (hv.mono HV12.out.size)); clear hv hne g0 g1; obtain ⟨g0, g1⟩ := HF.out _ HV13.out)
              | (go_at_call 23; have hB := M7.out; clear hB M7; refine (HF3.out _ G3 c3 HV13.out HE3).mono ?_; rintro e w14 ⟨rfl, hv⟩; have HV14 := Lib.hid (HV13.out.trans (hv.mono HV13.out.size)); clear hv g0 g1; obtain ⟨g0, g1⟩ := HF.out _ HV14.out)
              | (go_at_call 16; refine (HKN.out _ HV14.out).mono ?_; rintro e w30 ⟨rfl, hv⟩; have HV30 := Lib.hid (HV14.out.trans (hv.mono HV14.out.size)); clear hv))
            go_ret
            exact ⟨rfl, HA.out.trans (HV30.out.mono HA.out.size)⟩
end Go.Kn
