/- Walks of the functions of layer 2 that ChannelCarries calls, and the law itself (a part of it). Conditions: as each theorem states them. -/
import Derived.Test.YtifdohhffmlbaaaGreatDoorX3
set_option linter.unusedVariables false
set_option linter.unusedSimpArgs false
namespace Go.Kn
open Go Go.Proofs Go.RowKit

/-- the least and the greatest of what k rates, from the least on, carry -/
def lowV (s : Nat → Int) (x : St5) (ag : Int) : Nat → Int
  | 0 => 10000001
  | k + 1 => cupsL s x ag (x.lo + k)
def highV (s : Nat → Int) (x : St5) (ag : Int) : Nat → Int
  | 0 => -1
  | _ + 1 => cupsL s x ag x.lo

theorem cupsL_bd {s : Nat → Int} {x : St5} {ag r : Int} (hs : 0 ≤ s x.f.toNat ∧ s x.f.toNat ≤ 1000) (hb : 0 ≤ x.b ∧ x.b ≤ 100) (hd : 0 ≤ x.d ∧ x.d ≤ 100) (hr : 0 ≤ r) (ha : 0 ≤ ag) : 0 ≤ cupsL s x ag r ∧ cupsL s x ag r ≤ 10000000 := by
  unfold cupsL cupsV
  have h0 : 0 ≤ r * ag / 100 := Int.ediv_nonneg (Int.mul_nonneg hr ha) (by decide)
  have a := mul_bd (a := max 0 (x.b - 2 * (r * ag / 100))) (b := max 0 (x.d - r * ag / 100)) (A := 100) (B := 100) (by omega) (by omega) (by omega) (by omega)
  have b := mul_bd a.1 a.2 hs.1 hs.2
  exact ⟨b.1, Int.le_trans b.2 (by decide)⟩

theorem box_froz {w w1 : World} {x y : Value} {T : TypeId} (hb : Below (w.alloc (.cells #[x, y] T)).heap.size (w.alloc (.cells #[x, y] T)) w1) :
    w1.frozen? ⟨w.heap.size, 0, none⟩ = false ∧ w1.frozen? ⟨w.heap.size, 1, none⟩ = false := by
  obtain ⟨_, hf⟩ := bcell hb
  exact ⟨(hf _ _ (by simp)).trans (by simp), (hf _ _ (by simp)).trans (by simp)⟩

theorem al3 (w : World) (x y X Y U V : Value) (T T1 T2 : TypeId) : let w3 := ((w.alloc (.cells #[x, y] T)).alloc (.cells #[X, Y] T1)).alloc (.cells #[U, V] T2)
    Below w.heap.size w w3 ∧ w3.cell? ⟨w.heap.size, 0, none⟩ = some x ∧ w3.cell? ⟨w.heap.size, 1, none⟩ = some y ∧ w3.cell? ⟨w.heap.size + 1, 0, none⟩ = some X ∧ w3.cell? ⟨w.heap.size + 1, 1, none⟩ = some Y ∧
      w3.frozen? ⟨w.heap.size + 1, 0, none⟩ = false ∧ w3.frozen? ⟨w.heap.size + 1, 1, none⟩ = false ∧ w3.cell? ⟨w.heap.size + 1 + 1, 0, none⟩ = some U ∧ w3.cell? ⟨w.heap.size + 1 + 1, 1, none⟩ = some V ∧
      w3.frozen? ⟨w.heap.size + 1 + 1, 0, none⟩ = false ∧ w3.frozen? ⟨w.heap.size + 1 + 1, 1, none⟩ = false ∧ w.heap.size + 1 + 1 < w3.heap.size := by
  intro w3
  have e1 : Below (w.alloc (.cells #[x, y] T)).heap.size (w.alloc (.cells #[x, y] T)) w3 := ((Below.refl _ _).alloc (Nat.le_refl _) _).alloc (by simp) _
  have e2 : Below ((w.alloc (.cells #[x, y] T)).alloc (.cells #[X, Y] T1)).heap.size ((w.alloc (.cells #[x, y] T)).alloc (.cells #[X, Y] T1)) w3 := (Below.refl _ _).alloc (Nat.le_refl _) _
  have e3 : Below w3.heap.size w3 w3 := Below.refl _ _
  obtain ⟨x1, x2, _⟩ := box_cells e1
  obtain ⟨r1, r2, _⟩ := box_cells e2
  obtain ⟨r3, r4⟩ := box_froz e2
  obtain ⟨o1, o2, o5⟩ := box_cells e3
  obtain ⟨o3, o4⟩ := box_froz e3
  simp only [World.size_alloc] at r1 r2 r3 r4 o1 o2 o3 o4 o5
  exact ⟨below_al e1, x1, x2, r1, r2, r3, r4, o1, o2, o3, o4, o5⟩

set_option maxRecDepth 100000 in
set_option maxHeartbeats 4000000 in
theorem refCarries_w (A O C P ls cs lt ct n : Nat) (s : Nat → Int) (t : Nat → St5) (ag : Int) (w : World) (H : Hid (LineAt w A O C P ls lt s t)) (hn : n < lt) (ha : 0 ≤ ag ∧ ag ≤ 200) :
    Calls Tryz.prog 22 #[.agg #[.slice (some ⟨A, O, none⟩) ls cs, .slice (some ⟨C, P, none⟩) lt ct], .int .i64 (n : Int), .int .i64 ag] w
      fun e w' => e = .returned (.agg #[.int .i64 (cupsL s (t n) ag (t n).hi), .int .i64 (cupsL s (t n) ag (t n).lo)]) ∧ Below w.heap.size w w' := by
  obtain ⟨b1, b2, b3, b4, b5⟩ := H.out.bds hn
  have q0 := H.out.ls2
  have q1 := H.out.lt2
  have hCw := H.out.hC
  have hsp : 0 ≤ s (t n).f.toNat ∧ s (t n).f.toNat ≤ 1000 := ⟨by omega, by omega⟩
  obtain ⟨d, hd⟩ : ∃ d : Nat, (t n).hi = (t n).lo + d := ⟨((t n).hi - (t n).lo).toNat, by omega⟩
  have CL : Hid (∀ w1, Below w.heap.size w w1 → LineAt w1 A O C P ls lt s t) := Lib.hid fun w1 h => H.out.below h
  obtain ⟨_, _, _, c3, _⟩ := (((H.out.alloc (.cells #[.slice (some ⟨A, O, none⟩) ls cs, .slice (some ⟨C, P, none⟩) lt ct] 25)).alloc (.cells #[.int .i64 0, .int .i64 0] 31)).alloc (.cells #[.int .i64 10000001, .int .i64 (-1)] 31)).st n hn
  go_enter Tryz.func22, Tryz.ntmps22
  go_wp2
  go_loopw [8] (fun i wr => ∃ k : Nat, k ≤ d + 1 ∧ i = .int .i64 ((t n).lo + k) ∧ Below w.heap.size w wr ∧ wr.cell? ⟨w.heap.size, 0, none⟩ = some (.slice (some ⟨A, O, none⟩) ls cs) ∧ wr.cell? ⟨w.heap.size, 1, none⟩ = some (.slice (some ⟨C, P, none⟩) lt ct) ∧
      wr.cell? ⟨w.heap.size + 1, 0, none⟩ = some (.int .i64 0) ∧ wr.cell? ⟨w.heap.size + 1, 1, none⟩ = some (.int .i64 0) ∧ wr.frozen? ⟨w.heap.size + 1, 0, none⟩ = false ∧ wr.frozen? ⟨w.heap.size + 1, 1, none⟩ = false ∧
      wr.cell? ⟨w.heap.size + 1 + 1, 0, none⟩ = some (.int .i64 (lowV s (t n) ag k)) ∧ wr.cell? ⟨w.heap.size + 1 + 1, 1, none⟩ = some (.int .i64 (highV s (t n) ag k)) ∧ wr.frozen? ⟨w.heap.size + 1 + 1, 0, none⟩ = false ∧ wr.frozen? ⟨w.heap.size + 1 + 1, 1, none⟩ = false ∧ w.heap.size + 1 + 1 < wr.heap.size)
    (fun i _ => ((t n).hi + 1 - intOf i).toNat)
  case atStart =>
    exact ⟨0, by omega, by go_num, al3 w _ _ _ _ _ _ _ _ _⟩
  case round =>
    obtain ⟨k, hk, rfl, hbw, x1, x2, r1, r2, r3, r4, o1, o2, o3, o4, hz⟩ := hrel
    have HBW := Lib.hid hbw
    obtain ⟨_, _, _, c3, c4⟩ := ((CL.out _ hbw).st n hn)
    clear c3 hbw
    by_cases hle : (t n).lo + (k : Int) ≤ (t n).hi
    · have hX := cupsL_bd (s := s) (x := t n) (ag := ag) (r := (t n).lo + k) hsp ⟨by omega, b1.2⟩ ⟨by omega, b2.2⟩ (by omega) ha.1
      have hL : cupsL s (t n) ag ((t n).lo + k) ≤ lowV s (t n) ag k := by
        cases k with
        | zero => simp only [lowV]; omega
        | succ k' => exact cupsL_mono hsp.1 (by omega) (by omega) ha.1 (Int.le_refl _)
      have hH : (k = 0 ∧ highV s (t n) ag k = -1) ∨ (highV s (t n) ag k = highV s (t n) ag (k + 1) ∧ cupsL s (t n) ag ((t n).lo + k) ≤ highV s (t n) ag k) := by
        cases k with
        | zero => exact .inl ⟨rfl, rfl⟩
        | succ k' => exact .inr ⟨rfl, cupsL_mono hsp.1 (by omega) (by omega) ha.1 (Int.le_refl _)⟩
      have hH1 : highV s (t n) ag (k + 1) = cupsL s (t n) ag (t n).lo := rfl
      have hL1 : lowV s (t n) ag (k + 1) = cupsL s (t n) ag ((t n).lo + k) := rfl
      go_wp2_with (go_at_call 23; refine (rcups_l (CL.out _ HBW.out) hn _ _ ag _ ha ⟨by omega, by omega⟩).mono ?_; rintro e w1 ⟨rfl, hb1⟩; obtain ⟨hc1, hf1⟩ := bcell hb1; have y1 := (hc1 _ _ hz).trans o1; have y2 := (hc1 _ _ hz).trans o2; have y3 := (hf1 _ _ hz).trans o3; have y4 := (hf1 _ _ hz).trans o4; have HC1 := Lib.hid hc1; have HF1 := Lib.hid hf1; clear hc1 hf1)
      have mn : (if cupsL s (t n) ag ((t n).lo + k) < lowV s (t n) ag k then cupsL s (t n) ag ((t n).lo + k) else lowV s (t n) ag k) = lowV s (t n) ag (k + 1) := by
        rw [hL1]; split <;> omega
      have mx : (if highV s (t n) ag k < cupsL s (t n) ag ((t n).lo + k) then cupsL s (t n) ag ((t n).lo + k) else highV s (t n) ag k) = highV s (t n) ag (k + 1) := by
        rcases hH with ⟨rfl, h⟩ | ⟨h1, h2⟩
        · rw [h, if_pos (by omega), hH1]; simp
        · rw [if_neg (by omega), h1]
      rw [mn, mx]
      have z1 : w.heap.size < w1.heap.size := by have := hb1.size; omega
      have B1 : Below w.heap.size w w1 := HBW.out.trans (hb1.mono HBW.out.size)
      go_roundw
      case rel =>
        refine ⟨k + 1, by omega, by go_num, (B1.setCell (by simp; omega) _).setCell (by simp; omega) _, ?_, ?_, ?_, ?_, ?_, ?_, ?_, ?_, ?_, ?_, ?_⟩
        · rw [World.cell?_setCell_far _ _ _ _ (by simp; try omega), World.cell?_setCell_far _ _ _ _ (by simp; try omega)]; exact (HC1.out _ _ (by omega)).trans x1
        · rw [World.cell?_setCell_far _ _ _ _ (by simp; try omega), World.cell?_setCell_far _ _ _ _ (by simp; try omega)]; exact (HC1.out _ _ (by omega)).trans x2
        · rw [World.cell?_setCell_far _ _ _ _ (by simp; try omega), World.cell?_setCell_far _ _ _ _ (by simp; try omega)]; exact (HC1.out _ _ (by omega)).trans r1
        · rw [World.cell?_setCell_far _ _ _ _ (by simp; try omega), World.cell?_setCell_far _ _ _ _ (by simp; try omega)]; exact (HC1.out _ _ (by omega)).trans r2
        · rw [World.frozen?_setCell, World.frozen?_setCell]; exact (HF1.out _ _ (by omega)).trans r3
        · rw [World.frozen?_setCell, World.frozen?_setCell]; exact (HF1.out _ _ (by omega)).trans r4
        · exact (World.cell?_setCell_other _ _ _ _ (by simp)).trans (World.cell?_setCell_same _ _ _ y1)
        · exact World.cell?_setCell_same _ _ _ ((World.cell?_setCell_other _ _ _ _ (by simp)).trans y2)
        · rw [World.frozen?_setCell, World.frozen?_setCell]; exact y3
        · rw [World.frozen?_setCell, World.frozen?_setCell]; exact y4
        · have := hb1.size
          rw [World.size_setCell, World.size_setCell]; omega
      case measure => simp [intOf]; omega
    · have ek : k = d + 1 := by omega
      subst ek
      go_wp2
      have e1 : lowV s (t n) ag (d + 1) = cupsL s (t n) ag (t n).hi := by rw [hd]; rfl
      have e2 : highV s (t n) ag (d + 1) = cupsL s (t n) ag (t n).lo := rfl
      refine bodyPost_ret (v := .agg #[.int .i64 (cupsL s (t n) ag (t n).hi), .int .i64 (cupsL s (t n) ag (t n).lo)]) ?_ rfl ⟨by rw [hd], ?_⟩
      · rw [← e1, ← e2]
        simp [results, Tryz.results22, go_sem, r1, r2]
      · exact (HBW.out.setCell (by simp) _).setCell (by simp) _
end Go.Kn
