/- Walks of the functions of layer 2 that ChannelTrue calls, and the law itself (a part of it). Conditions: as each theorem states them. -/
import Derived.Test.YtifdohhffmlbaaaGreatDoorWD
import Derived.Test.YtifdohhffmlbaaaGreatDoorWE
import Derived.Deep.RegionHeld3
set_option linter.unusedVariables false
set_option linter.unusedSimpArgs false
namespace Go.Kn
open Go Go.Proofs Go.RowKit

theorem cups_mono {b d sp ag r ag' r' : Int} (hs : 0 ≤ sp) (h : r * ag ≤ r' * ag') : cupsV b d sp ag' r' ≤ cupsV b d sp ag r := by
  unfold cupsV
  have h1 : r * ag / 100 ≤ r' * ag' / 100 := Int.ediv_le_ediv (by omega) h
  have h2 : max 0 (b - 2 * (r' * ag' / 100)) ≤ max 0 (b - 2 * (r * ag / 100)) := by omega
  have h3 : max 0 (d - r' * ag' / 100) ≤ max 0 (d - r * ag / 100) := by omega
  have h4 : max 0 (b - 2 * (r' * ag' / 100)) * max 0 (d - r' * ag' / 100) ≤ max 0 (b - 2 * (r * ag / 100)) * max 0 (d - r * ag / 100) :=
    Int.mul_le_mul h2 h3 (by omega) (by omega)
  exact Int.mul_le_mul_of_nonneg_right h4 hs

theorem cupsL_mono {s : Nat → Int} {x : St5} {ag r ag' r' : Int} (hs : 0 ≤ s x.f.toNat) (h0 : 0 ≤ r) (h1 : r ≤ r') (h2 : 0 ≤ ag) (h3 : ag ≤ ag') : cupsL s x ag' r' ≤ cupsL s x ag r :=
  cups_mono hs (Int.mul_le_mul h1 h3 h2 (by omega))

abbrev KnownOk : Prop := ∀ w : World, Calls Tryz.prog 16 #[] w fun e w' => e = .returned (.bool true) ∧ Below w.heap.size w w'

/-- a boxed line, in any world that comes later -/
theorem box_cells {w w1 : World} {x y : Value} {T : TypeId} (hb : Below (w.alloc (.cells #[x, y] T)).heap.size (w.alloc (.cells #[x, y] T)) w1) :
    w1.cell? ⟨w.heap.size, 0, none⟩ = some x ∧ w1.cell? ⟨w.heap.size, 1, none⟩ = some y ∧ w.heap.size < w1.heap.size := by
  obtain ⟨hc, _⟩ := bcell hb
  refine ⟨(hc _ _ (by simp)).trans (by simp), (hc _ _ (by simp)).trans (by simp), ?_⟩
  have := hb.size
  simp at this; omega

set_option maxRecDepth 100000 in
set_option maxHeartbeats 4000000 in
theorem law_good (A O C P ls cs lt ct n : Nat) (s : Nat → Int) (t : Nat → St5) (ag ra la : Int) (w : World) (H : Hid (LineAt w A O C P ls lt s t)) (hn : n < lt) (ha : 0 ≤ ag ∧ ag ≤ 200) (hla : 0 ≤ la ∧ la ≤ 200) (hle : ag ≤ la)
    (hr1 : (t n).lo ≤ ra) (hr2 : ra ≤ (t n).hi) (hra : 0 ≤ ra ∧ ra ≤ 100) (K : Hid KnownOk) :
    Calls Tryz.prog 4 #[.agg #[.slice (some ⟨A, O, none⟩) ls cs, .slice (some ⟨C, P, none⟩) lt ct], .int .i64 (n : Int), .int .i64 ag, .int .i64 ra, .int .i64 la] w
      fun e w' => e = .returned (.bool true) ∧ Below w.heap.size w w' := by
  have hls := H.out.ls2
  have hlt := H.out.lt2
  have hRP : Hid (RightP ls lt s t) := Lib.hid ⟨H.out.ls1, H.out.ls2, H.out.lt1, H.out.lt2, H.out.sok, H.out.tok⟩
  have HS : ∀ o : Obj, Hid (NumSl (w.alloc o) (some ⟨A, O, none⟩) ls s) := fun o => Lib.hid (.inr ⟨A, O, rfl, (H.out.alloc o).hA, (H.out.alloc o).sp⟩)
  have HT : ∀ o : Obj, Hid (StSl (w.alloc o) (some ⟨C, P, none⟩) lt t) := fun o => Lib.hid (.inr ⟨C, P, rfl, (H.out.alloc o).hC, (H.out.alloc o).st⟩)
  have Hal : Hid (∀ o : Obj, LineAt (w.alloc o) A O C P ls lt s t) := Lib.hid fun o => H.out.alloc o
  have hshort : decide (ls ≤ 13 ∧ lt ≤ 10) = true := by simp; omega
  have f1 : fromB 0 ((lt : Int) - 1) (n : Int) = true := by simp only [fromB, decide_eq_true_eq]; omega
  have f2 : fromB 0 200 ag = true := by simp only [fromB, decide_eq_true_eq]; omega
  have f3 : fromB 0 200 la = true := by simp only [fromB, decide_eq_true_eq]; omega
  have BX := Lib.hid (fun (w1 : World) (hb : Below (w.alloc (.cells #[.slice (some ⟨A, O, none⟩) ls cs, .slice (some ⟨C, P, none⟩) lt ct] 25)).heap.size (w.alloc (.cells #[.slice (some ⟨A, O, none⟩) ls cs, .slice (some ⟨C, P, none⟩) lt ct] 25)) w1) => box_cells hb)
  go_enter Tryz.func4, Tryz.ntmps4
  go_wp2_with (first
    | (go_at_call 15; refine (short_w _ _ _ _ _ _ _ (by unfold maxLen; omega) (by unfold maxLen; omega)).mono ?_; rw [hshort]; rintro e w1 ⟨rfl, hb1⟩; obtain ⟨x1, x2, x3⟩ := BX.out _ hb1)
    | (go_at_call 19; refine (right_w _ _ _ _ _ _ s t _ (by omega) (by omega) (Lib.hid (.inr ⟨A, O, rfl, ((Hal.out _).below hb1).hA, ((Hal.out _).below hb1).sp⟩)) (Lib.hid (.inr ⟨C, P, rfl, ((Hal.out _).below hb1).hC, ((Hal.out _).below hb1).st⟩))).mono ?_; rintro e w2 ⟨⟨rb, rfl, hrb⟩, hb2⟩; obtain rfl : rb = true := hrb.2 hRP.out; clear hrb; have hb12 := hb1.trans (hb2.mono hb1.size); clear x1 x2 x3; obtain ⟨x1, x2, x3⟩ := BX.out _ hb12)
    | (go_at_call 20; refine (number_w _ undef _ _ _ _ _ (by unfold maxLen; omega)).mono ?_; rintro e w3 ⟨rfl, hb3⟩; have hb13 := hb12.trans (hb3.mono hb12.size); clear x1 x2 x3; obtain ⟨x1, x2, x3⟩ := BX.out _ hb13; obtain ⟨_, _, _, c3, c4⟩ := ((Hal.out _).below hb13).st n hn)
    | (go_at_call 21; refine (age_w _ _).mono ?_; rintro e w' ⟨rfl, rfl⟩)
    | (go_at_call_of 18 ag; refine (pcarries_w _ _ _ _ _ _ _ _ _ s t ag _ (Lib.hid ((Hal.out _).below hb13)) hn ha).mono ?_; rintro e w4 ⟨rfl, hb4⟩; have hb14 := hb13.trans (hb4.mono hb13.size); clear x1 x2 x3 c3 c4; obtain ⟨x1, x2, x3⟩ := BX.out _ hb14)
    | (go_at_call_of 18 la; refine (pcarries_w _ _ _ _ _ _ _ _ _ s t la _ (Lib.hid (((Hal.out _).below hb14).alloc _)) hn hla).mono ?_; rintro e w5 ⟨rfl, hb5⟩;
        have hb15 := (hb14.alloc (by have := hb14.size; omega) _).trans (hb5.mono (by have := hb14.size; simp; omega)); clear x1 x2 x3; obtain ⟨x1, x2, x3⟩ := BX.out _ hb15; obtain ⟨y1, y2, y3⟩ := box_cells hb5;
        obtain ⟨_, _, _, c3, c4⟩ := (((Hal.out _).below hb15).alloc (.cells #[.int .i64 (cupsL s (t n) la (t n).hi), .int .i64 (cupsL s (t n) la (t n).lo)] 31)).st n hn)
    | (go_at_call_of 23 ra; refine (rcups_l ((((Hal.out _).below hb15).alloc _).alloc _) hn _ _ ag ra ha hra).mono ?_; rintro e w8 ⟨rfl, hb8⟩))
  have g5 := hb15.size
  have hb18 := ((hb15.alloc (Nat.le_trans (Nat.le_refl _) g5) _).alloc (Nat.le_trans g5 (by simp)) _).trans (hb8.mono (Nat.le_trans g5 (by simp; omega)))
  clear x1 x2 x3 y1 y2 y3 c3 c4
  obtain ⟨x1, x2, x3⟩ := BX.out _ hb18
  obtain ⟨y1, y2, y3⟩ := box_cells (((hb5.alloc hb5.size _).alloc (Nat.le_trans hb5.size (by simp)) _).trans (hb8.mono (Nat.le_trans hb5.size (by simp; omega))))
  obtain ⟨z1, z2, z3⟩ := box_cells ((((Below.refl _ _).alloc (Nat.le_refl _) _)).trans (hb8.mono (by simp)))
  obtain ⟨l1, l2, l3⟩ := box_cells hb8
  simp only [World.size_alloc] at l1 l2 l3
  have hlo : 0 ≤ (t n).lo ∧ (t n).lo ≤ 100 := ⟨(H.out.bds hn).2.2.2.1.1, Int.le_trans (H.out.bds hn).2.2.2.1.2.1 (H.out.bds hn).2.2.2.1.2.2⟩
  have hhi : 0 ≤ (t n).hi ∧ (t n).hi ≤ 100 := ⟨Int.le_trans hlo.1 (H.out.bds hn).2.2.2.1.2.1, (H.out.bds hn).2.2.2.1.2.2⟩
  have hsp : 0 ≤ s (t n).f.toNat := Int.le_trans (by decide) (H.out.bds hn).2.2.2.2.1
  have m1 : decide (cupsL s (t n) ag ra < cupsL s (t n) ag (t n).hi) = false := decide_eq_false (Int.not_lt.2 (cupsL_mono hsp hra.1 hr2 ha.1 (Int.le_refl _)))
  have m2 : decide (cupsL s (t n) ag (t n).lo < cupsL s (t n) ag ra) = false := decide_eq_false (Int.not_lt.2 (cupsL_mono hsp hlo.1 hr1 ha.1 (Int.le_refl _)))
  have m3 : decide (cupsL s (t n) la (t n).hi ≤ cupsL s (t n) ag (t n).hi) = true := decide_eq_true (cupsL_mono hsp hhi.1 (Int.le_refl _) ha.1 hle)
  have m4 : decide (cupsL s (t n) la (t n).lo ≤ cupsL s (t n) ag (t n).lo) = true := decide_eq_true (cupsL_mono hsp hlo.1 (Int.le_refl _) ha.1 hle)
  have LW : Hid (∀ w', Below w8.heap.size w8 w' → LineAt w' A O C P ls lt s t) := Lib.hid fun w' h => (Hal.out _).below (hb18.trans (h.mono hb18.size))
  have FX : Hid (∀ w', Below w8.heap.size w8 w' → w'.cell? ⟨w.heap.size, 0, none⟩ = some (.slice (some ⟨A, O, none⟩) ls cs) ∧ w'.cell? ⟨w.heap.size, 1, none⟩ = some (.slice (some ⟨C, P, none⟩) lt ct) ∧
      w'.cell? ⟨w4.heap.size, 0, none⟩ = some (.int .i64 (cupsL s (t n) ag (t n).hi)) ∧ w'.cell? ⟨w4.heap.size, 1, none⟩ = some (.int .i64 (cupsL s (t n) ag (t n).lo)) ∧
      w'.cell? ⟨w5.heap.size, 0, none⟩ = some (.int .i64 (cupsL s (t n) la (t n).hi)) ∧ w'.cell? ⟨w5.heap.size, 1, none⟩ = some (.int .i64 (cupsL s (t n) la (t n).lo)) ∧
      w'.cell? ⟨w5.heap.size + 1, 0, none⟩ = some (.int .i64 (t n).lo) ∧ w'.cell? ⟨w5.heap.size + 1, 1, none⟩ = some (.int .i64 (t n).hi)) := Lib.hid fun w' h => by
    have q : ∀ b o, b < w8.heap.size → w'.cell? ⟨b, o, none⟩ = w8.cell? ⟨b, o, none⟩ := (bcell h).1
    exact ⟨(q _ _ x3).trans x1, (q _ _ x3).trans x2, (q _ _ y3).trans y1, (q _ _ y3).trans y2, (q _ _ z3).trans z1, (q _ _ z3).trans z2, (q _ _ l3).trans l1, (q _ _ l3).trans l2⟩
  have hB18 : Below w.heap.size w w8 := below_al hb18
  clear hb1 hb2 hb12 hb3 hb13 hb4 hb14 hb5 hb15 hb18 BX Hal g5 hb8 f1 f2 f3 hshort hRP HS HT
  have B0 : Below w8.heap.size w8 w8.drew := below_drew (Below.refl _ _)
  go_region_held3 (fun w' => w'.cell? ⟨w.heap.size, 0, none⟩ = some (.slice (some ⟨A, O, none⟩) ls cs) ∧ w'.cell? ⟨w.heap.size, 1, none⟩ = some (.slice (some ⟨C, P, none⟩) lt ct) ∧
      w'.cell? ⟨w4.heap.size, 0, none⟩ = some (.int .i64 (cupsL s (t n) ag (t n).hi)) ∧ w'.cell? ⟨w4.heap.size, 1, none⟩ = some (.int .i64 (cupsL s (t n) ag (t n).lo)) ∧
      w'.cell? ⟨w5.heap.size, 0, none⟩ = some (.int .i64 (cupsL s (t n) la (t n).hi)) ∧ w'.cell? ⟨w5.heap.size, 1, none⟩ = some (.int .i64 (cupsL s (t n) la (t n).lo)) ∧
      w'.cell? ⟨w5.heap.size + 1, 0, none⟩ = some (.int .i64 (t n).lo) ∧ w'.cell? ⟨w5.heap.size + 1, 1, none⟩ = some (.int .i64 (t n).hi))
    ((first | exact FX.out _ hB10 | exact FX.out _ hB9 | exact FX.out _ B0))
    ((first
      | (go_at_call_of 23 (St5.hi (t n)); refine (rcups_l (LW.out _ B0) hn _ _ ag (t n).hi ha hhi).mono ?_; rintro e w9 ⟨rfl, hb9⟩; have hB9 := B0.trans (hb9.mono B0.size))
      | (go_at_call_of 23 (St5.lo (t n)); refine (rcups_l (LW.out _ hB9) hn _ _ ag (t n).lo ha hlo).mono ?_; rintro e w10 ⟨rfl, hb10⟩; have hB10 := hB9.trans (hb10.mono hB9.size))))
  all_goals
    clear x1 x2 y1 y2 z1 z2 l1 l2
    obtain ⟨x1, x2, y1, y2, z1, z2, l1, l2⟩ := FX.out _ hB10
    go_wp2_with (go_at_call 16; refine (K.out _).mono ?_; rintro e w11 ⟨rfl, hb11⟩)
    go_ret
    exact ⟨rfl, (hB18.trans (hB10.mono hB18.size)).trans (hb11.mono (Nat.le_trans hB18.size hB10.size))⟩
end Go.Kn
