/- Walks of the functions of layer 2 that ChannelTrue calls, and the law itself (a part of it). Conditions: as each theorem states them. -/
import Derived.Test.YtifdohhffmlbaaaGreatDoorWB
import Derived.Test.YtifdohhffmlbaaaGreatDoorW6
set_option linter.unusedVariables false
set_option linter.unusedSimpArgs false
namespace Go.Kn
open Go Go.Proofs Go.RowKit

section
variable {w : World} {A O C P ls lt : Nat} {s : Nat → Int} {t : Nat → St5}

theorem LineAt.bds (H : LineAt w A O C P ls lt s t) {n : Nat} (hn : n < lt) : (1 ≤ (t n).b ∧ (t n).b ≤ 100) ∧ (1 ≤ (t n).d ∧ (t n).d ≤ 100) ∧ (0 ≤ (t n).f ∧ (t n).f.toNat < ls ∧ (((t n).f.toNat : Nat) : Int) = (t n).f) ∧ (0 ≤ (t n).lo ∧ (t n).lo ≤ (t n).hi ∧ (t n).hi ≤ 100) ∧
    (1 ≤ s (t n).f.toNat ∧ s (t n).f.toNat ≤ 1000) := by
  have h := H.tok n hn
  simp only [stB, decide_eq_true_eq] at h
  obtain ⟨h1, h2, h3, h4, h5, h6, h7, h8, h9⟩ := h
  have hf : (t n).f.toNat < ls := by omega
  have h10 := H.sok _ hf
  simp only [fromB, decide_eq_true_eq] at h10
  exact ⟨⟨h1, h2⟩, ⟨h3, h4⟩, ⟨h5, hf, by omega⟩, ⟨h7, h8, h9⟩, h10⟩

/-- what a stretch carries at an age with a rate -/
def cupsL (s : Nat → Int) (x : St5) (ag r : Int) : Int := cupsV x.b x.d (s x.f.toNat) ag r

theorem at_l (H : LineAt w A O C P ls lt s t) {n : Nat} (hn : n < lt) (cs ct : Nat) (ag : Int) :
    Calls Tryz.prog 63 #[.agg #[.slice (some ⟨A, O, none⟩) ls cs, .slice (some ⟨C, P, none⟩) lt ct], .int .i64 (n : Int), .int .i64 ag] w fun e w' => e = .returned (.agg #[.int .i64 (t n).b, .int .i64 (t n).d, .int .i64 (t n).f, .int .i64 (t n).lo, .int .i64 (t n).hi, .int .i64 (s (t n).f.toNat), .int .i64 ag]) ∧ Below w.heap.size w w' := by
  obtain ⟨_, _, ⟨_, hf, hfe⟩, _, _⟩ := H.bds hn
  obtain ⟨c0, c1, c2, c3, c4⟩ := H.st n hn
  have h1 := H.ls2
  have h2 := H.lt2
  have := at_w A O C P ls cs lt ct n (t n).b (t n).d (t n).lo (t n).hi (s (t n).f.toNat) ag (t n).f.toNat w (by unfold maxLen; omega) (by unfold maxLen; omega) hn hf H.hA H.hC c0 c1 (by rw [hfe]; exact c2) c3 c4 (H.sp _ hf)
  rw [hfe] at this
  exact this

theorem rcups_l (H : LineAt w A O C P ls lt s t) {n : Nat} (hn : n < lt) (cs ct : Nat) (ag r : Int) (ha : 0 ≤ ag ∧ ag ≤ 200) (hr : 0 ≤ r ∧ r ≤ 100) :
    Calls Tryz.prog 23 #[.agg #[.slice (some ⟨A, O, none⟩) ls cs, .slice (some ⟨C, P, none⟩) lt ct], .int .i64 (n : Int), .int .i64 ag, .int .i64 r] w fun e w' => e = .returned (.int .i64 (cupsL s (t n) ag r)) ∧ Below w.heap.size w w' := by
  obtain ⟨b1, b2, ⟨_, hf, hfe⟩, b4, b5⟩ := H.bds hn
  obtain ⟨c0, c1, c2, c3, c4⟩ := H.st n hn
  have h1 := H.ls2
  have h2 := H.lt2
  exact rcups_w A O C P ls cs lt ct n (t n).b (t n).d (t n).lo (t n).hi (s (t n).f.toNat) ag r (t n).f.toNat w (by unfold maxLen; omega) (by unfold maxLen; omega) hn hf H.hA H.hC c0 c1 (by rw [hfe]; exact c2) c3 c4 (H.sp _ hf) ⟨by omega, b1.2⟩ ⟨by omega, b2.2⟩ ⟨by omega, b5.2⟩ ha hr

theorem carries_l (H : LineAt w A O C P ls lt s t) {n : Nat} (hn : n < lt) (ag : Int) (ha : 0 ≤ ag ∧ ag ≤ 200) (w' : World) :
    Calls Tryz.prog 64 #[.agg #[.int .i64 (t n).b, .int .i64 (t n).d, .int .i64 (t n).f, .int .i64 (t n).lo, .int .i64 (t n).hi, .int .i64 (s (t n).f.toNat), .int .i64 ag]] w'
      fun e w2 => e = .returned (.agg #[.int .i64 (cupsL s (t n) ag (t n).hi), .int .i64 (cupsL s (t n) ag (t n).lo)]) ∧ Below w'.heap.size w' w2 := by
  obtain ⟨b1, b2, _, b4, b5⟩ := H.bds hn
  exact carries_w _ _ _ _ _ _ _ w' ⟨by omega, b1.2⟩ ⟨by omega, b2.2⟩ ⟨by omega, b5.2⟩ ha ⟨b4.1, by omega⟩ ⟨by omega, b4.2.2⟩
end

set_option maxRecDepth 100000 in
set_option maxHeartbeats 2000000 in
theorem pcarries_w (A O C P ls cs lt ct n : Nat) (s : Nat → Int) (t : Nat → St5) (ag : Int) (w : World) (H : Hid (LineAt w A O C P ls lt s t)) (hn : n < lt) (ha : 0 ≤ ag ∧ ag ≤ 200) :
    Calls Tryz.prog 18 #[.agg #[.slice (some ⟨A, O, none⟩) ls cs, .slice (some ⟨C, P, none⟩) lt ct], .int .i64 (n : Int), .int .i64 ag] w
      fun e w' => e = .returned (.tuple #[.agg #[.int .i64 (cupsL s (t n) ag (t n).hi), .int .i64 (cupsL s (t n) ag (t n).lo)], .int .i64 0]) ∧ Below w.heap.size w w' := by
  have a4 := H.out.lt2
  have f1 : fromB 0 ((lt : Int) - 1) (n : Int) = true := by simp only [fromB, decide_eq_true_eq]; omega
  have f2 : fromB 0 200 ag = true := by simp only [fromB, decide_eq_true_eq]; omega
  have Hal : Hid (∀ o o' : Obj, LineAt ((w.alloc o).alloc o') A O C P ls lt s t) := Lib.hid fun o o' => (H.out.alloc o).alloc o'
  have m0 : ∀ w1 : World, Below (((w.alloc (.cells #[.slice (some ⟨A, O, none⟩) ls cs, .slice (some ⟨C, P, none⟩) lt ct] 25)).alloc (.cells #[.int .i64 0, .int .i64 0] 31))).heap.size ((w.alloc (.cells #[.slice (some ⟨A, O, none⟩) ls cs, .slice (some ⟨C, P, none⟩) lt ct] 25)).alloc (.cells #[.int .i64 0, .int .i64 0] 31)) w1 →
      w1.cell? ⟨w.heap.size, 0, none⟩ = some (.slice (some ⟨A, O, none⟩) ls cs) ∧ w1.cell? ⟨w.heap.size, 1, none⟩ = some (.slice (some ⟨C, P, none⟩) lt ct) ∧ w1.cell? ⟨w.heap.size + 1, 0, none⟩ = some (.int .i64 0) ∧ w1.cell? ⟨w.heap.size + 1, 1, none⟩ = some (.int .i64 0) ∧
      w1.frozen? ⟨w.heap.size + 1, 0, none⟩ = false ∧ w1.frozen? ⟨w.heap.size + 1, 1, none⟩ = false ∧ w.heap.size + 1 < w1.heap.size := by
    intro w1 hb
    obtain ⟨hc, hf⟩ := bcell hb
    refine ⟨(hc _ _ (by first | (simp; done) | (simp; omega))).trans (by simp), (hc _ _ (by first | (simp; done) | (simp; omega))).trans (by simp), (hc _ _ (by first | (simp; done) | (simp; omega))).trans (by simp), (hc _ _ (by first | (simp; done) | (simp; omega))).trans (by simp), (hf _ _ (by first | (simp; done) | (simp; omega))).trans (by simp), (hf _ _ (by first | (simp; done) | (simp; omega))).trans (by simp), ?_⟩
    have := hb.size
    simp at this; omega
  have M0 := Lib.hid m0
  clear m0
  go_enter Tryz.func18, Tryz.ntmps18
  go_wp2_with (first
    | (go_at_call 60; refine (isLine_w _ _ _ _ _ _ _ _ s t _ (Lib.hid (Hal.out _ _))).mono ?_; rintro e w1 ⟨rfl, hb1⟩; obtain ⟨x1, x2, x3, x4, x5, x6, x7⟩ := M0.out _ hb1)
    | (go_at_call 61; refine (isStretch_w _ _ _ _ _ _ (by unfold maxLen; omega)).mono ?_; rintro e w2 ⟨rfl, hb2⟩; have hb12 := hb1.trans (hb2.mono hb1.size); clear x1 x2 x3 x4 x5 x6 x7; obtain ⟨x1, x2, x3, x4, x5, x6, x7⟩ := M0.out _ hb12)
    | (go_at_call 62; refine (isAge_w _ _).mono ?_; rintro e w' ⟨rfl, rfl⟩)
    | (go_at_call 63; refine (at_l ((Hal.out _ _).below hb12) hn _ _ _).mono ?_; rintro e w3 ⟨rfl, hb3⟩; have hb13 := hb12.trans (hb3.mono hb12.size); clear x1 x2 x3 x4 x5 x6 x7; obtain ⟨x1, x2, x3, x4, x5, x6, x7⟩ := M0.out _ hb13)
    | (go_at_call 64; refine (carries_l H.out hn _ ha _).mono ?_; rintro e w4 ⟨rfl, hb4⟩; have hb14 := hb13.trans (hb4.mono hb13.size); clear x1 x2 x3 x4 x5 x6 x7; obtain ⟨x1, x2, x3, x4, x5, x6, x7⟩ := M0.out _ hb14))
  refine bodyPost_ret (v := .tuple #[.agg #[.int .i64 (cupsL s (t n) ag (t n).hi), .int .i64 (cupsL s (t n) ag (t n).lo)], .int .i64 0]) (by simp [results, Tryz.results18, go_sem, x3, x4]) rfl ⟨rfl, ?_⟩
  exact (((((Below.refl _ _).alloc (Nat.le_refl _) _).alloc (by simp) _).trans (hb14.mono (by simp; omega))).setCell (by simp) _).setCell (by simp) _
end Go.Kn
