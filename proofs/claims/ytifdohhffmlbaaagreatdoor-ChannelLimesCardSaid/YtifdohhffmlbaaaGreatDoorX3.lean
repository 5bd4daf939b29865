/- Walks of the functions of layer 2 that ChannelCarries calls, and the law itself (a part of it). Conditions: as each theorem states them. -/
import Derived.Test.YtifdohhffmlbaaaGreatDoorX2
set_option linter.unusedVariables false
set_option linter.unusedSimpArgs false
namespace Go.Kn
open Go Go.Proofs Go.RowKit

set_option maxRecDepth 100000 in
set_option maxHeartbeats 4000000 in
theorem pcarries_a (sa ta : Option Addr) (ls cs lt ct : Nat) (s : Nat → Int) (t : Nat → St5) (st ag : Int) (w : World) (hls : ls ≤ 1000000) (hlt : lt ≤ 1000000) (H : Hid (AnyLine w sa ta ls lt s t))
    (hR : ¬ RightP ls lt s t) :
    Calls Tryz.prog 18 #[.agg #[.slice sa ls cs, .slice ta lt ct], .int .i64 st, .int .i64 ag] w
      fun e w' => e = .returned (.tuple #[.agg #[.int .i64 0, .int .i64 0], .int .i64 2]) ∧ Below w.heap.size w w' := by
  have Hal : Hid (∀ o o' : Obj, AnyLine ((w.alloc o).alloc o') sa ta ls lt s t) := Lib.hid fun o o' => H.out.below (((Below.refl _ _).alloc (Nat.le_refl _) _).alloc (by simp) _)
  have m0 : ∀ w1 : World, Below (((w.alloc (.cells #[.slice sa ls cs, .slice ta lt ct] 25)).alloc (.cells #[.int .i64 0, .int .i64 0] 31))).heap.size ((w.alloc (.cells #[.slice sa ls cs, .slice ta lt ct] 25)).alloc (.cells #[.int .i64 0, .int .i64 0] 31)) w1 →
      w1.cell? ⟨w.heap.size, 0, none⟩ = some (.slice sa ls cs) ∧ w1.cell? ⟨w.heap.size, 1, none⟩ = some (.slice ta lt ct) ∧ w1.cell? ⟨w.heap.size + 1, 0, none⟩ = some (.int .i64 0) ∧ w1.cell? ⟨w.heap.size + 1, 1, none⟩ = some (.int .i64 0) ∧
      w1.frozen? ⟨w.heap.size + 1, 0, none⟩ = false ∧ w1.frozen? ⟨w.heap.size + 1, 1, none⟩ = false ∧ w.heap.size + 1 < w1.heap.size := by
    intro w1 hb
    obtain ⟨hc, hf⟩ := bcell hb
    refine ⟨(hc _ _ (by first | (simp; done) | (simp; omega))).trans (by simp), (hc _ _ (by first | (simp; done) | (simp; omega))).trans (by simp), (hc _ _ (by first | (simp; done) | (simp; omega))).trans (by simp), (hc _ _ (by first | (simp; done) | (simp; omega))).trans (by simp), (hf _ _ (by first | (simp; done) | (simp; omega))).trans (by simp), (hf _ _ (by first | (simp; done) | (simp; omega))).trans (by simp), ?_⟩
    have := hb.size
    simp at this; omega
  have M0 := Lib.hid m0
  clear m0
  have HR := Lib.hid hR
  clear hR
  go_enter Tryz.func18, Tryz.ntmps18
  go_wp2_with (first
    | (go_at_call 60; refine (isLine2_w _ _ _ _ _ _ s t _ hls hlt (Lib.hid (Hal.out _ _))).mono ?_; rintro e w1 ⟨⟨rb, rfl, hrb⟩, hb1⟩; obtain rfl : rb = false := (by cases rb <;> first | rfl | exact (HR.out (hrb.1 rfl)).elim); clear hrb; obtain ⟨x1, x2, x3, x4, x5, x6, x7⟩ := M0.out _ hb1))
  refine bodyPost_ret (v := .tuple #[.agg #[.int .i64 0, .int .i64 0], .int .i64 2]) (by simp [results, Tryz.results18, go_sem, x3, x4]) rfl ⟨rfl, ?_⟩
  exact (((((Below.refl _ _).alloc (Nat.le_refl _) _).alloc (by simp) _).trans (hb1.mono (by simp; omega))).setCell (by simp) _).setCell (by simp) _

set_option maxRecDepth 100000 in
set_option maxHeartbeats 4000000 in
theorem pcarries_b (sa ta : Option Addr) (ls cs lt ct : Nat) (s : Nat → Int) (t : Nat → St5) (st ag : Int) (w : World) (hls : ls ≤ 1000000) (hlt : lt ≤ 1000000) (H : Hid (AnyLine w sa ta ls lt s t))
    (hR : RightP ls lt s t) (f1 : fromB 0 ((lt : Int) - 1) st = false) :
    Calls Tryz.prog 18 #[.agg #[.slice sa ls cs, .slice ta lt ct], .int .i64 st, .int .i64 ag] w
      fun e w' => e = .returned (.tuple #[.agg #[.int .i64 0, .int .i64 0], .int .i64 2]) ∧ Below w.heap.size w w' := by
  have Hal : Hid (∀ o o' : Obj, AnyLine ((w.alloc o).alloc o') sa ta ls lt s t) := Lib.hid fun o o' => H.out.below (((Below.refl _ _).alloc (Nat.le_refl _) _).alloc (by simp) _)
  have m0 : ∀ w1 : World, Below (((w.alloc (.cells #[.slice sa ls cs, .slice ta lt ct] 25)).alloc (.cells #[.int .i64 0, .int .i64 0] 31))).heap.size ((w.alloc (.cells #[.slice sa ls cs, .slice ta lt ct] 25)).alloc (.cells #[.int .i64 0, .int .i64 0] 31)) w1 →
      w1.cell? ⟨w.heap.size, 0, none⟩ = some (.slice sa ls cs) ∧ w1.cell? ⟨w.heap.size, 1, none⟩ = some (.slice ta lt ct) ∧ w1.cell? ⟨w.heap.size + 1, 0, none⟩ = some (.int .i64 0) ∧ w1.cell? ⟨w.heap.size + 1, 1, none⟩ = some (.int .i64 0) ∧
      w1.frozen? ⟨w.heap.size + 1, 0, none⟩ = false ∧ w1.frozen? ⟨w.heap.size + 1, 1, none⟩ = false ∧ w.heap.size + 1 < w1.heap.size := by
    intro w1 hb
    obtain ⟨hc, hf⟩ := bcell hb
    refine ⟨(hc _ _ (by first | (simp; done) | (simp; omega))).trans (by simp), (hc _ _ (by first | (simp; done) | (simp; omega))).trans (by simp), (hc _ _ (by first | (simp; done) | (simp; omega))).trans (by simp), (hc _ _ (by first | (simp; done) | (simp; omega))).trans (by simp), (hf _ _ (by first | (simp; done) | (simp; omega))).trans (by simp), (hf _ _ (by first | (simp; done) | (simp; omega))).trans (by simp), ?_⟩
    have := hb.size
    simp at this; omega
  have M0 := Lib.hid m0
  clear m0
  have HR := Lib.hid hR
  clear hR
  go_enter Tryz.func18, Tryz.ntmps18
  go_wp2_with (first
    | (go_at_call 60; refine (isLine2_w _ _ _ _ _ _ s t _ hls hlt (Lib.hid (Hal.out _ _))).mono ?_; rintro e w1 ⟨⟨rb, rfl, hrb⟩, hb1⟩; obtain rfl : rb = true := hrb.2 HR.out; clear hrb; obtain ⟨x1, x2, x3, x4, x5, x6, x7⟩ := M0.out _ hb1)
    | (go_at_call 61; refine (isStretch_w _ _ _ _ _ _ (by unfold maxLen; omega)).mono ?_; rintro e w2 ⟨rfl, hb2⟩; have hb12 := hb1.trans (hb2.mono hb1.size); clear x1 x2 x3 x4 x5 x6 x7; obtain ⟨x1, x2, x3, x4, x5, x6, x7⟩ := M0.out _ hb12))
  refine bodyPost_ret (v := .tuple #[.agg #[.int .i64 0, .int .i64 0], .int .i64 2]) (by simp [results, Tryz.results18, go_sem, x3, x4]) rfl ⟨rfl, ?_⟩
  exact (((((Below.refl _ _).alloc (Nat.le_refl _) _).alloc (by simp) _).trans (hb12.mono (by simp; omega))).setCell (by simp) _).setCell (by simp) _

set_option maxRecDepth 100000 in
set_option maxHeartbeats 4000000 in
theorem pcarries_c (sa ta : Option Addr) (ls cs lt ct : Nat) (s : Nat → Int) (t : Nat → St5) (st ag : Int) (w : World) (hls : ls ≤ 1000000) (hlt : lt ≤ 1000000) (H : Hid (AnyLine w sa ta ls lt s t))
    (hR : RightP ls lt s t) (f1 : fromB 0 ((lt : Int) - 1) st = true) (f2 : fromB 0 200 ag = false) :
    Calls Tryz.prog 18 #[.agg #[.slice sa ls cs, .slice ta lt ct], .int .i64 st, .int .i64 ag] w
      fun e w' => e = .returned (.tuple #[.agg #[.int .i64 0, .int .i64 0], .int .i64 2]) ∧ Below w.heap.size w w' := by
  have Hal : Hid (∀ o o' : Obj, AnyLine ((w.alloc o).alloc o') sa ta ls lt s t) := Lib.hid fun o o' => H.out.below (((Below.refl _ _).alloc (Nat.le_refl _) _).alloc (by simp) _)
  have m0 : ∀ w1 : World, Below (((w.alloc (.cells #[.slice sa ls cs, .slice ta lt ct] 25)).alloc (.cells #[.int .i64 0, .int .i64 0] 31))).heap.size ((w.alloc (.cells #[.slice sa ls cs, .slice ta lt ct] 25)).alloc (.cells #[.int .i64 0, .int .i64 0] 31)) w1 →
      w1.cell? ⟨w.heap.size, 0, none⟩ = some (.slice sa ls cs) ∧ w1.cell? ⟨w.heap.size, 1, none⟩ = some (.slice ta lt ct) ∧ w1.cell? ⟨w.heap.size + 1, 0, none⟩ = some (.int .i64 0) ∧ w1.cell? ⟨w.heap.size + 1, 1, none⟩ = some (.int .i64 0) ∧
      w1.frozen? ⟨w.heap.size + 1, 0, none⟩ = false ∧ w1.frozen? ⟨w.heap.size + 1, 1, none⟩ = false ∧ w.heap.size + 1 < w1.heap.size := by
    intro w1 hb
    obtain ⟨hc, hf⟩ := bcell hb
    refine ⟨(hc _ _ (by first | (simp; done) | (simp; omega))).trans (by simp), (hc _ _ (by first | (simp; done) | (simp; omega))).trans (by simp), (hc _ _ (by first | (simp; done) | (simp; omega))).trans (by simp), (hc _ _ (by first | (simp; done) | (simp; omega))).trans (by simp), (hf _ _ (by first | (simp; done) | (simp; omega))).trans (by simp), (hf _ _ (by first | (simp; done) | (simp; omega))).trans (by simp), ?_⟩
    have := hb.size
    simp at this; omega
  have M0 := Lib.hid m0
  clear m0
  have HR := Lib.hid hR
  clear hR
  go_enter Tryz.func18, Tryz.ntmps18
  go_wp2_with (first
    | (go_at_call 60; refine (isLine2_w _ _ _ _ _ _ s t _ hls hlt (Lib.hid (Hal.out _ _))).mono ?_; rintro e w1 ⟨⟨rb, rfl, hrb⟩, hb1⟩; obtain rfl : rb = true := hrb.2 HR.out; clear hrb; obtain ⟨x1, x2, x3, x4, x5, x6, x7⟩ := M0.out _ hb1)
    | (go_at_call 61; refine (isStretch_w _ _ _ _ _ _ (by unfold maxLen; omega)).mono ?_; rintro e w2 ⟨rfl, hb2⟩; have hb12 := hb1.trans (hb2.mono hb1.size); clear x1 x2 x3 x4 x5 x6 x7; obtain ⟨x1, x2, x3, x4, x5, x6, x7⟩ := M0.out _ hb12)
    | (go_at_call 62; refine (isAge_w _ _).mono ?_; rintro e w' ⟨rfl, rfl⟩))
  refine bodyPost_ret (v := .tuple #[.agg #[.int .i64 0, .int .i64 0], .int .i64 2]) (by simp [results, Tryz.results18, go_sem, x3, x4]) rfl ⟨rfl, ?_⟩
  exact (((((Below.refl _ _).alloc (Nat.le_refl _) _).alloc (by simp) _).trans (hb12.mono (by simp; omega))).setCell (by simp) _).setCell (by simp) _
end Go.Kn
