/- Walks of the functions of layer 2 that ChannelCarries calls, and the law itself (a part of it). Conditions: as each theorem states them. -/
import Derived.Test.YtifdohhffmlbaaaGreatDoorX1
set_option linter.unusedVariables false
set_option linter.unusedSimpArgs false
namespace Go.Kn
open Go Go.Proofs Go.RowKit

set_option maxRecDepth 100000 in
set_option maxHeartbeats 2000000 in
theorem contSt2_w (C P lt ct B L ls cs : Nat) (sa : Option Addr) (y : Value) (t : Nat → St5) (w : World) (hlt : lt ≤ 1000000) (hls : ls ≤ 1000000) (hC : C < w.heap.size) (hBw : B < w.heap.size) (hL : L < w.heap.size)
    (l0 : w.cell? ⟨L, 0, none⟩ = some (.slice sa ls cs)) (l1 : w.cell? ⟨L, 1, none⟩ = some y) (hB : w.cell? ⟨B, 0, none⟩ = some (.func (.func 95) #[] #[.pointer (some ⟨L, 0, none⟩)]))
    (ht : StAt w C P lt t) :
    Calls Tryz.prog 126 #[.slice (some ⟨C, P, none⟩) lt ct, .func (.func 127) #[] #[.pointer (some ⟨B, 0, none⟩)]] w
      fun e w' => (∃ cb : Bool, e = .returned (.bool cb) ∧ (cb = false ↔ StOk ls lt t)) ∧ Below w.heap.size w w' := by
  have HT := Lib.hid ht
  clear ht
  go_enter Tryz.func126, Tryz.ntmps126
  go_wp2_with (go_at_call 145; refine (idxSt2_w _ _ _ _ _ _ _ _ _ _ t _ hlt hls hC hBw hL l0 l1 hB HT.out).mono ?_; rintro e w1 ⟨⟨i, rfl, hi⟩, hb1⟩; have HI := Lib.hid hi; clear hi)
  go_ret
  refine ⟨⟨decide (0 ≤ i), rfl, ?_⟩, hb1⟩
  rcases HI.out with ⟨h1, h2⟩ | ⟨h1, h2⟩
  · exact ⟨fun _ => h2, fun _ => decide_eq_false (by omega)⟩
  · exact ⟨fun h => by have := of_decide_eq_false h; omega, fun h => (h2 h).elim⟩

set_option maxRecDepth 100000 in
set_option maxHeartbeats 2000000 in
theorem allSt2_w (C P lt ct L ls cs : Nat) (sa : Option Addr) (y : Value) (t : Nat → St5) (w : World) (hlt : lt ≤ 1000000) (hls : ls ≤ 1000000) (hC : C < w.heap.size) (hL : L < w.heap.size)
    (l0 : w.cell? ⟨L, 0, none⟩ = some (.slice sa ls cs)) (l1 : w.cell? ⟨L, 1, none⟩ = some y) (ht : StAt w C P lt t) :
    Calls Tryz.prog 94 #[.slice (some ⟨C, P, none⟩) lt ct, .func (.func 95) #[] #[.pointer (some ⟨L, 0, none⟩)]] w
      fun e w' => (∃ rb : Bool, e = .returned (.bool rb) ∧ (rb = true ↔ StOk ls lt t)) ∧ Below w.heap.size w w' := by
  have HT : Hid (∀ o : Obj, StAt (w.alloc o) C P lt t) := Lib.hid fun o => ht.below hC ((Below.refl _ _).alloc (Nat.le_refl _) _)
  have H0 : Hid (∀ o : Obj, (w.alloc o).cell? ⟨L, 0, none⟩ = some (.slice sa ls cs)) := Lib.hid fun o => (World.cell?_alloc_lt w o _ hL).trans l0
  have H1 : Hid (∀ o : Obj, (w.alloc o).cell? ⟨L, 1, none⟩ = some y) := Lib.hid fun o => (World.cell?_alloc_lt w o _ hL).trans l1
  clear ht l0 l1
  go_enter Tryz.func94, Tryz.ntmps94
  go_wp2_with (go_at_call 126; refine (contSt2_w _ _ _ _ _ _ _ _ _ _ t _ hlt hls (by simp; omega) (by simp) (by simp; omega) (H0.out _) (H1.out _) (cell_new _ _ _) (HT.out _)).mono ?_; rintro e w1 ⟨⟨cb, rfl, hcb⟩, hb1⟩; have HC := Lib.hid hcb; clear hcb)
  go_ret
  refine ⟨⟨!cb, rfl, ?_⟩, below_al hb1⟩
  rw [← HC.out]; cases cb <;> simp

/-- any line -/
structure AnyLine (w : World) (sa ta : Option Addr) (ls lt : Nat) (s : Nat → Int) (t : Nat → St5) : Prop where
  hs : NumSl w sa ls s
  ht : StSl w ta lt t

theorem AnyLine.below {w w1 : World} {sa ta : Option Addr} {ls lt : Nat} {s : Nat → Int} {t : Nat → St5} (h : AnyLine w sa ta ls lt s t) (hb : Below w.heap.size w w1) : AnyLine w1 sa ta ls lt s t :=
  ⟨h.hs.below hb, h.ht.below hb⟩

set_option maxRecDepth 100000 in
set_option maxHeartbeats 4000000 in
theorem isLine2_w (sa ta : Option Addr) (ls cs lt ct : Nat) (s : Nat → Int) (t : Nat → St5) (w : World) (hls : ls ≤ 1000000) (hlt : lt ≤ 1000000) (H : Hid (AnyLine w sa ta ls lt s t)) :
    Calls Tryz.prog 60 #[.agg #[.slice sa ls cs, .slice ta lt ct]] w
      fun e w' => (∃ rb : Bool, e = .returned (.bool rb) ∧ (rb = true ↔ RightP ls lt s t)) ∧ Below w.heap.size w w' := by
  cases f1 : fromB 1 10 (ls : Int)
  · go_enter Tryz.func60, Tryz.ntmps60
    go_wp2_with (go_at_call 88; refine (isFrom_w _ _ _ _).mono ?_; rintro e w' ⟨rfl, rfl⟩)
    go_ret
    exact ⟨⟨false, rfl, no_iff (fun h => by have := h.ls1; have := h.ls2; simp only [fromB, decide_eq_false_iff_not] at f1; omega)⟩, (Below.refl _ _).alloc (Nat.le_refl _) _⟩
  have g1 : 1 ≤ ls ∧ ls ≤ 10 := by simp only [fromB, decide_eq_true_eq] at f1; omega
  obtain ⟨A, O, rfl, hA, hsp⟩ := H.out.hs.resolve_left (by omega)
  have HSP := Lib.hid hsp
  clear hsp
  by_cases hs : ∀ k, k < ls → fromB 1 1000 (s k) = true
  case neg =>
    have HS := Lib.hid hs
    clear hs
    go_enter Tryz.func60, Tryz.ntmps60
    go_wp2_with (first
      | (go_at_call 88; refine (isFrom_w _ _ _ _).mono ?_; rintro e w' ⟨rfl, rfl⟩)
      | (go_at_call 92; refine (allSpeed2_w _ _ _ _ s _ (by unfold maxLen; omega) (lt_alloc _ hA) (HSP.out.below hA ((Below.refl _ _).alloc (Nat.le_refl _) _))).mono ?_; rintro e w1 ⟨⟨rb, rfl, hrb⟩, hb1⟩; obtain rfl : rb = false := (by cases rb <;> first | rfl | exact (HS.out (hrb.1 rfl)).elim); clear hrb))
    go_ret
    exact ⟨⟨false, rfl, no_iff (fun h => HS.out h.sok)⟩, below_al hb1⟩
  have HS := Lib.hid hs
  clear hs
  have m0 : ∀ w1 : World, (∀ b o, b < (w.alloc (.cells #[.slice (some ⟨A, O, none⟩) ls cs, .slice ta lt ct] 25)).heap.size → w1.cell? ⟨b, o, none⟩ = (w.alloc (.cells #[.slice (some ⟨A, O, none⟩) ls cs, .slice ta lt ct] 25)).cell? ⟨b, o, none⟩) →
      w1.cell? ⟨w.heap.size, 0, none⟩ = some (.slice (some ⟨A, O, none⟩) ls cs) := fun w1 h => (h _ _ (by simp)).trans (by simp)
  have m1 : ∀ w1 : World, (∀ b o, b < (w.alloc (.cells #[.slice (some ⟨A, O, none⟩) ls cs, .slice ta lt ct] 25)).heap.size → w1.cell? ⟨b, o, none⟩ = (w.alloc (.cells #[.slice (some ⟨A, O, none⟩) ls cs, .slice ta lt ct] 25)).cell? ⟨b, o, none⟩) →
      w1.cell? ⟨w.heap.size, 1, none⟩ = some (.slice ta lt ct) := fun w1 h => (h _ _ (by simp)).trans (by simp)
  have M0 := Lib.hid m0
  have M1 := Lib.hid m1
  clear m0 m1
  cases f2 : fromB 1 8 (lt : Int)
  · go_enter Tryz.func60, Tryz.ntmps60
    go_wp2_with (first
      | (go_at_call 88; refine (isFrom_w _ _ _ _).mono ?_; rintro e w' ⟨rfl, rfl⟩)
      | (go_at_call 92; refine (allSpeed_w _ _ _ _ s _ (by unfold maxLen; omega) (lt_alloc _ hA) (HSP.out.below hA ((Below.refl _ _).alloc (Nat.le_refl _) _)) HS.out).mono ?_; rintro e w1 ⟨rfl, hb1⟩; obtain ⟨hc1, hf1⟩ := bcell hb1; have k0 := M0.out _ hc1; have k1 := M1.out _ hc1; clear hc1 hf1))
    go_ret
    exact ⟨⟨false, rfl, no_iff (fun h => by have := h.lt1; have := h.lt2; simp only [fromB, decide_eq_false_iff_not] at f2; omega)⟩, below_al hb1⟩
  have g2 : 1 ≤ lt ∧ lt ≤ 8 := by simp only [fromB, decide_eq_true_eq] at f2; omega
  obtain ⟨C, P, rfl, hC, hst⟩ := H.out.ht.resolve_left (by omega)
  have HST := Lib.hid hst
  clear hst
  go_enter Tryz.func60, Tryz.ntmps60
  go_wp2_with (first
    | (go_at_call 88; refine (isFrom_w _ _ _ _).mono ?_; rintro e w' ⟨rfl, rfl⟩)
    | (go_at_call 92; refine (allSpeed_w _ _ _ _ s _ (by unfold maxLen; omega) (lt_alloc _ hA) (HSP.out.below hA ((Below.refl _ _).alloc (Nat.le_refl _) _)) HS.out).mono ?_; rintro e w1 ⟨rfl, hb1⟩; obtain ⟨hc1, hf1⟩ := bcell hb1; have hz1 : w.heap.size < w1.heap.size := by (have := hb1.size; simp at this; omega))
    | (go_at_call 94; refine (allSt2_w _ _ _ _ _ _ _ _ _ t _ (by omega) (by omega) (by omega) (by omega) (M0.out _ hc1) (M1.out _ hc1) (HST.out.below hC (below_al hb1))).mono ?_; rintro e w2 ⟨⟨rb, rfl, hrb⟩, hb2⟩; have HR := Lib.hid hrb; clear hrb))
  go_ret
  exact ⟨⟨rb, rfl, HR.out.trans ⟨fun h => ⟨g1.1, g1.2, g2.1, g2.2, HS.out, h⟩, fun h => h.tok⟩⟩, (below_al hb1).trans (hb2.mono (by omega))⟩

/-- the errors' number: 0 for a right line, 2 for another one -/
def errOf (b : Bool) : Int := cond b 0 2

set_option maxHeartbeats 2000000 in
theorem check_w (sa ta : Option Addr) (ls cs lt ct : Nat) (s : Nat → Int) (t : Nat → St5) (w : World) (hls : ls ≤ 1000000) (hlt : lt ≤ 1000000) (H : Hid (AnyLine w sa ta ls lt s t)) :
    Calls Tryz.prog 17 #[.agg #[.slice sa ls cs, .slice ta lt ct]] w
      fun e w' => (∃ rb : Bool, e = .returned (.int .i64 (errOf rb)) ∧ (rb = true ↔ RightP ls lt s t)) ∧ Below w.heap.size w w' := by
  have Hal : Hid (∀ o : Obj, AnyLine (w.alloc o) sa ta ls lt s t) := Lib.hid fun o => H.out.below ((Below.refl _ _).alloc (Nat.le_refl _) _)
  by_cases hR : RightP ls lt s t
  all_goals
    have HR := Lib.hid hR
    clear hR
    go_enter Tryz.func17, Tryz.ntmps17
    go_wp2_with (go_at_call 60; refine (isLine2_w _ _ _ _ _ _ s t _ hls hlt (Lib.hid (Hal.out _))).mono ?_; rintro e w1 ⟨⟨rb, rfl, hrb⟩, hb1⟩; obtain rfl : rb = _ := (by first | exact hrb.2 HR.out | exact (by cases rb <;> first | rfl | exact (HR.out (hrb.1 rfl)).elim : rb = false)); clear hrb)
    go_ret
    first
      | exact ⟨⟨true, rfl, fun _ => HR.out, fun _ => rfl⟩, below_al hb1⟩
      | exact ⟨⟨false, rfl, no_iff HR.out⟩, below_al hb1⟩
end Go.Kn
