/- Walks of the functions of layer 2 that ChannelTrue calls, and the law itself (a part of it). Conditions: as each theorem states them. -/
import Derived.Test.YtifdohhffmlbaaaGreatDoorW8
import Derived.Test.YtifdohhffmlbaaaGreatDoorWA
set_option linter.unusedVariables false
set_option linter.unusedSimpArgs false
namespace Go.Kn
open Go Go.Proofs Go.RowKit

set_option maxRecDepth 100000 in
set_option maxHeartbeats 2000000 in
theorem contSt_w (C P lt ct B L ls cs : Nat) (sa : Option Addr) (y : Value) (t : Nat → St5) (w : World) (hlt : lt ≤ 1000000) (hls : ls ≤ 1000000) (hC : C < w.heap.size) (hBw : B < w.heap.size) (hL : L < w.heap.size)
    (l0 : w.cell? ⟨L, 0, none⟩ = some (.slice sa ls cs)) (l1 : w.cell? ⟨L, 1, none⟩ = some y) (hB : w.cell? ⟨B, 0, none⟩ = some (.func (.func 95) #[] #[.pointer (some ⟨L, 0, none⟩)]))
    (ht : StAt w C P lt t) (hg : StOk ls lt t) :
    Calls Tryz.prog 126 #[.slice (some ⟨C, P, none⟩) lt ct, .func (.func 127) #[] #[.pointer (some ⟨B, 0, none⟩)]] w
      fun e w' => e = .returned (.bool false) ∧ Below w.heap.size w w' := by
  have HT := Lib.hid ht
  have HG := Lib.hid hg
  clear ht hg
  go_enter Tryz.func126, Tryz.ntmps126
  go_wp2_with (go_at_call 145; refine (idxSt_w _ _ _ _ _ _ _ _ _ _ t _ hlt hls hC hBw hL l0 l1 hB HT.out HG.out).mono ?_; rintro e w1 ⟨rfl, hb1⟩)
  go_ret
  exact ⟨rfl, hb1⟩

set_option maxRecDepth 100000 in
set_option maxHeartbeats 2000000 in
theorem allSt_w (C P lt ct L ls cs : Nat) (sa : Option Addr) (y : Value) (t : Nat → St5) (w : World) (hlt : lt ≤ 1000000) (hls : ls ≤ 1000000) (hC : C < w.heap.size) (hL : L < w.heap.size)
    (l0 : w.cell? ⟨L, 0, none⟩ = some (.slice sa ls cs)) (l1 : w.cell? ⟨L, 1, none⟩ = some y) (ht : StAt w C P lt t) (hg : StOk ls lt t) :
    Calls Tryz.prog 94 #[.slice (some ⟨C, P, none⟩) lt ct, .func (.func 95) #[] #[.pointer (some ⟨L, 0, none⟩)]] w
      fun e w' => e = .returned (.bool true) ∧ Below w.heap.size w w' := by
  have HT : Hid (∀ o : Obj, StAt (w.alloc o) C P lt t) := Lib.hid fun o => ht.below hC ((Below.refl _ _).alloc (Nat.le_refl _) _)
  have HG := Lib.hid hg
  have H0 : Hid (∀ o : Obj, (w.alloc o).cell? ⟨L, 0, none⟩ = some (.slice sa ls cs)) := Lib.hid fun o => (World.cell?_alloc_lt w o _ hL).trans l0
  have H1 : Hid (∀ o : Obj, (w.alloc o).cell? ⟨L, 1, none⟩ = some y) := Lib.hid fun o => (World.cell?_alloc_lt w o _ hL).trans l1
  clear ht hg l0 l1
  go_enter Tryz.func94, Tryz.ntmps94
  go_wp2_with (go_at_call 126; refine (contSt_w _ _ _ _ _ _ _ _ _ _ t _ hlt hls (by simp; omega) (by simp) (by simp; omega) (H0.out _) (H1.out _) (cell_new _ _ _) (HT.out _) HG.out).mono ?_; rintro e w1 ⟨rfl, hb1⟩)
  go_ret
  exact ⟨rfl, below_al hb1⟩

theorem lt_alloc {w : World} {k : Nat} (o : Obj) (h : k < w.heap.size) : k < (w.alloc o).heap.size := by simp; omega

/-- a line as it lies in memory, and as it should be -/
structure LineAt (w : World) (A O C P ls lt : Nat) (s : Nat → Int) (t : Nat → St5) : Prop where
  hA : A < w.heap.size
  hC : C < w.heap.size
  ls1 : 1 ≤ ls
  ls2 : ls ≤ 10
  lt1 : 1 ≤ lt
  lt2 : lt ≤ 8
  sp : NumAt w A O ls s
  st : StAt w C P lt t
  sok : ∀ k, k < ls → fromB 1 1000 (s k) = true
  tok : StOk ls lt t

theorem LineAt.below {w w1 : World} {A O C P ls lt : Nat} {s : Nat → Int} {t : Nat → St5} (h : LineAt w A O C P ls lt s t) (hb : Below w.heap.size w w1) : LineAt w1 A O C P ls lt s t :=
  ⟨Nat.lt_of_lt_of_le h.hA hb.size, Nat.lt_of_lt_of_le h.hC hb.size, h.ls1, h.ls2, h.lt1, h.lt2, h.sp.below h.hA hb, h.st.below h.hC hb, h.sok, h.tok⟩

theorem LineAt.alloc {w : World} {A O C P ls lt : Nat} {s : Nat → Int} {t : Nat → St5} (h : LineAt w A O C P ls lt s t) (o : Obj) : LineAt (w.alloc o) A O C P ls lt s t :=
  h.below ((Below.refl _ _).alloc (Nat.le_refl _) _)

set_option maxRecDepth 100000 in
set_option maxHeartbeats 2000000 in
theorem isLine_w (A O C P ls cs lt ct : Nat) (s : Nat → Int) (t : Nat → St5) (w : World) (H : Hid (LineAt w A O C P ls lt s t)) :
    Calls Tryz.prog 60 #[.agg #[.slice (some ⟨A, O, none⟩) ls cs, .slice (some ⟨C, P, none⟩) lt ct]] w
      fun e w' => e = .returned (.bool true) ∧ Below w.heap.size w w' := by
  have a1 := H.out.ls1
  have a2 := H.out.ls2
  have a3 := H.out.lt1
  have a4 := H.out.lt2
  have hA := H.out.hA
  have hC := H.out.hC
  have f1 : fromB 1 10 (ls : Int) = true := by simp only [fromB, decide_eq_true_eq]; omega
  have f2 : fromB 1 8 (lt : Int) = true := by simp only [fromB, decide_eq_true_eq]; omega
  have Hal : Hid (∀ o : Obj, LineAt (w.alloc o) A O C P ls lt s t) := Lib.hid fun o => H.out.alloc o
  have m0 : ∀ w1 : World, (∀ b o, b < (w.alloc (.cells #[.slice (some ⟨A, O, none⟩) ls cs, .slice (some ⟨C, P, none⟩) lt ct] 25)).heap.size → w1.cell? ⟨b, o, none⟩ = (w.alloc (.cells #[.slice (some ⟨A, O, none⟩) ls cs, .slice (some ⟨C, P, none⟩) lt ct] 25)).cell? ⟨b, o, none⟩) →
      w1.cell? ⟨w.heap.size, 0, none⟩ = some (.slice (some ⟨A, O, none⟩) ls cs) := fun w1 h => (h _ _ (by simp)).trans (by simp)
  have m1 : ∀ w1 : World, (∀ b o, b < (w.alloc (.cells #[.slice (some ⟨A, O, none⟩) ls cs, .slice (some ⟨C, P, none⟩) lt ct] 25)).heap.size → w1.cell? ⟨b, o, none⟩ = (w.alloc (.cells #[.slice (some ⟨A, O, none⟩) ls cs, .slice (some ⟨C, P, none⟩) lt ct] 25)).cell? ⟨b, o, none⟩) →
      w1.cell? ⟨w.heap.size, 1, none⟩ = some (.slice (some ⟨C, P, none⟩) lt ct) := fun w1 h => (h _ _ (by simp)).trans (by simp)
  have M0 := Lib.hid m0
  have M1 := Lib.hid m1
  clear m0 m1
  go_enter Tryz.func60, Tryz.ntmps60
  go_wp2_with (first
    | (go_at_call 88; refine (isFrom_w _ _ _ _).mono ?_; rintro e w' ⟨rfl, rfl⟩)
    | (go_at_call 92; refine (allSpeed_w _ _ _ _ s _ (by unfold maxLen; omega) (lt_alloc _ hA) (Hal.out _).sp H.out.sok).mono ?_; rintro e w1 ⟨rfl, hb1⟩; obtain ⟨hc1, hf1⟩ := bcell hb1; have hz1 : w.heap.size < w1.heap.size := by (have := hb1.size; simp at this; omega))
    | (go_at_call 94; refine (allSt_w _ _ _ _ _ _ _ _ _ t _ (by omega) (by omega) (by omega) (by omega) (M0.out _ hc1) (M1.out _ hc1) ((Hal.out _).below hb1).st H.out.tok).mono ?_; rintro e w2 ⟨rfl, hb2⟩))
  go_ret
  exact ⟨rfl, (below_al hb1).trans (hb2.mono (by omega))⟩
end Go.Kn
