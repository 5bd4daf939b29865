/- Walks of the functions of layer 2 that ChannelLines calls, and the law itself (a part of it). Conditions: as each theorem states them. -/
import Derived.Test.YtifdohhffmlbaaaGreatDoorLP
import Derived.KernelRfl
set_option linter.unusedVariables false
set_option linter.unusedSimpArgs false
namespace Go.Kn
open Go Go.Proofs Go.RowKit

/-- a boxed line with a span's cells behind it, in any world that comes later -/
theorem box22 {w w1 : World} {x y z u : Value} {T T1 : TypeId} (hb : Below ((w.alloc (.cells #[x, y] T)).alloc (.cells #[z, u] T1)).heap.size ((w.alloc (.cells #[x, y] T)).alloc (.cells #[z, u] T1)) w1) :
    w1.cell? ⟨w.heap.size, 0, none⟩ = some x ∧ w1.cell? ⟨w.heap.size, 1, none⟩ = some y ∧ w1.cell? ⟨w.heap.size + 1, 0, none⟩ = some z ∧ w1.cell? ⟨w.heap.size + 1, 1, none⟩ = some u ∧ w1.frozen? ⟨w.heap.size + 1, 0, none⟩ = false ∧ w1.frozen? ⟨w.heap.size + 1, 1, none⟩ = false ∧ w.heap.size + 1 < w1.heap.size := by
  obtain ⟨hc, hf⟩ := bcell hb
  refine ⟨(hc _ _ (by simp; try omega)).trans (by simp), (hc _ _ (by simp; try omega)).trans (by simp), (hc _ _ (by simp; try omega)).trans (by simp), (hc _ _ (by simp; try omega)).trans (by simp), (hf _ _ (by simp; try omega)).trans (by simp), (hf _ _ (by simp; try omega)).trans (by simp), ?_⟩
  have := hb.size
  simp at this; omega
theorem below_al2 {w w1 : World} {o o1 : Obj} (h : Below ((w.alloc o).alloc o1).heap.size ((w.alloc o).alloc o1) w1) : Below w.heap.size w w1 :=
  (((Below.refl _ _).alloc (Nat.le_refl _) _).alloc (by simp) _).trans (h.mono (by simp; omega))

set_option maxRecDepth 100000 in
set_option maxHeartbeats 4000000 in
theorem pline_w (A O C P ls cs lt ct D F cq : Nat) (s : Nat → Int) (t : Nat → St5) (g : Nat → Int) (La Lb : Int) (HLA : Hid (La = bmin (upto (fun j => (carOf s t g j).lo) lt))) (HLB : Hid (Lb = bmin (upto (fun j => (carOf s t g j).hi) lt))) (w : World) (H : Hid (LineAt w A O C P ls lt s t)) (hD : D < w.heap.size) (HD : Hid (NumAt w D F lt g)) (hQ : Hid (AgeP lt lt g)) :
    Calls Tryz.prog 24 #[.agg #[.slice (some ⟨A, O, none⟩) ls cs, .slice (some ⟨C, P, none⟩) lt ct], .slice (some ⟨D, F, none⟩) lt cq] w
      fun e w' => e = .returned (.tuple #[.agg #[.int .i64 La, .int .i64 Lb], .int .i64 0]) ∧ Below w.heap.size w w' := by
  have BX := Lib.hid (fun (w1 : World) (hb : Below ((w.alloc (.cells #[.slice (some ⟨A, O, none⟩) ls cs, .slice (some ⟨C, P, none⟩) lt ct] 25)).alloc (.cells #[.int .i64 0, .int .i64 0] 31)).heap.size ((w.alloc (.cells #[.slice (some ⟨A, O, none⟩) ls cs, .slice (some ⟨C, P, none⟩) lt ct] 25)).alloc (.cells #[.int .i64 0, .int .i64 0] 31)) w1) => box22 hb)
  have HL : Hid (∀ w1, Below ((w.alloc (.cells #[.slice (some ⟨A, O, none⟩) ls cs, .slice (some ⟨C, P, none⟩) lt ct] 25)).alloc (.cells #[.int .i64 0, .int .i64 0] 31)).heap.size ((w.alloc (.cells #[.slice (some ⟨A, O, none⟩) ls cs, .slice (some ⟨C, P, none⟩) lt ct] 25)).alloc (.cells #[.int .i64 0, .int .i64 0] 31)) w1 → LineAt w1 A O C P ls lt s t ∧ D < w1.heap.size ∧ NumAt w1 D F lt g) := Lib.hid fun w1 h => ⟨H.out.below (below_al2 h), Nat.lt_of_lt_of_le hD (below_al2 h).size, HD.out.below hD (below_al2 h)⟩
  have q1 := H.out.lt1
  have q2 := H.out.lt2
  go_enter Tryz.func24, Tryz.ntmps24
  go_wp2_with (first
    | (go_at_call 60; refine (isLine_w _ _ _ _ _ _ _ _ s t _ (Lib.hid (HL.out _ (Below.refl _ _)).1)).mono ?_; rintro e w1 ⟨rfl, hb1⟩; obtain ⟨x0, x1, x2, x3, x4, x5, x6⟩ := BX.out _ hb1)
    | (go_at_call 67; refine (areAges_w _ _ _ _ _ _ _ g _ ⟨q1, by omega⟩ (by unfold maxLen; omega) (Lib.hid (.inr ⟨D, F, rfl, (HL.out _ hb1).2.1, (HL.out _ hb1).2.2⟩))).mono ?_; rintro e w2 ⟨⟨rb, rfl, hrb⟩, hb2⟩; obtain rfl : rb = true := hrb.2 hQ.out; clear hrb; have hb12 := hb1.trans (hb2.mono hb1.size); clear x0 x1 x2 x3 x4 x5 x6; obtain ⟨x0, x1, x2, x3, x4, x5, x6⟩ := BX.out _ hb12)
    | (go_at_call 69; refine (carried_w _ _ _ _ _ _ _ _ _ _ _ s t g _ (Lib.hid (HL.out _ hb12).1) (HL.out _ hb12).2.1 (Lib.hid (HL.out _ hb12).2.2) hQ).mono ?_; rintro e w3 ⟨⟨G, rfl, hG1, hG2, hG3⟩, hb3⟩; have HG := Lib.hid hG3; clear hG3; have hb13 := hb12.trans (hb3.mono hb12.size); clear x0 x1 x2 x3 x4 x5 x6; obtain ⟨x0, x1, x2, x3, x4, x5, x6⟩ := BX.out _ hb13)
    | (go_at_call 68; refine (leastOf_w _ _ _ (carOf s t g) La Lb HLA HLB _ ⟨q1, q2⟩ hG2 HG).mono ?_; rintro e w4 ⟨rfl, hb4⟩; have hb14 := hb13.trans (hb4.mono hb13.size); clear x0 x1 x2 x3 x4 x5 x6; obtain ⟨x0, x1, x2, x3, x4, x5, x6⟩ := BX.out _ hb14))
  refine bodyPost_ret (v := .tuple #[.agg #[.int .i64 La, .int .i64 Lb], .int .i64 0]) (by simp [results, Tryz.results24, go_sem, x2, x3]) rfl ⟨rfl, ?_⟩
  exact ((below_al2 hb14).setCell (by simp) _).setCell (by simp) _

set_option maxRecDepth 100000 in
set_option maxHeartbeats 4000000 in
theorem plineF1 (sa ta sq : Option Addr) (ls cs lt ct lq cq : Nat) (s : Nat → Int) (t : Nat → St5) (g : Nat → Int) (w : World) (hls : ls ≤ 1000000) (hlt : lt ≤ 1000000) (hlq : lq ≤ maxLen) (H : Hid (AnyLine w sa ta ls lt s t)) (HS : Hid (IntSl w sq lq g))
    (HR : Hid (¬ RightP ls lt s t)) :
    Calls Tryz.prog 24 #[.agg #[.slice sa ls cs, .slice ta lt ct], .slice sq lq cq] w
      fun e w' => e = .returned (.tuple #[.agg #[.int .i64 0, .int .i64 0], .int .i64 2]) ∧ Below w.heap.size w w' := by
  have HL : Hid (∀ w1, Below ((w.alloc (.cells #[.slice sa ls cs, .slice ta lt ct] 25)).alloc (.cells #[.int .i64 0, .int .i64 0] 31)).heap.size ((w.alloc (.cells #[.slice sa ls cs, .slice ta lt ct] 25)).alloc (.cells #[.int .i64 0, .int .i64 0] 31)) w1 → AnyLine w1 sa ta ls lt s t ∧ IntSl w1 sq lq g) := Lib.hid fun w1 h => ⟨H.out.below (below_al2 h), HS.out.below (below_al2 h)⟩
  have BX := Lib.hid (fun (w1 : World) (hb : Below ((w.alloc (.cells #[.slice sa ls cs, .slice ta lt ct] 25)).alloc (.cells #[.int .i64 0, .int .i64 0] 31)).heap.size ((w.alloc (.cells #[.slice sa ls cs, .slice ta lt ct] 25)).alloc (.cells #[.int .i64 0, .int .i64 0] 31)) w1) => box22 hb)
  go_enter Tryz.func24, Tryz.ntmps24
  go_wp2_with (first
    | (go_at_call 60; refine (isLine2_w _ _ _ _ _ _ s t _ hls hlt (Lib.hid (HL.out _ (Below.refl _ _)).1)).mono ?_; rintro e w1 ⟨⟨rb, rfl, hrb⟩, hb1⟩; obtain rfl : rb = false := (by cases rb <;> first | rfl | exact (HR.out (hrb.1 rfl)).elim); clear hrb; obtain ⟨x0, x1, x2, x3, x4, x5, x6⟩ := BX.out _ hb1))
  refine bodyPost_ret (v := .tuple #[.agg #[.int .i64 0, .int .i64 0], .int .i64 2]) (by simp [results, Tryz.results24, go_sem, x2, x3]) rfl ⟨rfl, ?_⟩
  exact ((below_al2 hb1).setCell (by simp) _).setCell (by simp) _

set_option maxRecDepth 100000 in
set_option maxHeartbeats 4000000 in
theorem plineF2 (sa ta sq : Option Addr) (ls cs lt ct lq cq : Nat) (s : Nat → Int) (t : Nat → St5) (g : Nat → Int) (w : World) (hls : ls ≤ 1000000) (hlt : lt ≤ 1000000) (hlq : lq ≤ maxLen) (H : Hid (AnyLine w sa ta ls lt s t)) (HS : Hid (IntSl w sq lq g))
    (HR : Hid (RightP ls lt s t)) (HQ : Hid (¬ AgeP lt lq g)) :
    Calls Tryz.prog 24 #[.agg #[.slice sa ls cs, .slice ta lt ct], .slice sq lq cq] w
      fun e w' => e = .returned (.tuple #[.agg #[.int .i64 0, .int .i64 0], .int .i64 2]) ∧ Below w.heap.size w w' := by
  have HL : Hid (∀ w1, Below ((w.alloc (.cells #[.slice sa ls cs, .slice ta lt ct] 25)).alloc (.cells #[.int .i64 0, .int .i64 0] 31)).heap.size ((w.alloc (.cells #[.slice sa ls cs, .slice ta lt ct] 25)).alloc (.cells #[.int .i64 0, .int .i64 0] 31)) w1 → AnyLine w1 sa ta ls lt s t ∧ IntSl w1 sq lq g) := Lib.hid fun w1 h => ⟨H.out.below (below_al2 h), HS.out.below (below_al2 h)⟩
  have BX := Lib.hid (fun (w1 : World) (hb : Below ((w.alloc (.cells #[.slice sa ls cs, .slice ta lt ct] 25)).alloc (.cells #[.int .i64 0, .int .i64 0] 31)).heap.size ((w.alloc (.cells #[.slice sa ls cs, .slice ta lt ct] 25)).alloc (.cells #[.int .i64 0, .int .i64 0] 31)) w1) => box22 hb)
  go_enter Tryz.func24, Tryz.ntmps24
  go_wp2_with (first
    | (go_at_call 60; refine (isLine2_w _ _ _ _ _ _ s t _ hls hlt (Lib.hid (HL.out _ (Below.refl _ _)).1)).mono ?_; rintro e w1 ⟨⟨rb, rfl, hrb⟩, hb1⟩; obtain rfl : rb = true := hrb.2 HR.out; clear hrb; obtain ⟨x0, x1, x2, x3, x4, x5, x6⟩ := BX.out _ hb1)
    | (go_at_call 67; refine (areAges_w _ _ _ _ _ _ _ g _ ⟨HR.out.lt1, hlt⟩ hlq (Lib.hid (HL.out _ hb1).2)).mono ?_; rintro e w2 ⟨⟨rb, rfl, hrb⟩, hb2⟩; obtain rfl : rb = false := (by cases rb <;> first | rfl | exact (HQ.out (hrb.1 rfl)).elim); clear hrb; have hb12 := hb1.trans (hb2.mono hb1.size); clear x0 x1 x2 x3 x4 x5 x6; obtain ⟨x0, x1, x2, x3, x4, x5, x6⟩ := BX.out _ hb12))
  refine bodyPost_ret (v := .tuple #[.agg #[.int .i64 0, .int .i64 0], .int .i64 2]) (by simp [results, Tryz.results24, go_sem, x2, x3]) rfl ⟨rfl, ?_⟩
  exact ((below_al2 hb12).setCell (by simp) _).setCell (by simp) _

set_option maxRecDepth 100000 in
set_option maxHeartbeats 4000000 in
theorem pnarF1 (sa ta sq : Option Addr) (ls cs lt ct lq cq : Nat) (s : Nat → Int) (t : Nat → St5) (g : Nat → Int) (w : World) (hls : ls ≤ 1000000) (hlt : lt ≤ 1000000) (hlq : lq ≤ maxLen) (H : Hid (AnyLine w sa ta ls lt s t)) (HS : Hid (IntSl w sq lq g))
    (HR : Hid (¬ RightP ls lt s t)) :
    Calls Tryz.prog 25 #[.agg #[.slice sa ls cs, .slice ta lt ct], .slice sq lq cq] w
      fun e w' => e = .returned (.tuple #[.slice none 0 0, .int .i64 2]) ∧ Below w.heap.size w w' := by
  have HL : Hid (∀ w1, Below (w.alloc (.cells #[.slice sa ls cs, .slice ta lt ct] 25)).heap.size (w.alloc (.cells #[.slice sa ls cs, .slice ta lt ct] 25)) w1 → AnyLine w1 sa ta ls lt s t ∧ IntSl w1 sq lq g) := Lib.hid fun w1 h => ⟨H.out.below (below_al h), HS.out.below (below_al h)⟩
  have BX := Lib.hid (fun (w1 : World) (hb : Below (w.alloc (.cells #[.slice sa ls cs, .slice ta lt ct] 25)).heap.size (w.alloc (.cells #[.slice sa ls cs, .slice ta lt ct] 25)) w1) => box_cells hb)
  go_enter Tryz.func25, Tryz.ntmps25
  go_wp2_with (first
    | (go_at_call 60; refine (isLine2_w _ _ _ _ _ _ s t _ hls hlt (Lib.hid (HL.out _ (Below.refl _ _)).1)).mono ?_; rintro e w1 ⟨⟨rb, rfl, hrb⟩, hb1⟩; obtain rfl : rb = false := (by cases rb <;> first | rfl | exact (HR.out (hrb.1 rfl)).elim); clear hrb; obtain ⟨x0, x1, x2⟩ := BX.out _ hb1))
  exact bodyPost_ret (v := .tuple #[.slice none 0 0, .int .i64 2]) (by simp [results, Tryz.results25, go_sem]) rfl ⟨rfl, below_al hb1⟩

set_option maxRecDepth 100000 in
set_option maxHeartbeats 4000000 in
theorem pnarF2 (sa ta sq : Option Addr) (ls cs lt ct lq cq : Nat) (s : Nat → Int) (t : Nat → St5) (g : Nat → Int) (w : World) (hls : ls ≤ 1000000) (hlt : lt ≤ 1000000) (hlq : lq ≤ maxLen) (H : Hid (AnyLine w sa ta ls lt s t)) (HS : Hid (IntSl w sq lq g))
    (HR : Hid (RightP ls lt s t)) (HQ : Hid (¬ AgeP lt lq g)) :
    Calls Tryz.prog 25 #[.agg #[.slice sa ls cs, .slice ta lt ct], .slice sq lq cq] w
      fun e w' => e = .returned (.tuple #[.slice none 0 0, .int .i64 2]) ∧ Below w.heap.size w w' := by
  have HL : Hid (∀ w1, Below (w.alloc (.cells #[.slice sa ls cs, .slice ta lt ct] 25)).heap.size (w.alloc (.cells #[.slice sa ls cs, .slice ta lt ct] 25)) w1 → AnyLine w1 sa ta ls lt s t ∧ IntSl w1 sq lq g) := Lib.hid fun w1 h => ⟨H.out.below (below_al h), HS.out.below (below_al h)⟩
  have BX := Lib.hid (fun (w1 : World) (hb : Below (w.alloc (.cells #[.slice sa ls cs, .slice ta lt ct] 25)).heap.size (w.alloc (.cells #[.slice sa ls cs, .slice ta lt ct] 25)) w1) => box_cells hb)
  go_enter Tryz.func25, Tryz.ntmps25
  go_wp2_with (first
    | (go_at_call 60; refine (isLine2_w _ _ _ _ _ _ s t _ hls hlt (Lib.hid (HL.out _ (Below.refl _ _)).1)).mono ?_; rintro e w1 ⟨⟨rb, rfl, hrb⟩, hb1⟩; obtain rfl : rb = true := hrb.2 HR.out; clear hrb; obtain ⟨x0, x1, x2⟩ := BX.out _ hb1)
    | (go_at_call 67; refine (areAges_w _ _ _ _ _ _ _ g _ ⟨HR.out.lt1, hlt⟩ hlq (Lib.hid (HL.out _ hb1).2)).mono ?_; rintro e w2 ⟨⟨rb, rfl, hrb⟩, hb2⟩; obtain rfl : rb = false := (by cases rb <;> first | rfl | exact (HQ.out (hrb.1 rfl)).elim); clear hrb; have hb12 := hb1.trans (hb2.mono hb1.size); clear x0 x1 x2; obtain ⟨x0, x1, x2⟩ := BX.out _ hb12))
  exact bodyPost_ret (v := .tuple #[.slice none 0 0, .int .i64 2]) (by simp [results, Tryz.results25, go_sem]) rfl ⟨rfl, below_al hb12⟩
end Go.Kn

namespace Go.Kn
open Go Go.Proofs Go.RowKit

theorem field31_1 (a b : Int) (w : World) : (Instr.field 31 (.agg #[.int .i64 a, .int .i64 b]) 1).run Tryz.prog w = .ok (.int .i64 b) w := by kernel_rfl
theorem field31_0 (a b : Int) (w : World) : (Instr.field 31 (.agg #[.int .i64 a, .int .i64 b]) 0).run Tryz.prog w = .ok (.int .i64 a) w := by kernel_rfl

/-- whether a stretch can be the narrowest -/
def narB (s : Nat → Int) (t : Nat → St5) (g : Nat → Int) (Lb : Int) (k : Nat) : Bool := decide ((carOf s t g k).lo ≤ Lb)

set_option maxRecDepth 100000 in
set_option maxHeartbeats 4000000 in
theorem pnar_w (A O C P ls cs lt ct D F cq : Nat) (s : Nat → Int) (t : Nat → St5) (g : Nat → Int) (La Lb : Int) (HLA : Hid (La = bmin (upto (fun j => (carOf s t g j).lo) lt))) (HLB : Hid (Lb = bmin (upto (fun j => (carOf s t g j).hi) lt))) (w : World) (H : Hid (LineAt w A O C P ls lt s t)) (hD : D < w.heap.size) (HD : Hid (NumAt w D F lt g)) (hQ : Hid (AgeP lt lt g)) :
    Calls Tryz.prog 25 #[.agg #[.slice (some ⟨A, O, none⟩) ls cs, .slice (some ⟨C, P, none⟩) lt ct], .slice (some ⟨D, F, none⟩) lt cq] w
      fun e w' => (∃ v n, e = .returned (.tuple #[v, .int .i64 0]) ∧ w'.ownsRow w.heap.size 3 1 v n ((pick (narB s t g Lb) lt).map (Value.int .i64))) ∧ Below w.heap.size w w' := by
  have BX := Lib.hid (fun (w1 : World) (hb : Below (w.alloc (.cells #[.slice (some ⟨A, O, none⟩) ls cs, .slice (some ⟨C, P, none⟩) lt ct] 25)).heap.size (w.alloc (.cells #[.slice (some ⟨A, O, none⟩) ls cs, .slice (some ⟨C, P, none⟩) lt ct] 25)) w1) => box_cells hb)
  have HL : Hid (∀ w1, Below (w.alloc (.cells #[.slice (some ⟨A, O, none⟩) ls cs, .slice (some ⟨C, P, none⟩) lt ct] 25)).heap.size (w.alloc (.cells #[.slice (some ⟨A, O, none⟩) ls cs, .slice (some ⟨C, P, none⟩) lt ct] 25)) w1 → LineAt w1 A O C P ls lt s t ∧ D < w1.heap.size ∧ NumAt w1 D F lt g) := Lib.hid fun w1 h => ⟨H.out.below (below_al h), Nat.lt_of_lt_of_le hD (below_al h).size, HD.out.below hD (below_al h)⟩
  have q1 := H.out.lt1
  have q2 := H.out.lt2
  obtain ⟨i0, hi, hz0, hz1, hz22⟩ := info_parts info3'
  have hfi := field31_1
  go_enter Tryz.func25, Tryz.ntmps25
  go_wp2_with (first
    | (go_at_call 60; refine (isLine_w _ _ _ _ _ _ _ _ s t _ (Lib.hid (HL.out _ (Below.refl _ _)).1)).mono ?_; rintro e w1 ⟨rfl, hb1⟩; obtain ⟨x0, x1, x2⟩ := BX.out _ hb1)
    | (go_at_call 67; refine (areAges_w _ _ _ _ _ _ _ g _ ⟨q1, by omega⟩ (by unfold maxLen; omega) (Lib.hid (.inr ⟨D, F, rfl, (HL.out _ hb1).2.1, (HL.out _ hb1).2.2⟩))).mono ?_; rintro e w2 ⟨⟨rb, rfl, hrb⟩, hb2⟩; obtain rfl : rb = true := hrb.2 hQ.out; clear hrb; have hb12 := hb1.trans (hb2.mono hb1.size); clear x0 x1 x2; obtain ⟨x0, x1, x2⟩ := BX.out _ hb12)
    | (go_at_call 69; refine (carried_w _ _ _ _ _ _ _ _ _ _ _ s t g _ (Lib.hid (HL.out _ hb12).1) (HL.out _ hb12).2.1 (Lib.hid (HL.out _ hb12).2.2) hQ).mono ?_; rintro e w3 ⟨⟨G, rfl, hG1, hG2, hG3⟩, hb3⟩; have HG := Lib.hid hG3; clear hG3; have hb13 := hb12.trans (hb3.mono hb12.size); clear x0 x1 x2; obtain ⟨x0, x1, x2⟩ := BX.out _ hb13)
    | (go_at_call 68; refine (leastOf_w _ _ _ (carOf s t g) La Lb HLA HLB _ ⟨q1, q2⟩ hG2 HG).mono ?_; rintro e w4 ⟨rfl, hb4⟩; have hb14 := hb13.trans (hb4.mono hb13.size); clear x0 x1 x2; obtain ⟨x0, x1, x2⟩ := BX.out _ hb14))
  have hwz : w.heap.size < w4.heap.size := x2
  have FX : Hid (∀ w', Below w4.heap.size w4 w' → SpAt w' G 0 lt (carOf s t g)) := Lib.hid fun w' h => (HG.out.below hG2 hb4).below (Nat.lt_of_lt_of_le hG2 hb4.size) h
  have hB14 : Below w.heap.size w w4 := below_al hb14
  clear x0 x1 x2 hb1 hb2 hb12 hb3 hb13 hb4 hb14 BX HL HG
  go_loopw [8, 28] (fun v i wr => ∃ (k n : Nat), k ≤ lt ∧ i = .int .i64 k ∧ wr.ownsRow w4.heap.size 3 1 v n ((pick (narB s t g Lb) k).map (Value.int .i64)) ∧ Below w4.heap.size w4 wr) (fun _ i _ => lt - (intOf i).toNat)
  case atStart => exact ⟨0, 0, Nat.zero_le _, rfl, World.ownsRow_nil _ _ _ _, Below.refl _ _⟩
  case round =>
    obtain ⟨k, n, hk, rfl, hown, hbw⟩ := hrel
    have hnl : n ≤ k := by
      have h1 := hown.1
      have h2 := pick_len (narB s t g Lb) k
      simp at h1; omega
    have HOWN := Lib.hid hown
    clear hown
    have hz6 := hbw.size
    by_cases hlt : k < lt
    · obtain ⟨y0, y1⟩ := FX.out _ hbw k hlt
      simp only [Nat.zero_add] at y0 y1
      cases hv : narB s t g Lb k
      · have hd : ¬ (carOf s t g k).lo ≤ Lb := by simpa [narB] using hv
        go_wp2
        go_roundw
        case rel => exact ⟨k + 1, n, by omega, by go_num, by rw [pick_f hv]; exact owns_below HOWN.out ((Below.refl _ _).alloc (Nat.le_refl _) _), hbw.alloc (by omega) _⟩
        case measure => simp [intOf]; omega
      · have hd : (carOf s t g k).lo ≤ Lb := by simpa [narB] using hv
        go_wp2_with (at_builtin; refine wpList_append_own _ rfl _ _ 22 rfl w4.heap.size 3 i0 (.int .i64 0) 1 8 Tryz.underlying22 hi hz0 hz1 hz22 rfl (by decide) _ n _ rfl ((owns_below HOWN.out ((Below.refl _ _).alloc (Nat.le_refl _) _)).alloc _) ⟨_, 0, none⟩ 1 1 [.int .i64 (k : Int)] rfl rfl (lies_any (by first | exact al_top rfl _ _ | exact al_top (by simp) _ _)) (by intro u hu; simp at hu; subst hu; rfl) (by unfold maxLen; omega) (by omega) (by simp; omega) ?_; intro v' w6 hown6 hgrow6 _)
        go_roundw
        case rel => exact ⟨k + 1, n + 1, by omega, by go_num, by rw [pick_t hv]; simpa using hown6, ((hbw.alloc (by omega) _).alloc (by simp; omega) _).grown hgrow6 (by simp; omega) (fun r e => own_ge HOWN.out r e)⟩
        case measure => simp [intOf]; omega
    · obtain rfl : k = lt := by omega
      go_wp2
      go_ret2
      exact ⟨⟨_, n, rfl, own_base HOWN.out (by omega)⟩, hB14.trans (hbw.mono (by omega))⟩
end Go.Kn

namespace Go.Kn
open Go Go.Proofs Go.RowKit

/-- the least of the first k numbers, and 10000001 -/
def mnOf (f : Nat → Int) : Nat → Int
  | 0 => 10000001
  | k + 1 => min (mnOf f k) (f k)
theorem mnOf_bmin (f : Nat → Int) : ∀ n : Nat, 1 ≤ n → (∀ j, j < n → f j ≤ 10000000) → mnOf f n = bmin (upto f n) := by
  intro n
  induction n with
  | zero => intro h; omega
  | succ n ih =>
    intro _ hb
    by_cases h0 : n = 0
    · subst h0
      have := hb 0 (by omega)
      simp [mnOf, upto, bmin, List.range_succ]
      omega
    · have h1 := ih (by omega) (fun j hj => hb j (by omega))
      have hne : upto f n ≠ [] := by
        intro e
        have := upto_length f n
        rw [e] at this
        simp at this; omega
      rw [upto_succ, bmin_snoc _ _ hne, ← h1]
      rfl
theorem carOf_bd {w : World} {A O C P ls lt : Nat} {s : Nat → Int} {t : Nat → St5} {g : Nat → Int} (H : LineAt w A O C P ls lt s t) (hQ : AgeP lt lt g) (k : Nat) (hk : k < lt) : (0 ≤ (carOf s t g k).lo ∧ (carOf s t g k).lo ≤ 10000000) ∧ (0 ≤ (carOf s t g k).hi ∧ (carOf s t g k).hi ≤ 10000000) ∧ (carOf s t g k).lo ≤ (carOf s t g k).hi := by
  obtain ⟨b1, b2, b3, b4, b5⟩ := H.bds hk
  have hg := hQ.ok k hk
  simp only [fromB, decide_eq_true_eq] at hg
  have hsp : 0 ≤ s (t k).f.toNat ∧ s (t k).f.toNat ≤ 1000 := ⟨by omega, by omega⟩
  exact ⟨cupsL_bd hsp ⟨by omega, b1.2⟩ ⟨by omega, b2.2⟩ (by omega) hg.1, cupsL_bd hsp ⟨by omega, b1.2⟩ ⟨by omega, b2.2⟩ (by omega) hg.1, cupsL_mono hsp.1 b4.1 b4.2.1 hg.1 (Int.le_refl _)⟩

theorem cell_lone2 {W : World} {n : Nat} (hn : W.heap.size = n) (x y : Value) (T : TypeId) : (W.alloc (.cells #[x, y] T)).cell? ⟨n, 0, none⟩ = some x ∧ (W.alloc (.cells #[x, y] T)).cell? ⟨n, 1, none⟩ = some y ∧ (W.alloc (.cells #[x, y] T)).frozen? ⟨n, 0, none⟩ = false ∧ (W.alloc (.cells #[x, y] T)).frozen? ⟨n, 1, none⟩ = false := by
  subst hn; exact ⟨by simp, by simp, by simp, by simp⟩

set_option maxRecDepth 100000 in
set_option maxHeartbeats 4000000 in
theorem rline_w (A O C P ls cs lt ct D F cq : Nat) (s : Nat → Int) (t : Nat → St5) (g : Nat → Int) (La Lb : Int) (HLA : Hid (La = bmin (upto (fun j => (carOf s t g j).lo) lt))) (HLB : Hid (Lb = bmin (upto (fun j => (carOf s t g j).hi) lt))) (w : World) (H : Hid (LineAt w A O C P ls lt s t)) (hD : D < w.heap.size) (HD : Hid (NumAt w D F lt g)) (hQ : Hid (AgeP lt lt g)) :
    Calls Tryz.prog 27 #[.agg #[.slice (some ⟨A, O, none⟩) ls cs, .slice (some ⟨C, P, none⟩) lt ct], .slice (some ⟨D, F, none⟩) lt cq] w
      fun e w' => e = .returned (.agg #[.int .i64 La, .int .i64 Lb]) ∧ Below w.heap.size w w' := by
  have BX := Lib.hid (fun (w1 : World) (hb : Below ((w.alloc (.cells #[.slice (some ⟨A, O, none⟩) ls cs, .slice (some ⟨C, P, none⟩) lt ct] 25)).alloc (.cells #[.int .i64 0, .int .i64 0] 31)).heap.size ((w.alloc (.cells #[.slice (some ⟨A, O, none⟩) ls cs, .slice (some ⟨C, P, none⟩) lt ct] 25)).alloc (.cells #[.int .i64 0, .int .i64 0] 31)) w1) => box22 hb)
  have HL : Hid (∀ w1, Below ((w.alloc (.cells #[.slice (some ⟨A, O, none⟩) ls cs, .slice (some ⟨C, P, none⟩) lt ct] 25)).alloc (.cells #[.int .i64 0, .int .i64 0] 31)).heap.size ((w.alloc (.cells #[.slice (some ⟨A, O, none⟩) ls cs, .slice (some ⟨C, P, none⟩) lt ct] 25)).alloc (.cells #[.int .i64 0, .int .i64 0] 31)) w1 → LineAt w1 A O C P ls lt s t ∧ D < w1.heap.size ∧ NumAt w1 D F lt g) := Lib.hid fun w1 h => ⟨H.out.below (below_al2 h), Nat.lt_of_lt_of_le hD (below_al2 h).size, HD.out.below hD (below_al2 h)⟩
  have HBD := Lib.hid (carOf_bd H.out hQ.out)
  have q1 := H.out.lt1
  have q2 := H.out.lt2
  have hsz2 : ((w.alloc (.cells #[.slice (some ⟨A, O, none⟩) ls cs, .slice (some ⟨C, P, none⟩) lt ct] 25)).alloc (.cells #[.int .i64 0, .int .i64 0] 31)).heap.size = w.heap.size + 1 + 1 := by simp
  have HZ2 := Lib.hid hsz2
  clear hsz2
  go_enter Tryz.func27, Tryz.ntmps27
  go_wp2
  go_loopw [6] (fun i wr => ∃ k : Nat, k ≤ lt ∧ i = .int .i64 k ∧ Below ((w.alloc (.cells #[.slice (some ⟨A, O, none⟩) ls cs, .slice (some ⟨C, P, none⟩) lt ct] 25)).alloc (.cells #[.int .i64 0, .int .i64 0] 31)).heap.size ((w.alloc (.cells #[.slice (some ⟨A, O, none⟩) ls cs, .slice (some ⟨C, P, none⟩) lt ct] 25)).alloc (.cells #[.int .i64 0, .int .i64 0] 31)) wr ∧ w.heap.size + 1 + 1 < wr.heap.size ∧ wr.cell? ⟨w.heap.size + 1 + 1, 0, none⟩ = some (.int .i64 (mnOf (fun j => (carOf s t g j).lo) k)) ∧ wr.cell? ⟨w.heap.size + 1 + 1, 1, none⟩ = some (.int .i64 (mnOf (fun j => (carOf s t g j).hi) k)) ∧ wr.frozen? ⟨w.heap.size + 1 + 1, 0, none⟩ = false ∧ wr.frozen? ⟨w.heap.size + 1 + 1, 1, none⟩ = false)
    (fun i _ => lt - (intOf i).toNat)
  case atStart =>
    refine ⟨0, Nat.zero_le _, rfl, (Below.refl _ _).alloc (Nat.le_refl _) _, by simp, ?_, ?_, ?_, ?_⟩
    all_goals (first | (exact (cell_lone2 HZ2.out _ _ _).1) | (exact (cell_lone2 HZ2.out _ _ _).2.1) | (exact (cell_lone2 HZ2.out _ _ _).2.2.1) | (exact (cell_lone2 HZ2.out _ _ _).2.2.2))
  case round =>
    obtain ⟨k, hk, rfl, hbw, hz, o1, o2, o3, o4⟩ := hrel
    obtain ⟨x0, x1, x2, x3, x4, x5, x6⟩ := BX.out _ hbw
    by_cases hlt : k < lt
    · have y0 := (HL.out _ hbw).2.2 k hlt
      have HLW := Lib.hid (HL.out _ hbw).1
      have hag := hQ.out.ok k hlt
      simp only [fromB, decide_eq_true_eq] at hag
      have HAG := Lib.hid hag
      clear hag x2 x3 x4 x5
      have FY : Hid (∀ w', Below wr.heap.size wr w' → w'.cell? ⟨w.heap.size, 0, none⟩ = some (.slice (some ⟨A, O, none⟩) ls cs) ∧ w'.cell? ⟨w.heap.size, 1, none⟩ = some (.slice (some ⟨C, P, none⟩) lt ct) ∧ w'.cell? ⟨D, F + k, none⟩ = some (.int .i64 (g k))) := Lib.hid fun w' h => by
        obtain ⟨z0, z1, _⟩ := BX.out _ (hbw.trans (h.mono hbw.size))
        exact ⟨z0, z1, (HL.out _ (hbw.trans (h.mono hbw.size))).2.2 k hlt⟩
      have HBW := Lib.hid hbw
      clear hbw
      have n1 : (0 : Int) ≤ (k : Int) := by omega
      have n2 : (k : Int) < (lt : Int) := by omega
      have mn : (if cupsL s (t k) (g k) (t k).hi < mnOf (fun j => (carOf s t g j).lo) k then cupsL s (t k) (g k) (t k).hi else mnOf (fun j => (carOf s t g j).lo) k) = mnOf (fun j => (carOf s t g j).lo) (k + 1) := by
        show _ = min (mnOf (fun j => (carOf s t g j).lo) k) (cupsL s (t k) (g k) (t k).hi)
        split <;> omega
      have mx : (if cupsL s (t k) (g k) (t k).lo < mnOf (fun j => (carOf s t g j).hi) k then cupsL s (t k) (g k) (t k).lo else mnOf (fun j => (carOf s t g j).hi) k) = mnOf (fun j => (carOf s t g j).hi) (k + 1) := by
        show _ = min (mnOf (fun j => (carOf s t g j).hi) k) (cupsL s (t k) (g k) (t k).lo)
        split <;> omega
      have MN := Lib.hid mn
      have MX := Lib.hid mx
      clear mn mx
      go_wp2
      go_region_held3 (fun w' => w'.cell? ⟨w.heap.size, 0, none⟩ = some (.slice (some ⟨A, O, none⟩) ls cs) ∧ w'.cell? ⟨w.heap.size, 1, none⟩ = some (.slice (some ⟨C, P, none⟩) lt ct) ∧ w'.cell? ⟨D, F + k, none⟩ = some (.int .i64 (g k)))
        ((first | exact FY.out _ hb5r | (refine FY.out _ ?_; repeat (first | exact Below.refl _ _ | exact hb5r | refine Below.setCell ?_ (by first | (simp; done) | exact hb5r.size | (have := hb5r.size; simp; omega)) _ | refine Below.alloc ?_ (by first | exact Nat.le_refl _ | exact hb5r.size | (have := hb5r.size; simp; omega)) _ | refine Below.drew ?_))))
        ((first
          | (go_at_call 22; refine (refCarries_w _ _ _ _ _ _ _ _ _ s t _ wr.drew (Lib.hid (HLW.out.below (by repeat (first | exact Below.refl _ _ | refine Below.alloc ?_ (Nat.le_refl _) _ | refine Below.drew ?_)))) hlt HAG.out).mono ?_; rintro e w5 ⟨rfl, hb5⟩; have hb5r : Below wr.heap.size wr w5 := Below.trans (by repeat (first | exact Below.refl _ _ | refine Below.alloc ?_ (Nat.le_refl _) _ | refine Below.drew ?_)) (hb5.mono (by simp)))
          | (go_at_call 22; refine (refCarries_w _ _ _ _ _ _ _ _ _ s t _ ((wr.alloc (.cells #[.int .i64 0, .int .i64 0] 31)).drew) (Lib.hid (HLW.out.below (by repeat (first | exact Below.refl _ _ | refine Below.alloc ?_ (Nat.le_refl _) _ | refine Below.drew ?_)))) hlt HAG.out).mono ?_; rintro e w5 ⟨rfl, hb5⟩; have hb5r : Below wr.heap.size wr w5 := Below.trans (by repeat (first | exact Below.refl _ _ | refine Below.alloc ?_ (Nat.le_refl _) _ | refine Below.drew ?_)) (hb5.mono (by simp)); have a0 : w5.cell? ⟨wr.heap.size, 0, none⟩ = some (.int .i64 0) := ((bcell hb5).1 _ _ (by simp)).trans (by simp); have a1 : w5.cell? ⟨wr.heap.size, 1, none⟩ = some (.int .i64 0) := ((bcell hb5).1 _ _ (by simp)).trans (by simp); have a2 : w5.frozen? ⟨wr.heap.size, 0, none⟩ = false := ((bcell hb5).2 _ _ (by simp)).trans (by simp); have a3 : w5.frozen? ⟨wr.heap.size, 1, none⟩ = false := ((bcell hb5).2 _ _ (by simp)).trans (by simp); have a4 : wr.heap.size < w5.heap.size := (by have := hb5.size; simp at this; omega))))
      · obtain ⟨W6, hW6⟩ : ∃ W6, W6 = w5.alloc (.cells #[.int .i64 (cupsL s (t k) (g k) (t k).hi), .int .i64 (cupsL s (t k) (g k) (t k).lo)] 31) := ⟨_, rfl⟩
        have hbr : Below wr.heap.size wr W6 := by rw [hW6]; exact hb5r.alloc hb5r.size _
        obtain ⟨hcc, hff⟩ := bcell hbr
        have e0 := (hcc _ 0 hz).trans o1
        have e1 := (hcc _ 1 hz).trans o2
        have e2 := (hff _ 0 hz).trans o3
        have e3 := (hff _ 1 hz).trans o4
        have d0 : W6.cell? ⟨w5.heap.size, 0, none⟩ = some (.int .i64 (cupsL s (t k) (g k) (t k).hi)) := by rw [hW6]; exact (cell_lone2 rfl _ _ _).1
        have d1 : W6.cell? ⟨w5.heap.size, 1, none⟩ = some (.int .i64 (cupsL s (t k) (g k) (t k).lo)) := by rw [hW6]; exact (cell_lone2 rfl _ _ _).2.1
        have HB6 := Lib.hid (HBW.out.trans (hbr.mono HBW.out.size))
        have HZ6 : w.heap.size + 1 + 1 < W6.heap.size := Nat.lt_of_lt_of_le hz hbr.size
        rw [← hW6]
        clear hW6 hcc hff hbr o1 o2 o3 o4 x0 x1 y0
        go_wp2
        rw [MN.out, MX.out]
        go_roundw
        case rel =>
          refine ⟨k + 1, by omega, by go_num, (HB6.out.setCell (by simp) _).setCell (by simp) _, by rw [World.size_setCell, World.size_setCell]; exact HZ6, (World.cell?_setCell_other _ _ _ _ (by simp)).trans (World.cell?_setCell_same _ _ _ e0), World.cell?_setCell_same _ _ _ ((World.cell?_setCell_other _ _ _ _ (by simp)).trans e1), ?_, ?_⟩
          · rw [World.frozen?_setCell, World.frozen?_setCell]; exact e2
          · rw [World.frozen?_setCell, World.frozen?_setCell]; exact e3
        case measure => simp [intOf]; omega
      · obtain ⟨W6, hW6⟩ : ∃ W6, W6 = (w5.setCell ⟨wr.heap.size, 0, none⟩ (.int .i64 (cupsL s (t k) (g k) (t k).hi))).setCell ⟨wr.heap.size, 1, none⟩ (.int .i64 (cupsL s (t k) (g k) (t k).lo)) := ⟨_, rfl⟩
        have hbr : Below wr.heap.size wr W6 := by rw [hW6]; exact (hb5r.setCell (by simp) _).setCell (by simp) _
        obtain ⟨hcc, hff⟩ := bcell hbr
        have e0 := (hcc _ 0 hz).trans o1
        have e1 := (hcc _ 1 hz).trans o2
        have e2 := (hff _ 0 hz).trans o3
        have e3 := (hff _ 1 hz).trans o4
        have d0 : W6.cell? ⟨wr.heap.size, 0, none⟩ = some (.int .i64 (cupsL s (t k) (g k) (t k).hi)) := by rw [hW6]; exact (World.cell?_setCell_other _ _ _ _ (by simp)).trans (World.cell?_setCell_same _ _ _ a0)
        have d1 : W6.cell? ⟨wr.heap.size, 1, none⟩ = some (.int .i64 (cupsL s (t k) (g k) (t k).lo)) := by rw [hW6]; exact World.cell?_setCell_same _ _ _ ((World.cell?_setCell_other _ _ _ _ (by simp)).trans a1)
        have HB6 := Lib.hid (HBW.out.trans (hbr.mono HBW.out.size))
        have HZ6 : w.heap.size + 1 + 1 < W6.heap.size := Nat.lt_of_lt_of_le hz hbr.size
        rw [← hW6]
        clear hW6 hcc hff hbr o1 o2 o3 o4 x0 x1 y0
        go_wp2
        rw [MN.out, MX.out]
        go_roundw
        case rel =>
          refine ⟨k + 1, by omega, by go_num, (HB6.out.setCell (by simp) _).setCell (by simp) _, by rw [World.size_setCell, World.size_setCell]; exact HZ6, (World.cell?_setCell_other _ _ _ _ (by simp)).trans (World.cell?_setCell_same _ _ _ e0), World.cell?_setCell_same _ _ _ ((World.cell?_setCell_other _ _ _ _ (by simp)).trans e1), ?_, ?_⟩
          · rw [World.frozen?_setCell, World.frozen?_setCell]; exact e2
          · rw [World.frozen?_setCell, World.frozen?_setCell]; exact e3
        case measure => simp [intOf]; omega
    · obtain rfl : k = lt := by omega
      have HBW := Lib.hid hbw
      have m1 := mnOf_bmin (fun j => (carOf s t g j).lo) k q1 (fun j hj => (HBD.out j hj).1.2)
      have m2 := mnOf_bmin (fun j => (carOf s t g j).hi) k q1 (fun j hj => (HBD.out j hj).2.1.2)
      rw [← HLA.out] at m1
      rw [← HLB.out] at m2
      rw [m1] at o1
      rw [m2] at o2
      clear hbw m1 m2
      go_wp2
      refine bodyPost_ret (v := .agg #[.int .i64 La, .int .i64 Lb]) (by simp [results, Tryz.results27, go_sem, x2, x3]) rfl ⟨rfl, ?_⟩
      exact ((below_al2 HBW.out).setCell (by simp) _).setCell (by simp) _
end Go.Kn
