/- Walks of the functions of layer 2 that ChannelHeights calls, and the law itself (a part of it). Conditions: as each theorem states them. -/
import Derived.Test.YtifdohhffmlbaaaGreatDoorN1
import Derived.Lib.Hide
import Derived.RangeFuncNested
set_option linter.unusedVariables false
set_option linter.unusedSimpArgs false
namespace Go.Kn
open Go Go.Proofs Go.RowKit Go.Shelf

/-- the least of what has come: 0 if nothing has -/
def bmin : List Int → Int
  | [] => 0
  | x :: l => l.foldl min x
theorem bmin_snoc (pre : List Int) (x : Int) (h : pre ≠ []) : bmin (pre ++ [x]) = min (bmin pre) x := by
  cases pre with
  | nil => exact absurd rfl h
  | cons a l => simp [bmin]
def bany (pre : List Int) : Bool := !pre.isEmpty

theorem set2 {w0 W : World} {B N : Nat} {z y : Int} {c : Bool} (hB : Below B w0 W) (p0 : Boxed W B 168 (.func (.func 131) #[] #[])) (p1 : Boxed W (B + 1) 3 (.int .i64 y)) (p2 : Boxed W (B + 1 + 1) 4 (.bool c)) :
    KeepsFrom N W ((W.setCell ⟨B + 1, 0, none⟩ (.int .i64 z)).setCell ⟨B + 1 + 1, 0, none⟩ (.bool true)) ∧ Below B W ((W.setCell ⟨B + 1, 0, none⟩ (.int .i64 z)).setCell ⟨B + 1 + 1, 0, none⟩ (.bool true)) ∧
    (Boxed ((W.setCell ⟨B + 1, 0, none⟩ (.int .i64 z)).setCell ⟨B + 1 + 1, 0, none⟩ (.bool true)) B 168 (.func (.func 131) #[] #[]) ∧ Boxed ((W.setCell ⟨B + 1, 0, none⟩ (.int .i64 z)).setCell ⟨B + 1 + 1, 0, none⟩ (.bool true)) (B + 1) 3 (.int .i64 z) ∧
      Boxed ((W.setCell ⟨B + 1, 0, none⟩ (.int .i64 z)).setCell ⟨B + 1 + 1, 0, none⟩ (.bool true)) (B + 1 + 1) 4 (.bool true)) ∧
    Below B w0 ((W.setCell ⟨B + 1, 0, none⟩ (.int .i64 z)).setCell ⟨B + 1 + 1, 0, none⟩ (.bool true)) :=
  ⟨((KeepsOthers.setCell _ _ _).trans (KeepsOthers.setCell _ _ _)).from _, ((Below.refl B W).setCell (p := ⟨B + 1, 0, none⟩) (by simp) _).setCell (p := ⟨B + 1 + 1, 0, none⟩) (by simp; omega) _,
    ⟨(p0.other (by omega) _).other (by omega) _, (p1.set _).other (by omega) _, (p2.other (by omega) _).set _⟩, (hB.setCell (p := ⟨B + 1, 0, none⟩) (by simp) _).setCell (p := ⟨B + 1 + 1, 0, none⟩) (by simp; omega) _⟩

set_option maxRecDepth 100000 in
set_option maxHeartbeats 4000000 in
theorem best_w (b off len cap Bs : Nat) (z : Nat → Int) (hreach : len ≤ 1000000) (hlen : 1 ≤ len) (w : World) (hBs : Bs < w.heap.size)
    (hcB : w.cell? ⟨Bs, 0, none⟩ = some (.slice (some ⟨b, off, none⟩) len cap)) (hb : b < w.heap.size) (hc : ∀ j, j < len → w.cell? ⟨b, off + j, none⟩ = some (.int .i64 (z j))) :
    CallsIn Fence.wide 6 Tryz.prog 129 #[.func (.func 146) #[] #[.pointer (some ⟨Bs, 0, none⟩)], .func (.func 131) #[] #[]] w fun e W' => e = .returned (.tuple #[.int .i64 (bmin (upto z len)), .bool true]) ∧ Below w.heap.size w W' := by
  have HC := Lib.hid hc
  clear hc
  refine callsIn_of_wp_marks Tryz.func129 rfl trivial ?_ rfl
  simp only [Tryz.ntmps129, List.size_toArray, List.length_cons, List.length_nil, Nat.reduceAdd, Nat.reduceSub, Array.replicate_succ, Array.replicate_zero, List.push_toArray, List.append_toArray, List.nil_append, List.cons_append]
  gi_wp2
  have b0 := Boxed.new w 168 (.func (.func 131) #[] #[])
  have b1 := Boxed.new (w.alloc (.cells #[.func (.func 131) #[] #[]] 168)) 3 (.int .i64 0)
  have b2 := Boxed.new ((w.alloc (.cells #[.func (.func 131) #[] #[]] 168)).alloc (.cells #[.int .i64 0] 3)) 4 (.bool false)
  simp only [World.size_alloc] at b1 b2
  have c0 := (b0.alloc (.cells #[.int .i64 0] 3)).alloc (.cells #[.bool false] 4)
  have c1 := b1.alloc (.cells #[.bool false] 4)
  have hB0 : Below w.heap.size w (((w.alloc (.cells #[.func (.func 131) #[] #[]] 168)).alloc (.cells #[.int .i64 0] 3)).alloc (.cells #[.bool false] 4)) := (((Below.refl _ w).alloc (Nat.le_refl _) _).alloc (by simp) _).alloc (by simp; omega) _
  refine wpIn_rangeFunc_ownG rfl (by decide) (gf := 146) (lb := #[.pointer (some ⟨Bs, 0, none⟩)]) rfl trivial (enters_of Tryz.func146 (by kernel_rfl) rfl)
    (values_stops Fence.wide 5 trivial rfl (by decide) Bs w.heap.size b off len cap z hreach _ (by simp; omega) (by simp; omega) ((hB0.cell (p := ⟨Bs, 0, none⟩) hBs).trans hcB) hb (fun j hj => (hB0.cell (p := ⟨b, off + j, none⟩) hb).trans (HC.out j hj))) belowK_t (belowK_b (by simp; omega)) (Below.refl _ _) (fun _ => rfl)
    (fun pre W => (Boxed W w.heap.size 168 (.func (.func 131) #[] #[]) ∧ Boxed W (w.heap.size + 1) 3 (.int .i64 (bmin pre)) ∧ Boxed W (w.heap.size + 1 + 1) 4 (.bool (bany pre))) ∧ Below w.heap.size w W)
    (fun _ _ _ => False)
    (OwnFrom.and (OwnFrom.and (Own.from (boxed_own _ _ _) _) (OwnFrom.and (Own.from (boxed_own _ _ _) _) (Own.from (boxed_own _ _ _) _))) (ownFrom_below (Nat.le_refl _) (by simp; omega)))
    (fun _ _ _ _ _ hs _ _ => hs)
    ⟨⟨c0, c1, b2⟩, hB0⟩
    (fun x => { tmps := #[Value.func (Fn.func 146) #[] #[Value.pointer (some { block := Bs, off := 0 })],
          Value.func (Fn.func 131) #[] #[], undef, Value.pointer (some { block := w.heap.size, off := 0 }),
          Value.pointer (some { block := w.heap.size + 1, off := 0 }),
          Value.pointer (some { block := w.heap.size + 1 + 1, off := 0 }), .int .i64 x,
          Value.func (Fn.func 146) #[] #[Value.pointer (some { block := Bs, off := 0 })], .int .i64 x, undef, undef, undef,
          undef, undef, undef, undef, undef, undef, undef, undef], defers := [] }) ?assign ?body ?done ?stop
  case assign =>
    intro l x W K hK
    have hsa := @Oper.semAt_some
    gi_wp2
    exact hK
  case body =>
    rintro l pre x W ⟨⟨p0, p1, p2⟩, hB⟩ _
    have q0 := p0.cell
    have q1 := p1.cell
    have q2 := p2.cell
    have q3 := p1.frozen
    have q4 := p2.frozen
    have hsa := @Oper.semAt_some
    by_cases hp : pre = []
    · subst hp
      simp only [show bany [] = false from rfl, show bmin [] = 0 from rfl] at *
      gi_wp2
      refine ⟨fun _ h => (by cases h), ?_⟩
      gi_wp2
      exact set2 hB p0 p1 p2
    · have hb1 : bany pre = true := by cases pre <;> first | rfl | exact absurd rfl hp
      have hm := bmin_snoc pre x hp
      rw [hb1] at q2
      by_cases hx : x < bmin pre
      · gi_wp2_with (refine ⟨trivial, ?_⟩; gi_at_call 131; refine (CallsIn.inRound l (callsIn_wide.2 (less_w _ _ _))).mono ?_; rintro e w' ⟨rfl, rfl⟩)
        have e1 : bmin (pre ++ [x]) = x := by rw [hm]; omega
        have e2 : bany (pre ++ [x]) = true := by simp [bany]
        have := set2 (z := x) (B := w.heap.size) (N := ((((w.alloc (.cells #[.func (.func 131) #[] #[]] 168)).alloc (.cells #[.int .i64 0] 3)).alloc (.cells #[.bool false] 4))).heap.size) hB p0 p1 p2
        show _ ∧ _ ∧ _ ∧ _
        rw [e1, e2]
        exact ⟨this.1, this.2.1, this.2.2.1, this.2.2.2⟩
      · gi_wp2_with (refine ⟨trivial, ?_⟩; gi_at_call 131; refine (CallsIn.inRound l (callsIn_wide.2 (less_w _ _ _))).mono ?_; rintro e w' ⟨rfl, rfl⟩)
        have e1 : bmin (pre ++ [x]) = bmin pre := by rw [hm]; omega
        have e2 : bany (pre ++ [x]) = true := by simp [bany]
        exact ⟨KeepsFrom.refl _ _, Below.refl _ _, ⟨p0, by rw [e1]; exact p1, by rw [e2, ← hb1]; exact p2⟩, hB⟩
  case done =>
    rintro D ys W hD rfl ⟨⟨p0, p1, p2⟩, hB⟩ hK
    have q1 := p1.cell
    have q2 := p2.cell
    have q3 := p1.frozen
    have q4 := p2.frozen
    gi_wp2
    gi_region
    all_goals (try gi_wp2)
    have hK' := (((KeepsOthers.setCell W ⟨w.heap.size + 1, 0, none⟩ (.int .i64 (bmin (upto z len)))).trans (KeepsOthers.setCell _ ⟨w.heap.size + 1 + 1, 0, none⟩ (.bool (bany (upto z len))))).trans (KeepsOthers.drew _)).same D _ hK rfl
    refine ⟨by simp, .inl ⟨_, _, rfl, run_takeDeferred hK', ?_⟩⟩
    have r1 := ((p1.set (.int .i64 (bmin (upto z len)))).other (B' := w.heap.size + 1 + 1) (by omega) (.bool (bany (upto z len))))
    have r2 := ((p2.other (B' := w.heap.size + 1) (by omega) (.int .i64 (bmin (upto z len)))).set (.bool (bany (upto z len))))
    have c5 := cell_kept (W := (((W.setCell ⟨w.heap.size + 1, 0, none⟩ (.int .i64 (bmin (upto z len)))).setCell ⟨w.heap.size + 1 + 1, 0, none⟩ (.bool (bany (upto z len)))).drew)) r1.cell (grownBy_putObj' _ D (.deferred none)) (fun r e => by cases e; exact ⟨_, hK', rfl⟩)
    have c6 := cell_kept (W := (((W.setCell ⟨w.heap.size + 1, 0, none⟩ (.int .i64 (bmin (upto z len)))).setCell ⟨w.heap.size + 1 + 1, 0, none⟩ (.bool (bany (upto z len)))).drew)) r2.cell (grownBy_putObj' _ D (.deferred none)) (fun r e => by cases e; exact ⟨_, hK', rfl⟩)
    have hbt : bany (upto z len) = true := by
      have := upto_length z len
      cases h : upto z len with
      | nil => rw [h] at this; simp at this; omega
      | cons _ _ => rfl
    rw [hbt] at c6 c5
    have hBB := (((hB.setCell (p := ⟨w.heap.size + 1, 0, none⟩) (by simp) (.int .i64 (bmin (upto z len)))).setCell (p := ⟨w.heap.size + 1 + 1, 0, none⟩) (by simp; omega) (.bool (bany (upto z len)))).drew).trans (belowK_b (w := w) (Nat.le_refl _) _ D _ (.deferred none) (by simp at hD; omega) hK' rfl rfl)
    rw [hbt] at hBB ⊢
    refine ⟨_, ?_, rfl, hBB⟩
    simp [results, Tryz.results129, go_sem, c5, c6]
  case stop =>
    rintro D c pre W _ _ h _
    exact h.elim

theorem bmin_le : ∀ (l : List Int) (a : Int), (∀ x ∈ l, l.foldl min a ≤ x) ∧ l.foldl min a ≤ a := by
  intro l
  induction l with
  | nil => intro a; exact ⟨fun x h => (by cases h), Int.le_refl _⟩
  | cons y l ih =>
    intro a
    have h := ih (min a y)
    refine ⟨fun x hx => ?_, Int.le_trans h.2 (Int.min_le_left _ _)⟩
    rcases List.mem_cons.1 hx with rfl | hx
    · exact Int.le_trans h.2 (Int.min_le_right _ _)
    · exact h.1 x hx

set_option maxHeartbeats 1000000 in
/-- least(numbers ...): at a list of one number or more -/
theorem leastN_w (b off len cap : Nat) (z : Nat → Int) (hreach : len ≤ 1000000) (hlen : 1 ≤ len) (w : World) (hb : b < w.heap.size) (hc : ∀ j, j < len → w.cell? ⟨b, off + j, none⟩ = some (.int .i64 (z j))) :
    Calls Tryz.prog 101 #[.slice (some ⟨b, off, none⟩) len cap] w fun e W' => e = .returned (.int .i64 (bmin (upto z len))) ∧ Below w.heap.size w W' := by
  have HC := Lib.hid hc
  clear hc
  go_enter Tryz.func101, Tryz.ntmps101
  go_wp2_with (first
    | (go_at_call 130; refine (callsIn_wide.1 (values_in Fence.wide 5 trivial rfl _ _ _ _)).mono ?_; rintro e w1 ⟨rfl, rfl⟩)
    | (go_at_call 129; refine (callsIn_wide.1 (best_w b off len cap w.heap.size z hreach hlen _ (by simp) (by simp) (by simp; omega) (fun j hj => (World.cell?_alloc_lt w _ _ hb).trans (HC.out j hj)))).mono ?_; rintro e w2 ⟨rfl, hb2⟩))
  go_ret
  exact ⟨rfl, below_al hb2⟩
end Go.Kn
