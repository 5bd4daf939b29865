/- Walks of functions of layer 2 (contracts that the laws of this seat use). Conditions: as each theorem states them. -/
import Derived.Test.YtnlbofaiihlniaaGreatDoorGW
import Derived.RangeFuncBox
import Derived.RangeFuncLeaves
import Derived.Shelf.Abstract
import Derived.OwnWalkIn
import Derived.TacticsInMore
import Derived.LoopNIn
import Derived.LoopIn
import Derived.Lib.Hide
import Derived.RangeFuncNested
import Derived.Test.YtnlbofaiihlniaaGreatDoorGX
import Derived.OwnWalk
import Derived.Deep.QuietTactic
import Derived.BigQuiet
import Derived.WalkSmall
import Derived.Deep.RegionHeld3
import Derived.Deep.AppendLies
set_option linter.unusedVariables false
set_option linter.unusedSimpArgs false
namespace Go.Kn
open Go Go.Proofs Go.RowKit Go.Shelf

/-- what has come when k rounds are over -/
def upto {α : Type} (f : Nat → α) (k : Nat) : List α := (List.range k).map f
theorem upto_succ {α : Type} (f : Nat → α) (k : Nat) : upto f (k + 1) = upto f k ++ [f k] := by simp [upto, List.range_succ]
theorem upto_length {α : Type} (f : Nat → α) (k : Nat) : (upto f k).length = k := by simp [upto]

set_option maxRecDepth 100000 in
set_option maxHeartbeats 2000000 in
theorem values1_in (F : Fence) (n : Nat) (h7 : F.fn 134) (hro : F.round = none) (hn : 1 ≤ n) (l Bs n0 b off len cap : Nat) (z : Nat → Int) (hreach : len ≤ 1000000) (hb : b < n0) (J Jx : List Int → World → Prop)
    (hY : ∀ pre x W, J pre W → pre.length < len → YieldAt F (n - 1) Tryz.prog l #[.int .i64 x] W fun e W' =>
      (e = .returned (.bool true) ∧ J (pre ++ [x]) W' ∧ Below n0 W W') ∨ (e = .returned (.bool false) ∧ Jx (pre ++ [x]) W'))
    (W : World) (hBs : W.cell? ⟨Bs, 0, none⟩ = some (.slice (some ⟨b, off, none⟩) len cap)) (hc : ∀ j, j < len → W.cell? ⟨b, off + j, none⟩ = some (.int .i64 (z j))) (h0 : J [] W) :
    CallsIn F n Tryz.prog 134 #[.func (.yield l) #[] #[], .pointer (some ⟨Bs, 0, none⟩)] W fun e W' => (∃ v, e = .returned v) ∧
      ((∃ ys, ys = upto z len ∧ J ys W') ∨ (∃ pre, (∃ k, k ≤ len ∧ pre = upto z k) ∧ Jx pre W')) := by
  refine callsIn_of_wp Tryz.func134 rfl h7 ?_ hro
  simp only [Tryz.ntmps134, List.size_toArray, List.length_cons, List.length_nil, Nat.reduceAdd, Nat.reduceSub, Array.replicate_succ, Array.replicate_zero, List.push_toArray, List.append_toArray, List.nil_append, List.cons_append]
  gi_wp2
  gi_loopw [7] (fun i wr => ∃ k : Nat, k ≤ len ∧ i = .int .i64 k ∧ J (upto z k) wr ∧ Below n0 W wr)
    (fun i _ => len - (intOf i).toNat)
  case atStart => exact ⟨0, Nat.zero_le _, rfl, h0, Below.refl _ _⟩
  case round =>
    obtain ⟨k, hk, rfl, hJs, hnx⟩ := hrel
    have hcx : k < len → wr.cell? ⟨b, off + k, none⟩ = some (.int .i64 (z k)) := fun h => (hnx.cell (p := ⟨b, off + k, none⟩) hb).trans (hc k h)
    by_cases hlt : k < len
    · obtain ⟨fn, tmps, assign, body, hy, hR⟩ := hY _ (z k) wr hJs (by rw [upto_length]; exact hlt)
      have hcx' := hcx hlt
      gi_wp2
      refine hR.mono ?_
      rintro e W3 (⟨rfl, hJ3, hk3⟩ | ⟨rfl, hJx3⟩)
      · gi_wp2
        go_roundw
        case rel => exact ⟨k + 1, by omega, by simp, by rw [upto_succ]; exact hJ3, hnx.trans hk3⟩
        case measure => simp [intOf]; omega
      · gi_wp2
        refine bodyPost_ret (results_none rfl _ _ _) rfl ?_
        exact ⟨⟨_, rfl⟩, .inr ⟨_, ⟨k + 1, by omega, (upto_succ _ _).symm⟩, hJx3⟩⟩
    · obtain rfl : k = len := by omega
      gi_wp2
      go_end0
      exact ⟨⟨_, rfl⟩, .inl ⟨_, rfl, hJs⟩⟩

set_option maxHeartbeats 1000000 in
theorem values_in (F : Fence) (n : Nat) (h5 : F.fn 114) (hro : F.round = none) (a : Option Addr) (len cap : Nat) (w : World) :
    CallsIn F n Tryz.prog 114 #[.slice a len cap] w fun e w' => e = .returned (.func (.func 134) #[] #[.pointer (some ⟨w.heap.size, 0, none⟩)]) ∧ w' = w.alloc (.cells #[.slice a len cap] 22) := by
  refine callsIn_of_wp Tryz.func114 rfl h5 ?_ hro
  simp only [Tryz.ntmps114, List.size_toArray, List.length_cons, List.length_nil, Nat.reduceAdd, Nat.reduceSub, Array.replicate_succ, Array.replicate_zero, List.push_toArray, List.append_toArray, List.nil_append, List.cons_append]
  gi_wp2
  go_ret
  exact ⟨rfl, rfl⟩

theorem values_stops (F : Fence) (n : Nat) (h7 : F.fn 134) (hro : F.round = none) (hn : 1 ≤ n) (Bs n0 b off len cap : Nat) (z : Nat → Int) (hreach : len ≤ 1000000) (w : World) (hBs : Bs < w.heap.size) (hn0 : n0 ≤ w.heap.size)
    (hcB : w.cell? ⟨Bs, 0, none⟩ = some (.slice (some ⟨b, off, none⟩) len cap)) (hb : b < n0) (hc : ∀ j, j < len → w.cell? ⟨b, off + j, none⟩ = some (.int .i64 (z j))) :
    SeqStopsK F n Tryz.prog 134 #[.pointer (some ⟨Bs, 0, none⟩)] (fun x : Int => #[Value.int .i64 x]) (Below n0) (fun ys => ys = upto z len) (fun pre => ∃ k, k ≤ len ∧ pre = upto z k) len w := fun l J Jx W hW _ _ hY h0 => by
  have hc' := (hW.cell (p := ⟨Bs, 0, none⟩) hBs).trans hcB
  exact values1_in F n h7 hro hn l Bs n0 b off len cap z hreach hb J Jx hY W hc' (fun j hj => ((hW.mono hn0).cell (p := ⟨b, off + j, none⟩) hb).trans (hc j hj)) h0

theorem less_w (a b : Int) (w : World) :
    Calls Tryz.prog 115 #[.int .i64 a, .int .i64 b] w fun e w' => e = .returned (.bool (decide (a < b))) ∧ w = w' := by
  go_enter Tryz.func115, Tryz.ntmps115
  go_wp2
  go_ret
  exact ⟨rfl, rfl⟩
end Go.Kn

namespace Go.Kn
open Go Go.Proofs Go.RowKit Go.Shelf

/-- the least of what has come: 0 if nothing has -/
def bmin : List Int → Int
  | [] => 0
  | x :: l => l.foldl min x
theorem bmin_snoc (pre : List Int) (x : Int) (h : pre ≠ []) : bmin (pre ++ [x]) = min (bmin pre) x := by
  cases pre with
  | nil => exact absurd rfl h
  | cons a l => simp [bmin]
def bany (pre : List Int) : Bool := !pre.isEmpty

theorem set2 {w0 W : World} {B N : Nat} {z y : Int} {c : Bool} (hB : Below B w0 W) (p0 : Boxed W B 172 (.func (.func 115) #[] #[])) (p1 : Boxed W (B + 1) 3 (.int .i64 y)) (p2 : Boxed W (B + 1 + 1) 4 (.bool c)) :
    KeepsFrom N W ((W.setCell ⟨B + 1, 0, none⟩ (.int .i64 z)).setCell ⟨B + 1 + 1, 0, none⟩ (.bool true)) ∧ Below B W ((W.setCell ⟨B + 1, 0, none⟩ (.int .i64 z)).setCell ⟨B + 1 + 1, 0, none⟩ (.bool true)) ∧
    (Boxed ((W.setCell ⟨B + 1, 0, none⟩ (.int .i64 z)).setCell ⟨B + 1 + 1, 0, none⟩ (.bool true)) B 172 (.func (.func 115) #[] #[]) ∧ Boxed ((W.setCell ⟨B + 1, 0, none⟩ (.int .i64 z)).setCell ⟨B + 1 + 1, 0, none⟩ (.bool true)) (B + 1) 3 (.int .i64 z) ∧
      Boxed ((W.setCell ⟨B + 1, 0, none⟩ (.int .i64 z)).setCell ⟨B + 1 + 1, 0, none⟩ (.bool true)) (B + 1 + 1) 4 (.bool true)) ∧
    Below B w0 ((W.setCell ⟨B + 1, 0, none⟩ (.int .i64 z)).setCell ⟨B + 1 + 1, 0, none⟩ (.bool true)) :=
  ⟨((KeepsOthers.setCell _ _ _).trans (KeepsOthers.setCell _ _ _)).from _, ((Below.refl B W).setCell (p := ⟨B + 1, 0, none⟩) (by simp) _).setCell (p := ⟨B + 1 + 1, 0, none⟩) (by simp; omega) _,
    ⟨(p0.other (by omega) _).other (by omega) _, (p1.set _).other (by omega) _, (p2.other (by omega) _).set _⟩, (hB.setCell (p := ⟨B + 1, 0, none⟩) (by simp) _).setCell (p := ⟨B + 1 + 1, 0, none⟩) (by simp; omega) _⟩

set_option maxRecDepth 100000 in
set_option maxHeartbeats 4000000 in
theorem best_w (b off len cap Bs : Nat) (z : Nat → Int) (hreach : len ≤ 1000000) (hlen : 1 ≤ len) (w : World) (hBs : Bs < w.heap.size)
    (hcB : w.cell? ⟨Bs, 0, none⟩ = some (.slice (some ⟨b, off, none⟩) len cap)) (hb : b < w.heap.size) (hc : ∀ j, j < len → w.cell? ⟨b, off + j, none⟩ = some (.int .i64 (z j))) :
    CallsIn Fence.wide 6 Tryz.prog 113 #[.func (.func 134) #[] #[.pointer (some ⟨Bs, 0, none⟩)], .func (.func 115) #[] #[]] w fun e W' => e = .returned (.tuple #[.int .i64 (bmin (upto z len)), .bool true]) ∧ Below w.heap.size w W' := by
  have HC := Lib.hid hc
  clear hc
  refine callsIn_of_wp_marks Tryz.func113 rfl trivial ?_ rfl
  simp only [Tryz.ntmps113, List.size_toArray, List.length_cons, List.length_nil, Nat.reduceAdd, Nat.reduceSub, Array.replicate_succ, Array.replicate_zero, List.push_toArray, List.append_toArray, List.nil_append, List.cons_append]
  gi_wp2
  have b0 := Boxed.new w 172 (.func (.func 115) #[] #[])
  have b1 := Boxed.new (w.alloc (.cells #[.func (.func 115) #[] #[]] 172)) 3 (.int .i64 0)
  have b2 := Boxed.new ((w.alloc (.cells #[.func (.func 115) #[] #[]] 172)).alloc (.cells #[.int .i64 0] 3)) 4 (.bool false)
  simp only [World.size_alloc] at b1 b2
  have c0 := (b0.alloc (.cells #[.int .i64 0] 3)).alloc (.cells #[.bool false] 4)
  have c1 := b1.alloc (.cells #[.bool false] 4)
  have hB0 : Below w.heap.size w (((w.alloc (.cells #[.func (.func 115) #[] #[]] 172)).alloc (.cells #[.int .i64 0] 3)).alloc (.cells #[.bool false] 4)) := (((Below.refl _ w).alloc (Nat.le_refl _) _).alloc (by simp) _).alloc (by simp; omega) _
  refine wpIn_rangeFunc_ownG rfl (by decide) (gf := 134) (lb := #[.pointer (some ⟨Bs, 0, none⟩)]) rfl trivial (enters_of Tryz.func134 (by kernel_rfl) rfl)
    (values_stops Fence.wide 5 trivial rfl (by decide) Bs w.heap.size b off len cap z hreach _ (by simp; omega) (by simp; omega) ((hB0.cell (p := ⟨Bs, 0, none⟩) hBs).trans hcB) hb (fun j hj => (hB0.cell (p := ⟨b, off + j, none⟩) hb).trans (HC.out j hj))) belowK_t (belowK_b (by simp; omega)) (Below.refl _ _) (fun _ => rfl)
    (fun pre W => (Boxed W w.heap.size 172 (.func (.func 115) #[] #[]) ∧ Boxed W (w.heap.size + 1) 3 (.int .i64 (bmin pre)) ∧ Boxed W (w.heap.size + 1 + 1) 4 (.bool (bany pre))) ∧ Below w.heap.size w W)
    (fun _ _ _ => False)
    (OwnFrom.and (OwnFrom.and (Own.from (boxed_own _ _ _) _) (OwnFrom.and (Own.from (boxed_own _ _ _) _) (Own.from (boxed_own _ _ _) _))) (ownFrom_below (Nat.le_refl _) (by simp; omega)))
    (fun _ _ _ _ _ hs _ _ => hs)
    ⟨⟨c0, c1, b2⟩, hB0⟩
    (fun x => { tmps := #[Value.func (Fn.func 134) #[] #[Value.pointer (some { block := Bs, off := 0 })],
          Value.func (Fn.func 115) #[] #[], undef, Value.pointer (some { block := w.heap.size, off := 0 }),
          Value.pointer (some { block := w.heap.size + 1, off := 0 }),
          Value.pointer (some { block := w.heap.size + 1 + 1, off := 0 }), .int .i64 x,
          Value.func (Fn.func 134) #[] #[Value.pointer (some { block := Bs, off := 0 })], .int .i64 x, undef, undef, undef,
          undef, undef, undef, undef, undef, undef, undef, undef], defers := [] }) ?assign ?body ?done ?stop
  case assign =>
    intro l x W K hK
    have hsa := @Oper.semAt_some
    gi_wp2
    exact hK
  case body =>
    rintro l pre x W ⟨⟨p0, p1, p2⟩, hB⟩ _
    have q0 := p0.cell
    have q1 := p1.cell
    have q2 := p2.cell
    have q3 := p1.frozen
    have q4 := p2.frozen
    have hsa := @Oper.semAt_some
    by_cases hp : pre = []
    · subst hp
      simp only [show bany [] = false from rfl, show bmin [] = 0 from rfl] at *
      gi_wp2
      refine ⟨fun _ h => (by cases h), ?_⟩
      gi_wp2
      exact set2 hB p0 p1 p2
    · have hb1 : bany pre = true := by cases pre <;> first | rfl | exact absurd rfl hp
      have hm := bmin_snoc pre x hp
      rw [hb1] at q2
      by_cases hx : x < bmin pre
      · gi_wp2_with (refine ⟨trivial, ?_⟩; gi_at_call 115; refine (CallsIn.inRound l (callsIn_wide.2 (less_w _ _ _))).mono ?_; rintro e w' ⟨rfl, rfl⟩)
        have e1 : bmin (pre ++ [x]) = x := by rw [hm]; omega
        have e2 : bany (pre ++ [x]) = true := by simp [bany]
        have := set2 (z := x) (B := w.heap.size) (N := ((((w.alloc (.cells #[.func (.func 115) #[] #[]] 172)).alloc (.cells #[.int .i64 0] 3)).alloc (.cells #[.bool false] 4))).heap.size) hB p0 p1 p2
        show _ ∧ _ ∧ _ ∧ _
        rw [e1, e2]
        exact ⟨this.1, this.2.1, this.2.2.1, this.2.2.2⟩
      · gi_wp2_with (refine ⟨trivial, ?_⟩; gi_at_call 115; refine (CallsIn.inRound l (callsIn_wide.2 (less_w _ _ _))).mono ?_; rintro e w' ⟨rfl, rfl⟩)
        have e1 : bmin (pre ++ [x]) = bmin pre := by rw [hm]; omega
        have e2 : bany (pre ++ [x]) = true := by simp [bany]
        exact ⟨KeepsFrom.refl _ _, Below.refl _ _, ⟨p0, by rw [e1]; exact p1, by rw [e2, ← hb1]; exact p2⟩, hB⟩
  case done =>
    rintro D ys W hD rfl ⟨⟨p0, p1, p2⟩, hB⟩ hK
    have q1 := p1.cell
    have q2 := p2.cell
    have q3 := p1.frozen
    have q4 := p2.frozen
    gi_wp2
    gi_region
    all_goals (try gi_wp2)
    have hK' := (((KeepsOthers.setCell W ⟨w.heap.size + 1, 0, none⟩ (.int .i64 (bmin (upto z len)))).trans (KeepsOthers.setCell _ ⟨w.heap.size + 1 + 1, 0, none⟩ (.bool (bany (upto z len))))).trans (KeepsOthers.drew _)).same D _ hK rfl
    refine ⟨by simp, .inl ⟨_, _, rfl, run_takeDeferred hK', ?_⟩⟩
    have r1 := ((p1.set (.int .i64 (bmin (upto z len)))).other (B' := w.heap.size + 1 + 1) (by omega) (.bool (bany (upto z len))))
    have r2 := ((p2.other (B' := w.heap.size + 1) (by omega) (.int .i64 (bmin (upto z len)))).set (.bool (bany (upto z len))))
    have c5 := cell_kept (W := (((W.setCell ⟨w.heap.size + 1, 0, none⟩ (.int .i64 (bmin (upto z len)))).setCell ⟨w.heap.size + 1 + 1, 0, none⟩ (.bool (bany (upto z len)))).drew)) r1.cell (grownBy_putObj' _ D (.deferred none)) (fun r e => by cases e; exact ⟨_, hK', rfl⟩)
    have c6 := cell_kept (W := (((W.setCell ⟨w.heap.size + 1, 0, none⟩ (.int .i64 (bmin (upto z len)))).setCell ⟨w.heap.size + 1 + 1, 0, none⟩ (.bool (bany (upto z len)))).drew)) r2.cell (grownBy_putObj' _ D (.deferred none)) (fun r e => by cases e; exact ⟨_, hK', rfl⟩)
    have hbt : bany (upto z len) = true := by
      have := upto_length z len
      cases h : upto z len with
      | nil => rw [h] at this; simp at this; omega
      | cons _ _ => rfl
    rw [hbt] at c6 c5
    have hBB := (((hB.setCell (p := ⟨w.heap.size + 1, 0, none⟩) (by simp) (.int .i64 (bmin (upto z len)))).setCell (p := ⟨w.heap.size + 1 + 1, 0, none⟩) (by simp; omega) (.bool (bany (upto z len)))).drew).trans (belowK_b (w := w) (Nat.le_refl _) _ D _ (.deferred none) (by simp at hD; omega) hK' rfl rfl)
    rw [hbt] at hBB ⊢
    refine ⟨_, ?_, rfl, hBB⟩
    simp [results, Tryz.results113, go_sem, c5, c6]
  case stop =>
    rintro D c pre W _ _ h _
    exact h.elim

theorem bmin_le : ∀ (l : List Int) (a : Int), (∀ x ∈ l, l.foldl min a ≤ x) ∧ l.foldl min a ≤ a := by
  intro l
  induction l with
  | nil => intro a; exact ⟨fun x h => (by cases h), Int.le_refl _⟩
  | cons y l ih =>
    intro a
    have h := ih (min a y)
    refine ⟨fun x hx => ?_, Int.le_trans h.2 (Int.min_le_left _ _)⟩
    rcases List.mem_cons.1 hx with rfl | hx
    · exact Int.le_trans h.2 (Int.min_le_right _ _)
    · exact h.1 x hx

set_option maxHeartbeats 1000000 in
/-- least(numbers ...): at a list of one number or more -/
theorem leastN_w (b off len cap : Nat) (z : Nat → Int) (hreach : len ≤ 1000000) (hlen : 1 ≤ len) (w : World) (hb : b < w.heap.size) (hc : ∀ j, j < len → w.cell? ⟨b, off + j, none⟩ = some (.int .i64 (z j))) :
    Calls Tryz.prog 84 #[.slice (some ⟨b, off, none⟩) len cap] w fun e W' => e = .returned (.int .i64 (bmin (upto z len))) ∧ Below w.heap.size w W' := by
  have HC := Lib.hid hc
  clear hc
  go_enter Tryz.func84, Tryz.ntmps84
  go_wp2_with (first
    | (go_at_call 114; refine (callsIn_wide.1 (values_in Fence.wide 5 trivial rfl _ _ _ _)).mono ?_; rintro e w1 ⟨rfl, rfl⟩)
    | (go_at_call 113; refine (callsIn_wide.1 (best_w b off len cap w.heap.size z hreach hlen _ (by simp) (by simp) (by simp; omega) (fun j hj => (World.cell?_alloc_lt w _ _ hb).trans (HC.out j hj)))).mono ?_; rintro e w2 ⟨rfl, hb2⟩))
  go_ret
  exact ⟨rfl, below_al hb2⟩
end Go.Kn

namespace Go.Kn
open Go Go.Proofs Go.RowKit

theorem cell_newL (w : World) (v : Value) (t : TypeId) : (w.alloc (.cells #[v] t)).cell? ⟨w.heap.size, 0, none⟩ = some v := by simp

set_option maxHeartbeats 400000 in
theorem isLength_w (c : Int) (w : World) :
    Calls Tryz.prog 92 #[.int .i64 c] w fun e w' => e = .returned (.bool (fromB 1 100 c)) ∧ w = w' := by
  go_enter Tryz.func92, Tryz.ntmps92
  go_wp2_with (go_at_call 54; refine (isFrom_w _ _ _ _).mono ?_; rintro e w' ⟨rfl, rfl⟩)
  go_ret
  exact ⟨rfl, rfl⟩

set_option maxHeartbeats 400000 in
theorem notLength_w (B : Nat) (x : Int) (w : World) (hB : w.cell? ⟨B, 0, none⟩ = some (.func (.func 92) #[] #[])) :
    Calls Tryz.prog 102 #[.int .i64 x, .pointer (some ⟨B, 0, none⟩)] w fun e w' => e = .returned (.bool (!fromB 1 100 x)) ∧ w = w' := by
  go_enter Tryz.func102, Tryz.ntmps102
  go_wp2_with (go_at_call 92; refine (isLength_w _ _).mono ?_; rintro e w1 ⟨rfl, rfl⟩)
  go_ret
  exact ⟨rfl, rfl⟩

set_option maxRecDepth 100000 in
set_option maxHeartbeats 1000000 in
theorem idxLength_w (A O ls cs B : Nat) (s : Nat → Int) (w : World) (hls : ls ≤ maxLen) (hB : w.cell? ⟨B, 0, none⟩ = some (.func (.func 92) #[] #[]))
    (hA : ∀ i, i < ls → w.cell? ⟨A, O + i, none⟩ = some (.int .i64 (s i))) :
    Calls Tryz.prog 123 #[.slice (some ⟨A, O, none⟩) ls cs, .func (.func 102) #[] #[.pointer (some ⟨B, 0, none⟩)]] w
      fun e w' => (∃ i : Int, e = .returned (.int .i64 i) ∧ ((i < 0 ∧ ∀ k, k < ls → fromB 1 100 (s k) = true) ∨ (0 ≤ i ∧ ∃ k, k < ls ∧ fromB 1 100 (s k) = false))) ∧ w = w' := by
  unfold maxLen at hls
  go_enter Tryz.func123, Tryz.ntmps123
  go_wp2
  go_loop [8] (fun i => ∃ k : Nat, k ≤ ls ∧ i = .int .i64 k ∧ ∀ j, j < k → fromB 1 100 (s j) = true) (fun i => ls - (intOf i).toNat)
  case atStart => exact ⟨0, Nat.zero_le _, rfl, fun j hj => absurd hj (by omega)⟩
  case round =>
    obtain ⟨k, hk, rfl, hall⟩ := hrel
    have HA := Lib.hid hall
    clear hall
    by_cases hlt : k < ls
    · have hcell := hA k hlt
      clear hA
      cases hv : fromB 1 100 (s k)
      · go_wp2_with (go_at_call 102; refine (notLength_w _ _ _ hB).mono ?_; rintro e w1 ⟨rfl, rfl⟩)
        go_ret
        exact ⟨⟨_, rfl, .inr ⟨by omega, k, hlt, hv⟩⟩, rfl⟩
      · go_wp2_with (go_at_call 102; refine (notLength_w _ _ _ hB).mono ?_; rintro e w1 ⟨rfl, rfl⟩)
        go_round
        case rel => exact ⟨k + 1, by omega, by go_num, fun j hj => by
          rcases Nat.lt_succ_iff_lt_or_eq.1 hj with h | h
          · exact HA.out j h
          · rw [h]; exact hv⟩
        case measure => simp [intOf]; omega
    · clear hA
      go_wp2
      go_ret
      exact ⟨⟨_, rfl, .inl ⟨by omega, fun j hj => HA.out j (by omega)⟩⟩, rfl⟩

set_option maxRecDepth 100000 in
set_option maxHeartbeats 1000000 in
theorem contLength_w (A O ls cs B : Nat) (s : Nat → Int) (w : World) (hls : ls ≤ maxLen) (hB : w.cell? ⟨B, 0, none⟩ = some (.func (.func 92) #[] #[]))
    (hA : ∀ i, i < ls → w.cell? ⟨A, O + i, none⟩ = some (.int .i64 (s i))) :
    Calls Tryz.prog 101 #[.slice (some ⟨A, O, none⟩) ls cs, .func (.func 102) #[] #[.pointer (some ⟨B, 0, none⟩)]] w
      fun e w' => (∃ cb : Bool, e = .returned (.bool cb) ∧ (cb = false ↔ ∀ k, k < ls → fromB 1 100 (s k) = true)) ∧ w = w' := by
  have HA := Lib.hid hA
  clear hA
  go_enter Tryz.func101, Tryz.ntmps101
  go_wp2_with (go_at_call 123; refine (idxLength_w _ _ _ _ _ s _ hls hB HA.out).mono ?_; rintro e w1 ⟨⟨i, rfl, hi⟩, rfl⟩; have HI := Lib.hid hi; clear hi)
  go_ret
  refine ⟨⟨decide (0 ≤ i), rfl, ?_⟩, rfl⟩
  rcases HI.out with ⟨h1, h2⟩ | ⟨h1, k, h2, h3⟩
  · exact ⟨fun _ => h2, fun _ => decide_eq_false (by omega)⟩
  · exact ⟨fun h => by have := of_decide_eq_false h; omega, fun h => by rw [h k h2] at h3; cases h3⟩

set_option maxRecDepth 100000 in
set_option maxHeartbeats 1000000 in
theorem allLength_w (A O ls cs : Nat) (s : Nat → Int) (w : World) (hls : ls ≤ maxLen) (hAw : A < w.heap.size)
    (hA : ∀ i, i < ls → w.cell? ⟨A, O + i, none⟩ = some (.int .i64 (s i))) :
    Calls Tryz.prog 67 #[.slice (some ⟨A, O, none⟩) ls cs, .func (.func 92) #[] #[]] w
      fun e w' => (∃ rb : Bool, e = .returned (.bool rb) ∧ (rb = true ↔ ∀ k, k < ls → fromB 1 100 (s k) = true)) ∧ Below w.heap.size w w' := by
  have HA : Hid (∀ (o : Obj) (i : Nat), i < ls → (w.alloc o).cell? ⟨A, O + i, none⟩ = some (.int .i64 (s i))) := Lib.hid (fun o i hi => (World.cell?_alloc_lt w o _ hAw).trans (hA i hi))
  clear hA
  go_enter Tryz.func67, Tryz.ntmps67
  go_wp2_with (go_at_call 101; refine (contLength_w _ _ _ _ _ s _ hls (cell_newL _ _ _) (HA.out _)).mono ?_; rintro e w1 ⟨⟨cb, rfl, hcb⟩, rfl⟩; have HC := Lib.hid hcb; clear hcb)
  go_ret
  refine ⟨⟨!cb, rfl, ?_⟩, (Below.refl _ _).alloc (Nat.le_refl _) _⟩
  rw [← HC.out]; cases cb <;> simp
end Go.Kn

namespace Go.Kn
open Go Go.Proofs Go.RowKit

structure Sp2 where
  lo : Int
  hi : Int

/-- spans in memory -/
def SpAt (w : World) (C P lp : Nat) (p : Nat → Sp2) : Prop := ∀ i, i < lp → w.cell? ⟨C, P + i * 2, none⟩ = some (.int .i64 (p i).lo) ∧ w.cell? ⟨C, P + i * 2 + 1, none⟩ = some (.int .i64 (p i).hi)

theorem SpAt.below {w w1 : World} {C P lp : Nat} {p : Nat → Sp2} (h : SpAt w C P lp p) (hC : C < w.heap.size) (hb : Below w.heap.size w w1) : SpAt w1 C P lp p := by
  intro i hi
  obtain ⟨h0, h1⟩ := h i hi
  have e : ∀ o, w1.cell? ⟨C, o, none⟩ = w.cell? ⟨C, o, none⟩ := fun o => hb.cell (p := ⟨C, o, none⟩) hC
  exact ⟨(e _).trans h0, (e _).trans h1⟩

def SpOk (lp : Nat) (p : Nat → Sp2) : Prop := ∀ i, i < lp → spanB 1000 (p i).lo (p i).hi = true

set_option maxHeartbeats 400000 in
theorem isHeight_w (lo hi : Int) (w : World) :
    Calls Tryz.prog 90 #[.agg #[.int .i64 lo, .int .i64 hi]] w fun e w' => e = .returned (.bool (spanB 1000 lo hi)) ∧ Below w.heap.size w w' := by
  go_enter Tryz.func90, Tryz.ntmps90
  go_wp2_with (go_at_call 88; refine (isSpan_w _ _ _ _).mono ?_; rintro e w' ⟨rfl, hb⟩)
  go_ret
  exact ⟨rfl, below_al hb⟩

set_option maxHeartbeats 1000000 in
theorem notHeight_w (B : Nat) (lo hi : Int) (w : World) (hBw : B < w.heap.size) (hB : w.cell? ⟨B, 0, none⟩ = some (.func (.func 90) #[] #[])) :
    Calls Tryz.prog 120 #[.agg #[.int .i64 lo, .int .i64 hi], .pointer (some ⟨B, 0, none⟩)] w fun e w' => e = .returned (.bool (!spanB 1000 lo hi)) ∧ Below w.heap.size w w' := by
  have hal2 : ∀ (o : Obj) (k : Nat), (w.alloc o).cell? ⟨B, k, none⟩ = w.cell? ⟨B, k, none⟩ := fun o k => World.cell?_alloc_lt w o _ hBw
  go_enter Tryz.func120, Tryz.ntmps120
  go_wp2_with (go_at_call 90; refine (isHeight_w _ _ _).mono ?_; rintro e w' ⟨rfl, hbl⟩)
  go_ret
  exact ⟨rfl, below_al hbl⟩

set_option maxRecDepth 100000 in
set_option maxHeartbeats 2000000 in
theorem idxHeight_w (C P lt ct B : Nat) (p : Nat → Sp2) (w : World) (hlt : lt ≤ 1000000) (hC : C < w.heap.size) (hBw : B < w.heap.size) (hB : w.cell? ⟨B, 0, none⟩ = some (.func (.func 90) #[] #[])) (ht : SpAt w C P lt p) :
    Calls Tryz.prog 137 #[.slice (some ⟨C, P, none⟩) lt ct, .func (.func 120) #[] #[.pointer (some ⟨B, 0, none⟩)]] w
      fun e w' => (∃ i : Int, e = .returned (.int .i64 i) ∧ ((i < 0 ∧ SpOk lt p) ∨ (0 ≤ i ∧ ¬ SpOk lt p))) ∧ Below w.heap.size w w' := by
  have HT := Lib.hid ht
  clear ht
  go_enter Tryz.func137, Tryz.ntmps137
  go_wp2
  go_loopw [8] (fun i wr => ∃ k : Nat, k ≤ lt ∧ i = .int .i64 k ∧ Below w.heap.size w wr ∧ (∀ j, j < k → spanB 1000 (p j).lo (p j).hi = true)) (fun i _ => lt - (intOf i).toNat)
  case atStart => exact ⟨0, Nat.zero_le _, rfl, Below.refl _ _, fun j hj => absurd hj (by omega)⟩
  case round =>
    obtain ⟨k, hk, rfl, hbw, hall⟩ := hrel
    have HALL := Lib.hid hall
    clear hall
    by_cases hlt' : k < lt
    · obtain ⟨c0, c1⟩ := HT.out.below hC hbw k hlt'
      have mB : wr.cell? ⟨B, 0, none⟩ = some (.func (.func 90) #[] #[]) := (hbw.cell (p := ⟨B, 0, none⟩) hBw).trans hB
      have hz : w.heap.size ≤ wr.heap.size := hbw.size
      cases hv : spanB 1000 (p k).lo (p k).hi
      · go_wp2_with (go_at_call 120; refine (notHeight_w _ _ _ _ (by omega) mB).mono ?_; rintro e w1 ⟨rfl, hb1⟩)
        go_ret
        exact ⟨⟨_, rfl, .inr ⟨by omega, fun h => by have h2 := h k hlt'; rw [hv] at h2; cases h2⟩⟩, hbw.trans (hb1.mono hz)⟩
      · go_wp2_with (go_at_call 120; refine (notHeight_w _ _ _ _ (by omega) mB).mono ?_; rintro e w1 ⟨rfl, hb1⟩)
        go_roundw
        case rel => exact ⟨k + 1, by omega, by go_num, hbw.trans (hb1.mono hz), fun j hj => by
          rcases Nat.lt_succ_iff_lt_or_eq.1 hj with h | h
          · exact HALL.out j h
          · rw [h]; exact hv⟩
        case measure => simp [intOf]; omega
    · go_wp2
      go_ret
      exact ⟨⟨_, rfl, .inl ⟨by omega, fun j hj => HALL.out j (by omega)⟩⟩, hbw⟩

set_option maxRecDepth 100000 in
set_option maxHeartbeats 2000000 in
theorem contHeight_w (C P lt ct B : Nat) (p : Nat → Sp2) (w : World) (hlt : lt ≤ 1000000) (hC : C < w.heap.size) (hBw : B < w.heap.size) (hB : w.cell? ⟨B, 0, none⟩ = some (.func (.func 90) #[] #[])) (ht : SpAt w C P lt p) :
    Calls Tryz.prog 119 #[.slice (some ⟨C, P, none⟩) lt ct, .func (.func 120) #[] #[.pointer (some ⟨B, 0, none⟩)]] w
      fun e w' => (∃ cb : Bool, e = .returned (.bool cb) ∧ (cb = false ↔ SpOk lt p)) ∧ Below w.heap.size w w' := by
  have HT := Lib.hid ht
  clear ht
  go_enter Tryz.func119, Tryz.ntmps119
  go_wp2_with (go_at_call 137; refine (idxHeight_w _ _ _ _ _ p _ hlt hC hBw hB HT.out).mono ?_; rintro e w1 ⟨⟨i, rfl, hi⟩, hb1⟩; have HI := Lib.hid hi; clear hi)
  go_ret
  refine ⟨⟨decide (0 ≤ i), rfl, ?_⟩, hb1⟩
  rcases HI.out with ⟨h1, h2⟩ | ⟨h1, h2⟩
  · exact ⟨fun _ => h2, fun _ => decide_eq_false (by omega)⟩
  · exact ⟨fun h => by have := of_decide_eq_false h; omega, fun h => (h2 h).elim⟩

set_option maxRecDepth 100000 in
set_option maxHeartbeats 2000000 in
theorem allHeight_w (C P lt ct : Nat) (p : Nat → Sp2) (w : World) (hlt : lt ≤ 1000000) (hC : C < w.heap.size) (ht : SpAt w C P lt p) :
    Calls Tryz.prog 91 #[.slice (some ⟨C, P, none⟩) lt ct, .func (.func 90) #[] #[]] w
      fun e w' => (∃ rb : Bool, e = .returned (.bool rb) ∧ (rb = true ↔ SpOk lt p)) ∧ Below w.heap.size w w' := by
  have HT : Hid (∀ o : Obj, SpAt (w.alloc o) C P lt p) := Lib.hid fun o => ht.below hC ((Below.refl _ _).alloc (Nat.le_refl _) _)
  clear ht
  go_enter Tryz.func91, Tryz.ntmps91
  go_wp2_with (go_at_call 119; refine (contHeight_w _ _ _ _ _ p _ hlt (by simp; omega) (by simp) (cell_newL _ _ _) (HT.out _)).mono ?_; rintro e w1 ⟨⟨cb, rfl, hcb⟩, hb1⟩; have HC := Lib.hid hcb; clear hcb)
  go_ret
  refine ⟨⟨!cb, rfl, ?_⟩, below_al hb1⟩
  rw [← HC.out]; cases cb <;> simp
end Go.Kn

namespace Go.Kn
open Go Go.Proofs Go.RowKit

set_option maxHeartbeats 400000 in
theorem notAge_w (B : Nat) (x : Int) (w : World) (hB : w.cell? ⟨B, 0, none⟩ = some (.func (.func 35) #[] #[])) :
    Calls Tryz.prog 102 #[.int .i64 x, .pointer (some ⟨B, 0, none⟩)] w fun e w' => e = .returned (.bool (!fromB 0 200 x)) ∧ w = w' := by
  go_enter Tryz.func102, Tryz.ntmps102
  go_wp2_with (go_at_call 35; refine (isAge_w _ _).mono ?_; rintro e w1 ⟨rfl, rfl⟩)
  go_ret
  exact ⟨rfl, rfl⟩

set_option maxRecDepth 100000 in
set_option maxHeartbeats 1000000 in
theorem idxAge_w (A O ls cs B : Nat) (s : Nat → Int) (w : World) (hls : ls ≤ maxLen) (hB : w.cell? ⟨B, 0, none⟩ = some (.func (.func 35) #[] #[]))
    (hA : ∀ i, i < ls → w.cell? ⟨A, O + i, none⟩ = some (.int .i64 (s i))) :
    Calls Tryz.prog 123 #[.slice (some ⟨A, O, none⟩) ls cs, .func (.func 102) #[] #[.pointer (some ⟨B, 0, none⟩)]] w
      fun e w' => (∃ i : Int, e = .returned (.int .i64 i) ∧ ((i < 0 ∧ ∀ k, k < ls → fromB 0 200 (s k) = true) ∨ (0 ≤ i ∧ ∃ k, k < ls ∧ fromB 0 200 (s k) = false))) ∧ w = w' := by
  unfold maxLen at hls
  go_enter Tryz.func123, Tryz.ntmps123
  go_wp2
  go_loop [8] (fun i => ∃ k : Nat, k ≤ ls ∧ i = .int .i64 k ∧ ∀ j, j < k → fromB 0 200 (s j) = true) (fun i => ls - (intOf i).toNat)
  case atStart => exact ⟨0, Nat.zero_le _, rfl, fun j hj => absurd hj (by omega)⟩
  case round =>
    obtain ⟨k, hk, rfl, hall⟩ := hrel
    have HA := Lib.hid hall
    clear hall
    by_cases hlt : k < ls
    · have hcell := hA k hlt
      clear hA
      cases hv : fromB 0 200 (s k)
      · go_wp2_with (go_at_call 102; refine (notAge_w _ _ _ hB).mono ?_; rintro e w1 ⟨rfl, rfl⟩)
        go_ret
        exact ⟨⟨_, rfl, .inr ⟨by omega, k, hlt, hv⟩⟩, rfl⟩
      · go_wp2_with (go_at_call 102; refine (notAge_w _ _ _ hB).mono ?_; rintro e w1 ⟨rfl, rfl⟩)
        go_round
        case rel => exact ⟨k + 1, by omega, by go_num, fun j hj => by
          rcases Nat.lt_succ_iff_lt_or_eq.1 hj with h | h
          · exact HA.out j h
          · rw [h]; exact hv⟩
        case measure => simp [intOf]; omega
    · clear hA
      go_wp2
      go_ret
      exact ⟨⟨_, rfl, .inl ⟨by omega, fun j hj => HA.out j (by omega)⟩⟩, rfl⟩

set_option maxRecDepth 100000 in
set_option maxHeartbeats 1000000 in
theorem contAge_w (A O ls cs B : Nat) (s : Nat → Int) (w : World) (hls : ls ≤ maxLen) (hB : w.cell? ⟨B, 0, none⟩ = some (.func (.func 35) #[] #[]))
    (hA : ∀ i, i < ls → w.cell? ⟨A, O + i, none⟩ = some (.int .i64 (s i))) :
    Calls Tryz.prog 101 #[.slice (some ⟨A, O, none⟩) ls cs, .func (.func 102) #[] #[.pointer (some ⟨B, 0, none⟩)]] w
      fun e w' => (∃ cb : Bool, e = .returned (.bool cb) ∧ (cb = false ↔ ∀ k, k < ls → fromB 0 200 (s k) = true)) ∧ w = w' := by
  have HA := Lib.hid hA
  clear hA
  go_enter Tryz.func101, Tryz.ntmps101
  go_wp2_with (go_at_call 123; refine (idxAge_w _ _ _ _ _ s _ hls hB HA.out).mono ?_; rintro e w1 ⟨⟨i, rfl, hi⟩, rfl⟩; have HI := Lib.hid hi; clear hi)
  go_ret
  refine ⟨⟨decide (0 ≤ i), rfl, ?_⟩, rfl⟩
  rcases HI.out with ⟨h1, h2⟩ | ⟨h1, k, h2, h3⟩
  · exact ⟨fun _ => h2, fun _ => decide_eq_false (by omega)⟩
  · exact ⟨fun h => by have := of_decide_eq_false h; omega, fun h => by rw [h k h2] at h3; cases h3⟩

set_option maxRecDepth 100000 in
set_option maxHeartbeats 1000000 in
theorem allAge_w (A O ls cs : Nat) (s : Nat → Int) (w : World) (hls : ls ≤ maxLen) (hAw : A < w.heap.size)
    (hA : ∀ i, i < ls → w.cell? ⟨A, O + i, none⟩ = some (.int .i64 (s i))) :
    Calls Tryz.prog 67 #[.slice (some ⟨A, O, none⟩) ls cs, .func (.func 35) #[] #[]] w
      fun e w' => (∃ rb : Bool, e = .returned (.bool rb) ∧ (rb = true ↔ ∀ k, k < ls → fromB 0 200 (s k) = true)) ∧ Below w.heap.size w w' := by
  have HA : Hid (∀ (o : Obj) (i : Nat), i < ls → (w.alloc o).cell? ⟨A, O + i, none⟩ = some (.int .i64 (s i))) := Lib.hid (fun o i hi => (World.cell?_alloc_lt w o _ hAw).trans (hA i hi))
  clear hA
  go_enter Tryz.func67, Tryz.ntmps67
  go_wp2_with (go_at_call 101; refine (contAge_w _ _ _ _ _ s _ hls (cell_newL _ _ _) (HA.out _)).mono ?_; rintro e w1 ⟨⟨cb, rfl, hcb⟩, rfl⟩; have HC := Lib.hid hcb; clear hcb)
  go_ret
  refine ⟨⟨!cb, rfl, ?_⟩, (Below.refl _ _).alloc (Nat.le_refl _) _⟩
  rw [← HC.out]; cases cb <;> simp
end Go.Kn

namespace Go.Kn
open Go Go.Proofs Go.RowKit

/-- n spans' cells, which can be written -/
def RowAt (w : World) (G m : Nat) : Prop := G < w.heap.size ∧ ∀ j, j < m → (∃ v, w.cell? ⟨G, j, none⟩ = some v) ∧ w.frozen? ⟨G, j, none⟩ = false

theorem RowAt.below {w w1 : World} {B G m : Nat} (h : RowAt w G m) (hG : G < B) (hb : Below B w w1) : RowAt w1 G m :=
  ⟨Nat.lt_of_lt_of_le h.1 hb.size, fun j hj => by
    obtain ⟨⟨v, hv⟩, hf⟩ := h.2 j hj
    exact ⟨⟨v, (hb.cell (p := ⟨G, j, none⟩) hG).trans hv⟩, (hb.frozen (p := ⟨G, j, none⟩) hG).trans hf⟩⟩

theorem RowAt.set {w : World} {G m : Nat} (h : RowAt w G m) (j : Nat) (u : Value) : RowAt (w.setCell ⟨G, j, none⟩ u) G m := by
  refine ⟨by rw [World.size_setCell]; exact h.1, fun i hi => ?_⟩
  obtain ⟨⟨v, hv⟩, hf⟩ := h.2 i hi
  refine ⟨?_, by rw [World.frozen?_setCell]; exact hf⟩
  by_cases e : i = j
  · subst e; exact ⟨u, World.cell?_setCell_same' _ _ _ (by rw [hv]; rfl)⟩
  · exact ⟨v, (World.cell?_setCell_other _ _ _ _ (by intro he; cases he; exact e rfl)).trans hv⟩

theorem rowAt_of_owns {w : World} {base e size g n cap : Nat} {xs : List Value} (h : w.ownsRow base e size (.slice (some ⟨g, 0, none⟩) n cap) n xs) : RowAt w g (n * size) := by
  rcases h.2 with ⟨h1, _⟩ | ⟨g', cap', cur, h1, hb, hg, hn, hc, hs, hx⟩
  · cases h1
  · cases h1
    refine ⟨(Array.getElem?_eq_some_iff.1 hg).1, fun j hj => ?_⟩
    have hj' : j < cur.size := by rw [hs]; exact Nat.lt_of_lt_of_le hj (Nat.mul_le_mul_right _ hn)
    refine ⟨⟨cur[j], ?_⟩, ?_⟩
    · simp [World.cell?, hg, hj']
    · simp [World.frozen?, hg]

theorem SpAt.snoc {w : World} {G k m : Nat} {p : Nat → Sp2} (h : SpAt w G 0 k p) (hr : RowAt w G m) (hm : k * 2 + 1 < m) :
    SpAt ((w.setCell ⟨G, k * 2, none⟩ (.int .i64 (p k).lo)).setCell ⟨G, k * 2 + 1, none⟩ (.int .i64 (p k).hi)) G 0 (k + 1) p := by
  intro i hi
  have g0 := (hr.2 (k * 2) (by omega)).1
  have g1 := (hr.set (k * 2) (.int .i64 (p k).lo)).2 (k * 2 + 1) (by omega)
  have hne : ∀ a b c : Nat, a ≠ b → (⟨c, a, none⟩ : Addr) ≠ ⟨c, b, none⟩ := fun a b c h e => h (by cases e; rfl)
  by_cases e : i = k
  · subst e
    simp only [Nat.zero_add]
    obtain ⟨v0, hv0⟩ := g0
    obtain ⟨⟨v1, hv1⟩, _⟩ := g1
    exact ⟨(World.cell?_setCell_other _ _ _ _ (hne _ _ _ (by omega))).trans (World.cell?_setCell_same' _ _ _ (by rw [hv0]; rfl)), World.cell?_setCell_same' _ _ _ (by rw [hv1]; rfl)⟩
  · obtain ⟨h0, h1⟩ := h i (by omega)
    simp only [Nat.zero_add] at *
    exact ⟨(World.cell?_setCell_other _ _ _ _ (hne _ _ _ (by omega))).trans ((World.cell?_setCell_other _ _ _ _ (hne _ _ _ (by omega))).trans h0),
      (World.cell?_setCell_other _ _ _ _ (hne _ _ _ (by omega))).trans ((World.cell?_setCell_other _ _ _ _ (hne _ _ _ (by omega))).trans h1)⟩

theorem info31 : (Tryz.prog.info? 31).map (fun i => (i.zero, i.size, i.bytes)) = some (some (.agg #[.int .i64 0, .int .i64 0]), 2, 16) := by kernel_rfl

def IntSl (w : World) (sa : Option Addr) (ls : Nat) (s : Nat → Int) : Prop := ls = 0 ∨ ∃ A O, sa = some ⟨A, O, none⟩ ∧ A < w.heap.size ∧ NumAt w A O ls s

theorem IntSl.below {w w1 : World} {sa : Option Addr} {ls : Nat} {s : Nat → Int} (h : IntSl w sa ls s) (hb : Below w.heap.size w w1) : IntSl w1 sa ls s := by
  rcases h with h | ⟨A, O, h1, h2, h3⟩
  · exact .inl h
  · exact .inr ⟨A, O, h1, Nat.lt_of_lt_of_le h2 hb.size, h3.below h2 hb⟩

theorem no_iff' {p : Prop} (h : p → False) : (false = true ↔ p) := ⟨fun e => Bool.noConfusion e, fun x => (h x).elim⟩

theorem below_drewM {B : Nat} {a w : World} (h : Below B a w) (n : Nat) : Below B a (w.drewN n) := h.trans ⟨rfl, rfl, rfl, Nat.le_refl _, fun _ _ => rfl⟩

theorem own_ne {W : World} {n0 e size k B : Nat} {v : Value} {xs : List Value} (h : W.ownsRow n0 e size v k xs) (hB : B < n0 ∨ W.heap.size ≤ B) : some B ≠ v.ownBlock := by
  rcases h.2 with ⟨rfl, _⟩ | ⟨g, cap, cur, rfl, hb, hg, _⟩
  · simp [Value.ownBlock]
  · intro e'
    obtain rfl : B = g := by simpa [Value.ownBlock] using e'
    have := (Array.getElem?_eq_some_iff.1 hg).1
    omega

theorem own_ge {W : World} {n0 e size k : Nat} {v : Value} {xs : List Value} (h : W.ownsRow n0 e size v k xs) (r : Nat) (hr : v.ownBlock = some r) : n0 ≤ r := by
  rcases h.2 with ⟨rfl, _⟩ | ⟨g, cap, cur, rfl, hb, hg, _⟩
  · simp [Value.ownBlock] at hr
  · obtain rfl : g = r := by simpa [Value.ownBlock] using hr
    exact hb

theorem intSl_of_owns {w : World} {base n : Nat} {v : Value} {xs : List Int} (h : w.ownsRow base 3 1 v n (xs.map (Value.int .i64))) :
    ∃ sa cap, v = .slice sa n cap ∧ n = xs.length ∧ IntSl w sa n (fun i => xs.getD i 0) := by
  have hl : n = xs.length := by have := h.1; simp at this; omega
  rcases h.2 with ⟨rfl, rfl⟩ | ⟨g, cap, cur, rfl, hb, hg, hn, hc, hs, hx⟩
  · exact ⟨none, 0, rfl, hl, .inl rfl⟩
  · refine ⟨_, cap, rfl, hl, ?_⟩
    by_cases h0 : n = 0
    · exact .inl h0
    refine .inr ⟨g, 0, rfl, (Array.getElem?_eq_some_iff.1 hg).1, fun i hi => ?_⟩
    have hj : (xs.map (Value.int .i64))[i]? = some (.int .i64 (xs.getD i 0)) := by
      have hi' : i < xs.length := by omega
      simp [List.getD, hi']
    rw [← hx] at hj
    rw [List.getElem?_take] at hj
    split at hj
    · simp only [Array.getElem?_toList] at hj
      simp [World.cell?, hg, hj]
    · cases hj

set_option maxRecDepth 100000 in
set_option maxHeartbeats 2000000 in
theorem same_w (sa sb : Option Addr) (ls c1 c2 : Nat) (s : Nat → Int) (w : World) (hls : ls ≤ maxLen) (H1 : Hid (IntSl w sa ls s)) (H2 : Hid (IntSl w sb ls s)) :
    Calls Tryz.prog 31 #[.slice sa ls c1, .slice sb ls c2] w fun e w' => e = .returned (.bool true) ∧ Below w.heap.size w w' := by
  unfold maxLen at hls
  go_enter Tryz.func31, Tryz.ntmps31
  go_wp2
  go_loopw [5] (fun i wr => ∃ k : Nat, k ≤ ls ∧ i = .int .i64 k ∧ Below w.heap.size w wr) (fun i _ => ls - (intOf i).toNat)
  case atStart => exact ⟨0, Nat.zero_le _, rfl, Below.refl _ _⟩
  case round =>
    obtain ⟨k, hk, rfl, hbw⟩ := hrel
    by_cases hlt : k < ls
    · obtain ⟨A, O, rfl, hA, h1⟩ := H1.out.resolve_left (by omega)
      obtain ⟨B, U, rfl, hB, h2⟩ := H2.out.resolve_left (by omega)
      have y0 := (h1.below hA hbw) k hlt
      have y1 := (h2.below hB hbw) k hlt
      clear h1 h2
      have n1 : (0 : Int) ≤ (k : Int) := by omega
      have n2 : (k : Int) < (ls : Int) := by omega
      go_wp2
      go_quiet (fail)
      go_wp2
      go_roundw
      case rel => exact ⟨k + 1, by omega, by go_num, below_drewM hbw _⟩
      case measure => simp [intOf]; omega
    · go_wp2
      go_ret
      exact ⟨rfl, hbw⟩

theorem info3' : (Tryz.prog.info? 3).map (fun i => (i.zero, i.size, i.bytes)) = some (some (.int .i64 0), 1, 8) := by kernel_rfl

/-- the numbers below n that meet b -/
def pick (b : Nat → Bool) : Nat → List Int
  | 0 => []
  | n + 1 => cond (b n) (pick b n ++ [(n : Int)]) (pick b n)

theorem pick_t {b : Nat → Bool} {n : Nat} (h : b n = true) : pick b (n + 1) = pick b n ++ [(n : Int)] := by simp [pick, h]

theorem pick_f {b : Nat → Bool} {n : Nat} (h : b n = false) : pick b (n + 1) = pick b n := by simp [pick, h]

theorem pick_len (b : Nat → Bool) (n : Nat) : (pick b n).length ≤ n := by
  induction n with
  | zero => simp [pick]
  | succ n ih => simp only [pick]; cases b n <;> simp <;> omega

theorem one_lies {W : World} (x : Value) (T : TypeId) : ∀ (j : Nat) (u : Value), [x][j]? = some u → (W.alloc (.cells #[x] T)).cell? ((⟨W.heap.size, 0, none⟩ : Addr).add j) = some u := by
  intro j u h
  match j, h with
  | 0, h => simp at h; subst h; simp [Addr.add]

theorem own_base {w : World} {b b' e size n : Nat} {v : Value} {xs : List Value} (h : w.ownsRow b e size v n xs) (hb : b' ≤ b) : w.ownsRow b' e size v n xs := by
  refine ⟨h.1, ?_⟩
  rcases h.2 with h2 | ⟨g, cap, cur, h1, h2, h3⟩
  · exact .inl h2
  · exact .inr ⟨g, cap, cur, h1, by omega, h3⟩

theorem owns_below {w w1 : World} {base e size n : Nat} {v : Value} {xs : List Value} (h : w.ownsRow base e size v n xs) (hb : Below w.heap.size w w1) : w1.ownsRow base e size v n xs := by
  refine ⟨h.1, ?_⟩
  rcases h.2 with h2 | ⟨g, cap, cur, h1, h2, h3, h4⟩
  · exact .inl h2
  · exact .inr ⟨g, cap, cur, h1, h2, (hb.block g (Array.getElem?_eq_some_iff.1 h3).1).trans h3, h4⟩

end Go.Kn
