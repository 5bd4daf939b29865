/- Contracts of functions that the laws of this seat call, or the evaluator of closed calls and its runs. Conditions: as each theorem states them. -/
import Derived.Test.YtpfbfdcpibajoaaGreatDoorHF
import Derived.Test.YtpfbfdcpibajoaaGreatDoorHR
import Derived.RangeFuncNested
import Derived.RangeFuncBound
import Derived.RangeFuncCalls
import Derived.RangeFuncLeaves
import Derived.Shelf.Abstract
import Derived.Shelf.RegionOpen
import Derived.WalkKit
import Derived.OwnWalkIn
import Derived.TacticsInMore
import Derived.LoopNIn
import Derived.LoopIn
import Derived.Laws.MakeOwn
import Derived.Laws.OwnMore
set_option linter.unusedVariables false
set_option linter.unusedSimpArgs false
/- Contracts of functions that the laws of this seat call, or the evaluator of closed calls and its runs. Conditions: as each theorem states them. -/
set_option linter.unusedVariables false
set_option linter.unusedSimpArgs false
namespace Go.Kn
open Go Go.Proofs Go.RowKit Go.Shelf
attribute [local go_sem] Oper.semAt_some

theorem nbb {b b' o o' : Nat} (h : b ≠ b') : (⟨b, o, none⟩ : Addr) ≠ ⟨b', o', none⟩ := fun e => h (congrArg Addr.block e)

theorem path_head {f : Int} {ln lo : Nat} {N : Nat → N2} {U : Nat → O3} (H : TreeP f ln lo N U) {n : Nat} (hn : n ≤ ln) : ∃ tl, path N n = n :: tl := by
  cases n with
  | zero => exact ⟨[], rfl⟩
  | succ k => exact ⟨_, path_succ H (by omega)⟩

/-- the cells of these blocks are as they were -/
def KpB (bs : List Nat) (A B : World) : Prop := ∀ b ∈ bs, ∀ o, B.cell? ⟨b, o, none⟩ = A.cell? ⟨b, o, none⟩ ∧ B.frozen? ⟨b, o, none⟩ = A.frozen? ⟨b, o, none⟩
theorem KpB.trans {bs : List Nat} {A B C : World} (h : KpB bs A B) (k : KpB bs B C) : KpB bs A C := fun b hb o => ⟨(k b hb o).1.trans (h b hb o).1, (k b hb o).2.trans (h b hb o).2⟩

set_option maxRecDepth 100000 in
set_option maxHeartbeats 2000000 in
/-- the iterator that goes up from a node -/
theorem up_w (f : Int) (ln lo cn u nb tb A O l : Nat) (na : Option Addr) (N : Nat → N2) (U : Nat → O3) (bs : List Nat) (HR : Hid (TreeP f ln lo N U)) (hu : u ≤ ln)
    (J : List Nat → World → Prop) (Jp : List PanicEntry → World → Prop) (hna : 1 ≤ ln → na = some ⟨A, O, none⟩) (hbs : nb ∈ bs ∧ tb ∈ bs ∧ (1 ≤ ln → A ∈ bs)) (hnt : nb ≠ tb) (hnA : 1 ≤ ln → nb ≠ A)
    (hJ : ∀ s W v, J s W → J s (W.setCell ⟨nb, 0, none⟩ v))
    (hY : ∀ (pre : List Nat) (x : Nat) W, (∃ post, pre ++ x :: post = path N u) → J pre W → YieldAt Fence.wide 4 Tryz.prog l #[.int .i64 (x : Nat)] W fun e W' => (e = .returned (.bool true) ∧ J (pre ++ [x]) W' ∧ KpB bs W W') ∨ (∃ ch, e = .panicked ch ∧ Jp ch W'))
    (W : World) (hn : W.cell? ⟨nb, 0, none⟩ = some (.int .i64 (u : Int))) (hf : W.frozen? ⟨nb, 0, none⟩ = false) (ht : W.cell? ⟨tb, 1, none⟩ = some (.slice na ln cn)) (hN : 1 ≤ ln → NdAt W A O ln N) (h0 : J [] W) :
    CallsIn Fence.wide 5 Tryz.prog 123 #[.func (.yield l) #[] #[], .pointer (some ⟨nb, 0, none⟩), .pointer (some ⟨tb, 0, none⟩)] W fun e W' => ((∃ v, e = .returned v) ∧ ∃ xs, xs = path N u ∧ J xs W') ∨ (∃ ch, e = .panicked ch ∧ Jp ch W') := by
  have q1 := HR.out.l6
  have HJ := Lib.hid hJ
  have HNN := Lib.hid hN
  have HNA := Lib.hid hna
  have HNB := Lib.hid hnA
  have HBS := Lib.hid hbs
  have HY := Lib.hid hY
  clear hJ hN hna hnA hbs hY
  refine callsIn_of_wp Tryz.func123 rfl trivial ?_ rfl
  simp only [Tryz.ntmps123, List.size_toArray, List.length_cons, List.length_nil, Nat.reduceAdd, Nat.reduceSub, Array.replicate_succ, Array.replicate_zero, List.push_toArray, List.append_toArray, List.nil_append, List.cons_append]
  gi_wp2
  gi_loopw [4] (fun _ wr => ∃ (n : Nat) (pre : List Nat), n ≤ ln ∧ pre ++ path N n = path N u ∧ J pre wr ∧ wr.cell? ⟨nb, 0, none⟩ = some (.int .i64 (n : Int)) ∧ wr.frozen? ⟨nb, 0, none⟩ = false ∧ wr.cell? ⟨tb, 1, none⟩ = some (.slice na ln cn) ∧ (1 ≤ ln → NdAt wr A O ln N))
    (fun _ wr => match wr.cell? ⟨nb, 0, none⟩ with | some v => (intOf v).toNat | none => 0)
  case atStart => exact ⟨u, [], hu, rfl, h0, hn, hf, ht, HNN.out⟩
  case round =>
    obtain ⟨n, pre, hnl, hpre, hJs, c0, c1, c2, c3⟩ := hrel
    obtain ⟨fn, tmps, assign, body, hy, hR⟩ := HY.out pre n wr (by obtain ⟨tl, e⟩ := path_head HR.out hnl; exact ⟨tl, by rw [← e]; exact hpre⟩) hJs
    have HP := Lib.hid hpre
    have HC3 := Lib.hid c3
    have HC0 := Lib.hid c0
    clear hJs hpre c3
    cases n with
    | zero =>
      have hy' : (Instr.yield l #[.int .i64 0]).run Tryz.prog wr = .ok (.round l fn tmps assign body) wr := hy
      gi_wp2
      refine hR.mono ?_
      rintro e W3 (⟨rfl, hJ3, hk3⟩ | ⟨ch, rfl, hp3⟩)
      · have d0 := (hk3 nb HBS.out.1 0).1.trans c0
        gi_wp2
        go_end0
        exact .inl ⟨⟨_, rfl⟩, _, rfl, by rw [← HP.out]; exact hJ3⟩
      · gi_wp2
        exact ⟨rfl, .inr ⟨ch, rfl, hp3⟩⟩
    | succ k =>
      obtain ⟨p, hp⟩ : ∃ p : Nat, (N k).p.toNat = p := ⟨_, rfl⟩
      have hpk := (tree_n HR.out (show k < ln by omega)).1
      have hp1 : (N k).p = (p : Int) := by omega
      have hp2 : p ≤ k := by omega
      have hpath : path N (k + 1) = (k + 1) :: path N p := by rw [path_succ HR.out (show k < ln by omega), hp]
      have HPA := Lib.hid hpath
      have hna := HNA.out (by omega)
      rw [hna] at c2
      have hN3 := HC3.out (by omega)
      have hAin := HBS.out.2.2 (by omega)
      have n1 : (0 : Int) ≤ (k : Int) := by omega
      have n2 : (k : Int) < (ln : Int) := by omega
      have n0 : ¬ (k : Int) + 1 = 0 := by omega
      have n00 : ((k : Int) + 1 == 0) = false := by simp; omega
      have hw : wrap64 ((k : Int) + 1 - 1) = (k : Int) := by unfold wrap64; omega
      have hw2 : (k : Int) + 1 - 1 = (k : Int) := by omega
      have hy' : (Instr.yield l #[.int .i64 ((k : Int) + 1)]).run Tryz.prog wr = .ok (.round l fn tmps assign body) wr := hy
      have HAI := Lib.hid hAin
      clear hpath hp hpk hna hAin
      have HN3 := Lib.hid hN3
      clear hN3
      gi_wp2
      refine hR.mono ?_
      rintro e W3 (⟨rfl, hJ3, hk3⟩ | ⟨ch, rfl, hp3⟩)
      · have d0 := (hk3 nb HBS.out.1 0).1.trans c0
        have d1 := (hk3 nb HBS.out.1 0).2.trans c1
        have d2 := (hk3 tb HBS.out.2.1 1).1.trans c2
        have d3 : NdAt W3 A O ln N := fun i hi => ⟨(hk3 A HAI.out _).1.trans (HN3.out i hi).1, (hk3 A HAI.out _).1.trans (HN3.out i hi).2⟩
        have d4 := (d3 k (by omega)).1
        rw [hp1] at d4
        have HD3 := Lib.hid d3
        have HJ3 := Lib.hid hJ3
        clear d3 hJ3 hk3 c0 c1 c2
        gi_wp2
        have g0 : (W3.setCell ⟨nb, 0, none⟩ (.int .i64 (p : Int))).cell? ⟨nb, 0, none⟩ = some (.int .i64 (p : Int)) := World.cell?_setCell_same' _ _ _ (by rw [d0]; rfl)
        have G0 := Lib.hid g0
        go_roundw
        case rel =>
          refine ⟨p, pre ++ [k + 1], by omega, by rw [← HP.out, HPA.out]; simp, HJ.out _ _ _ HJ3.out, g0, ?_, ?_, fun _ i hi => ?_⟩
          · rw [World.frozen?_setCell]; exact d1
          · rw [World.cell?_setCell_other _ _ _ _ (nbb hnt), d2, HNA.out (by omega)]
          · rw [World.cell?_setCell_other _ _ _ _ (nbb (HNB.out (by omega))), World.cell?_setCell_other _ _ _ _ (nbb (HNB.out (by omega)))]; exact HD3.out i hi
        case measure =>
          have h0 := HC0.out
          have g1 := G0.out
          simp only [h0, g1, intOf]
          omega
      · gi_wp2
        exact ⟨rfl, .inr ⟨ch, rfl, hp3⟩⟩
end Go.Kn

namespace Go.Kn
open Go Go.Proofs Go.RowKit

/-- the iterator's boxes: the node and the tree -/
structure UpB (w : World) (nb tb u : Nat) (f : Int) (na : Option Addr) (ln cn : Nat) : Prop where
  n0 : w.cell? ⟨nb, 0, none⟩ = some (.int .i64 (u : Int))
  nf : w.frozen? ⟨nb, 0, none⟩ = false
  t1 : w.cell? ⟨tb, 1, none⟩ = some (.slice na ln cn)
  hnt : nb ≠ tb
  hn : nb < w.heap.size
  ht : tb < w.heap.size

set_option maxRecDepth 100000 in
set_option maxHeartbeats 1000000 in
theorem upFrom_w (f : Int) (na oa : Option Addr) (ln cn lo co u : Nat) (w : World) :
    Calls Tryz.prog 77 #[.agg #[.int .i64 f, .slice na ln cn, .slice oa lo co], .int .i64 (u : Int)] w fun e w' =>
      (∃ nb tb, e = .returned (.func (.func 123) #[] #[.pointer (some ⟨nb, 0, none⟩), .pointer (some ⟨tb, 0, none⟩)]) ∧ UpB w' nb tb u f na ln cn ∧ w.heap.size ≤ nb ∧ w.heap.size ≤ tb) ∧ Below w.heap.size w w' := by
  have hmf : ∀ (fn : Fn) (first cap : Array Value) (w : World), (Instr.makeFunc fn first cap).run Tryz.prog w = .ok (.func fn first cap) w := fun _ _ _ _ => rfl
  go_enter Tryz.func77, Tryz.ntmps77
  go_wp2
  go_ret
  refine ⟨⟨w.heap.size + 1, w.heap.size, rfl, ⟨by simp, by simp, by simp, by omega, by simp, by simp; omega⟩, by omega, by omega⟩, ((Below.refl _ _).alloc (Nat.le_refl _) _).alloc (by simp) _⟩

/-- all blocks that were there are as they were, but for some -/
structure Frx (X : List Nat) (A B : World) : Prop where
  os : B.os = A.os
  tape : B.tape = A.tape
  output : B.output = A.output
  size : A.heap.size ≤ B.heap.size
  block : ∀ k, k < A.heap.size → k ∉ X → B.heap[k]? = A.heap[k]?
theorem Frx.refl (X : List Nat) (A : World) : Frx X A A := ⟨rfl, rfl, rfl, Nat.le_refl _, fun _ _ _ => rfl⟩
theorem Frx.trans {X : List Nat} {A B C : World} (h : Frx X A B) (k : Frx X B C) : Frx X A C :=
  ⟨k.os.trans h.os, k.tape.trans h.tape, k.output.trans h.output, Nat.le_trans h.size k.size, fun i hi hx => (k.block i (Nat.lt_of_lt_of_le hi h.size) hx).trans (h.block i hi hx)⟩
theorem Frx.of_below {X : List Nat} {A B : World} (h : Below A.heap.size A B) : Frx X A B := ⟨h.os, h.tape, h.output, h.size, fun k hk _ => h.block k hk⟩
theorem Frx.sub {X Y : List Nat} {A B : World} (h : Frx X A B) (hs : ∀ k ∈ X, k < A.heap.size → k ∈ Y) : Frx Y A B := ⟨h.os, h.tape, h.output, h.size, fun k hk hx => h.block k hk (fun e => hx (hs k e hk))⟩
theorem Frx.setCell (X : List Nat) (A : World) (b o : Nat) (v : Value) (hb : b ∈ X) : Frx X A (A.setCell ⟨b, o, none⟩ v) :=
  ⟨rfl, rfl, rfl, by simp [World.setCell], fun k _ hx => Below.heap_setCell _ _ _ _ (fun e => hx (e ▸ hb))⟩
theorem Frx.cell {X : List Nat} {A B : World} (h : Frx X A B) {b o : Nat} (hb : b < A.heap.size) (hx : b ∉ X) : B.cell? ⟨b, o, none⟩ = A.cell? ⟨b, o, none⟩ := World.cell?_of_block (w := A) (h.block b hb hx)
theorem Frx.froz {X : List Nat} {A B : World} (h : Frx X A B) {b o : Nat} (hb : b < A.heap.size) (hx : b ∉ X) : B.frozen? ⟨b, o, none⟩ = A.frozen? ⟨b, o, none⟩ := World.frozen?_of_block (w := A) (h.block b hb hx)
/-- what lies below all of them is as it was -/
theorem Frx.below {X : List Nat} {A B : World} (h : Frx X A B) {n : Nat} (hn : n ≤ A.heap.size) (hX : ∀ k ∈ X, n ≤ k) : Below n A B := ⟨h.os, h.tape, h.output, h.size, fun k hk => h.block k (Nat.lt_of_lt_of_le hk hn) (fun e => by have := hX k e; omega)⟩

/-- what a tree gives out: the tree, its shares and flows -/
structure SvAt (w : World) (sv SH FL : Nat) (f : Int) (na oa : Option Addr) (ln cn lo co cs cf : Nat) (s fl : Nat → Int) : Prop where
  c0 : w.cell? ⟨sv, 0, none⟩ = some (.int .i64 f)
  c1 : w.cell? ⟨sv, 1, none⟩ = some (.slice na ln cn)
  c2 : w.cell? ⟨sv, 2, none⟩ = some (.slice oa lo co)
  c3 : w.cell? ⟨sv, 3, none⟩ = some (.slice (some ⟨SH, 0, none⟩) lo cs)
  c4 : w.cell? ⟨sv, 4, none⟩ = some (.slice (some ⟨FL, 0, none⟩) (ln + 1) cf)
  sh : ∀ i, i < lo → w.cell? ⟨SH, i, none⟩ = some (.int .i64 (s i)) ∧ w.frozen? ⟨SH, i, none⟩ = false
  fw : ∀ i, i < ln + 1 → w.cell? ⟨FL, i, none⟩ = some (.int .i64 (fl i)) ∧ w.frozen? ⟨FL, i, none⟩ = false
  bs : sv < w.heap.size
  bh : SH < w.heap.size
  bf : FL < w.heap.size
  e1 : SH ≠ FL
  e2 : sv ≠ SH
  e3 : sv ≠ FL

theorem SvAt.below {w w1 : World} {sv SH FL : Nat} {f : Int} {na oa : Option Addr} {ln cn lo co cs cf : Nat} {s fl : Nat → Int} (h : SvAt w sv SH FL f na oa ln cn lo co cs cf s fl) (hb : Below w.heap.size w w1) : SvAt w1 sv SH FL f na oa ln cn lo co cs cf s fl := by
  obtain ⟨c, d⟩ := bcell hb
  have hs := hb.size
  exact ⟨(c _ _ h.bs).trans h.c0, (c _ _ h.bs).trans h.c1, (c _ _ h.bs).trans h.c2, (c _ _ h.bs).trans h.c3, (c _ _ h.bs).trans h.c4, fun i hi => ⟨(c _ _ h.bh).trans (h.sh i hi).1, (d _ _ h.bh).trans (h.sh i hi).2⟩, fun i hi => ⟨(c _ _ h.bf).trans (h.fw i hi).1, (d _ _ h.bf).trans (h.fw i hi).2⟩, by have := h.bs; omega, by have := h.bh; omega, by have := h.bf; omega, h.e1, h.e2, h.e3⟩

theorem SvAt.fr {X : List Nat} {w w1 : World} {sv SH FL : Nat} {f : Int} {na oa : Option Addr} {ln cn lo co cs cf : Nat} {s fl : Nat → Int} (h : SvAt w sv SH FL f na oa ln cn lo co cs cf s fl) (hb : Frx X w w1) (h1 : sv ∉ X) (h2 : SH ∉ X) (h3 : FL ∉ X) : SvAt w1 sv SH FL f na oa ln cn lo co cs cf s fl := by
  have hs := hb.size
  exact ⟨(hb.cell h.bs h1).trans h.c0, (hb.cell h.bs h1).trans h.c1, (hb.cell h.bs h1).trans h.c2, (hb.cell h.bs h1).trans h.c3, (hb.cell h.bs h1).trans h.c4, fun i hi => ⟨(hb.cell h.bh h2).trans (h.sh i hi).1, (hb.froz h.bh h2).trans (h.sh i hi).2⟩, fun i hi => ⟨(hb.cell h.bf h3).trans (h.fw i hi).1, (hb.froz h.bf h3).trans (h.fw i hi).2⟩, by have := h.bs; omega, by have := h.bh; omega, by have := h.bf; omega, h.e1, h.e2, h.e3⟩

set_option maxRecDepth 100000 in
set_option maxHeartbeats 2000000 in
theorem above_w (sv SH FL i u : Nat) (f : Int) (na oa : Option Addr) (ln cn lo co cs cf : Nat) (N : Nat → N2) (U : Nat → O3) (s fl : Nat → Int) (w : World) (hlo : lo ≤ 8) (hi : i < lo) (hu : (U i).n = (u : Int)) (HT : Hid (Tr7 w na oa ln lo N U)) (H : Hid (SvAt w sv SH FL f na oa ln cn lo co cs cf s fl)) :
    Calls Tryz.prog 116 #[.pointer (some ⟨sv, 0, none⟩), .int .i64 (i : Int)] w fun e w' =>
      (∃ nb tb, e = .returned (.func (.func 123) #[] #[.pointer (some ⟨nb, 0, none⟩), .pointer (some ⟨tb, 0, none⟩)]) ∧ UpB w' nb tb u f na ln cn ∧ w.heap.size ≤ nb ∧ w.heap.size ≤ tb) ∧ Below w.heap.size w w' := by
  obtain ⟨C, P, rfl, hC, hcells⟩ := HT.out.ho.resolve_left (by omega)
  obtain ⟨y0, _, _⟩ := hcells i hi
  rw [hu] at y0
  have x0 := H.out.c0
  have x1 := H.out.c1
  have x2 := H.out.c2
  have n1 : (0 : Int) ≤ (i : Int) := by omega
  have n2 : (i : Int) < (lo : Int) := by omega
  clear hcells hu
  have HUP : Hid (∀ w2, Calls Tryz.prog 77 #[.agg #[.int .i64 f, .slice na ln cn, .slice (some ⟨C, P, none⟩) lo co], .int .i64 (u : Int)] w2 fun e w' => (∃ nb tb, e = .returned (.func (.func 123) #[] #[.pointer (some ⟨nb, 0, none⟩), .pointer (some ⟨tb, 0, none⟩)]) ∧ UpB w' nb tb u f na ln cn ∧ w2.heap.size ≤ nb ∧ w2.heap.size ≤ tb) ∧ Below w2.heap.size w2 w') := Lib.hid fun w2 => upFrom_w f na (some ⟨C, P, none⟩) ln cn lo co u w2
  go_enter Tryz.func116, Tryz.ntmps116
  go_wp2
  go_region_law ((first
    | (go_simp; go_at_call 77; refine (HUP.out _).mono ?_; rintro e w2 ⟨⟨nb, tb, rfl, hub, h1, h2⟩, hb⟩)))
  all_goals
    go_wp2
    go_ret
    exact ⟨⟨nb, tb, rfl, hub, h1, h2⟩, (below_drew (Below.refl _ _)).trans hb⟩
end Go.Kn

namespace Go.Kn
open Go Go.Proofs Go.RowKit

theorem info3' : (Tryz.prog.info? 3).map (fun i => (i.zero, i.size, i.bytes)) = some (some (.int .i64 0), 1, 8) := by kernel_rfl

/-- n numbers, all 0 -/
def zc (n : Nat) : Array Value := madeCells #[.int .i64 0] (n * 1)
theorem zc_size (n : Nat) : (zc n).size = n := by simp [zc, size_madeCells]
theorem zc_get {n i : Nat} (h : i < n) : (zc n)[i]? = some (.int .i64 0) := by
  have e : (zc n).toList = List.replicate (n * 1) (.int .i64 0) := toList_madeCells_one _ _
  rw [← Array.getElem?_toList, e, List.getElem?_replicate, if_pos (by omega)]
theorem zc_cell (w : World) {n i : Nat} (h : i < n) : (w.alloc (.cells (zc n) 3)).cell? ⟨w.heap.size, i, none⟩ = some (.int .i64 0) ∧ (w.alloc (.cells (zc n) 3)).frozen? ⟨w.heap.size, i, none⟩ = false := by
  have hg : (w.alloc (.cells (zc n) 3)).heap[w.heap.size]? = some (.cells (zc n) 3) := by
    show (w.heap.push _)[w.heap.size]? = _
    simp
  have hz := zc_get h
  have hs := zc_size n
  constructor
  · unfold World.cell?; simp only []; rw [hg]; simpa using hz
  · unfold World.frozen?; simp only []; rw [hg]; simp
theorem mk_w (n : Nat) (hn : n ≤ 1000) (w : World) : (Instr.makeSlice 26 (.int .i64 (n : Int)) (.int .i64 (n : Int))).run Tryz.prog w = .ok (.slice (some ⟨w.heap.size, 0, none⟩) n n) (w.alloc (.cells (zc n) 3)) := by
  obtain ⟨i0, hi, hz, h1, h2⟩ := info_parts info3'
  have h := run_makeSlice (P := Tryz.prog) w 26 3 i0 (.int .i64 0) Tryz.underlying26 hi hz .i64 .i64 (n : Int) (n : Int) (by omega) (Int.le_refl _) (by rw [h1]; simp; omega) (by rw [h2]; omega) (by omega)
  have hc : (Value.int .i64 0).cells = #[.int .i64 0] := rfl
  rw [h1, hc] at h
  simpa [zc] using h

theorem iw (n : Nat) (h : n ≤ 1000) : IntKind.i64.wrap (1 + (n : Int)) = 1 + (n : Int) := by
  simp [IntKind.wrap, IntKind.signed, IntKind.bits]
  omega

end Go.Kn
