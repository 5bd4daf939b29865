/- Contracts of functions that the laws of this seat call, or the evaluator of closed calls and its runs. Conditions: as each theorem states them. -/
import Derived.Test.YtpfbfdcpibajoaaGreatDoorHC
import Derived.Test.YtpfbfdcpibajoaaGreatDoorHU
import Derived.Deep.LoopGhost
set_option linter.unusedVariables false
set_option linter.unusedSimpArgs false
/- Contracts of functions that the laws of this seat call, or the evaluator of closed calls and its runs. Conditions: as each theorem states them. -/
set_option linter.unusedVariables false
set_option linter.unusedSimpArgs false
namespace Go.Kn
open Go Go.Proofs Go.RowKit

/-- a tree, and where it is given out -/
structure Tre (f : Int) (na oa : Option Addr) (ln lo sv SH FL : Nat) (N : Nat → N2) (U : Nat → O3) (w0 : World) : Prop where
  HR : TreeP f ln lo N U
  HT : Tr7 w0 na oa ln lo N U
  h1 : w0.heap.size ≤ sv
  h2 : w0.heap.size ≤ SH
  h3 : w0.heap.size ≤ FL
/-- what is given out: the flows are those of the shares -/
structure SvS (w : World) (sv SH FL : Nat) (f : Int) (na oa : Option Addr) (ln cn lo co cs cf : Nat) (N : Nat → N2) (U : Nat → O3) (s : Nat → Int) : Prop where
  at_ : SvAt w sv SH FL f na oa ln cn lo co cs cf s (fun m => sumB N U s m lo)

def mis : List PanicEntry := [{ v := .iface 130 (.agg #[]), recovered := false }]

theorem flow_bd {f : Int} {ln lo : Nat} {N : Nat → N2} {U : Nat → O3} {s : Nat → Int} (HR : TreeP f ln lo N U) (hv : Vd f ln lo N U s) (m : Nat) : 0 ≤ sumB N U s m lo ∧ sumB N U s m lo ≤ 2000 := by
  have h := sumB_le (N := N) (U := U) (s := s) (m := m) lo (fun i hi => by have := hv.bd i hi; have := (tree_o HR hi).2.1; omega)
  have := HR.lo2
  omega

theorem give_s (f : Int) (na oa : Option Addr) (ln cn lo co cs cf sv SH FL i : Nat) (c : Int) (N : Nat → N2) (U : Nat → O3) (s : Nat → Int) (w0 W : World) (T : Hid (Tre f na oa ln lo sv SH FL N U w0)) (hb : Below w0.heap.size w0 W) (hi : i < lo) (hc : 0 ≤ c ∧ c ≤ 200)
    (hv : Hid (Vd f ln lo N U s)) (H : Hid (SvS W sv SH FL f na oa ln cn lo co cs cf N U s)) :
    Calls Tryz.prog 67 #[.pointer (some ⟨sv, 0, none⟩), .int .i64 (i : Int), .int .i64 c] W fun e W' => Frx [SH, FL] W W' ∧
      ((e = .returned (.tuple #[]) ∧ OkP f lo N U s i c ∧ SvS W' sv SH FL f na oa ln cn lo co cs cf N U (put s i c)) ∨
       (e = .panicked mis ∧ ¬ OkP f lo N U s i c ∧ SvS W' sv SH FL f na oa ln cn lo co cs cf N U s)) := by
  have hbd := hv.out.bd i hi
  have hcl := (tree_o T.out.HR hi).2.1
  refine (give_w f na oa ln cn lo co cs cf sv SH FL i c N U s (fun m => sumB N U s m lo) w0 W (Lib.hid T.out.HR) (Lib.hid T.out.HT) hb hi hc T.out.h1 T.out.h2 T.out.h3 (Lib.hid H.out.at_) (by omega) (Lib.hid fun m _ => flow_bd T.out.HR hv.out m)).mono ?_
  rintro e W' ⟨hf, ⟨rfl, ho, hs⟩ | ⟨rfl, ho, hs⟩⟩
  · refine ⟨hf, .inl ⟨rfl, ho, ⟨?_⟩⟩⟩
    have e : (fun m => sumB N U s m lo + (if m ∈ path N (U i).n.toNat then c else 0)) = fun m => sumB N U (put s i c) m lo := by
      funext m; rw [sumB_put]; simp [hi]
    rw [← e]; exact hs
  · exact ⟨hf, .inr ⟨rfl, ho, ⟨hs⟩⟩⟩

theorem SvS.below {w w1 : World} {sv SH FL : Nat} {f : Int} {na oa : Option Addr} {ln cn lo co cs cf : Nat} {N : Nat → N2} {U : Nat → O3} {s : Nat → Int} (h : SvS w sv SH FL f na oa ln cn lo co cs cf N U s) (hb : Below w.heap.size w w1) : SvS w1 sv SH FL f na oa ln cn lo co cs cf N U s := ⟨h.at_.below hb⟩

set_option maxRecDepth 100000 in
set_option maxHeartbeats 1000000 in
theorem s11_w (f : Int) (na oa : Option Addr) (ln cn lo co cs cf sv SH FL i pb ob : Nat) (N : Nat → N2) (U : Nat → O3) (s : Nat → Int) (w0 W : World) (T : Hid (Tre f na oa ln lo sv SH FL N U w0)) (hb : Below w0.heap.size w0 W) (hi : i < lo)
    (hv : Hid (Vd f ln lo N U s)) (H : Hid (SvS W sv SH FL f na oa ln cn lo co cs cf N U s)) (c1 : W.cell? ⟨pb, 0, none⟩ = some (.pointer (some ⟨sv, 0, none⟩))) (c2 : W.cell? ⟨ob, 0, none⟩ = some (.int .i64 (i : Int))) :
    Calls Tryz.prog 151 #[.pointer (some ⟨pb, 0, none⟩), .pointer (some ⟨ob, 0, none⟩)] W fun e W' => Frx [SH, FL] W W' ∧
      ((e = .returned (.tuple #[]) ∧ OkP f lo N U s i 1 ∧ SvS W' sv SH FL f na oa ln cn lo co cs cf N U (put s i 1)) ∨
       (e = .panicked mis ∧ ¬ OkP f lo N U s i 1 ∧ SvS W' sv SH FL f na oa ln cn lo co cs cf N U s)) := by
  have HG := Lib.hid (give_s f na oa ln cn lo co cs cf sv SH FL i 1 N U s w0 W T hb hi (by decide) hv H)
  clear hb
  go_enter Tryz.func151, Tryz.ntmps151
  go_wp2_with (go_at_call 67; refine HG.out.mono ?_; rintro e w2 ⟨hfr, ⟨rfl, ho, hs⟩ | ⟨rfl, ho, hs⟩⟩)
  · have HO := Lib.hid ho
    have HS := Lib.hid hs
    have HF := Lib.hid hfr
    clear ho hs hfr
    go_end0
    exact ⟨HF.out, .inl ⟨rfl, HO.out, HS.out⟩⟩
  · exact ⟨rfl, hfr, .inr ⟨rfl, ho, hs⟩⟩
end Go.Kn

namespace Go.Kn
open Go Go.Proofs Go.RowKit

theorem Frx.al {X : List Nat} {w w1 : World} {o : Obj} (h : Frx X (w.alloc o) w1) : Frx X w w1 := (Frx.of_below ((Below.refl _ _).alloc (Nat.le_refl _) _)).trans h
theorem Frx.setNew {X : List Nat} {w w1 : World} {b o : Nat} {v : Value} (h : Frx X w w1) (hb : w.heap.size ≤ b) : Frx X w (w1.setCell ⟨b, o, none⟩ v) :=
  ⟨h.os, h.tape, h.output, by simpa [World.setCell] using h.size, fun k hk hx => (Below.heap_setCell _ _ _ _ (by simp only []; omega)).trans (h.block k hk hx)⟩
theorem SvS.setNew {w : World} {sv SH FL b o : Nat} {v : Value} {f : Int} {na oa : Option Addr} {ln cn lo co cs cf : Nat} {N : Nat → N2} {U : Nat → O3} {s : Nat → Int} (h : SvS w sv SH FL f na oa ln cn lo co cs cf N U s) (h1 : b ≠ sv) (h2 : b ≠ SH) (h3 : b ≠ FL) : SvS (w.setCell ⟨b, o, none⟩ v) sv SH FL f na oa ln cn lo co cs cf N U s :=
  ⟨h.at_.fr (Frx.setCell [b] _ _ _ _ (by simp)) (by simp; omega) (by simp; omega) (by simp; omega)⟩

set_option maxRecDepth 100000 in
set_option maxHeartbeats 1000000 in
theorem attempt_s (f : Int) (na oa : Option Addr) (ln cn lo co cs cf sv SH FL i pb ob : Nat) (N : Nat → N2) (U : Nat → O3) (s : Nat → Int) (w0 W : World) (T : Hid (Tre f na oa ln lo sv SH FL N U w0)) (hb : Below w0.heap.size w0 W) (hi : i < lo)
    (hv : Hid (Vd f ln lo N U s)) (H : Hid (SvS W sv SH FL f na oa ln cn lo co cs cf N U s)) (c1 : W.cell? ⟨pb, 0, none⟩ = some (.pointer (some ⟨sv, 0, none⟩))) (c2 : W.cell? ⟨ob, 0, none⟩ = some (.int .i64 (i : Int))) :
    Calls Tryz.prog 65 #[.func (.func 151) #[] #[.pointer (some ⟨pb, 0, none⟩), .pointer (some ⟨ob, 0, none⟩)]] W fun e W' => Frx [SH, FL] W W' ∧
      ((e = .returned (.int .i64 0) ∧ OkP f lo N U s i 1 ∧ SvS W' sv SH FL f na oa ln cn lo co cs cf N U (put s i 1)) ∨
       (e = .returned (.int .i64 7) ∧ ¬ OkP f lo N U s i 1 ∧ SvS W' sv SH FL f na oa ln cn lo co cs cf N U s)) := by
  have hmf : ∀ (fn : Fn) (first cap : Array Value) (w : World), (Instr.makeFunc fn first cap).run Tryz.prog w = .ok (.func fn first cap) w := fun _ _ _ _ => rfl
  have hA : Below W.heap.size W (W.alloc (.cells #[.int .i64 0] 29)) := (Below.refl _ _).alloc (Nat.le_refl _) _
  have HG := Lib.hid (s11_w f na oa ln cn lo co cs cf sv SH FL i pb ob N U s w0 (W.alloc (.cells #[.int .i64 0] 29)) T (hb.trans (hA.mono hb.size)) hi hv (Lib.hid (H.out.below hA)) ((hA.cell (p := ⟨pb, 0, none⟩) (World.block_lt_of_cell? _ _ c1)).trans c1) ((hA.cell (p := ⟨ob, 0, none⟩) (World.block_lt_of_cell? _ _ c2)).trans c2))
  have hne : W.heap.size ≠ SH ∧ W.heap.size ≠ FL ∧ W.heap.size ≠ sv := ⟨by have := H.out.at_.bh; omega, by have := H.out.at_.bf; omega, by have := H.out.at_.bs; omega⟩
  have HN := Lib.hid hne
  have HC : Hid (∀ w1, Frx [SH, FL] (W.alloc (.cells #[.int .i64 0] 29)) w1 → w1.cell? ⟨W.heap.size, 0, none⟩ = some (.int .i64 0) ∧ w1.frozen? ⟨W.heap.size, 0, none⟩ = false) := Lib.hid fun w1 h =>
    ⟨(h.cell (by simp) (by simp; omega)).trans (by simp), (h.froz (by simp) (by simp; omega)).trans (by simp)⟩
  clear hb c1 c2 hA hne
  go_enter_defers Tryz.func65, Tryz.ntmps65
  go_wp2_with (go_at_call 151; refine HG.out.mono ?_; rintro e w2 ⟨hfr, hcase⟩; obtain ⟨y1, y2⟩ := HC.out _ hfr; have HF := Lib.hid hfr; clear hfr; rcases hcase with ⟨rfl, ho, hs⟩ | ⟨rfl, ho, hs⟩ <;> (have HO := Lib.hid ho; have HS := Lib.hid hs; clear ho hs))
  · refine leaves_cons (f := 114) (args := #[.pointer (some ⟨W.heap.size, 0, none⟩)]) (by simp) (by simp [go_sem]) ?_
    refine (catch_none ⟨W.heap.size, 0, none⟩ _).mono ?_
    rintro e u' w'' ⟨rfl, rfl, rfl⟩
    have z1 : (w2.setCell ⟨W.heap.size, 0, none⟩ (.int .i64 0)).cell? ⟨W.heap.size, 0, none⟩ = some (.int .i64 0) := World.cell?_setCell_same' _ _ _ (by rw [y1]; rfl)
    simp [Leaves, settle, results, Tryz.results65, go_sem, z1]
    exact ⟨HF.out.al.setNew (Nat.le_refl _), HO.out, HS.out.setNew HN.out.2.2 HN.out.1 HN.out.2.1⟩
  · refine leaves_cons (f := 114) (args := #[.pointer (some ⟨W.heap.size, 0, none⟩)]) (by simp) (by simp [go_sem]) ?_
    refine (catch_rate ⟨W.heap.size, 0, none⟩ 0 [] _ y1 y2).mono ?_
    rintro e u' w'' ⟨rfl, rfl, rfl⟩
    have z1 : (w2.setCell ⟨W.heap.size, 0, none⟩ (.int .i64 7)).cell? ⟨W.heap.size, 0, none⟩ = some (.int .i64 7) := World.cell?_setCell_same' _ _ _ (by rw [y1]; rfl)
    simp [Leaves, settle, results, Tryz.results65, go_sem, z1]
    exact ⟨HF.out.al.setNew (Nat.le_refl _), HO.out, HS.out.setNew HN.out.2.2 HN.out.1 HN.out.2.1⟩

set_option maxRecDepth 100000 in
set_option maxHeartbeats 1000000 in
theorem raise_w (f : Int) (na oa : Option Addr) (ln cn lo co cs cf sv SH FL i pb : Nat) (N : Nat → N2) (U : Nat → O3) (s : Nat → Int) (w0 W : World) (T : Hid (Tre f na oa ln lo sv SH FL N U w0)) (hb : Below w0.heap.size w0 W) (hi : i < lo)
    (hv : Hid (Vd f ln lo N U s)) (H : Hid (SvS W sv SH FL f na oa ln cn lo co cs cf N U s)) (c1 : W.cell? ⟨pb, 0, none⟩ = some (.pointer (some ⟨sv, 0, none⟩))) :
    Calls Tryz.prog 150 #[.int .i64 (i : Int), .pointer (some ⟨pb, 0, none⟩)] W fun e W' => Frx [SH, FL] W W' ∧
      ((e = .returned (.bool true) ∧ OkP f lo N U s i 1 ∧ SvS W' sv SH FL f na oa ln cn lo co cs cf N U (put s i 1)) ∨
       (e = .returned (.bool false) ∧ ¬ OkP f lo N U s i 1 ∧ SvS W' sv SH FL f na oa ln cn lo co cs cf N U s)) := by
  have hmf : ∀ (fn : Fn) (first cap : Array Value) (w : World), (Instr.makeFunc fn first cap).run Tryz.prog w = .ok (.func fn first cap) w := fun _ _ _ _ => rfl
  have hA : Below W.heap.size W (W.alloc (.cells #[.int .i64 (i : Int)] 3)) := (Below.refl _ _).alloc (Nat.le_refl _) _
  have HG := Lib.hid (attempt_s f na oa ln cn lo co cs cf sv SH FL i pb W.heap.size N U s w0 (W.alloc (.cells #[.int .i64 (i : Int)] 3)) T (hb.trans (hA.mono hb.size)) hi hv (Lib.hid (H.out.below hA)) ((hA.cell (p := ⟨pb, 0, none⟩) (World.block_lt_of_cell? _ _ c1)).trans c1) (by simp))
  clear hb c1 hA
  go_enter Tryz.func150, Tryz.ntmps150
  go_wp2_with (go_at_call 65; refine HG.out.mono ?_; rintro e w2 ⟨hfr, hcase⟩; have HF := Lib.hid hfr; clear hfr; rcases hcase with ⟨rfl, ho, hs⟩ | ⟨rfl, ho, hs⟩ <;> (have HO := Lib.hid ho; have HS := Lib.hid hs; clear ho hs))
  · go_ret
    exact ⟨HF.out.al, .inl ⟨rfl, HO.out, HS.out⟩⟩
  · go_ret
    exact ⟨HF.out.al, .inr ⟨rfl, HO.out, HS.out⟩⟩
end Go.Kn
