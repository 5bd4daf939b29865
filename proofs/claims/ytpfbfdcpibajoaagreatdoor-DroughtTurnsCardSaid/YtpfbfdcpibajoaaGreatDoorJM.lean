/- Contracts of functions that the laws of this seat call, or the evaluator of closed calls and its runs. Conditions: as each theorem states them. -/
import Derived.Test.YtpfbfdcpibajoaaGreatDoorJL
set_option linter.unusedVariables false
set_option linter.unusedSimpArgs false
namespace Go.Kn
open Go Go.Proofs Go.RowKit

set_option maxRecDepth 100000 in
set_option maxHeartbeats 1000000 in
theorem s134_w (f : Int) (na oa : Option Addr) (ln cn lo co cs cf sv SH FL i pb ob : Nat) (N : Nat → N2) (U : Nat → O3) (s : Nat → Int) (w0 W : World) (T : Hid (Tre f na oa ln lo sv SH FL N U w0)) (hb : Below w0.heap.size w0 W) (hi : i < lo)
    (hv : Hid (Vd f ln lo N U s)) (H : Hid (SvS W sv SH FL f na oa ln cn lo co cs cf N U s)) (c1 : W.cell? ⟨pb, 0, none⟩ = some (.pointer (some ⟨sv, 0, none⟩))) (c2 : W.cell? ⟨ob, 0, none⟩ = some (.int .i64 (i : Int))) :
    Calls Tryz.prog 134 #[.pointer (some ⟨pb, 0, none⟩), .pointer (some ⟨ob, 0, none⟩)] W fun e W' => Frx [SH, FL] W W' ∧
      ((e = .returned (.tuple #[]) ∧ OkP f lo N U s i (U i).c ∧ SvS W' sv SH FL f na oa ln cn lo co cs cf N U (put s i (U i).c)) ∨
       (e = .panicked mis ∧ ¬ OkP f lo N U s i (U i).c ∧ SvS W' sv SH FL f na oa ln cn lo co cs cf N U s)) := by
  have HG := Lib.hid (run_w f na oa ln cn lo co cs cf sv SH FL i N U s w0 W T hb hi hv H)
  clear hb
  go_enter Tryz.func134, Tryz.ntmps134
  go_wp2_with (go_at_call 135; refine HG.out.mono ?_; rintro e w2 ⟨hfr, ⟨rfl, ho, hs⟩ | ⟨rfl, ho, hs⟩⟩)
  · have HO := Lib.hid ho
    have HS := Lib.hid hs
    have HF := Lib.hid hfr
    clear ho hs hfr
    go_end0
    exact ⟨HF.out, .inl ⟨rfl, HO.out, HS.out⟩⟩
  · exact ⟨rfl, hfr, .inr ⟨rfl, ho, hs⟩⟩

set_option maxRecDepth 100000 in
set_option maxHeartbeats 1000000 in
theorem att134_w (f : Int) (na oa : Option Addr) (ln cn lo co cs cf sv SH FL i pb ob : Nat) (N : Nat → N2) (U : Nat → O3) (s : Nat → Int) (w0 W : World) (T : Hid (Tre f na oa ln lo sv SH FL N U w0)) (hb : Below w0.heap.size w0 W) (hi : i < lo)
    (hv : Hid (Vd f ln lo N U s)) (H : Hid (SvS W sv SH FL f na oa ln cn lo co cs cf N U s)) (c1 : W.cell? ⟨pb, 0, none⟩ = some (.pointer (some ⟨sv, 0, none⟩))) (c2 : W.cell? ⟨ob, 0, none⟩ = some (.int .i64 (i : Int))) :
    Calls Tryz.prog 65 #[.func (.func 134) #[] #[.pointer (some ⟨pb, 0, none⟩), .pointer (some ⟨ob, 0, none⟩)]] W fun e W' => Frx [SH, FL] W W' ∧
      ((e = .returned (.int .i64 0) ∧ OkP f lo N U s i (U i).c ∧ SvS W' sv SH FL f na oa ln cn lo co cs cf N U (put s i (U i).c)) ∨
       (e = .returned (.int .i64 7) ∧ ¬ OkP f lo N U s i (U i).c ∧ SvS W' sv SH FL f na oa ln cn lo co cs cf N U s)) := by
  have hmf : ∀ (fn : Fn) (first cap : Array Value) (w : World), (Instr.makeFunc fn first cap).run Tryz.prog w = .ok (.func fn first cap) w := fun _ _ _ _ => rfl
  have hA : Below W.heap.size W (W.alloc (.cells #[.int .i64 0] 29)) := (Below.refl _ _).alloc (Nat.le_refl _) _
  have HG := Lib.hid (s134_w f na oa ln cn lo co cs cf sv SH FL i pb ob N U s w0 (W.alloc (.cells #[.int .i64 0] 29)) T (hb.trans (hA.mono hb.size)) hi hv (Lib.hid (H.out.below hA)) ((hA.cell (p := ⟨pb, 0, none⟩) (World.block_lt_of_cell? _ _ c1)).trans c1) ((hA.cell (p := ⟨ob, 0, none⟩) (World.block_lt_of_cell? _ _ c2)).trans c2))
  have hne : W.heap.size ≠ sv ∧ W.heap.size ≠ SH ∧ W.heap.size ≠ FL := ⟨by have := H.out.at_.bs; omega, by have := H.out.at_.bh; omega, by have := H.out.at_.bf; omega⟩
  have HC : Hid (∀ w1, Frx [SH, FL] (W.alloc (.cells #[.int .i64 0] 29)) w1 → w1.cell? ⟨W.heap.size, 0, none⟩ = some (.int .i64 0) ∧ w1.frozen? ⟨W.heap.size, 0, none⟩ = false) := Lib.hid fun w1 h =>
    ⟨(h.cell (by simp) (by simp; omega)).trans (by simp), (h.froz (by simp) (by simp; omega)).trans (by simp)⟩
  have HNE := Lib.hid hne
  clear hb c1 c2 hA hne
  go_enter_defers Tryz.func65, Tryz.ntmps65
  go_wp2_with (go_at_call 134; refine HG.out.mono ?_; rintro e w2 ⟨hfr, hcase⟩; obtain ⟨y1, y2⟩ := HC.out _ hfr; have HF := Lib.hid hfr; clear hfr; rcases hcase with ⟨rfl, ho, hs⟩ | ⟨rfl, ho, hs⟩ <;> (have HO := Lib.hid ho; have HS := Lib.hid hs; clear ho hs))
  · refine leaves_cons (f := 114) (args := #[.pointer (some ⟨W.heap.size, 0, none⟩)]) (by simp) (by simp [go_sem]) ?_
    refine (catch_none ⟨W.heap.size, 0, none⟩ _).mono ?_
    rintro e u' w'' ⟨rfl, rfl, rfl⟩
    have z1 : (w2.setCell ⟨W.heap.size, 0, none⟩ (.int .i64 0)).cell? ⟨W.heap.size, 0, none⟩ = some (.int .i64 0) := World.cell?_setCell_same' _ _ _ (by rw [y1]; rfl)
    simp [Leaves, settle, results, Tryz.results65, go_sem, z1]
    exact ⟨HF.out.al.setNew (Nat.le_refl _), HO.out, HS.out.setNew HNE.out.1 HNE.out.2.1 HNE.out.2.2⟩
  · refine leaves_cons (f := 114) (args := #[.pointer (some ⟨W.heap.size, 0, none⟩)]) (by simp) (by simp [go_sem]) ?_
    refine (catch_rate ⟨W.heap.size, 0, none⟩ 0 [] _ y1 y2).mono ?_
    rintro e u' w'' ⟨rfl, rfl, rfl⟩
    have z1 : (w2.setCell ⟨W.heap.size, 0, none⟩ (.int .i64 7)).cell? ⟨W.heap.size, 0, none⟩ = some (.int .i64 7) := World.cell?_setCell_same' _ _ _ (by rw [y1]; rfl)
    simp [Leaves, settle, results, Tryz.results65, go_sem, z1]
    exact ⟨HF.out.al.setNew (Nat.le_refl _), HO.out, HS.out.setNew HNE.out.1 HNE.out.2.1 HNE.out.2.2⟩

/-! a map from ints to bools -/
def mapE (L : List (Nat × Bool)) : List (Value × Value) := L.map fun p => (Value.int .i64 ((p.1 : Nat) : Int), Value.bool p.2)
/-- what a map tells of a number -/
def getB : List (Nat × Bool) → Nat → Bool
  | [], _ => false
  | p :: L, y => if p.1 = y then p.2 else getB L y
def MapB (w : World) (b : Nat) (L : List (Nat × Bool)) : Prop := ∃ (es : Array MapEntry) (c : Nat), w.heap[b]? = some (.map es c) ∧ es.toList.map (fun e => (e.key, e.val)) = mapE L
theorem fnow_val (y : Nat) : ∀ (es : List MapEntry) (L : List (Nat × Bool)) (i : Nat), es.map (fun e => (e.key, e.val)) = mapE L → ∃ r, Instr.findNow (.int .i64) (.int .i64 (y : Int)) es i = some r ∧ ((r = none ∧ y ∉ L.map Prod.fst ∧ getB L y = false) ∨ ∃ j, r = some (j, .bool (getB L y)) ∧ y ∈ L.map Prod.fst)
  | [], [], i, _ => ⟨none, rfl, .inl ⟨rfl, by simp, rfl⟩⟩
  | [], _ :: _, _, h => by simp [mapE] at h
  | _ :: _, [], _, h => by simp [mapE] at h
  | e :: es, p :: L, i, h => by
    simp only [mapE, List.map_cons, List.cons.injEq, Prod.mk.injEq] at h
    obtain ⟨⟨hk, hv⟩, hr⟩ := h
    by_cases hyp : p.1 = y
    · refine ⟨some (i, e.val), ?_, .inr ⟨i, by rw [hv]; simp [getB, hyp], by simp [hyp]⟩⟩
      have : ((y : Int) == (p.1 : Int)) = true := by rw [beq_iff_eq, hyp]
      simp [Instr.findNow, Instr.sameNow, hk, this]
    · obtain ⟨r, h1, h2⟩ := fnow_val y es L (i + 1) hr
      have hf : ((y : Int) == (p.1 : Int)) = false := by rw [beq_eq_false_iff_ne]; intro e; exact hyp (Int.ofNat.inj e).symm
      refine ⟨r, by simp [Instr.findNow, Instr.sameNow, hk, hf, h1], ?_⟩
      have hny : ¬ y = p.1 := fun e => hyp e.symm
      rcases h2 with ⟨a, b, c⟩ | ⟨j, a, b⟩
      · exact .inl ⟨a, by simp only [List.map_cons, List.mem_cons, not_or]; exact ⟨hny, b⟩, by rw [getB, if_neg hyp]; exact c⟩
      · exact .inr ⟨j, by rw [a, getB, if_neg hyp], List.mem_cons_of_mem _ b⟩
theorem chk3 (e : Bool) (n : Nat) (v : Int) (w : World) : (Instr.checkKey e (n + 1) 3 (.int .i64 v)).run Tryz.prog w = .ok () w := by
  rw [Instr.checkKey]
  simp [run_underlying Tryz.underlying3]
theorem MapB.look {w : World} {b : Nat} {L : List (Nat × Bool)} (h : MapB w b L) (y : Nat) : (Instr.lookup 150 (.map (some b)) (.int .i64 (y : Int)) false).run Tryz.prog w = .ok (.bool (getB L y)) w := by
  obtain ⟨es, c, h1, h2⟩ := h
  obtain ⟨r, hf, hr⟩ := fnow_val y es.toList L 0 h2
  have hf2 := MapKept.run_findKey (w := w) (kt := 3) Tryz.underlying3 hf
  have hz : (zeroValue 4).run Tryz.prog w = .ok (.bool false) w := by kernel_rfl
  have hc := chk3 es.isEmpty 9999 (y : Int) w
  rcases hr with ⟨rfl, _, hg⟩ | ⟨j, rfl, _⟩
  · rw [hg]
    simp [Instr.lookup, run_underlying Tryz.underlying150, MapKept.run_getObj_map h1, hc, hf2, hz, Result.andThen]
  · simp [Instr.lookup, run_underlying Tryz.underlying150, MapKept.run_getObj_map h1, hc, hf2, Result.andThen]
theorem MapB.lt {w : World} {b : Nat} {L : List (Nat × Bool)} (h : MapB w b L) : b < w.heap.size := by
  obtain ⟨es, c, h1, _⟩ := h
  exact (Array.getElem?_eq_some_iff.1 h1).1
theorem MapB.made (w : World) : MapB (w.alloc (.map #[] 0)) w.heap.size [] := ⟨#[], 0, (MapKept.heap_alloc w _).1, rfl⟩
theorem MapB.frx {w w' : World} {X : List Nat} {b : Nat} {L : List (Nat × Bool)} (h : MapB w b L) (hf : Frx X w w') (hb : b ∉ X) : MapB w' b L := by
  have hlt := h.lt
  obtain ⟨es, c, h1, h2⟩ := h
  exact ⟨es, c, (hf.block b hlt hb).trans h1, h2⟩
theorem MapB.put {w : World} {b : Nat} {L : List (Nat × Bool)} (h : MapB w b L) {y : Nat} (hy : y ∉ L.map Prod.fst) (v : Bool) :
    ∃ w', (Instr.mapUpdate 150 (.map (some b)) (.int .i64 (y : Int)) (.bool v)).run Tryz.prog w = .ok () w' ∧ MapB w' b (L ++ [(y, v)]) ∧ Frx [b] w w' := by
  have hlt := h.lt
  obtain ⟨es, c, h1, h2⟩ := h
  obtain ⟨r, hf, hr⟩ := fnow_val y es.toList L 0 h2
  obtain rfl : r = none := by
    rcases hr with ⟨rfl, _⟩ | ⟨j, _, hm⟩
    · rfl
    · exact absurd hm hy
  have hf2 := MapKept.run_findKey (w := w) (kt := 3) Tryz.underlying3 hf
  have hc := chk3 false 9999 (y : Int) w
  refine ⟨{ w with heap := w.heap.setIfInBounds b (.map (es.push ⟨.int .i64 (y : Int), .bool v, c⟩) (c + 1)) }, ?_, ⟨es.push ⟨.int .i64 (y : Int), .bool v, c⟩, c + 1, ?_, ?_⟩, ⟨rfl, rfl, rfl, by simp, fun k hk hx => ?_⟩⟩
  · simp [Instr.mapUpdate, run_underlying Tryz.underlying150, MapKept.run_getObj_map h1, hc, hf2, MapKept.run_setObj_map _ h1, Result.andThen]
  · show (w.heap.setIfInBounds b _)[b]? = _
    rw [Array.getElem?_setIfInBounds, if_pos rfl, if_pos hlt]
  · simp [h2, mapE]
  · show (w.heap.setIfInBounds b _)[k]? = _
    rw [Array.getElem?_setIfInBounds, if_neg (by simp at hx; omega)]
end Go.Kn

namespace Go.Kn
open Go Go.Proofs Go.RowKit

open Classical in
/-- one outlet more is tried -/
noncomputable def stp (f : Int) (lo : Nat) (N : Nat → N2) (U : Nat → O3) (acc : (Nat → Int) × List (Nat × Bool)) (i : Nat) : (Nat → Int) × List (Nat × Bool) :=
  if OkP f lo N U acc.1 i (U i).c then (put acc.1 i (U i).c, acc.2 ++ [(i, true)]) else (acc.1, acc.2 ++ [(i, false)])
/-- those that were tried, and what they get -/
noncomputable def grd (f : Int) (lo : Nat) (N : Nat → N2) (U : Nat → O3) (l : List Nat) : (Nat → Int) × List (Nat × Bool) := l.foldl (stp f lo N U) (fun _ => 0, [])
theorem grd_snoc (f : Int) (lo : Nat) (N : Nat → N2) (U : Nat → O3) (l : List Nat) (i : Nat) : grd f lo N U (l ++ [i]) = stp f lo N U (grd f lo N U l) i := by unfold grd; rw [List.foldl_append]; rfl
theorem stp_keys (f : Int) (lo : Nat) (N : Nat → N2) (U : Nat → O3) (acc : (Nat → Int) × List (Nat × Bool)) (i : Nat) : (stp f lo N U acc i).2.map Prod.fst = acc.2.map Prod.fst ++ [i] := by
  unfold stp; split <;> simp
theorem grd_keys (f : Int) (lo : Nat) (N : Nat → N2) (U : Nat → O3) : ∀ (l l0 : List Nat) (a : Nat → Int) (b : List (Nat × Bool)), b.map Prod.fst = l0 → (l.foldl (stp f lo N U) (a, b)).2.map Prod.fst = l0 ++ l
  | [], l0, a, b, h => by simp [h]
  | x :: l, l0, a, b, h => by
    have h1 := stp_keys f lo N U (a, b) x
    rw [List.foldl_cons]
    rcases hs : stp f lo N U (a, b) x with ⟨a', b'⟩
    rw [hs] at h1
    rw [grd_keys f lo N U l (l0 ++ [x]) a' b' (by rw [h1]; simp [h])]
    simp
theorem grd_fst (f : Int) (lo : Nat) (N : Nat → N2) (U : Nat → O3) (l : List Nat) : (grd f lo N U l).2.map Prod.fst = l := by
  have := grd_keys f lo N U l [] (fun _ => 0) [] rfl
  simpa [grd] using this
/-- who runs on a day -/
noncomputable def dayL (f : Int) (lo : Nat) (N : Nat → N2) (U : Nat → O3) (r : Nat → Int) : List Nat := (List.range lo).filter fun i => getB (grd f lo N U (ordL U r lo)).2 i
theorem selL_sub (lt : Nat → Nat → Bool) : ∀ (k : Nat) (l : List Nat) (y : Nat), y ∈ selL lt k l → y ∈ l
  | 0, _, _, h => by simp [selL] at h
  | _ + 1, [], _, h => by simp [selL] at h
  | k + 1, x :: xs, y, h => by
    rw [selL] at h
    rcases List.mem_cons.1 h with h | h
    · rw [h]; exact bestL_mem _ _ _
    · exact List.mem_of_mem_erase (selL_sub lt k _ y h)
theorem selL_nd (lt : Nat → Nat → Bool) : ∀ (k : Nat) (l : List Nat), l.Nodup → (selL lt k l).Nodup
  | 0, _, _ => by simp [selL]
  | _ + 1, [], _ => by simp [selL]
  | k + 1, x :: xs, h => by
    rw [selL, List.nodup_cons]
    refine ⟨fun hm => ?_, selL_nd lt k _ (h.erase _)⟩
    exact (h.mem_erase_iff.1 (selL_sub lt k _ _ hm)).1 rfl
theorem selL_len (lt : Nat → Nat → Bool) : ∀ (k : Nat) (l : List Nat), (selL lt k l).length ≤ k
  | 0, _ => by simp [selL]
  | _ + 1, [] => by simp [selL]
  | k + 1, x :: xs => by
    rw [selL, List.length_cons]
    have := selL_len lt k ((x :: xs).erase (bestL lt x xs))
    omega
theorem ordL_lt {U : Nat → O3} {r : Nat → Int} {lo y : Nat} (h : y ∈ ordL U r lo) : y < lo := List.mem_range.1 (selL_sub _ _ _ _ h)
theorem ordL_nd {U : Nat → O3} {r : Nat → Int} {lo : Nat} : (ordL U r lo).Nodup := selL_nd _ _ _ List.nodup_range
theorem take_new {l : List Nat} (hn : l.Nodup) {k : Nat} (hk : k < l.length) : l[k] ∉ l.take k := fun h => by
  obtain ⟨j, hj, he⟩ := List.getElem_of_mem h
  simp at hj
  rw [List.getElem_take] at he
  exact (List.pairwise_iff_getElem.1 hn) j k (by omega) hk (by omega) he

open Classical in
set_option maxRecDepth 100000 in
set_option maxHeartbeats 4000000 in
theorem nextDay_w (f : Int) (na oa ra : Option Addr) (ln cn lo co cr : Nat) (N : Nat → N2) (U : Nat → O3) (r : Nat → Int) (w : World) (HT : Hid (TreeP f ln lo N U)) (H : Hid (Tr7 w na oa ln lo N U)) (HR : Hid (IntSl w ra lo r)) :
    Calls Tryz.prog 92 #[.agg #[.int .i64 f, .slice na ln cn, .slice oa lo co], .slice ra lo cr] w fun e w' => (∃ v, e = .returned v ∧ w'.ownsRow w.heap.size 3 1 v (dayL f lo N U r).length ((dayL f lo N U r).map iv1)) ∧ Below w.heap.size w w' := by
  have hmf : ∀ (fn : Fn) (first cap : Array Value) (w : World), (Instr.makeFunc fn first cap).run Tryz.prog w = .ok (.func fn first cap) w := fun _ _ _ _ => rfl
  have hmm : ∀ w : World, (Instr.makeMap 150 none).run Tryz.prog w = .ok (.map (some w.heap.size)) (w.alloc (.map #[] 0)) := fun _ => rfl
  obtain ⟨i0, hi0, hz0, hz1, hz2⟩ := info_parts info3'
  have q1 := HT.out.l6
  have q2 := HT.out.lo2
  obtain ⟨WA, hWA⟩ : ∃ WA, WA = w.alloc (.cells #[.int .i64 f, .slice na ln cn, .slice oa lo co] 25) := ⟨_, rfl⟩
  have hA : Below w.heap.size w WA := by rw [hWA]; exact (Below.refl _ _).alloc (Nat.le_refl _) _
  have hz : WA.heap.size = w.heap.size + 1 := by rw [hWA]; simp
  have HX : Hid (∀ w2, Below WA.heap.size WA w2 → w2.cell? ⟨w.heap.size, 0, none⟩ = some (.int .i64 f) ∧ w2.cell? ⟨w.heap.size, 1, none⟩ = some (.slice na ln cn) ∧ w2.cell? ⟨w.heap.size, 2, none⟩ = some (.slice oa lo co)) := Lib.hid fun w2 h => by
    obtain ⟨c, _⟩ := bcell h
    exact ⟨(c _ _ (by omega)).trans (by rw [hWA]; simp), (c _ _ (by omega)).trans (by rw [hWA]; simp), (c _ _ (by omega)).trans (by rw [hWA]; simp)⟩
  have HU := Lib.hid (unserved_w f na oa ln cn lo co WA q1 q2)
  have HAA := Lib.hid hA
  have HZ := Lib.hid hz
  have HIN : Hid (∀ w2, Below WA.heap.size WA w2 → Calls Tryz.prog 133 #[.agg #[.int .i64 f, .slice na ln cn, .slice oa lo co], .slice ra lo cr] w2 fun e w' => (∃ v, e = .returned v ∧ w'.ownsRow w2.heap.size 3 1 v (ordL U r lo).length ((ordL U r lo).map iv1)) ∧ Below w2.heap.size w2 w') := Lib.hid fun w2 h => by
    have hb2 := HAA.out.trans (h.mono HAA.out.size)
    exact inTurn_w f na oa ra ln cn lo co cr N U r w2 (by omega) (Lib.hid (H.out.below hb2)) (Lib.hid (HR.out.below hb2))
  have HTW : Hid (Tr7 WA na oa ln lo N U) := Lib.hid (H.out.below HAA.out)
  obtain ⟨x1, x2, x3⟩ := HX.out WA (Below.refl _ _)
  clear hA hz H HR
  go_enter Tryz.func92, Tryz.ntmps92
  go_wp2_with (first
    | (go_at_call 64; rw [← hWA]; refine HU.out.mono ?_; rintro e w3 ⟨⟨sv, SH, FL, cs, cf, rfl, h1, h2, h3, h4⟩, hv⟩; have HSA := Lib.hid h1; have HV3 := Lib.hid hv; have HG := Lib.hid (And.intro h2 (And.intro h3 h4)); clear h1 h2 h3 h4 hv x1 x2 x3; have hb5 : Below WA.heap.size WA ((w3.alloc (.cells #[.pointer (some ⟨sv, 0, none⟩)] 90)).alloc (.map #[] 0)) := (HV3.out.alloc HV3.out.size _).alloc (by have := HV3.out.size; simp; omega) _; obtain ⟨x1, x2, x3⟩ := HX.out _ hb5)
    | (go_at_call 133; refine (HIN.out _ hb5).mono ?_; rintro e w6 ⟨⟨v, rfl, how⟩, hv6⟩; obtain ⟨sa, cc, rfl, hsl, hge⟩ := dayNew how; have HSL := Lib.hid hsl; have HGE := Lib.hid hge; have HV6 := Lib.hid hv6; clear how hsl hge hv6 x1 x2 x3))
  have HB5 := Lib.hid hb5
  clear hb5
  obtain ⟨l, hl⟩ : ∃ l, ordL U r lo = l := ⟨_, rfl⟩
  have HLT : Hid (∀ y ∈ l, y < lo) := Lib.hid fun y hy => ordL_lt (by rw [hl]; exact hy)
  have HND : Hid l.Nodup := Lib.hid (by rw [← hl]; exact ordL_nd)
  rw [hl] at HSL ⊢
  have HLL := Lib.hid hl
  obtain ⟨n, hn⟩ : ∃ n, l.length = n := ⟨_, rfl⟩
  have HN := Lib.hid hn
  rw [hn] at HSL ⊢
  have hn8 : n ≤ 8 := by have := selL_len (befI U r) lo (List.range lo); have e : (ordL U r lo).length = n := by rw [hl, hn]
                         unfold ordL at e; omega
  clear hl hn
  have b1 := HSA.out.bs
  have b2 := HSA.out.bh
  have b3 := HSA.out.bf
  obtain ⟨g1, g2, g3⟩ := HG.out
  have z6 := HV6.out.size
  simp only [World.size_alloc] at z6
  go_loopw [17] (fun ii wr => ∃ k : Nat, k ≤ n ∧ ii = .int .i64 (k : Int) ∧ Frx [SH, FL, w3.heap.size + 1] w6 wr ∧ SvS wr sv SH FL f na oa ln cn lo co cs cf N U (grd f lo N U (l.take k)).1 ∧ Vd f ln lo N U (grd f lo N U (l.take k)).1 ∧ MapB wr (w3.heap.size + 1) (grd f lo N U (l.take k)).2) (fun ii _ => n - (Go.RowKit.intOf ii).toNat)
  case atStart =>
    have a1 : SvAt ((w3.alloc (.cells #[.pointer (some ⟨sv, 0, none⟩)] 90)).alloc (.map #[] 0)) sv SH FL f na oa ln cn lo co cs cf (fun _ => 0) (fun _ => 0) := (HSA.out.below ((Below.refl _ _).alloc (Nat.le_refl _) _)).below ((Below.refl _ _).alloc (Nat.le_refl _) _)
    refine ⟨0, Nat.zero_le _, rfl, Frx.refl _ _, svs_zero (a1.below HV6.out), vd_zero HT.out, ?_⟩
    have m1 := MapB.made (w3.alloc (.cells #[.pointer (some ⟨sv, 0, none⟩)] 90))
    rw [World.size_alloc] at m1
    exact m1.frx (X := []) (Frx.of_below HV6.out) (by simp)
  case round =>
    obtain ⟨k, hk, rfl, hfr, hsv, hvd, hmp⟩ := hrel
    have HFR := Lib.hid hfr
    have HSV := Lib.hid hsv
    have HVD := Lib.hid hvd
    have HMP0 := Lib.hid hmp
    have zr := hfr.size
    clear hfr hsv hvd hmp
    by_cases hlt : k < n
    · have hkl : k < l.length := by have := HN.out; omega
      obtain ⟨i, hi⟩ : ∃ i, l[k] = i := ⟨_, rfl⟩
      have hil : i < lo := HLT.out i (by rw [← hi]; exact List.getElem_mem _)
      have HNK : Hid (i ∉ (grd f lo N U (l.take k)).2.map Prod.fst) := Lib.hid (by rw [grd_fst, ← hi]; exact take_new HND.out hkl)
      have htk : l.take (k + 1) = l.take k ++ [i] := by rw [List.take_add_one, List.getElem?_eq_getElem hkl, hi]; rfl
      obtain ⟨A, O, rfl, hA6, hN6⟩ := HSL.out.resolve_left (by omega)
      have hAB := HGE.out A O rfl
      simp only [World.size_alloc] at hAB
      have y1 : wr.cell? ⟨A, O + k, none⟩ = some (.int .i64 (i : Int)) := by
        rw [HFR.out.cell hA6 (by simp; omega), hN6 k hlt]
        simp [hkl, hi]
      have n1 : (0 : Int) ≤ (k : Int) := by omega
      have n2 : (k : Int) < (n : Int) := by omega
      have hA3 : Below wr.heap.size wr (wr.alloc (.cells #[.int .i64 (i : Int)] 3)) := (Below.refl _ _).alloc (Nat.le_refl _) _
      have hc0 : (wr.alloc (.cells #[.int .i64 (i : Int)] 3)).cell? ⟨wr.heap.size, 0, none⟩ = some (.int .i64 (i : Int)) := by simp
      have HA3 := Lib.hid hA3
      have HCS : Hid (∀ w7, Frx [SH, FL] (wr.alloc (.cells #[.int .i64 (i : Int)] 3)) w7 → w7.cell? ⟨wr.heap.size, 0, none⟩ = some (.int .i64 (i : Int))) := Lib.hid fun w7 h => (h.cell (by simp) (by simp; omega)).trans hc0
      have HMP : Hid (∀ w7, Frx [SH, FL] (wr.alloc (.cells #[.int .i64 (i : Int)] 3)) w7 → MapB w7 (w3.heap.size + 1) (grd f lo N U (l.take k)).2) := Lib.hid fun w7 h => (HMP0.out.frx (X := []) (Frx.of_below HA3.out) (by simp)).frx h (by simp; omega)
      have HTR : Hid (Hid (Tre f na oa ln lo sv SH FL N U WA) ∧ Below WA.heap.size WA (wr.alloc (.cells #[.int .i64 (i : Int)] 3)).drew ∧ Below wr.heap.size wr (wr.alloc (.cells #[.int .i64 (i : Int)] 3)).drew ∧ (wr.alloc (.cells #[.int .i64 (i : Int)] 3)).drew.cell? ⟨w3.heap.size, 0, none⟩ = some (.pointer (some ⟨sv, 0, none⟩))) := Lib.hid (by
        have c1 : w6.cell? ⟨w3.heap.size, 0, none⟩ = some (.pointer (some ⟨sv, 0, none⟩)) := (HV6.out.cell (p := ⟨w3.heap.size, 0, none⟩) (by simp; omega)).trans (by simp)
        have c2 : wr.cell? ⟨w3.heap.size, 0, none⟩ = some (.pointer (some ⟨sv, 0, none⟩)) := (HFR.out.cell (by omega) (by simp; omega)).trans c1
        have c3 := (HA3.out.cell (p := ⟨w3.heap.size, 0, none⟩) (by show w3.heap.size < _; omega)).trans c2
        have hz3 := HV3.out.size
        have h6 : Below WA.heap.size WA w6 := HB5.out.trans (HV6.out.mono HB5.out.size)
        have hr : Below WA.heap.size WA wr := h6.trans (HFR.out.below h6.size (by simp; omega))
        exact ⟨Lib.hid ⟨HT.out, HTW.out, g1, g2, g3⟩, below_drew (hr.trans (HA3.out.mono hr.size)), below_drew HA3.out, c3⟩)
      have HTK := Lib.hid htk
      clear hA6 hN6 hAB hA3 htk hi
      by_cases hok : OkP f lo N U (grd f lo N U (l.take k)).1 i (U i).c
      · have HOK := Lib.hid hok
        have HGR : Hid (grd f lo N U (l.take k ++ [i]) = (put (grd f lo N U (l.take k)).1 i (U i).c, (grd f lo N U (l.take k)).2 ++ [(i, true)])) := Lib.hid (by rw [grd_snoc]; unfold stp; rw [if_pos hok])
        have HVN : Hid (Vd f ln lo N U (put (grd f lo N U (l.take k)).1 i (U i).c)) := Lib.hid (HVD.out.put hil (by have := (tree_o HT.out hil).2.1; omega) hok)
        clear hok
        have HAT : Hid (Calls Tryz.prog 65 #[.func (.func 134) #[] #[.pointer (some ⟨w3.heap.size, 0, none⟩), .pointer (some ⟨wr.heap.size, 0, none⟩)]] (wr.alloc (.cells #[.int .i64 (i : Int)] 3)).drew fun e W' => e = .returned (.int .i64 0) ∧ Frx [SH, FL] (wr.alloc (.cells #[.int .i64 (i : Int)] 3)) W' ∧ SvS W' sv SH FL f na oa ln cn lo co cs cf N U (put (grd f lo N U (l.take k)).1 i (U i).c)) := Lib.hid (by
          refine (att134_w f na oa ln cn lo co cs cf sv SH FL i w3.heap.size wr.heap.size N U (grd f lo N U (l.take k)).1 WA _ HTR.out.1 HTR.out.2.1 hil HVD (Lib.hid (HSV.out.below HTR.out.2.2.1)) HTR.out.2.2.2 hc0).mono ?_
          rintro e W' ⟨hf, ⟨h1, h2, h3⟩ | ⟨h1, h2, h3⟩⟩
          · exact ⟨h1, (Frx.of_below (below_drew (Below.refl _ _))).trans hf, h3⟩
          · exact absurd HOK.out h2)
        clear HTR
        go_wp2
        refine wp_region_held_drew (S := fun w' => w'.cell? ⟨wr.heap.size, 0, none⟩ = some (.int .i64 (i : Int))) (by kernel_rfl) hc0 (fun hHeld => ?_)
        refine wpAnyH_take (i := 0) (oi := ({ dst := some 21, op := Go.Op.move (Go.Operand.tmp 6), type := 150, pos := "turns.go:32", after := #[], guard := none } : Go.Oper)) (v := ?_) rfl (by kernel_rfl) (by kernel_rfl) (by kernel_rfl) (fun _ _ _ h => h) (Or.inl ⟨by rfl, ?_⟩) (by assumption) ?_
        rotate_left
        focus (intro w hSw; (try dsimp only at hSw); go_simp; first | done | with_reducible rfl)
        (try simp only [Act.put, List.setIfInBounds_toArray, List.set_cons_zero, List.set_cons_succ])
        refine wpAnyH_take (i := 1) (oi := ({ dst := some 22, op := Go.Op.load 3 (Go.Operand.tmp 8), type := 3, pos := "turns.go:32", after := #[], guard := none } : Go.Oper)) (v := ?_) rfl (by kernel_rfl) (by kernel_rfl) (by kernel_rfl) (fun _ _ _ h => h) (Or.inl ⟨by rfl, ?_⟩) (by assumption) ?_
        rotate_left
        focus (intro w hSw; (try dsimp only at hSw); go_simp; first | done | with_reducible rfl)
        (try simp only [Act.put, List.setIfInBounds_toArray, List.set_cons_zero, List.set_cons_succ])
        refine wpAnyH_take (i := 2) (oi := ({ dst := some 23, op := Go.Op.makeFunc (Go.Fn.func 134) #[] #[Go.Operand.tmp 5, Go.Operand.tmp 8], type := 1, pos := "turns.go:32", after := #[], guard := none } : Go.Oper)) (v := ?_) rfl (by kernel_rfl) (by kernel_rfl) (by kernel_rfl) (fun _ _ _ h => h) (Or.inl ⟨by rfl, ?_⟩) (by assumption) ?_
        rotate_left
        focus (intro w hSw; (try dsimp only at hSw); go_simp; first | done | with_reducible rfl)
        (try simp only [Act.put, List.setIfInBounds_toArray, List.set_cons_zero, List.set_cons_succ])
        refine wpAnyH_ready (rs := [3]) (by kernel_rfl) (by simp) ?_
        refine AllReadyH.cons (o := ({ dst := some 24, op := Go.Op.call { callee := Go.Callee.value (Go.Operand.func 65), args := #[Go.Operand.tmp 23], argTypes := #[1] }, type := 29, pos := "turns.go:32", after := #[{ on := 2, ground := Go.Ground.data }], guard := none } : Go.Oper)) rfl (fun K hK => ?_) AllReadyH.nil
        go_simp
        go_at_call 65; refine HAT.out.mono ?_; rintro e w7 ⟨rfl, hf7, hs7⟩; have HF7 := Lib.hid hf7; have HS7 := Lib.hid hs7; clear hf7 hs7; obtain ⟨w8, hmu, hm8, hf8⟩ := MapB.put (v := true) (HMP.out _ HF7.out) HNK.out; have HM8 := Lib.hid hm8; have HF8 := Lib.hid hf8; clear hm8 hf8; go_simp
        refine hK.out _ _ (HCS.out _ HF7.out) (fun hHeld => ?_)
        clear hK K
        (try simp only [Act.put, List.setIfInBounds_toArray, List.set_cons_zero, List.set_cons_succ])
        refine wpAnyH_take (i := 4) (oi := ({ dst := some 25, op := Go.Op.binOp Go.BinOp.eql 29 (Go.Operand.tmp 24) (Go.Operand.const (Go.Value.int Go.IntKind.i64 0)) 29, type := 4, pos := "turns.go:32", after := #[{ on := 3, ground := Go.Ground.data }], guard := none } : Go.Oper)) (v := ?_) rfl (by kernel_rfl) (by kernel_rfl) (by kernel_rfl) (fun _ _ _ h => h) (Or.inl ⟨by rfl, ?_⟩) (by assumption) ?_
        rotate_left
        focus (intro w hSw; (try dsimp only at hSw); go_simp; first | done | with_reducible rfl)
        (try simp only [Act.put, List.setIfInBounds_toArray, List.set_cons_zero, List.set_cons_succ])
        refine wpAnyH_ready (rs := [5]) (by kernel_rfl) (by simp) ?_
        refine AllReadyH.cons (o := ({ dst := none, op := Go.Op.mapUpdate 150 (Go.Operand.tmp 21) (Go.Operand.tmp 22) (Go.Operand.tmp 25), type := 0, pos := "turns.go:32", after := #[{ on := 0, ground := Go.Ground.data }, { on := 1, ground := Go.Ground.data }, { on := 4, ground := Go.Ground.data }, { on := 3, ground := Go.Ground.chain }, { on := 0, ground := Go.Ground.phase }, { on := 1, ground := Go.Ground.phase }, { on := 2, ground := Go.Ground.phase }, { on := 3, ground := Go.Ground.phase }, { on := 4, ground := Go.Ground.phase }], guard := none } : Go.Oper)) rfl (fun K hK => ?_) AllReadyH.nil
        go_simp
        refine hK.out _ _ ((HF8.out.cell (by have := HF7.out.size; simp at this; omega) (by simp; omega)).trans (HCS.out _ HF7.out)) (fun hHeld => ?_)
        clear hK K
        (try simp only [Act.put, List.setIfInBounds_toArray, List.set_cons_zero, List.set_cons_succ])
        refine wpAnyH_done (by kernel_rfl) ?_ _
        go_wp2
        go_roundw
        case rel =>
          have f0 : Frx [SH, FL, w3.heap.size + 1] w6 w8 := (HFR.out.trans (Frx.of_below (HA3.out))).trans ((HF7.out.sub (by intro q hq _; simp at hq ⊢; omega)).trans (HF8.out.sub (by intro q hq _; simp at hq ⊢; omega)))
          refine ⟨k + 1, by omega, by go_num, f0, ?_, ?_, ?_⟩
          · rw [HTK.out, HGR.out]; exact ⟨HS7.out.at_.fr HF8.out (by simp; omega) (by simp; omega) (by simp; omega)⟩
          · rw [HTK.out, HGR.out]; exact HVN.out
          · rw [HTK.out, HGR.out]; exact HM8.out
        case measure => simp [Go.RowKit.intOf]; omega

      · have HOK := Lib.hid hok
        have HGR : Hid (grd f lo N U (l.take k ++ [i]) = ((grd f lo N U (l.take k)).1, (grd f lo N U (l.take k)).2 ++ [(i, false)])) := Lib.hid (by rw [grd_snoc]; unfold stp; rw [if_neg hok])
        have HVN : Hid (Vd f ln lo N U (grd f lo N U (l.take k)).1) := HVD
        clear hok
        have HAT : Hid (Calls Tryz.prog 65 #[.func (.func 134) #[] #[.pointer (some ⟨w3.heap.size, 0, none⟩), .pointer (some ⟨wr.heap.size, 0, none⟩)]] (wr.alloc (.cells #[.int .i64 (i : Int)] 3)).drew fun e W' => e = .returned (.int .i64 7) ∧ Frx [SH, FL] (wr.alloc (.cells #[.int .i64 (i : Int)] 3)) W' ∧ SvS W' sv SH FL f na oa ln cn lo co cs cf N U (grd f lo N U (l.take k)).1) := Lib.hid (by
          refine (att134_w f na oa ln cn lo co cs cf sv SH FL i w3.heap.size wr.heap.size N U (grd f lo N U (l.take k)).1 WA _ HTR.out.1 HTR.out.2.1 hil HVD (Lib.hid (HSV.out.below HTR.out.2.2.1)) HTR.out.2.2.2 hc0).mono ?_
          rintro e W' ⟨hf, ⟨h1, h2, h3⟩ | ⟨h1, h2, h3⟩⟩
          · exact absurd h2 HOK.out
          · exact ⟨h1, (Frx.of_below (below_drew (Below.refl _ _))).trans hf, h3⟩)
        clear HTR
        go_wp2
        refine wp_region_held_drew (S := fun w' => w'.cell? ⟨wr.heap.size, 0, none⟩ = some (.int .i64 (i : Int))) (by kernel_rfl) hc0 (fun hHeld => ?_)
        refine wpAnyH_take (i := 0) (oi := ({ dst := some 21, op := Go.Op.move (Go.Operand.tmp 6), type := 150, pos := "turns.go:32", after := #[], guard := none } : Go.Oper)) (v := ?_) rfl (by kernel_rfl) (by kernel_rfl) (by kernel_rfl) (fun _ _ _ h => h) (Or.inl ⟨by rfl, ?_⟩) (by assumption) ?_
        rotate_left
        focus (intro w hSw; (try dsimp only at hSw); go_simp; first | done | with_reducible rfl)
        (try simp only [Act.put, List.setIfInBounds_toArray, List.set_cons_zero, List.set_cons_succ])
        refine wpAnyH_take (i := 1) (oi := ({ dst := some 22, op := Go.Op.load 3 (Go.Operand.tmp 8), type := 3, pos := "turns.go:32", after := #[], guard := none } : Go.Oper)) (v := ?_) rfl (by kernel_rfl) (by kernel_rfl) (by kernel_rfl) (fun _ _ _ h => h) (Or.inl ⟨by rfl, ?_⟩) (by assumption) ?_
        rotate_left
        focus (intro w hSw; (try dsimp only at hSw); go_simp; first | done | with_reducible rfl)
        (try simp only [Act.put, List.setIfInBounds_toArray, List.set_cons_zero, List.set_cons_succ])
        refine wpAnyH_take (i := 2) (oi := ({ dst := some 23, op := Go.Op.makeFunc (Go.Fn.func 134) #[] #[Go.Operand.tmp 5, Go.Operand.tmp 8], type := 1, pos := "turns.go:32", after := #[], guard := none } : Go.Oper)) (v := ?_) rfl (by kernel_rfl) (by kernel_rfl) (by kernel_rfl) (fun _ _ _ h => h) (Or.inl ⟨by rfl, ?_⟩) (by assumption) ?_
        rotate_left
        focus (intro w hSw; (try dsimp only at hSw); go_simp; first | done | with_reducible rfl)
        (try simp only [Act.put, List.setIfInBounds_toArray, List.set_cons_zero, List.set_cons_succ])
        refine wpAnyH_ready (rs := [3]) (by kernel_rfl) (by simp) ?_
        refine AllReadyH.cons (o := ({ dst := some 24, op := Go.Op.call { callee := Go.Callee.value (Go.Operand.func 65), args := #[Go.Operand.tmp 23], argTypes := #[1] }, type := 29, pos := "turns.go:32", after := #[{ on := 2, ground := Go.Ground.data }], guard := none } : Go.Oper)) rfl (fun K hK => ?_) AllReadyH.nil
        go_simp
        go_at_call 65; refine HAT.out.mono ?_; rintro e w7 ⟨rfl, hf7, hs7⟩; have HF7 := Lib.hid hf7; have HS7 := Lib.hid hs7; clear hf7 hs7; obtain ⟨w8, hmu, hm8, hf8⟩ := MapB.put (v := false) (HMP.out _ HF7.out) HNK.out; have HM8 := Lib.hid hm8; have HF8 := Lib.hid hf8; clear hm8 hf8; go_simp
        refine hK.out _ _ (HCS.out _ HF7.out) (fun hHeld => ?_)
        clear hK K
        (try simp only [Act.put, List.setIfInBounds_toArray, List.set_cons_zero, List.set_cons_succ])
        refine wpAnyH_take (i := 4) (oi := ({ dst := some 25, op := Go.Op.binOp Go.BinOp.eql 29 (Go.Operand.tmp 24) (Go.Operand.const (Go.Value.int Go.IntKind.i64 0)) 29, type := 4, pos := "turns.go:32", after := #[{ on := 3, ground := Go.Ground.data }], guard := none } : Go.Oper)) (v := ?_) rfl (by kernel_rfl) (by kernel_rfl) (by kernel_rfl) (fun _ _ _ h => h) (Or.inl ⟨by rfl, ?_⟩) (by assumption) ?_
        rotate_left
        focus (intro w hSw; (try dsimp only at hSw); go_simp; first | done | with_reducible rfl)
        (try simp only [Act.put, List.setIfInBounds_toArray, List.set_cons_zero, List.set_cons_succ])
        refine wpAnyH_ready (rs := [5]) (by kernel_rfl) (by simp) ?_
        refine AllReadyH.cons (o := ({ dst := none, op := Go.Op.mapUpdate 150 (Go.Operand.tmp 21) (Go.Operand.tmp 22) (Go.Operand.tmp 25), type := 0, pos := "turns.go:32", after := #[{ on := 0, ground := Go.Ground.data }, { on := 1, ground := Go.Ground.data }, { on := 4, ground := Go.Ground.data }, { on := 3, ground := Go.Ground.chain }, { on := 0, ground := Go.Ground.phase }, { on := 1, ground := Go.Ground.phase }, { on := 2, ground := Go.Ground.phase }, { on := 3, ground := Go.Ground.phase }, { on := 4, ground := Go.Ground.phase }], guard := none } : Go.Oper)) rfl (fun K hK => ?_) AllReadyH.nil
        go_simp
        refine hK.out _ _ ((HF8.out.cell (by have := HF7.out.size; simp at this; omega) (by simp; omega)).trans (HCS.out _ HF7.out)) (fun hHeld => ?_)
        clear hK K
        (try simp only [Act.put, List.setIfInBounds_toArray, List.set_cons_zero, List.set_cons_succ])
        refine wpAnyH_done (by kernel_rfl) ?_ _
        go_wp2
        go_roundw
        case rel =>
          have f0 : Frx [SH, FL, w3.heap.size + 1] w6 w8 := (HFR.out.trans (Frx.of_below (HA3.out))).trans ((HF7.out.sub (by intro q hq _; simp at hq ⊢; omega)).trans (HF8.out.sub (by intro q hq _; simp at hq ⊢; omega)))
          refine ⟨k + 1, by omega, by go_num, f0, ?_, ?_, ?_⟩
          · rw [HTK.out, HGR.out]; exact ⟨HS7.out.at_.fr HF8.out (by simp; omega) (by simp; omega) (by simp; omega)⟩
          · rw [HTK.out, HGR.out]; exact HVN.out
          · rw [HTK.out, HGR.out]; exact HM8.out
        case measure => simp [Go.RowKit.intOf]; omega

    · obtain rfl : k = n := by omega
      obtain ⟨w9, hw9⟩ : ∃ w9, w9 = wr := ⟨_, rfl⟩
      subst hw9
      have HTA : Hid (l.take k = l) := Lib.hid (by rw [← HN.out]; exact List.take_length)
      obtain ⟨G, hG⟩ : ∃ G, (grd f lo N U l).2 = G := ⟨_, rfl⟩
      have HM : Hid (MapB w9 (w3.heap.size + 1) G) := Lib.hid (by have h := HMP0.out; rw [HTA.out, hG] at h; exact h)
      have HDL : Hid (dayL f lo N U r = (List.range lo).filter fun i => getB G i) := Lib.hid (by unfold dayL; rw [HLL.out, hG])
      have h6 : Below WA.heap.size WA w6 := HB5.out.trans (HV6.out.mono HB5.out.size)
      have hz3 := HV3.out.size
      have HBR : Hid (Below WA.heap.size WA w9) := Lib.hid (h6.trans (HFR.out.below h6.size (by simp; omega)))
      have HXX : Hid (∀ w2, Below w9.heap.size w9 w2 → w2.cell? ⟨w.heap.size, 2, none⟩ = some (.slice oa lo co)) := Lib.hid fun w2 h => (HX.out w2 (HBR.out.trans (h.mono HBR.out.size))).2.2
      have x3 := HXX.out w9 (Below.refl _ _)
      clear hG h6
      go_wp2
      clear x3
      go_loopw [4, 30] (fun v ii wq => ∃ k m : Nat, k ≤ lo ∧ ii = .int .i64 (k : Int) ∧ ((List.range k).filter fun i => getB G i).length = m ∧ wq.ownsRow w9.heap.size 3 1 v m (((List.range k).filter fun i => getB G i).map iv1) ∧ Below w9.heap.size w9 wq) (fun _ ii _ => lo - (Go.RowKit.intOf ii).toNat)
      case atStart => exact ⟨0, 0, Nat.zero_le _, rfl, rfl, ⟨rfl, .inl ⟨rfl, rfl⟩⟩, Below.refl _ _⟩
      case round =>
        obtain ⟨j, m, hj, rfl, hm, hown, hbr⟩ := hrel
        have HOW := Lib.hid hown
        have HBQ := Lib.hid hbr
        have HMM := Lib.hid hm
        have hm8 : m ≤ 8 := by
          have := List.length_filter_le (fun i => getB G i) (List.range j)
          simp at this
          omega
        have hlk : (Instr.lookup 150 (.map (some (w3.heap.size + 1))) (.int .i64 (j : Int)) false).run Tryz.prog wr = .ok (.bool (getB G j)) wr := (HM.out.frx (X := []) (Frx.of_below HBQ.out) (by simp)).look j
        have hfl : (List.range (j + 1)).filter (fun i => getB G i) = (List.range j).filter (fun i => getB G i) ++ (if getB G j then [j] else []) := by
          rw [List.range_succ, List.filter_append]
          congr 1
          cases h : getB G j <;> simp [h]
        have HFL := Lib.hid hfl
        have hsz := hbr.size
        clear hown hbr hm hfl
        by_cases hlt2 : j < lo
        · have n1 : (0 : Int) ≤ (j : Int) := by omega
          have n2 : (j : Int) < (lo : Int) := by omega
          cases hg : getB G j with
          | true =>
            rw [hg] at hlk HFL
            clear hg
            go_wp2_with (at_builtin; refine wpList_append_own_at _ rfl (.tmp 36) (.tmp 38) 26 rfl w9.heap.size 3 i0 (.int .i64 0) 1 8 Tryz.underlying26 hi0 hz0 hz1 hz2 rfl (by decide) _ m _ rfl (HOW.out.alloc _) ⟨_, 0, none⟩ 1 1 [.int .i64 (j : Int)] rfl rfl (lies_any (by first | exact al_top rfl _ _ | exact al_top (by simp) _ _)) (by intro u hu; simp at hu; subst hu; rfl) (by unfold maxLen; omega) (by omega) (by simp; omega) ?_; intro v7 w7 hown7 hgrow7 _ hloc7)
            go_roundw
            case rel => exact ⟨j + 1, m + 1, by omega, by go_num, by rw [HFL.out, List.length_append, HMM.out]; rfl, by rw [HFL.out, List.map_append]; exact hown7, (HBQ.out.alloc HBQ.out.size _).grown hgrow7 (by have := HBQ.out.size; simp; omega) (fun r e => own_ge HOW.out r e)⟩
            case measure => simp [Go.RowKit.intOf]; omega
          | false =>
            rw [hg] at hlk HFL
            clear hg
            go_wp2
            go_roundw
            case rel => exact ⟨j + 1, m, by omega, by go_num, by rw [HFL.out]; simpa using HMM.out, by rw [HFL.out]; simpa using HOW.out, HBQ.out⟩
            case measure => simp [Go.RowKit.intOf]; omega
        · obtain rfl : j = lo := by omega
          clear hlk
          go_wp2
          go_ret
          refine ⟨⟨_, rfl, ?_⟩, HAA.out.trans ((HBR.out.trans (HBQ.out.mono HBR.out.size)).mono HAA.out.size)⟩
          rw [HDL.out, HMM.out]
          exact owns_base HOW.out (by have := HBR.out.size; have := HZ.out; omega)
end Go.Kn
