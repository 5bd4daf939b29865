/- Contracts of functions that the laws of this seat call, or the evaluator of closed calls and its runs. Conditions: as each theorem states them. -/
import Derived.Test.YtpfbfdcpibajoaaGreatDoorHG
import Derived.Test.YtpfbfdcpibajoaaGreatDoorIW
set_option linter.unusedVariables false
set_option linter.unusedSimpArgs false
namespace Go.Kn
open Go Go.Proofs Go.RowKit

/-- the cells of one node -/
def ndc (x : N2) : Nat → Value
  | 0 => .int .i64 x.p
  | _ => .int .i64 x.c

def ndCells (N : Nat → N2) (ln : Nat) : List Value := (List.range (ln * 2)).map fun j => ndc (N (j / 2)) (j % 2)
theorem ndCells_len (N : Nat → N2) (ln : Nat) : (ndCells N ln).length = ln * 2 := by simp [ndCells]
theorem ndCells_get {N : Nat → N2} {ln j : Nat} (h : j < ln * 2) : (ndCells N ln)[j]? = some (ndc (N (j / 2)) (j % 2)) := by simp [ndCells, h]
theorem ndCells_one (N : Nat → N2) (ln : Nat) : ∀ u ∈ ndCells N ln, u.oneCell' = true := by
  intro u hu
  simp only [ndCells, List.mem_map] at hu
  obtain ⟨j, _, rfl⟩ := hu
  unfold ndc
  split <;> rfl
theorem NdAt.cellOf {w : World} {A O ln : Nat} {N : Nat → N2} (h : NdAt w A O ln N) {j : Nat} (hj : j < ln * 2) : w.cell? ⟨A, O + j, none⟩ = some (ndc (N (j / 2)) (j % 2)) := by
  obtain ⟨q, r, hr, rfl⟩ : ∃ q r, r < 2 ∧ j = q * 2 + r := ⟨j / 2, j % 2, Nat.mod_lt _ (by omega), by omega⟩
  rw [show (q * 2 + r) / 2 = q by omega, show (q * 2 + r) % 2 = r by omega]
  obtain ⟨h0, h1⟩ := h q (by omega)
  match r, hr with
  | 0, _ => exact h0
  | 1, _ => exact h1
theorem addr_add (B O j : Nat) : (⟨B, O, none⟩ : Addr).add j = ⟨B, O + j, none⟩ := by
  unfold Addr.add
  split
  · rename_i h; subst h; rfl
  · rfl
theorem NdAt.news {w : World} {A O ln : Nat} {N : Nat → N2} (h : NdAt w A O ln N) : ∀ (j : Nat) (u : Value), (ndCells N ln)[j]? = some u → w.cell? ((⟨A, O, none⟩ : Addr).add j) = some u := by
  intro j u hu
  have hj : j < ln * 2 := by
    have := (List.getElem?_eq_some_iff.1 hu).1
    rwa [ndCells_len] at this
  rw [ndCells_get hj] at hu
  rw [addr_add, ← hu]
  exact h.cellOf hj

/-- nodes in a block of one's own, that can be written -/
structure NdOwn (w : World) (base g ln : Nat) (N : Nat → N2) : Prop where
  lo : base ≤ g
  lt : g < w.heap.size
  at_ : NdAt w g 0 ln N
  fr : ∀ i, i < ln → w.frozen? ⟨g, i * 2 + 1, none⟩ = false
theorem NdOwn.of {w : World} {base ln : Nat} {v : Value} {N : Nat → N2} (h : w.ownsRow base 98 2 v ln (ndCells N ln)) (h0 : 0 < ln) : ∃ g cap, v = .slice (some ⟨g, 0, none⟩) ln cap ∧ NdOwn w base g ln N := by
  rcases h.2 with ⟨h1, h2⟩ | ⟨g, cap, cur, h1, hb, hg, hn, hc, hs, hx⟩
  · omega
  · refine ⟨g, cap, h1, hb, (Array.getElem?_eq_some_iff.1 hg).1, ?_, fun i hi => by simp [World.frozen?, hg]⟩
    have hc : ∀ j, j < ln * 2 → w.cell? ⟨g, j, none⟩ = some (ndc (N (j / 2)) (j % 2)) := fun j hj => by
      have h2 := ndCells_get (N := N) hj
      rw [← hx, List.getElem?_take, if_pos hj] at h2
      simp only [Array.getElem?_toList] at h2
      simp [World.cell?, hg, h2]
    intro i hi
    have e : ∀ r, r < 2 → w.cell? ⟨g, 0 + i * 2 + r, none⟩ = some (ndc (N i) r) := fun r hr => by
      have := hc (i * 2 + r) (by omega)
      rw [show (i * 2 + r) / 2 = i by omega, show (i * 2 + r) % 2 = r by omega] at this
      rw [Nat.zero_add]; exact this
    exact ⟨e 0 (by omega), e 1 (by omega)⟩

/-- the nodes, of which the one behind the source and j others has a capacity that is greater by 1 -/
def upC (N : Nat → N2) (j : Nat) : Nat → N2 := fun i => if i = j then { N i with c := (N i).c + 1 } else N i
theorem NdAt.upd {w : World} {g ln j : Nat} {N : Nat → N2} (h : NdAt w g 0 ln N) (hj : j < ln) : NdAt (w.setCell ⟨g, j * 2 + 1, none⟩ (.int .i64 ((N j).c + 1))) g 0 ln (upC N j) := by
  intro i hi
  obtain ⟨h0, h1⟩ := h i hi
  have hne : ∀ a : Nat, a ≠ j * 2 + 1 → (w.setCell ⟨g, j * 2 + 1, none⟩ (.int .i64 ((N j).c + 1))).cell? ⟨g, a, none⟩ = w.cell? ⟨g, a, none⟩ := fun a h => World.cell?_setCell_other _ _ _ _ (by intro e; cases e; exact h rfl)
  simp only [Nat.zero_add] at *
  unfold upC
  by_cases e : i = j
  · subst e
    rw [if_pos rfl]
    exact ⟨(hne _ (by omega)).trans h0, World.cell?_setCell_same' _ _ _ (by rw [h1]; rfl)⟩
  · rw [if_neg e]
    exact ⟨(hne _ (by omega)).trans h0, (hne _ (by omega)).trans h1⟩
theorem NdAt.far {w : World} {g ln : Nat} {N : Nat → N2} (h : NdAt w g 0 ln N) {B : Nat} (hB : B ≠ g) (o : Nat) (v : Value) : NdAt (w.setCell ⟨B, o, none⟩ v) g 0 ln N := fun i hi => by
  obtain ⟨h0, h1⟩ := h i hi
  exact ⟨(World.cell?_setCell_far _ _ _ _ hB).trans h0, (World.cell?_setCell_far _ _ _ _ hB).trans h1⟩

theorem info98 : (Tryz.prog.info? 98).map (fun i => (i.zero, i.size, i.bytes)) = some (some (.agg #[.int .i64 0, .int .i64 0]), 2, 16) := by kernel_rfl
theorem eqnil22 (B O n c : Nat) (w : World) : (binOp BinOp.eql 22 (Value.slice (some ⟨B, O, none⟩) n c) (Value.slice none 0 0)).run Tryz.prog w = .ok (.bool false) w := by
  first | kernel_rfl | (simp [binOp, go_sem])

set_option maxRecDepth 100000 in
set_option maxHeartbeats 2000000 in
/-- slices.Clone of nodes -/
theorem cloneN_w (A O n cs : Nat) (N : Nat → N2) (hn1 : 1 ≤ n) (hn : n ≤ 1000000) (w : World) (hA : A < w.heap.size) (hc : Hid (NdAt w A O n N)) :
    Calls Tryz.prog 124 #[.slice (some ⟨A, O, none⟩) n cs] w
      fun e w' => (∃ g cap, e = .returned (.slice (some ⟨g, 0, none⟩) n cap) ∧ NdOwn w' w.heap.size g n N) ∧ Below w.heap.size w w' := by
  obtain ⟨i0, hi, hz0, hz1, hz2⟩ := info_parts info98
  have HN : Hid (∀ o : Obj, ∀ (j : Nat) (u : Value), (ndCells N n)[j]? = some u → (w.alloc o).cell? ((⟨A, O, none⟩ : Addr).add j) = some u) := Lib.hid fun o => (hc.out.below hA ((Below.refl _ _).alloc (Nat.le_refl _) _)).news
  have hnil := eqnil22 A O n cs
  go_enter Tryz.func124, Tryz.ntmps124
  go_wp2_with (at_builtin; refine wpList_append_own _ rfl _ _ 22 rfl w.heap.size 98 i0 _ 2 16 Tryz.underlying22 hi hz0 hz1 hz2 rfl (by decide) (.slice (some ⟨w.heap.size, 0, none⟩) 0 0) 0 [] rfl (World.ownsRow_lit (e := 98) (size := 2) w #[] 0 (Nat.le_refl _) (by decide) rfl) ⟨A, O, none⟩ n cs (ndCells N n) rfl (ndCells_len N n) (HN.out _) (ndCells_one N n) (by unfold maxLen; omega) (by omega) (by simp) ?_; intro v' w7 hown7 hgrow7 _)
  rw [Nat.zero_add, List.nil_append] at hown7
  obtain ⟨g, cap, rfl, ho⟩ := NdOwn.of hown7 hn1
  go_ret
  exact ⟨⟨g, cap, rfl, ho⟩, ((Below.refl _ _).alloc (Nat.le_refl _) _).grown hgrow7 (by simp) (fun k e => by simp [Value.ownBlock] at e; omega)⟩
end Go.Kn

namespace Go.Kn
open Go Go.Proofs Go.RowKit

/-- the inflow, if the node 0 is widened -/
def upF (f : Int) (k : Nat) : Int := if k = 0 then f + 1 else f
/-- the nodes, if a node is widened -/
def upN (N : Nat → N2) (k : Nat) : Nat → N2 := fun i => if k = i + 1 then { N i with c := (N i).c + 1 } else N i
theorem upN_zero (N : Nat → N2) : upN N 0 = N := by funext i; simp [upN]
theorem upN_succ (N : Nat → N2) (j : Nat) : upN N (j + 1) = upC N j := by
  funext i
  unfold upN upC
  by_cases h : i = j
  · subst h; simp
  · rw [if_neg h, if_neg (by omega)]
theorem upN_p {N : Nat → N2} {k : Nat} (i : Nat) : (upN N k i).p = (N i).p := by
  unfold upN
  split <;> rfl
theorem upN_ok {f : Int} {ln lo : Nat} {N : Nat → N2} {U : Nat → O3} (H : TreeS f ln lo N U) {k : Nat} (_ : k ≤ ln) : TreeP (upF f k) ln lo (upN N k) U := by
  have h1 := H.w.ff
  have hf := H.ff
  simp only [fromB, decide_eq_true_eq] at hf
  refine ⟨by unfold upF; split <;> omega, H.l6, H.lo1, H.lo2, fun i hi => ?_, H.ok⟩
  have h2 := tree_ns H hi
  rw [upN_p]
  refine ⟨h2.1, ?_⟩
  unfold upN
  split
  · show 0 ≤ (N i).c + 1 ∧ (N i).c + 1 ≤ 201; omega
  · omega

theorem tr7_new {w : World} {A ln lo : Nat} {oa : Option Addr} {N : Nat → N2} {U : Nat → O3} (hA : A < w.heap.size) (h : NdAt w A 0 ln N) (ho : OuSl w oa lo U) : Tr7 w (some ⟨A, 0, none⟩) oa ln lo N U := ⟨.inr ⟨A, 0, rfl, hA, h⟩, ho⟩

/-- a tree in a box that can be written -/
structure B3 (w : World) (b : Nat) (x y z : Value) : Prop where
  c0 : w.cell? ⟨b, 0, none⟩ = some x
  c1 : w.cell? ⟨b, 1, none⟩ = some y
  c2 : w.cell? ⟨b, 2, none⟩ = some z
  f0 : w.frozen? ⟨b, 0, none⟩ = false
  f1 : w.frozen? ⟨b, 1, none⟩ = false
  f2 : w.frozen? ⟨b, 2, none⟩ = false
  lt : b < w.heap.size
theorem B3.below {w w1 : World} {b : Nat} {x y z : Value} (h : B3 w b x y z) (hb : Below w.heap.size w w1) : B3 w1 b x y z := by
  obtain ⟨c, f⟩ := bcell hb
  exact ⟨(c _ _ h.lt).trans h.c0, (c _ _ h.lt).trans h.c1, (c _ _ h.lt).trans h.c2, (f _ _ h.lt).trans h.f0, (f _ _ h.lt).trans h.f1, (f _ _ h.lt).trans h.f2, Nat.lt_of_lt_of_le h.lt hb.size⟩
theorem B3.new (w : World) (x y z : Value) (T : TypeId) : B3 (w.alloc (.cells #[x, y, z] T)) w.heap.size x y z := ⟨by simp, by simp, by simp, by simp, by simp, by simp, by simp⟩

set_option maxRecDepth 100000 in
set_option maxHeartbeats 2000000 in
theorem widened_w (f : Int) (na oa : Option Addr) (ln cn lo co k : Nat) (N : Nat → N2) (U : Nat → O3) (w : World) (hk : k ≤ ln) (HR : Hid (TreeS f ln lo N U)) (H : Hid (Tr7 w na oa ln lo N U)) :
    Calls Tryz.prog 81 #[.agg #[.int .i64 f, .slice na ln cn, .slice oa lo co], .int .i64 (k : Int)] w
      fun e w' => (∃ nb cb, e = .returned (.agg #[.int .i64 (upF f k), .slice nb ln cb, .slice oa lo co]) ∧ Tr7 w' nb oa ln lo (upN N k) U) ∧ Below w.heap.size w w' := by
  have q1 := HR.out.l6
  have hff := HR.out.w.ff
  have wr1 : wrap64 (f + 1) = f + 1 := by unfold wrap64; omega
  have hjj : ∀ j, j < ln → wrap64 ((N j).c + 1) = (N j).c + 1 := fun j hj => by have := tree_ns HR.out hj; unfold wrap64; omega
  obtain ⟨WA, hWA⟩ : ∃ WA, WA = (w.alloc (.cells #[.int .i64 f, .slice na ln cn, .slice oa lo co] 25)).alloc (.cells #[.int .i64 0, .slice none 0 0, .slice none 0 0] 25) := ⟨_, rfl⟩
  have hA : Below w.heap.size w WA := by rw [hWA]; exact ((Below.refl _ _).alloc (Nat.le_refl _) _).alloc (by simp) _
  have hzA : WA.heap.size = w.heap.size + 1 + 1 := by rw [hWA]; simp
  have HB1 : Hid (B3 WA w.heap.size (.int .i64 f) (.slice na ln cn) (.slice oa lo co)) := Lib.hid (by rw [hWA]; exact (B3.new _ _ _ _ _).below ((Below.refl _ _).alloc (Nat.le_refl _) _))
  have HB2 : Hid (B3 WA (w.heap.size + 1) (.int .i64 0) (.slice none 0 0) (.slice none 0 0)) := Lib.hid (by rw [hWA]; have := B3.new (w.alloc (.cells #[.int .i64 f, .slice na ln cn, .slice oa lo co] 25)) (.int .i64 0) (.slice none 0 0) (.slice none 0 0) 25; simp only [World.size_alloc] at this; exact this)
  obtain ⟨x0, x1, x2, g0, g1, g2, xl⟩ := HB1.out
  cases k with
  | zero =>
    have e1 : upF f 0 = f + 1 := rfl
    rw [e1, upN_zero]
    go_enter Tryz.func81, Tryz.ntmps81
    go_wp2_with (go_at_call 105; refine stopAt ?_)
    refine ⟨?_⟩
    rw [← hWA]
    refine (wif_w f _ na oa ln cn lo co _).mono ?_
    rintro e w5 ⟨rfl, hb5⟩
    have hz5 := hb5.size
    obtain ⟨y0, y1, y2, z0, z1, z2, yl⟩ := HB2.out.below hb5
    go_wp2
    have hb6 := hA.trans (hb5.mono hA.size)
    have hb8 : Below w.heap.size w (((w5.setCell ⟨w.heap.size + 1, 0, none⟩ (.int .i64 (f + 1))).setCell ⟨w.heap.size + 1, 1, none⟩ (.slice na ln cn)).setCell ⟨w.heap.size + 1, 2, none⟩ (.slice oa lo co)) := ((hb6.setCell (by simp only []; omega) _).setCell (by simp only []; omega) _).setCell (by simp only []; omega) _
    refine bodyPost_ret (v := .agg #[.int .i64 (f + 1), .slice na ln cn, .slice oa lo co]) (by simp [results, Tryz.results81, go_sem, y0, y1, y2]) rfl ⟨⟨na, cn, rfl, H.out.below ?_⟩, ?_⟩
    · exact hb8
    · exact hb8
  | succ j =>
    have e1 : upF f (j + 1) = f := rfl
    rw [e1, upN_succ]
    obtain ⟨A, O, rfl, hAl, hnd⟩ := H.out.hn.resolve_left (by omega)
    have HND := Lib.hid hnd
    have n1 : ¬ ((j : Int) + 1 = 0) := by omega
    have n2 : (0 : Int) ≤ (j : Int) := by omega
    have n3 : (j : Int) < (ln : Int) := by omega
    have wr2 := hjj j (by omega)
    go_enter Tryz.func81, Tryz.ntmps81
    go_wp2_with (go_at_call 124; rw [← hWA]; refine (cloneN_w A O ln cn N (by omega) (by omega) _ (Nat.lt_of_lt_of_le hAl hA.size) (Lib.hid (hnd.below hAl hA))).mono ?_; rintro e w5 ⟨⟨g, cap, rfl, ho⟩, hb5⟩; have hz5 := hb5.size; obtain ⟨y0, y1, y2, z0, z1, z2, yl⟩ := HB2.out.below hb5; clear x0 x1 x2 g0 g1 g2; obtain ⟨x0, x1, x2, g0, g1, g2, xl⟩ := HB1.out.below hb5; have p1 := (ho.at_ j (by omega)).2; rw [Nat.zero_add] at p1; have p2 := ho.fr j (by omega); have p3 := ho.lo; have hne1 : g ≠ w.heap.size := (by omega); have hne2 : w.heap.size ≠ g := (by omega); have hne3 : g ≠ w.heap.size + 1 := (by omega); have hne4 : w.heap.size + 1 ≠ g := (by omega))
    have hb6 := hA.trans (hb5.mono hA.size)
    have hb7 : Below w.heap.size w ((w5.setCell ⟨w.heap.size, 1, none⟩ (.slice (some ⟨g, 0, none⟩) ln cap)).setCell ⟨g, j * 2 + 1, none⟩ (.int .i64 ((N j).c + 1))) := ((hb6.setCell (by simp only []; omega) _).setCell (by simp only []; omega) _)
    have hb8 := ((hb7.setCell (p := ⟨w.heap.size + 1, 0, none⟩) (by simp only []; omega) (.int .i64 f)).setCell (p := ⟨w.heap.size + 1, 1, none⟩) (by simp only []; omega) (.slice (some ⟨g, 0, none⟩) ln cap)).setCell (p := ⟨w.heap.size + 1, 2, none⟩) (by simp only []; omega) (.slice oa lo co)
    refine bodyPost_ret (v := .agg #[.int .i64 f, .slice (some ⟨g, 0, none⟩) ln cap, .slice oa lo co]) (by simp [results, Tryz.results81, go_sem, y0, y1, y2, hne3, hne4]) rfl ⟨⟨_, cap, rfl, ?_⟩, hb8⟩
    exact tr7_new (by simp only [World.size_setCell]; exact ho.lt) (((((ho.at_.far hne2 _ _).upd (by omega)).far hne4 _ _).far hne4 _ _).far hne4 _ _) (H.out.ho.below hb8)
end Go.Kn

namespace Go.Kn
open Go Go.Proofs Go.RowKit

theorem run_append_nil0 {P : Program} {w : World} (t ty e : TypeId) (i : TypeInfo) (ht : P.underlying t = some (.slice e)) (hi : P.info? e = some i) (sq : Option Addr) (c : Nat) :
    (Builtin.append_ #[t, t] ty #[.slice none 0 0, .slice sq 0 c]).run P w = .ok (.slice none 0 0) w := by
  cases sq <;> simp [Builtin.append_, run_underlying ht, sizeOf, typeInfo, hi, Builtin.lenOf, Builtin.firstCells, loadCells, loadCellsFrom]

theorem wpList_append_nil0 {P : Program} {w : World} {ops : Array Oper} {rest : List Oper} {o : Oper} {a : Act} {Q : Exit → Act → World → Prop} (hgd : o.guard = none) (s x : Operand) (t : TypeId)
    (ho : o.op = .call { callee := .builtin .append, args := #[s, x], argTypes := #[t, t] })
    (e : TypeId) (i : TypeInfo) (ht : P.underlying t = some (.slice e)) (hi : P.info? e = some i)
    (hs : a.eval s = .slice none 0 0) (sq : Option Addr) (c : Nat) (hx : a.eval x = .slice sq 0 c)
    (h : wpList P ops Q rest (a.put o.dst (.slice none 0 0)) w) : wpList P ops Q (o :: rest) a w := by
  refine wpList_plain hgd fun K hK => ?_
  have hrun := run_append_nil0 (P := P) (w := w) t o.type e i ht hi sq c
  unfold Oper.wp
  simp [execOp, ho, resolve, invoke, builtin, hs, hx, hrun, Result.andThen]
  exact hK _ _ h

set_option maxRecDepth 100000 in
set_option maxHeartbeats 2000000 in
theorem rwider_0 (f : Int) (na oa : Option Addr) (cn lo co : Nat) (N : Nat → N2) (U : Nat → O3) (w : World) (HR : Hid (TreeS f 0 lo N U)) (H : Hid (Tr7 w na oa 0 lo N U)) :
    Calls Tryz.prog 35 #[.agg #[.int .i64 f, .slice na 0 cn, .slice oa lo co], .int .i64 (0 : Nat)] w
      fun e w' => (∃ nb cb, e = .returned (.agg #[.int .i64 (upF f 0), .slice nb 0 cb, .slice oa lo co]) ∧ Tr7 w' nb oa 0 lo (upN N 0) U) ∧ Below w.heap.size w w' := by
  have hff := HR.out.w.ff
  have wr1 : wrap64 (f + 1) = f + 1 := by unfold wrap64; omega
  obtain ⟨i0, hi, hz0, hz1, hz2⟩ := info_parts info98
  have e1 : upF f 0 = f + 1 := rfl
  rw [e1, upN_zero]
  go_enter Tryz.func35, Tryz.ntmps35
  go_wp2_with (at_builtin; refine wpList_append_nil0 rfl _ _ 22 rfl 98 i0 Tryz.underlying22 hi rfl na cn rfl ?_)
  refine bodyPost_ret (v := .agg #[.int .i64 (f + 1), .slice none 0 0, .slice oa lo co]) (by simp [results, Tryz.results35, go_sem]) rfl ⟨⟨none, 0, rfl, ?_⟩, ?_⟩
  · exact ⟨.inl rfl, H.out.ho.below ((((Below.refl _ _).alloc (Nat.le_refl _) _).alloc (by simp) _).alloc (by simp; omega) _)⟩
  · exact (((Below.refl _ _).alloc (Nat.le_refl _) _).alloc (by simp) _).alloc (by simp; omega) _

set_option maxRecDepth 100000 in
set_option maxHeartbeats 4000000 in
theorem rwider_w (f : Int) (na oa : Option Addr) (ln cn lo co k : Nat) (N : Nat → N2) (U : Nat → O3) (w : World) (hk : k ≤ ln) (HR : Hid (TreeS f ln lo N U)) (H : Hid (Tr7 w na oa ln lo N U)) :
    Calls Tryz.prog 35 #[.agg #[.int .i64 f, .slice na ln cn, .slice oa lo co], .int .i64 (k : Int)] w
      fun e w' => (∃ nb cb, e = .returned (.agg #[.int .i64 (upF f k), .slice nb ln cb, .slice oa lo co]) ∧ Tr7 w' nb oa ln lo (upN N k) U) ∧ Below w.heap.size w w' := by
  have q1 := HR.out.l6
  by_cases hl : ln = 0
  · subst hl
    obtain rfl : k = 0 := by omega
    exact rwider_0 f na oa cn lo co N U w HR H
  have hff := HR.out.w.ff
  have wr1 : wrap64 (f + 1) = f + 1 := by unfold wrap64; omega
  have hjj : ∀ j, j < ln → wrap64 ((N j).c + 1) = (N j).c + 1 := fun j hj => by have := tree_ns HR.out hj; unfold wrap64; omega
  obtain ⟨i0, hi, hz0, hz1, hz2⟩ := info_parts info98
  obtain ⟨A, O, rfl, hAl, hnd⟩ := H.out.hn.resolve_left hl
  obtain ⟨WA, hWA⟩ : ∃ WA, WA = ((w.alloc (.cells #[.int .i64 f, .slice (some ⟨A, O, none⟩) ln cn, .slice oa lo co] 25)).alloc (.cells #[.int .i64 0, .slice none 0 0, .slice none 0 0] 25)).alloc (.cells #[.int .i64 f, .slice (some ⟨A, O, none⟩) ln cn, .slice oa lo co] 25) := ⟨_, rfl⟩
  have hA : Below w.heap.size w WA := by rw [hWA]; exact (((Below.refl _ _).alloc (Nat.le_refl _) _).alloc (by simp) _).alloc (by simp; omega) _
  have hzA : WA.heap.size = w.heap.size + 1 + 1 + 1 := by rw [hWA]; simp
  have HB1 : Hid (B3 WA w.heap.size (.int .i64 f) (.slice (some ⟨A, O, none⟩) ln cn) (.slice oa lo co)) := Lib.hid (by rw [hWA]; exact ((B3.new _ _ _ _ _).below ((Below.refl _ _).alloc (Nat.le_refl _) _)).below ((Below.refl _ _).alloc (Nat.le_refl _) _))
  have HB2 : Hid (B3 WA (w.heap.size + 1) (.int .i64 0) (.slice none 0 0) (.slice none 0 0)) := Lib.hid (by rw [hWA]; have := (B3.new (w.alloc (.cells #[.int .i64 f, .slice (some ⟨A, O, none⟩) ln cn, .slice oa lo co] 25)) (.int .i64 0) (.slice none 0 0) (.slice none 0 0) 25).below ((Below.refl _ _).alloc (Nat.le_refl _) (.cells #[.int .i64 f, .slice (some ⟨A, O, none⟩) ln cn, .slice oa lo co] 25)); simp only [World.size_alloc] at this; exact this)
  have HB3 : Hid (B3 WA (w.heap.size + 1 + 1) (.int .i64 f) (.slice (some ⟨A, O, none⟩) ln cn) (.slice oa lo co)) := Lib.hid (by rw [hWA]; have := B3.new ((w.alloc (.cells #[.int .i64 f, .slice (some ⟨A, O, none⟩) ln cn, .slice oa lo co] 25)).alloc (.cells #[.int .i64 0, .slice none 0 0, .slice none 0 0] 25)) (.int .i64 f) (.slice (some ⟨A, O, none⟩) ln cn) (.slice oa lo co) 25; simp only [World.size_alloc] at this; exact this)
  have HNW := Lib.hid (hnd.below hAl hA).news
  have HHO := Lib.hid H.out.ho
  clear hnd
  have DONE : ∀ (g cap : Nat) (w7 : World) (f' : Int) (N' : Nat → N2), w.heap.size + 1 + 1 < g → g < w7.heap.size → NdAt w7 g 0 ln N' → Below w.heap.size w w7 → ∀ (x y z : Value) (a b c : Nat),
      Tr7 (((w7.setCell ⟨w.heap.size + 1, 0, none⟩ x).setCell ⟨w.heap.size + 1, 1, none⟩ y).setCell ⟨w.heap.size + 1, 2, none⟩ z) (some ⟨g, 0, none⟩) oa ln lo N' U ∧ Below w.heap.size w (((w7.setCell ⟨w.heap.size + 1, 0, none⟩ x).setCell ⟨w.heap.size + 1, 1, none⟩ y).setCell ⟨w.heap.size + 1, 2, none⟩ z) := by
    intro g cap w7 f' N' h1 h2 h3 h4 x y z _ _ _
    have hb8 := ((h4.setCell (p := ⟨w.heap.size + 1, 0, none⟩) (by simp only []; omega) x).setCell (p := ⟨w.heap.size + 1, 1, none⟩) (by simp only []; omega) y).setCell (p := ⟨w.heap.size + 1, 2, none⟩) (by simp only []; omega) z
    have hne : w.heap.size + 1 ≠ g := by omega
    exact ⟨tr7_new (by simp only [World.size_setCell]; exact h2) (((h3.far hne _ _).far hne _ _).far hne _ _) (HHO.out.below hb8), hb8⟩
  have HD := Lib.hid DONE
  clear DONE
  cases k with
  | zero =>
    have e1 : upF f 0 = f + 1 := rfl
    rw [e1, upN_zero]
    go_enter Tryz.func35, Tryz.ntmps35
    go_wp2_with (at_builtin; rw [← hWA]; refine wpList_append_own _ rfl _ _ 22 rfl WA.heap.size 98 i0 _ 2 16 Tryz.underlying22 hi hz0 hz1 hz2 rfl (by decide) (.slice none 0 0) 0 [] rfl (World.ownsRow_nil _ _ _ _) ⟨A, O, none⟩ ln cn (ndCells N ln) rfl (ndCells_len N ln) HNW.out (ndCells_one N ln) (by unfold maxLen; omega) (by omega) (Nat.le_refl _) ?_; intro v' w7 hown7 hgrow7 _; rw [Nat.zero_add, List.nil_append] at hown7; obtain ⟨g, cap, rfl, ho⟩ := NdOwn.of hown7 (by omega); have hb7 : Below WA.heap.size WA w7 := (Below.refl _ _).grown hgrow7 (Nat.le_refl _) (fun k h => by cases h); obtain ⟨x0, x1, x2, g0, g1, g2, xl⟩ := HB1.out.below hb7; obtain ⟨y0, y1, y2, z0, z1, z2, yl⟩ := HB2.out.below hb7; obtain ⟨u0, u1, u2, v0, v1, v2, ul⟩ := HB3.out.below hb7; clear hown7 hgrow7)
    have p3 := ho.lo
    have hne3 : g ≠ w.heap.size + 1 := by omega
    have hne4 : w.heap.size + 1 ≠ g := by omega
    have hb6 : Below w.heap.size w ((w7.setCell ⟨w.heap.size + 1 + 1, 1, none⟩ (.slice (some ⟨g, 0, none⟩) ln cap)).setCell ⟨w.heap.size + 1 + 1, 0, none⟩ (.int .i64 (f + 1))) := ((hA.trans (hb7.mono hA.size)).setCell (by simp only []; omega) _).setCell (by simp only []; omega) _
    obtain ⟨r1, r2⟩ := HD.out g cap _ 0 N (by omega) (by simp only [World.size_setCell]; exact ho.lt) ((ho.at_.far (show w.heap.size + 1 + 1 ≠ g by omega) _ _).far (show w.heap.size + 1 + 1 ≠ g by omega) _ _) hb6 (.int .i64 (f + 1)) (.slice (some ⟨g, 0, none⟩) ln cap) (.slice oa lo co) 0 0 0
    exact bodyPost_ret (v := .agg #[.int .i64 (f + 1), .slice (some ⟨g, 0, none⟩) ln cap, .slice oa lo co]) (by simp [results, Tryz.results35, go_sem, y0, y1, y2, hne3, hne4]) rfl ⟨⟨_, ⟨cap, rfl⟩, r1⟩, r2⟩
  | succ j =>
    have e1 : upF f (j + 1) = f := rfl
    rw [e1, upN_succ]
    have n1 : ¬ ((j : Int) + 1 = 0) := by omega
    have n2 : (0 : Int) ≤ (j : Int) := by omega
    have n3 : (j : Int) < (ln : Int) := by omega
    have wr2 := hjj j (by omega)
    go_enter Tryz.func35, Tryz.ntmps35
    go_wp2_with (at_builtin; rw [← hWA]; refine wpList_append_own _ rfl _ _ 22 rfl WA.heap.size 98 i0 _ 2 16 Tryz.underlying22 hi hz0 hz1 hz2 rfl (by decide) (.slice none 0 0) 0 [] rfl (World.ownsRow_nil _ _ _ _) ⟨A, O, none⟩ ln cn (ndCells N ln) rfl (ndCells_len N ln) HNW.out (ndCells_one N ln) (by unfold maxLen; omega) (by omega) (Nat.le_refl _) ?_; intro v' w7 hown7 hgrow7 _; rw [Nat.zero_add, List.nil_append] at hown7; obtain ⟨g, cap, rfl, ho⟩ := NdOwn.of hown7 (by omega); have hb7 : Below WA.heap.size WA w7 := (Below.refl _ _).grown hgrow7 (Nat.le_refl _) (fun k h => by cases h); obtain ⟨x0, x1, x2, g0, g1, g2, xl⟩ := HB1.out.below hb7; obtain ⟨y0, y1, y2, z0, z1, z2, yl⟩ := HB2.out.below hb7; obtain ⟨u0, u1, u2, v0, v1, v2, ul⟩ := HB3.out.below hb7; clear hown7 hgrow7)
    have p1 := (ho.at_ j (by omega)).2
    rw [Nat.zero_add] at p1
    have p2 := ho.fr j (by omega)
    have p3 := ho.lo
    have hne1 : g ≠ w.heap.size := by omega
    have hne2 : w.heap.size ≠ g := by omega
    have hne3 : g ≠ w.heap.size + 1 := by omega
    have hne4 : w.heap.size + 1 ≠ g := by omega
    have hne5 : g ≠ w.heap.size + 1 + 1 := by omega
    have hne6 : w.heap.size + 1 + 1 ≠ g := by omega
    have wj : IntKind.i64.wrap (j : Int) = (j : Int) := by rw [IntKind.wrap_i64]; omega
    have wj2 : IntKind.i64.wrap ((N j).c + 1) = (N j).c + 1 := by rw [IntKind.wrap_i64]; unfold wrap64 at wr2; exact wr2
    go_region_law ((first | fail))
    all_goals
      go_wp2
      have hb6 : Below w.heap.size w ((w7.setCell ⟨w.heap.size + 1 + 1, 1, none⟩ (.slice (some ⟨g, 0, none⟩) ln cap)).setCell ⟨g, j * 2 + 1, none⟩ (.int .i64 ((N j).c + 1))).drew := below_drew (((hA.trans (hb7.mono hA.size)).setCell (by simp only []; omega) _).setCell (by simp only []; omega) _)
      obtain ⟨r1, r2⟩ := HD.out g cap _ 0 (upC N j) (by omega) (by show g < _; simp only [World.drew, World.size_setCell]; exact ho.lt) (by have := (ho.at_.far (show w.heap.size + 1 + 1 ≠ g by omega) 1 (.slice (some ⟨g, 0, none⟩) ln cap)).upd (show j < ln by omega); exact fun i hi => this i hi) hb6 (.int .i64 f) (.slice (some ⟨g, 0, none⟩) ln cap) (.slice oa lo co) 0 0 0
      exact bodyPost_ret (v := .agg #[.int .i64 f, .slice (some ⟨g, 0, none⟩) ln cap, .slice oa lo co]) (by simp [results, Tryz.results35, go_sem, y0, y1, y2, hne3, hne4]) rfl ⟨⟨_, cap, rfl, r1⟩, r2⟩
end Go.Kn

namespace Go.Kn
open Go Go.Proofs Go.RowKit

/-- the law's shares of a tree, and of each tree with a node widened -/
structure WS (f : Int) (ln lo : Nat) (N : Nat → N2) (U : Nat → O3) (t : Nat → Int) (X : Nat → Nat → Int) : Prop where
  own : Ord f lo N U (fun _ => 0) [0, 1, 2, 3] t
  ups : ∀ k, k ≤ ln → Ord (upF f k) lo (upN N k) U (fun _ => 0) [0, 1, 2, 3] (X k)
theorem ws_ex {f : Int} {ln lo : Nat} {N : Nat → N2} {U : Nat → O3} (HT : TreeS f ln lo N U) : ∃ t X, WS f ln lo N U t X := by
  obtain ⟨t, ht⟩ := ord_ex (f := f) (ln := ln) (lo := lo) (N := N) (U := U) [0, 1, 2, 3] (fun _ => 0) (vd_zero HT.w)
  have h : ∀ k : Nat, ∃ t, k ≤ ln → Ord (upF f k) lo (upN N k) U (fun _ => 0) [0, 1, 2, 3] t := fun k => by
    by_cases hk : k ≤ ln
    · obtain ⟨t, ht⟩ := ord_ex (f := upF f k) (ln := ln) (lo := lo) (N := upN N k) (U := U) [0, 1, 2, 3] (fun _ => 0) (vd_zero (upN_ok HT hk))
      exact ⟨t, fun _ => ht⟩
    · exact ⟨fun _ => 0, fun h => absurd h hk⟩
  exact ⟨t, fun n => (h n).choose, ht, fun n hn => (h n).choose_spec hn⟩

/-- the nodes, of the first k, that an outlet gains by -/
def WL (i : Nat) (t : Nat → Int) (X : Nat → Nat → Int) : Nat → List Nat
  | 0 => []
  | k + 1 => if t i < X k i then WL i t X k ++ [k] else WL i t X k
theorem WL_yes {i k : Nat} {t : Nat → Int} {X : Nat → Nat → Int} (h : t i < X k i) : WL i t X (k + 1) = WL i t X k ++ [k] := by simp only [WL]; rw [if_pos h]
theorem WL_no {i k : Nat} {t : Nat → Int} {X : Nat → Nat → Int} (h : ¬ t i < X k i) : WL i t X (k + 1) = WL i t X k := by simp only [WL]; rw [if_neg h]
theorem WL_len {i : Nat} {t : Nat → Int} {X : Nat → Nat → Int} : ∀ k, (WL i t X k).length ≤ k
  | 0 => by simp [WL]
  | k + 1 => by
    have := WL_len (i := i) (t := t) (X := X) k
    by_cases h : t i < X k i
    · rw [WL_yes h, List.length_append]; simp; omega
    · rw [WL_no h]; omega
theorem WL_mem {i : Nat} {t : Nat → Int} {X : Nat → Nat → Int} {n : Nat} : ∀ k, n ∈ WL i t X k ↔ n < k ∧ t i < X n i
  | 0 => by simp [WL]
  | k + 1 => by
    have ih := WL_mem (i := i) (t := t) (X := X) (n := n) k
    by_cases h : t i < X k i
    · rw [WL_yes h, List.mem_append, ih, List.mem_singleton]
      constructor
      · rintro (⟨a, b⟩ | rfl)
        · exact ⟨by omega, b⟩
        · exact ⟨by omega, h⟩
      · rintro ⟨a, b⟩
        by_cases e : n = k
        · exact .inr e
        · exact .inl ⟨by omega, b⟩
    · rw [WL_no h, ih]
      constructor
      · rintro ⟨a, b⟩; exact ⟨by omega, b⟩
      · rintro ⟨a, b⟩
        by_cases e : n = k
        · subst e; exact absurd b h
        · exact ⟨by omega, b⟩

set_option maxRecDepth 100000 in
set_option maxHeartbeats 4000000 in
theorem widens_w (f : Int) (na oa : Option Addr) (ln cn lo co i : Nat) (N : Nat → N2) (U : Nat → O3) (t : Nat → Int) (X : Nat → Nat → Int) (w : World) (hi : i < lo) (HR : Hid (TreeS f ln lo N U)) (H : Hid (Tr7 w na oa ln lo N U)) (HX : Hid (WS f ln lo N U t X)) :
    Calls Tryz.prog 31 #[.agg #[.int .i64 f, .slice na ln cn, .slice oa lo co], .int .i64 (i : Int)] w fun e w' =>
      (∃ v m, e = .returned (.tuple #[v, .int .i64 0]) ∧ m = (WL i t X (ln + 1)).length ∧ w'.ownsRow w.heap.size 3 1 v m ((WL i t X (ln + 1)).map (fun k => Value.int .i64 ((k : Nat) : Int)))) ∧ Below w.heap.size w w' := by
  have q1 := HR.out.l6
  have q2 := HR.out.lo2
  obtain ⟨i0, hi0, hz0, hz1, hz2⟩ := info_parts info3'
  have BX := Lib.hid (fun (w1 : World) (hb : Below (w.alloc (.cells #[.int .i64 f, .slice na ln cn, .slice oa lo co] 25)).heap.size (w.alloc (.cells #[.int .i64 f, .slice na ln cn, .slice oa lo co] 25)) w1) => box7 hb)
  have HN : Hid (∀ w1, Below (w.alloc (.cells #[.int .i64 f, .slice na ln cn, .slice oa lo co] 25)).heap.size (w.alloc (.cells #[.int .i64 f, .slice na ln cn, .slice oa lo co] 25)) w1 → Hid (Tr7 w1 na oa ln lo N U)) := Lib.hid fun w1 h => Lib.hid (H.out.below (below_al h))
  have hb : Below (w.alloc (.cells #[.int .i64 f, .slice na ln cn, .slice oa lo co] 25)).heap.size (w.alloc (.cells #[.int .i64 f, .slice na ln cn, .slice oa lo co] 25)) (w.alloc (.cells #[.int .i64 f, .slice na ln cn, .slice oa lo co] 25)) := Below.refl _ _
  obtain ⟨x1, x2, x3, x4⟩ := BX.out _ hb
  have hio : fromB 0 ((lo : Int) - 1) (i : Int) = true := by simp only [fromB, decide_eq_true_eq]; omega
  have HIO := Lib.hid hio
  clear H hio
  go_enter Tryz.func31, Tryz.ntmps31
  go_wp2_with (first
    | (go_at_call 62; refine (isTree_w f na oa ln cn lo co N U _ (by omega) (by omega) (HN.out _ hb)).mono ?_; rintro e wl ⟨⟨rb, rfl, hrb⟩, hv⟩; obtain rfl : rb = true := hrb.2 HR.out; clear hrb; replace hb := hb.trans (hv.mono hb.size); clear x1 x2 x3 x4; obtain ⟨x1, x2, x3, x4⟩ := BX.out _ hb)
    | (go_at_call 79; refine (isOutlet_w f (i : Int) na oa ln cn lo co _ (by omega)).mono ?_; rw [HIO.out]; rintro e wl ⟨rfl, hv⟩; replace hb := hb.trans (hv.mono hb.size); clear x1 x2 x3 x4; obtain ⟨x1, x2, x3, x4⟩ := BX.out _ hb)
    | (go_at_call 72; refine (lawful_w f na oa ln cn lo co N U _ (Lib.hid HR.out.w) (HN.out _ hb)).mono ?_; rintro e wl ⟨⟨sv, SH, FL, k1, k2, t', rfl, h1, h2, h3, h4, h5⟩, hv⟩; replace hb := hb.trans (hv.mono hb.size); clear x1 x2 x3 x4; obtain ⟨x1, x2, x3, x4⟩ := BX.out _ hb; obtain rfl : t' = t := h2.det HX.out.own; have y1 := h1.at_.c3; have y2 := (h1.at_.sh i hi).1; clear h1 h2 h3 h4 h5)
    | (go_at_call 80; refine (share_w sv SH i lo k1 _ _ hi y1 y2).mono ?_; rintro e wz ⟨rfl, rfl⟩))
  have HBL := Lib.hid hb
  have HZ : Hid (w.heap.size ≤ wz.heap.size) := Lib.hid (by have := hb.size; simp at this; omega)
  clear hb y1 y2
  go_loopw [7, 26] (fun v ii wr => ∃ k m : Nat, k ≤ ln + 1 ∧ ii = .int .i64 (k : Int) ∧ m = (WL i t' X k).length ∧ wr.ownsRow wz.heap.size 3 1 v m ((WL i t' X k).map (fun k => Value.int .i64 ((k : Nat) : Int))) ∧ Below wz.heap.size wz wr) (fun _ ii _ => ln + 1 - (Go.RowKit.intOf ii).toNat)
  case atStart => exact ⟨0, 0, by omega, rfl, rfl, ⟨rfl, .inl ⟨rfl, rfl⟩⟩, Below.refl _ _⟩
  case round =>
    obtain ⟨k, m, hk, rfl, hm, hown, hbr⟩ := hrel
    have HOW := Lib.hid hown
    have HBR := Lib.hid hbr
    have HM := Lib.hid hm
    clear hown hbr hm
    have HC := Lib.hid (HBL.out.trans (HBR.out.mono HBL.out.size))
    obtain ⟨x1, x2, x3, x4⟩ := BX.out _ HC.out
    by_cases hlt : k < ln + 1
    · have n1 : (k : Int) < 1 + (ln : Int) := by omega
      have hkl : k ≤ ln := by omega
      have hm7 : m ≤ 7 := by have := WL_len (i := i) (t := t') (X := X) k; have := HM.out; omega
      by_cases hg : t' i < X k i
      · have HG := Lib.hid hg
        go_wp2_with (first
          | (go_at_call 81; refine (widened_w f na oa ln cn lo co k N U _ hkl HR (HN.out _ HC.out)).mono ?_; rintro e w5 ⟨⟨nb, cb, rfl, htr⟩, hb5⟩; have HTR := Lib.hid htr; have HB5 := Lib.hid hb5; clear htr hb5)
          | (go_at_call 72; refine (lawful_w _ nb oa ln cb lo co (upN N k) U _ (Lib.hid (upN_ok HR.out hkl)) HTR).mono ?_; rintro e w6 ⟨⟨sv, SH, FL, k1, k2, t2, rfl, h1, h2, h3, h4, h5⟩, hb6⟩; obtain rfl : t2 = X k := h2.det (HX.out.ups k hkl); have y1 := h1.at_.c3; have y2 := (h1.at_.sh i hi).1; have HB6 := Lib.hid (HB5.out.trans (hb6.mono HB5.out.size)); clear h1 h2 h3 h4 h5 hb6)
          | (go_at_call 80; refine (share_w sv SH i lo k1 _ _ hi y1 y2).mono ?_; rintro e w7 ⟨rfl, rfl⟩; clear y1 y2)
          | (at_builtin; refine wpList_append_own_at _ rfl (.tmp 37) (.tmp 39) 26 rfl wz.heap.size 3 i0 (.int .i64 0) 1 8 Tryz.underlying26 hi0 hz0 hz1 hz2 rfl (by decide) _ m _ rfl ((owns_below HOW.out HB6.out).alloc _) ⟨_, 0, none⟩ 1 1 [.int .i64 (k : Int)] rfl rfl (lies_any (by first | exact al_top rfl _ _ | exact al_top (by simp) _ _)) (by intro u hu; simp at hu; subst hu; rfl) (by unfold maxLen; omega) (by omega) (by have := HBR.out.size; have := HB6.out.size; simp; omega) ?_; intro v7 w9 hown7 hgrow7 _ hloc7))
        refine ⟨⟨k + 1, m + 1, by omega, by go_num, by rw [WL_yes HG.out, List.length_append, ← HM.out]; rfl, by rw [WL_yes HG.out, List.map_append]; exact hown7, ?_⟩, by simp [Go.RowKit.intOf]; omega⟩
        have hb6 := HBR.out.trans (HB6.out.mono HBR.out.size)
        exact (hb6.alloc hb6.size _).grown hgrow7 (by have := hb6.size; simp; omega) (fun r e => own_ge HOW.out r e)
      · have HG := Lib.hid hg
        go_wp2_with (first
          | (go_at_call 81; refine (widened_w f na oa ln cn lo co k N U _ hkl HR (HN.out _ HC.out)).mono ?_; rintro e w5 ⟨⟨nb, cb, rfl, htr⟩, hb5⟩; have HTR := Lib.hid htr; have HB5 := Lib.hid hb5; clear htr hb5)
          | (go_at_call 72; refine (lawful_w _ nb oa ln cb lo co (upN N k) U _ (Lib.hid (upN_ok HR.out hkl)) HTR).mono ?_; rintro e w6 ⟨⟨sv, SH, FL, k1, k2, t2, rfl, h1, h2, h3, h4, h5⟩, hb6⟩; obtain rfl : t2 = X k := h2.det (HX.out.ups k hkl); have y1 := h1.at_.c3; have y2 := (h1.at_.sh i hi).1; have HB6 := Lib.hid (HB5.out.trans (hb6.mono HB5.out.size)); clear h1 h2 h3 h4 h5 hb6)
          | (go_at_call 80; refine (share_w sv SH i lo k1 _ _ hi y1 y2).mono ?_; rintro e w7 ⟨rfl, rfl⟩; clear y1 y2))
        refine ⟨⟨k + 1, m, by omega, by go_num, by rw [WL_no (Int.not_lt.2 HG.out)]; exact HM.out, by rw [WL_no (Int.not_lt.2 HG.out)]; exact owns_below HOW.out HB6.out, HBR.out.trans (HB6.out.mono HBR.out.size)⟩, by simp [Go.RowKit.intOf]; omega⟩
    · obtain rfl : k = ln + 1 := by omega
      have n1 : ¬ ((ln + 1 : Nat) : Int) < 1 + (ln : Int) := by omega
      have n2 : ¬ ((ln : Int) + 1 < 1 + (ln : Int)) := by omega
      go_wp2
      refine bodyPost_ret (v := .tuple #[u7, .int .i64 0]) (by simp [results, Tryz.results31, go_sem]) rfl ⟨⟨u7, rfl, by have h := own_base HOW.out HZ.out; rw [HM.out] at h; exact h⟩, ?_⟩
      exact below_al HC.out

set_option maxRecDepth 100000 in
set_option maxHeartbeats 4000000 in
theorem rwidens_w (f : Int) (na oa : Option Addr) (ln cn lo co i : Nat) (N : Nat → N2) (U : Nat → O3) (t : Nat → Int) (X : Nat → Nat → Int) (w : World) (hi : i < lo) (HR : Hid (TreeS f ln lo N U)) (H : Hid (Tr7 w na oa ln lo N U)) (HX : Hid (WS f ln lo N U t X)) :
    Calls Tryz.prog 34 #[.agg #[.int .i64 f, .slice na ln cn, .slice oa lo co], .int .i64 (i : Int)] w fun e w' =>
      (∃ v m, e = .returned v ∧ m = (WL i t X (ln + 1)).length ∧ w'.ownsRow w.heap.size 3 1 v m ((WL i t X (ln + 1)).map (fun k => Value.int .i64 ((k : Nat) : Int)))) ∧ Below w.heap.size w w' := by
  have q1 := HR.out.l6
  have q2 := HR.out.lo2
  obtain ⟨i0, hi0, hz0, hz1, hz2⟩ := info_parts info3'
  have BX := Lib.hid (fun (w1 : World) (hb : Below (w.alloc (.cells #[.int .i64 f, .slice na ln cn, .slice oa lo co] 25)).heap.size (w.alloc (.cells #[.int .i64 f, .slice na ln cn, .slice oa lo co] 25)) w1) => box7 hb)
  have HN : Hid (∀ w1, Below (w.alloc (.cells #[.int .i64 f, .slice na ln cn, .slice oa lo co] 25)).heap.size (w.alloc (.cells #[.int .i64 f, .slice na ln cn, .slice oa lo co] 25)) w1 → Hid (Tr7 w1 na oa ln lo N U)) := Lib.hid fun w1 h => Lib.hid (H.out.below (below_al h))
  have hb : Below (w.alloc (.cells #[.int .i64 f, .slice na ln cn, .slice oa lo co] 25)).heap.size (w.alloc (.cells #[.int .i64 f, .slice na ln cn, .slice oa lo co] 25)) (w.alloc (.cells #[.int .i64 f, .slice na ln cn, .slice oa lo co] 25)) := Below.refl _ _
  obtain ⟨x1, x2, x3, x4⟩ := BX.out _ hb
  clear H
  have n1 : (0 : Int) ≤ (i : Int) := by omega
  have n2 : (i : Int) < (lo : Int) := by omega
  go_enter Tryz.func34, Tryz.ntmps34
  go_wp2_with (go_at_call 23; refine (rshares_w f na oa ln cn lo co N U _ (Lib.hid HR.out.w) (HN.out _ hb)).mono ?_; rintro e wz ⟨⟨sb, cb, t', rfl, hsb, ho⟩, hv⟩; replace hb := hb.trans (hv.mono hb.size); obtain rfl : t' = t := ho.det HX.out.own; obtain ⟨A1, O1, rfl, hA1, hN1⟩ := hsb.resolve_left (by omega); have y1 := hN1 i hi; clear hsb ho hN1)
  have HBL := Lib.hid hb
  have HZ : Hid (w.heap.size ≤ wz.heap.size) := Lib.hid (by have := hb.size; simp at this; omega)
  clear hb y1 x1 x2 x3 x4
  go_loopw [6, 7] (fun v ii wr => ∃ k m : Nat, k ≤ ln + 1 ∧ ii = .int .i64 (k : Int) ∧ m = (WL i t' X k).length ∧ wr.ownsRow wz.heap.size 3 1 v m ((WL i t' X k).map (fun k => Value.int .i64 ((k : Nat) : Int))) ∧ Below wz.heap.size wz wr) (fun _ ii _ => ln + 1 - (Go.RowKit.intOf ii).toNat)
  case atStart => exact ⟨0, 0, by omega, rfl, rfl, ⟨rfl, .inl ⟨rfl, rfl⟩⟩, Below.refl _ _⟩
  case round =>
    obtain ⟨k, m, hk, rfl, hm, hown, hbr⟩ := hrel
    have HOW := Lib.hid hown
    have HBR := Lib.hid hbr
    have HM := Lib.hid hm
    clear hown hbr hm
    have HC := Lib.hid (HBL.out.trans (HBR.out.mono HBL.out.size))
    obtain ⟨x1, x2, x3, x4⟩ := BX.out _ HC.out
    by_cases hlt : k < ln + 1
    · have n3 : (k : Int) ≤ (ln : Int) := by omega
      have hkl : k ≤ ln := by omega
      have hm7 : m ≤ 7 := by have := WL_len (i := i) (t := t') (X := X) k; have := HM.out; omega
      by_cases hg : t' i < X k i
      · have HG := Lib.hid hg
        go_wp2_with (first
          | (go_at_call 35; refine (rwider_w f na oa ln cn lo co k N U _ hkl HR (HN.out _ HC.out)).mono ?_; rintro e w5 ⟨⟨nb, cb2, rfl, htr⟩, hb5⟩; have HTR := Lib.hid htr; have HB5 := Lib.hid hb5; clear htr hb5)
          | (go_at_call 23; refine (rshares_w _ nb oa ln cb2 lo co (upN N k) U _ (Lib.hid (upN_ok HR.out hkl)) HTR).mono ?_; rintro e w6 ⟨⟨sb2, cb3, t2, rfl, hsb, ho⟩, hb6⟩; obtain rfl : t2 = X k := ho.det (HX.out.ups k hkl); obtain ⟨A2, O2, rfl, hA2, hN2⟩ := hsb.resolve_left (by omega); have y2 := hN2 i hi; have HB6 := Lib.hid (HB5.out.trans (hb6.mono HB5.out.size)); clear hsb ho hN2 hb6)
          | (at_builtin; refine wpList_append_own_at _ rfl (.tmp 29) (.tmp 31) 26 rfl wz.heap.size 3 i0 (.int .i64 0) 1 8 Tryz.underlying26 hi0 hz0 hz1 hz2 rfl (by decide) _ m _ rfl ((owns_below HOW.out HB6.out).alloc _) ⟨_, 0, none⟩ 1 1 [.int .i64 (k : Int)] rfl rfl (lies_any (by first | exact al_top rfl _ _ | exact al_top (by simp) _ _)) (by intro u hu; simp at hu; subst hu; rfl) (by unfold maxLen; omega) (by omega) (by have := HBR.out.size; have := HB6.out.size; simp; omega) ?_; intro v7 w9 hown7 hgrow7 _ hloc7))
        refine ⟨⟨k + 1, m + 1, by omega, by go_num, by rw [WL_yes HG.out, List.length_append, ← HM.out]; rfl, by rw [WL_yes HG.out, List.map_append]; exact hown7, ?_⟩, by simp [Go.RowKit.intOf]; omega⟩
        have hb6 := HBR.out.trans (HB6.out.mono HBR.out.size)
        exact (hb6.alloc hb6.size _).grown hgrow7 (by have := hb6.size; simp; omega) (fun r e => own_ge HOW.out r e)
      · have HG := Lib.hid hg
        go_wp2_with (first
          | (go_at_call 35; refine (rwider_w f na oa ln cn lo co k N U _ hkl HR (HN.out _ HC.out)).mono ?_; rintro e w5 ⟨⟨nb, cb2, rfl, htr⟩, hb5⟩; have HTR := Lib.hid htr; have HB5 := Lib.hid hb5; clear htr hb5)
          | (go_at_call 23; refine (rshares_w _ nb oa ln cb2 lo co (upN N k) U _ (Lib.hid (upN_ok HR.out hkl)) HTR).mono ?_; rintro e w6 ⟨⟨sb2, cb3, t2, rfl, hsb, ho⟩, hb6⟩; obtain rfl : t2 = X k := ho.det (HX.out.ups k hkl); obtain ⟨A2, O2, rfl, hA2, hN2⟩ := hsb.resolve_left (by omega); have y2 := hN2 i hi; have HB6 := Lib.hid (HB5.out.trans (hb6.mono HB5.out.size)); clear hsb ho hN2 hb6))
        exact ⟨⟨k + 1, m, by omega, by go_num, by rw [WL_no (by first | exact HG.out | exact Int.not_lt.2 HG.out)]; exact HM.out, by rw [WL_no (by first | exact HG.out | exact Int.not_lt.2 HG.out)]; exact owns_below HOW.out HB6.out, HBR.out.trans (HB6.out.mono HBR.out.size)⟩, by simp [Go.RowKit.intOf]; omega⟩
    · obtain rfl : k = ln + 1 := by omega
      have n3 : ¬ ((ln + 1 : Nat) : Int) ≤ (ln : Int) := by omega
      have n4 : ¬ ((ln : Int) + 1 ≤ (ln : Int)) := by omega
      go_wp2
      refine bodyPost_ret (v := u6) (by simp [results, Tryz.results34, go_sem]) rfl ⟨⟨u6, rfl, by have h := own_base HOW.out HZ.out; rw [HM.out] at h; exact h⟩, ?_⟩
      exact below_al HC.out
end Go.Kn
