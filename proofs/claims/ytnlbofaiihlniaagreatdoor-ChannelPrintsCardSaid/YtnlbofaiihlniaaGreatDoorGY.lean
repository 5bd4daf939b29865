/- Walks of functions of layer 2 (contracts that the laws of this seat use). Conditions: as each theorem states them. -/
import Derived.Test.YtnlbofaiihlniaaGreatDoorGU
import Derived.Test.YtnlbofaiihlniaaGreatDoorGW
import Derived.Maps.AppendAt
import Derived.Shelf.RegionOpen
import Derived.Deep.AppendLies
set_option linter.unusedVariables false
set_option linter.unusedSimpArgs false
namespace Go.Kn
open Go Go.Proofs Go.RowKit Go.Shelf

/-- the cells of one stretch -/
def stc (x : St5) : Nat → Value
  | 0 => .int .i64 x.b
  | 1 => .int .i64 x.d
  | 2 => .int .i64 x.f
  | 3 => .int .i64 x.lo
  | _ => .int .i64 x.hi

def stCells (t : Nat → St5) (lt : Nat) : List Value := (List.range (lt * 5)).map fun j => stc (t (j / 5)) (j % 5)

theorem stCells_len (t : Nat → St5) (lt : Nat) : (stCells t lt).length = lt * 5 := by simp [stCells]

theorem stCells_get {t : Nat → St5} {lt j : Nat} (h : j < lt * 5) : (stCells t lt)[j]? = some (stc (t (j / 5)) (j % 5)) := by
  simp [stCells, h]

theorem stCells_one (t : Nat → St5) (lt : Nat) : ∀ u ∈ stCells t lt, u.oneCell' = true := by
  intro u hu
  simp only [stCells, List.mem_map] at hu
  obtain ⟨j, _, rfl⟩ := hu
  unfold stc
  split <;> rfl

theorem StAt.cellOf {w : World} {C P lt : Nat} {t : Nat → St5} (h : StAt w C P lt t) {j : Nat} (hj : j < lt * 5) : w.cell? ⟨C, P + j, none⟩ = some (stc (t (j / 5)) (j % 5)) := by
  obtain ⟨q, r, hr, rfl⟩ : ∃ q r, r < 5 ∧ j = q * 5 + r := ⟨j / 5, j % 5, Nat.mod_lt _ (by omega), by omega⟩
  rw [show (q * 5 + r) / 5 = q by omega, show (q * 5 + r) % 5 = r by omega]
  obtain ⟨h0, h1, h2, h3, h4⟩ := h q (by omega)
  match r, hr with
  | 0, _ => exact h0
  | 1, _ => exact h1
  | 2, _ => exact h2
  | 3, _ => exact h3
  | 4, _ => exact h4

theorem StAt.news {w : World} {C P lt : Nat} {t : Nat → St5} (h : StAt w C P lt t) : ∀ (j : Nat) (u : Value), (stCells t lt)[j]? = some u → w.cell? ((⟨C, P, none⟩ : Addr).add j) = some u := by
  intro j u hu
  have hj : j < lt * 5 := by
    have := (List.getElem?_eq_some_iff.1 hu).1
    rwa [stCells_len] at this
  rw [stCells_get hj] at hu
  rw [add_mk, ← hu]
  exact h.cellOf hj

theorem StAt.of_owns {w : World} {base g lt cap : Nat} {t : Nat → St5} (h : w.ownsRow base 74 5 (.slice (some ⟨g, 0, none⟩) lt cap) lt (stCells t lt)) : StAt w g 0 lt t := by
  rcases h.2 with ⟨h1, _⟩ | ⟨g', cap', cur, h1, hb, hg, hn, hc, hs, hx⟩
  · cases h1
  · cases h1
    have hc : ∀ j, j < lt * 5 → w.cell? ⟨g, j, none⟩ = some (stc (t (j / 5)) (j % 5)) := fun j hj => by
      have h2 := stCells_get (t := t) hj
      rw [← hx, List.getElem?_take, if_pos hj] at h2
      simp only [Array.getElem?_toList] at h2
      simp [World.cell?, hg, h2]
    intro i hi
    have e : ∀ r, r < 5 → w.cell? ⟨g, 0 + i * 5 + r, none⟩ = some (stc (t i) r) := fun r hr => by
      have := hc (i * 5 + r) (by omega)
      rw [show (i * 5 + r) / 5 = i by omega, show (i * 5 + r) % 5 = r by omega] at this
      rw [Nat.zero_add]; exact this
    exact ⟨e 0 (by omega), e 1 (by omega), e 2 (by omega), e 3 (by omega), e 4 (by omega)⟩

theorem info39 : (Tryz.prog.info? 74).map (fun i => (i.zero, i.size, i.bytes)) = some (some (.agg #[.int .i64 0, .int .i64 0, .int .i64 0, .int .i64 0, .int .i64 0]), 5, 40) := by kernel_rfl

/-- append where the second argument's type is another one with the same elements -/
theorem wpList_append_two {P : Program} {w : World} {ops : Array Oper} {rest : List Oper} {o : Oper} {a : Act} {Q : Exit → Act → World → Prop} (hgd : o.guard = none) (s x : Operand) (t t2 : TypeId)
    (ho : o.op = .call { callee := .builtin .append, args := #[s, x], argTypes := #[t, t2] })
    (base : Nat) (e : TypeId) (i : TypeInfo) (z : Value) (size bytes : Nat) (ht : P.underlying t = some (.slice e)) (ht2 : P.underlying t2 = some (.slice e)) (hi : P.info? e = some i) (hz : i.zero = some z)
    (hsize : i.size = size) (hby : i.bytes = bytes) (hzs : z.cells.size = size) (hsz : 0 < size)
    (v : Value) (n : Nat) (xs : List Value) (hs : a.eval s = v) (hown : w.ownsRow base e size v n xs)
    (ad : Addr) (m c : Nat) (news : List Value) (hx : a.eval x = .slice (some ad) m c) (hl : news.length = m * size) (hnews : ∀ j u, news[j]? = some u → w.cell? (ad.add j) = some u) (h1 : ∀ u ∈ news, u.oneCell' = true)
    (h63 : n + m ≤ maxLen) (hbytes : (n + m) * bytes ≤ 140737488355328) (hbase : base ≤ w.heap.size)
    (h : ∀ v' w', w'.ownsRow base e size v' (n + m) (xs ++ news) → w.grownBy w' v.ownBlock → wpList P ops Q rest (a.put o.dst v') w') :
    wpList P ops Q (o :: rest) a w := by
  refine wpList_plain hgd fun K hK => ?_
  obtain ⟨v', w', hr, h2, h3, _, _⟩ := run_append_own_at (P := P) w base t o.type e i z size bytes ht hi hz hsize hby hzs hsz v n xs hown ad m c news hl hnews h1 h63 hbytes hbase
  obtain ⟨b0, l0, c0, hv⟩ : ∃ b l c, v = .slice b l c := by
    rcases hown.2 with ⟨rfl, _⟩ | ⟨g, cap, cur, rfl, _⟩
    · exact ⟨_, _, _, rfl⟩
    · exact ⟨_, _, _, rfl⟩
  have hr2 : (Builtin.append_ #[t, t2] o.type #[v, .slice (some ad) m c]).run P w = .ok v' w' := by
    refine Eq.trans ?_ hr
    rw [hv]
    simp only [Builtin.append_, List.getElem?_toArray, List.getElem?_cons_zero, List.getElem?_cons_succ, Sem.run_bind, Sem.run_pure, run_underlying ht, run_underlying ht2, Result.andThen_ok]
  unfold Oper.wp execOp
  simp only [ho, resolve, invoke, builtin, Sem.run_bind, Sem.run_pure, Result.andThen_ok, List.map_toArray, List.map_cons, List.map_nil, hs, hx, hr2]
  exact hK _ _ (h v' w' h2 h3)

set_option maxRecDepth 100000 in
set_option maxHeartbeats 1000000 in
theorem addTo1_w (B G n cap : Nat) (l : List Nat) (w : World) (hn : l.length = n) (hn1 : 1 ≤ n) (hn2 : n ≤ 100) (hB : B < w.heap.size) (hc : w.cell? ⟨B, 0, none⟩ = some (.slice none 0 0)) (hf : w.frozen? ⟨B, 0, none⟩ = false) (hG : Hid (∀ (j : Nat) (u : Value), (l.map intV)[j]? = some u → w.cell? ⟨G, j, none⟩ = some u)) :
    Calls Tryz.prog 189 #[.slice (some ⟨G, 0, none⟩) n cap, .pointer (some ⟨B, 0, none⟩)] w fun e w' =>
      e = .returned (.tuple #[]) ∧ ∃ v1 w1, w' = w1.setCell ⟨B, 0, none⟩ v1 ∧ Below w.heap.size w w1 ∧ w1.ownsRow w.heap.size 3 1 v1 n (l.map intV) := by
  obtain ⟨i0, hi, hz0, hz1, hz2⟩ := info_parts info3'
  have HN := Lib.hid hn
  clear hn
  go_enter Tryz.func189, Tryz.ntmps189
  go_wp2_with (at_builtin; refine wpList_append_two rfl (.tmp 8) (.tmp 9) 22 82 rfl w.heap.size 3 i0 (.int .i64 0) 1 8 Tryz.underlying22 Tryz.underlying82 hi hz0 hz1 hz2 rfl (by decide) _ 0 _ rfl (World.ownsRow_nil _ _ _ _) ⟨G, 0, none⟩ n cap (l.map intV) rfl (by rw [List.length_map, HN.out, Nat.mul_one]) (fun j u h => by rw [add_mk, Nat.zero_add]; exact hG.out j u h) (by intro u hu; rw [List.mem_map] at hu; obtain ⟨y, _, rfl⟩ := hu; rfl) (by unfold maxLen; omega) (by omega) (Nat.le_refl _) ?_; intro v7 w7 hown7 hgrow7; have hb7 : Below w.heap.size w w7 := (Below.refl _ _).grown hgrow7 (Nat.le_refl _) (fun r e => by cases e); obtain ⟨z1, z2⟩ := bcell hb7; have z3 := (z1 B 0 hB).trans hc; have z4 := (z2 B 0 hB).trans hf; obtain ⟨g7, c7, rfl, _⟩ := vals_of_owns hown7 (by omega); have HO := Lib.hid hown7; have HB7 := Lib.hid hb7; clear hown7 hgrow7 hb7 z1 z2)
  go_end0
  refine ⟨rfl, _, _, rfl, HB7.out, ?_⟩
  have h := HO.out
  simp only [Nat.zero_add, List.nil_append] at h ⊢
  exact h
end Go.Kn

namespace Go.Kn
open Go Go.Proofs Go.RowKit Go.Shelf

theorem lies5 {W : World} {b : Nat} {x0 x1 x2 x3 x4 : Value} (h : W.cell? ⟨b, 0, none⟩ = some x0 ∧ W.cell? ⟨b, 1, none⟩ = some x1 ∧ W.cell? ⟨b, 2, none⟩ = some x2 ∧ W.cell? ⟨b, 3, none⟩ = some x3 ∧ W.cell? ⟨b, 4, none⟩ = some x4) : ∀ (j : Nat) (u : Value), [x0, x1, x2, x3, x4][j]? = some u → W.cell? ((⟨b, 0, none⟩ : Addr).add j) = some u := by
  intro j u hj
  rw [add_mk, Nat.zero_add]
  match j, hj with
  | 0, hj => simp at hj; subst hj; exact h.1
  | 1, hj => simp at hj; subst hj; exact h.2.1
  | 2, hj => simp at hj; subst hj; exact h.2.2.1
  | 3, hj => simp at hj; subst hj; exact h.2.2.2.1
  | 4, hj => simp at hj; subst hj; exact h.2.2.2.2

theorem stCells_snoc (t : Nat → St5) (k : Nat) : stCells t (k + 1) = stCells t k ++ [.int .i64 (t k).b, .int .i64 (t k).d, .int .i64 (t k).f, .int .i64 (t k).lo, .int .i64 (t k).hi] := by
  apply List.ext_getElem?
  intro j
  by_cases h : j < k * 5
  · rw [List.getElem?_append_left (by rw [stCells_len]; exact h), stCells_get h, stCells_get (by omega)]
  · rw [List.getElem?_append_right (by rw [stCells_len]; omega), stCells_len]
    by_cases h2 : j < (k + 1) * 5
    · rw [stCells_get h2]
      obtain ⟨r, hr, rfl⟩ : ∃ r, r < 5 ∧ j = k * 5 + r := ⟨j - k * 5, by omega, by omega⟩
      rw [show (k * 5 + r) / 5 = k by omega, show (k * 5 + r) % 5 = r by omega, show k * 5 + r - k * 5 = r by omega]
      match r, hr with
      | 0, _ => rfl
      | 1, _ => rfl
      | 2, _ => rfl
      | 3, _ => rfl
      | 4, _ => rfl
    · rw [List.getElem?_eq_none (by rw [stCells_len]; omega), List.getElem?_eq_none (by simp; omega)]

set_option maxRecDepth 100000 in
set_option maxHeartbeats 2000000 in
theorem addTo2_w (B base k c0 : Nat) (b0 : Option Addr) (t : Nat → St5) (w : World) (hk : k ≤ 1000) (hB : B < base) (hbs : base ≤ w.heap.size) (hc : w.cell? ⟨B, 1, none⟩ = some (.slice b0 k c0)) (hf : w.frozen? ⟨B, 1, none⟩ = false) (hown : Hid (w.ownsRow base 74 5 (.slice b0 k c0) k (stCells t k))) :
    Calls Tryz.prog 192 #[.agg #[.int .i64 (t k).b, .int .i64 (t k).d, .int .i64 (t k).f, .int .i64 (t k).lo, .int .i64 (t k).hi], .pointer (some ⟨B, 0, none⟩)] w fun e w' =>
      e = .returned (.tuple #[]) ∧ ∃ g c w1, w' = w1.setCell ⟨B, 1, none⟩ (.slice (some ⟨g, 0, none⟩) (k + 1) c) ∧ Below base w w1 ∧ w1.ownsRow base 74 5 (.slice (some ⟨g, 0, none⟩) (k + 1) c) (k + 1) (stCells t (k + 1)) := by
  obtain ⟨j0, hj, hj0, hj1, hj2⟩ := info_parts info39
  have hBw : B < w.heap.size := by omega
  have hBne : w.heap.size ≠ B := by omega
  have hBne' : B ≠ w.heap.size := by omega
  go_enter Tryz.func192, Tryz.ntmps192
  go_wp2
  go_region_law
    ((first
      | (refine step_append_lies _ rfl (.tmp 8) (.tmp 10) 23 rfl base 74 j0 _ 5 40 Tryz.underlying23 hj hj0 hj1 hj2 rfl (by decide) _ k _ rfl (by first | exact (hown.out.alloc _).drew.alloc _ | exact ((hown.out.alloc _).alloc _).drew | exact ((hown.out.alloc _).alloc _)) ⟨_, 0, none⟩ 1 1 [.int .i64 (t k).b, .int .i64 (t k).d, .int .i64 (t k).f, .int .i64 (t k).lo, .int .i64 (t k).hi] rfl rfl (lies5 ⟨by simp, by simp, by simp, by simp, by simp⟩) (by intro u hu; simp at hu; rcases hu with rfl | rfl | rfl | rfl | rfl <;> rfl) (by decide) (by unfold maxLen; omega) (by omega) (by simp; omega) _ rfl ?_; intro g6 cap6 w6 hown6 hgrow6 hat6 hlt6; have hb6 : Below base w w6 := Below.grown (by repeat (first | exact Below.refl _ _ | refine Below.alloc ?_ (by first | omega | (simp; omega)) _ | refine Below.drew ?_)) hgrow6 (by simp; omega) (fun r e => own_ge hown.out r e); have u3 := (hb6.cell (p := ⟨B, 1, none⟩) hB).trans hc; have u4 := (hb6.frozen (p := ⟨B, 1, none⟩) hB).trans hf)))
  all_goals
    go_end0
    refine ⟨rfl, _, _, _, rfl, hb6, ?_⟩
    rw [stCells_snoc]
    exact hown6
end Go.Kn
