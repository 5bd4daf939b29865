/- Walks of functions of layer 2 (contracts that the laws of this seat use). Conditions: as each theorem states them. -/
import Derived.Test.YtalnemafmklelaaGreatDoorBQ
import Derived.Deep.RegionHeld3
import Derived.Deep.RegionWith
set_option linter.unusedVariables false
set_option linter.unusedSimpArgs false
namespace Go.Kn
open Go Go.Proofs Go.RowKit

def ntc (x : Nt3) : Nat → Value
  | 0 => .int .i64 x.ag
  | 1 => .int .i64 x.lo
  | _ => .int .i64 x.hi

def ntCells (t : Nat → Nt3) (lt : Nat) : List Value := (List.range (lt * 3)).map fun j => ntc (t (j / 3)) (j % 3)

theorem ntCells_len (t : Nat → Nt3) (lt : Nat) : (ntCells t lt).length = lt * 3 := by simp [ntCells]

theorem ntCells_get {t : Nat → Nt3} {lt j : Nat} (h : j < lt * 3) : (ntCells t lt)[j]? = some (ntc (t (j / 3)) (j % 3)) := by
  simp [ntCells, h]

theorem ntCells_one (t : Nat → Nt3) (lt : Nat) : ∀ u ∈ ntCells t lt, u.oneCell' = true := by
  intro u hu
  simp only [ntCells, List.mem_map] at hu
  obtain ⟨j, _, rfl⟩ := hu
  unfold ntc
  split <;> rfl

theorem NtAt.cellOf {w : World} {C P lt : Nat} {t : Nat → Nt3} (h : NtAt w C P lt t) {j : Nat} (hj : j < lt * 3) : w.cell? ⟨C, P + j, none⟩ = some (ntc (t (j / 3)) (j % 3)) := by
  obtain ⟨q, r, hr, rfl⟩ : ∃ q r, r < 3 ∧ j = q * 3 + r := ⟨j / 3, j % 3, Nat.mod_lt _ (by omega), by omega⟩
  rw [show (q * 3 + r) / 3 = q by omega, show (q * 3 + r) % 3 = r by omega]
  obtain ⟨h0, h1, h2⟩ := h q (by omega)
  match r, hr with
  | 0, _ => exact h0
  | 1, _ => exact h1
  | 2, _ => exact h2

theorem NtAt.news {w : World} {C P lt : Nat} {t : Nat → Nt3} (h : NtAt w C P lt t) : ∀ (j : Nat) (u : Value), (ntCells t lt)[j]? = some u → w.cell? ((⟨C, P, none⟩ : Addr).add j) = some u := by
  intro j u hu
  have hj : j < lt * 3 := by
    have := (List.getElem?_eq_some_iff.1 hu).1
    rwa [ntCells_len] at this
  rw [ntCells_get hj] at hu
  rw [add_mk, ← hu]
  exact h.cellOf hj

theorem NtAt.of_owns {w : World} {base g lt cap : Nat} {t : Nat → Nt3} (h : w.ownsRow base 65 3 (.slice (some ⟨g, 0, none⟩) lt cap) lt (ntCells t lt)) : NtAt w g 0 lt t := by
  rcases h.2 with ⟨h1, _⟩ | ⟨g', cap', cur, h1, hb, hg, hn, hc, hs, hx⟩
  · cases h1
  · cases h1
    have hc : ∀ j, j < lt * 3 → w.cell? ⟨g, j, none⟩ = some (ntc (t (j / 3)) (j % 3)) := fun j hj => by
      have h2 := ntCells_get (t := t) hj
      rw [← hx, List.getElem?_take, if_pos hj] at h2
      simp only [Array.getElem?_toList] at h2
      simp [World.cell?, hg, h2]
    intro i hi
    have e : ∀ r, r < 3 → w.cell? ⟨g, 0 + i * 3 + r, none⟩ = some (ntc (t i) r) := fun r hr => by
      have := hc (i * 3 + r) (by omega)
      rw [show (i * 3 + r) / 3 = i by omega, show (i * 3 + r) % 3 = r by omega] at this
      rw [Nat.zero_add]; exact this
    exact ⟨e 0 (by omega), e 1 (by omega), e 2 (by omega)⟩

/-- one note more -/
def moreQ (q : Nat → Nt3) (ln : Nat) (y : Nt3) : Nat → Nt3 := fun i => if i < ln then q i else y

theorem moreQ_cells (q : Nat → Nt3) (ln : Nat) (y : Nt3) : ntCells (moreQ q ln y) (ln + 1) = ntCells q ln ++ [.int .i64 y.ag, .int .i64 y.lo, .int .i64 y.hi] := by
  apply List.ext_getElem?
  intro j
  by_cases h : j < ln * 3
  · rw [ntCells_get (by omega), List.getElem?_append_left (by rw [ntCells_len]; omega), ntCells_get h]
    have : j / 3 < ln := by omega
    simp [moreQ, this]
  · rw [List.getElem?_append_right (by rw [ntCells_len]; omega), ntCells_len]
    by_cases h2 : j < (ln + 1) * 3
    · rw [ntCells_get h2]
      obtain ⟨r, hr, rfl⟩ : ∃ r, r < 3 ∧ j = ln * 3 + r := ⟨j - ln * 3, by omega, by omega⟩
      rw [show (ln * 3 + r) / 3 = ln by omega, show (ln * 3 + r) % 3 = r by omega, show ln * 3 + r - ln * 3 = r by omega]
      match r, hr with
      | 0, _ => simp [moreQ, ntc]
      | 1, _ => simp [moreQ, ntc]
      | 2, _ => simp [moreQ, ntc]
    · rw [List.getElem?_eq_none (by rw [ntCells_len]; omega), List.getElem?_eq_none (by simp; omega)]

theorem AgP.less {s : Nat → Int} {x : St5} {ln : Nat} {q : Nat → Nt3} {y : Nt3} {r : Int} (h : AgP s x (ln + 1) (moreQ q ln y) r) : AgP s x ln q r := fun i hi => by
  have := h i (by omega)
  simpa [moreQ, hi] using this

theorem NotesP.ages {ln : Nat} {q : Nat → Nt3} (h : NotesP ln q) {i : Nat} (hi : i < ln) : 0 ≤ (q i).ag := by
  have hag := h.ok i hi
  simp only [ntB, fromB, Bool.and_eq_true, decide_eq_true_eq] at hag
  exact hag.1.1

/-- rates between two that agree do so -/
theorem AgP.mid {s : Nat → Int} {x : St5} {ln : Nat} {q : Nat → Nt3} {a r b : Int} (hs : 0 ≤ s x.f.toNat) (hQ : NotesP ln q) (h0 : 0 ≤ a) (h1 : a ≤ r) (h2 : r ≤ b) (ha : AgP s x ln q a) (hb : AgP s x ln q b) : AgP s x ln q r := fun i hi => by
  have e1 := ha i hi
  have e2 := hb i hi
  have hg := hQ.ages hi
  have m1 := cupsL_mono (s := s) (x := x) hs h0 h1 hg (Int.le_refl (q i).ag)
  have m2 := cupsL_mono (s := s) (x := x) hs (by omega : 0 ≤ r) h2 hg (Int.le_refl (q i).ag)
  simp only [agB, fromB, decide_eq_true_eq] at e1 e2 ⊢
  omega

theorem LimeP.iff {s : Nat → Int} {x : St5} {ln : Nat} {q : Nat → Nt3} {lo hi a b r : Int} (h : LimeP (AgP s x ln q) lo hi a b) (hs : 0 ≤ s x.f.toNat) (hQ : NotesP ln q) (h0 : 0 ≤ lo) (hp : 0 ≤ a) (h1 : lo ≤ r) (h2 : r < hi) : AgP s x ln q r ↔ a ≤ r ∧ r ≤ b := by
  rcases h with ⟨e1, _⟩ | ⟨e1, e2, e3, e4, e5, e6, e7⟩
  · omega
  · constructor
    · intro hr
      constructor
      · rcases Int.lt_or_le r a with e | e
        · exact (e6 r h1 e hr).elim
        · exact e
      · rcases Int.lt_or_le b r with e | e
        · exact (e7 r e h2 hr).elim
        · exact e
    · intro ⟨hr1, hr2⟩
      exact AgP.mid hs hQ (by omega) hr1 hr2 e4 e5

theorem agrees_v (A O C P ls cs lt ct n : Nat) (sa : Option Addr) (ln cn : Nat) (s : Nat → Int) (t : Nat → St5) (q : Nat → Nt3) (r : Int) (w : World) (H : Hid (LineAt w A O C P ls lt s t)) (hn : n < lt) (hln : ln ≤ 1000000) (HN : Hid (NtSl w sa ln q)) (HQ : Hid (NotesP ln q)) (hr : 0 ≤ r ∧ r ≤ 100) :
    Calls Tryz.prog 40 #[.agg #[.slice (some ⟨A, O, none⟩) ls cs, .slice (some ⟨C, P, none⟩) lt ct], .int .i64 (n : Int), .slice sa ln cn, .int .i64 r] w
      fun e w' => e = .returned (.bool (agAll s (t n) ln q r)) ∧ Below w.heap.size w w' := by
  refine (agrees_w A O C P ls cs lt ct n sa ln cn s t q r w H hn hln HN HQ hr).mono ?_
  rintro e w' ⟨⟨rb, rfl, hrb⟩, hb⟩
  refine ⟨?_, hb⟩
  have : rb = agAll s (t n) ln q r := by rw [Bool.eq_iff_iff, hrb, agAll_iff]
  rw [this]

theorem info65 : (Tryz.prog.info? 65).map (fun i => (i.zero, i.size, i.bytes)) = some (some (.agg #[.int .i64 0, .int .i64 0, .int .i64 0]), 3, 24) := by kernel_rfl
end Go.Kn

namespace Go.Kn
open Go Go.Proofs Go.RowKit

theorem box3 {w w1 : World} {x y z : Value} {T : TypeId} (hb : Below (w.alloc (.cells #[x, y, z] T)).heap.size (w.alloc (.cells #[x, y, z] T)) w1) :
    w1.cell? ⟨w.heap.size, 0, none⟩ = some x ∧ w1.cell? ⟨w.heap.size, 1, none⟩ = some y ∧ w1.cell? ⟨w.heap.size, 2, none⟩ = some z ∧ w.heap.size < w1.heap.size := by
  obtain ⟨hc, _⟩ := bcell hb
  refine ⟨(hc _ _ (by simp)).trans (by simp), (hc _ _ (by simp)).trans (by simp), (hc _ _ (by simp)).trans (by simp), ?_⟩
  have := hb.size
  simp at this; omega

/-- two new blocks: a line, a note -/
structure MX (w W : World) (x y : Value) (a b c : Int) : Prop where
  bel : Below w.heap.size w W
  x1 : W.cell? ⟨w.heap.size, 0, none⟩ = some x
  x2 : W.cell? ⟨w.heap.size, 1, none⟩ = some y
  z0 : W.cell? ⟨w.heap.size + 1, 0, none⟩ = some (.int .i64 a)
  z1 : W.cell? ⟨w.heap.size + 1, 1, none⟩ = some (.int .i64 b)
  z2 : W.cell? ⟨w.heap.size + 1, 2, none⟩ = some (.int .i64 c)
  sz : w.heap.size + 1 < W.heap.size

theorem MX.below {w W W1 : World} {x y : Value} {a b c : Int} (h : MX w W x y a b c) (hb : Below W.heap.size W W1) : MX w W1 x y a b c := by
  obtain ⟨k, f⟩ := bcell hb
  have s := h.sz
  have l0 : w.heap.size < W.heap.size := by omega
  exact ⟨h.bel.trans (hb.mono h.bel.size), (k _ _ l0).trans h.x1, (k _ _ l0).trans h.x2, (k _ _ s).trans h.z0, (k _ _ s).trans h.z1, (k _ _ s).trans h.z2, Nat.lt_of_lt_of_le s hb.size⟩

theorem MX.start (w : World) (x y : Value) (a b c : Int) (T T1 : TypeId) : MX w ((w.alloc (.cells #[x, y] T)).alloc (.cells #[.int .i64 a, .int .i64 b, .int .i64 c] T1)) x y a b c := by
  have e1 : Below (w.alloc (.cells #[x, y] T)).heap.size (w.alloc (.cells #[x, y] T)) ((w.alloc (.cells #[x, y] T)).alloc (.cells #[.int .i64 a, .int .i64 b, .int .i64 c] T1)) := (Below.refl _ _).alloc (Nat.le_refl _) _
  have e2 : Below ((w.alloc (.cells #[x, y] T)).alloc (.cells #[.int .i64 a, .int .i64 b, .int .i64 c] T1)).heap.size ((w.alloc (.cells #[x, y] T)).alloc (.cells #[.int .i64 a, .int .i64 b, .int .i64 c] T1)) ((w.alloc (.cells #[x, y] T)).alloc (.cells #[.int .i64 a, .int .i64 b, .int .i64 c] T1)) := Below.refl _ _
  obtain ⟨x1, x2, _⟩ := box_cells e1
  obtain ⟨z0, z1, z2, _⟩ := box3 e2
  simp only [World.size_alloc] at z0 z1 z2
  exact ⟨below_al e1, x1, x2, z0, z1, z2, by simp only [World.size_alloc]; omega⟩

theorem lies3 {W : World} {b : Nat} {x y z : Value} (h : W.cell? ⟨b, 0, none⟩ = some x ∧ W.cell? ⟨b, 1, none⟩ = some y ∧ W.cell? ⟨b, 2, none⟩ = some z) : ∀ (j : Nat) (u : Value), [x, y, z][j]? = some u → W.cell? ((⟨b, 0, none⟩ : Addr).add j) = some u := by
  intro j u hj
  match j, hj with
  | 0, hj => simp at hj; subst hj; exact h.1
  | 1, hj => simp at hj; subst hj; rw [add_mk, Nat.zero_add]; exact h.2.1
  | 2, hj => simp at hj; subst hj; rw [add_mk, Nat.zero_add]; exact h.2.2

theorem LineAt.ends {w : World} {A O C P ls lt n : Nat} {s : Nat → Int} {t : Nat → St5} (h : LineAt w A O C P ls lt s t) (hn : n < lt) :
    w.cell? ⟨C, P + n * 5 + 3, none⟩ = some (.int .i64 (t n).lo) ∧ w.cell? ⟨C, P + n * 5 + 4, none⟩ = some (.int .i64 (t n).hi) := ⟨(h.st n hn).2.2.2.1, (h.st n hn).2.2.2.2⟩
end Go.Kn

namespace Go.Kn
open Go Go.Proofs Go.RowKit

theorem run_append_nil0 {P : Program} {w : World} (t ty e : TypeId) (i : TypeInfo) (ht : P.underlying t = some (.slice e)) (hi : P.info? e = some i) (sq : Option Addr) (c : Nat) :
    (Builtin.append_ #[t, t] ty #[.slice none 0 0, .slice sq 0 c]).run P w = .ok (.slice none 0 0) w := by
  cases sq <;> simp [Builtin.append_, run_underlying ht, sizeOf, typeInfo, hi, Builtin.lenOf, Builtin.firstCells, loadCells, loadCellsFrom]

theorem step_append_sl {P : Program} {w : World} {ops : Array Oper} {o : Oper} {a : Act} {K : Act → World → Prop} {Q : Exit → Act → World → Prop} {E : Prop} (hgd : o.guard = none) (s x : Operand) (t : TypeId)
    (ho : o.op = .call { callee := .builtin .append, args := #[s, x], argTypes := #[t, t] })
    (base : Nat) (e : TypeId) (i : TypeInfo) (z : Value) (size bytes : Nat) (ht : P.underlying t = some (.slice e)) (hi : P.info? e = some i) (hz : i.zero = some z)
    (hsize : i.size = size) (hby : i.bytes = bytes) (hzs : z.cells.size = size) (hsz : 0 < size)
    (hs : a.eval s = .slice none 0 0) (sq : Option Addr) (m c : Nat) (news : List Value) (hx : a.eval x = .slice sq m c) (hl : news.length = m * size)
    (hnews : m = 0 ∨ ∃ ad, sq = some ad ∧ ∀ j u, news[j]? = some u → w.cell? (ad.add j) = some u) (h1 : ∀ u ∈ news, u.oneCell' = true)
    (h63 : m ≤ maxLen) (hbytes : m * bytes ≤ 140737488355328) (hbase : base ≤ w.heap.size)
    (h : ∀ va cap w', w'.ownsRow base e size (.slice va m cap) m news → w.grownBy w' none → (∀ r, (Value.slice va m cap).ownBlock = some r → r = w.heap.size) → K (a.put o.dst (.slice va m cap)) w') :
    if Region.wanted o (yielded ops a.tmps) = true then Oper.wp P o a w K Q else E := by
  by_cases hm : m = 0
  · subst hm
    have hn : news = [] := by cases news with
      | nil => rfl
      | cons _ _ => simp at hl
    subst hn
    have hw : Region.wanted o (yielded ops a.tmps) = true := by simp [Region.wanted, hgd]
    rw [if_pos hw]
    have hr := run_append_nil0 (P := P) (w := w) t o.type e i ht hi sq c
    unfold Oper.wp execOp
    simp only [ho, resolve, invoke, builtin, Sem.run_bind, Sem.run_pure, Result.andThen_ok, List.map_toArray, List.map_cons, List.map_nil, hs, hx, hr]
    exact h none 0 w (World.ownsRow_nil _ _ _ _) ⟨rfl, rfl, rfl, Nat.le_refl _, fun k _ _ => rfl⟩ (fun r hr => by simp [Value.ownBlock] at hr)
  · obtain ⟨ad, rfl, hn⟩ := hnews.resolve_left hm
    refine step_append_lies _ hgd s x t ho base e i z size bytes ht hi hz hsize hby hzs hsz (.slice none 0 0) 0 [] hs (World.ownsRow_nil _ _ _ _) ad m c news hx hl hn h1 (by omega) (by omega) (by rw [Nat.zero_add]; exact hbytes) hbase _ rfl ?_
    intro g cap w' h2 h3 h4 h5
    rw [Nat.zero_add, List.nil_append] at h2
    rw [Nat.zero_add]
    refine h _ _ _ h2 h3 fun r hr => ?_
    have hr' : r = g := by simpa [Value.ownBlock] using hr.symm
    rcases h4 with h4 | h4
    · simp [Value.ownBlock] at h4
    · omega
theorem bs65 (w : World) (a b c : Int) : (Instr.buildSlice 59 1 #[(0, .agg #[.int .i64 a, .int .i64 b, .int .i64 c])]).run Tryz.prog w = .ok (.slice (some ⟨w.heap.size, 0, none⟩) 1 1) (w.alloc (.cells #[.int .i64 a, .int .i64 b, .int .i64 c] 65)) := by kernel_rfl

/-- with a note more the bounds are no wider, and a rate that agrees lies within them -/
theorem lime_more {s : Nat → Int} {x : St5} {ln : Nat} {q : Nat → Nt3} {y : Nt3} {lo hi a b ra : Int} (h : LimeP (AgP s x ln q) lo hi a b) (hQ : NotesP ln q) (hQ2 : NotesP (ln + 1) (moreQ q ln y)) (hra : AgP s x (ln + 1) (moreQ q ln y) ra) (hs : 0 ≤ s x.f.toNat) (h0 : 0 ≤ lo) (hp : 0 ≤ a) (h1 : lo ≤ ra) (h2 : ra ≤ hi - 1) :
    ∀ c0 e0 : Int, LimeP (AgP s x (ln + 1) (moreQ q ln y)) lo hi c0 e0 → decide (a ≤ c0) = true ∧ decide (e0 ≤ b) = true ∧ decide (c0 ≤ ra) = true ∧ decide (ra ≤ e0) = true := by
  intro c0 e0 hl
  have hc : 0 ≤ c0 := hl.pos ⟨ra, h1, by omega, hra⟩ h0
  have k := (hl.iff hs hQ2 h0 hc h1 (by omega)).1 hra
  rcases hl with ⟨z1, _⟩ | ⟨z1, z2, z3, z4, z5, _⟩
  · omega
  · have k1 := (h.iff hs hQ h0 hp z1 (by omega)).1 z4.less
    have k2 := (h.iff hs hQ h0 hp (by omega) z3).1 z5.less
    exact ⟨decide_eq_true k1.1, decide_eq_true k2.2, decide_eq_true k.1, decide_eq_true k.2⟩

theorem step_bs65 {w : World} {ops : Array Oper} {o : Oper} {a : Act} {K : Act → World → Prop} {Q : Exit → Act → World → Prop} {E : Prop} (hgd : o.guard = none) (x : Operand) (p q r : Int)
    (ho : o.op = .buildSlice 59 1 #[(0, x)]) (hx : a.eval x = .agg #[.int .i64 p, .int .i64 q, .int .i64 r])
    (h : K (a.put o.dst (.slice (some ⟨w.heap.size, 0, none⟩) 1 1)) (w.alloc (.cells #[.int .i64 p, .int .i64 q, .int .i64 r] 65))) :
    if Region.wanted o (yielded ops a.tmps) = true then Oper.wp Tryz.prog o a w K Q else E := by
  have hw : Region.wanted o (yielded ops a.tmps) = true := by simp [Region.wanted, hgd]
  rw [if_pos hw]
  have hr := bs65 w p q r
  unfold Oper.wp execOp
  simp only [ho, List.map_toArray, List.map_cons, List.map_nil, hx, Sem.run_bind, hr, Result.andThen_ok, Sem.run_pure]
  exact h
end Go.Kn

namespace Go.Kn
open Go Go.Proofs Go.RowKit

set_option maxRecDepth 100000 in
set_option maxHeartbeats 8000000 in
theorem lawp_a (sa ta sq : Option Addr) (ls cs lt ct lq cq : Nat) (s : Nat → Int) (t : Nat → St5) (q : Nat → Nt3) (y : Nt3) (st ra : Int) (w : World) (hls : ls ≤ maxLen) (hlt : lt ≤ maxLen) (hlq : lq ≤ maxLen) (hq : ¬ (ls ≤ 13 ∧ lt ≤ 10)) (H : Hid (AnyLine w sa ta ls lt s t)) (HS : Hid (NtSl w sq lq q)) (K : Hid KnownOk) :
    Calls Tryz.prog 10 #[.agg #[.slice sa ls cs, .slice ta lt ct], .int .i64 st, .slice sq lq cq, .int .i64 ra, .agg #[.int .i64 y.ag, .int .i64 y.lo, .int .i64 y.hi]] w
      fun e w' => e = .returned (.bool true) ∧ Below w.heap.size w w' := by
  have hsh : decide (ls ≤ 13 ∧ lt ≤ 10) = false := decide_eq_false hq
  have hW : Below w.heap.size w ((w.alloc (.cells #[.slice sa ls cs, .slice ta lt ct] 25)).alloc (.cells #[.int .i64 y.ag, .int .i64 y.lo, .int .i64 y.hi] 65)) := (MX.start w (.slice sa ls cs) (.slice ta lt ct) y.ag y.lo y.hi 25 65).bel
  have BX := Lib.hid (fun (w1 : World) (hb : Below ((w.alloc (.cells #[.slice sa ls cs, .slice ta lt ct] 25)).alloc (.cells #[.int .i64 y.ag, .int .i64 y.lo, .int .i64 y.hi] 65)).heap.size ((w.alloc (.cells #[.slice sa ls cs, .slice ta lt ct] 25)).alloc (.cells #[.int .i64 y.ag, .int .i64 y.lo, .int .i64 y.hi] 65)) w1) => (show _ ∧ _ ∧ _ ∧ _ ∧ _ ∧ _ ∧ _ from have m := (MX.start w (.slice sa ls cs) (.slice ta lt ct) y.ag y.lo y.hi 25 65).below hb; ⟨m.x1, m.x2, m.z0, m.z1, m.z2, Nat.lt_trans (Nat.lt_succ_self _) m.sz, m.sz⟩))
  have HN : Hid (∀ w1, Below ((w.alloc (.cells #[.slice sa ls cs, .slice ta lt ct] 25)).alloc (.cells #[.int .i64 y.ag, .int .i64 y.lo, .int .i64 y.hi] 65)).heap.size ((w.alloc (.cells #[.slice sa ls cs, .slice ta lt ct] 25)).alloc (.cells #[.int .i64 y.ag, .int .i64 y.lo, .int .i64 y.hi] 65)) w1 → Hid (AnyLine w1 sa ta ls lt s t)) := Lib.hid fun w1 h => Lib.hid (H.out.below (hW.trans (h.mono hW.size)))
  have HI : Hid (∀ w1, Below ((w.alloc (.cells #[.slice sa ls cs, .slice ta lt ct] 25)).alloc (.cells #[.int .i64 y.ag, .int .i64 y.lo, .int .i64 y.hi] 65)).heap.size ((w.alloc (.cells #[.slice sa ls cs, .slice ta lt ct] 25)).alloc (.cells #[.int .i64 y.ag, .int .i64 y.lo, .int .i64 y.hi] 65)) w1 → Hid (NtSl w1 sq lq q)) := Lib.hid fun w1 h => Lib.hid (HS.out.below (hW.trans (h.mono hW.size)))
  have HWB : Hid (∀ w1, Below ((w.alloc (.cells #[.slice sa ls cs, .slice ta lt ct] 25)).alloc (.cells #[.int .i64 y.ag, .int .i64 y.lo, .int .i64 y.hi] 65)).heap.size ((w.alloc (.cells #[.slice sa ls cs, .slice ta lt ct] 25)).alloc (.cells #[.int .i64 y.ag, .int .i64 y.lo, .int .i64 y.hi] 65)) w1 → Below w.heap.size w w1) := Lib.hid fun w1 h => hW.trans (h.mono hW.size)
  have hb : Below ((w.alloc (.cells #[.slice sa ls cs, .slice ta lt ct] 25)).alloc (.cells #[.int .i64 y.ag, .int .i64 y.lo, .int .i64 y.hi] 65)).heap.size ((w.alloc (.cells #[.slice sa ls cs, .slice ta lt ct] 25)).alloc (.cells #[.int .i64 y.ag, .int .i64 y.lo, .int .i64 y.hi] 65)) ((w.alloc (.cells #[.slice sa ls cs, .slice ta lt ct] 25)).alloc (.cells #[.int .i64 y.ag, .int .i64 y.lo, .int .i64 y.hi] 65)) := Below.refl _ _
  obtain ⟨x1, x2, z0, z1, z2, x9, z9⟩ := BX.out _ hb
  clear hW H HS
  go_enter Tryz.func10, Tryz.ntmps10
  go_wp2_with (first
    | (go_at_call 16; refine (short_w _ _ _ _ _ _ _ hls hlt).mono ?_; rw [hsh]; rintro e wl ⟨rfl, hv⟩; replace hb := hb.trans (hv.mono hb.size); clear x1 x2 z0 z1 z2 x9 z9; obtain ⟨x1, x2, z0, z1, z2, x9, z9⟩ := BX.out _ hb)
    | (go_at_call 17; refine (K.out _).mono ?_; rintro e wl ⟨rfl, hv⟩; replace hb := hb.trans (hv.mono hb.size); clear x1 x2 z0 z1 z2 x9 z9; obtain ⟨x1, x2, z0, z1, z2, x9, z9⟩ := BX.out _ hb))
  go_ret
  exact ⟨rfl, HWB.out _ hb⟩

set_option maxRecDepth 100000 in
set_option maxHeartbeats 8000000 in
theorem lawp_b (sa ta sq : Option Addr) (ls cs lt ct lq cq : Nat) (s : Nat → Int) (t : Nat → St5) (q : Nat → Nt3) (y : Nt3) (st ra : Int) (w : World) (hls : ls ≤ maxLen) (hlt : lt ≤ maxLen) (hlq : lq ≤ maxLen) (hq : ls ≤ 13 ∧ lt ≤ 10) (hqq : ¬ lq ≤ 11) (H : Hid (AnyLine w sa ta ls lt s t)) (HS : Hid (NtSl w sq lq q)) (K : Hid KnownOk) :
    Calls Tryz.prog 10 #[.agg #[.slice sa ls cs, .slice ta lt ct], .int .i64 st, .slice sq lq cq, .int .i64 ra, .agg #[.int .i64 y.ag, .int .i64 y.lo, .int .i64 y.hi]] w
      fun e w' => e = .returned (.bool true) ∧ Below w.heap.size w w' := by
  have hsh : decide (ls ≤ 13 ∧ lt ≤ 10) = true := decide_eq_true hq
  have hq10 : (11 : Int) < (lq : Int) := by omega
  have hW : Below w.heap.size w ((w.alloc (.cells #[.slice sa ls cs, .slice ta lt ct] 25)).alloc (.cells #[.int .i64 y.ag, .int .i64 y.lo, .int .i64 y.hi] 65)) := (MX.start w (.slice sa ls cs) (.slice ta lt ct) y.ag y.lo y.hi 25 65).bel
  have BX := Lib.hid (fun (w1 : World) (hb : Below ((w.alloc (.cells #[.slice sa ls cs, .slice ta lt ct] 25)).alloc (.cells #[.int .i64 y.ag, .int .i64 y.lo, .int .i64 y.hi] 65)).heap.size ((w.alloc (.cells #[.slice sa ls cs, .slice ta lt ct] 25)).alloc (.cells #[.int .i64 y.ag, .int .i64 y.lo, .int .i64 y.hi] 65)) w1) => (show _ ∧ _ ∧ _ ∧ _ ∧ _ ∧ _ ∧ _ from have m := (MX.start w (.slice sa ls cs) (.slice ta lt ct) y.ag y.lo y.hi 25 65).below hb; ⟨m.x1, m.x2, m.z0, m.z1, m.z2, Nat.lt_trans (Nat.lt_succ_self _) m.sz, m.sz⟩))
  have HN : Hid (∀ w1, Below ((w.alloc (.cells #[.slice sa ls cs, .slice ta lt ct] 25)).alloc (.cells #[.int .i64 y.ag, .int .i64 y.lo, .int .i64 y.hi] 65)).heap.size ((w.alloc (.cells #[.slice sa ls cs, .slice ta lt ct] 25)).alloc (.cells #[.int .i64 y.ag, .int .i64 y.lo, .int .i64 y.hi] 65)) w1 → Hid (AnyLine w1 sa ta ls lt s t)) := Lib.hid fun w1 h => Lib.hid (H.out.below (hW.trans (h.mono hW.size)))
  have HI : Hid (∀ w1, Below ((w.alloc (.cells #[.slice sa ls cs, .slice ta lt ct] 25)).alloc (.cells #[.int .i64 y.ag, .int .i64 y.lo, .int .i64 y.hi] 65)).heap.size ((w.alloc (.cells #[.slice sa ls cs, .slice ta lt ct] 25)).alloc (.cells #[.int .i64 y.ag, .int .i64 y.lo, .int .i64 y.hi] 65)) w1 → Hid (NtSl w1 sq lq q)) := Lib.hid fun w1 h => Lib.hid (HS.out.below (hW.trans (h.mono hW.size)))
  have HWB : Hid (∀ w1, Below ((w.alloc (.cells #[.slice sa ls cs, .slice ta lt ct] 25)).alloc (.cells #[.int .i64 y.ag, .int .i64 y.lo, .int .i64 y.hi] 65)).heap.size ((w.alloc (.cells #[.slice sa ls cs, .slice ta lt ct] 25)).alloc (.cells #[.int .i64 y.ag, .int .i64 y.lo, .int .i64 y.hi] 65)) w1 → Below w.heap.size w w1) := Lib.hid fun w1 h => hW.trans (h.mono hW.size)
  have hb : Below ((w.alloc (.cells #[.slice sa ls cs, .slice ta lt ct] 25)).alloc (.cells #[.int .i64 y.ag, .int .i64 y.lo, .int .i64 y.hi] 65)).heap.size ((w.alloc (.cells #[.slice sa ls cs, .slice ta lt ct] 25)).alloc (.cells #[.int .i64 y.ag, .int .i64 y.lo, .int .i64 y.hi] 65)) ((w.alloc (.cells #[.slice sa ls cs, .slice ta lt ct] 25)).alloc (.cells #[.int .i64 y.ag, .int .i64 y.lo, .int .i64 y.hi] 65)) := Below.refl _ _
  obtain ⟨x1, x2, z0, z1, z2, x9, z9⟩ := BX.out _ hb
  clear hW H HS
  go_enter Tryz.func10, Tryz.ntmps10
  go_wp2_with (first
    | (go_at_call 16; refine (short_w _ _ _ _ _ _ _ hls hlt).mono ?_; rw [hsh]; rintro e wl ⟨rfl, hv⟩; replace hb := hb.trans (hv.mono hb.size); clear x1 x2 z0 z1 z2 x9 z9; obtain ⟨x1, x2, z0, z1, z2, x9, z9⟩ := BX.out _ hb)
    | (go_at_call 17; refine (K.out _).mono ?_; rintro e wl ⟨rfl, hv⟩; replace hb := hb.trans (hv.mono hb.size); clear x1 x2 z0 z1 z2 x9 z9; obtain ⟨x1, x2, z0, z1, z2, x9, z9⟩ := BX.out _ hb))
  go_ret
  exact ⟨rfl, HWB.out _ hb⟩

set_option maxRecDepth 100000 in
set_option maxHeartbeats 8000000 in
theorem lawp_c (sa ta sq : Option Addr) (ls cs lt ct lq cq : Nat) (s : Nat → Int) (t : Nat → St5) (q : Nat → Nt3) (y : Nt3) (st ra : Int) (w : World) (hls : ls ≤ 1000000) (hlt : lt ≤ 1000000) (hlq : lq ≤ 1000000) (hq : ls ≤ 13 ∧ lt ≤ 10) (hqq : lq ≤ 11) (HR : Hid (¬ RightP ls lt s t)) (H : Hid (AnyLine w sa ta ls lt s t)) (HS : Hid (NtSl w sq lq q)) (K : Hid KnownOk) :
    Calls Tryz.prog 10 #[.agg #[.slice sa ls cs, .slice ta lt ct], .int .i64 st, .slice sq lq cq, .int .i64 ra, .agg #[.int .i64 y.ag, .int .i64 y.lo, .int .i64 y.hi]] w
      fun e w' => e = .returned (.bool true) ∧ Below w.heap.size w w' := by
  have hsh : decide (ls ≤ 13 ∧ lt ≤ 10) = true := decide_eq_true hq
  have hq10 : (lq : Int) ≤ (11 : Int) := by omega
  have hW : Below w.heap.size w ((w.alloc (.cells #[.slice sa ls cs, .slice ta lt ct] 25)).alloc (.cells #[.int .i64 y.ag, .int .i64 y.lo, .int .i64 y.hi] 65)) := (MX.start w (.slice sa ls cs) (.slice ta lt ct) y.ag y.lo y.hi 25 65).bel
  have BX := Lib.hid (fun (w1 : World) (hb : Below ((w.alloc (.cells #[.slice sa ls cs, .slice ta lt ct] 25)).alloc (.cells #[.int .i64 y.ag, .int .i64 y.lo, .int .i64 y.hi] 65)).heap.size ((w.alloc (.cells #[.slice sa ls cs, .slice ta lt ct] 25)).alloc (.cells #[.int .i64 y.ag, .int .i64 y.lo, .int .i64 y.hi] 65)) w1) => (show _ ∧ _ ∧ _ ∧ _ ∧ _ ∧ _ ∧ _ from have m := (MX.start w (.slice sa ls cs) (.slice ta lt ct) y.ag y.lo y.hi 25 65).below hb; ⟨m.x1, m.x2, m.z0, m.z1, m.z2, Nat.lt_trans (Nat.lt_succ_self _) m.sz, m.sz⟩))
  have HN : Hid (∀ w1, Below ((w.alloc (.cells #[.slice sa ls cs, .slice ta lt ct] 25)).alloc (.cells #[.int .i64 y.ag, .int .i64 y.lo, .int .i64 y.hi] 65)).heap.size ((w.alloc (.cells #[.slice sa ls cs, .slice ta lt ct] 25)).alloc (.cells #[.int .i64 y.ag, .int .i64 y.lo, .int .i64 y.hi] 65)) w1 → Hid (AnyLine w1 sa ta ls lt s t)) := Lib.hid fun w1 h => Lib.hid (H.out.below (hW.trans (h.mono hW.size)))
  have HI : Hid (∀ w1, Below ((w.alloc (.cells #[.slice sa ls cs, .slice ta lt ct] 25)).alloc (.cells #[.int .i64 y.ag, .int .i64 y.lo, .int .i64 y.hi] 65)).heap.size ((w.alloc (.cells #[.slice sa ls cs, .slice ta lt ct] 25)).alloc (.cells #[.int .i64 y.ag, .int .i64 y.lo, .int .i64 y.hi] 65)) w1 → Hid (NtSl w1 sq lq q)) := Lib.hid fun w1 h => Lib.hid (HS.out.below (hW.trans (h.mono hW.size)))
  have HWB : Hid (∀ w1, Below ((w.alloc (.cells #[.slice sa ls cs, .slice ta lt ct] 25)).alloc (.cells #[.int .i64 y.ag, .int .i64 y.lo, .int .i64 y.hi] 65)).heap.size ((w.alloc (.cells #[.slice sa ls cs, .slice ta lt ct] 25)).alloc (.cells #[.int .i64 y.ag, .int .i64 y.lo, .int .i64 y.hi] 65)) w1 → Below w.heap.size w w1) := Lib.hid fun w1 h => hW.trans (h.mono hW.size)
  have hb : Below ((w.alloc (.cells #[.slice sa ls cs, .slice ta lt ct] 25)).alloc (.cells #[.int .i64 y.ag, .int .i64 y.lo, .int .i64 y.hi] 65)).heap.size ((w.alloc (.cells #[.slice sa ls cs, .slice ta lt ct] 25)).alloc (.cells #[.int .i64 y.ag, .int .i64 y.lo, .int .i64 y.hi] 65)) ((w.alloc (.cells #[.slice sa ls cs, .slice ta lt ct] 25)).alloc (.cells #[.int .i64 y.ag, .int .i64 y.lo, .int .i64 y.hi] 65)) := Below.refl _ _
  obtain ⟨x1, x2, z0, z1, z2, x9, z9⟩ := BX.out _ hb
  clear hW H HS
  go_enter Tryz.func10, Tryz.ntmps10
  go_wp2_with (first
    | (go_at_call 16; refine (short_w _ _ _ _ _ _ _ (by unfold maxLen; omega) (by unfold maxLen; omega)).mono ?_; rw [hsh]; rintro e wl ⟨rfl, hv⟩; replace hb := hb.trans (hv.mono hb.size); clear x1 x2 z0 z1 z2 x9 z9; obtain ⟨x1, x2, z0, z1, z2, x9, z9⟩ := BX.out _ hb)
    | (go_at_call 20; refine (right_w _ _ _ _ _ _ s t _ hls hlt (Lib.hid (HN.out _ hb).out.hs) (Lib.hid (HN.out _ hb).out.ht)).mono ?_; rintro e wl ⟨⟨rb, rfl, hrb⟩, hv⟩; obtain rfl : rb = false := (by cases rb <;> first | rfl | exact (HR.out (hrb.1 rfl)).elim); clear hrb; replace hb := hb.trans (hv.mono hb.size); clear x1 x2 z0 z1 z2 x9 z9; obtain ⟨x1, x2, z0, z1, z2, x9, z9⟩ := BX.out _ hb)
    | (go_at_call 17; refine (K.out _).mono ?_; rintro e wl ⟨rfl, hv⟩; replace hb := hb.trans (hv.mono hb.size); clear x1 x2 z0 z1 z2 x9 z9; obtain ⟨x1, x2, z0, z1, z2, x9, z9⟩ := BX.out _ hb))
  go_ret
  exact ⟨rfl, HWB.out _ hb⟩

set_option maxRecDepth 100000 in
set_option maxHeartbeats 8000000 in
theorem lawp_d (sa ta sq : Option Addr) (ls cs lt ct lq cq : Nat) (s : Nat → Int) (t : Nat → St5) (q : Nat → Nt3) (y : Nt3) (st ra : Int) (w : World) (hls : ls ≤ 1000000) (hlt : lt ≤ 1000000) (hlq : lq ≤ 1000000) (hq : ls ≤ 13 ∧ lt ≤ 10) (hqq : lq ≤ 11) (HR : Hid (RightP ls lt s t)) (g1 : fromB 0 ((lt : Int) - 1) st = false) (H : Hid (AnyLine w sa ta ls lt s t)) (HS : Hid (NtSl w sq lq q)) (K : Hid KnownOk) :
    Calls Tryz.prog 10 #[.agg #[.slice sa ls cs, .slice ta lt ct], .int .i64 st, .slice sq lq cq, .int .i64 ra, .agg #[.int .i64 y.ag, .int .i64 y.lo, .int .i64 y.hi]] w
      fun e w' => e = .returned (.bool true) ∧ Below w.heap.size w w' := by
  have hsh : decide (ls ≤ 13 ∧ lt ≤ 10) = true := decide_eq_true hq
  have hq10 : (lq : Int) ≤ (11 : Int) := by omega
  have hW : Below w.heap.size w ((w.alloc (.cells #[.slice sa ls cs, .slice ta lt ct] 25)).alloc (.cells #[.int .i64 y.ag, .int .i64 y.lo, .int .i64 y.hi] 65)) := (MX.start w (.slice sa ls cs) (.slice ta lt ct) y.ag y.lo y.hi 25 65).bel
  have BX := Lib.hid (fun (w1 : World) (hb : Below ((w.alloc (.cells #[.slice sa ls cs, .slice ta lt ct] 25)).alloc (.cells #[.int .i64 y.ag, .int .i64 y.lo, .int .i64 y.hi] 65)).heap.size ((w.alloc (.cells #[.slice sa ls cs, .slice ta lt ct] 25)).alloc (.cells #[.int .i64 y.ag, .int .i64 y.lo, .int .i64 y.hi] 65)) w1) => (show _ ∧ _ ∧ _ ∧ _ ∧ _ ∧ _ ∧ _ from have m := (MX.start w (.slice sa ls cs) (.slice ta lt ct) y.ag y.lo y.hi 25 65).below hb; ⟨m.x1, m.x2, m.z0, m.z1, m.z2, Nat.lt_trans (Nat.lt_succ_self _) m.sz, m.sz⟩))
  have HN : Hid (∀ w1, Below ((w.alloc (.cells #[.slice sa ls cs, .slice ta lt ct] 25)).alloc (.cells #[.int .i64 y.ag, .int .i64 y.lo, .int .i64 y.hi] 65)).heap.size ((w.alloc (.cells #[.slice sa ls cs, .slice ta lt ct] 25)).alloc (.cells #[.int .i64 y.ag, .int .i64 y.lo, .int .i64 y.hi] 65)) w1 → Hid (AnyLine w1 sa ta ls lt s t)) := Lib.hid fun w1 h => Lib.hid (H.out.below (hW.trans (h.mono hW.size)))
  have HI : Hid (∀ w1, Below ((w.alloc (.cells #[.slice sa ls cs, .slice ta lt ct] 25)).alloc (.cells #[.int .i64 y.ag, .int .i64 y.lo, .int .i64 y.hi] 65)).heap.size ((w.alloc (.cells #[.slice sa ls cs, .slice ta lt ct] 25)).alloc (.cells #[.int .i64 y.ag, .int .i64 y.lo, .int .i64 y.hi] 65)) w1 → Hid (NtSl w1 sq lq q)) := Lib.hid fun w1 h => Lib.hid (HS.out.below (hW.trans (h.mono hW.size)))
  have HWB : Hid (∀ w1, Below ((w.alloc (.cells #[.slice sa ls cs, .slice ta lt ct] 25)).alloc (.cells #[.int .i64 y.ag, .int .i64 y.lo, .int .i64 y.hi] 65)).heap.size ((w.alloc (.cells #[.slice sa ls cs, .slice ta lt ct] 25)).alloc (.cells #[.int .i64 y.ag, .int .i64 y.lo, .int .i64 y.hi] 65)) w1 → Below w.heap.size w w1) := Lib.hid fun w1 h => hW.trans (h.mono hW.size)
  have hb : Below ((w.alloc (.cells #[.slice sa ls cs, .slice ta lt ct] 25)).alloc (.cells #[.int .i64 y.ag, .int .i64 y.lo, .int .i64 y.hi] 65)).heap.size ((w.alloc (.cells #[.slice sa ls cs, .slice ta lt ct] 25)).alloc (.cells #[.int .i64 y.ag, .int .i64 y.lo, .int .i64 y.hi] 65)) ((w.alloc (.cells #[.slice sa ls cs, .slice ta lt ct] 25)).alloc (.cells #[.int .i64 y.ag, .int .i64 y.lo, .int .i64 y.hi] 65)) := Below.refl _ _
  obtain ⟨x1, x2, z0, z1, z2, x9, z9⟩ := BX.out _ hb
  clear hW H HS
  go_enter Tryz.func10, Tryz.ntmps10
  go_wp2_with (first
    | (go_at_call 16; refine (short_w _ _ _ _ _ _ _ (by unfold maxLen; omega) (by unfold maxLen; omega)).mono ?_; rw [hsh]; rintro e wl ⟨rfl, hv⟩; replace hb := hb.trans (hv.mono hb.size); clear x1 x2 z0 z1 z2 x9 z9; obtain ⟨x1, x2, z0, z1, z2, x9, z9⟩ := BX.out _ hb)
    | (go_at_call 20; refine (right_w _ _ _ _ _ _ s t _ hls hlt (Lib.hid (HN.out _ hb).out.hs) (Lib.hid (HN.out _ hb).out.ht)).mono ?_; rintro e wl ⟨⟨rb, rfl, hrb⟩, hv⟩; obtain rfl : rb = true := hrb.2 HR.out; clear hrb; replace hb := hb.trans (hv.mono hb.size); clear x1 x2 z0 z1 z2 x9 z9; obtain ⟨x1, x2, z0, z1, z2, x9, z9⟩ := BX.out _ hb)
    | (go_at_call 21; refine (number_w _ undef _ _ _ _ _ (by unfold maxLen; omega)).mono ?_; rintro e wl ⟨rfl, hv⟩; replace hb := hb.trans (hv.mono hb.size); clear x1 x2 z0 z1 z2 x9 z9; obtain ⟨x1, x2, z0, z1, z2, x9, z9⟩ := BX.out _ hb)
    | (go_at_call 17; refine (K.out _).mono ?_; rintro e wl ⟨rfl, hv⟩; replace hb := hb.trans (hv.mono hb.size); clear x1 x2 z0 z1 z2 x9 z9; obtain ⟨x1, x2, z0, z1, z2, x9, z9⟩ := BX.out _ hb))
  go_ret
  exact ⟨rfl, HWB.out _ hb⟩

set_option maxRecDepth 100000 in
set_option maxHeartbeats 8000000 in
theorem lawp_e (sa ta sq : Option Addr) (ls cs lt ct lq cq : Nat) (s : Nat → Int) (t : Nat → St5) (q : Nat → Nt3) (y : Nt3) (st ra : Int) (w : World) (hls : ls ≤ 1000000) (hlt : lt ≤ 1000000) (hlq : lq ≤ 1000000) (hq : ls ≤ 13 ∧ lt ≤ 10) (hqq : lq ≤ 11) (HR : Hid (RightP ls lt s t)) (g1 : fromB 0 ((lt : Int) - 1) st = true) (HQ : Hid (¬ NotesP lq q)) (H : Hid (AnyLine w sa ta ls lt s t)) (HS : Hid (NtSl w sq lq q)) (K : Hid KnownOk) :
    Calls Tryz.prog 10 #[.agg #[.slice sa ls cs, .slice ta lt ct], .int .i64 st, .slice sq lq cq, .int .i64 ra, .agg #[.int .i64 y.ag, .int .i64 y.lo, .int .i64 y.hi]] w
      fun e w' => e = .returned (.bool true) ∧ Below w.heap.size w w' := by
  have hsh : decide (ls ≤ 13 ∧ lt ≤ 10) = true := decide_eq_true hq
  have hq10 : (lq : Int) ≤ (11 : Int) := by omega
  have hW : Below w.heap.size w ((w.alloc (.cells #[.slice sa ls cs, .slice ta lt ct] 25)).alloc (.cells #[.int .i64 y.ag, .int .i64 y.lo, .int .i64 y.hi] 65)) := (MX.start w (.slice sa ls cs) (.slice ta lt ct) y.ag y.lo y.hi 25 65).bel
  have BX := Lib.hid (fun (w1 : World) (hb : Below ((w.alloc (.cells #[.slice sa ls cs, .slice ta lt ct] 25)).alloc (.cells #[.int .i64 y.ag, .int .i64 y.lo, .int .i64 y.hi] 65)).heap.size ((w.alloc (.cells #[.slice sa ls cs, .slice ta lt ct] 25)).alloc (.cells #[.int .i64 y.ag, .int .i64 y.lo, .int .i64 y.hi] 65)) w1) => (show _ ∧ _ ∧ _ ∧ _ ∧ _ ∧ _ ∧ _ from have m := (MX.start w (.slice sa ls cs) (.slice ta lt ct) y.ag y.lo y.hi 25 65).below hb; ⟨m.x1, m.x2, m.z0, m.z1, m.z2, Nat.lt_trans (Nat.lt_succ_self _) m.sz, m.sz⟩))
  have HN : Hid (∀ w1, Below ((w.alloc (.cells #[.slice sa ls cs, .slice ta lt ct] 25)).alloc (.cells #[.int .i64 y.ag, .int .i64 y.lo, .int .i64 y.hi] 65)).heap.size ((w.alloc (.cells #[.slice sa ls cs, .slice ta lt ct] 25)).alloc (.cells #[.int .i64 y.ag, .int .i64 y.lo, .int .i64 y.hi] 65)) w1 → Hid (AnyLine w1 sa ta ls lt s t)) := Lib.hid fun w1 h => Lib.hid (H.out.below (hW.trans (h.mono hW.size)))
  have HI : Hid (∀ w1, Below ((w.alloc (.cells #[.slice sa ls cs, .slice ta lt ct] 25)).alloc (.cells #[.int .i64 y.ag, .int .i64 y.lo, .int .i64 y.hi] 65)).heap.size ((w.alloc (.cells #[.slice sa ls cs, .slice ta lt ct] 25)).alloc (.cells #[.int .i64 y.ag, .int .i64 y.lo, .int .i64 y.hi] 65)) w1 → Hid (NtSl w1 sq lq q)) := Lib.hid fun w1 h => Lib.hid (HS.out.below (hW.trans (h.mono hW.size)))
  have HWB : Hid (∀ w1, Below ((w.alloc (.cells #[.slice sa ls cs, .slice ta lt ct] 25)).alloc (.cells #[.int .i64 y.ag, .int .i64 y.lo, .int .i64 y.hi] 65)).heap.size ((w.alloc (.cells #[.slice sa ls cs, .slice ta lt ct] 25)).alloc (.cells #[.int .i64 y.ag, .int .i64 y.lo, .int .i64 y.hi] 65)) w1 → Below w.heap.size w w1) := Lib.hid fun w1 h => hW.trans (h.mono hW.size)
  have hb : Below ((w.alloc (.cells #[.slice sa ls cs, .slice ta lt ct] 25)).alloc (.cells #[.int .i64 y.ag, .int .i64 y.lo, .int .i64 y.hi] 65)).heap.size ((w.alloc (.cells #[.slice sa ls cs, .slice ta lt ct] 25)).alloc (.cells #[.int .i64 y.ag, .int .i64 y.lo, .int .i64 y.hi] 65)) ((w.alloc (.cells #[.slice sa ls cs, .slice ta lt ct] 25)).alloc (.cells #[.int .i64 y.ag, .int .i64 y.lo, .int .i64 y.hi] 65)) := Below.refl _ _
  obtain ⟨x1, x2, z0, z1, z2, x9, z9⟩ := BX.out _ hb
  clear hW H HS
  go_enter Tryz.func10, Tryz.ntmps10
  go_wp2_with (first
    | (go_at_call 16; refine (short_w _ _ _ _ _ _ _ (by unfold maxLen; omega) (by unfold maxLen; omega)).mono ?_; rw [hsh]; rintro e wl ⟨rfl, hv⟩; replace hb := hb.trans (hv.mono hb.size); clear x1 x2 z0 z1 z2 x9 z9; obtain ⟨x1, x2, z0, z1, z2, x9, z9⟩ := BX.out _ hb)
    | (go_at_call 20; refine (right_w _ _ _ _ _ _ s t _ hls hlt (Lib.hid (HN.out _ hb).out.hs) (Lib.hid (HN.out _ hb).out.ht)).mono ?_; rintro e wl ⟨⟨rb, rfl, hrb⟩, hv⟩; obtain rfl : rb = true := hrb.2 HR.out; clear hrb; replace hb := hb.trans (hv.mono hb.size); clear x1 x2 z0 z1 z2 x9 z9; obtain ⟨x1, x2, z0, z1, z2, x9, z9⟩ := BX.out _ hb)
    | (go_at_call 21; refine (number_w _ undef _ _ _ _ _ (by unfold maxLen; omega)).mono ?_; rintro e wl ⟨rfl, hv⟩; replace hb := hb.trans (hv.mono hb.size); clear x1 x2 z0 z1 z2 x9 z9; obtain ⟨x1, x2, z0, z1, z2, x9, z9⟩ := BX.out _ hb)
    | (go_at_call 38; refine (notes_w _ _ _ q _ hlq (HI.out _ hb)).mono ?_; rintro e wl ⟨⟨rb, rfl, hrb⟩, hv⟩; obtain rfl : rb = false := (by cases rb <;> first | rfl | exact (HQ.out (hrb.1 rfl)).elim); clear hrb; replace hb := hb.trans (hv.mono hb.size); clear x1 x2 z0 z1 z2 x9 z9; obtain ⟨x1, x2, z0, z1, z2, x9, z9⟩ := BX.out _ hb)
    | (go_at_call 17; refine (K.out _).mono ?_; rintro e wl ⟨rfl, hv⟩; replace hb := hb.trans (hv.mono hb.size); clear x1 x2 z0 z1 z2 x9 z9; obtain ⟨x1, x2, z0, z1, z2, x9, z9⟩ := BX.out _ hb))
  go_ret
  exact ⟨rfl, HWB.out _ hb⟩

set_option maxRecDepth 100000 in
set_option maxHeartbeats 8000000 in
theorem lawp_f (A O C P ls cs lt ct n d : Nat) (sq : Option Addr) (lq cq : Nat) (s : Nat → Int) (t : Nat → St5) (q : Nat → Nt3) (y : Nt3) (ra : Int) (w : World) (H0 : Hid (LineAt w A O C P ls lt s t)) (hn : n < lt) (hqq : lq ≤ 11) (HS : Hid (NtSl w sq lq q)) (HQ : Hid (NotesP lq q)) (r1 : ra < (t n).lo) (K : Hid KnownOk) :
    Calls Tryz.prog 10 #[.agg #[.slice (some ⟨A, O, none⟩) ls cs, .slice (some ⟨C, P, none⟩) lt ct], .int .i64 (n : Int), .slice sq lq cq, .int .i64 ra, .agg #[.int .i64 y.ag, .int .i64 y.lo, .int .i64 y.hi]] w
      fun e w' => e = .returned (.bool true) ∧ Below w.heap.size w w' := by
  have HR : Hid (RightP ls lt s t) := Lib.hid ⟨H0.out.ls1, H0.out.ls2, H0.out.lt1, H0.out.lt2, H0.out.sok, H0.out.tok⟩
  have q0 := H0.out.ls2
  have q1 := H0.out.lt1
  have q2 := H0.out.lt2
  have hls : ls ≤ 1000000 := by omega
  have hlt : lt ≤ 1000000 := by omega
  have hlq : lq ≤ 1000000 := by omega
  have n1 : (0 : Int) ≤ (n : Int) := by omega
  have n2 : (n : Int) < (lt : Int) := by omega
  have hsh : decide (ls ≤ 13 ∧ lt ≤ 10) = true := by simp; omega
  have hq10 : (lq : Int) ≤ (11 : Int) := by omega
  have H : Hid (AnyLine w (some ⟨A, O, none⟩) (some ⟨C, P, none⟩) ls lt s t) := Lib.hid ⟨.inr ⟨A, O, rfl, H0.out.hA, H0.out.sp⟩, .inr ⟨C, P, rfl, H0.out.hC, H0.out.st⟩⟩
  have g1 : fromB 0 ((lt : Int) - 1) (n : Int) = true := by simp only [fromB, decide_eq_true_eq]; omega
  have hW : Below w.heap.size w ((w.alloc (.cells #[.slice (some ⟨A, O, none⟩) ls cs, .slice (some ⟨C, P, none⟩) lt ct] 25)).alloc (.cells #[.int .i64 y.ag, .int .i64 y.lo, .int .i64 y.hi] 65)) := (MX.start w (.slice (some ⟨A, O, none⟩) ls cs) (.slice (some ⟨C, P, none⟩) lt ct) y.ag y.lo y.hi 25 65).bel
  have HL : Hid (∀ w1, Below ((w.alloc (.cells #[.slice (some ⟨A, O, none⟩) ls cs, .slice (some ⟨C, P, none⟩) lt ct] 25)).alloc (.cells #[.int .i64 y.ag, .int .i64 y.lo, .int .i64 y.hi] 65)).heap.size ((w.alloc (.cells #[.slice (some ⟨A, O, none⟩) ls cs, .slice (some ⟨C, P, none⟩) lt ct] 25)).alloc (.cells #[.int .i64 y.ag, .int .i64 y.lo, .int .i64 y.hi] 65)) w1 → LineAt w1 A O C P ls lt s t) := Lib.hid fun w1 h => H0.out.below (hW.trans (h.mono hW.size))
  have BX := Lib.hid (fun (w1 : World) (hb : Below ((w.alloc (.cells #[.slice (some ⟨A, O, none⟩) ls cs, .slice (some ⟨C, P, none⟩) lt ct] 25)).alloc (.cells #[.int .i64 y.ag, .int .i64 y.lo, .int .i64 y.hi] 65)).heap.size ((w.alloc (.cells #[.slice (some ⟨A, O, none⟩) ls cs, .slice (some ⟨C, P, none⟩) lt ct] 25)).alloc (.cells #[.int .i64 y.ag, .int .i64 y.lo, .int .i64 y.hi] 65)) w1) => (show _ ∧ _ ∧ _ ∧ _ ∧ _ ∧ _ ∧ _ ∧ _ ∧ _ from have m := (MX.start w (.slice (some ⟨A, O, none⟩) ls cs) (.slice (some ⟨C, P, none⟩) lt ct) y.ag y.lo y.hi 25 65).below hb; have l := (HL.out w1 hb).ends hn; ⟨m.x1, m.x2, m.z0, m.z1, m.z2, Nat.lt_trans (Nat.lt_succ_self _) m.sz, m.sz, (HL.out w1 hb).hC, l⟩))
  have HN : Hid (∀ w1, Below ((w.alloc (.cells #[.slice (some ⟨A, O, none⟩) ls cs, .slice (some ⟨C, P, none⟩) lt ct] 25)).alloc (.cells #[.int .i64 y.ag, .int .i64 y.lo, .int .i64 y.hi] 65)).heap.size ((w.alloc (.cells #[.slice (some ⟨A, O, none⟩) ls cs, .slice (some ⟨C, P, none⟩) lt ct] 25)).alloc (.cells #[.int .i64 y.ag, .int .i64 y.lo, .int .i64 y.hi] 65)) w1 → Hid (AnyLine w1 (some ⟨A, O, none⟩) (some ⟨C, P, none⟩) ls lt s t)) := Lib.hid fun w1 h => Lib.hid (H.out.below (hW.trans (h.mono hW.size)))
  have HI : Hid (∀ w1, Below ((w.alloc (.cells #[.slice (some ⟨A, O, none⟩) ls cs, .slice (some ⟨C, P, none⟩) lt ct] 25)).alloc (.cells #[.int .i64 y.ag, .int .i64 y.lo, .int .i64 y.hi] 65)).heap.size ((w.alloc (.cells #[.slice (some ⟨A, O, none⟩) ls cs, .slice (some ⟨C, P, none⟩) lt ct] 25)).alloc (.cells #[.int .i64 y.ag, .int .i64 y.lo, .int .i64 y.hi] 65)) w1 → Hid (NtSl w1 sq lq q)) := Lib.hid fun w1 h => Lib.hid (HS.out.below (hW.trans (h.mono hW.size)))
  have HWB : Hid (∀ w1, Below ((w.alloc (.cells #[.slice (some ⟨A, O, none⟩) ls cs, .slice (some ⟨C, P, none⟩) lt ct] 25)).alloc (.cells #[.int .i64 y.ag, .int .i64 y.lo, .int .i64 y.hi] 65)).heap.size ((w.alloc (.cells #[.slice (some ⟨A, O, none⟩) ls cs, .slice (some ⟨C, P, none⟩) lt ct] 25)).alloc (.cells #[.int .i64 y.ag, .int .i64 y.lo, .int .i64 y.hi] 65)) w1 → Below w.heap.size w w1) := Lib.hid fun w1 h => hW.trans (h.mono hW.size)
  have hb : Below ((w.alloc (.cells #[.slice (some ⟨A, O, none⟩) ls cs, .slice (some ⟨C, P, none⟩) lt ct] 25)).alloc (.cells #[.int .i64 y.ag, .int .i64 y.lo, .int .i64 y.hi] 65)).heap.size ((w.alloc (.cells #[.slice (some ⟨A, O, none⟩) ls cs, .slice (some ⟨C, P, none⟩) lt ct] 25)).alloc (.cells #[.int .i64 y.ag, .int .i64 y.lo, .int .i64 y.hi] 65)) ((w.alloc (.cells #[.slice (some ⟨A, O, none⟩) ls cs, .slice (some ⟨C, P, none⟩) lt ct] 25)).alloc (.cells #[.int .i64 y.ag, .int .i64 y.lo, .int .i64 y.hi] 65)) := Below.refl _ _
  obtain ⟨x1, x2, z0, z1, z2, x9, z9, c9, c3, c4⟩ := BX.out _ hb
  clear hW H HS H0
  go_enter Tryz.func10, Tryz.ntmps10
  go_wp2_with (first
    | (go_at_call 16; refine (short_w _ _ _ _ _ _ _ (by unfold maxLen; omega) (by unfold maxLen; omega)).mono ?_; rw [hsh]; rintro e wl ⟨rfl, hv⟩; replace hb := hb.trans (hv.mono hb.size); clear x1 x2 z0 z1 z2 x9 z9 c9 c3 c4; obtain ⟨x1, x2, z0, z1, z2, x9, z9, c9, c3, c4⟩ := BX.out _ hb)
    | (go_at_call 20; refine (right_w _ _ _ _ _ _ s t _ hls hlt (Lib.hid (HN.out _ hb).out.hs) (Lib.hid (HN.out _ hb).out.ht)).mono ?_; rintro e wl ⟨⟨rb, rfl, hrb⟩, hv⟩; obtain rfl : rb = true := hrb.2 HR.out; clear hrb; replace hb := hb.trans (hv.mono hb.size); clear x1 x2 z0 z1 z2 x9 z9 c9 c3 c4; obtain ⟨x1, x2, z0, z1, z2, x9, z9, c9, c3, c4⟩ := BX.out _ hb)
    | (go_at_call 21; refine (number_w _ undef _ _ _ _ _ (by unfold maxLen; omega)).mono ?_; rintro e wl ⟨rfl, hv⟩; replace hb := hb.trans (hv.mono hb.size); clear x1 x2 z0 z1 z2 x9 z9 c9 c3 c4; obtain ⟨x1, x2, z0, z1, z2, x9, z9, c9, c3, c4⟩ := BX.out _ hb)
    | (go_at_call 38; refine (notes_w _ _ _ q _ hlq (HI.out _ hb)).mono ?_; rintro e wl ⟨⟨rb, rfl, hrb⟩, hv⟩; obtain rfl : rb = true := hrb.2 HQ.out; clear hrb; replace hb := hb.trans (hv.mono hb.size); clear x1 x2 z0 z1 z2 x9 z9 c9 c3 c4; obtain ⟨x1, x2, z0, z1, z2, x9, z9, c9, c3, c4⟩ := BX.out _ hb)
    | (go_at_call 17; refine (K.out _).mono ?_; rintro e wl ⟨rfl, hv⟩; replace hb := hb.trans (hv.mono hb.size); clear x1 x2 z0 z1 z2 x9 z9 c9 c3 c4; obtain ⟨x1, x2, z0, z1, z2, x9, z9, c9, c3, c4⟩ := BX.out _ hb))
  go_ret
  exact ⟨rfl, HWB.out _ hb⟩

set_option maxRecDepth 100000 in
set_option maxHeartbeats 8000000 in
theorem lawp_g (A O C P ls cs lt ct n d : Nat) (sq : Option Addr) (lq cq : Nat) (s : Nat → Int) (t : Nat → St5) (q : Nat → Nt3) (y : Nt3) (ra : Int) (w : World) (H0 : Hid (LineAt w A O C P ls lt s t)) (hn : n < lt) (hqq : lq ≤ 11) (HS : Hid (NtSl w sq lq q)) (HQ : Hid (NotesP lq q)) (r1 : (t n).lo ≤ ra) (r2 : (t n).hi < ra) (K : Hid KnownOk) :
    Calls Tryz.prog 10 #[.agg #[.slice (some ⟨A, O, none⟩) ls cs, .slice (some ⟨C, P, none⟩) lt ct], .int .i64 (n : Int), .slice sq lq cq, .int .i64 ra, .agg #[.int .i64 y.ag, .int .i64 y.lo, .int .i64 y.hi]] w
      fun e w' => e = .returned (.bool true) ∧ Below w.heap.size w w' := by
  have HR : Hid (RightP ls lt s t) := Lib.hid ⟨H0.out.ls1, H0.out.ls2, H0.out.lt1, H0.out.lt2, H0.out.sok, H0.out.tok⟩
  have q0 := H0.out.ls2
  have q1 := H0.out.lt1
  have q2 := H0.out.lt2
  have hls : ls ≤ 1000000 := by omega
  have hlt : lt ≤ 1000000 := by omega
  have hlq : lq ≤ 1000000 := by omega
  have n1 : (0 : Int) ≤ (n : Int) := by omega
  have n2 : (n : Int) < (lt : Int) := by omega
  have hsh : decide (ls ≤ 13 ∧ lt ≤ 10) = true := by simp; omega
  have hq10 : (lq : Int) ≤ (11 : Int) := by omega
  have H : Hid (AnyLine w (some ⟨A, O, none⟩) (some ⟨C, P, none⟩) ls lt s t) := Lib.hid ⟨.inr ⟨A, O, rfl, H0.out.hA, H0.out.sp⟩, .inr ⟨C, P, rfl, H0.out.hC, H0.out.st⟩⟩
  have g1 : fromB 0 ((lt : Int) - 1) (n : Int) = true := by simp only [fromB, decide_eq_true_eq]; omega
  have hW : Below w.heap.size w ((w.alloc (.cells #[.slice (some ⟨A, O, none⟩) ls cs, .slice (some ⟨C, P, none⟩) lt ct] 25)).alloc (.cells #[.int .i64 y.ag, .int .i64 y.lo, .int .i64 y.hi] 65)) := (MX.start w (.slice (some ⟨A, O, none⟩) ls cs) (.slice (some ⟨C, P, none⟩) lt ct) y.ag y.lo y.hi 25 65).bel
  have HL : Hid (∀ w1, Below ((w.alloc (.cells #[.slice (some ⟨A, O, none⟩) ls cs, .slice (some ⟨C, P, none⟩) lt ct] 25)).alloc (.cells #[.int .i64 y.ag, .int .i64 y.lo, .int .i64 y.hi] 65)).heap.size ((w.alloc (.cells #[.slice (some ⟨A, O, none⟩) ls cs, .slice (some ⟨C, P, none⟩) lt ct] 25)).alloc (.cells #[.int .i64 y.ag, .int .i64 y.lo, .int .i64 y.hi] 65)) w1 → LineAt w1 A O C P ls lt s t) := Lib.hid fun w1 h => H0.out.below (hW.trans (h.mono hW.size))
  have BX := Lib.hid (fun (w1 : World) (hb : Below ((w.alloc (.cells #[.slice (some ⟨A, O, none⟩) ls cs, .slice (some ⟨C, P, none⟩) lt ct] 25)).alloc (.cells #[.int .i64 y.ag, .int .i64 y.lo, .int .i64 y.hi] 65)).heap.size ((w.alloc (.cells #[.slice (some ⟨A, O, none⟩) ls cs, .slice (some ⟨C, P, none⟩) lt ct] 25)).alloc (.cells #[.int .i64 y.ag, .int .i64 y.lo, .int .i64 y.hi] 65)) w1) => (show _ ∧ _ ∧ _ ∧ _ ∧ _ ∧ _ ∧ _ ∧ _ ∧ _ from have m := (MX.start w (.slice (some ⟨A, O, none⟩) ls cs) (.slice (some ⟨C, P, none⟩) lt ct) y.ag y.lo y.hi 25 65).below hb; have l := (HL.out w1 hb).ends hn; ⟨m.x1, m.x2, m.z0, m.z1, m.z2, Nat.lt_trans (Nat.lt_succ_self _) m.sz, m.sz, (HL.out w1 hb).hC, l⟩))
  have HN : Hid (∀ w1, Below ((w.alloc (.cells #[.slice (some ⟨A, O, none⟩) ls cs, .slice (some ⟨C, P, none⟩) lt ct] 25)).alloc (.cells #[.int .i64 y.ag, .int .i64 y.lo, .int .i64 y.hi] 65)).heap.size ((w.alloc (.cells #[.slice (some ⟨A, O, none⟩) ls cs, .slice (some ⟨C, P, none⟩) lt ct] 25)).alloc (.cells #[.int .i64 y.ag, .int .i64 y.lo, .int .i64 y.hi] 65)) w1 → Hid (AnyLine w1 (some ⟨A, O, none⟩) (some ⟨C, P, none⟩) ls lt s t)) := Lib.hid fun w1 h => Lib.hid (H.out.below (hW.trans (h.mono hW.size)))
  have HI : Hid (∀ w1, Below ((w.alloc (.cells #[.slice (some ⟨A, O, none⟩) ls cs, .slice (some ⟨C, P, none⟩) lt ct] 25)).alloc (.cells #[.int .i64 y.ag, .int .i64 y.lo, .int .i64 y.hi] 65)).heap.size ((w.alloc (.cells #[.slice (some ⟨A, O, none⟩) ls cs, .slice (some ⟨C, P, none⟩) lt ct] 25)).alloc (.cells #[.int .i64 y.ag, .int .i64 y.lo, .int .i64 y.hi] 65)) w1 → Hid (NtSl w1 sq lq q)) := Lib.hid fun w1 h => Lib.hid (HS.out.below (hW.trans (h.mono hW.size)))
  have HWB : Hid (∀ w1, Below ((w.alloc (.cells #[.slice (some ⟨A, O, none⟩) ls cs, .slice (some ⟨C, P, none⟩) lt ct] 25)).alloc (.cells #[.int .i64 y.ag, .int .i64 y.lo, .int .i64 y.hi] 65)).heap.size ((w.alloc (.cells #[.slice (some ⟨A, O, none⟩) ls cs, .slice (some ⟨C, P, none⟩) lt ct] 25)).alloc (.cells #[.int .i64 y.ag, .int .i64 y.lo, .int .i64 y.hi] 65)) w1 → Below w.heap.size w w1) := Lib.hid fun w1 h => hW.trans (h.mono hW.size)
  have hb : Below ((w.alloc (.cells #[.slice (some ⟨A, O, none⟩) ls cs, .slice (some ⟨C, P, none⟩) lt ct] 25)).alloc (.cells #[.int .i64 y.ag, .int .i64 y.lo, .int .i64 y.hi] 65)).heap.size ((w.alloc (.cells #[.slice (some ⟨A, O, none⟩) ls cs, .slice (some ⟨C, P, none⟩) lt ct] 25)).alloc (.cells #[.int .i64 y.ag, .int .i64 y.lo, .int .i64 y.hi] 65)) ((w.alloc (.cells #[.slice (some ⟨A, O, none⟩) ls cs, .slice (some ⟨C, P, none⟩) lt ct] 25)).alloc (.cells #[.int .i64 y.ag, .int .i64 y.lo, .int .i64 y.hi] 65)) := Below.refl _ _
  obtain ⟨x1, x2, z0, z1, z2, x9, z9, c9, c3, c4⟩ := BX.out _ hb
  clear hW H HS H0
  go_enter Tryz.func10, Tryz.ntmps10
  go_wp2_with (first
    | (go_at_call 16; refine (short_w _ _ _ _ _ _ _ (by unfold maxLen; omega) (by unfold maxLen; omega)).mono ?_; rw [hsh]; rintro e wl ⟨rfl, hv⟩; replace hb := hb.trans (hv.mono hb.size); clear x1 x2 z0 z1 z2 x9 z9 c9 c3 c4; obtain ⟨x1, x2, z0, z1, z2, x9, z9, c9, c3, c4⟩ := BX.out _ hb)
    | (go_at_call 20; refine (right_w _ _ _ _ _ _ s t _ hls hlt (Lib.hid (HN.out _ hb).out.hs) (Lib.hid (HN.out _ hb).out.ht)).mono ?_; rintro e wl ⟨⟨rb, rfl, hrb⟩, hv⟩; obtain rfl : rb = true := hrb.2 HR.out; clear hrb; replace hb := hb.trans (hv.mono hb.size); clear x1 x2 z0 z1 z2 x9 z9 c9 c3 c4; obtain ⟨x1, x2, z0, z1, z2, x9, z9, c9, c3, c4⟩ := BX.out _ hb)
    | (go_at_call 21; refine (number_w _ undef _ _ _ _ _ (by unfold maxLen; omega)).mono ?_; rintro e wl ⟨rfl, hv⟩; replace hb := hb.trans (hv.mono hb.size); clear x1 x2 z0 z1 z2 x9 z9 c9 c3 c4; obtain ⟨x1, x2, z0, z1, z2, x9, z9, c9, c3, c4⟩ := BX.out _ hb)
    | (go_at_call 38; refine (notes_w _ _ _ q _ hlq (HI.out _ hb)).mono ?_; rintro e wl ⟨⟨rb, rfl, hrb⟩, hv⟩; obtain rfl : rb = true := hrb.2 HQ.out; clear hrb; replace hb := hb.trans (hv.mono hb.size); clear x1 x2 z0 z1 z2 x9 z9 c9 c3 c4; obtain ⟨x1, x2, z0, z1, z2, x9, z9, c9, c3, c4⟩ := BX.out _ hb)
    | (go_at_call 17; refine (K.out _).mono ?_; rintro e wl ⟨rfl, hv⟩; replace hb := hb.trans (hv.mono hb.size); clear x1 x2 z0 z1 z2 x9 z9 c9 c3 c4; obtain ⟨x1, x2, z0, z1, z2, x9, z9, c9, c3, c4⟩ := BX.out _ hb))
  go_ret
  exact ⟨rfl, HWB.out _ hb⟩

set_option maxRecDepth 100000 in
set_option maxHeartbeats 8000000 in
theorem lawp_h (A O C P ls cs lt ct n d : Nat) (sq : Option Addr) (lq cq : Nat) (s : Nat → Int) (t : Nat → St5) (q : Nat → Nt3) (y : Nt3) (ra : Int) (w : World) (H0 : Hid (LineAt w A O C P ls lt s t)) (hn : n < lt) (hqq : lq ≤ 11) (HS : Hid (NtSl w sq lq q)) (HQ : Hid (NotesP lq q)) (HRA : Hid (0 ≤ ra ∧ ra ≤ 100)) (r1 : (t n).lo ≤ ra) (r2 : ra ≤ (t n).hi) (HD : Hid ((t n).hi = (t n).lo + d)) (hne : Hid (ratesL (agAll s (t n) lq q) (t n).lo (d + 1) = [])) (hag : agAll s (t n) lq q ra = false) (K : Hid KnownOk) :
    Calls Tryz.prog 10 #[.agg #[.slice (some ⟨A, O, none⟩) ls cs, .slice (some ⟨C, P, none⟩) lt ct], .int .i64 (n : Int), .slice sq lq cq, .int .i64 ra, .agg #[.int .i64 y.ag, .int .i64 y.lo, .int .i64 y.hi]] w
      fun e w' => e = .returned (.bool true) ∧ Below w.heap.size w w' := by
  have HR : Hid (RightP ls lt s t) := Lib.hid ⟨H0.out.ls1, H0.out.ls2, H0.out.lt1, H0.out.lt2, H0.out.sok, H0.out.tok⟩
  have q0 := H0.out.ls2
  have q1 := H0.out.lt1
  have q2 := H0.out.lt2
  have hls : ls ≤ 1000000 := by omega
  have hlt : lt ≤ 1000000 := by omega
  have hlq : lq ≤ 1000000 := by omega
  have n1 : (0 : Int) ≤ (n : Int) := by omega
  have n2 : (n : Int) < (lt : Int) := by omega
  have hsh : decide (ls ≤ 13 ∧ lt ≤ 10) = true := by simp; omega
  have hq10 : (lq : Int) ≤ (11 : Int) := by omega
  have H : Hid (AnyLine w (some ⟨A, O, none⟩) (some ⟨C, P, none⟩) ls lt s t) := Lib.hid ⟨.inr ⟨A, O, rfl, H0.out.hA, H0.out.sp⟩, .inr ⟨C, P, rfl, H0.out.hC, H0.out.st⟩⟩
  have g1 : fromB 0 ((lt : Int) - 1) (n : Int) = true := by simp only [fromB, decide_eq_true_eq]; omega
  have hW : Below w.heap.size w ((w.alloc (.cells #[.slice (some ⟨A, O, none⟩) ls cs, .slice (some ⟨C, P, none⟩) lt ct] 25)).alloc (.cells #[.int .i64 y.ag, .int .i64 y.lo, .int .i64 y.hi] 65)) := (MX.start w (.slice (some ⟨A, O, none⟩) ls cs) (.slice (some ⟨C, P, none⟩) lt ct) y.ag y.lo y.hi 25 65).bel
  have HL : Hid (∀ w1, Below ((w.alloc (.cells #[.slice (some ⟨A, O, none⟩) ls cs, .slice (some ⟨C, P, none⟩) lt ct] 25)).alloc (.cells #[.int .i64 y.ag, .int .i64 y.lo, .int .i64 y.hi] 65)).heap.size ((w.alloc (.cells #[.slice (some ⟨A, O, none⟩) ls cs, .slice (some ⟨C, P, none⟩) lt ct] 25)).alloc (.cells #[.int .i64 y.ag, .int .i64 y.lo, .int .i64 y.hi] 65)) w1 → LineAt w1 A O C P ls lt s t) := Lib.hid fun w1 h => H0.out.below (hW.trans (h.mono hW.size))
  have BX := Lib.hid (fun (w1 : World) (hb : Below ((w.alloc (.cells #[.slice (some ⟨A, O, none⟩) ls cs, .slice (some ⟨C, P, none⟩) lt ct] 25)).alloc (.cells #[.int .i64 y.ag, .int .i64 y.lo, .int .i64 y.hi] 65)).heap.size ((w.alloc (.cells #[.slice (some ⟨A, O, none⟩) ls cs, .slice (some ⟨C, P, none⟩) lt ct] 25)).alloc (.cells #[.int .i64 y.ag, .int .i64 y.lo, .int .i64 y.hi] 65)) w1) => (show _ ∧ _ ∧ _ ∧ _ ∧ _ ∧ _ ∧ _ ∧ _ ∧ _ from have m := (MX.start w (.slice (some ⟨A, O, none⟩) ls cs) (.slice (some ⟨C, P, none⟩) lt ct) y.ag y.lo y.hi 25 65).below hb; have l := (HL.out w1 hb).ends hn; ⟨m.x1, m.x2, m.z0, m.z1, m.z2, Nat.lt_trans (Nat.lt_succ_self _) m.sz, m.sz, (HL.out w1 hb).hC, l⟩))
  have HN : Hid (∀ w1, Below ((w.alloc (.cells #[.slice (some ⟨A, O, none⟩) ls cs, .slice (some ⟨C, P, none⟩) lt ct] 25)).alloc (.cells #[.int .i64 y.ag, .int .i64 y.lo, .int .i64 y.hi] 65)).heap.size ((w.alloc (.cells #[.slice (some ⟨A, O, none⟩) ls cs, .slice (some ⟨C, P, none⟩) lt ct] 25)).alloc (.cells #[.int .i64 y.ag, .int .i64 y.lo, .int .i64 y.hi] 65)) w1 → Hid (AnyLine w1 (some ⟨A, O, none⟩) (some ⟨C, P, none⟩) ls lt s t)) := Lib.hid fun w1 h => Lib.hid (H.out.below (hW.trans (h.mono hW.size)))
  have HI : Hid (∀ w1, Below ((w.alloc (.cells #[.slice (some ⟨A, O, none⟩) ls cs, .slice (some ⟨C, P, none⟩) lt ct] 25)).alloc (.cells #[.int .i64 y.ag, .int .i64 y.lo, .int .i64 y.hi] 65)).heap.size ((w.alloc (.cells #[.slice (some ⟨A, O, none⟩) ls cs, .slice (some ⟨C, P, none⟩) lt ct] 25)).alloc (.cells #[.int .i64 y.ag, .int .i64 y.lo, .int .i64 y.hi] 65)) w1 → Hid (NtSl w1 sq lq q)) := Lib.hid fun w1 h => Lib.hid (HS.out.below (hW.trans (h.mono hW.size)))
  have HWB : Hid (∀ w1, Below ((w.alloc (.cells #[.slice (some ⟨A, O, none⟩) ls cs, .slice (some ⟨C, P, none⟩) lt ct] 25)).alloc (.cells #[.int .i64 y.ag, .int .i64 y.lo, .int .i64 y.hi] 65)).heap.size ((w.alloc (.cells #[.slice (some ⟨A, O, none⟩) ls cs, .slice (some ⟨C, P, none⟩) lt ct] 25)).alloc (.cells #[.int .i64 y.ag, .int .i64 y.lo, .int .i64 y.hi] 65)) w1 → Below w.heap.size w w1) := Lib.hid fun w1 h => hW.trans (h.mono hW.size)
  have hb : Below ((w.alloc (.cells #[.slice (some ⟨A, O, none⟩) ls cs, .slice (some ⟨C, P, none⟩) lt ct] 25)).alloc (.cells #[.int .i64 y.ag, .int .i64 y.lo, .int .i64 y.hi] 65)).heap.size ((w.alloc (.cells #[.slice (some ⟨A, O, none⟩) ls cs, .slice (some ⟨C, P, none⟩) lt ct] 25)).alloc (.cells #[.int .i64 y.ag, .int .i64 y.lo, .int .i64 y.hi] 65)) ((w.alloc (.cells #[.slice (some ⟨A, O, none⟩) ls cs, .slice (some ⟨C, P, none⟩) lt ct] 25)).alloc (.cells #[.int .i64 y.ag, .int .i64 y.lo, .int .i64 y.hi] 65)) := Below.refl _ _
  obtain ⟨x1, x2, z0, z1, z2, x9, z9, c9, c3, c4⟩ := BX.out _ hb
  clear hW H HS H0
  go_enter Tryz.func10, Tryz.ntmps10
  go_wp2_with (first
    | (go_at_call 16; refine (short_w _ _ _ _ _ _ _ (by unfold maxLen; omega) (by unfold maxLen; omega)).mono ?_; rw [hsh]; rintro e wl ⟨rfl, hv⟩; replace hb := hb.trans (hv.mono hb.size); clear x1 x2 z0 z1 z2 x9 z9 c9 c3 c4; obtain ⟨x1, x2, z0, z1, z2, x9, z9, c9, c3, c4⟩ := BX.out _ hb)
    | (go_at_call 20; refine (right_w _ _ _ _ _ _ s t _ hls hlt (Lib.hid (HN.out _ hb).out.hs) (Lib.hid (HN.out _ hb).out.ht)).mono ?_; rintro e wl ⟨⟨rb, rfl, hrb⟩, hv⟩; obtain rfl : rb = true := hrb.2 HR.out; clear hrb; replace hb := hb.trans (hv.mono hb.size); clear x1 x2 z0 z1 z2 x9 z9 c9 c3 c4; obtain ⟨x1, x2, z0, z1, z2, x9, z9, c9, c3, c4⟩ := BX.out _ hb)
    | (go_at_call 21; refine (number_w _ undef _ _ _ _ _ (by unfold maxLen; omega)).mono ?_; rintro e wl ⟨rfl, hv⟩; replace hb := hb.trans (hv.mono hb.size); clear x1 x2 z0 z1 z2 x9 z9 c9 c3 c4; obtain ⟨x1, x2, z0, z1, z2, x9, z9, c9, c3, c4⟩ := BX.out _ hb)
    | (go_at_call 38; refine (notes_w _ _ _ q _ hlq (HI.out _ hb)).mono ?_; rintro e wl ⟨⟨rb, rfl, hrb⟩, hv⟩; obtain rfl : rb = true := hrb.2 HQ.out; clear hrb; replace hb := hb.trans (hv.mono hb.size); clear x1 x2 z0 z1 z2 x9 z9 c9 c3 c4; obtain ⟨x1, x2, z0, z1, z2, x9, z9, c9, c3, c4⟩ := BX.out _ hb)
    | (go_at_call 37; refine (lime_f _ _ _ _ _ _ _ _ n _ _ _ s t q d _ (Lib.hid (HL.out _ hb)) hn hlq (HI.out _ hb) HQ HD hne).mono ?_; rintro e wl ⟨rfl, hv⟩; replace hb := hb.trans (hv.mono hb.size); clear x1 x2 z0 z1 z2 x9 z9 c9 c3 c4; obtain ⟨x1, x2, z0, z1, z2, x9, z9, c9, c3, c4⟩ := BX.out _ hb; replace hb := hb.alloc hb.size (.cells #[.int .i64 0, .int .i64 0] 31); have hy := Below.refl (wl.alloc (.cells #[.int .i64 0, .int .i64 0] 31)).heap.size (wl.alloc (.cells #[.int .i64 0, .int .i64 0] 31)))
    | (go_at_call 40; refine (agrees_v _ _ _ _ _ _ _ _ n _ _ _ s t q ra _ (Lib.hid (HL.out _ hb)) hn hlq (HI.out _ hb) HQ HRA.out).mono ?_; rw [hag]; rintro e wl ⟨rfl, hv⟩; replace hb := hb.trans (hv.mono hb.size); clear x1 x2 z0 z1 z2 x9 z9 c9 c3 c4; obtain ⟨x1, x2, z0, z1, z2, x9, z9, c9, c3, c4⟩ := BX.out _ hb; replace hy := hy.trans (hv.mono hy.size); (try clear y1 y2 y3); obtain ⟨y1, y2, y3⟩ := box_cells hy)
    | (go_at_call 17; refine (K.out _).mono ?_; rintro e wl ⟨rfl, hv⟩; replace hb := hb.trans (hv.mono hb.size); clear x1 x2 z0 z1 z2 x9 z9 c9 c3 c4; obtain ⟨x1, x2, z0, z1, z2, x9, z9, c9, c3, c4⟩ := BX.out _ hb))
  go_ret
  exact ⟨rfl, HWB.out _ hb⟩

end Go.Kn

namespace Go.Kn
open Go Go.Proofs Go.RowKit

set_option maxRecDepth 100000 in
set_option maxHeartbeats 8000000 in
theorem lawp_in (A O C P ls cs lt ct n d : Nat) (sq : Option Addr) (lq cq : Nat) (s : Nat → Int) (t : Nat → St5) (q : Nat → Nt3) (y : Nt3) (ra : Int) (w : World) (H0 : Hid (LineAt w A O C P ls lt s t)) (hn : n < lt) (hqq : lq ≤ 11) (HS : Hid (NtSl w sq lq q)) (HQ : Hid (NotesP lq q)) (a b : Int) (HRA : Hid (0 ≤ ra ∧ ra ≤ 100)) (r1 : (t n).lo ≤ ra) (r2 : ra ≤ (t n).hi) (HRa : Hid (0 ≤ a ∧ a ≤ 100)) (HRb : Hid (0 ≤ b ∧ b ≤ 100)) (e1 : (t n).lo ≤ a) (e2 : b ≤ (t n).hi) (e3 : a ≤ b) (e5 : a ≤ ra) (e6 : ra ≤ b) (HLI : Hid (LimeP (AgP s (t n) lq q) (t n).lo ((t n).hi + 1) a b)) (HD : Hid ((t n).hi = (t n).lo + d)) (hne : Hid (ratesL (agAll s (t n) lq q) (t n).lo (d + 1) ≠ [])) (hag : agAll s (t n) lq q ra = true) (haga : agAll s (t n) lq q a = true) (hagb : agAll s (t n) lq q b = true) (hs0 : 0 ≤ s (t n).f.toNat) (h0 : 0 ≤ (t n).lo) (K : Hid KnownOk) :
    Calls Tryz.prog 10 #[.agg #[.slice (some ⟨A, O, none⟩) ls cs, .slice (some ⟨C, P, none⟩) lt ct], .int .i64 (n : Int), .slice sq lq cq, .int .i64 ra, .agg #[.int .i64 y.ag, .int .i64 y.lo, .int .i64 y.hi]] w
      fun e w' => e = .returned (.bool true) ∧ Below w.heap.size w w' := by
  have HR : Hid (RightP ls lt s t) := Lib.hid ⟨H0.out.ls1, H0.out.ls2, H0.out.lt1, H0.out.lt2, H0.out.sok, H0.out.tok⟩
  have q0 := H0.out.ls2
  have q1 := H0.out.lt1
  have q2 := H0.out.lt2
  have hls : ls ≤ 1000000 := by omega
  have hlt : lt ≤ 1000000 := by omega
  have hlq : lq ≤ 1000000 := by omega
  have n1 : (0 : Int) ≤ (n : Int) := by omega
  have n2 : (n : Int) < (lt : Int) := by omega
  have hsh : decide (ls ≤ 13 ∧ lt ≤ 10) = true := by simp; omega
  have hq10 : (lq : Int) ≤ (11 : Int) := by omega
  have H : Hid (AnyLine w (some ⟨A, O, none⟩) (some ⟨C, P, none⟩) ls lt s t) := Lib.hid ⟨.inr ⟨A, O, rfl, H0.out.hA, H0.out.sp⟩, .inr ⟨C, P, rfl, H0.out.hC, H0.out.st⟩⟩
  have g1 : fromB 0 ((lt : Int) - 1) (n : Int) = true := by simp only [fromB, decide_eq_true_eq]; omega
  have hW : Below w.heap.size w ((w.alloc (.cells #[.slice (some ⟨A, O, none⟩) ls cs, .slice (some ⟨C, P, none⟩) lt ct] 25)).alloc (.cells #[.int .i64 y.ag, .int .i64 y.lo, .int .i64 y.hi] 65)) := (MX.start w (.slice (some ⟨A, O, none⟩) ls cs) (.slice (some ⟨C, P, none⟩) lt ct) y.ag y.lo y.hi 25 65).bel
  have HL : Hid (∀ w1, Below ((w.alloc (.cells #[.slice (some ⟨A, O, none⟩) ls cs, .slice (some ⟨C, P, none⟩) lt ct] 25)).alloc (.cells #[.int .i64 y.ag, .int .i64 y.lo, .int .i64 y.hi] 65)).heap.size ((w.alloc (.cells #[.slice (some ⟨A, O, none⟩) ls cs, .slice (some ⟨C, P, none⟩) lt ct] 25)).alloc (.cells #[.int .i64 y.ag, .int .i64 y.lo, .int .i64 y.hi] 65)) w1 → LineAt w1 A O C P ls lt s t) := Lib.hid fun w1 h => H0.out.below (hW.trans (h.mono hW.size))
  have BX := Lib.hid (fun (w1 : World) (hb : Below ((w.alloc (.cells #[.slice (some ⟨A, O, none⟩) ls cs, .slice (some ⟨C, P, none⟩) lt ct] 25)).alloc (.cells #[.int .i64 y.ag, .int .i64 y.lo, .int .i64 y.hi] 65)).heap.size ((w.alloc (.cells #[.slice (some ⟨A, O, none⟩) ls cs, .slice (some ⟨C, P, none⟩) lt ct] 25)).alloc (.cells #[.int .i64 y.ag, .int .i64 y.lo, .int .i64 y.hi] 65)) w1) => (show _ ∧ _ ∧ _ ∧ _ ∧ _ ∧ _ ∧ _ ∧ _ ∧ _ from have m := (MX.start w (.slice (some ⟨A, O, none⟩) ls cs) (.slice (some ⟨C, P, none⟩) lt ct) y.ag y.lo y.hi 25 65).below hb; have l := (HL.out w1 hb).ends hn; ⟨m.x1, m.x2, m.z0, m.z1, m.z2, Nat.lt_trans (Nat.lt_succ_self _) m.sz, m.sz, (HL.out w1 hb).hC, l⟩))
  have HN : Hid (∀ w1, Below ((w.alloc (.cells #[.slice (some ⟨A, O, none⟩) ls cs, .slice (some ⟨C, P, none⟩) lt ct] 25)).alloc (.cells #[.int .i64 y.ag, .int .i64 y.lo, .int .i64 y.hi] 65)).heap.size ((w.alloc (.cells #[.slice (some ⟨A, O, none⟩) ls cs, .slice (some ⟨C, P, none⟩) lt ct] 25)).alloc (.cells #[.int .i64 y.ag, .int .i64 y.lo, .int .i64 y.hi] 65)) w1 → Hid (AnyLine w1 (some ⟨A, O, none⟩) (some ⟨C, P, none⟩) ls lt s t)) := Lib.hid fun w1 h => Lib.hid (H.out.below (hW.trans (h.mono hW.size)))
  have HI : Hid (∀ w1, Below ((w.alloc (.cells #[.slice (some ⟨A, O, none⟩) ls cs, .slice (some ⟨C, P, none⟩) lt ct] 25)).alloc (.cells #[.int .i64 y.ag, .int .i64 y.lo, .int .i64 y.hi] 65)).heap.size ((w.alloc (.cells #[.slice (some ⟨A, O, none⟩) ls cs, .slice (some ⟨C, P, none⟩) lt ct] 25)).alloc (.cells #[.int .i64 y.ag, .int .i64 y.lo, .int .i64 y.hi] 65)) w1 → Hid (NtSl w1 sq lq q)) := Lib.hid fun w1 h => Lib.hid (HS.out.below (hW.trans (h.mono hW.size)))
  have HWB : Hid (∀ w1, Below ((w.alloc (.cells #[.slice (some ⟨A, O, none⟩) ls cs, .slice (some ⟨C, P, none⟩) lt ct] 25)).alloc (.cells #[.int .i64 y.ag, .int .i64 y.lo, .int .i64 y.hi] 65)).heap.size ((w.alloc (.cells #[.slice (some ⟨A, O, none⟩) ls cs, .slice (some ⟨C, P, none⟩) lt ct] 25)).alloc (.cells #[.int .i64 y.ag, .int .i64 y.lo, .int .i64 y.hi] 65)) w1 → Below w.heap.size w w1) := Lib.hid fun w1 h => hW.trans (h.mono hW.size)
  have hb : Below ((w.alloc (.cells #[.slice (some ⟨A, O, none⟩) ls cs, .slice (some ⟨C, P, none⟩) lt ct] 25)).alloc (.cells #[.int .i64 y.ag, .int .i64 y.lo, .int .i64 y.hi] 65)).heap.size ((w.alloc (.cells #[.slice (some ⟨A, O, none⟩) ls cs, .slice (some ⟨C, P, none⟩) lt ct] 25)).alloc (.cells #[.int .i64 y.ag, .int .i64 y.lo, .int .i64 y.hi] 65)) ((w.alloc (.cells #[.slice (some ⟨A, O, none⟩) ls cs, .slice (some ⟨C, P, none⟩) lt ct] 25)).alloc (.cells #[.int .i64 y.ag, .int .i64 y.lo, .int .i64 y.hi] 65)) := Below.refl _ _
  obtain ⟨x1, x2, z0, z1, z2, x9, z9, c9, c3, c4⟩ := BX.out _ hb
  clear hW H HS H0
  have d1 : decide (a < (t n).lo) = false := decide_eq_false (by omega)
  have d2 : decide ((t n).hi < b) = false := decide_eq_false (by omega)
  have d3 : decide (b < a) = false := decide_eq_false (by omega)
  have d5 : decide (a ≤ ra) = true := decide_eq_true e5
  have d6 : decide (ra ≤ b) = true := decide_eq_true e6
  obtain ⟨i0, hi, hz0, hz1, hz2⟩ := info_parts info65
  go_enter Tryz.func10, Tryz.ntmps10
  go_wp2_with (first
    | (go_at_call 16; refine (short_w _ _ _ _ _ _ _ (by unfold maxLen; omega) (by unfold maxLen; omega)).mono ?_; rw [hsh]; rintro e wl ⟨rfl, hv⟩; replace hb := hb.trans (hv.mono hb.size); clear x1 x2 z0 z1 z2 x9 z9 c9 c3 c4; obtain ⟨x1, x2, z0, z1, z2, x9, z9, c9, c3, c4⟩ := BX.out _ hb)
    | (go_at_call 20; refine (right_w _ _ _ _ _ _ s t _ hls hlt (Lib.hid (HN.out _ hb).out.hs) (Lib.hid (HN.out _ hb).out.ht)).mono ?_; rintro e wl ⟨⟨rb, rfl, hrb⟩, hv⟩; obtain rfl : rb = true := hrb.2 HR.out; clear hrb; replace hb := hb.trans (hv.mono hb.size); clear x1 x2 z0 z1 z2 x9 z9 c9 c3 c4; obtain ⟨x1, x2, z0, z1, z2, x9, z9, c9, c3, c4⟩ := BX.out _ hb)
    | (go_at_call 21; refine (number_w _ undef _ _ _ _ _ (by unfold maxLen; omega)).mono ?_; rintro e wl ⟨rfl, hv⟩; replace hb := hb.trans (hv.mono hb.size); clear x1 x2 z0 z1 z2 x9 z9 c9 c3 c4; obtain ⟨x1, x2, z0, z1, z2, x9, z9, c9, c3, c4⟩ := BX.out _ hb)
    | (go_at_call 38; refine (notes_w _ _ _ q _ hlq (HI.out _ hb)).mono ?_; rintro e wl ⟨⟨rb, rfl, hrb⟩, hv⟩; obtain rfl : rb = true := hrb.2 HQ.out; clear hrb; replace hb := hb.trans (hv.mono hb.size); clear x1 x2 z0 z1 z2 x9 z9 c9 c3 c4; obtain ⟨x1, x2, z0, z1, z2, x9, z9, c9, c3, c4⟩ := BX.out _ hb)
    | (go_at_call 37; refine (lime_t _ _ _ _ _ _ _ _ n _ _ _ s t q d _ (Lib.hid (HL.out _ hb)) hn hlq (HI.out _ hb) HQ HD hne).mono ?_; rintro e ws ⟨⟨a0, b0, rfl, hl⟩, hv⟩; obtain ⟨e1, e2⟩ := hl.uniq HLI.out; clear hl; subst e1; subst e2; replace hb := hb.trans (hv.mono hb.size); clear x1 x2 z0 z1 z2 x9 z9 c9 c3 c4; obtain ⟨x1, x2, z0, z1, z2, x9, z9, c9, c3, c4⟩ := BX.out _ hb; replace hb := hb.alloc hb.size (.cells #[.int .i64 a, .int .i64 b] 31); have hy := Below.refl (ws.alloc (.cells #[.int .i64 a, .int .i64 b] 31)).heap.size (ws.alloc (.cells #[.int .i64 a, .int .i64 b] 31)))
    | (go_at_call 40; refine (agrees_v _ _ _ _ _ _ _ _ n _ _ _ s t q ra _ (Lib.hid (HL.out _ hb)) hn hlq (HI.out _ hb) HQ HRA.out).mono ?_; rw [hag]; rintro e wl ⟨rfl, hv⟩; replace hb := hb.trans (hv.mono hb.size); clear x1 x2 z0 z1 z2 x9 z9 c9 c3 c4; obtain ⟨x1, x2, z0, z1, z2, x9, z9, c9, c3, c4⟩ := BX.out _ hb; replace hy := hy.trans (hv.mono hy.size); (try clear y1 y2 y3); obtain ⟨y1, y2, y3⟩ := box_cells hy))
  have FD : Hid (∀ w', Below wl.heap.size wl w' → (w'.cell? ⟨w.heap.size, 0, none⟩ = some (.slice (some ⟨A, O, none⟩) ls cs) ∧ w'.cell? ⟨w.heap.size, 1, none⟩ = some (.slice (some ⟨C, P, none⟩) lt ct) ∧ w'.cell? ⟨C, P + n * 5 + 3, none⟩ = some (.int .i64 (t n).lo) ∧ w'.cell? ⟨C, P + n * 5 + 4, none⟩ = some (.int .i64 (t n).hi) ∧ w'.cell? ⟨ws.heap.size, 0, none⟩ = some (.int .i64 a) ∧ w'.cell? ⟨ws.heap.size, 1, none⟩ = some (.int .i64 b))) := Lib.hid fun w' h => by
    have q9 := BX.out _ (hb.trans (h.mono hb.size))
    obtain ⟨v1, v2, v3⟩ := box_cells (hy.trans (h.mono hy.size))
    obtain ⟨x1, x2, z0, z1, z2, x9, z9, c9, c3, c4⟩ := q9
    exact ⟨x1, x2, c3, c4, v1, v2⟩
  have HL2 : Hid (∀ w', Below wl.heap.size wl w' → LineAt w' A O C P ls lt s t ∧ Hid (NtSl w' sq lq q)) := Lib.hid fun w' h => ⟨HL.out _ (hb.trans (h.mono hb.size)), HI.out _ (hb.trans (h.mono hb.size))⟩
  refine wp_region_calm (W := wl) (by kernel_rfl) (by kernel_rfl) (Below.refl _ _) ?_
  repeat (first
    | (refine calm_no (by rfl) ?_
       (try simp only [Act.put, List.setIfInBounds_toArray, List.set_cons_zero, List.set_cons_succ]))
    | (apply calm_yes
       focus rfl
       focus
         intro w' hw'
         obtain ⟨x1, x2, c3, c4, y1, y2⟩ := FD.out w' hw'
         go_simp
         first
           | done
           | with_reducible rfl
           | (first
                | (go_at_call_of 40 a; refine (agrees_v _ _ _ _ _ _ _ _ n _ _ _ s t q a _ (Lib.hid (HL2.out _ hw').1) hn hlq (HL2.out _ hw').2 HQ HRa.out).mono ?_; rw [haga]; rintro e w8 ⟨rfl, hb8⟩; exact ⟨rfl, hw'.trans (hb8.mono hw'.size)⟩)
                | (go_at_call 40; refine (agrees_v _ _ _ _ _ _ _ _ n _ _ _ s t q b _ (Lib.hid (HL2.out _ hw').1) hn hlq (HL2.out _ hw').2 HQ HRb.out).mono ?_; rw [hagb]; rintro e w8 ⟨rfl, hb8⟩; exact ⟨rfl, hw'.trans (hb8.mono hw'.size)⟩))
       (try simp only [Act.put, List.setIfInBounds_toArray, List.set_cons_zero, List.set_cons_succ])))
  refine calm_nil ?_
  intro w12 hb12
  have hyw := hy.trans (hb12.mono hy.size)
  replace hb := hb.trans (hb12.mono hb.size)
  clear x1 x2 z0 z1 z2 x9 z9 c9 c3 c4 y1 y2 y3 FD HL2
  obtain ⟨x1, x2, z0, z1, z2, x9, z9, c9, c3, c4⟩ := BX.out _ hb
  have HN9 : Hid (∀ w', Below w12.heap.size w12 w' → lq = 0 ∨ ∃ ad, sq = some ad ∧ ∀ (j : Nat) (u : Value), (ntCells q lq)[j]? = some u → w'.cell? (ad.add j) = some u) := Lib.hid fun w' h => by
    rcases (HI.out _ (hb.trans (h.mono hb.size))).out with e | ⟨C1, P1, e, _, h3⟩
    · exact .inl e
    · exact .inr ⟨_, e, h3.news⟩
  have FZ : Hid (∀ w', Below w12.heap.size w12 w' → w'.cell? ⟨w.heap.size + 1, 0, none⟩ = some (.int .i64 y.ag) ∧ w'.cell? ⟨w.heap.size + 1, 1, none⟩ = some (.int .i64 y.lo) ∧ w'.cell? ⟨w.heap.size + 1, 2, none⟩ = some (.int .i64 y.hi)) := Lib.hid fun w' h => by
    obtain ⟨x1, x2, z0, z1, z2, x9, z9, c9, c3, c4⟩ := BX.out _ (hb.trans (h.mono hb.size))
    exact ⟨z0, z1, z2⟩
  go_wp2
  go_region_held3 (fun w' => w'.cell? ⟨w.heap.size + 1, 0, none⟩ = some (.int .i64 y.ag) ∧ w'.cell? ⟨w.heap.size + 1, 1, none⟩ = some (.int .i64 y.lo) ∧ w'.cell? ⟨w.heap.size + 1, 2, none⟩ = some (.int .i64 y.hi)) ((first | exact hS | (refine FZ.out _ ?_; repeat (first | exact Below.refl _ _ | exact hb5 | refine Below.alloc ?_ (by first | exact hb5.size | (simp; done) | (simp; omega)) _ | refine Below.drew ?_)))) ((first
    | (have hx5 := hown5; refine step_append_lies _ rfl (.tmp 149) (.tmp 151) 59 rfl w12.heap.size 65 i0 _ 3 24 Tryz.underlying59 hi hz0 hz1 hz2 rfl (by decide) _ lq _ rfl (by first | exact hown5 | exact hown5.alloc _) ⟨_, 0, none⟩ 1 1 [.int .i64 y.ag, .int .i64 y.lo, .int .i64 y.hi] rfl rfl (lies3 (by first | exact ⟨(hgrow5.cell_far ⟨w12.heap.size, 0, none⟩ (by simp) (by simp)).trans (by simp), (hgrow5.cell_far ⟨w12.heap.size, 1, none⟩ (by simp) (by simp)).trans (by simp), (hgrow5.cell_far ⟨w12.heap.size, 2, none⟩ (by simp) (by simp)).trans (by simp)⟩ | exact ⟨by simp, by simp, by simp⟩)) (by intro u hu; simp at hu; rcases hu with rfl | rfl | rfl <;> rfl) (by decide) (by unfold maxLen; omega) (by omega) (by first | (simp; done) | (simp; omega) | omega) _ rfl ?_; intro g6 cap6 w6 hown6 hgrow6 hat6 hlt6; have hb6 : Below w12.heap.size w12 w6 := Below.grown (by repeat (first | exact Below.refl _ _ | exact hb5 | refine Below.alloc ?_ (by first | exact hb5.size | (simp; done) | (simp; omega)) _ | refine Below.drew ?_)) hgrow6 (by first | exact hb5.size | (simp; done) | (simp; omega)) (fun k e => own_ge hown5 k e); have hS := FZ.out _ hb6)
    | (refine step_append_sl rfl (.const (.slice none 0 0)) (.tmp 148) 59 rfl w12.heap.size 65 i0 _ 3 24 Tryz.underlying59 hi hz0 hz1 hz2 rfl (by decide) rfl sq lq cq (ntCells q lq) rfl (ntCells_len q lq) (HN9.out _ (by repeat (first | exact Below.refl _ _ | exact hb5 | refine Below.alloc ?_ (by first | exact hb5.size | (simp; done) | (simp; omega)) _ | refine Below.drew ?_))) (ntCells_one q lq) (by unfold maxLen; omega) (by omega) (by first | (simp; done) | (simp; omega) | omega) ?_; intro va cap5 w5 hown5 hgrow5 hat5'; have hat5 := Lib.hid hat5'; clear hat5'; have hb5 : Below w12.heap.size w12 w5 := Below.grown (row := none) (by repeat (first | exact Below.refl _ _ | exact hb5 | refine Below.alloc ?_ (by first | exact hb5.size | (simp; done) | (simp; omega)) _ | refine Below.drew ?_)) hgrow5 (by first | (simp; done) | (simp; omega) | omega) (fun k e => by cases e); have hb5z := hb5.size; have hS := FZ.out _ hb5)))
  all_goals
    have hfin : w6.ownsRow w12.heap.size 65 3 (.slice (some ⟨g6, 0, none⟩) (lq + 1) cap6) (lq + 1) (ntCells (moreQ q lq y) (lq + 1)) := by rw [moreQ_cells]; exact hown6
    have hnt := NtAt.of_owns hfin
    have HN6 : Hid (∀ w', Below w6.heap.size w6 w' → Hid (NtSl w' (some ⟨g6, 0, none⟩) (lq + 1) (moreQ q lq y))) := Lib.hid fun w' h => Lib.hid (.inr ⟨g6, 0, rfl, Nat.lt_of_lt_of_le hlt6 h.size, hnt.below hlt6 h⟩)
    replace hb := hb.trans (hb6.mono hb.size)
    replace hyw := hyw.trans (hb6.mono hyw.size)
    have h6 := Below.refl w6.heap.size w6
    clear hnt hfin hS hown5 hgrow5 hat5 hown6 hgrow6 hat6 hb5 hb5z hb6 FZ HN9 x1 x2 z0 z1 z2 x9 z9 c9 c3 c4
    obtain ⟨x1, x2, z0, z1, z2, x9, z9, c9, c3, c4⟩ := BX.out _ hb
    obtain ⟨y1, y2, y3⟩ := box_cells hyw
    by_cases hQ2 : NotesP (lq + 1) (moreQ q lq y)
    · have HQ2 := Lib.hid hQ2
      clear hQ2
      cases hag2 : agAll s (t n) (lq + 1) (moreQ q lq y) ra
      · go_wp2_with (first
          | (go_at_call 38; refine (notes_w _ _ _ (moreQ q lq y) _ (by omega) (HN6.out _ h6)).mono ?_; rintro e wl ⟨⟨rb, rfl, hrb⟩, hv⟩; obtain rfl : rb = true := hrb.2 HQ2.out; clear hrb; replace hb := hb.trans (hv.mono hb.size); clear x1 x2 z0 z1 z2 x9 z9 c9 c3 c4; obtain ⟨x1, x2, z0, z1, z2, x9, z9, c9, c3, c4⟩ := BX.out _ hb; replace h6 := h6.trans (hv.mono h6.size); replace hyw := hyw.trans (hv.mono hyw.size); (try clear y1 y2 y3); obtain ⟨y1, y2, y3⟩ := box_cells hyw)
          | (go_at_call 40; refine (agrees_v _ _ _ _ _ _ _ _ n _ _ _ s t (moreQ q lq y) ra _ (Lib.hid (HL.out _ hb)) hn (by omega) (HN6.out _ h6) HQ2 HRA.out).mono ?_; rw [hag2]; rintro e wl ⟨rfl, hv⟩; replace hb := hb.trans (hv.mono hb.size); clear x1 x2 z0 z1 z2 x9 z9 c9 c3 c4; obtain ⟨x1, x2, z0, z1, z2, x9, z9, c9, c3, c4⟩ := BX.out _ hb; replace h6 := h6.trans (hv.mono h6.size); replace hyw := hyw.trans (hv.mono hyw.size); (try clear y1 y2 y3); obtain ⟨y1, y2, y3⟩ := box_cells hyw)
          | (go_at_call 17; refine (K.out _).mono ?_; rintro e wl ⟨rfl, hv⟩; replace hb := hb.trans (hv.mono hb.size); clear x1 x2 z0 z1 z2 x9 z9 c9 c3 c4; obtain ⟨x1, x2, z0, z1, z2, x9, z9, c9, c3, c4⟩ := BX.out _ hb))
        go_ret
        exact ⟨rfl, HWB.out _ hb⟩
      · have hne2 : Hid (ratesL (agAll s (t n) (lq + 1) (moreQ q lq y)) (t n).lo (d + 1) ≠ []) := Lib.hid (by
          have hd9 := HD.out
          obtain ⟨j, hj⟩ : ∃ j : Nat, ra = (t n).lo + j := ⟨(ra - (t n).lo).toNat, by omega⟩
          exact ratesL_some (j := j) (by omega) (by rw [← hj]; exact hag2))
        have HMORE : Hid (∀ c0 e0 : Int, LimeP (AgP s (t n) (lq + 1) (moreQ q lq y)) (t n).lo ((t n).hi + 1) c0 e0 → decide (a ≤ c0) = true ∧ decide (e0 ≤ b) = true ∧ decide (c0 ≤ ra) = true ∧ decide (ra ≤ e0) = true) := Lib.hid (lime_more HLI.out HQ.out HQ2.out ((agAll_iff _ _ _ _ _).1 hag2) hs0 h0 HRa.out.1 r1 (by omega))
        go_wp2_with (first
          | (go_at_call 38; refine (notes_w _ _ _ (moreQ q lq y) _ (by omega) (HN6.out _ h6)).mono ?_; rintro e wl ⟨⟨rb, rfl, hrb⟩, hv⟩; obtain rfl : rb = true := hrb.2 HQ2.out; clear hrb; replace hb := hb.trans (hv.mono hb.size); clear x1 x2 z0 z1 z2 x9 z9 c9 c3 c4; obtain ⟨x1, x2, z0, z1, z2, x9, z9, c9, c3, c4⟩ := BX.out _ hb; replace h6 := h6.trans (hv.mono h6.size); replace hyw := hyw.trans (hv.mono hyw.size); (try clear y1 y2 y3); obtain ⟨y1, y2, y3⟩ := box_cells hyw)
          | (go_at_call 40; refine (agrees_v _ _ _ _ _ _ _ _ n _ _ _ s t (moreQ q lq y) ra _ (Lib.hid (HL.out _ hb)) hn (by omega) (HN6.out _ h6) HQ2 HRA.out).mono ?_; rw [hag2]; rintro e wl ⟨rfl, hv⟩; replace hb := hb.trans (hv.mono hb.size); clear x1 x2 z0 z1 z2 x9 z9 c9 c3 c4; obtain ⟨x1, x2, z0, z1, z2, x9, z9, c9, c3, c4⟩ := BX.out _ hb; replace h6 := h6.trans (hv.mono h6.size); replace hyw := hyw.trans (hv.mono hyw.size); (try clear y1 y2 y3); obtain ⟨y1, y2, y3⟩ := box_cells hyw)
          | (go_at_call 37; refine (lime_t _ _ _ _ _ _ _ _ n _ _ _ s t (moreQ q lq y) d _ (Lib.hid (HL.out _ hb)) hn (by omega) (HN6.out _ h6) HQ2 HD hne2).mono ?_; rintro e wl ⟨⟨c0, e0, rfl, hl⟩, hv⟩; obtain ⟨f1, f2, f3, f4⟩ := HMORE.out _ _ hl; clear hl; replace hb := hb.trans (hv.mono hb.size); clear x1 x2 z0 z1 z2 x9 z9 c9 c3 c4; obtain ⟨x1, x2, z0, z1, z2, x9, z9, c9, c3, c4⟩ := BX.out _ hb; replace h6 := h6.trans (hv.mono h6.size); replace hyw := hyw.trans (hv.mono hyw.size); (try clear y1 y2 y3); obtain ⟨y1, y2, y3⟩ := box_cells hyw; replace hb := hb.alloc hb.size (.cells #[.int .i64 c0, .int .i64 e0] 31))
          | (go_at_call 17; refine (K.out _).mono ?_; rintro e wl ⟨rfl, hv⟩; replace hb := hb.trans (hv.mono hb.size); clear x1 x2 z0 z1 z2 x9 z9 c9 c3 c4; obtain ⟨x1, x2, z0, z1, z2, x9, z9, c9, c3, c4⟩ := BX.out _ hb))
        go_ret
        exact ⟨rfl, HWB.out _ hb⟩
    · have HQ2 := Lib.hid hQ2
      clear hQ2
      go_wp2_with (first
        | (go_at_call 38; refine (notes_w _ _ _ (moreQ q lq y) _ (by omega) (HN6.out _ h6)).mono ?_; rintro e wl ⟨⟨rb, rfl, hrb⟩, hv⟩; obtain rfl : rb = false := (by cases rb <;> first | rfl | exact (HQ2.out (hrb.1 rfl)).elim); clear hrb; replace hb := hb.trans (hv.mono hb.size); clear x1 x2 z0 z1 z2 x9 z9 c9 c3 c4; obtain ⟨x1, x2, z0, z1, z2, x9, z9, c9, c3, c4⟩ := BX.out _ hb; replace h6 := h6.trans (hv.mono h6.size); replace hyw := hyw.trans (hv.mono hyw.size); (try clear y1 y2 y3); obtain ⟨y1, y2, y3⟩ := box_cells hyw)
        | (go_at_call 17; refine (K.out _).mono ?_; rintro e wl ⟨rfl, hv⟩; replace hb := hb.trans (hv.mono hb.size); clear x1 x2 z0 z1 z2 x9 z9 c9 c3 c4; obtain ⟨x1, x2, z0, z1, z2, x9, z9, c9, c3, c4⟩ := BX.out _ hb))
      go_ret
      exact ⟨rfl, HWB.out _ hb⟩

end Go.Kn

namespace Go.Kn
open Go Go.Proofs Go.RowKit

set_option maxRecDepth 100000 in
set_option maxHeartbeats 8000000 in
theorem lawp_lt (A O C P ls cs lt ct n d : Nat) (sq : Option Addr) (lq cq : Nat) (s : Nat → Int) (t : Nat → St5) (q : Nat → Nt3) (y : Nt3) (ra : Int) (w : World) (H0 : Hid (LineAt w A O C P ls lt s t)) (hn : n < lt) (hqq : lq ≤ 11) (HS : Hid (NtSl w sq lq q)) (HQ : Hid (NotesP lq q)) (a b : Int) (HRA : Hid (0 ≤ ra ∧ ra ≤ 100)) (r1 : (t n).lo ≤ ra) (r2 : ra ≤ (t n).hi) (HRa : Hid (0 ≤ a ∧ a ≤ 100)) (HRb : Hid (0 ≤ b ∧ b ≤ 100)) (e1 : (t n).lo ≤ a) (e2 : b ≤ (t n).hi) (e3 : a ≤ b) (e5 : ra < a) (HLI : Hid (LimeP (AgP s (t n) lq q) (t n).lo ((t n).hi + 1) a b)) (HD : Hid ((t n).hi = (t n).lo + d)) (hne : Hid (ratesL (agAll s (t n) lq q) (t n).lo (d + 1) ≠ [])) (hag : agAll s (t n) lq q ra = false) (haga : agAll s (t n) lq q a = true) (hagb : agAll s (t n) lq q b = true) (hs0 : 0 ≤ s (t n).f.toNat) (h0 : 0 ≤ (t n).lo) (K : Hid KnownOk) :
    Calls Tryz.prog 10 #[.agg #[.slice (some ⟨A, O, none⟩) ls cs, .slice (some ⟨C, P, none⟩) lt ct], .int .i64 (n : Int), .slice sq lq cq, .int .i64 ra, .agg #[.int .i64 y.ag, .int .i64 y.lo, .int .i64 y.hi]] w
      fun e w' => e = .returned (.bool true) ∧ Below w.heap.size w w' := by
  have HR : Hid (RightP ls lt s t) := Lib.hid ⟨H0.out.ls1, H0.out.ls2, H0.out.lt1, H0.out.lt2, H0.out.sok, H0.out.tok⟩
  have q0 := H0.out.ls2
  have q1 := H0.out.lt1
  have q2 := H0.out.lt2
  have hls : ls ≤ 1000000 := by omega
  have hlt : lt ≤ 1000000 := by omega
  have hlq : lq ≤ 1000000 := by omega
  have n1 : (0 : Int) ≤ (n : Int) := by omega
  have n2 : (n : Int) < (lt : Int) := by omega
  have hsh : decide (ls ≤ 13 ∧ lt ≤ 10) = true := by simp; omega
  have hq10 : (lq : Int) ≤ (11 : Int) := by omega
  have H : Hid (AnyLine w (some ⟨A, O, none⟩) (some ⟨C, P, none⟩) ls lt s t) := Lib.hid ⟨.inr ⟨A, O, rfl, H0.out.hA, H0.out.sp⟩, .inr ⟨C, P, rfl, H0.out.hC, H0.out.st⟩⟩
  have g1 : fromB 0 ((lt : Int) - 1) (n : Int) = true := by simp only [fromB, decide_eq_true_eq]; omega
  have hW : Below w.heap.size w ((w.alloc (.cells #[.slice (some ⟨A, O, none⟩) ls cs, .slice (some ⟨C, P, none⟩) lt ct] 25)).alloc (.cells #[.int .i64 y.ag, .int .i64 y.lo, .int .i64 y.hi] 65)) := (MX.start w (.slice (some ⟨A, O, none⟩) ls cs) (.slice (some ⟨C, P, none⟩) lt ct) y.ag y.lo y.hi 25 65).bel
  have HL : Hid (∀ w1, Below ((w.alloc (.cells #[.slice (some ⟨A, O, none⟩) ls cs, .slice (some ⟨C, P, none⟩) lt ct] 25)).alloc (.cells #[.int .i64 y.ag, .int .i64 y.lo, .int .i64 y.hi] 65)).heap.size ((w.alloc (.cells #[.slice (some ⟨A, O, none⟩) ls cs, .slice (some ⟨C, P, none⟩) lt ct] 25)).alloc (.cells #[.int .i64 y.ag, .int .i64 y.lo, .int .i64 y.hi] 65)) w1 → LineAt w1 A O C P ls lt s t) := Lib.hid fun w1 h => H0.out.below (hW.trans (h.mono hW.size))
  have BX := Lib.hid (fun (w1 : World) (hb : Below ((w.alloc (.cells #[.slice (some ⟨A, O, none⟩) ls cs, .slice (some ⟨C, P, none⟩) lt ct] 25)).alloc (.cells #[.int .i64 y.ag, .int .i64 y.lo, .int .i64 y.hi] 65)).heap.size ((w.alloc (.cells #[.slice (some ⟨A, O, none⟩) ls cs, .slice (some ⟨C, P, none⟩) lt ct] 25)).alloc (.cells #[.int .i64 y.ag, .int .i64 y.lo, .int .i64 y.hi] 65)) w1) => (show _ ∧ _ ∧ _ ∧ _ ∧ _ ∧ _ ∧ _ ∧ _ ∧ _ from have m := (MX.start w (.slice (some ⟨A, O, none⟩) ls cs) (.slice (some ⟨C, P, none⟩) lt ct) y.ag y.lo y.hi 25 65).below hb; have l := (HL.out w1 hb).ends hn; ⟨m.x1, m.x2, m.z0, m.z1, m.z2, Nat.lt_trans (Nat.lt_succ_self _) m.sz, m.sz, (HL.out w1 hb).hC, l⟩))
  have HN : Hid (∀ w1, Below ((w.alloc (.cells #[.slice (some ⟨A, O, none⟩) ls cs, .slice (some ⟨C, P, none⟩) lt ct] 25)).alloc (.cells #[.int .i64 y.ag, .int .i64 y.lo, .int .i64 y.hi] 65)).heap.size ((w.alloc (.cells #[.slice (some ⟨A, O, none⟩) ls cs, .slice (some ⟨C, P, none⟩) lt ct] 25)).alloc (.cells #[.int .i64 y.ag, .int .i64 y.lo, .int .i64 y.hi] 65)) w1 → Hid (AnyLine w1 (some ⟨A, O, none⟩) (some ⟨C, P, none⟩) ls lt s t)) := Lib.hid fun w1 h => Lib.hid (H.out.below (hW.trans (h.mono hW.size)))
  have HI : Hid (∀ w1, Below ((w.alloc (.cells #[.slice (some ⟨A, O, none⟩) ls cs, .slice (some ⟨C, P, none⟩) lt ct] 25)).alloc (.cells #[.int .i64 y.ag, .int .i64 y.lo, .int .i64 y.hi] 65)).heap.size ((w.alloc (.cells #[.slice (some ⟨A, O, none⟩) ls cs, .slice (some ⟨C, P, none⟩) lt ct] 25)).alloc (.cells #[.int .i64 y.ag, .int .i64 y.lo, .int .i64 y.hi] 65)) w1 → Hid (NtSl w1 sq lq q)) := Lib.hid fun w1 h => Lib.hid (HS.out.below (hW.trans (h.mono hW.size)))
  have HWB : Hid (∀ w1, Below ((w.alloc (.cells #[.slice (some ⟨A, O, none⟩) ls cs, .slice (some ⟨C, P, none⟩) lt ct] 25)).alloc (.cells #[.int .i64 y.ag, .int .i64 y.lo, .int .i64 y.hi] 65)).heap.size ((w.alloc (.cells #[.slice (some ⟨A, O, none⟩) ls cs, .slice (some ⟨C, P, none⟩) lt ct] 25)).alloc (.cells #[.int .i64 y.ag, .int .i64 y.lo, .int .i64 y.hi] 65)) w1 → Below w.heap.size w w1) := Lib.hid fun w1 h => hW.trans (h.mono hW.size)
  have hb : Below ((w.alloc (.cells #[.slice (some ⟨A, O, none⟩) ls cs, .slice (some ⟨C, P, none⟩) lt ct] 25)).alloc (.cells #[.int .i64 y.ag, .int .i64 y.lo, .int .i64 y.hi] 65)).heap.size ((w.alloc (.cells #[.slice (some ⟨A, O, none⟩) ls cs, .slice (some ⟨C, P, none⟩) lt ct] 25)).alloc (.cells #[.int .i64 y.ag, .int .i64 y.lo, .int .i64 y.hi] 65)) ((w.alloc (.cells #[.slice (some ⟨A, O, none⟩) ls cs, .slice (some ⟨C, P, none⟩) lt ct] 25)).alloc (.cells #[.int .i64 y.ag, .int .i64 y.lo, .int .i64 y.hi] 65)) := Below.refl _ _
  obtain ⟨x1, x2, z0, z1, z2, x9, z9, c9, c3, c4⟩ := BX.out _ hb
  clear hW H HS H0
  have d1 : decide (a < (t n).lo) = false := decide_eq_false (by omega)
  have d2 : decide ((t n).hi < b) = false := decide_eq_false (by omega)
  have d3 : decide (b < a) = false := decide_eq_false (by omega)
  have d5 : decide (a ≤ ra) = false := decide_eq_false (by omega)
  obtain ⟨i0, hi, hz0, hz1, hz2⟩ := info_parts info65
  go_enter Tryz.func10, Tryz.ntmps10
  go_wp2_with (first
    | (go_at_call 16; refine (short_w _ _ _ _ _ _ _ (by unfold maxLen; omega) (by unfold maxLen; omega)).mono ?_; rw [hsh]; rintro e wl ⟨rfl, hv⟩; replace hb := hb.trans (hv.mono hb.size); clear x1 x2 z0 z1 z2 x9 z9 c9 c3 c4; obtain ⟨x1, x2, z0, z1, z2, x9, z9, c9, c3, c4⟩ := BX.out _ hb)
    | (go_at_call 20; refine (right_w _ _ _ _ _ _ s t _ hls hlt (Lib.hid (HN.out _ hb).out.hs) (Lib.hid (HN.out _ hb).out.ht)).mono ?_; rintro e wl ⟨⟨rb, rfl, hrb⟩, hv⟩; obtain rfl : rb = true := hrb.2 HR.out; clear hrb; replace hb := hb.trans (hv.mono hb.size); clear x1 x2 z0 z1 z2 x9 z9 c9 c3 c4; obtain ⟨x1, x2, z0, z1, z2, x9, z9, c9, c3, c4⟩ := BX.out _ hb)
    | (go_at_call 21; refine (number_w _ undef _ _ _ _ _ (by unfold maxLen; omega)).mono ?_; rintro e wl ⟨rfl, hv⟩; replace hb := hb.trans (hv.mono hb.size); clear x1 x2 z0 z1 z2 x9 z9 c9 c3 c4; obtain ⟨x1, x2, z0, z1, z2, x9, z9, c9, c3, c4⟩ := BX.out _ hb)
    | (go_at_call 38; refine (notes_w _ _ _ q _ hlq (HI.out _ hb)).mono ?_; rintro e wl ⟨⟨rb, rfl, hrb⟩, hv⟩; obtain rfl : rb = true := hrb.2 HQ.out; clear hrb; replace hb := hb.trans (hv.mono hb.size); clear x1 x2 z0 z1 z2 x9 z9 c9 c3 c4; obtain ⟨x1, x2, z0, z1, z2, x9, z9, c9, c3, c4⟩ := BX.out _ hb)
    | (go_at_call 37; refine (lime_t _ _ _ _ _ _ _ _ n _ _ _ s t q d _ (Lib.hid (HL.out _ hb)) hn hlq (HI.out _ hb) HQ HD hne).mono ?_; rintro e ws ⟨⟨a0, b0, rfl, hl⟩, hv⟩; obtain ⟨e1, e2⟩ := hl.uniq HLI.out; clear hl; subst e1; subst e2; replace hb := hb.trans (hv.mono hb.size); clear x1 x2 z0 z1 z2 x9 z9 c9 c3 c4; obtain ⟨x1, x2, z0, z1, z2, x9, z9, c9, c3, c4⟩ := BX.out _ hb; replace hb := hb.alloc hb.size (.cells #[.int .i64 a, .int .i64 b] 31); have hy := Below.refl (ws.alloc (.cells #[.int .i64 a, .int .i64 b] 31)).heap.size (ws.alloc (.cells #[.int .i64 a, .int .i64 b] 31)))
    | (go_at_call 40; refine (agrees_v _ _ _ _ _ _ _ _ n _ _ _ s t q ra _ (Lib.hid (HL.out _ hb)) hn hlq (HI.out _ hb) HQ HRA.out).mono ?_; rw [hag]; rintro e wl ⟨rfl, hv⟩; replace hb := hb.trans (hv.mono hb.size); clear x1 x2 z0 z1 z2 x9 z9 c9 c3 c4; obtain ⟨x1, x2, z0, z1, z2, x9, z9, c9, c3, c4⟩ := BX.out _ hb; replace hy := hy.trans (hv.mono hy.size); (try clear y1 y2 y3); obtain ⟨y1, y2, y3⟩ := box_cells hy))
  have FD : Hid (∀ w', Below wl.heap.size wl w' → (w'.cell? ⟨w.heap.size, 0, none⟩ = some (.slice (some ⟨A, O, none⟩) ls cs) ∧ w'.cell? ⟨w.heap.size, 1, none⟩ = some (.slice (some ⟨C, P, none⟩) lt ct) ∧ w'.cell? ⟨C, P + n * 5 + 3, none⟩ = some (.int .i64 (t n).lo) ∧ w'.cell? ⟨C, P + n * 5 + 4, none⟩ = some (.int .i64 (t n).hi) ∧ w'.cell? ⟨ws.heap.size, 0, none⟩ = some (.int .i64 a) ∧ w'.cell? ⟨ws.heap.size, 1, none⟩ = some (.int .i64 b))) := Lib.hid fun w' h => by
    have q9 := BX.out _ (hb.trans (h.mono hb.size))
    obtain ⟨v1, v2, v3⟩ := box_cells (hy.trans (h.mono hy.size))
    obtain ⟨x1, x2, z0, z1, z2, x9, z9, c9, c3, c4⟩ := q9
    exact ⟨x1, x2, c3, c4, v1, v2⟩
  have HL2 : Hid (∀ w', Below wl.heap.size wl w' → LineAt w' A O C P ls lt s t ∧ Hid (NtSl w' sq lq q)) := Lib.hid fun w' h => ⟨HL.out _ (hb.trans (h.mono hb.size)), HI.out _ (hb.trans (h.mono hb.size))⟩
  refine wp_region_calm (W := wl) (by kernel_rfl) (by kernel_rfl) (Below.refl _ _) ?_
  repeat (first
    | (refine calm_no (by rfl) ?_
       (try simp only [Act.put, List.setIfInBounds_toArray, List.set_cons_zero, List.set_cons_succ]))
    | (apply calm_yes
       focus rfl
       focus
         intro w' hw'
         obtain ⟨x1, x2, c3, c4, y1, y2⟩ := FD.out w' hw'
         go_simp
         first
           | done
           | with_reducible rfl
           | (first
                | (go_at_call_of 40 a; refine (agrees_v _ _ _ _ _ _ _ _ n _ _ _ s t q a _ (Lib.hid (HL2.out _ hw').1) hn hlq (HL2.out _ hw').2 HQ HRa.out).mono ?_; rw [haga]; rintro e w8 ⟨rfl, hb8⟩; exact ⟨rfl, hw'.trans (hb8.mono hw'.size)⟩)
                | (go_at_call 40; refine (agrees_v _ _ _ _ _ _ _ _ n _ _ _ s t q b _ (Lib.hid (HL2.out _ hw').1) hn hlq (HL2.out _ hw').2 HQ HRb.out).mono ?_; rw [hagb]; rintro e w8 ⟨rfl, hb8⟩; exact ⟨rfl, hw'.trans (hb8.mono hw'.size)⟩))
       (try simp only [Act.put, List.setIfInBounds_toArray, List.set_cons_zero, List.set_cons_succ])))
  refine calm_nil ?_
  intro w12 hb12
  have hyw := hy.trans (hb12.mono hy.size)
  replace hb := hb.trans (hb12.mono hb.size)
  clear x1 x2 z0 z1 z2 x9 z9 c9 c3 c4 y1 y2 y3 FD HL2
  obtain ⟨x1, x2, z0, z1, z2, x9, z9, c9, c3, c4⟩ := BX.out _ hb
  have HN9 : Hid (∀ w', Below w12.heap.size w12 w' → lq = 0 ∨ ∃ ad, sq = some ad ∧ ∀ (j : Nat) (u : Value), (ntCells q lq)[j]? = some u → w'.cell? (ad.add j) = some u) := Lib.hid fun w' h => by
    rcases (HI.out _ (hb.trans (h.mono hb.size))).out with e | ⟨C1, P1, e, _, h3⟩
    · exact .inl e
    · exact .inr ⟨_, e, h3.news⟩
  have FZ : Hid (∀ w', Below w12.heap.size w12 w' → w'.cell? ⟨w.heap.size + 1, 0, none⟩ = some (.int .i64 y.ag) ∧ w'.cell? ⟨w.heap.size + 1, 1, none⟩ = some (.int .i64 y.lo) ∧ w'.cell? ⟨w.heap.size + 1, 2, none⟩ = some (.int .i64 y.hi)) := Lib.hid fun w' h => by
    obtain ⟨x1, x2, z0, z1, z2, x9, z9, c9, c3, c4⟩ := BX.out _ (hb.trans (h.mono hb.size))
    exact ⟨z0, z1, z2⟩
  go_wp2
  go_region_held3 (fun w' => w'.cell? ⟨w.heap.size + 1, 0, none⟩ = some (.int .i64 y.ag) ∧ w'.cell? ⟨w.heap.size + 1, 1, none⟩ = some (.int .i64 y.lo) ∧ w'.cell? ⟨w.heap.size + 1, 2, none⟩ = some (.int .i64 y.hi)) ((first | exact hS | (refine FZ.out _ ?_; repeat (first | exact Below.refl _ _ | exact hb5 | refine Below.alloc ?_ (by first | exact hb5.size | (simp; done) | (simp; omega)) _ | refine Below.drew ?_)))) ((first
    | (have hx5 := hown5; refine step_append_lies _ rfl (.tmp 149) (.tmp 151) 59 rfl w12.heap.size 65 i0 _ 3 24 Tryz.underlying59 hi hz0 hz1 hz2 rfl (by decide) _ lq _ rfl (by first | exact hown5 | exact hown5.alloc _) ⟨_, 0, none⟩ 1 1 [.int .i64 y.ag, .int .i64 y.lo, .int .i64 y.hi] rfl rfl (lies3 (by first | exact ⟨(hgrow5.cell_far ⟨w12.heap.size, 0, none⟩ (by simp) (by simp)).trans (by simp), (hgrow5.cell_far ⟨w12.heap.size, 1, none⟩ (by simp) (by simp)).trans (by simp), (hgrow5.cell_far ⟨w12.heap.size, 2, none⟩ (by simp) (by simp)).trans (by simp)⟩ | exact ⟨by simp, by simp, by simp⟩)) (by intro u hu; simp at hu; rcases hu with rfl | rfl | rfl <;> rfl) (by decide) (by unfold maxLen; omega) (by omega) (by first | (simp; done) | (simp; omega) | omega) _ rfl ?_; intro g6 cap6 w6 hown6 hgrow6 hat6 hlt6; have hb6 : Below w12.heap.size w12 w6 := Below.grown (by repeat (first | exact Below.refl _ _ | exact hb5 | refine Below.alloc ?_ (by first | exact hb5.size | (simp; done) | (simp; omega)) _ | refine Below.drew ?_)) hgrow6 (by first | exact hb5.size | (simp; done) | (simp; omega)) (fun k e => own_ge hown5 k e); have hS := FZ.out _ hb6)
    | (refine step_append_sl rfl (.const (.slice none 0 0)) (.tmp 148) 59 rfl w12.heap.size 65 i0 _ 3 24 Tryz.underlying59 hi hz0 hz1 hz2 rfl (by decide) rfl sq lq cq (ntCells q lq) rfl (ntCells_len q lq) (HN9.out _ (by repeat (first | exact Below.refl _ _ | exact hb5 | refine Below.alloc ?_ (by first | exact hb5.size | (simp; done) | (simp; omega)) _ | refine Below.drew ?_))) (ntCells_one q lq) (by unfold maxLen; omega) (by omega) (by first | (simp; done) | (simp; omega) | omega) ?_; intro va cap5 w5 hown5 hgrow5 hat5'; have hat5 := Lib.hid hat5'; clear hat5'; have hb5 : Below w12.heap.size w12 w5 := Below.grown (row := none) (by repeat (first | exact Below.refl _ _ | exact hb5 | refine Below.alloc ?_ (by first | exact hb5.size | (simp; done) | (simp; omega)) _ | refine Below.drew ?_)) hgrow5 (by first | (simp; done) | (simp; omega) | omega) (fun k e => by cases e); have hb5z := hb5.size; have hS := FZ.out _ hb5)))
  all_goals
    have hfin : w6.ownsRow w12.heap.size 65 3 (.slice (some ⟨g6, 0, none⟩) (lq + 1) cap6) (lq + 1) (ntCells (moreQ q lq y) (lq + 1)) := by rw [moreQ_cells]; exact hown6
    have hnt := NtAt.of_owns hfin
    have HN6 : Hid (∀ w', Below w6.heap.size w6 w' → Hid (NtSl w' (some ⟨g6, 0, none⟩) (lq + 1) (moreQ q lq y))) := Lib.hid fun w' h => Lib.hid (.inr ⟨g6, 0, rfl, Nat.lt_of_lt_of_le hlt6 h.size, hnt.below hlt6 h⟩)
    replace hb := hb.trans (hb6.mono hb.size)
    replace hyw := hyw.trans (hb6.mono hyw.size)
    have h6 := Below.refl w6.heap.size w6
    clear hnt hfin hS hown5 hgrow5 hat5 hown6 hgrow6 hat6 hb5 hb5z hb6 FZ HN9 x1 x2 z0 z1 z2 x9 z9 c9 c3 c4
    obtain ⟨x1, x2, z0, z1, z2, x9, z9, c9, c3, c4⟩ := BX.out _ hb
    obtain ⟨y1, y2, y3⟩ := box_cells hyw
    by_cases hQ2 : NotesP (lq + 1) (moreQ q lq y)
    · have HQ2 := Lib.hid hQ2
      clear hQ2
      cases hag2 : agAll s (t n) (lq + 1) (moreQ q lq y) ra
      · go_wp2_with (first
          | (go_at_call 38; refine (notes_w _ _ _ (moreQ q lq y) _ (by omega) (HN6.out _ h6)).mono ?_; rintro e wl ⟨⟨rb, rfl, hrb⟩, hv⟩; obtain rfl : rb = true := hrb.2 HQ2.out; clear hrb; replace hb := hb.trans (hv.mono hb.size); clear x1 x2 z0 z1 z2 x9 z9 c9 c3 c4; obtain ⟨x1, x2, z0, z1, z2, x9, z9, c9, c3, c4⟩ := BX.out _ hb; replace h6 := h6.trans (hv.mono h6.size); replace hyw := hyw.trans (hv.mono hyw.size); (try clear y1 y2 y3); obtain ⟨y1, y2, y3⟩ := box_cells hyw)
          | (go_at_call 40; refine (agrees_v _ _ _ _ _ _ _ _ n _ _ _ s t (moreQ q lq y) ra _ (Lib.hid (HL.out _ hb)) hn (by omega) (HN6.out _ h6) HQ2 HRA.out).mono ?_; rw [hag2]; rintro e wl ⟨rfl, hv⟩; replace hb := hb.trans (hv.mono hb.size); clear x1 x2 z0 z1 z2 x9 z9 c9 c3 c4; obtain ⟨x1, x2, z0, z1, z2, x9, z9, c9, c3, c4⟩ := BX.out _ hb; replace h6 := h6.trans (hv.mono h6.size); replace hyw := hyw.trans (hv.mono hyw.size); (try clear y1 y2 y3); obtain ⟨y1, y2, y3⟩ := box_cells hyw)
          | (go_at_call 17; refine (K.out _).mono ?_; rintro e wl ⟨rfl, hv⟩; replace hb := hb.trans (hv.mono hb.size); clear x1 x2 z0 z1 z2 x9 z9 c9 c3 c4; obtain ⟨x1, x2, z0, z1, z2, x9, z9, c9, c3, c4⟩ := BX.out _ hb))
        go_ret
        exact ⟨rfl, HWB.out _ hb⟩
      · exact absurd ((agAll_iff _ _ _ _ _).2 (AgP.less ((agAll_iff _ _ _ _ _).1 hag2))) (by rw [hag]; decide)
    · have HQ2 := Lib.hid hQ2
      clear hQ2
      go_wp2_with (first
        | (go_at_call 38; refine (notes_w _ _ _ (moreQ q lq y) _ (by omega) (HN6.out _ h6)).mono ?_; rintro e wl ⟨⟨rb, rfl, hrb⟩, hv⟩; obtain rfl : rb = false := (by cases rb <;> first | rfl | exact (HQ2.out (hrb.1 rfl)).elim); clear hrb; replace hb := hb.trans (hv.mono hb.size); clear x1 x2 z0 z1 z2 x9 z9 c9 c3 c4; obtain ⟨x1, x2, z0, z1, z2, x9, z9, c9, c3, c4⟩ := BX.out _ hb; replace h6 := h6.trans (hv.mono h6.size); replace hyw := hyw.trans (hv.mono hyw.size); (try clear y1 y2 y3); obtain ⟨y1, y2, y3⟩ := box_cells hyw)
        | (go_at_call 17; refine (K.out _).mono ?_; rintro e wl ⟨rfl, hv⟩; replace hb := hb.trans (hv.mono hb.size); clear x1 x2 z0 z1 z2 x9 z9 c9 c3 c4; obtain ⟨x1, x2, z0, z1, z2, x9, z9, c9, c3, c4⟩ := BX.out _ hb))
      go_ret
      exact ⟨rfl, HWB.out _ hb⟩

end Go.Kn

namespace Go.Kn
open Go Go.Proofs Go.RowKit

set_option maxRecDepth 100000 in
set_option maxHeartbeats 8000000 in
theorem lawp_gt (A O C P ls cs lt ct n d : Nat) (sq : Option Addr) (lq cq : Nat) (s : Nat → Int) (t : Nat → St5) (q : Nat → Nt3) (y : Nt3) (ra : Int) (w : World) (H0 : Hid (LineAt w A O C P ls lt s t)) (hn : n < lt) (hqq : lq ≤ 11) (HS : Hid (NtSl w sq lq q)) (HQ : Hid (NotesP lq q)) (a b : Int) (HRA : Hid (0 ≤ ra ∧ ra ≤ 100)) (r1 : (t n).lo ≤ ra) (r2 : ra ≤ (t n).hi) (HRa : Hid (0 ≤ a ∧ a ≤ 100)) (HRb : Hid (0 ≤ b ∧ b ≤ 100)) (e1 : (t n).lo ≤ a) (e2 : b ≤ (t n).hi) (e3 : a ≤ b) (e5 : a ≤ ra) (e6 : b < ra) (HLI : Hid (LimeP (AgP s (t n) lq q) (t n).lo ((t n).hi + 1) a b)) (HD : Hid ((t n).hi = (t n).lo + d)) (hne : Hid (ratesL (agAll s (t n) lq q) (t n).lo (d + 1) ≠ [])) (hag : agAll s (t n) lq q ra = false) (haga : agAll s (t n) lq q a = true) (hagb : agAll s (t n) lq q b = true) (hs0 : 0 ≤ s (t n).f.toNat) (h0 : 0 ≤ (t n).lo) (K : Hid KnownOk) :
    Calls Tryz.prog 10 #[.agg #[.slice (some ⟨A, O, none⟩) ls cs, .slice (some ⟨C, P, none⟩) lt ct], .int .i64 (n : Int), .slice sq lq cq, .int .i64 ra, .agg #[.int .i64 y.ag, .int .i64 y.lo, .int .i64 y.hi]] w
      fun e w' => e = .returned (.bool true) ∧ Below w.heap.size w w' := by
  have HR : Hid (RightP ls lt s t) := Lib.hid ⟨H0.out.ls1, H0.out.ls2, H0.out.lt1, H0.out.lt2, H0.out.sok, H0.out.tok⟩
  have q0 := H0.out.ls2
  have q1 := H0.out.lt1
  have q2 := H0.out.lt2
  have hls : ls ≤ 1000000 := by omega
  have hlt : lt ≤ 1000000 := by omega
  have hlq : lq ≤ 1000000 := by omega
  have n1 : (0 : Int) ≤ (n : Int) := by omega
  have n2 : (n : Int) < (lt : Int) := by omega
  have hsh : decide (ls ≤ 13 ∧ lt ≤ 10) = true := by simp; omega
  have hq10 : (lq : Int) ≤ (11 : Int) := by omega
  have H : Hid (AnyLine w (some ⟨A, O, none⟩) (some ⟨C, P, none⟩) ls lt s t) := Lib.hid ⟨.inr ⟨A, O, rfl, H0.out.hA, H0.out.sp⟩, .inr ⟨C, P, rfl, H0.out.hC, H0.out.st⟩⟩
  have g1 : fromB 0 ((lt : Int) - 1) (n : Int) = true := by simp only [fromB, decide_eq_true_eq]; omega
  have hW : Below w.heap.size w ((w.alloc (.cells #[.slice (some ⟨A, O, none⟩) ls cs, .slice (some ⟨C, P, none⟩) lt ct] 25)).alloc (.cells #[.int .i64 y.ag, .int .i64 y.lo, .int .i64 y.hi] 65)) := (MX.start w (.slice (some ⟨A, O, none⟩) ls cs) (.slice (some ⟨C, P, none⟩) lt ct) y.ag y.lo y.hi 25 65).bel
  have HL : Hid (∀ w1, Below ((w.alloc (.cells #[.slice (some ⟨A, O, none⟩) ls cs, .slice (some ⟨C, P, none⟩) lt ct] 25)).alloc (.cells #[.int .i64 y.ag, .int .i64 y.lo, .int .i64 y.hi] 65)).heap.size ((w.alloc (.cells #[.slice (some ⟨A, O, none⟩) ls cs, .slice (some ⟨C, P, none⟩) lt ct] 25)).alloc (.cells #[.int .i64 y.ag, .int .i64 y.lo, .int .i64 y.hi] 65)) w1 → LineAt w1 A O C P ls lt s t) := Lib.hid fun w1 h => H0.out.below (hW.trans (h.mono hW.size))
  have BX := Lib.hid (fun (w1 : World) (hb : Below ((w.alloc (.cells #[.slice (some ⟨A, O, none⟩) ls cs, .slice (some ⟨C, P, none⟩) lt ct] 25)).alloc (.cells #[.int .i64 y.ag, .int .i64 y.lo, .int .i64 y.hi] 65)).heap.size ((w.alloc (.cells #[.slice (some ⟨A, O, none⟩) ls cs, .slice (some ⟨C, P, none⟩) lt ct] 25)).alloc (.cells #[.int .i64 y.ag, .int .i64 y.lo, .int .i64 y.hi] 65)) w1) => (show _ ∧ _ ∧ _ ∧ _ ∧ _ ∧ _ ∧ _ ∧ _ ∧ _ from have m := (MX.start w (.slice (some ⟨A, O, none⟩) ls cs) (.slice (some ⟨C, P, none⟩) lt ct) y.ag y.lo y.hi 25 65).below hb; have l := (HL.out w1 hb).ends hn; ⟨m.x1, m.x2, m.z0, m.z1, m.z2, Nat.lt_trans (Nat.lt_succ_self _) m.sz, m.sz, (HL.out w1 hb).hC, l⟩))
  have HN : Hid (∀ w1, Below ((w.alloc (.cells #[.slice (some ⟨A, O, none⟩) ls cs, .slice (some ⟨C, P, none⟩) lt ct] 25)).alloc (.cells #[.int .i64 y.ag, .int .i64 y.lo, .int .i64 y.hi] 65)).heap.size ((w.alloc (.cells #[.slice (some ⟨A, O, none⟩) ls cs, .slice (some ⟨C, P, none⟩) lt ct] 25)).alloc (.cells #[.int .i64 y.ag, .int .i64 y.lo, .int .i64 y.hi] 65)) w1 → Hid (AnyLine w1 (some ⟨A, O, none⟩) (some ⟨C, P, none⟩) ls lt s t)) := Lib.hid fun w1 h => Lib.hid (H.out.below (hW.trans (h.mono hW.size)))
  have HI : Hid (∀ w1, Below ((w.alloc (.cells #[.slice (some ⟨A, O, none⟩) ls cs, .slice (some ⟨C, P, none⟩) lt ct] 25)).alloc (.cells #[.int .i64 y.ag, .int .i64 y.lo, .int .i64 y.hi] 65)).heap.size ((w.alloc (.cells #[.slice (some ⟨A, O, none⟩) ls cs, .slice (some ⟨C, P, none⟩) lt ct] 25)).alloc (.cells #[.int .i64 y.ag, .int .i64 y.lo, .int .i64 y.hi] 65)) w1 → Hid (NtSl w1 sq lq q)) := Lib.hid fun w1 h => Lib.hid (HS.out.below (hW.trans (h.mono hW.size)))
  have HWB : Hid (∀ w1, Below ((w.alloc (.cells #[.slice (some ⟨A, O, none⟩) ls cs, .slice (some ⟨C, P, none⟩) lt ct] 25)).alloc (.cells #[.int .i64 y.ag, .int .i64 y.lo, .int .i64 y.hi] 65)).heap.size ((w.alloc (.cells #[.slice (some ⟨A, O, none⟩) ls cs, .slice (some ⟨C, P, none⟩) lt ct] 25)).alloc (.cells #[.int .i64 y.ag, .int .i64 y.lo, .int .i64 y.hi] 65)) w1 → Below w.heap.size w w1) := Lib.hid fun w1 h => hW.trans (h.mono hW.size)
  have hb : Below ((w.alloc (.cells #[.slice (some ⟨A, O, none⟩) ls cs, .slice (some ⟨C, P, none⟩) lt ct] 25)).alloc (.cells #[.int .i64 y.ag, .int .i64 y.lo, .int .i64 y.hi] 65)).heap.size ((w.alloc (.cells #[.slice (some ⟨A, O, none⟩) ls cs, .slice (some ⟨C, P, none⟩) lt ct] 25)).alloc (.cells #[.int .i64 y.ag, .int .i64 y.lo, .int .i64 y.hi] 65)) ((w.alloc (.cells #[.slice (some ⟨A, O, none⟩) ls cs, .slice (some ⟨C, P, none⟩) lt ct] 25)).alloc (.cells #[.int .i64 y.ag, .int .i64 y.lo, .int .i64 y.hi] 65)) := Below.refl _ _
  obtain ⟨x1, x2, z0, z1, z2, x9, z9, c9, c3, c4⟩ := BX.out _ hb
  clear hW H HS H0
  have d1 : decide (a < (t n).lo) = false := decide_eq_false (by omega)
  have d2 : decide ((t n).hi < b) = false := decide_eq_false (by omega)
  have d3 : decide (b < a) = false := decide_eq_false (by omega)
  have d5 : decide (a ≤ ra) = true := decide_eq_true e5
  have d6 : decide (ra ≤ b) = false := decide_eq_false (by omega)
  obtain ⟨i0, hi, hz0, hz1, hz2⟩ := info_parts info65
  go_enter Tryz.func10, Tryz.ntmps10
  go_wp2_with (first
    | (go_at_call 16; refine (short_w _ _ _ _ _ _ _ (by unfold maxLen; omega) (by unfold maxLen; omega)).mono ?_; rw [hsh]; rintro e wl ⟨rfl, hv⟩; replace hb := hb.trans (hv.mono hb.size); clear x1 x2 z0 z1 z2 x9 z9 c9 c3 c4; obtain ⟨x1, x2, z0, z1, z2, x9, z9, c9, c3, c4⟩ := BX.out _ hb)
    | (go_at_call 20; refine (right_w _ _ _ _ _ _ s t _ hls hlt (Lib.hid (HN.out _ hb).out.hs) (Lib.hid (HN.out _ hb).out.ht)).mono ?_; rintro e wl ⟨⟨rb, rfl, hrb⟩, hv⟩; obtain rfl : rb = true := hrb.2 HR.out; clear hrb; replace hb := hb.trans (hv.mono hb.size); clear x1 x2 z0 z1 z2 x9 z9 c9 c3 c4; obtain ⟨x1, x2, z0, z1, z2, x9, z9, c9, c3, c4⟩ := BX.out _ hb)
    | (go_at_call 21; refine (number_w _ undef _ _ _ _ _ (by unfold maxLen; omega)).mono ?_; rintro e wl ⟨rfl, hv⟩; replace hb := hb.trans (hv.mono hb.size); clear x1 x2 z0 z1 z2 x9 z9 c9 c3 c4; obtain ⟨x1, x2, z0, z1, z2, x9, z9, c9, c3, c4⟩ := BX.out _ hb)
    | (go_at_call 38; refine (notes_w _ _ _ q _ hlq (HI.out _ hb)).mono ?_; rintro e wl ⟨⟨rb, rfl, hrb⟩, hv⟩; obtain rfl : rb = true := hrb.2 HQ.out; clear hrb; replace hb := hb.trans (hv.mono hb.size); clear x1 x2 z0 z1 z2 x9 z9 c9 c3 c4; obtain ⟨x1, x2, z0, z1, z2, x9, z9, c9, c3, c4⟩ := BX.out _ hb)
    | (go_at_call 37; refine (lime_t _ _ _ _ _ _ _ _ n _ _ _ s t q d _ (Lib.hid (HL.out _ hb)) hn hlq (HI.out _ hb) HQ HD hne).mono ?_; rintro e ws ⟨⟨a0, b0, rfl, hl⟩, hv⟩; obtain ⟨e1, e2⟩ := hl.uniq HLI.out; clear hl; subst e1; subst e2; replace hb := hb.trans (hv.mono hb.size); clear x1 x2 z0 z1 z2 x9 z9 c9 c3 c4; obtain ⟨x1, x2, z0, z1, z2, x9, z9, c9, c3, c4⟩ := BX.out _ hb; replace hb := hb.alloc hb.size (.cells #[.int .i64 a, .int .i64 b] 31); have hy := Below.refl (ws.alloc (.cells #[.int .i64 a, .int .i64 b] 31)).heap.size (ws.alloc (.cells #[.int .i64 a, .int .i64 b] 31)))
    | (go_at_call 40; refine (agrees_v _ _ _ _ _ _ _ _ n _ _ _ s t q ra _ (Lib.hid (HL.out _ hb)) hn hlq (HI.out _ hb) HQ HRA.out).mono ?_; rw [hag]; rintro e wl ⟨rfl, hv⟩; replace hb := hb.trans (hv.mono hb.size); clear x1 x2 z0 z1 z2 x9 z9 c9 c3 c4; obtain ⟨x1, x2, z0, z1, z2, x9, z9, c9, c3, c4⟩ := BX.out _ hb; replace hy := hy.trans (hv.mono hy.size); (try clear y1 y2 y3); obtain ⟨y1, y2, y3⟩ := box_cells hy))
  have FD : Hid (∀ w', Below wl.heap.size wl w' → (w'.cell? ⟨w.heap.size, 0, none⟩ = some (.slice (some ⟨A, O, none⟩) ls cs) ∧ w'.cell? ⟨w.heap.size, 1, none⟩ = some (.slice (some ⟨C, P, none⟩) lt ct) ∧ w'.cell? ⟨C, P + n * 5 + 3, none⟩ = some (.int .i64 (t n).lo) ∧ w'.cell? ⟨C, P + n * 5 + 4, none⟩ = some (.int .i64 (t n).hi) ∧ w'.cell? ⟨ws.heap.size, 0, none⟩ = some (.int .i64 a) ∧ w'.cell? ⟨ws.heap.size, 1, none⟩ = some (.int .i64 b))) := Lib.hid fun w' h => by
    have q9 := BX.out _ (hb.trans (h.mono hb.size))
    obtain ⟨v1, v2, v3⟩ := box_cells (hy.trans (h.mono hy.size))
    obtain ⟨x1, x2, z0, z1, z2, x9, z9, c9, c3, c4⟩ := q9
    exact ⟨x1, x2, c3, c4, v1, v2⟩
  have HL2 : Hid (∀ w', Below wl.heap.size wl w' → LineAt w' A O C P ls lt s t ∧ Hid (NtSl w' sq lq q)) := Lib.hid fun w' h => ⟨HL.out _ (hb.trans (h.mono hb.size)), HI.out _ (hb.trans (h.mono hb.size))⟩
  refine wp_region_calm (W := wl) (by kernel_rfl) (by kernel_rfl) (Below.refl _ _) ?_
  repeat (first
    | (refine calm_no (by rfl) ?_
       (try simp only [Act.put, List.setIfInBounds_toArray, List.set_cons_zero, List.set_cons_succ]))
    | (apply calm_yes
       focus rfl
       focus
         intro w' hw'
         obtain ⟨x1, x2, c3, c4, y1, y2⟩ := FD.out w' hw'
         go_simp
         first
           | done
           | with_reducible rfl
           | (first
                | (go_at_call_of 40 a; refine (agrees_v _ _ _ _ _ _ _ _ n _ _ _ s t q a _ (Lib.hid (HL2.out _ hw').1) hn hlq (HL2.out _ hw').2 HQ HRa.out).mono ?_; rw [haga]; rintro e w8 ⟨rfl, hb8⟩; exact ⟨rfl, hw'.trans (hb8.mono hw'.size)⟩)
                | (go_at_call 40; refine (agrees_v _ _ _ _ _ _ _ _ n _ _ _ s t q b _ (Lib.hid (HL2.out _ hw').1) hn hlq (HL2.out _ hw').2 HQ HRb.out).mono ?_; rw [hagb]; rintro e w8 ⟨rfl, hb8⟩; exact ⟨rfl, hw'.trans (hb8.mono hw'.size)⟩))
       (try simp only [Act.put, List.setIfInBounds_toArray, List.set_cons_zero, List.set_cons_succ])))
  refine calm_nil ?_
  intro w12 hb12
  have hyw := hy.trans (hb12.mono hy.size)
  replace hb := hb.trans (hb12.mono hb.size)
  clear x1 x2 z0 z1 z2 x9 z9 c9 c3 c4 y1 y2 y3 FD HL2
  obtain ⟨x1, x2, z0, z1, z2, x9, z9, c9, c3, c4⟩ := BX.out _ hb
  have HN9 : Hid (∀ w', Below w12.heap.size w12 w' → lq = 0 ∨ ∃ ad, sq = some ad ∧ ∀ (j : Nat) (u : Value), (ntCells q lq)[j]? = some u → w'.cell? (ad.add j) = some u) := Lib.hid fun w' h => by
    rcases (HI.out _ (hb.trans (h.mono hb.size))).out with e | ⟨C1, P1, e, _, h3⟩
    · exact .inl e
    · exact .inr ⟨_, e, h3.news⟩
  have FZ : Hid (∀ w', Below w12.heap.size w12 w' → w'.cell? ⟨w.heap.size + 1, 0, none⟩ = some (.int .i64 y.ag) ∧ w'.cell? ⟨w.heap.size + 1, 1, none⟩ = some (.int .i64 y.lo) ∧ w'.cell? ⟨w.heap.size + 1, 2, none⟩ = some (.int .i64 y.hi)) := Lib.hid fun w' h => by
    obtain ⟨x1, x2, z0, z1, z2, x9, z9, c9, c3, c4⟩ := BX.out _ (hb.trans (h.mono hb.size))
    exact ⟨z0, z1, z2⟩
  go_wp2
  go_region_held3 (fun w' => w'.cell? ⟨w.heap.size + 1, 0, none⟩ = some (.int .i64 y.ag) ∧ w'.cell? ⟨w.heap.size + 1, 1, none⟩ = some (.int .i64 y.lo) ∧ w'.cell? ⟨w.heap.size + 1, 2, none⟩ = some (.int .i64 y.hi)) ((first | exact hS | (refine FZ.out _ ?_; repeat (first | exact Below.refl _ _ | exact hb5 | refine Below.alloc ?_ (by first | exact hb5.size | (simp; done) | (simp; omega)) _ | refine Below.drew ?_)))) ((first
    | (have hx5 := hown5; refine step_append_lies _ rfl (.tmp 149) (.tmp 151) 59 rfl w12.heap.size 65 i0 _ 3 24 Tryz.underlying59 hi hz0 hz1 hz2 rfl (by decide) _ lq _ rfl (by first | exact hown5 | exact hown5.alloc _) ⟨_, 0, none⟩ 1 1 [.int .i64 y.ag, .int .i64 y.lo, .int .i64 y.hi] rfl rfl (lies3 (by first | exact ⟨(hgrow5.cell_far ⟨w12.heap.size, 0, none⟩ (by simp) (by simp)).trans (by simp), (hgrow5.cell_far ⟨w12.heap.size, 1, none⟩ (by simp) (by simp)).trans (by simp), (hgrow5.cell_far ⟨w12.heap.size, 2, none⟩ (by simp) (by simp)).trans (by simp)⟩ | exact ⟨by simp, by simp, by simp⟩)) (by intro u hu; simp at hu; rcases hu with rfl | rfl | rfl <;> rfl) (by decide) (by unfold maxLen; omega) (by omega) (by first | (simp; done) | (simp; omega) | omega) _ rfl ?_; intro g6 cap6 w6 hown6 hgrow6 hat6 hlt6; have hb6 : Below w12.heap.size w12 w6 := Below.grown (by repeat (first | exact Below.refl _ _ | exact hb5 | refine Below.alloc ?_ (by first | exact hb5.size | (simp; done) | (simp; omega)) _ | refine Below.drew ?_)) hgrow6 (by first | exact hb5.size | (simp; done) | (simp; omega)) (fun k e => own_ge hown5 k e); have hS := FZ.out _ hb6)
    | (refine step_append_sl rfl (.const (.slice none 0 0)) (.tmp 148) 59 rfl w12.heap.size 65 i0 _ 3 24 Tryz.underlying59 hi hz0 hz1 hz2 rfl (by decide) rfl sq lq cq (ntCells q lq) rfl (ntCells_len q lq) (HN9.out _ (by repeat (first | exact Below.refl _ _ | exact hb5 | refine Below.alloc ?_ (by first | exact hb5.size | (simp; done) | (simp; omega)) _ | refine Below.drew ?_))) (ntCells_one q lq) (by unfold maxLen; omega) (by omega) (by first | (simp; done) | (simp; omega) | omega) ?_; intro va cap5 w5 hown5 hgrow5 hat5'; have hat5 := Lib.hid hat5'; clear hat5'; have hb5 : Below w12.heap.size w12 w5 := Below.grown (row := none) (by repeat (first | exact Below.refl _ _ | exact hb5 | refine Below.alloc ?_ (by first | exact hb5.size | (simp; done) | (simp; omega)) _ | refine Below.drew ?_)) hgrow5 (by first | (simp; done) | (simp; omega) | omega) (fun k e => by cases e); have hb5z := hb5.size; have hS := FZ.out _ hb5)))
  all_goals
    have hfin : w6.ownsRow w12.heap.size 65 3 (.slice (some ⟨g6, 0, none⟩) (lq + 1) cap6) (lq + 1) (ntCells (moreQ q lq y) (lq + 1)) := by rw [moreQ_cells]; exact hown6
    have hnt := NtAt.of_owns hfin
    have HN6 : Hid (∀ w', Below w6.heap.size w6 w' → Hid (NtSl w' (some ⟨g6, 0, none⟩) (lq + 1) (moreQ q lq y))) := Lib.hid fun w' h => Lib.hid (.inr ⟨g6, 0, rfl, Nat.lt_of_lt_of_le hlt6 h.size, hnt.below hlt6 h⟩)
    replace hb := hb.trans (hb6.mono hb.size)
    replace hyw := hyw.trans (hb6.mono hyw.size)
    have h6 := Below.refl w6.heap.size w6
    clear hnt hfin hS hown5 hgrow5 hat5 hown6 hgrow6 hat6 hb5 hb5z hb6 FZ HN9 x1 x2 z0 z1 z2 x9 z9 c9 c3 c4
    obtain ⟨x1, x2, z0, z1, z2, x9, z9, c9, c3, c4⟩ := BX.out _ hb
    obtain ⟨y1, y2, y3⟩ := box_cells hyw
    by_cases hQ2 : NotesP (lq + 1) (moreQ q lq y)
    · have HQ2 := Lib.hid hQ2
      clear hQ2
      cases hag2 : agAll s (t n) (lq + 1) (moreQ q lq y) ra
      · go_wp2_with (first
          | (go_at_call 38; refine (notes_w _ _ _ (moreQ q lq y) _ (by omega) (HN6.out _ h6)).mono ?_; rintro e wl ⟨⟨rb, rfl, hrb⟩, hv⟩; obtain rfl : rb = true := hrb.2 HQ2.out; clear hrb; replace hb := hb.trans (hv.mono hb.size); clear x1 x2 z0 z1 z2 x9 z9 c9 c3 c4; obtain ⟨x1, x2, z0, z1, z2, x9, z9, c9, c3, c4⟩ := BX.out _ hb; replace h6 := h6.trans (hv.mono h6.size); replace hyw := hyw.trans (hv.mono hyw.size); (try clear y1 y2 y3); obtain ⟨y1, y2, y3⟩ := box_cells hyw)
          | (go_at_call 40; refine (agrees_v _ _ _ _ _ _ _ _ n _ _ _ s t (moreQ q lq y) ra _ (Lib.hid (HL.out _ hb)) hn (by omega) (HN6.out _ h6) HQ2 HRA.out).mono ?_; rw [hag2]; rintro e wl ⟨rfl, hv⟩; replace hb := hb.trans (hv.mono hb.size); clear x1 x2 z0 z1 z2 x9 z9 c9 c3 c4; obtain ⟨x1, x2, z0, z1, z2, x9, z9, c9, c3, c4⟩ := BX.out _ hb; replace h6 := h6.trans (hv.mono h6.size); replace hyw := hyw.trans (hv.mono hyw.size); (try clear y1 y2 y3); obtain ⟨y1, y2, y3⟩ := box_cells hyw)
          | (go_at_call 17; refine (K.out _).mono ?_; rintro e wl ⟨rfl, hv⟩; replace hb := hb.trans (hv.mono hb.size); clear x1 x2 z0 z1 z2 x9 z9 c9 c3 c4; obtain ⟨x1, x2, z0, z1, z2, x9, z9, c9, c3, c4⟩ := BX.out _ hb))
        go_ret
        exact ⟨rfl, HWB.out _ hb⟩
      · exact absurd ((agAll_iff _ _ _ _ _).2 (AgP.less ((agAll_iff _ _ _ _ _).1 hag2))) (by rw [hag]; decide)
    · have HQ2 := Lib.hid hQ2
      clear hQ2
      go_wp2_with (first
        | (go_at_call 38; refine (notes_w _ _ _ (moreQ q lq y) _ (by omega) (HN6.out _ h6)).mono ?_; rintro e wl ⟨⟨rb, rfl, hrb⟩, hv⟩; obtain rfl : rb = false := (by cases rb <;> first | rfl | exact (HQ2.out (hrb.1 rfl)).elim); clear hrb; replace hb := hb.trans (hv.mono hb.size); clear x1 x2 z0 z1 z2 x9 z9 c9 c3 c4; obtain ⟨x1, x2, z0, z1, z2, x9, z9, c9, c3, c4⟩ := BX.out _ hb; replace h6 := h6.trans (hv.mono h6.size); replace hyw := hyw.trans (hv.mono hyw.size); (try clear y1 y2 y3); obtain ⟨y1, y2, y3⟩ := box_cells hyw)
        | (go_at_call 17; refine (K.out _).mono ?_; rintro e wl ⟨rfl, hv⟩; replace hb := hb.trans (hv.mono hb.size); clear x1 x2 z0 z1 z2 x9 z9 c9 c3 c4; obtain ⟨x1, x2, z0, z1, z2, x9, z9, c9, c3, c4⟩ := BX.out _ hb))
      go_ret
      exact ⟨rfl, HWB.out _ hb⟩

end Go.Kn

namespace Go.Kn
open Go Go.Proofs Go.RowKit

theorem lawp_w (sa ta sq : Option Addr) (ls cs lt ct lq cq : Nat) (s : Nat → Int) (t : Nat → St5) (q : Nat → Nt3) (y : Nt3) (st ra : Int) (w : World) (hls : ls ≤ maxLen) (hlt : lt ≤ maxLen) (hlq : lq ≤ maxLen) (HS : NumSl w sa ls s) (HT : StSl w ta lt t) (HG : NtSl w sq lq q) (K : Hid KnownOk) :
    Calls Tryz.prog 10 #[.agg #[.slice sa ls cs, .slice ta lt ct], .int .i64 st, .slice sq lq cq, .int .i64 ra, .agg #[.int .i64 y.ag, .int .i64 y.lo, .int .i64 y.hi]] w
      fun e w' => e = .returned (.bool true) ∧ Below w.heap.size w w' := by
  by_cases hq : ls ≤ 13 ∧ lt ≤ 10
  case neg => exact lawp_a sa ta sq ls cs lt ct lq cq s t q y st ra w hls hlt hlq hq (Lib.hid ⟨HS, HT⟩) (Lib.hid HG) K
  by_cases hb : lq ≤ 11
  case neg => exact lawp_b sa ta sq ls cs lt ct lq cq s t q y st ra w hls hlt hlq hq hb (Lib.hid ⟨HS, HT⟩) (Lib.hid HG) K
  by_cases hR : RightP ls lt s t
  case neg => exact lawp_c sa ta sq ls cs lt ct lq cq s t q y st ra w (by omega) (by omega) (by omega) hq hb (Lib.hid hR) (Lib.hid ⟨HS, HT⟩) (Lib.hid HG) K
  cases g1 : fromB 0 ((lt : Int) - 1) st
  · exact lawp_d sa ta sq ls cs lt ct lq cq s t q y st ra w (by omega) (by omega) (by omega) hq hb (Lib.hid hR) g1 (Lib.hid ⟨HS, HT⟩) (Lib.hid HG) K
  by_cases hQ : NotesP lq q
  case neg => exact lawp_e sa ta sq ls cs lt ct lq cq s t q y st ra w (by omega) (by omega) (by omega) hq hb (Lib.hid hR) g1 (Lib.hid hQ) (Lib.hid ⟨HS, HT⟩) (Lib.hid HG) K
  obtain ⟨A, O, rfl, hA, hsp⟩ := HS.resolve_left (by have := hR.ls1; omega)
  obtain ⟨C, P, rfl, hC, hst⟩ := HT.resolve_left (by have := hR.lt1; omega)
  have H : LineAt w A O C P ls lt s t := ⟨hA, hC, hR.ls1, hR.ls2, hR.lt1, hR.lt2, hsp, hst, hR.sok, hR.tok⟩
  have h1 := fromB_tt g1
  obtain ⟨n, rfl⟩ : ∃ n : Nat, st = (n : Int) := ⟨st.toNat, by omega⟩
  have hn : n < lt := by omega
  obtain ⟨b1, b2, b3, b4, b5⟩ := H.bds hn
  obtain ⟨d, hd⟩ : ∃ d : Nat, (t n).hi = (t n).lo + d := ⟨((t n).hi - (t n).lo).toNat, by omega⟩
  have h0 : 0 ≤ (t n).lo := by omega
  have hs0 : 0 ≤ s (t n).f.toNat := by omega
  by_cases r1 : (t n).lo ≤ ra
  case neg => exact lawp_f A O C P ls cs lt ct n d sq lq cq s t q y ra w (Lib.hid H) hn hb (Lib.hid HG) (Lib.hid hQ) (by omega) K
  by_cases r2 : ra ≤ (t n).hi
  case neg => exact lawp_g A O C P ls cs lt ct n d sq lq cq s t q y ra w (Lib.hid H) hn hb (Lib.hid HG) (Lib.hid hQ) r1 (by omega) K
  have HRA : Hid (0 ≤ ra ∧ ra ≤ 100) := Lib.hid ⟨by omega, by omega⟩
  by_cases he : ∃ r, (t n).lo ≤ r ∧ r < (t n).hi + 1 ∧ AgP s (t n) lq q r
  · have hne : ratesL (agAll s (t n) lq q) (t n).lo (d + 1) ≠ [] := by
      obtain ⟨r, e1, e2, e3⟩ := he
      obtain ⟨j, rfl⟩ : ∃ j : Nat, r = (t n).lo + j := ⟨(r - (t n).lo).toNat, by omega⟩
      exact ratesL_some (j := j) (by omega) ((agAll_iff _ _ _ _ _).2 e3)
    have hl := ratesL_lime (agAll s (t n) lq q) h0 (d + 1)
    rw [show (fun r => agAll s (t n) lq q r = true) = AgP s (t n) lq q from funext fun r => propext (agAll_iff _ _ _ _ _), show (t n).lo + ((d + 1 : Nat) : Int) = (t n).hi + 1 by omega] at hl
    generalize (ratesL (agAll s (t n) lq q) (t n).lo (d + 1)).getD 0 (-1) = a at hl
    generalize (ratesL (agAll s (t n) lq q) (t n).lo (d + 1)).getD ((ratesL (agAll s (t n) lq q) (t n).lo (d + 1)).length - 1) (-1) = b at hl
    have hp := hl.pos he h0
    have hi := hl.iff hs0 hQ h0 hp r1 (by omega)
    obtain ⟨z1, z2, z3, z4, z5, _⟩ : (t n).lo ≤ a ∧ a ≤ b ∧ b < (t n).hi + 1 ∧ AgP s (t n) lq q a ∧ AgP s (t n) lq q b ∧ True := by
      rcases hl with ⟨z, _⟩ | ⟨z1, z2, z3, z4, z5, _⟩
      · omega
      · exact ⟨z1, z2, z3, z4, z5, trivial⟩
    have HRa : Hid (0 ≤ a ∧ a ≤ 100) := Lib.hid ⟨by omega, by omega⟩
    have HRb : Hid (0 ≤ b ∧ b ≤ 100) := Lib.hid ⟨by omega, by omega⟩
    have ha := (agAll_iff s (t n) lq q a).2 z4
    have hb2 := (agAll_iff s (t n) lq q b).2 z5
    by_cases e5 : a ≤ ra
    · by_cases e6 : ra ≤ b
      · exact lawp_in A O C P ls cs lt ct n d sq lq cq s t q y ra w (Lib.hid H) hn hb (Lib.hid HG) (Lib.hid hQ) a b HRA r1 r2 HRa HRb z1 (by omega) z2 e5 e6 (Lib.hid hl) (Lib.hid hd) (Lib.hid hne) ((agAll_iff _ _ _ _ _).2 (hi.2 ⟨e5, e6⟩)) ha hb2 hs0 h0 K
      · have hf : agAll s (t n) lq q ra = false := by
          cases e : agAll s (t n) lq q ra
          · rfl
          · exact (e6 (hi.1 ((agAll_iff _ _ _ _ _).1 e)).2).elim
        exact lawp_gt A O C P ls cs lt ct n d sq lq cq s t q y ra w (Lib.hid H) hn hb (Lib.hid HG) (Lib.hid hQ) a b HRA r1 r2 HRa HRb z1 (by omega) z2 e5 (by omega) (Lib.hid hl) (Lib.hid hd) (Lib.hid hne) hf ha hb2 hs0 h0 K
    · have hf : agAll s (t n) lq q ra = false := by
        cases e : agAll s (t n) lq q ra
        · rfl
        · exact (e5 (hi.1 ((agAll_iff _ _ _ _ _).1 e)).1).elim
      exact lawp_lt A O C P ls cs lt ct n d sq lq cq s t q y ra w (Lib.hid H) hn hb (Lib.hid HG) (Lib.hid hQ) a b HRA r1 r2 HRa HRb z1 (by omega) z2 (by omega) (Lib.hid hl) (Lib.hid hd) (Lib.hid hne) hf ha hb2 hs0 h0 K
  · have hno : ∀ r, (t n).lo ≤ r → r < (t n).hi + 1 → agAll s (t n) lq q r = false := fun r e1 e2 => by
      cases e : agAll s (t n) lq q r
      · rfl
      · exact (he ⟨r, e1, e2, (agAll_iff _ _ _ _ _).1 e⟩).elim
    exact lawp_h A O C P ls cs lt ct n d sq lq cq s t q y ra w (Lib.hid H) hn hb (Lib.hid HG) (Lib.hid hQ) HRA r1 r2 (Lib.hid hd) (Lib.hid (ratesL_none fun j hj => hno _ (by omega) (by omega))) (hno ra r1 (by omega)) K
end Go.Kn

namespace Go.Kn
open Go Go.Proofs Go.RowKit Go.ChangeShapes Go.WideShapes Go.Deep
section
variable {H : Type} {enc : TypeId × Value → H} {w : World} {base : Nat} {spare : Nat → Bool} {held : Bool}
set_option maxRecDepth 100000 in
theorem nty_open {r : Reach} {b0 : Nat} {v : Value} {d : DataW H} {p : List MemPlace} {t : TypeId} (ht : t = 65) (hv : Value.okWide Tryz.prog w r b0 t v) (h : DataW.Trod enc Tryz.prog w base spare held t v d p) :
    ∃ y : Nt3, v = .agg #[.int .i64 y.ag, .int .i64 y.lo, .int .i64 y.hi] := by
  obtain ⟨cs, rfl, hsz⟩ := okWide_struct (by rw [ht]; exact Tryz.underlying65) hv
  subst ht
  obtain ⟨l⟩ := cs
  obtain ⟨fuel, hf⟩ := h
  obtain ⟨a, b, c, e⟩ := nt_cells hf
  have e' : l = [.int .i64 a, .int .i64 b, .int .i64 c] := e
  exact ⟨⟨a, b, c⟩, by rw [e']⟩
end
end Go.Kn
