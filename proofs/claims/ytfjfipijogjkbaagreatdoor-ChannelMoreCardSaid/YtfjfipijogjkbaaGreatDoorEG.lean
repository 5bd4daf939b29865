/- Walks of functions of layer 2 (contracts that the laws of this seat use). Conditions: as each theorem states them. -/
import Derived.Test.YtfjfipijogjkbaaGreatDoorEO
set_option linter.unusedVariables false
set_option linter.unusedSimpArgs false
namespace Go.Kn
open Go Go.Proofs Go.RowKit

/-- a line that is built: its box behind the mark, its stretches a row of its own -/
structure OL (m wr : World) (xs : Value) (k : Nat) (T : Nat → St5) : Prop where
  bel : Below m.heap.size m wr
  x0 : wr.cell? ⟨m.heap.size, 0, none⟩ = some xs
  x1 : ∃ v, wr.cell? ⟨m.heap.size, 1, none⟩ = some v ∧ wr.ownsRow (m.heap.size + 1) 62 5 v k (stCells T k)
  fz : wr.frozen? ⟨m.heap.size, 1, none⟩ = false
  sz : m.heap.size < wr.heap.size
/-- what stands behind a region is proved once, whatever way the region went -/
theorem cut_region {P : Program} {code : Code} {Q : Exit → Act → World → Prop} {a : Act} {w : World} (F : Nat → World → Prop) (act : Nat → Act) (hr : (∀ Bx W3, F Bx W3 → Q .normal (act Bx) W3) → code.wp P Q a w) (hc : ∀ Bx W3, F Bx W3 → Q .normal (act Bx) W3) : code.wp P Q a w := hr hc
theorem OL.start (m : World) (xs : Value) (T : Nat → St5) : OL m (m.alloc (.cells #[xs, .slice none 0 0] 25)) xs 0 T :=
  ⟨(Below.refl _ _).alloc (Nat.le_refl _) _, by simp, ⟨.slice none 0 0, by simp, World.ownsRow_nil _ _ _ _⟩, by simp, by simp⟩
theorem OL.below {m wr w1 : World} {xs : Value} {k : Nat} {T : Nat → St5} (h : OL m wr xs k T) (hb : Below wr.heap.size wr w1) : OL m w1 xs k T := by
  obtain ⟨v, h1, h2⟩ := h.x1
  have s := h.sz
  exact ⟨h.bel.trans (hb.mono h.bel.size), (hb.cell (p := ⟨m.heap.size, 0, none⟩) s).trans h.x0, ⟨v, (hb.cell (p := ⟨m.heap.size, 1, none⟩) s).trans h1, owns_below h2 hb⟩, (hb.frozen (p := ⟨m.heap.size, 1, none⟩) s).trans h.fz, Nat.lt_of_lt_of_le s hb.size⟩
/-- one stretch is appended, and the row put back into the box -/
theorem OL.push {m wr W w9 : World} {xs v v9 : Value} {k : Nat} {T : Nat → St5} (h : OL m wr xs k T) (hb : Below wr.heap.size wr W) (hv : wr.ownsRow (m.heap.size + 1) 62 5 v k (stCells T k)) (hown : w9.ownsRow (m.heap.size + 1) 62 5 v9 (k + 1) (stCells T (k + 1))) (hg : W.grownBy w9 v.ownBlock) :
    OL m (w9.setCell ⟨m.heap.size, 1, none⟩ v9) xs (k + 1) T := by
  have hB := h.below hb
  have s := hB.sz
  have hne : some m.heap.size ≠ v.ownBlock := fun e => by have := own_ge hv _ e.symm; omega
  have hc := fun o => hg.cell_far ⟨m.heap.size, o, none⟩ s hne
  have hk := hg.block m.heap.size s hne
  refine ⟨(hB.bel.grown hg hB.bel.size (fun r e => by have := own_ge hv r e; omega)).setCell (by simp) _, (World.cell?_setCell_other _ _ _ _ (by intro e; cases e)).trans ((hc 0).trans hB.x0), ⟨v9, World.cell?_setCell_same' _ _ _ ?_, ownsRow_setCell_below hown (by simp only []; omega) _⟩, ?_, ?_⟩
  · obtain ⟨v', h1, _⟩ := hB.x1
    rw [hc 1, h1]; rfl
  · rw [World.frozen?_setCell]
    have := hB.fz
    unfold World.frozen? at this ⊢
    simp only [hk] at this ⊢
    exact this
  · rw [World.size_setCell]
    exact Nat.lt_of_lt_of_le s hg.size
theorem OL.line {m wr : World} {A O ls cs lt C P : Nat} {s : Nat → Int} {t T : Nat → St5} (h : OL m wr (.slice (some ⟨A, O, none⟩) ls cs) lt T) (H : LineAt m A O C P ls lt s t) (hT : StOk ls lt T) : ∃ G cap, wr.cell? ⟨m.heap.size, 1, none⟩ = some (.slice (some ⟨G, 0, none⟩) lt cap) ∧ m.heap.size < G ∧ LineAt wr A O G 0 ls lt s T := by
  obtain ⟨v, h1, h2⟩ := h.x1
  obtain ⟨G, cap, rfl, hG, hgs⟩ := World.ownsRow.form h2 (by have := H.lt1; omega)
  exact ⟨G, cap, h1, by omega, ⟨Nat.lt_of_lt_of_le H.hA h.bel.size, hgs, H.ls1, H.ls2, H.lt1, H.lt2, H.sp.below H.hA h.bel, StAt.of_owns h2, H.sok, hT⟩⟩
theorem OL.far {m wr W w9 : World} {xs v : Value} {k : Nat} {T : Nat → St5} (h : OL m wr xs k T) (hb : Below wr.heap.size wr W) (hc : wr.cell? ⟨m.heap.size, 1, none⟩ = some v) (hv : wr.ownsRow (m.heap.size + 1) 62 5 v k (stCells T k)) (hg : W.grownBy w9 v.ownBlock) :
    w9.cell? ⟨m.heap.size, 1, none⟩ = some v ∧ w9.frozen? ⟨m.heap.size, 1, none⟩ = false := by
  have hB := h.below hb
  have s := hB.sz
  have hne : some m.heap.size ≠ v.ownBlock := fun e => by have := own_ge hv _ e.symm; omega
  refine ⟨(hg.cell_far ⟨m.heap.size, 1, none⟩ s hne).trans ((hb.cell (p := ⟨m.heap.size, 1, none⟩) h.sz).trans hc), ?_⟩
  have hk := hg.block m.heap.size s hne
  have := hB.fz
  unfold World.frozen? at this ⊢
  simp only [hk] at this ⊢
  exact this
theorem lies5 {W : World} {b : Nat} {x y z u v : Value} (h0 : W.cell? ⟨b, 0, none⟩ = some x) (h1 : W.cell? ⟨b, 1, none⟩ = some y) (h2 : W.cell? ⟨b, 2, none⟩ = some z) (h3 : W.cell? ⟨b, 3, none⟩ = some u) (h4 : W.cell? ⟨b, 4, none⟩ = some v) : ∀ (j : Nat) (e : Value), [x, y, z, u, v][j]? = some e → W.cell? ((⟨b, 0, none⟩ : Addr).add j) = some e := by
  intro j e hj
  rw [add_mk, Nat.zero_add]
  match j, hj with
  | 0, hj => simp at hj; subst hj; exact h0
  | 1, hj => simp at hj; subst hj; exact h1
  | 2, hj => simp at hj; subst hj; exact h2
  | 3, hj => simp at hj; subst hj; exact h3
  | 4, hj => simp at hj; subst hj; exact h4
theorem al_lit5 {W : World} {n : Nat} (hn : W.heap.size = n) (x y z u v : Value) (T : TypeId) : ∀ (j : Nat) (e : Value), [x, y, z, u, v][j]? = some e → (W.alloc (.cells #[x, y, z, u, v] T)).cell? ((⟨n, 0, none⟩ : Addr).add j) = some e := by
  subst hn
  exact lies5 (by simp) (by simp) (by simp) (by simp) (by simp)

set_option maxRecDepth 100000 in
set_option maxHeartbeats 8000000 in
theorem lawmo_g (A O C P ls cs lt ct n D F cq : Nat) (pa la ka : Option Addr) (lp cp ll cl lk ck : Nat) (s : Nat → Int) (t : Nat → St5) (g : Nat → Int) (p : Nat → Sp2) (l : Nat → Int) (c : Nat → Cl3) (z : Cl3) (up down nd less il ih : Int) (w : World) (H0 : Hid (LineAt w A O C P ls lt s t)) (hn : n < lt) (hD : D < w.heap.size) (HDN : Hid (NumAt w D F lt g)) (HQ : Hid (AgeP lt lt g)) (HP : Hid (AnySip w pa la lp ll p l)) (HC : Hid (ClSl w ka lk c)) (K : Hid KnownOk')
    (hq3 : lp ≤ 10 ∧ ll ≤ 10 ∧ lk ≤ 6) (hu1 : ¬ up < 0) (hu2 : ¬ (100 : Int) < up) (hd1 : ¬ down < 0) (hd2 : ¬ (100 : Int) < down) (hcn : fromB 1 10000000 nd = true) (he1 : ¬ less < 0) (he2 : ¬ nd ≤ less) :
    Calls Tryz.prog 7 #[.agg #[.slice (some ⟨A, O, none⟩) ls cs, .slice (some ⟨C, P, none⟩) lt ct], .int .i64 (n : Nat), .slice (some ⟨D, F, none⟩) lt cq, .int .i64 up, .int .i64 down, .int .i64 nd, .int .i64 less, .agg #[.int .i64 il, .int .i64 ih, .slice pa lp cp, .slice la ll cl], .slice ka lk ck, .agg #[.int .i64 z.be, .int .i64 z.pr, .int .i64 z.st]] w
      fun e w' => e = .returned (.bool true) ∧ Below w.heap.size w w' := by
  have HSOK := Lib.hid H0.out.tok
  have HR : Hid (RightP ls lt s t) := Lib.hid ⟨H0.out.ls1, H0.out.ls2, H0.out.lt1, H0.out.lt2, H0.out.sok, H0.out.tok⟩
  have q0 := H0.out.ls2
  have q1 := H0.out.lt1
  have q2 := H0.out.lt2
  have hlq : lt ≤ maxLen := by unfold maxLen; omega
  have hc1 : decide (ls ≤ 13 ∧ lt ≤ 10) = true := decide_eq_true ⟨by omega, by omega⟩
  have hc3 : decide (lp ≤ 10 ∧ ll ≤ 10 ∧ lk ≤ 6) = true := decide_eq_true hq3
  have hc2 : ¬ (10 : Int) < (lt : Int) := by omega
  have hc5 : fromB 0 ((lt : Int) - 1) (n : Int) = true := by simp only [fromB, decide_eq_true_eq]; omega
  have HL : Hid (∀ w1, Below (((w.alloc (.cells #[.slice (some ⟨A, O, none⟩) ls cs, .slice (some ⟨C, P, none⟩) lt ct] 25)).alloc (.cells #[.int .i64 il, .int .i64 ih, .slice pa lp cp, .slice la ll cl] 40)).alloc (.cells #[.int .i64 z.be, .int .i64 z.pr, .int .i64 z.st] 54)).heap.size (((w.alloc (.cells #[.slice (some ⟨A, O, none⟩) ls cs, .slice (some ⟨C, P, none⟩) lt ct] 25)).alloc (.cells #[.int .i64 il, .int .i64 ih, .slice pa lp cp, .slice la ll cl] 40)).alloc (.cells #[.int .i64 z.be, .int .i64 z.pr, .int .i64 z.st] 54)) w1 → LineAt w1 A O C P ls lt s t ∧ D < w1.heap.size ∧ NumAt w1 D F lt g) := Lib.hid fun w1 h => by
    have hW : Below w.heap.size w (((w.alloc (.cells #[.slice (some ⟨A, O, none⟩) ls cs, .slice (some ⟨C, P, none⟩) lt ct] 25)).alloc (.cells #[.int .i64 il, .int .i64 ih, .slice pa lp cp, .slice la ll cl] 40)).alloc (.cells #[.int .i64 z.be, .int .i64 z.pr, .int .i64 z.st] 54)) := (((Below.refl _ _).alloc (Nat.le_refl _) _).alloc (by simp) _).alloc (by simp; omega) _
    have hh := hW.trans (h.mono hW.size)
    exact ⟨H0.out.below hh, Nat.lt_of_lt_of_le hD hh.size, HDN.out.below hD hh⟩
  have BX := Lib.hid (fun (w1 : World) (hb : Below (((w.alloc (.cells #[.slice (some ⟨A, O, none⟩) ls cs, .slice (some ⟨C, P, none⟩) lt ct] 25)).alloc (.cells #[.int .i64 il, .int .i64 ih, .slice pa lp cp, .slice la ll cl] 40)).alloc (.cells #[.int .i64 z.be, .int .i64 z.pr, .int .i64 z.st] 54)).heap.size (((w.alloc (.cells #[.slice (some ⟨A, O, none⟩) ls cs, .slice (some ⟨C, P, none⟩) lt ct] 25)).alloc (.cells #[.int .i64 il, .int .i64 ih, .slice pa lp cp, .slice la ll cl] 40)).alloc (.cells #[.int .i64 z.be, .int .i64 z.pr, .int .i64 z.st] 54)) w1) => bx9 hb)
  have hW : Below w.heap.size w (((w.alloc (.cells #[.slice (some ⟨A, O, none⟩) ls cs, .slice (some ⟨C, P, none⟩) lt ct] 25)).alloc (.cells #[.int .i64 il, .int .i64 ih, .slice pa lp cp, .slice la ll cl] 40)).alloc (.cells #[.int .i64 z.be, .int .i64 z.pr, .int .i64 z.st] 54)) := (((Below.refl _ _).alloc (Nat.le_refl _) _).alloc (by simp) _).alloc (by simp; omega) _
  have HWB : Hid (∀ w1, Below (((w.alloc (.cells #[.slice (some ⟨A, O, none⟩) ls cs, .slice (some ⟨C, P, none⟩) lt ct] 25)).alloc (.cells #[.int .i64 il, .int .i64 ih, .slice pa lp cp, .slice la ll cl] 40)).alloc (.cells #[.int .i64 z.be, .int .i64 z.pr, .int .i64 z.st] 54)).heap.size (((w.alloc (.cells #[.slice (some ⟨A, O, none⟩) ls cs, .slice (some ⟨C, P, none⟩) lt ct] 25)).alloc (.cells #[.int .i64 il, .int .i64 ih, .slice pa lp cp, .slice la ll cl] 40)).alloc (.cells #[.int .i64 z.be, .int .i64 z.pr, .int .i64 z.st] 54)) w1 → Below w.heap.size w w1) := Lib.hid fun w1 h => hW.trans (h.mono hW.size)
  have hb : Below (((w.alloc (.cells #[.slice (some ⟨A, O, none⟩) ls cs, .slice (some ⟨C, P, none⟩) lt ct] 25)).alloc (.cells #[.int .i64 il, .int .i64 ih, .slice pa lp cp, .slice la ll cl] 40)).alloc (.cells #[.int .i64 z.be, .int .i64 z.pr, .int .i64 z.st] 54)).heap.size (((w.alloc (.cells #[.slice (some ⟨A, O, none⟩) ls cs, .slice (some ⟨C, P, none⟩) lt ct] 25)).alloc (.cells #[.int .i64 il, .int .i64 ih, .slice pa lp cp, .slice la ll cl] 40)).alloc (.cells #[.int .i64 z.be, .int .i64 z.pr, .int .i64 z.st] 54)) (((w.alloc (.cells #[.slice (some ⟨A, O, none⟩) ls cs, .slice (some ⟨C, P, none⟩) lt ct] 25)).alloc (.cells #[.int .i64 il, .int .i64 ih, .slice pa lp cp, .slice la ll cl] 40)).alloc (.cells #[.int .i64 z.be, .int .i64 z.pr, .int .i64 z.st] 54)) := Below.refl _ _
  obtain ⟨x0, x1, x2, x3, x4, x5, x6, x7, x8, x9⟩ := BX.out _ hb
  clear hW
  obtain ⟨i0, hi, hz0, hz1, hz2⟩ := info_parts info39
  obtain ⟨hq31, hq32, hq33⟩ := hq3
  go_enter Tryz.func7, Tryz.ntmps7
  go_wp2_with (first
    | (go_at_call 8; refine (short_w _ _ _ _ _ _ _ (by unfold maxLen; omega) (by unfold maxLen; omega)).mono ?_; rw [hc1]; rintro e wl ⟨rfl, hv⟩; replace hb := hb.trans (hv.mono hb.size); clear x0 x1 x2 x3 x4 x5 x6 x7 x8 x9; obtain ⟨x0, x1, x2, x3, x4, x5, x6, x7, x8, x9⟩ := BX.out _ hb)
    | (go_at_call 16; refine (slim_w _ _ _ _ _ _ _ _ _ _ _ _ (by unfold maxLen; omega) (by unfold maxLen; omega) (by unfold maxLen; omega)).mono ?_; rw [hc3]; rintro e wl ⟨rfl, hv⟩; replace hb := hb.trans (hv.mono hb.size); clear x0 x1 x2 x3 x4 x5 x6 x7 x8 x9; obtain ⟨x0, x1, x2, x3, x4, x5, x6, x7, x8, x9⟩ := BX.out _ hb)
    | (go_at_call 12; refine (right_w _ _ _ _ _ _ s t _ (by omega) (by omega) (Lib.hid (.inr ⟨A, O, rfl, (HL.out _ hb).1.hA, (HL.out _ hb).1.sp⟩)) (Lib.hid (.inr ⟨C, P, rfl, (HL.out _ hb).1.hC, (HL.out _ hb).1.st⟩))).mono ?_; rintro e wl ⟨⟨rb, rfl, hrb⟩, hv⟩; obtain rfl : rb = true := hrb.2 HR.out; clear hrb; replace hb := hb.trans (hv.mono hb.size); clear x0 x1 x2 x3 x4 x5 x6 x7 x8 x9; obtain ⟨x0, x1, x2, x3, x4, x5, x6, x7, x8, x9⟩ := BX.out _ hb)
    | (go_at_call 13; refine (number_w _ undef _ _ _ _ _ (by unfold maxLen; omega)).mono ?_; rw [hc5]; rintro e wl ⟨rfl, hv⟩; replace hb := hb.trans (hv.mono hb.size); clear x0 x1 x2 x3 x4 x5 x6 x7 x8 x9; obtain ⟨x0, x1, x2, x3, x4, x5, x6, x7, x8, x9⟩ := BX.out _ hb)
    | (go_at_call 29; refine (refAges_w _ _ _ _ _ _ _ g _ (by omega) hlq (Lib.hid (.inr ⟨D, F, rfl, (HL.out _ hb).2.1, (HL.out _ hb).2.2⟩))).mono ?_; rintro e w5 ⟨⟨rb, rfl, hrb⟩, hv⟩; obtain rfl : rb = true := hrb.2 HQ.out; clear hrb; replace hb := hb.trans (hv.mono hb.size); clear x0 x1 x2 x3 x4 x5 x6 x7 x8 x9; obtain ⟨x0, x1, x2, x3, x4, x5, x6, x7, x8, x9⟩ := BX.out _ hb)
    | (go_at_call 30; refine (need_w _ _).mono ?_; rw [hcn]; rintro e w' ⟨rfl, rfl⟩))
  have HBB := Lib.hid hb
  clear x0 x1 x2 x3 x4 x5 x6 x7 x8 x9
  go_loopw [22] (fun ii wr => ∃ k : Nat, k ≤ lt ∧ ii = .int .i64 k ∧ OL w5 wr (.slice (some ⟨A, O, none⟩) ls cs) k (fun i => narS up down (t i))) (fun ii _ => lt - (intOf ii).toNat)
  case atStart => exact ⟨0, Nat.zero_le _, rfl, OL.start _ _ _⟩
  case round =>
    obtain ⟨k, hk, rfl, hol⟩ := hrel
    have HOL := Lib.hid hol
    clear hol
    have HBW := Lib.hid (HBB.out.trans (HOL.out.bel.mono HBB.out.size))
    obtain ⟨x0, x1, x2, x3, x4, x5, x6, x7, x8, x9⟩ := BX.out _ HBW.out
    by_cases hlt : k < lt
    · obtain ⟨v, c9, hv2⟩ := HOL.out.x1
      have HV2 := Lib.hid hv2
      have hfz := HOL.out.fz
      have hsz := HOL.out.sz
      obtain ⟨y0, y1, y2, y3, y4⟩ := (HL.out _ HBW.out).1.st k hlt
      have hC := (HL.out _ HBW.out).1.hC
      have hst := HSOK.out k hlt
      simp only [stB, decide_eq_true_eq] at hst
      have m1 : (0 : Int) ≤ (k : Int) := by omega
      have m2 : (k : Int) < (lt : Int) := by omega
      have u1 : IntKind.i64.wrap ((t k).lo + up) = (t k).lo + up := IntWalk.i64_in _ (by omega)
      have u2 : IntKind.i64.wrap ((t k).hi - down) = (t k).hi - down := IntWalk.i64_in _ (by omega)
      have l1 : w5.heap.size ≠ wr.heap.size := by omega
      have l2 : wr.heap.size ≠ w5.heap.size := by omega
      clear hv2 hst
      have HNW : Hid (∀ a b : Int, a = (narS up down (t k)).lo → b = (narS up down (t k)).hi → ∀ (W : World) (nB : Nat), W.heap.size = nB → ∀ (j : Nat) (e : Value), [.int .i64 (narS up down (t k)).b, .int .i64 (narS up down (t k)).d, .int .i64 (narS up down (t k)).f, .int .i64 (narS up down (t k)).lo, .int .i64 (narS up down (t k)).hi][j]? = some e → (W.alloc (.cells #[.int .i64 (t k).b, .int .i64 (t k).d, .int .i64 (t k).f, .int .i64 a, .int .i64 b] 62)).cell? ((⟨nB, 0, none⟩ : Addr).add j) = some e) := Lib.hid fun a b ha hb W nB hn => by subst ha; subst hb; exact al_lit5 hn _ _ _ _ _ _
      go_wp2_with (at_builtin; refine wpList_append_own _ rfl _ _ 23 rfl (w5.heap.size + 1) 62 i0 _ 5 40 Tryz.underlying23 hi hz0 hz1 hz2 rfl (by decide) v k (stCells (fun i => narS up down (t i)) k) rfl (owns_below HV2.out (((Below.refl _ _).alloc (Nat.le_refl _) _).alloc (by simp) _)) ⟨_, 0, none⟩ 1 1 [.int .i64 (narS up down (t k)).b, .int .i64 (narS up down (t k)).d, .int .i64 (narS up down (t k)).f, .int .i64 (narS up down (t k)).lo, .int .i64 (narS up down (t k)).hi] rfl rfl (HNW.out _ _ (by simp only [narS]; omega) (by simp only [narS]; omega) _ _ (by simp)) (by intro u hu; simp at hu; rcases hu with rfl | rfl | rfl | rfl | rfl <;> rfl) (by unfold maxLen; omega) (by omega) (by simp; omega) ?_; intro v9 w9 hown9 hgrow9 _; obtain ⟨g9, cap9, rfl⟩ := ownsRow_succ hown9; obtain ⟨d1, d2⟩ := HOL.out.far (((Below.refl _ _).alloc (Nat.le_refl _) _).alloc (by simp) _) c9 HV2.out hgrow9; have HPU := Lib.hid (HOL.out.push (((Below.refl _ _).alloc (Nat.le_refl _) _).alloc (by simp) _) HV2.out (by rw [← stCells_snoc]; exact hown9) hgrow9); clear hown9 hgrow9)
      all_goals
        go_roundw
        case rel => exact ⟨k + 1, by omega, by go_num, HPU.out⟩
        case measure => simp [intOf]; omega
    · obtain rfl : k = lt := by omega
      have HTOK := Lib.hid (narS_ok (up := up) (down := down) HSOK.out (by omega) (by omega))
      obtain ⟨G, gc, e1, hG, hlx⟩ := HOL.out.line (HL.out _ HBB.out).1 HTOK.out
      have HE1 := Lib.hid e1
      have HX0 := Lib.hid HOL.out.x0
      have hXs := HOL.out.sz
      have HLX := Lib.hid hlx
      clear e1 hlx
      have FH : Hid (∀ w', Below wr.heap.size wr w' → (w'.cell? ⟨w.heap.size, 0, none⟩ = some (.slice (some ⟨A, O, none⟩) ls cs) ∧ w'.cell? ⟨w.heap.size, 1, none⟩ = some (.slice (some ⟨C, P, none⟩) k ct) ∧ w'.cell? ⟨w5.heap.size, 0, none⟩ = some (.slice (some ⟨A, O, none⟩) ls cs) ∧ w'.cell? ⟨w5.heap.size, 1, none⟩ = some (.slice (some ⟨G, 0, none⟩) k gc) ∧ w'.cell? ⟨D, F + n, none⟩ = some (.int .i64 (g n)))) := Lib.hid fun w' h => by
        have h9 := HBW.out.trans (h.mono HBW.out.size)
        obtain ⟨z0, z1, _⟩ := BX.out _ h9
        exact ⟨z0, z1, (h.cell (p := ⟨w5.heap.size, 0, none⟩) hXs).trans HX0.out, (h.cell (p := ⟨w5.heap.size, 1, none⟩) hXs).trans HE1.out, (HL.out _ h9).2.2 n hn⟩
      have FL : Hid (∀ w', Below wr.heap.size wr w' → LineAt w' A O C P ls k s t ∧ LineAt w' A O G 0 ls k s (fun i => narS up down (t i)) ∧ D < w'.heap.size ∧ NumAt w' D F k g) := Lib.hid fun w' h => by
        have h9 := HBW.out.trans (h.mono HBW.out.size)
        exact ⟨(HL.out _ h9).1, HLX.out.below h, (HL.out _ h9).2⟩
      have hag : 0 ≤ g n ∧ g n ≤ 200 := by
        have h9 := HQ.out.ok n hn
        simp only [fromB, decide_eq_true_eq] at h9
        exact h9
      have m1 : (0 : Int) ≤ (n : Int) := by omega
      have m2 : (n : Int) < (k : Int) := by omega
      obtain ⟨La, hLa⟩ : ∃ La, La = bmin (upto (fun j => (carOf s t g j).lo) k) := ⟨_, rfl⟩
      obtain ⟨Lb, hLb⟩ : ∃ Lb, Lb = bmin (upto (fun j => (carOf s t g j).hi) k) := ⟨_, rfl⟩
      obtain ⟨Ma, hMa⟩ : ∃ Ma, Ma = bmin (upto (fun j => (carOf s (fun i => narS up down (t i)) g j).lo) k) := ⟨_, rfl⟩
      obtain ⟨Mb, hMb⟩ : ∃ Mb, Mb = bmin (upto (fun j => (carOf s (fun i => narS up down (t i)) g j).hi) k) := ⟨_, rfl⟩
      have hcu : ∀ j, j < k → cupsL s (t j) (g j) (t j).hi ≤ cupsL s (narS up down (t j)) (g j) (narS up down (t j)).hi ∧ cupsL s (narS up down (t j)) (g j) (narS up down (t j)).lo ≤ cupsL s (t j) (g j) (t j).lo := fun j hj => by
        obtain ⟨_, _, _, _, b5⟩ := H0.out.bds hj
        have hg := HQ.out.ok j hj
        simp only [fromB, decide_eq_true_eq] at hg
        exact narS_cups (HSOK.out j hj) (by omega) (by omega) (by omega) hg.1
      have hN1 : Hid (¬ Ma < La ∧ ¬ Lb < Mb ∧ ¬ cupsL s (narS up down (t n)) (g n) (narS up down (t n)).hi < cupsL s (t n) (g n) (t n).hi ∧ ¬ cupsL s (t n) (g n) (t n).lo < cupsL s (narS up down (t n)) (g n) (narS up down (t n)).lo) := Lib.hid (by
        have h1 := bmin_le2 q1 (fun j hj => (hcu j hj).1)
        have h2 := bmin_le2 q1 (fun j hj => (hcu j hj).2)
        have h3 := hcu n hn
        refine ⟨?_, ?_, by omega, by omega⟩
        · rw [hLa, hMa]; exact Int.not_lt.2 h1
        · rw [hLb, hMb]; exact Int.not_lt.2 h2)
      have HLA := Lib.hid hLa
      have HLB := Lib.hid hLb
      have HMA := Lib.hid hMa
      have HMB := Lib.hid hMb
      obtain ⟨a1, b1, hg1⟩ := great_exists s (t n) nd
      obtain ⟨a2, b2, hg2⟩ := great_exists s (t n) (nd - less)
      obtain ⟨k1, hk1⟩ : ∃ k1 : Int, cond b1 (0 : Int) 5 = k1 := ⟨_, rfl⟩
      obtain ⟨k2, hk2⟩ : ∃ k2 : Int, cond b2 (0 : Int) 5 = k2 := ⟨_, rfl⟩
      have hcn1 := hcn
      simp only [fromB, decide_eq_true_eq] at hcn1
      have hcase : Hid ((k1 = 0 ∧ k2 = 0 ∧ ¬ a2 < a1) ∨ k1 = 5) := Lib.hid (by
        cases hbb : b1 with
        | false => right; rw [← hk1, hbb]; rfl
        | true =>
          obtain ⟨h1, h2⟩ := great_less (by omega) hg1 hg2 hbb
          left; exact ⟨by rw [← hk1, hbb]; rfl, by rw [← hk2, h1]; rfl, by omega⟩)
      have HG1 := Lib.hid hg1
      have HG2 := Lib.hid hg2
      have HK1 := Lib.hid hk1
      have HK2 := Lib.hid hk2
      have hcn2 : fromB 1 10000000 (nd - less) = true := by simp only [fromB, decide_eq_true_eq]; omega
      have hwr : IntKind.i64.wrap (nd - less) = nd - less := IntWalk.i64_in _ (by omega)
      clear hLa hLb hMa hMb hcu hg1 hg2 hk1 hk2 hcn1
      obtain ⟨y0, y1, y2, y3, y4⟩ := FH.out _ (Below.refl _ _)
      clear x0 x1 x2 x3 x4 x5 x6 x7 x8 x9
      go_wp2
      refine cut_region (F := fun Bx W3 => Below wr.heap.size wr W3 ∧ W3.cell? ⟨Bx, 0, none⟩ = some (.int .i64 (cupsL s (t n) (g n) (t n).hi)) ∧ W3.cell? ⟨Bx, 1, none⟩ = some (.int .i64 (cupsL s (t n) (g n) (t n).lo)) ∧ Bx < W3.heap.size) (act := ?actw13) ?hrw13 ?hcw13
      case hrw13 =>
       intro CONT
       go_region_held3 (fun w' => (w'.cell? ⟨w.heap.size, 0, none⟩ = some (.slice (some ⟨A, O, none⟩) ls cs) ∧ w'.cell? ⟨w.heap.size, 1, none⟩ = some (.slice (some ⟨C, P, none⟩) k ct) ∧ w'.cell? ⟨w5.heap.size, 0, none⟩ = some (.slice (some ⟨A, O, none⟩) ls cs) ∧ w'.cell? ⟨w5.heap.size, 1, none⟩ = some (.slice (some ⟨G, 0, none⟩) k gc) ∧ w'.cell? ⟨D, F + n, none⟩ = some (.int .i64 (g n)))) ((first | exact hSw13 | (refine FH.out _ ?_; repeat (first | exact Below.refl _ _ | exact hBw13 | refine Below.alloc ?_ (by first | exact hBw13.size | (simp; done) | (simp; omega) | (have := hBw13.size; simp; omega)) _ | refine Below.drew ?_ | refine Below.setCell ?_ (by first | (simp only []; done) | (simp only []; omega) | (have := hBw13.size; simp only []; omega)) _)))) ((first
         | (go_at_call 11; (first | show Calls Tryz.prog 11 _ (World.drew (World.alloc _ _)) _ | show Calls Tryz.prog 11 _ (World.alloc _ _) _); refine (pcarries_w A O C P ls cs k ct n s t (g n) _ (Lib.hid (FL.out _ (by repeat (first | exact Below.refl _ _ | refine Below.alloc ?_ (by first | (simp; done) | (simp; omega)) _ | refine Below.drew ?_))).1) hn hag).mono ?_; rintro e w13 ⟨rfl, hbw13⟩; have z0 : w13.cell? ⟨wr.heap.size, 0, none⟩ = some (.int .i64 0) := ((bcell hbw13).1 _ _ (by simp)).trans (by simp); have z1 : w13.cell? ⟨wr.heap.size, 1, none⟩ = some (.int .i64 0) := ((bcell hbw13).1 _ _ (by simp)).trans (by simp); have z2 : w13.frozen? ⟨wr.heap.size, 0, none⟩ = false := ((bcell hbw13).2 _ _ (by simp)).trans (by simp); have z3 : w13.frozen? ⟨wr.heap.size, 1, none⟩ = false := ((bcell hbw13).2 _ _ (by simp)).trans (by simp); have hBw13 : Below wr.heap.size wr w13 := Below.trans (show Below wr.heap.size wr _ from (by repeat (first | exact Below.refl _ _ | refine Below.alloc ?_ (by first | (simp; done) | (simp; omega)) _ | refine Below.drew ?_))) (hbw13.mono (by simp)); have hSw13 := FH.out w13 hBw13)
         | (go_at_call 11; refine (pcarries_w A O C P ls cs k ct n s t (g n) _ (Lib.hid (FL.out _ (by repeat (first | exact Below.refl _ _ | refine Below.alloc ?_ (by first | (simp; done) | (simp; omega)) _ | refine Below.drew ?_))).1) hn hag).mono ?_; rintro e w13 ⟨rfl, hbw13⟩; have hBw13 : Below wr.heap.size wr w13 := Below.trans (show Below wr.heap.size wr _ from (by repeat (first | exact Below.refl _ _ | refine Below.alloc ?_ (by first | (simp; done) | (simp; omega)) _ | refine Below.drew ?_))) (hbw13.mono (by simp)); have hSw13 := FH.out w13 hBw13)))
       all_goals
         first
         | (obtain ⟨W3, hW3⟩ : ∃ W3, W3 = w13.alloc (.cells #[.int .i64 (cupsL s (t n) (g n) (t n).hi), .int .i64 (cupsL s (t n) (g n) (t n).lo)] 31) := ⟨_, rfl⟩
            have hbW3 : Below wr.heap.size wr W3 := by rw [hW3]; exact hBw13.alloc hBw13.size _
            have t0 : W3.cell? ⟨w13.heap.size, 0, none⟩ = some (.int .i64 (cupsL s (t n) (g n) (t n).hi)) ∧ W3.cell? ⟨w13.heap.size, 1, none⟩ = some (.int .i64 (cupsL s (t n) (g n) (t n).lo)) ∧ w13.heap.size < W3.heap.size := by rw [hW3]; exact ⟨by simp, by simp, by simp⟩
            rw [← hW3]
            obtain ⟨Bx, hBx⟩ : ∃ Bx, Bx = w13.heap.size := ⟨_, rfl⟩
            rw [← hBx] at t0 ⊢
            exact CONT Bx W3 ⟨hbW3, t0⟩)
         | (obtain ⟨W3, hW3⟩ : ∃ W3, W3 = ((w13.setCell ⟨wr.heap.size, 0, none⟩ (.int .i64 (cupsL s (t n) (g n) (t n).hi))).setCell ⟨wr.heap.size, 1, none⟩ (.int .i64 (cupsL s (t n) (g n) (t n).lo))) := ⟨_, rfl⟩
            have hbW3 : Below wr.heap.size wr W3 := by rw [hW3]; exact (hBw13.setCell (by simp) _).setCell (by simp) _
            have t0 : W3.cell? ⟨wr.heap.size, 0, none⟩ = some (.int .i64 (cupsL s (t n) (g n) (t n).hi)) ∧ W3.cell? ⟨wr.heap.size, 1, none⟩ = some (.int .i64 (cupsL s (t n) (g n) (t n).lo)) ∧ wr.heap.size < W3.heap.size := by
              rw [hW3]
              refine ⟨(World.cell?_setCell_other _ _ _ _ (by intro e; cases e)).trans (World.cell?_setCell_same' _ _ _ (by rw [z0]; rfl)), World.cell?_setCell_same' _ _ _ (by rw [World.cell?_setCell_other _ _ _ _ (by intro e; cases e), z1]; rfl), ?_⟩
              have := hbw13.size
              simp at this
              simp only [World.size_setCell]; omega
            rw [← hW3]
            obtain ⟨Bx, hBx⟩ : ∃ Bx, Bx = wr.heap.size := ⟨_, rfl⟩
            rw [← hBx] at t0 ⊢
            exact CONT Bx W3 ⟨hbW3, t0⟩)
      case hcw13 =>
        rintro Bx W3 ⟨hbW3, tx0, tx1, tx2⟩
        have FH3 : Hid (∀ w', Below W3.heap.size W3 w' → (w'.cell? ⟨w.heap.size, 0, none⟩ = some (.slice (some ⟨A, O, none⟩) ls cs) ∧ w'.cell? ⟨w.heap.size, 1, none⟩ = some (.slice (some ⟨C, P, none⟩) k ct) ∧ w'.cell? ⟨w5.heap.size, 0, none⟩ = some (.slice (some ⟨A, O, none⟩) ls cs) ∧ w'.cell? ⟨w5.heap.size, 1, none⟩ = some (.slice (some ⟨G, 0, none⟩) k gc) ∧ w'.cell? ⟨D, F + n, none⟩ = some (.int .i64 (g n)))) := Lib.hid fun w' h => FH.out _ (hbW3.trans (h.mono hbW3.size))
        have FL3 : Hid (∀ w', Below W3.heap.size W3 w' → LineAt w' A O C P ls k s t ∧ LineAt w' A O G 0 ls k s (fun i => narS up down (t i)) ∧ D < w'.heap.size ∧ NumAt w' D F k g) := Lib.hid fun w' h => FL.out _ (hbW3.trans (h.mono hbW3.size))
        obtain ⟨y0, y1, y2, y3, y4⟩ := FH3.out _ (Below.refl _ _)
        go_wp2
        refine cut_region (F := fun By W4 => Below W3.heap.size W3 W4 ∧ W4.cell? ⟨By, 0, none⟩ = some (.int .i64 (cupsL s (narS up down (t n)) (g n) (narS up down (t n)).hi)) ∧ W4.cell? ⟨By, 1, none⟩ = some (.int .i64 (cupsL s (narS up down (t n)) (g n) (narS up down (t n)).lo)) ∧ By < W4.heap.size) (act := ?actw14) ?hrw14 ?hcw14
        case hrw14 =>
         intro CONT
         go_region_held3 (fun w' => (w'.cell? ⟨w.heap.size, 0, none⟩ = some (.slice (some ⟨A, O, none⟩) ls cs) ∧ w'.cell? ⟨w.heap.size, 1, none⟩ = some (.slice (some ⟨C, P, none⟩) k ct) ∧ w'.cell? ⟨w5.heap.size, 0, none⟩ = some (.slice (some ⟨A, O, none⟩) ls cs) ∧ w'.cell? ⟨w5.heap.size, 1, none⟩ = some (.slice (some ⟨G, 0, none⟩) k gc) ∧ w'.cell? ⟨D, F + n, none⟩ = some (.int .i64 (g n)))) ((first | exact hSw14 | (refine FH3.out _ ?_; repeat (first | exact Below.refl _ _ | exact hBw14 | refine Below.alloc ?_ (by first | exact hBw14.size | (simp; done) | (simp; omega) | (have := hBw14.size; simp; omega)) _ | refine Below.drew ?_ | refine Below.setCell ?_ (by first | (simp only []; done) | (simp only []; omega) | (have := hBw14.size; simp only []; omega)) _)))) ((first
           | (go_at_call 11; (first | show Calls Tryz.prog 11 _ (World.drew (World.alloc _ _)) _ | show Calls Tryz.prog 11 _ (World.alloc _ _) _); refine (pcarries_w A O G 0 ls cs k gc n s (fun i => narS up down (t i)) (g n) _ (Lib.hid (FL3.out _ (by repeat (first | exact Below.refl _ _ | refine Below.alloc ?_ (by first | (simp; done) | (simp; omega)) _ | refine Below.drew ?_))).2.1) hn hag).mono ?_; rintro e w14 ⟨rfl, hbw14⟩; have z0 : w14.cell? ⟨W3.heap.size, 0, none⟩ = some (.int .i64 0) := ((bcell hbw14).1 _ _ (by simp)).trans (by simp); have z1 : w14.cell? ⟨W3.heap.size, 1, none⟩ = some (.int .i64 0) := ((bcell hbw14).1 _ _ (by simp)).trans (by simp); have z2 : w14.frozen? ⟨W3.heap.size, 0, none⟩ = false := ((bcell hbw14).2 _ _ (by simp)).trans (by simp); have z3 : w14.frozen? ⟨W3.heap.size, 1, none⟩ = false := ((bcell hbw14).2 _ _ (by simp)).trans (by simp); have hBw14 : Below W3.heap.size W3 w14 := Below.trans (show Below W3.heap.size W3 _ from (by repeat (first | exact Below.refl _ _ | refine Below.alloc ?_ (by first | (simp; done) | (simp; omega)) _ | refine Below.drew ?_))) (hbw14.mono (by simp)); have hSw14 := FH3.out w14 hBw14)
           | (go_at_call 11; refine (pcarries_w A O G 0 ls cs k gc n s (fun i => narS up down (t i)) (g n) _ (Lib.hid (FL3.out _ (by repeat (first | exact Below.refl _ _ | refine Below.alloc ?_ (by first | (simp; done) | (simp; omega)) _ | refine Below.drew ?_))).2.1) hn hag).mono ?_; rintro e w14 ⟨rfl, hbw14⟩; have hBw14 : Below W3.heap.size W3 w14 := Below.trans (show Below W3.heap.size W3 _ from (by repeat (first | exact Below.refl _ _ | refine Below.alloc ?_ (by first | (simp; done) | (simp; omega)) _ | refine Below.drew ?_))) (hbw14.mono (by simp)); have hSw14 := FH3.out w14 hBw14)))
         all_goals
           first
           | (obtain ⟨W4, hW4⟩ : ∃ W4, W4 = w14.alloc (.cells #[.int .i64 (cupsL s (narS up down (t n)) (g n) (narS up down (t n)).hi), .int .i64 (cupsL s (narS up down (t n)) (g n) (narS up down (t n)).lo)] 31) := ⟨_, rfl⟩
              have hbW4 : Below W3.heap.size W3 W4 := by rw [hW4]; exact hBw14.alloc hBw14.size _
              have t0 : W4.cell? ⟨w14.heap.size, 0, none⟩ = some (.int .i64 (cupsL s (narS up down (t n)) (g n) (narS up down (t n)).hi)) ∧ W4.cell? ⟨w14.heap.size, 1, none⟩ = some (.int .i64 (cupsL s (narS up down (t n)) (g n) (narS up down (t n)).lo)) ∧ w14.heap.size < W4.heap.size := by rw [hW4]; exact ⟨by simp, by simp, by simp⟩
              rw [← hW4]
              obtain ⟨By, hBy⟩ : ∃ By, By = w14.heap.size := ⟨_, rfl⟩
              rw [← hBy] at t0 ⊢
              exact CONT By W4 ⟨hbW4, t0⟩)
           | (obtain ⟨W4, hW4⟩ : ∃ W4, W4 = ((w14.setCell ⟨W3.heap.size, 0, none⟩ (.int .i64 (cupsL s (narS up down (t n)) (g n) (narS up down (t n)).hi))).setCell ⟨W3.heap.size, 1, none⟩ (.int .i64 (cupsL s (narS up down (t n)) (g n) (narS up down (t n)).lo))) := ⟨_, rfl⟩
              have hbW4 : Below W3.heap.size W3 W4 := by rw [hW4]; exact (hBw14.setCell (by simp) _).setCell (by simp) _
              have t0 : W4.cell? ⟨W3.heap.size, 0, none⟩ = some (.int .i64 (cupsL s (narS up down (t n)) (g n) (narS up down (t n)).hi)) ∧ W4.cell? ⟨W3.heap.size, 1, none⟩ = some (.int .i64 (cupsL s (narS up down (t n)) (g n) (narS up down (t n)).lo)) ∧ W3.heap.size < W4.heap.size := by
                rw [hW4]
                refine ⟨(World.cell?_setCell_other _ _ _ _ (by intro e; cases e)).trans (World.cell?_setCell_same' _ _ _ (by rw [z0]; rfl)), World.cell?_setCell_same' _ _ _ (by rw [World.cell?_setCell_other _ _ _ _ (by intro e; cases e), z1]; rfl), ?_⟩
                have := hbw14.size
                simp at this
                simp only [World.size_setCell]; omega
              rw [← hW4]
              obtain ⟨By, hBy⟩ : ∃ By, By = W3.heap.size := ⟨_, rfl⟩
              rw [← hBy] at t0 ⊢
              exact CONT By W4 ⟨hbW4, t0⟩)
        case hcw14 =>
          rintro By W4 ⟨hbW4, ty0, ty1, ty2⟩
          have hb34 := hbW3.trans (hbW4.mono hbW3.size)
          have FH4 : Hid (∀ w', Below W4.heap.size W4 w' → (w'.cell? ⟨w.heap.size, 0, none⟩ = some (.slice (some ⟨A, O, none⟩) ls cs) ∧ w'.cell? ⟨w.heap.size, 1, none⟩ = some (.slice (some ⟨C, P, none⟩) k ct) ∧ w'.cell? ⟨w5.heap.size, 0, none⟩ = some (.slice (some ⟨A, O, none⟩) ls cs) ∧ w'.cell? ⟨w5.heap.size, 1, none⟩ = some (.slice (some ⟨G, 0, none⟩) k gc) ∧ w'.cell? ⟨D, F + n, none⟩ = some (.int .i64 (g n)))) := Lib.hid fun w' h => FH.out _ (hb34.trans (h.mono hb34.size))
          have FL4 : Hid (∀ w', Below W4.heap.size W4 w' → LineAt w' A O C P ls k s t ∧ LineAt w' A O G 0 ls k s (fun i => narS up down (t i)) ∧ D < w'.heap.size ∧ NumAt w' D F k g) := Lib.hid fun w' h => FL.out _ (hb34.trans (h.mono hb34.size))
          have FB4 : Hid (∀ w', Below W4.heap.size W4 w' → w'.cell? ⟨Bx, 0, none⟩ = some (.int .i64 (cupsL s (t n) (g n) (t n).hi)) ∧ w'.cell? ⟨Bx, 1, none⟩ = some (.int .i64 (cupsL s (t n) (g n) (t n).lo)) ∧ w'.cell? ⟨By, 0, none⟩ = some (.int .i64 (cupsL s (narS up down (t n)) (g n) (narS up down (t n)).hi)) ∧ w'.cell? ⟨By, 1, none⟩ = some (.int .i64 (cupsL s (narS up down (t n)) (g n) (narS up down (t n)).lo))) := Lib.hid fun w' h => by
            have hx := hbW4.trans (h.mono hbW4.size)
            exact ⟨(hx.cell (p := ⟨Bx, 0, none⟩) tx2).trans tx0, (hx.cell (p := ⟨Bx, 1, none⟩) tx2).trans tx1, (h.cell (p := ⟨By, 0, none⟩) ty2).trans ty0, (h.cell (p := ⟨By, 1, none⟩) ty2).trans ty1⟩
          have FS4 : Hid (∀ w', Below W4.heap.size W4 w' → w.heap.size < w'.heap.size ∧ w5.heap.size < w'.heap.size) := Lib.hid fun w' h => by
            have h1 := hb34.size
            have h2 := h.size
            have h3 := HBB.out.size
            simp at h3
            exact ⟨by omega, by omega⟩
          have HB4 : Hid (Below w.heap.size w W4) := Lib.hid (by have := HWB.out _ HBW.out; exact this.trans (hb34.mono this.size))
          clear y0 y1 y2 y3 y4 ty0 ty1 ty2 tx0 tx1 tx2 FH3 FL3
          obtain ⟨y0, y1, y2, y3, y4⟩ := FH4.out _ (Below.refl _ _)
          obtain ⟨o1, o2⟩ := FS4.out _ (Below.refl _ _)
          go_wp2_with (first
            | (go_at_call_of 31 (some (Addr.mk C P none)); refine (pline_w A O C P ls cs k ct D F cq s t g La Lb HLA HLB _ (Lib.hid (FL4.out _ (Below.refl _ _)).1) (FL4.out _ (Below.refl _ _)).2.2.1 (Lib.hid (FL4.out _ (Below.refl _ _)).2.2.2) HQ).mono ?_; rintro e w6 ⟨rfl, hb6⟩; clear y0 y1 y2 y3 y4 o1 o2; obtain ⟨y0, y1, y2, y3, y4⟩ := FH4.out _ hb6; obtain ⟨o1, o2⟩ := FS4.out _ hb6)
            | (go_at_call_of 31 (some (Addr.mk G 0 none)); refine (pline_w A O G 0 ls cs k gc D F cq s (fun i => narS up down (t i)) g Ma Mb HMA HMB _ (Lib.hid (FL4.out _ (hb6.alloc hb6.size _)).2.1) (FL4.out _ (hb6.alloc hb6.size _)).2.2.1 (Lib.hid (FL4.out _ (hb6.alloc hb6.size _)).2.2.2) HQ).mono ?_; rintro e w7 ⟨rfl, hb7⟩; have hc7 := (hb6.alloc hb6.size (.cells #[.int .i64 La, .int .i64 Lb] 31)).trans (hb7.mono (by have := hb6.size; simp; omega)); clear y0 y1 y2 y3 y4 o1 o2; obtain ⟨y0, y1, y2, y3, y4⟩ := FH4.out _ hc7; obtain ⟨o1, o2⟩ := FS4.out _ hc7; have HR6 := Lib.hid (show w7.cell? ⟨w6.heap.size, 0, none⟩ = some (.int .i64 La) ∧ w7.cell? ⟨w6.heap.size, 1, none⟩ = some (.int .i64 Lb) ∧ w6.heap.size < w7.heap.size from ⟨((bcell hb7).1 _ _ (by simp)).trans (by simp), ((bcell hb7).1 _ _ (by simp)).trans (by simp), by have := hb7.size; simp at this; omega⟩))
            | (go_at_call_of 32 (Value.int .i64 nd); refine (latest_is cs ct (nd := nd) (Lib.hid (FL4.out _ (hc7.alloc hc7.size _)).1) hn hcn HG1.out).mono ?_; rw [HK1.out]; rintro e w8 ⟨rfl, hb8⟩; have hc8 := (hc7.alloc hc7.size (.cells #[.int .i64 Ma, .int .i64 Mb] 31)).trans (hb8.mono (by have := hc7.size; simp; omega)); clear y0 y1 y2 y3 y4 o1 o2; obtain ⟨y0, y1, y2, y3, y4⟩ := FH4.out _ hc8; obtain ⟨o1, o2⟩ := FS4.out _ hc8; have HR7 := Lib.hid (show w8.cell? ⟨w7.heap.size, 0, none⟩ = some (.int .i64 Ma) ∧ w8.cell? ⟨w7.heap.size, 1, none⟩ = some (.int .i64 Mb) ∧ w7.heap.size < w8.heap.size from ⟨((bcell hb8).1 _ _ (by simp)).trans (by simp), ((bcell hb8).1 _ _ (by simp)).trans (by simp), by have := hb8.size; simp at this; omega⟩))
            | (go_at_call_of 32 (Value.int .i64 (nd - less)); refine (latest_is cs ct (nd := nd - less) (Lib.hid (FL4.out _ hc8).1) hn hcn2 HG2.out).mono ?_; rw [HK2.out]; rintro e w9 ⟨rfl, hb9⟩; have hc9 := hc8.trans (hb9.mono hc8.size); clear y0 y1 y2 y3 y4 o1 o2; obtain ⟨y0, y1, y2, y3, y4⟩ := FH4.out _ hc9; obtain ⟨p1, p2, p3, p4⟩ := FB4.out _ hc9; obtain ⟨p5, p6, p7⟩ := HR6.out; obtain ⟨p8, p9, p10⟩ := HR7.out; have pb := (Below.refl w7.heap.size w7).alloc (Nat.le_refl _) (.cells #[.int .i64 Ma, .int .i64 Mb] 31); have pc := pb.trans (hb8.mono pb.size); have pd := pc.trans (hb9.mono pc.size); replace p5 := (pd.cell (p := ⟨w6.heap.size, 0, none⟩) p7).trans p5; replace p6 := (pd.cell (p := ⟨w6.heap.size, 1, none⟩) p7).trans p6; replace p8 := (hb9.cell (p := ⟨w7.heap.size, 0, none⟩) p10).trans p8; replace p9 := (hb9.cell (p := ⟨w7.heap.size, 1, none⟩) p10).trans p9; clear pb pc pd; obtain ⟨i1, i2, i3, i4⟩ := hN1.out; rcases hcase.out with ⟨rfl, rfl, hle⟩ | rfl))
          all_goals
            have hbz := HBW.out.trans ((hb34.trans (hc9.mono hb34.size)).mono HBW.out.size)
            have hwz : Below w.heap.size w w9 := HB4.out.trans (hc9.mono HB4.out.size)
            have FZ : Hid (∀ w', Below w9.heap.size w9 w' → w'.cell? ⟨w.heap.size + 1 + 1, 0, none⟩ = some (.int .i64 z.be) ∧ w'.cell? ⟨w.heap.size + 1 + 1, 1, none⟩ = some (.int .i64 z.pr) ∧ w'.cell? ⟨w.heap.size + 1 + 1, 2, none⟩ = some (.int .i64 z.st)) := Lib.hid fun w' h => by
              obtain ⟨_, _, _, _, _, _, z6, z7, z8, _⟩ := BX.out _ (hbz.trans (h.mono hbz.size))
              exact ⟨z6, z7, z8⟩
            have HN9 : Hid (∀ w', Below w9.heap.size w9 w' → lk = 0 ∨ ∃ ad, ka = some ad ∧ ∀ (j : Nat) (u : Value), (clCells c lk)[j]? = some u → w'.cell? (ad.add j) = some u) := Lib.hid fun w' h => by
              rcases HC.out.below (hwz.trans (h.mono hwz.size)) with e | ⟨C1, P1, e, _, h3⟩
              · exact .inl e
              · exact .inr ⟨_, e, h3.news⟩
            obtain ⟨j0, hj, hj0, hj1, hj2⟩ := info_parts info54
            obtain ⟨v6, v7, v8⟩ := FZ.out _ (Below.refl _ _)
            (try clear hle)
            clear y0 y1 y2 y3 y4 p1 p2 p3 p4 p5 p6 p7 p8 p9 p10 i1 i2 i3 i4
            apply cut_region5 (F := fun va c5 lb g6 cap6 W5 => Below w9.heap.size w9 W5 ∧ g6 < W5.heap.size ∧ ClAt W5 g6 0 (lk + 1) (moreC c lk z))
            case hr =>
              intro CONT
              go_region_held3 (fun w' => w'.cell? ⟨w.heap.size + 1 + 1, 0, none⟩ = some (.int .i64 z.be) ∧ w'.cell? ⟨w.heap.size + 1 + 1, 1, none⟩ = some (.int .i64 z.pr) ∧ w'.cell? ⟨w.heap.size + 1 + 1, 2, none⟩ = some (.int .i64 z.st)) ((first | exact hS | (refine FZ.out _ ?_; repeat (first | exact Below.refl _ _ | exact hb5 | refine Below.alloc ?_ (by first | exact hb5.size | (simp; done) | (simp; omega)) _ | refine Below.drew ?_)))) ((first
                | (have hx5 := hown5; refine step_append_lies _ rfl (.tmp 250) (.tmp 252) 41 rfl w9.heap.size 54 j0 _ 3 24 Tryz.underlying41 hj hj0 hj1 hj2 rfl (by decide) _ lk _ rfl (by first | exact hown5 | exact hown5.alloc _) ⟨_, 0, none⟩ 1 1 [.int .i64 z.be, .int .i64 z.pr, .int .i64 z.st] rfl rfl (lies3 (by first | exact ⟨(hgrow5.cell_far ⟨w9.heap.size, 0, none⟩ (by simp) (by simp)).trans (by simp), (hgrow5.cell_far ⟨w9.heap.size, 1, none⟩ (by simp) (by simp)).trans (by simp), (hgrow5.cell_far ⟨w9.heap.size, 2, none⟩ (by simp) (by simp)).trans (by simp)⟩ | exact ⟨by simp, by simp, by simp⟩)) (by intro u hu; simp at hu; rcases hu with rfl | rfl | rfl <;> rfl) (by decide) (by unfold maxLen; omega) (by omega) (by first | (simp; done) | (simp; omega) | omega) _ rfl ?_; intro g6 cap6 w6 hown6 hgrow6 hat6 hlt6; have hb6 : Below w9.heap.size w9 w6 := Below.grown (by repeat (first | exact Below.refl _ _ | exact hb5 | refine Below.alloc ?_ (by first | exact hb5.size | (simp; done) | (simp; omega)) _ | refine Below.drew ?_)) hgrow6 (by first | exact hb5.size | (simp; done) | (simp; omega)) (fun k e => own_ge hown5 k e); have hS := FZ.out _ hb6)
                | (refine step_append_sl rfl (.const (.slice none 0 0)) (.tmp 249) 41 rfl w9.heap.size 54 j0 _ 3 24 Tryz.underlying41 hj hj0 hj1 hj2 rfl (by decide) rfl ka lk ck (clCells c lk) rfl (clCells_len c lk) (HN9.out _ (by repeat (first | exact Below.refl _ _ | exact hb5 | refine Below.alloc ?_ (by first | exact hb5.size | (simp; done) | (simp; omega)) _ | refine Below.drew ?_))) (clCells_one c lk) (by unfold maxLen; omega) (by omega) (by first | (simp; done) | (simp; omega) | omega) ?_; intro va cap5 w5 hown5 hgrow5 hat5'; have hat5 := Lib.hid hat5'; clear hat5'; have hb5 : Below w9.heap.size w9 w5 := Below.grown (row := none) (by repeat (first | exact Below.refl _ _ | exact hb5 | refine Below.alloc ?_ (by first | exact hb5.size | (simp; done) | (simp; omega)) _ | refine Below.drew ?_)) hgrow5 (by first | (simp; done) | (simp; omega) | omega) (fun k e => by cases e); have hb5z := hb5.size; have hS := FZ.out _ hb5)))
              all_goals
                have hfin : w6.ownsRow w9.heap.size 54 3 (.slice (some ⟨g6, 0, none⟩) (lk + 1) cap6) (lk + 1) (clCells (moreC c lk z) (lk + 1)) := by rw [← moreC_cells]; exact hown6
                have hcl6 := ClAt.of_owns hfin
                first
                | (generalize w5.heap.size = lb; exact CONT va cap5 lb g6 cap6 w6 ⟨hb6, hlt6, hcl6⟩)
                | (generalize w9.heap.size = lb; exact CONT va cap5 lb g6 cap6 w6 ⟨hb6, hlt6, hcl6⟩)
            case hc =>
              intro va c5 lb g6 cap6 W5 hF
              obtain ⟨hb5, hg6, hcl⟩ := hF
              have hz5 := hbz.trans (hb5.mono hbz.size)
              have HF5 : Hid (Below w.heap.size w W5) := Lib.hid (hwz.trans (hb5.mono hwz.size))
              have HCL := Lib.hid hcl
              have FX : Hid (∀ w', Below W5.heap.size W5 w' → w'.cell? ⟨w.heap.size + 1, 0, none⟩ = some (.int .i64 il) ∧ w'.cell? ⟨w.heap.size + 1, 1, none⟩ = some (.int .i64 ih) ∧ w'.cell? ⟨w.heap.size + 1, 2, none⟩ = some (.slice pa lp cp) ∧ w'.cell? ⟨w.heap.size + 1, 3, none⟩ = some (.slice la ll cl)) := Lib.hid fun w' h => by
                obtain ⟨_, _, z2, z3, z4, z5, _⟩ := BX.out _ (hz5.trans (h.mono hz5.size))
                exact ⟨z2, z3, z4, z5⟩
              have FP : Hid (∀ w', Below W5.heap.size W5 w' → AnySip w' pa la lp ll p l ∧ ClSl w' ka lk c ∧ ClSl w' (some ⟨g6, 0, none⟩) (lk + 1) (moreC c lk z)) := Lib.hid fun w' h => ⟨HP.out.below (HF5.out.trans (h.mono HF5.out.size)), HC.out.below (HF5.out.trans (h.mono HF5.out.size)), .inr ⟨g6, 0, rfl, Nat.lt_of_lt_of_le hg6 h.size, HCL.out.below hg6 h⟩⟩
              have h := Below.refl W5.heap.size W5
              obtain ⟨f0, f1, f2, f3⟩ := FX.out _ h
              clear hcl
              by_cases hSP : SipP il ih lp ll p l
              case neg =>
                have HSP := Lib.hid hSP
                clear hSP
                go_wp2_with (first
                  | (go_at_call 17; refine (rsiph_w _ _ _ _ _ _ _ _ p l _ (by omega) (by omega) (Lib.hid (FP.out _ h).1)).mono ?_; rintro e wl ⟨⟨rb, rfl, hrb⟩, hv⟩; obtain rfl : rb = false := (by cases rb <;> first | rfl | exact (HSP.out (hrb.1 rfl)).elim); clear hrb; replace h := h.trans (hv.mono h.size); clear f0 f1 f2 f3; obtain ⟨f0, f1, f2, f3⟩ := FX.out _ h)
                  | (go_at_call 9; refine (K.out _).mono ?_; rintro e wl ⟨rfl, hv⟩; have hB11 := h.trans (hv.mono h.size)))
                go_ret
                exact ⟨rfl, HF5.out.trans (hB11.mono HF5.out.size)⟩
              have HSP := Lib.hid hSP
              clear hSP
              by_cases hK1 : ClsP lk c
              case neg =>
                have HK1 := Lib.hid hK1
                clear hK1
                go_wp2_with (first
                  | (go_at_call 17; refine (rsiph_w _ _ _ _ _ _ _ _ p l _ (by omega) (by omega) (Lib.hid (FP.out _ h).1)).mono ?_; rintro e wl ⟨⟨rb, rfl, hrb⟩, hv⟩; obtain rfl : rb = true := hrb.2 HSP.out; clear hrb; replace h := h.trans (hv.mono h.size); clear f0 f1 f2 f3; obtain ⟨f0, f1, f2, f3⟩ := FX.out _ h)
                  | (go_at_call 18; refine (rcls_w _ _ _ c _ (by omega) (Lib.hid (FP.out _ h).2.1)).mono ?_; rintro e wl ⟨⟨rb, rfl, hrb⟩, rfl⟩; obtain rfl : rb = false := (by cases rb <;> first | rfl | exact (HK1.out (hrb.1 rfl)).elim); clear hrb)
                  | (go_at_call 9; refine (K.out _).mono ?_; rintro e wl ⟨rfl, hv⟩; have hB11 := h.trans (hv.mono h.size)))
                go_ret
                exact ⟨rfl, HF5.out.trans (hB11.mono HF5.out.size)⟩
              have HK1 := Lib.hid hK1
              clear hK1
              by_cases hK2 : ClsP (lk + 1) (moreC c lk z)
              case neg =>
                have HK2 := Lib.hid hK2
                clear hK2
                go_wp2_with (first
                  | (go_at_call 17; refine (rsiph_w _ _ _ _ _ _ _ _ p l _ (by omega) (by omega) (Lib.hid (FP.out _ h).1)).mono ?_; rintro e wl ⟨⟨rb, rfl, hrb⟩, hv⟩; obtain rfl : rb = true := hrb.2 HSP.out; clear hrb; replace h := h.trans (hv.mono h.size); clear f0 f1 f2 f3; obtain ⟨f0, f1, f2, f3⟩ := FX.out _ h)
                  | (go_at_call_of 18 (some (Addr.mk g6 0 none)); refine (rcls_w _ _ _ (moreC c lk z) _ (by omega) (Lib.hid (FP.out _ h).2.2)).mono ?_; rintro e wl ⟨⟨rb, rfl, hrb⟩, rfl⟩; obtain rfl : rb = false := (by cases rb <;> first | rfl | exact (HK2.out (hrb.1 rfl)).elim); clear hrb)
                  | (go_at_call 18; refine (rcls_w _ _ _ c _ (by omega) (Lib.hid (FP.out _ h).2.1)).mono ?_; rintro e wl ⟨⟨rb, rfl, hrb⟩, rfl⟩; obtain rfl : rb = true := hrb.2 HK1.out; clear hrb)
                  | (go_at_call 9; refine (K.out _).mono ?_; rintro e wl ⟨rfl, hv⟩; have hB11 := h.trans (hv.mono h.size)))
                go_ret
                exact ⟨rfl, HF5.out.trans (hB11.mono HF5.out.size)⟩
              have HK2 := Lib.hid hK2
              clear hK2
              obtain rfl := HSP.out.lpe
              obtain ⟨Cs, Ps, rfl, hCs, hsp⟩ := HP.out.hp.resolve_left (by have := HSP.out.lp1; omega)
              obtain ⟨As, Os, rfl, hAs, hln⟩ := HP.out.hl.resolve_left (by have := HSP.out.lp1; omega)
              obtain ⟨C2, P2, rfl, hC2, hcl2⟩ := HC.out.resolve_left (by have := HK1.out.n1; omega)
              have FQ : Hid (∀ w', Below W5.heap.size W5 w' → SipAt w' Cs Ps (ll + 1) As Os ll il ih p l ∧ C2 < w'.heap.size ∧ ClAt w' C2 P2 lk c ∧ g6 < w'.heap.size ∧ ClAt w' g6 0 (lk + 1) (moreC c lk z)) := Lib.hid fun w' h => by
                have h9 := HF5.out.trans (h.mono HF5.out.size)
                have hs : SipAt w Cs Ps (ll + 1) As Os ll il ih p l := ⟨hCs, hAs, hsp, hln, HSP.out.lp1, HSP.out.lp2, rfl, HSP.out.iok, HSP.out.pok, HSP.out.lok⟩
                exact ⟨hs.below h9, Nat.lt_of_lt_of_le hC2 h9.size, hcl2.below hC2 h9, Nat.lt_of_lt_of_le hg6 h.size, HCL.out.below hg6 h⟩
              have r1 := HSP.out.lp1
              have r2 := HSP.out.lp2
              have r3 := HK2.out.n2
              cases hch0 : cheap (sufL lk (cBu c (prOf il ih p)) l (cSt c) (cPr c) ll) with
              | none =>
                have hch := Lib.hid hch0
                clear hch0
                cases hch20 : cheap (sufL (lk + 1) (cBu (moreC c lk z) (prOf il ih p)) l (cSt (moreC c lk z)) (cPr (moreC c lk z)) ll) with
                | none =>
                  have hch2 := Lib.hid hch20
                  clear hch20
                  go_wp2_with (first
                    | (go_at_call 17; refine (rsiph_w _ _ _ _ _ _ _ _ p l _ (by omega) (by omega) (Lib.hid (FQ.out _ h).1.any)).mono ?_; rintro e wl ⟨⟨rb, rfl, hrb⟩, hv⟩; obtain rfl : rb = true := hrb.2 HSP.out; clear hrb; replace h := h.trans (hv.mono h.size); clear f0 f1 f2 f3; obtain ⟨f0, f1, f2, f3⟩ := FX.out _ h)
                    | (go_at_call_of 18 (some (Addr.mk g6 0 none)); refine (rcls_w _ _ _ (moreC c lk z) _ (by omega) (Lib.hid (.inr ⟨g6, 0, rfl, (FQ.out _ h).2.2.2.1, (FQ.out _ h).2.2.2.2⟩))).mono ?_; rintro e wl ⟨⟨rb, rfl, hrb⟩, rfl⟩; obtain rfl : rb = true := hrb.2 HK2.out; clear hrb)
                    | (go_at_call 18; refine (rcls_w _ _ _ c _ (by omega) (Lib.hid (.inr ⟨C2, P2, rfl, (FQ.out _ h).2.1, (FQ.out _ h).2.2.1⟩))).mono ?_; rintro e wl ⟨⟨rb, rfl, hrb⟩, rfl⟩; obtain rfl : rb = true := hrb.2 HK1.out; clear hrb)
                    | (go_at_call_of 22 (some (Addr.mk C2 P2 none)); refine (ppipes_n il ih _ _ _ _ _ ll _ p l C2 P2 lk ck c _ (Lib.hid (FQ.out _ h).1) (FQ.out _ h).2.1 (Lib.hid (FQ.out _ h).2.2.1) HK1 hch).mono ?_; rintro e wl ⟨rfl, hv⟩; replace h := h.trans (hv.mono h.size); clear f0 f1 f2 f3; obtain ⟨f0, f1, f2, f3⟩ := FX.out _ h)
                    | (go_at_call_of 22 (some (Addr.mk g6 0 none)); refine (ppipes_n il ih _ _ _ _ _ ll _ p l g6 0 (lk + 1) cap6 (moreC c lk z) _ (Lib.hid (FQ.out _ h).1) (FQ.out _ h).2.2.2.1 (Lib.hid (FQ.out _ h).2.2.2.2) HK2 hch2).mono ?_; rintro e wl ⟨rfl, hv⟩; replace h := h.trans (hv.mono h.size); clear f0 f1 f2 f3; obtain ⟨f0, f1, f2, f3⟩ := FX.out _ h)
                    | (go_at_call 9; refine (K.out _).mono ?_; rintro e wl ⟨rfl, hv⟩; have hB11 := h.trans (hv.mono h.size)))
                  go_ret
                  exact ⟨rfl, HF5.out.trans (hB11.mono HF5.out.size)⟩
                | some y2 =>
                  have hch2 := Lib.hid hch20
                  clear hch20
                  go_wp2_with (first
                    | (go_at_call 17; refine (rsiph_w _ _ _ _ _ _ _ _ p l _ (by omega) (by omega) (Lib.hid (FQ.out _ h).1.any)).mono ?_; rintro e wl ⟨⟨rb, rfl, hrb⟩, hv⟩; obtain rfl : rb = true := hrb.2 HSP.out; clear hrb; replace h := h.trans (hv.mono h.size); clear f0 f1 f2 f3; obtain ⟨f0, f1, f2, f3⟩ := FX.out _ h)
                    | (go_at_call_of 18 (some (Addr.mk g6 0 none)); refine (rcls_w _ _ _ (moreC c lk z) _ (by omega) (Lib.hid (.inr ⟨g6, 0, rfl, (FQ.out _ h).2.2.2.1, (FQ.out _ h).2.2.2.2⟩))).mono ?_; rintro e wl ⟨⟨rb, rfl, hrb⟩, rfl⟩; obtain rfl : rb = true := hrb.2 HK2.out; clear hrb)
                    | (go_at_call 18; refine (rcls_w _ _ _ c _ (by omega) (Lib.hid (.inr ⟨C2, P2, rfl, (FQ.out _ h).2.1, (FQ.out _ h).2.2.1⟩))).mono ?_; rintro e wl ⟨⟨rb, rfl, hrb⟩, rfl⟩; obtain rfl : rb = true := hrb.2 HK1.out; clear hrb)
                    | (go_at_call_of 22 (some (Addr.mk C2 P2 none)); refine (ppipes_n il ih _ _ _ _ _ ll _ p l C2 P2 lk ck c _ (Lib.hid (FQ.out _ h).1) (FQ.out _ h).2.1 (Lib.hid (FQ.out _ h).2.2.1) HK1 hch).mono ?_; rintro e wl ⟨rfl, hv⟩; replace h := h.trans (hv.mono h.size); clear f0 f1 f2 f3; obtain ⟨f0, f1, f2, f3⟩ := FX.out _ h)
                    | (go_at_call_of 22 (some (Addr.mk g6 0 none)); refine (ppipes_s il ih _ _ _ _ _ ll _ p l g6 0 (lk + 1) cap6 (moreC c lk z) y2 _ (Lib.hid (FQ.out _ h).1) (FQ.out _ h).2.2.2.1 (Lib.hid (FQ.out _ h).2.2.2.2) HK2 hch2).mono ?_; rintro e wl ⟨⟨gb, nb, cb, rfl⟩, hv⟩; replace h := h.trans (hv.mono h.size); clear f0 f1 f2 f3; obtain ⟨f0, f1, f2, f3⟩ := FX.out _ h)
                    | (go_at_call 9; refine (K.out _).mono ?_; rintro e wl ⟨rfl, hv⟩; have hB11 := h.trans (hv.mono h.size)))
                  go_ret
                  exact ⟨rfl, HF5.out.trans (hB11.mono HF5.out.size)⟩
              | some y =>
                have hch := Lib.hid hch0
                obtain ⟨y2, hy2, hle2⟩ := cheap_more (z := z) hch0
                have hch2 := Lib.hid hy2
                have hle3 : decide (y2.2 ≤ y.2) = true := decide_eq_true hle2
                clear hch0 hy2
                go_wp2_with (first
                  | (go_at_call 17; refine (rsiph_w _ _ _ _ _ _ _ _ p l _ (by omega) (by omega) (Lib.hid (FQ.out _ h).1.any)).mono ?_; rintro e wl ⟨⟨rb, rfl, hrb⟩, hv⟩; obtain rfl : rb = true := hrb.2 HSP.out; clear hrb; replace h := h.trans (hv.mono h.size); clear f0 f1 f2 f3; obtain ⟨f0, f1, f2, f3⟩ := FX.out _ h)
                  | (go_at_call_of 18 (some (Addr.mk g6 0 none)); refine (rcls_w _ _ _ (moreC c lk z) _ (by omega) (Lib.hid (.inr ⟨g6, 0, rfl, (FQ.out _ h).2.2.2.1, (FQ.out _ h).2.2.2.2⟩))).mono ?_; rintro e wl ⟨⟨rb, rfl, hrb⟩, rfl⟩; obtain rfl : rb = true := hrb.2 HK2.out; clear hrb)
                  | (go_at_call 18; refine (rcls_w _ _ _ c _ (by omega) (Lib.hid (.inr ⟨C2, P2, rfl, (FQ.out _ h).2.1, (FQ.out _ h).2.2.1⟩))).mono ?_; rintro e wl ⟨⟨rb, rfl, hrb⟩, rfl⟩; obtain rfl : rb = true := hrb.2 HK1.out; clear hrb)
                  | (go_at_call_of 22 (some (Addr.mk C2 P2 none)); refine (ppipes_s il ih _ _ _ _ _ ll _ p l C2 P2 lk ck c y _ (Lib.hid (FQ.out _ h).1) (FQ.out _ h).2.1 (Lib.hid (FQ.out _ h).2.2.1) HK1 hch).mono ?_; rintro e wl ⟨⟨ga, na, ca, rfl⟩, hv⟩; replace h := h.trans (hv.mono h.size); clear f0 f1 f2 f3; obtain ⟨f0, f1, f2, f3⟩ := FX.out _ h)
                  | (go_at_call_of 22 (some (Addr.mk g6 0 none)); refine (ppipes_s il ih _ _ _ _ _ ll _ p l g6 0 (lk + 1) cap6 (moreC c lk z) y2 _ (Lib.hid (FQ.out _ h).1) (FQ.out _ h).2.2.2.1 (Lib.hid (FQ.out _ h).2.2.2.2) HK2 hch2).mono ?_; rintro e wl ⟨⟨gb, nb, cb, rfl⟩, hv⟩; replace h := h.trans (hv.mono h.size); clear f0 f1 f2 f3; obtain ⟨f0, f1, f2, f3⟩ := FX.out _ h)
                  | (go_at_call 9; refine (K.out _).mono ?_; rintro e wl ⟨rfl, hv⟩; have hB11 := h.trans (hv.mono h.size)))
                go_ret
                exact ⟨rfl, HF5.out.trans (hB11.mono HF5.out.size)⟩
end Go.Kn
