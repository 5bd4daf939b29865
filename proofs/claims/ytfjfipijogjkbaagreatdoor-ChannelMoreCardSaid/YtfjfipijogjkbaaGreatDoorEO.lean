/- Walks of functions of layer 2 (contracts that the laws of this seat use). Conditions: as each theorem states them. -/
import Derived.Test.YtfjfipijogjkbaaGreatDoorEM
set_option linter.unusedVariables false
set_option linter.unusedSimpArgs false
namespace Go.Kn
open Go Go.Proofs Go.RowKit

theorem bx9 {w w1 : World} {x y p q r v a b c : Value} {T T1 T2 : TypeId} (hb : Below (((w.alloc (.cells #[x, y] T)).alloc (.cells #[p, q, r, v] T1)).alloc (.cells #[a, b, c] T2)).heap.size (((w.alloc (.cells #[x, y] T)).alloc (.cells #[p, q, r, v] T1)).alloc (.cells #[a, b, c] T2)) w1) :
    w1.cell? ⟨w.heap.size, 0, none⟩ = some x ∧ w1.cell? ⟨w.heap.size, 1, none⟩ = some y ∧ w1.cell? ⟨w.heap.size + 1, 0, none⟩ = some p ∧ w1.cell? ⟨w.heap.size + 1, 1, none⟩ = some q ∧ w1.cell? ⟨w.heap.size + 1, 2, none⟩ = some r ∧ w1.cell? ⟨w.heap.size + 1, 3, none⟩ = some v ∧
    w1.cell? ⟨w.heap.size + 1 + 1, 0, none⟩ = some a ∧ w1.cell? ⟨w.heap.size + 1 + 1, 1, none⟩ = some b ∧ w1.cell? ⟨w.heap.size + 1 + 1, 2, none⟩ = some c ∧ w.heap.size + 2 < w1.heap.size := by
  obtain ⟨hc, _⟩ := bcell hb
  have hz := hb.size
  simp at hz
  have h1 := World.alloc_heap_new w (.cells #[x, y] T)
  have h2 := World.alloc_heap_new (w.alloc (.cells #[x, y] T)) (.cells #[p, q, r, v] T1)
  have h3 := World.alloc_heap_new ((w.alloc (.cells #[x, y] T)).alloc (.cells #[p, q, r, v] T1)) (.cells #[a, b, c] T2)
  rw [World.size_alloc] at h2
  rw [World.size_alloc, World.size_alloc] at h3
  have k1 := fun o => (World.cell?_alloc_lt ((w.alloc (.cells #[x, y] T)).alloc (.cells #[p, q, r, v] T1)) (.cells #[a, b, c] T2) ⟨w.heap.size, o, none⟩ (by simp <;> omega)).trans (World.cell?_alloc_lt (w.alloc (.cells #[x, y] T)) (.cells #[p, q, r, v] T1) ⟨w.heap.size, o, none⟩ (by simp))
  have k2 := fun o => World.cell?_alloc_lt ((w.alloc (.cells #[x, y] T)).alloc (.cells #[p, q, r, v] T1)) (.cells #[a, b, c] T2) ⟨w.heap.size + 1, o, none⟩ (by simp)
  refine ⟨(hc _ _ (by simp <;> omega)).trans ((k1 _).trans ?_), (hc _ _ (by simp <;> omega)).trans ((k1 _).trans ?_), (hc _ _ (by simp <;> omega)).trans ((k2 _).trans ?_), (hc _ _ (by simp <;> omega)).trans ((k2 _).trans ?_), (hc _ _ (by simp <;> omega)).trans ((k2 _).trans ?_), (hc _ _ (by simp <;> omega)).trans ((k2 _).trans ?_), (hc _ _ (by simp <;> omega)).trans ?_, (hc _ _ (by simp <;> omega)).trans ?_, (hc _ _ (by simp <;> omega)).trans ?_, by omega⟩
  · unfold World.cell?; simp only []; rw [h1]; rfl
  · unfold World.cell?; simp only []; rw [h1]; rfl
  · unfold World.cell?; simp only []; rw [h2]; rfl
  · unfold World.cell?; simp only []; rw [h2]; rfl
  · unfold World.cell?; simp only []; rw [h2]; rfl
  · unfold World.cell?; simp only []; rw [h2]; rfl
  · unfold World.cell?; simp only []; rw [h3]; rfl
  · unfold World.cell?; simp only []; rw [h3]; rfl
  · unfold World.cell?; simp only []; rw [h3]; rfl

theorem NumSl.below2 {w w1 : World} {sa : Option Addr} {ls : Nat} {s : Nat → Int} (h : NumSl w sa ls s) (hb : Below w.heap.size w w1) : NumSl w1 sa ls s := IntSl.below h hb
theorem StSl.below2 {w w1 : World} {ta : Option Addr} {lt : Nat} {t : Nat → St5} (h : StSl w ta lt t) (hb : Below w.heap.size w w1) : StSl w1 ta lt t := by
  rcases h with h | ⟨A, O, h1, h2, h3⟩
  · exact .inl h
  · exact .inr ⟨A, O, h1, Nat.lt_of_lt_of_le h2 hb.size, h3.below h2 hb⟩
set_option maxRecDepth 100000 in
set_option maxHeartbeats 4000000 in
theorem lawmo_a1 (sa ta sq pa la ka : Option Addr) (ls cs lt ct lq cq lp cp ll cl lk ck : Nat) (s : Nat → Int) (t : Nat → St5) (g : Nat → Int) (p : Nat → Sp2) (l : Nat → Int) (c : Nat → Cl3) (z : Cl3) (st up down nd less il ih : Int) (w : World) (hls : ls ≤ maxLen) (hlt : lt ≤ maxLen) (hlq : lq ≤ maxLen) (hlp : lp ≤ maxLen) (hll : ll ≤ maxLen) (hlk : lk ≤ maxLen) (HA : Hid (NumSl w sa ls s)) (HT : Hid (StSl w ta lt t)) (HS : Hid (IntSl w sq lq g)) (K : Hid KnownOk') (hq1 : ¬ (ls ≤ 13 ∧ lt ≤ 10)) :
    Calls Tryz.prog 7 #[.agg #[.slice sa ls cs, .slice ta lt ct], .int .i64 st, .slice sq lq cq, .int .i64 up, .int .i64 down, .int .i64 nd, .int .i64 less, .agg #[.int .i64 il, .int .i64 ih, .slice pa lp cp, .slice la ll cl], .slice ka lk ck, .agg #[.int .i64 z.be, .int .i64 z.pr, .int .i64 z.st]] w
      fun e w' => e = .returned (.bool true) ∧ Below w.heap.size w w' := by
  have BX := Lib.hid (fun (w1 : World) (hb : Below (((w.alloc (.cells #[.slice sa ls cs, .slice ta lt ct] 25)).alloc (.cells #[.int .i64 il, .int .i64 ih, .slice pa lp cp, .slice la ll cl] 40)).alloc (.cells #[.int .i64 z.be, .int .i64 z.pr, .int .i64 z.st] 54)).heap.size (((w.alloc (.cells #[.slice sa ls cs, .slice ta lt ct] 25)).alloc (.cells #[.int .i64 il, .int .i64 ih, .slice pa lp cp, .slice la ll cl] 40)).alloc (.cells #[.int .i64 z.be, .int .i64 z.pr, .int .i64 z.st] 54)) w1) => bx9 hb)
  have hW : Below w.heap.size w (((w.alloc (.cells #[.slice sa ls cs, .slice ta lt ct] 25)).alloc (.cells #[.int .i64 il, .int .i64 ih, .slice pa lp cp, .slice la ll cl] 40)).alloc (.cells #[.int .i64 z.be, .int .i64 z.pr, .int .i64 z.st] 54)) := (((Below.refl _ _).alloc (Nat.le_refl _) _).alloc (by simp) _).alloc (by simp; omega) _
  have HWB : Hid (∀ w1, Below (((w.alloc (.cells #[.slice sa ls cs, .slice ta lt ct] 25)).alloc (.cells #[.int .i64 il, .int .i64 ih, .slice pa lp cp, .slice la ll cl] 40)).alloc (.cells #[.int .i64 z.be, .int .i64 z.pr, .int .i64 z.st] 54)).heap.size (((w.alloc (.cells #[.slice sa ls cs, .slice ta lt ct] 25)).alloc (.cells #[.int .i64 il, .int .i64 ih, .slice pa lp cp, .slice la ll cl] 40)).alloc (.cells #[.int .i64 z.be, .int .i64 z.pr, .int .i64 z.st] 54)) w1 → Below w.heap.size w w1) := Lib.hid fun w1 h => hW.trans (h.mono hW.size)
  have hb : Below (((w.alloc (.cells #[.slice sa ls cs, .slice ta lt ct] 25)).alloc (.cells #[.int .i64 il, .int .i64 ih, .slice pa lp cp, .slice la ll cl] 40)).alloc (.cells #[.int .i64 z.be, .int .i64 z.pr, .int .i64 z.st] 54)).heap.size (((w.alloc (.cells #[.slice sa ls cs, .slice ta lt ct] 25)).alloc (.cells #[.int .i64 il, .int .i64 ih, .slice pa lp cp, .slice la ll cl] 40)).alloc (.cells #[.int .i64 z.be, .int .i64 z.pr, .int .i64 z.st] 54)) (((w.alloc (.cells #[.slice sa ls cs, .slice ta lt ct] 25)).alloc (.cells #[.int .i64 il, .int .i64 ih, .slice pa lp cp, .slice la ll cl] 40)).alloc (.cells #[.int .i64 z.be, .int .i64 z.pr, .int .i64 z.st] 54)) := Below.refl _ _
  obtain ⟨x0, x1, x2, x3, x4, x5, x6, x7, x8, x9⟩ := BX.out _ hb
  clear hW
  have hlq2 := hlq; unfold maxLen at hlq2
  have hc1 : decide (ls ≤ 13 ∧ lt ≤ 10) = false := decide_eq_false hq1
  go_enter Tryz.func7, Tryz.ntmps7
  go_wp2_with (first
    | (go_at_call 8; refine (short_w _ _ _ _ _ _ _ hls hlt).mono ?_; rw [hc1]; rintro e wl ⟨rfl, hv⟩; replace hb := hb.trans (hv.mono hb.size); clear x0 x1 x2 x3 x4 x5 x6 x7 x8 x9; obtain ⟨x0, x1, x2, x3, x4, x5, x6, x7, x8, x9⟩ := BX.out _ hb)
    | (go_at_call 9; refine (K.out _).mono ?_; rintro e wl ⟨rfl, hv⟩; have hB11 := hb.trans (hv.mono hb.size)))
  go_ret
  exact ⟨rfl, HWB.out _ hB11⟩

set_option maxRecDepth 100000 in
set_option maxHeartbeats 4000000 in
theorem lawmo_a2 (sa ta sq pa la ka : Option Addr) (ls cs lt ct lq cq lp cp ll cl lk ck : Nat) (s : Nat → Int) (t : Nat → St5) (g : Nat → Int) (p : Nat → Sp2) (l : Nat → Int) (c : Nat → Cl3) (z : Cl3) (st up down nd less il ih : Int) (w : World) (hls : ls ≤ maxLen) (hlt : lt ≤ maxLen) (hlq : lq ≤ maxLen) (hlp : lp ≤ maxLen) (hll : ll ≤ maxLen) (hlk : lk ≤ maxLen) (HA : Hid (NumSl w sa ls s)) (HT : Hid (StSl w ta lt t)) (HS : Hid (IntSl w sq lq g)) (K : Hid KnownOk') (hq1 : ls ≤ 13 ∧ lt ≤ 10) (hq2 : ¬ lq ≤ 10) :
    Calls Tryz.prog 7 #[.agg #[.slice sa ls cs, .slice ta lt ct], .int .i64 st, .slice sq lq cq, .int .i64 up, .int .i64 down, .int .i64 nd, .int .i64 less, .agg #[.int .i64 il, .int .i64 ih, .slice pa lp cp, .slice la ll cl], .slice ka lk ck, .agg #[.int .i64 z.be, .int .i64 z.pr, .int .i64 z.st]] w
      fun e w' => e = .returned (.bool true) ∧ Below w.heap.size w w' := by
  have BX := Lib.hid (fun (w1 : World) (hb : Below (((w.alloc (.cells #[.slice sa ls cs, .slice ta lt ct] 25)).alloc (.cells #[.int .i64 il, .int .i64 ih, .slice pa lp cp, .slice la ll cl] 40)).alloc (.cells #[.int .i64 z.be, .int .i64 z.pr, .int .i64 z.st] 54)).heap.size (((w.alloc (.cells #[.slice sa ls cs, .slice ta lt ct] 25)).alloc (.cells #[.int .i64 il, .int .i64 ih, .slice pa lp cp, .slice la ll cl] 40)).alloc (.cells #[.int .i64 z.be, .int .i64 z.pr, .int .i64 z.st] 54)) w1) => bx9 hb)
  have hW : Below w.heap.size w (((w.alloc (.cells #[.slice sa ls cs, .slice ta lt ct] 25)).alloc (.cells #[.int .i64 il, .int .i64 ih, .slice pa lp cp, .slice la ll cl] 40)).alloc (.cells #[.int .i64 z.be, .int .i64 z.pr, .int .i64 z.st] 54)) := (((Below.refl _ _).alloc (Nat.le_refl _) _).alloc (by simp) _).alloc (by simp; omega) _
  have HWB : Hid (∀ w1, Below (((w.alloc (.cells #[.slice sa ls cs, .slice ta lt ct] 25)).alloc (.cells #[.int .i64 il, .int .i64 ih, .slice pa lp cp, .slice la ll cl] 40)).alloc (.cells #[.int .i64 z.be, .int .i64 z.pr, .int .i64 z.st] 54)).heap.size (((w.alloc (.cells #[.slice sa ls cs, .slice ta lt ct] 25)).alloc (.cells #[.int .i64 il, .int .i64 ih, .slice pa lp cp, .slice la ll cl] 40)).alloc (.cells #[.int .i64 z.be, .int .i64 z.pr, .int .i64 z.st] 54)) w1 → Below w.heap.size w w1) := Lib.hid fun w1 h => hW.trans (h.mono hW.size)
  have hb : Below (((w.alloc (.cells #[.slice sa ls cs, .slice ta lt ct] 25)).alloc (.cells #[.int .i64 il, .int .i64 ih, .slice pa lp cp, .slice la ll cl] 40)).alloc (.cells #[.int .i64 z.be, .int .i64 z.pr, .int .i64 z.st] 54)).heap.size (((w.alloc (.cells #[.slice sa ls cs, .slice ta lt ct] 25)).alloc (.cells #[.int .i64 il, .int .i64 ih, .slice pa lp cp, .slice la ll cl] 40)).alloc (.cells #[.int .i64 z.be, .int .i64 z.pr, .int .i64 z.st] 54)) (((w.alloc (.cells #[.slice sa ls cs, .slice ta lt ct] 25)).alloc (.cells #[.int .i64 il, .int .i64 ih, .slice pa lp cp, .slice la ll cl] 40)).alloc (.cells #[.int .i64 z.be, .int .i64 z.pr, .int .i64 z.st] 54)) := Below.refl _ _
  obtain ⟨x0, x1, x2, x3, x4, x5, x6, x7, x8, x9⟩ := BX.out _ hb
  clear hW
  have hlq2 := hlq; unfold maxLen at hlq2
  have hc1 : decide (ls ≤ 13 ∧ lt ≤ 10) = true := decide_eq_true hq1
  have hc2 : (10 : Int) < (lq : Int) := by omega
  go_enter Tryz.func7, Tryz.ntmps7
  go_wp2_with (first
    | (go_at_call 8; refine (short_w _ _ _ _ _ _ _ hls hlt).mono ?_; rw [hc1]; rintro e wl ⟨rfl, hv⟩; replace hb := hb.trans (hv.mono hb.size); clear x0 x1 x2 x3 x4 x5 x6 x7 x8 x9; obtain ⟨x0, x1, x2, x3, x4, x5, x6, x7, x8, x9⟩ := BX.out _ hb)
    | (go_at_call 9; refine (K.out _).mono ?_; rintro e wl ⟨rfl, hv⟩; have hB11 := hb.trans (hv.mono hb.size)))
  go_ret
  exact ⟨rfl, HWB.out _ hB11⟩

set_option maxRecDepth 100000 in
set_option maxHeartbeats 4000000 in
theorem lawmo_a3 (sa ta sq pa la ka : Option Addr) (ls cs lt ct lq cq lp cp ll cl lk ck : Nat) (s : Nat → Int) (t : Nat → St5) (g : Nat → Int) (p : Nat → Sp2) (l : Nat → Int) (c : Nat → Cl3) (z : Cl3) (st up down nd less il ih : Int) (w : World) (hls : ls ≤ maxLen) (hlt : lt ≤ maxLen) (hlq : lq ≤ maxLen) (hlp : lp ≤ maxLen) (hll : ll ≤ maxLen) (hlk : lk ≤ maxLen) (HA : Hid (NumSl w sa ls s)) (HT : Hid (StSl w ta lt t)) (HS : Hid (IntSl w sq lq g)) (K : Hid KnownOk') (hq1 : ls ≤ 13 ∧ lt ≤ 10) (hq2 : lq ≤ 10) (hq3 : ¬ (lp ≤ 10 ∧ ll ≤ 10 ∧ lk ≤ 6)) :
    Calls Tryz.prog 7 #[.agg #[.slice sa ls cs, .slice ta lt ct], .int .i64 st, .slice sq lq cq, .int .i64 up, .int .i64 down, .int .i64 nd, .int .i64 less, .agg #[.int .i64 il, .int .i64 ih, .slice pa lp cp, .slice la ll cl], .slice ka lk ck, .agg #[.int .i64 z.be, .int .i64 z.pr, .int .i64 z.st]] w
      fun e w' => e = .returned (.bool true) ∧ Below w.heap.size w w' := by
  have BX := Lib.hid (fun (w1 : World) (hb : Below (((w.alloc (.cells #[.slice sa ls cs, .slice ta lt ct] 25)).alloc (.cells #[.int .i64 il, .int .i64 ih, .slice pa lp cp, .slice la ll cl] 40)).alloc (.cells #[.int .i64 z.be, .int .i64 z.pr, .int .i64 z.st] 54)).heap.size (((w.alloc (.cells #[.slice sa ls cs, .slice ta lt ct] 25)).alloc (.cells #[.int .i64 il, .int .i64 ih, .slice pa lp cp, .slice la ll cl] 40)).alloc (.cells #[.int .i64 z.be, .int .i64 z.pr, .int .i64 z.st] 54)) w1) => bx9 hb)
  have hW : Below w.heap.size w (((w.alloc (.cells #[.slice sa ls cs, .slice ta lt ct] 25)).alloc (.cells #[.int .i64 il, .int .i64 ih, .slice pa lp cp, .slice la ll cl] 40)).alloc (.cells #[.int .i64 z.be, .int .i64 z.pr, .int .i64 z.st] 54)) := (((Below.refl _ _).alloc (Nat.le_refl _) _).alloc (by simp) _).alloc (by simp; omega) _
  have HWB : Hid (∀ w1, Below (((w.alloc (.cells #[.slice sa ls cs, .slice ta lt ct] 25)).alloc (.cells #[.int .i64 il, .int .i64 ih, .slice pa lp cp, .slice la ll cl] 40)).alloc (.cells #[.int .i64 z.be, .int .i64 z.pr, .int .i64 z.st] 54)).heap.size (((w.alloc (.cells #[.slice sa ls cs, .slice ta lt ct] 25)).alloc (.cells #[.int .i64 il, .int .i64 ih, .slice pa lp cp, .slice la ll cl] 40)).alloc (.cells #[.int .i64 z.be, .int .i64 z.pr, .int .i64 z.st] 54)) w1 → Below w.heap.size w w1) := Lib.hid fun w1 h => hW.trans (h.mono hW.size)
  have hb : Below (((w.alloc (.cells #[.slice sa ls cs, .slice ta lt ct] 25)).alloc (.cells #[.int .i64 il, .int .i64 ih, .slice pa lp cp, .slice la ll cl] 40)).alloc (.cells #[.int .i64 z.be, .int .i64 z.pr, .int .i64 z.st] 54)).heap.size (((w.alloc (.cells #[.slice sa ls cs, .slice ta lt ct] 25)).alloc (.cells #[.int .i64 il, .int .i64 ih, .slice pa lp cp, .slice la ll cl] 40)).alloc (.cells #[.int .i64 z.be, .int .i64 z.pr, .int .i64 z.st] 54)) (((w.alloc (.cells #[.slice sa ls cs, .slice ta lt ct] 25)).alloc (.cells #[.int .i64 il, .int .i64 ih, .slice pa lp cp, .slice la ll cl] 40)).alloc (.cells #[.int .i64 z.be, .int .i64 z.pr, .int .i64 z.st] 54)) := Below.refl _ _
  obtain ⟨x0, x1, x2, x3, x4, x5, x6, x7, x8, x9⟩ := BX.out _ hb
  clear hW
  have hlq2 := hlq; unfold maxLen at hlq2
  have hc1 : decide (ls ≤ 13 ∧ lt ≤ 10) = true := decide_eq_true hq1
  have hc2 : ¬ (10 : Int) < (lq : Int) := by omega
  have hc3 : decide (lp ≤ 10 ∧ ll ≤ 10 ∧ lk ≤ 6) = false := decide_eq_false hq3
  go_enter Tryz.func7, Tryz.ntmps7
  go_wp2_with (first
    | (go_at_call 8; refine (short_w _ _ _ _ _ _ _ hls hlt).mono ?_; rw [hc1]; rintro e wl ⟨rfl, hv⟩; replace hb := hb.trans (hv.mono hb.size); clear x0 x1 x2 x3 x4 x5 x6 x7 x8 x9; obtain ⟨x0, x1, x2, x3, x4, x5, x6, x7, x8, x9⟩ := BX.out _ hb)
    | (go_at_call 16; refine (slim_w _ _ _ _ _ _ _ _ _ _ _ _ hlp hll hlk).mono ?_; rw [hc3]; rintro e wl ⟨rfl, hv⟩; replace hb := hb.trans (hv.mono hb.size); clear x0 x1 x2 x3 x4 x5 x6 x7 x8 x9; obtain ⟨x0, x1, x2, x3, x4, x5, x6, x7, x8, x9⟩ := BX.out _ hb)
    | (go_at_call 9; refine (K.out _).mono ?_; rintro e wl ⟨rfl, hv⟩; have hB11 := hb.trans (hv.mono hb.size)))
  go_ret
  exact ⟨rfl, HWB.out _ hB11⟩

set_option maxRecDepth 100000 in
set_option maxHeartbeats 4000000 in
theorem lawmo_b1 (sa ta sq pa la ka : Option Addr) (ls cs lt ct lq cq lp cp ll cl lk ck : Nat) (s : Nat → Int) (t : Nat → St5) (g : Nat → Int) (p : Nat → Sp2) (l : Nat → Int) (c : Nat → Cl3) (z : Cl3) (st up down nd less il ih : Int) (w : World) (hls : ls ≤ maxLen) (hlt : lt ≤ maxLen) (hlq : lq ≤ maxLen) (hlp : lp ≤ maxLen) (hll : ll ≤ maxLen) (hlk : lk ≤ maxLen) (HA : Hid (NumSl w sa ls s)) (HT : Hid (StSl w ta lt t)) (HS : Hid (IntSl w sq lq g)) (K : Hid KnownOk') (hq1 : ls ≤ 13 ∧ lt ≤ 10) (hq2 : lq ≤ 10) (hq3 : lp ≤ 10 ∧ ll ≤ 10 ∧ lk ≤ 6) (HR : Hid (¬ RightP ls lt s t)) :
    Calls Tryz.prog 7 #[.agg #[.slice sa ls cs, .slice ta lt ct], .int .i64 st, .slice sq lq cq, .int .i64 up, .int .i64 down, .int .i64 nd, .int .i64 less, .agg #[.int .i64 il, .int .i64 ih, .slice pa lp cp, .slice la ll cl], .slice ka lk ck, .agg #[.int .i64 z.be, .int .i64 z.pr, .int .i64 z.st]] w
      fun e w' => e = .returned (.bool true) ∧ Below w.heap.size w w' := by
  have BX := Lib.hid (fun (w1 : World) (hb : Below (((w.alloc (.cells #[.slice sa ls cs, .slice ta lt ct] 25)).alloc (.cells #[.int .i64 il, .int .i64 ih, .slice pa lp cp, .slice la ll cl] 40)).alloc (.cells #[.int .i64 z.be, .int .i64 z.pr, .int .i64 z.st] 54)).heap.size (((w.alloc (.cells #[.slice sa ls cs, .slice ta lt ct] 25)).alloc (.cells #[.int .i64 il, .int .i64 ih, .slice pa lp cp, .slice la ll cl] 40)).alloc (.cells #[.int .i64 z.be, .int .i64 z.pr, .int .i64 z.st] 54)) w1) => bx9 hb)
  have hW : Below w.heap.size w (((w.alloc (.cells #[.slice sa ls cs, .slice ta lt ct] 25)).alloc (.cells #[.int .i64 il, .int .i64 ih, .slice pa lp cp, .slice la ll cl] 40)).alloc (.cells #[.int .i64 z.be, .int .i64 z.pr, .int .i64 z.st] 54)) := (((Below.refl _ _).alloc (Nat.le_refl _) _).alloc (by simp) _).alloc (by simp; omega) _
  have HWB : Hid (∀ w1, Below (((w.alloc (.cells #[.slice sa ls cs, .slice ta lt ct] 25)).alloc (.cells #[.int .i64 il, .int .i64 ih, .slice pa lp cp, .slice la ll cl] 40)).alloc (.cells #[.int .i64 z.be, .int .i64 z.pr, .int .i64 z.st] 54)).heap.size (((w.alloc (.cells #[.slice sa ls cs, .slice ta lt ct] 25)).alloc (.cells #[.int .i64 il, .int .i64 ih, .slice pa lp cp, .slice la ll cl] 40)).alloc (.cells #[.int .i64 z.be, .int .i64 z.pr, .int .i64 z.st] 54)) w1 → Below w.heap.size w w1) := Lib.hid fun w1 h => hW.trans (h.mono hW.size)
  have hb : Below (((w.alloc (.cells #[.slice sa ls cs, .slice ta lt ct] 25)).alloc (.cells #[.int .i64 il, .int .i64 ih, .slice pa lp cp, .slice la ll cl] 40)).alloc (.cells #[.int .i64 z.be, .int .i64 z.pr, .int .i64 z.st] 54)).heap.size (((w.alloc (.cells #[.slice sa ls cs, .slice ta lt ct] 25)).alloc (.cells #[.int .i64 il, .int .i64 ih, .slice pa lp cp, .slice la ll cl] 40)).alloc (.cells #[.int .i64 z.be, .int .i64 z.pr, .int .i64 z.st] 54)) (((w.alloc (.cells #[.slice sa ls cs, .slice ta lt ct] 25)).alloc (.cells #[.int .i64 il, .int .i64 ih, .slice pa lp cp, .slice la ll cl] 40)).alloc (.cells #[.int .i64 z.be, .int .i64 z.pr, .int .i64 z.st] 54)) := Below.refl _ _
  obtain ⟨x0, x1, x2, x3, x4, x5, x6, x7, x8, x9⟩ := BX.out _ hb
  clear hW
  have hlq2 := hlq; unfold maxLen at hlq2
  have hc1 : decide (ls ≤ 13 ∧ lt ≤ 10) = true := decide_eq_true hq1
  have hc2 : ¬ (10 : Int) < (lq : Int) := by omega
  have hc3 : decide (lp ≤ 10 ∧ ll ≤ 10 ∧ lk ≤ 6) = true := decide_eq_true hq3
  go_enter Tryz.func7, Tryz.ntmps7
  go_wp2_with (first
    | (go_at_call 8; refine (short_w _ _ _ _ _ _ _ hls hlt).mono ?_; rw [hc1]; rintro e wl ⟨rfl, hv⟩; replace hb := hb.trans (hv.mono hb.size); clear x0 x1 x2 x3 x4 x5 x6 x7 x8 x9; obtain ⟨x0, x1, x2, x3, x4, x5, x6, x7, x8, x9⟩ := BX.out _ hb)
    | (go_at_call 16; refine (slim_w _ _ _ _ _ _ _ _ _ _ _ _ hlp hll hlk).mono ?_; rw [hc3]; rintro e wl ⟨rfl, hv⟩; replace hb := hb.trans (hv.mono hb.size); clear x0 x1 x2 x3 x4 x5 x6 x7 x8 x9; obtain ⟨x0, x1, x2, x3, x4, x5, x6, x7, x8, x9⟩ := BX.out _ hb)
    | (go_at_call 12; refine (right_w _ _ _ _ _ _ s t _ (by omega) (by omega) (Lib.hid (HA.out.below2 (HWB.out _ hb))) (Lib.hid (HT.out.below2 (HWB.out _ hb)))).mono ?_; rintro e wl ⟨⟨rb, rfl, hrb⟩, hv⟩; obtain rfl : rb = false := (by cases rb <;> first | rfl | exact (HR.out (hrb.1 rfl)).elim); clear hrb; replace hb := hb.trans (hv.mono hb.size); clear x0 x1 x2 x3 x4 x5 x6 x7 x8 x9; obtain ⟨x0, x1, x2, x3, x4, x5, x6, x7, x8, x9⟩ := BX.out _ hb)
    | (go_at_call 9; refine (K.out _).mono ?_; rintro e wl ⟨rfl, hv⟩; have hB11 := hb.trans (hv.mono hb.size)))
  go_ret
  exact ⟨rfl, HWB.out _ hB11⟩

set_option maxRecDepth 100000 in
set_option maxHeartbeats 4000000 in
theorem lawmo_b2 (sa ta sq pa la ka : Option Addr) (ls cs lt ct lq cq lp cp ll cl lk ck : Nat) (s : Nat → Int) (t : Nat → St5) (g : Nat → Int) (p : Nat → Sp2) (l : Nat → Int) (c : Nat → Cl3) (z : Cl3) (st up down nd less il ih : Int) (w : World) (hls : ls ≤ maxLen) (hlt : lt ≤ maxLen) (hlq : lq ≤ maxLen) (hlp : lp ≤ maxLen) (hll : ll ≤ maxLen) (hlk : lk ≤ maxLen) (HA : Hid (NumSl w sa ls s)) (HT : Hid (StSl w ta lt t)) (HS : Hid (IntSl w sq lq g)) (K : Hid KnownOk') (hq1 : ls ≤ 13 ∧ lt ≤ 10) (hq2 : lq ≤ 10) (hq3 : lp ≤ 10 ∧ ll ≤ 10 ∧ lk ≤ 6) (HR : Hid (RightP ls lt s t)) (hc5 : fromB 0 ((lt : Int) - 1) st = false) :
    Calls Tryz.prog 7 #[.agg #[.slice sa ls cs, .slice ta lt ct], .int .i64 st, .slice sq lq cq, .int .i64 up, .int .i64 down, .int .i64 nd, .int .i64 less, .agg #[.int .i64 il, .int .i64 ih, .slice pa lp cp, .slice la ll cl], .slice ka lk ck, .agg #[.int .i64 z.be, .int .i64 z.pr, .int .i64 z.st]] w
      fun e w' => e = .returned (.bool true) ∧ Below w.heap.size w w' := by
  have BX := Lib.hid (fun (w1 : World) (hb : Below (((w.alloc (.cells #[.slice sa ls cs, .slice ta lt ct] 25)).alloc (.cells #[.int .i64 il, .int .i64 ih, .slice pa lp cp, .slice la ll cl] 40)).alloc (.cells #[.int .i64 z.be, .int .i64 z.pr, .int .i64 z.st] 54)).heap.size (((w.alloc (.cells #[.slice sa ls cs, .slice ta lt ct] 25)).alloc (.cells #[.int .i64 il, .int .i64 ih, .slice pa lp cp, .slice la ll cl] 40)).alloc (.cells #[.int .i64 z.be, .int .i64 z.pr, .int .i64 z.st] 54)) w1) => bx9 hb)
  have hW : Below w.heap.size w (((w.alloc (.cells #[.slice sa ls cs, .slice ta lt ct] 25)).alloc (.cells #[.int .i64 il, .int .i64 ih, .slice pa lp cp, .slice la ll cl] 40)).alloc (.cells #[.int .i64 z.be, .int .i64 z.pr, .int .i64 z.st] 54)) := (((Below.refl _ _).alloc (Nat.le_refl _) _).alloc (by simp) _).alloc (by simp; omega) _
  have HWB : Hid (∀ w1, Below (((w.alloc (.cells #[.slice sa ls cs, .slice ta lt ct] 25)).alloc (.cells #[.int .i64 il, .int .i64 ih, .slice pa lp cp, .slice la ll cl] 40)).alloc (.cells #[.int .i64 z.be, .int .i64 z.pr, .int .i64 z.st] 54)).heap.size (((w.alloc (.cells #[.slice sa ls cs, .slice ta lt ct] 25)).alloc (.cells #[.int .i64 il, .int .i64 ih, .slice pa lp cp, .slice la ll cl] 40)).alloc (.cells #[.int .i64 z.be, .int .i64 z.pr, .int .i64 z.st] 54)) w1 → Below w.heap.size w w1) := Lib.hid fun w1 h => hW.trans (h.mono hW.size)
  have hb : Below (((w.alloc (.cells #[.slice sa ls cs, .slice ta lt ct] 25)).alloc (.cells #[.int .i64 il, .int .i64 ih, .slice pa lp cp, .slice la ll cl] 40)).alloc (.cells #[.int .i64 z.be, .int .i64 z.pr, .int .i64 z.st] 54)).heap.size (((w.alloc (.cells #[.slice sa ls cs, .slice ta lt ct] 25)).alloc (.cells #[.int .i64 il, .int .i64 ih, .slice pa lp cp, .slice la ll cl] 40)).alloc (.cells #[.int .i64 z.be, .int .i64 z.pr, .int .i64 z.st] 54)) (((w.alloc (.cells #[.slice sa ls cs, .slice ta lt ct] 25)).alloc (.cells #[.int .i64 il, .int .i64 ih, .slice pa lp cp, .slice la ll cl] 40)).alloc (.cells #[.int .i64 z.be, .int .i64 z.pr, .int .i64 z.st] 54)) := Below.refl _ _
  obtain ⟨x0, x1, x2, x3, x4, x5, x6, x7, x8, x9⟩ := BX.out _ hb
  clear hW
  have hlq2 := hlq; unfold maxLen at hlq2
  have hc1 : decide (ls ≤ 13 ∧ lt ≤ 10) = true := decide_eq_true hq1
  have hc2 : ¬ (10 : Int) < (lq : Int) := by omega
  have hc3 : decide (lp ≤ 10 ∧ ll ≤ 10 ∧ lk ≤ 6) = true := decide_eq_true hq3
  go_enter Tryz.func7, Tryz.ntmps7
  go_wp2_with (first
    | (go_at_call 8; refine (short_w _ _ _ _ _ _ _ hls hlt).mono ?_; rw [hc1]; rintro e wl ⟨rfl, hv⟩; replace hb := hb.trans (hv.mono hb.size); clear x0 x1 x2 x3 x4 x5 x6 x7 x8 x9; obtain ⟨x0, x1, x2, x3, x4, x5, x6, x7, x8, x9⟩ := BX.out _ hb)
    | (go_at_call 16; refine (slim_w _ _ _ _ _ _ _ _ _ _ _ _ hlp hll hlk).mono ?_; rw [hc3]; rintro e wl ⟨rfl, hv⟩; replace hb := hb.trans (hv.mono hb.size); clear x0 x1 x2 x3 x4 x5 x6 x7 x8 x9; obtain ⟨x0, x1, x2, x3, x4, x5, x6, x7, x8, x9⟩ := BX.out _ hb)
    | (go_at_call 12; refine (right_w _ _ _ _ _ _ s t _ (by omega) (by omega) (Lib.hid (HA.out.below2 (HWB.out _ hb))) (Lib.hid (HT.out.below2 (HWB.out _ hb)))).mono ?_; rintro e wl ⟨⟨rb, rfl, hrb⟩, hv⟩; obtain rfl : rb = true := hrb.2 HR.out; clear hrb; replace hb := hb.trans (hv.mono hb.size); clear x0 x1 x2 x3 x4 x5 x6 x7 x8 x9; obtain ⟨x0, x1, x2, x3, x4, x5, x6, x7, x8, x9⟩ := BX.out _ hb)
    | (go_at_call 13; refine (number_w _ undef _ _ _ _ _ hlt).mono ?_; rw [hc5]; rintro e wl ⟨rfl, hv⟩; replace hb := hb.trans (hv.mono hb.size); clear x0 x1 x2 x3 x4 x5 x6 x7 x8 x9; obtain ⟨x0, x1, x2, x3, x4, x5, x6, x7, x8, x9⟩ := BX.out _ hb)
    | (go_at_call 9; refine (K.out _).mono ?_; rintro e wl ⟨rfl, hv⟩; have hB11 := hb.trans (hv.mono hb.size)))
  go_ret
  exact ⟨rfl, HWB.out _ hB11⟩

set_option maxRecDepth 100000 in
set_option maxHeartbeats 4000000 in
theorem lawmo_b3 (sa ta sq pa la ka : Option Addr) (ls cs lt ct lq cq lp cp ll cl lk ck : Nat) (s : Nat → Int) (t : Nat → St5) (g : Nat → Int) (p : Nat → Sp2) (l : Nat → Int) (c : Nat → Cl3) (z : Cl3) (st up down nd less il ih : Int) (w : World) (hls : ls ≤ maxLen) (hlt : lt ≤ maxLen) (hlq : lq ≤ maxLen) (hlp : lp ≤ maxLen) (hll : ll ≤ maxLen) (hlk : lk ≤ maxLen) (HA : Hid (NumSl w sa ls s)) (HT : Hid (StSl w ta lt t)) (HS : Hid (IntSl w sq lq g)) (K : Hid KnownOk') (hq1 : ls ≤ 13 ∧ lt ≤ 10) (hq2 : lq ≤ 10) (hq3 : lp ≤ 10 ∧ ll ≤ 10 ∧ lk ≤ 6) (HR : Hid (RightP ls lt s t)) (hc5 : fromB 0 ((lt : Int) - 1) st = true) (HQ : Hid (¬ AgeP lt lq g)) :
    Calls Tryz.prog 7 #[.agg #[.slice sa ls cs, .slice ta lt ct], .int .i64 st, .slice sq lq cq, .int .i64 up, .int .i64 down, .int .i64 nd, .int .i64 less, .agg #[.int .i64 il, .int .i64 ih, .slice pa lp cp, .slice la ll cl], .slice ka lk ck, .agg #[.int .i64 z.be, .int .i64 z.pr, .int .i64 z.st]] w
      fun e w' => e = .returned (.bool true) ∧ Below w.heap.size w w' := by
  have BX := Lib.hid (fun (w1 : World) (hb : Below (((w.alloc (.cells #[.slice sa ls cs, .slice ta lt ct] 25)).alloc (.cells #[.int .i64 il, .int .i64 ih, .slice pa lp cp, .slice la ll cl] 40)).alloc (.cells #[.int .i64 z.be, .int .i64 z.pr, .int .i64 z.st] 54)).heap.size (((w.alloc (.cells #[.slice sa ls cs, .slice ta lt ct] 25)).alloc (.cells #[.int .i64 il, .int .i64 ih, .slice pa lp cp, .slice la ll cl] 40)).alloc (.cells #[.int .i64 z.be, .int .i64 z.pr, .int .i64 z.st] 54)) w1) => bx9 hb)
  have hW : Below w.heap.size w (((w.alloc (.cells #[.slice sa ls cs, .slice ta lt ct] 25)).alloc (.cells #[.int .i64 il, .int .i64 ih, .slice pa lp cp, .slice la ll cl] 40)).alloc (.cells #[.int .i64 z.be, .int .i64 z.pr, .int .i64 z.st] 54)) := (((Below.refl _ _).alloc (Nat.le_refl _) _).alloc (by simp) _).alloc (by simp; omega) _
  have HWB : Hid (∀ w1, Below (((w.alloc (.cells #[.slice sa ls cs, .slice ta lt ct] 25)).alloc (.cells #[.int .i64 il, .int .i64 ih, .slice pa lp cp, .slice la ll cl] 40)).alloc (.cells #[.int .i64 z.be, .int .i64 z.pr, .int .i64 z.st] 54)).heap.size (((w.alloc (.cells #[.slice sa ls cs, .slice ta lt ct] 25)).alloc (.cells #[.int .i64 il, .int .i64 ih, .slice pa lp cp, .slice la ll cl] 40)).alloc (.cells #[.int .i64 z.be, .int .i64 z.pr, .int .i64 z.st] 54)) w1 → Below w.heap.size w w1) := Lib.hid fun w1 h => hW.trans (h.mono hW.size)
  have hb : Below (((w.alloc (.cells #[.slice sa ls cs, .slice ta lt ct] 25)).alloc (.cells #[.int .i64 il, .int .i64 ih, .slice pa lp cp, .slice la ll cl] 40)).alloc (.cells #[.int .i64 z.be, .int .i64 z.pr, .int .i64 z.st] 54)).heap.size (((w.alloc (.cells #[.slice sa ls cs, .slice ta lt ct] 25)).alloc (.cells #[.int .i64 il, .int .i64 ih, .slice pa lp cp, .slice la ll cl] 40)).alloc (.cells #[.int .i64 z.be, .int .i64 z.pr, .int .i64 z.st] 54)) (((w.alloc (.cells #[.slice sa ls cs, .slice ta lt ct] 25)).alloc (.cells #[.int .i64 il, .int .i64 ih, .slice pa lp cp, .slice la ll cl] 40)).alloc (.cells #[.int .i64 z.be, .int .i64 z.pr, .int .i64 z.st] 54)) := Below.refl _ _
  obtain ⟨x0, x1, x2, x3, x4, x5, x6, x7, x8, x9⟩ := BX.out _ hb
  clear hW
  have hlq2 := hlq; unfold maxLen at hlq2
  have hc1 : decide (ls ≤ 13 ∧ lt ≤ 10) = true := decide_eq_true hq1
  have hc2 : ¬ (10 : Int) < (lq : Int) := by omega
  have hc3 : decide (lp ≤ 10 ∧ ll ≤ 10 ∧ lk ≤ 6) = true := decide_eq_true hq3
  go_enter Tryz.func7, Tryz.ntmps7
  go_wp2_with (first
    | (go_at_call 8; refine (short_w _ _ _ _ _ _ _ hls hlt).mono ?_; rw [hc1]; rintro e wl ⟨rfl, hv⟩; replace hb := hb.trans (hv.mono hb.size); clear x0 x1 x2 x3 x4 x5 x6 x7 x8 x9; obtain ⟨x0, x1, x2, x3, x4, x5, x6, x7, x8, x9⟩ := BX.out _ hb)
    | (go_at_call 16; refine (slim_w _ _ _ _ _ _ _ _ _ _ _ _ hlp hll hlk).mono ?_; rw [hc3]; rintro e wl ⟨rfl, hv⟩; replace hb := hb.trans (hv.mono hb.size); clear x0 x1 x2 x3 x4 x5 x6 x7 x8 x9; obtain ⟨x0, x1, x2, x3, x4, x5, x6, x7, x8, x9⟩ := BX.out _ hb)
    | (go_at_call 12; refine (right_w _ _ _ _ _ _ s t _ (by omega) (by omega) (Lib.hid (HA.out.below2 (HWB.out _ hb))) (Lib.hid (HT.out.below2 (HWB.out _ hb)))).mono ?_; rintro e wl ⟨⟨rb, rfl, hrb⟩, hv⟩; obtain rfl : rb = true := hrb.2 HR.out; clear hrb; replace hb := hb.trans (hv.mono hb.size); clear x0 x1 x2 x3 x4 x5 x6 x7 x8 x9; obtain ⟨x0, x1, x2, x3, x4, x5, x6, x7, x8, x9⟩ := BX.out _ hb)
    | (go_at_call 13; refine (number_w _ undef _ _ _ _ _ hlt).mono ?_; rw [hc5]; rintro e wl ⟨rfl, hv⟩; replace hb := hb.trans (hv.mono hb.size); clear x0 x1 x2 x3 x4 x5 x6 x7 x8 x9; obtain ⟨x0, x1, x2, x3, x4, x5, x6, x7, x8, x9⟩ := BX.out _ hb)
    | (go_at_call 29; refine (refAges_w _ _ _ _ _ _ _ g _ (by omega) hlq (Lib.hid (HS.out.below (HWB.out _ hb)))).mono ?_; rintro e wl ⟨⟨rb, rfl, hrb⟩, hv⟩; obtain rfl : rb = false := (by cases rb <;> first | rfl | exact (HQ.out (hrb.1 rfl)).elim); clear hrb; replace hb := hb.trans (hv.mono hb.size); clear x0 x1 x2 x3 x4 x5 x6 x7 x8 x9; obtain ⟨x0, x1, x2, x3, x4, x5, x6, x7, x8, x9⟩ := BX.out _ hb)
    | (go_at_call 9; refine (K.out _).mono ?_; rintro e wl ⟨rfl, hv⟩; have hB11 := hb.trans (hv.mono hb.size)))
  go_ret
  exact ⟨rfl, HWB.out _ hB11⟩

set_option maxRecDepth 100000 in
set_option maxHeartbeats 4000000 in
theorem lawmo_c1 (sa ta sq pa la ka : Option Addr) (ls cs lt ct lq cq lp cp ll cl lk ck : Nat) (s : Nat → Int) (t : Nat → St5) (g : Nat → Int) (p : Nat → Sp2) (l : Nat → Int) (c : Nat → Cl3) (z : Cl3) (st up down nd less il ih : Int) (w : World) (hls : ls ≤ maxLen) (hlt : lt ≤ maxLen) (hlq : lq ≤ maxLen) (hlp : lp ≤ maxLen) (hll : ll ≤ maxLen) (hlk : lk ≤ maxLen) (HA : Hid (NumSl w sa ls s)) (HT : Hid (StSl w ta lt t)) (HS : Hid (IntSl w sq lq g)) (K : Hid KnownOk') (hq1 : ls ≤ 13 ∧ lt ≤ 10) (hq2 : lq ≤ 10) (hq3 : lp ≤ 10 ∧ ll ≤ 10 ∧ lk ≤ 6) (HR : Hid (RightP ls lt s t)) (hc5 : fromB 0 ((lt : Int) - 1) st = true) (HQ : Hid (AgeP lt lq g)) (hu1 : up < 0) :
    Calls Tryz.prog 7 #[.agg #[.slice sa ls cs, .slice ta lt ct], .int .i64 st, .slice sq lq cq, .int .i64 up, .int .i64 down, .int .i64 nd, .int .i64 less, .agg #[.int .i64 il, .int .i64 ih, .slice pa lp cp, .slice la ll cl], .slice ka lk ck, .agg #[.int .i64 z.be, .int .i64 z.pr, .int .i64 z.st]] w
      fun e w' => e = .returned (.bool true) ∧ Below w.heap.size w w' := by
  have BX := Lib.hid (fun (w1 : World) (hb : Below (((w.alloc (.cells #[.slice sa ls cs, .slice ta lt ct] 25)).alloc (.cells #[.int .i64 il, .int .i64 ih, .slice pa lp cp, .slice la ll cl] 40)).alloc (.cells #[.int .i64 z.be, .int .i64 z.pr, .int .i64 z.st] 54)).heap.size (((w.alloc (.cells #[.slice sa ls cs, .slice ta lt ct] 25)).alloc (.cells #[.int .i64 il, .int .i64 ih, .slice pa lp cp, .slice la ll cl] 40)).alloc (.cells #[.int .i64 z.be, .int .i64 z.pr, .int .i64 z.st] 54)) w1) => bx9 hb)
  have hW : Below w.heap.size w (((w.alloc (.cells #[.slice sa ls cs, .slice ta lt ct] 25)).alloc (.cells #[.int .i64 il, .int .i64 ih, .slice pa lp cp, .slice la ll cl] 40)).alloc (.cells #[.int .i64 z.be, .int .i64 z.pr, .int .i64 z.st] 54)) := (((Below.refl _ _).alloc (Nat.le_refl _) _).alloc (by simp) _).alloc (by simp; omega) _
  have HWB : Hid (∀ w1, Below (((w.alloc (.cells #[.slice sa ls cs, .slice ta lt ct] 25)).alloc (.cells #[.int .i64 il, .int .i64 ih, .slice pa lp cp, .slice la ll cl] 40)).alloc (.cells #[.int .i64 z.be, .int .i64 z.pr, .int .i64 z.st] 54)).heap.size (((w.alloc (.cells #[.slice sa ls cs, .slice ta lt ct] 25)).alloc (.cells #[.int .i64 il, .int .i64 ih, .slice pa lp cp, .slice la ll cl] 40)).alloc (.cells #[.int .i64 z.be, .int .i64 z.pr, .int .i64 z.st] 54)) w1 → Below w.heap.size w w1) := Lib.hid fun w1 h => hW.trans (h.mono hW.size)
  have hb : Below (((w.alloc (.cells #[.slice sa ls cs, .slice ta lt ct] 25)).alloc (.cells #[.int .i64 il, .int .i64 ih, .slice pa lp cp, .slice la ll cl] 40)).alloc (.cells #[.int .i64 z.be, .int .i64 z.pr, .int .i64 z.st] 54)).heap.size (((w.alloc (.cells #[.slice sa ls cs, .slice ta lt ct] 25)).alloc (.cells #[.int .i64 il, .int .i64 ih, .slice pa lp cp, .slice la ll cl] 40)).alloc (.cells #[.int .i64 z.be, .int .i64 z.pr, .int .i64 z.st] 54)) (((w.alloc (.cells #[.slice sa ls cs, .slice ta lt ct] 25)).alloc (.cells #[.int .i64 il, .int .i64 ih, .slice pa lp cp, .slice la ll cl] 40)).alloc (.cells #[.int .i64 z.be, .int .i64 z.pr, .int .i64 z.st] 54)) := Below.refl _ _
  obtain ⟨x0, x1, x2, x3, x4, x5, x6, x7, x8, x9⟩ := BX.out _ hb
  clear hW
  have hlq2 := hlq; unfold maxLen at hlq2
  have hc1 : decide (ls ≤ 13 ∧ lt ≤ 10) = true := decide_eq_true hq1
  have hc2 : ¬ (10 : Int) < (lq : Int) := by omega
  have hc3 : decide (lp ≤ 10 ∧ ll ≤ 10 ∧ lk ≤ 6) = true := decide_eq_true hq3
  go_enter Tryz.func7, Tryz.ntmps7
  go_wp2_with (first
    | (go_at_call 8; refine (short_w _ _ _ _ _ _ _ hls hlt).mono ?_; rw [hc1]; rintro e wl ⟨rfl, hv⟩; replace hb := hb.trans (hv.mono hb.size); clear x0 x1 x2 x3 x4 x5 x6 x7 x8 x9; obtain ⟨x0, x1, x2, x3, x4, x5, x6, x7, x8, x9⟩ := BX.out _ hb)
    | (go_at_call 16; refine (slim_w _ _ _ _ _ _ _ _ _ _ _ _ hlp hll hlk).mono ?_; rw [hc3]; rintro e wl ⟨rfl, hv⟩; replace hb := hb.trans (hv.mono hb.size); clear x0 x1 x2 x3 x4 x5 x6 x7 x8 x9; obtain ⟨x0, x1, x2, x3, x4, x5, x6, x7, x8, x9⟩ := BX.out _ hb)
    | (go_at_call 12; refine (right_w _ _ _ _ _ _ s t _ (by omega) (by omega) (Lib.hid (HA.out.below2 (HWB.out _ hb))) (Lib.hid (HT.out.below2 (HWB.out _ hb)))).mono ?_; rintro e wl ⟨⟨rb, rfl, hrb⟩, hv⟩; obtain rfl : rb = true := hrb.2 HR.out; clear hrb; replace hb := hb.trans (hv.mono hb.size); clear x0 x1 x2 x3 x4 x5 x6 x7 x8 x9; obtain ⟨x0, x1, x2, x3, x4, x5, x6, x7, x8, x9⟩ := BX.out _ hb)
    | (go_at_call 13; refine (number_w _ undef _ _ _ _ _ hlt).mono ?_; rw [hc5]; rintro e wl ⟨rfl, hv⟩; replace hb := hb.trans (hv.mono hb.size); clear x0 x1 x2 x3 x4 x5 x6 x7 x8 x9; obtain ⟨x0, x1, x2, x3, x4, x5, x6, x7, x8, x9⟩ := BX.out _ hb)
    | (go_at_call 29; refine (refAges_w _ _ _ _ _ _ _ g _ (by omega) hlq (Lib.hid (HS.out.below (HWB.out _ hb)))).mono ?_; rintro e wl ⟨⟨rb, rfl, hrb⟩, hv⟩; obtain rfl : rb = true := hrb.2 HQ.out; clear hrb; replace hb := hb.trans (hv.mono hb.size); clear x0 x1 x2 x3 x4 x5 x6 x7 x8 x9; obtain ⟨x0, x1, x2, x3, x4, x5, x6, x7, x8, x9⟩ := BX.out _ hb)
    | (go_at_call 9; refine (K.out _).mono ?_; rintro e wl ⟨rfl, hv⟩; have hB11 := hb.trans (hv.mono hb.size)))
  go_ret
  exact ⟨rfl, HWB.out _ hB11⟩

set_option maxRecDepth 100000 in
set_option maxHeartbeats 4000000 in
theorem lawmo_c2 (sa ta sq pa la ka : Option Addr) (ls cs lt ct lq cq lp cp ll cl lk ck : Nat) (s : Nat → Int) (t : Nat → St5) (g : Nat → Int) (p : Nat → Sp2) (l : Nat → Int) (c : Nat → Cl3) (z : Cl3) (st up down nd less il ih : Int) (w : World) (hls : ls ≤ maxLen) (hlt : lt ≤ maxLen) (hlq : lq ≤ maxLen) (hlp : lp ≤ maxLen) (hll : ll ≤ maxLen) (hlk : lk ≤ maxLen) (HA : Hid (NumSl w sa ls s)) (HT : Hid (StSl w ta lt t)) (HS : Hid (IntSl w sq lq g)) (K : Hid KnownOk') (hq1 : ls ≤ 13 ∧ lt ≤ 10) (hq2 : lq ≤ 10) (hq3 : lp ≤ 10 ∧ ll ≤ 10 ∧ lk ≤ 6) (HR : Hid (RightP ls lt s t)) (hc5 : fromB 0 ((lt : Int) - 1) st = true) (HQ : Hid (AgeP lt lq g)) (hu1 : ¬ up < 0) (hu2 : (100 : Int) < up) :
    Calls Tryz.prog 7 #[.agg #[.slice sa ls cs, .slice ta lt ct], .int .i64 st, .slice sq lq cq, .int .i64 up, .int .i64 down, .int .i64 nd, .int .i64 less, .agg #[.int .i64 il, .int .i64 ih, .slice pa lp cp, .slice la ll cl], .slice ka lk ck, .agg #[.int .i64 z.be, .int .i64 z.pr, .int .i64 z.st]] w
      fun e w' => e = .returned (.bool true) ∧ Below w.heap.size w w' := by
  have BX := Lib.hid (fun (w1 : World) (hb : Below (((w.alloc (.cells #[.slice sa ls cs, .slice ta lt ct] 25)).alloc (.cells #[.int .i64 il, .int .i64 ih, .slice pa lp cp, .slice la ll cl] 40)).alloc (.cells #[.int .i64 z.be, .int .i64 z.pr, .int .i64 z.st] 54)).heap.size (((w.alloc (.cells #[.slice sa ls cs, .slice ta lt ct] 25)).alloc (.cells #[.int .i64 il, .int .i64 ih, .slice pa lp cp, .slice la ll cl] 40)).alloc (.cells #[.int .i64 z.be, .int .i64 z.pr, .int .i64 z.st] 54)) w1) => bx9 hb)
  have hW : Below w.heap.size w (((w.alloc (.cells #[.slice sa ls cs, .slice ta lt ct] 25)).alloc (.cells #[.int .i64 il, .int .i64 ih, .slice pa lp cp, .slice la ll cl] 40)).alloc (.cells #[.int .i64 z.be, .int .i64 z.pr, .int .i64 z.st] 54)) := (((Below.refl _ _).alloc (Nat.le_refl _) _).alloc (by simp) _).alloc (by simp; omega) _
  have HWB : Hid (∀ w1, Below (((w.alloc (.cells #[.slice sa ls cs, .slice ta lt ct] 25)).alloc (.cells #[.int .i64 il, .int .i64 ih, .slice pa lp cp, .slice la ll cl] 40)).alloc (.cells #[.int .i64 z.be, .int .i64 z.pr, .int .i64 z.st] 54)).heap.size (((w.alloc (.cells #[.slice sa ls cs, .slice ta lt ct] 25)).alloc (.cells #[.int .i64 il, .int .i64 ih, .slice pa lp cp, .slice la ll cl] 40)).alloc (.cells #[.int .i64 z.be, .int .i64 z.pr, .int .i64 z.st] 54)) w1 → Below w.heap.size w w1) := Lib.hid fun w1 h => hW.trans (h.mono hW.size)
  have hb : Below (((w.alloc (.cells #[.slice sa ls cs, .slice ta lt ct] 25)).alloc (.cells #[.int .i64 il, .int .i64 ih, .slice pa lp cp, .slice la ll cl] 40)).alloc (.cells #[.int .i64 z.be, .int .i64 z.pr, .int .i64 z.st] 54)).heap.size (((w.alloc (.cells #[.slice sa ls cs, .slice ta lt ct] 25)).alloc (.cells #[.int .i64 il, .int .i64 ih, .slice pa lp cp, .slice la ll cl] 40)).alloc (.cells #[.int .i64 z.be, .int .i64 z.pr, .int .i64 z.st] 54)) (((w.alloc (.cells #[.slice sa ls cs, .slice ta lt ct] 25)).alloc (.cells #[.int .i64 il, .int .i64 ih, .slice pa lp cp, .slice la ll cl] 40)).alloc (.cells #[.int .i64 z.be, .int .i64 z.pr, .int .i64 z.st] 54)) := Below.refl _ _
  obtain ⟨x0, x1, x2, x3, x4, x5, x6, x7, x8, x9⟩ := BX.out _ hb
  clear hW
  have hlq2 := hlq; unfold maxLen at hlq2
  have hc1 : decide (ls ≤ 13 ∧ lt ≤ 10) = true := decide_eq_true hq1
  have hc2 : ¬ (10 : Int) < (lq : Int) := by omega
  have hc3 : decide (lp ≤ 10 ∧ ll ≤ 10 ∧ lk ≤ 6) = true := decide_eq_true hq3
  go_enter Tryz.func7, Tryz.ntmps7
  go_wp2_with (first
    | (go_at_call 8; refine (short_w _ _ _ _ _ _ _ hls hlt).mono ?_; rw [hc1]; rintro e wl ⟨rfl, hv⟩; replace hb := hb.trans (hv.mono hb.size); clear x0 x1 x2 x3 x4 x5 x6 x7 x8 x9; obtain ⟨x0, x1, x2, x3, x4, x5, x6, x7, x8, x9⟩ := BX.out _ hb)
    | (go_at_call 16; refine (slim_w _ _ _ _ _ _ _ _ _ _ _ _ hlp hll hlk).mono ?_; rw [hc3]; rintro e wl ⟨rfl, hv⟩; replace hb := hb.trans (hv.mono hb.size); clear x0 x1 x2 x3 x4 x5 x6 x7 x8 x9; obtain ⟨x0, x1, x2, x3, x4, x5, x6, x7, x8, x9⟩ := BX.out _ hb)
    | (go_at_call 12; refine (right_w _ _ _ _ _ _ s t _ (by omega) (by omega) (Lib.hid (HA.out.below2 (HWB.out _ hb))) (Lib.hid (HT.out.below2 (HWB.out _ hb)))).mono ?_; rintro e wl ⟨⟨rb, rfl, hrb⟩, hv⟩; obtain rfl : rb = true := hrb.2 HR.out; clear hrb; replace hb := hb.trans (hv.mono hb.size); clear x0 x1 x2 x3 x4 x5 x6 x7 x8 x9; obtain ⟨x0, x1, x2, x3, x4, x5, x6, x7, x8, x9⟩ := BX.out _ hb)
    | (go_at_call 13; refine (number_w _ undef _ _ _ _ _ hlt).mono ?_; rw [hc5]; rintro e wl ⟨rfl, hv⟩; replace hb := hb.trans (hv.mono hb.size); clear x0 x1 x2 x3 x4 x5 x6 x7 x8 x9; obtain ⟨x0, x1, x2, x3, x4, x5, x6, x7, x8, x9⟩ := BX.out _ hb)
    | (go_at_call 29; refine (refAges_w _ _ _ _ _ _ _ g _ (by omega) hlq (Lib.hid (HS.out.below (HWB.out _ hb)))).mono ?_; rintro e wl ⟨⟨rb, rfl, hrb⟩, hv⟩; obtain rfl : rb = true := hrb.2 HQ.out; clear hrb; replace hb := hb.trans (hv.mono hb.size); clear x0 x1 x2 x3 x4 x5 x6 x7 x8 x9; obtain ⟨x0, x1, x2, x3, x4, x5, x6, x7, x8, x9⟩ := BX.out _ hb)
    | (go_at_call 9; refine (K.out _).mono ?_; rintro e wl ⟨rfl, hv⟩; have hB11 := hb.trans (hv.mono hb.size)))
  go_ret
  exact ⟨rfl, HWB.out _ hB11⟩

set_option maxRecDepth 100000 in
set_option maxHeartbeats 4000000 in
theorem lawmo_c3 (sa ta sq pa la ka : Option Addr) (ls cs lt ct lq cq lp cp ll cl lk ck : Nat) (s : Nat → Int) (t : Nat → St5) (g : Nat → Int) (p : Nat → Sp2) (l : Nat → Int) (c : Nat → Cl3) (z : Cl3) (st up down nd less il ih : Int) (w : World) (hls : ls ≤ maxLen) (hlt : lt ≤ maxLen) (hlq : lq ≤ maxLen) (hlp : lp ≤ maxLen) (hll : ll ≤ maxLen) (hlk : lk ≤ maxLen) (HA : Hid (NumSl w sa ls s)) (HT : Hid (StSl w ta lt t)) (HS : Hid (IntSl w sq lq g)) (K : Hid KnownOk') (hq1 : ls ≤ 13 ∧ lt ≤ 10) (hq2 : lq ≤ 10) (hq3 : lp ≤ 10 ∧ ll ≤ 10 ∧ lk ≤ 6) (HR : Hid (RightP ls lt s t)) (hc5 : fromB 0 ((lt : Int) - 1) st = true) (HQ : Hid (AgeP lt lq g)) (hu1 : ¬ up < 0) (hu2 : ¬ (100 : Int) < up) (hd1 : down < 0) :
    Calls Tryz.prog 7 #[.agg #[.slice sa ls cs, .slice ta lt ct], .int .i64 st, .slice sq lq cq, .int .i64 up, .int .i64 down, .int .i64 nd, .int .i64 less, .agg #[.int .i64 il, .int .i64 ih, .slice pa lp cp, .slice la ll cl], .slice ka lk ck, .agg #[.int .i64 z.be, .int .i64 z.pr, .int .i64 z.st]] w
      fun e w' => e = .returned (.bool true) ∧ Below w.heap.size w w' := by
  have BX := Lib.hid (fun (w1 : World) (hb : Below (((w.alloc (.cells #[.slice sa ls cs, .slice ta lt ct] 25)).alloc (.cells #[.int .i64 il, .int .i64 ih, .slice pa lp cp, .slice la ll cl] 40)).alloc (.cells #[.int .i64 z.be, .int .i64 z.pr, .int .i64 z.st] 54)).heap.size (((w.alloc (.cells #[.slice sa ls cs, .slice ta lt ct] 25)).alloc (.cells #[.int .i64 il, .int .i64 ih, .slice pa lp cp, .slice la ll cl] 40)).alloc (.cells #[.int .i64 z.be, .int .i64 z.pr, .int .i64 z.st] 54)) w1) => bx9 hb)
  have hW : Below w.heap.size w (((w.alloc (.cells #[.slice sa ls cs, .slice ta lt ct] 25)).alloc (.cells #[.int .i64 il, .int .i64 ih, .slice pa lp cp, .slice la ll cl] 40)).alloc (.cells #[.int .i64 z.be, .int .i64 z.pr, .int .i64 z.st] 54)) := (((Below.refl _ _).alloc (Nat.le_refl _) _).alloc (by simp) _).alloc (by simp; omega) _
  have HWB : Hid (∀ w1, Below (((w.alloc (.cells #[.slice sa ls cs, .slice ta lt ct] 25)).alloc (.cells #[.int .i64 il, .int .i64 ih, .slice pa lp cp, .slice la ll cl] 40)).alloc (.cells #[.int .i64 z.be, .int .i64 z.pr, .int .i64 z.st] 54)).heap.size (((w.alloc (.cells #[.slice sa ls cs, .slice ta lt ct] 25)).alloc (.cells #[.int .i64 il, .int .i64 ih, .slice pa lp cp, .slice la ll cl] 40)).alloc (.cells #[.int .i64 z.be, .int .i64 z.pr, .int .i64 z.st] 54)) w1 → Below w.heap.size w w1) := Lib.hid fun w1 h => hW.trans (h.mono hW.size)
  have hb : Below (((w.alloc (.cells #[.slice sa ls cs, .slice ta lt ct] 25)).alloc (.cells #[.int .i64 il, .int .i64 ih, .slice pa lp cp, .slice la ll cl] 40)).alloc (.cells #[.int .i64 z.be, .int .i64 z.pr, .int .i64 z.st] 54)).heap.size (((w.alloc (.cells #[.slice sa ls cs, .slice ta lt ct] 25)).alloc (.cells #[.int .i64 il, .int .i64 ih, .slice pa lp cp, .slice la ll cl] 40)).alloc (.cells #[.int .i64 z.be, .int .i64 z.pr, .int .i64 z.st] 54)) (((w.alloc (.cells #[.slice sa ls cs, .slice ta lt ct] 25)).alloc (.cells #[.int .i64 il, .int .i64 ih, .slice pa lp cp, .slice la ll cl] 40)).alloc (.cells #[.int .i64 z.be, .int .i64 z.pr, .int .i64 z.st] 54)) := Below.refl _ _
  obtain ⟨x0, x1, x2, x3, x4, x5, x6, x7, x8, x9⟩ := BX.out _ hb
  clear hW
  have hlq2 := hlq; unfold maxLen at hlq2
  have hc1 : decide (ls ≤ 13 ∧ lt ≤ 10) = true := decide_eq_true hq1
  have hc2 : ¬ (10 : Int) < (lq : Int) := by omega
  have hc3 : decide (lp ≤ 10 ∧ ll ≤ 10 ∧ lk ≤ 6) = true := decide_eq_true hq3
  go_enter Tryz.func7, Tryz.ntmps7
  go_wp2_with (first
    | (go_at_call 8; refine (short_w _ _ _ _ _ _ _ hls hlt).mono ?_; rw [hc1]; rintro e wl ⟨rfl, hv⟩; replace hb := hb.trans (hv.mono hb.size); clear x0 x1 x2 x3 x4 x5 x6 x7 x8 x9; obtain ⟨x0, x1, x2, x3, x4, x5, x6, x7, x8, x9⟩ := BX.out _ hb)
    | (go_at_call 16; refine (slim_w _ _ _ _ _ _ _ _ _ _ _ _ hlp hll hlk).mono ?_; rw [hc3]; rintro e wl ⟨rfl, hv⟩; replace hb := hb.trans (hv.mono hb.size); clear x0 x1 x2 x3 x4 x5 x6 x7 x8 x9; obtain ⟨x0, x1, x2, x3, x4, x5, x6, x7, x8, x9⟩ := BX.out _ hb)
    | (go_at_call 12; refine (right_w _ _ _ _ _ _ s t _ (by omega) (by omega) (Lib.hid (HA.out.below2 (HWB.out _ hb))) (Lib.hid (HT.out.below2 (HWB.out _ hb)))).mono ?_; rintro e wl ⟨⟨rb, rfl, hrb⟩, hv⟩; obtain rfl : rb = true := hrb.2 HR.out; clear hrb; replace hb := hb.trans (hv.mono hb.size); clear x0 x1 x2 x3 x4 x5 x6 x7 x8 x9; obtain ⟨x0, x1, x2, x3, x4, x5, x6, x7, x8, x9⟩ := BX.out _ hb)
    | (go_at_call 13; refine (number_w _ undef _ _ _ _ _ hlt).mono ?_; rw [hc5]; rintro e wl ⟨rfl, hv⟩; replace hb := hb.trans (hv.mono hb.size); clear x0 x1 x2 x3 x4 x5 x6 x7 x8 x9; obtain ⟨x0, x1, x2, x3, x4, x5, x6, x7, x8, x9⟩ := BX.out _ hb)
    | (go_at_call 29; refine (refAges_w _ _ _ _ _ _ _ g _ (by omega) hlq (Lib.hid (HS.out.below (HWB.out _ hb)))).mono ?_; rintro e wl ⟨⟨rb, rfl, hrb⟩, hv⟩; obtain rfl : rb = true := hrb.2 HQ.out; clear hrb; replace hb := hb.trans (hv.mono hb.size); clear x0 x1 x2 x3 x4 x5 x6 x7 x8 x9; obtain ⟨x0, x1, x2, x3, x4, x5, x6, x7, x8, x9⟩ := BX.out _ hb)
    | (go_at_call 9; refine (K.out _).mono ?_; rintro e wl ⟨rfl, hv⟩; have hB11 := hb.trans (hv.mono hb.size)))
  go_ret
  exact ⟨rfl, HWB.out _ hB11⟩

set_option maxRecDepth 100000 in
set_option maxHeartbeats 4000000 in
theorem lawmo_c4 (sa ta sq pa la ka : Option Addr) (ls cs lt ct lq cq lp cp ll cl lk ck : Nat) (s : Nat → Int) (t : Nat → St5) (g : Nat → Int) (p : Nat → Sp2) (l : Nat → Int) (c : Nat → Cl3) (z : Cl3) (st up down nd less il ih : Int) (w : World) (hls : ls ≤ maxLen) (hlt : lt ≤ maxLen) (hlq : lq ≤ maxLen) (hlp : lp ≤ maxLen) (hll : ll ≤ maxLen) (hlk : lk ≤ maxLen) (HA : Hid (NumSl w sa ls s)) (HT : Hid (StSl w ta lt t)) (HS : Hid (IntSl w sq lq g)) (K : Hid KnownOk') (hq1 : ls ≤ 13 ∧ lt ≤ 10) (hq2 : lq ≤ 10) (hq3 : lp ≤ 10 ∧ ll ≤ 10 ∧ lk ≤ 6) (HR : Hid (RightP ls lt s t)) (hc5 : fromB 0 ((lt : Int) - 1) st = true) (HQ : Hid (AgeP lt lq g)) (hu1 : ¬ up < 0) (hu2 : ¬ (100 : Int) < up) (hd1 : ¬ down < 0) (hd2 : (100 : Int) < down) :
    Calls Tryz.prog 7 #[.agg #[.slice sa ls cs, .slice ta lt ct], .int .i64 st, .slice sq lq cq, .int .i64 up, .int .i64 down, .int .i64 nd, .int .i64 less, .agg #[.int .i64 il, .int .i64 ih, .slice pa lp cp, .slice la ll cl], .slice ka lk ck, .agg #[.int .i64 z.be, .int .i64 z.pr, .int .i64 z.st]] w
      fun e w' => e = .returned (.bool true) ∧ Below w.heap.size w w' := by
  have BX := Lib.hid (fun (w1 : World) (hb : Below (((w.alloc (.cells #[.slice sa ls cs, .slice ta lt ct] 25)).alloc (.cells #[.int .i64 il, .int .i64 ih, .slice pa lp cp, .slice la ll cl] 40)).alloc (.cells #[.int .i64 z.be, .int .i64 z.pr, .int .i64 z.st] 54)).heap.size (((w.alloc (.cells #[.slice sa ls cs, .slice ta lt ct] 25)).alloc (.cells #[.int .i64 il, .int .i64 ih, .slice pa lp cp, .slice la ll cl] 40)).alloc (.cells #[.int .i64 z.be, .int .i64 z.pr, .int .i64 z.st] 54)) w1) => bx9 hb)
  have hW : Below w.heap.size w (((w.alloc (.cells #[.slice sa ls cs, .slice ta lt ct] 25)).alloc (.cells #[.int .i64 il, .int .i64 ih, .slice pa lp cp, .slice la ll cl] 40)).alloc (.cells #[.int .i64 z.be, .int .i64 z.pr, .int .i64 z.st] 54)) := (((Below.refl _ _).alloc (Nat.le_refl _) _).alloc (by simp) _).alloc (by simp; omega) _
  have HWB : Hid (∀ w1, Below (((w.alloc (.cells #[.slice sa ls cs, .slice ta lt ct] 25)).alloc (.cells #[.int .i64 il, .int .i64 ih, .slice pa lp cp, .slice la ll cl] 40)).alloc (.cells #[.int .i64 z.be, .int .i64 z.pr, .int .i64 z.st] 54)).heap.size (((w.alloc (.cells #[.slice sa ls cs, .slice ta lt ct] 25)).alloc (.cells #[.int .i64 il, .int .i64 ih, .slice pa lp cp, .slice la ll cl] 40)).alloc (.cells #[.int .i64 z.be, .int .i64 z.pr, .int .i64 z.st] 54)) w1 → Below w.heap.size w w1) := Lib.hid fun w1 h => hW.trans (h.mono hW.size)
  have hb : Below (((w.alloc (.cells #[.slice sa ls cs, .slice ta lt ct] 25)).alloc (.cells #[.int .i64 il, .int .i64 ih, .slice pa lp cp, .slice la ll cl] 40)).alloc (.cells #[.int .i64 z.be, .int .i64 z.pr, .int .i64 z.st] 54)).heap.size (((w.alloc (.cells #[.slice sa ls cs, .slice ta lt ct] 25)).alloc (.cells #[.int .i64 il, .int .i64 ih, .slice pa lp cp, .slice la ll cl] 40)).alloc (.cells #[.int .i64 z.be, .int .i64 z.pr, .int .i64 z.st] 54)) (((w.alloc (.cells #[.slice sa ls cs, .slice ta lt ct] 25)).alloc (.cells #[.int .i64 il, .int .i64 ih, .slice pa lp cp, .slice la ll cl] 40)).alloc (.cells #[.int .i64 z.be, .int .i64 z.pr, .int .i64 z.st] 54)) := Below.refl _ _
  obtain ⟨x0, x1, x2, x3, x4, x5, x6, x7, x8, x9⟩ := BX.out _ hb
  clear hW
  have hlq2 := hlq; unfold maxLen at hlq2
  have hc1 : decide (ls ≤ 13 ∧ lt ≤ 10) = true := decide_eq_true hq1
  have hc2 : ¬ (10 : Int) < (lq : Int) := by omega
  have hc3 : decide (lp ≤ 10 ∧ ll ≤ 10 ∧ lk ≤ 6) = true := decide_eq_true hq3
  go_enter Tryz.func7, Tryz.ntmps7
  go_wp2_with (first
    | (go_at_call 8; refine (short_w _ _ _ _ _ _ _ hls hlt).mono ?_; rw [hc1]; rintro e wl ⟨rfl, hv⟩; replace hb := hb.trans (hv.mono hb.size); clear x0 x1 x2 x3 x4 x5 x6 x7 x8 x9; obtain ⟨x0, x1, x2, x3, x4, x5, x6, x7, x8, x9⟩ := BX.out _ hb)
    | (go_at_call 16; refine (slim_w _ _ _ _ _ _ _ _ _ _ _ _ hlp hll hlk).mono ?_; rw [hc3]; rintro e wl ⟨rfl, hv⟩; replace hb := hb.trans (hv.mono hb.size); clear x0 x1 x2 x3 x4 x5 x6 x7 x8 x9; obtain ⟨x0, x1, x2, x3, x4, x5, x6, x7, x8, x9⟩ := BX.out _ hb)
    | (go_at_call 12; refine (right_w _ _ _ _ _ _ s t _ (by omega) (by omega) (Lib.hid (HA.out.below2 (HWB.out _ hb))) (Lib.hid (HT.out.below2 (HWB.out _ hb)))).mono ?_; rintro e wl ⟨⟨rb, rfl, hrb⟩, hv⟩; obtain rfl : rb = true := hrb.2 HR.out; clear hrb; replace hb := hb.trans (hv.mono hb.size); clear x0 x1 x2 x3 x4 x5 x6 x7 x8 x9; obtain ⟨x0, x1, x2, x3, x4, x5, x6, x7, x8, x9⟩ := BX.out _ hb)
    | (go_at_call 13; refine (number_w _ undef _ _ _ _ _ hlt).mono ?_; rw [hc5]; rintro e wl ⟨rfl, hv⟩; replace hb := hb.trans (hv.mono hb.size); clear x0 x1 x2 x3 x4 x5 x6 x7 x8 x9; obtain ⟨x0, x1, x2, x3, x4, x5, x6, x7, x8, x9⟩ := BX.out _ hb)
    | (go_at_call 29; refine (refAges_w _ _ _ _ _ _ _ g _ (by omega) hlq (Lib.hid (HS.out.below (HWB.out _ hb)))).mono ?_; rintro e wl ⟨⟨rb, rfl, hrb⟩, hv⟩; obtain rfl : rb = true := hrb.2 HQ.out; clear hrb; replace hb := hb.trans (hv.mono hb.size); clear x0 x1 x2 x3 x4 x5 x6 x7 x8 x9; obtain ⟨x0, x1, x2, x3, x4, x5, x6, x7, x8, x9⟩ := BX.out _ hb)
    | (go_at_call 9; refine (K.out _).mono ?_; rintro e wl ⟨rfl, hv⟩; have hB11 := hb.trans (hv.mono hb.size)))
  go_ret
  exact ⟨rfl, HWB.out _ hB11⟩

set_option maxRecDepth 100000 in
set_option maxHeartbeats 4000000 in
theorem lawmo_d (sa ta sq pa la ka : Option Addr) (ls cs lt ct lq cq lp cp ll cl lk ck : Nat) (s : Nat → Int) (t : Nat → St5) (g : Nat → Int) (p : Nat → Sp2) (l : Nat → Int) (c : Nat → Cl3) (z : Cl3) (st up down nd less il ih : Int) (w : World) (hls : ls ≤ maxLen) (hlt : lt ≤ maxLen) (hlq : lq ≤ maxLen) (hlp : lp ≤ maxLen) (hll : ll ≤ maxLen) (hlk : lk ≤ maxLen) (HA : Hid (NumSl w sa ls s)) (HT : Hid (StSl w ta lt t)) (HS : Hid (IntSl w sq lq g)) (K : Hid KnownOk') (hq1 : ls ≤ 13 ∧ lt ≤ 10) (hq2 : lq ≤ 10) (hq3 : lp ≤ 10 ∧ ll ≤ 10 ∧ lk ≤ 6) (HR : Hid (RightP ls lt s t)) (hc5 : fromB 0 ((lt : Int) - 1) st = true) (HQ : Hid (AgeP lt lq g)) (hu1 : ¬ up < 0) (hu2 : ¬ (100 : Int) < up) (hd1 : ¬ down < 0) (hd2 : ¬ (100 : Int) < down) (hcn : fromB 1 10000000 nd = false) :
    Calls Tryz.prog 7 #[.agg #[.slice sa ls cs, .slice ta lt ct], .int .i64 st, .slice sq lq cq, .int .i64 up, .int .i64 down, .int .i64 nd, .int .i64 less, .agg #[.int .i64 il, .int .i64 ih, .slice pa lp cp, .slice la ll cl], .slice ka lk ck, .agg #[.int .i64 z.be, .int .i64 z.pr, .int .i64 z.st]] w
      fun e w' => e = .returned (.bool true) ∧ Below w.heap.size w w' := by
  have BX := Lib.hid (fun (w1 : World) (hb : Below (((w.alloc (.cells #[.slice sa ls cs, .slice ta lt ct] 25)).alloc (.cells #[.int .i64 il, .int .i64 ih, .slice pa lp cp, .slice la ll cl] 40)).alloc (.cells #[.int .i64 z.be, .int .i64 z.pr, .int .i64 z.st] 54)).heap.size (((w.alloc (.cells #[.slice sa ls cs, .slice ta lt ct] 25)).alloc (.cells #[.int .i64 il, .int .i64 ih, .slice pa lp cp, .slice la ll cl] 40)).alloc (.cells #[.int .i64 z.be, .int .i64 z.pr, .int .i64 z.st] 54)) w1) => bx9 hb)
  have hW : Below w.heap.size w (((w.alloc (.cells #[.slice sa ls cs, .slice ta lt ct] 25)).alloc (.cells #[.int .i64 il, .int .i64 ih, .slice pa lp cp, .slice la ll cl] 40)).alloc (.cells #[.int .i64 z.be, .int .i64 z.pr, .int .i64 z.st] 54)) := (((Below.refl _ _).alloc (Nat.le_refl _) _).alloc (by simp) _).alloc (by simp; omega) _
  have HWB : Hid (∀ w1, Below (((w.alloc (.cells #[.slice sa ls cs, .slice ta lt ct] 25)).alloc (.cells #[.int .i64 il, .int .i64 ih, .slice pa lp cp, .slice la ll cl] 40)).alloc (.cells #[.int .i64 z.be, .int .i64 z.pr, .int .i64 z.st] 54)).heap.size (((w.alloc (.cells #[.slice sa ls cs, .slice ta lt ct] 25)).alloc (.cells #[.int .i64 il, .int .i64 ih, .slice pa lp cp, .slice la ll cl] 40)).alloc (.cells #[.int .i64 z.be, .int .i64 z.pr, .int .i64 z.st] 54)) w1 → Below w.heap.size w w1) := Lib.hid fun w1 h => hW.trans (h.mono hW.size)
  have hb : Below (((w.alloc (.cells #[.slice sa ls cs, .slice ta lt ct] 25)).alloc (.cells #[.int .i64 il, .int .i64 ih, .slice pa lp cp, .slice la ll cl] 40)).alloc (.cells #[.int .i64 z.be, .int .i64 z.pr, .int .i64 z.st] 54)).heap.size (((w.alloc (.cells #[.slice sa ls cs, .slice ta lt ct] 25)).alloc (.cells #[.int .i64 il, .int .i64 ih, .slice pa lp cp, .slice la ll cl] 40)).alloc (.cells #[.int .i64 z.be, .int .i64 z.pr, .int .i64 z.st] 54)) (((w.alloc (.cells #[.slice sa ls cs, .slice ta lt ct] 25)).alloc (.cells #[.int .i64 il, .int .i64 ih, .slice pa lp cp, .slice la ll cl] 40)).alloc (.cells #[.int .i64 z.be, .int .i64 z.pr, .int .i64 z.st] 54)) := Below.refl _ _
  obtain ⟨x0, x1, x2, x3, x4, x5, x6, x7, x8, x9⟩ := BX.out _ hb
  clear hW
  have hlq2 := hlq; unfold maxLen at hlq2
  have hc1 : decide (ls ≤ 13 ∧ lt ≤ 10) = true := decide_eq_true hq1
  have hc2 : ¬ (10 : Int) < (lq : Int) := by omega
  have hc3 : decide (lp ≤ 10 ∧ ll ≤ 10 ∧ lk ≤ 6) = true := decide_eq_true hq3
  go_enter Tryz.func7, Tryz.ntmps7
  go_wp2_with (first
    | (go_at_call 8; refine (short_w _ _ _ _ _ _ _ hls hlt).mono ?_; rw [hc1]; rintro e wl ⟨rfl, hv⟩; replace hb := hb.trans (hv.mono hb.size); clear x0 x1 x2 x3 x4 x5 x6 x7 x8 x9; obtain ⟨x0, x1, x2, x3, x4, x5, x6, x7, x8, x9⟩ := BX.out _ hb)
    | (go_at_call 16; refine (slim_w _ _ _ _ _ _ _ _ _ _ _ _ hlp hll hlk).mono ?_; rw [hc3]; rintro e wl ⟨rfl, hv⟩; replace hb := hb.trans (hv.mono hb.size); clear x0 x1 x2 x3 x4 x5 x6 x7 x8 x9; obtain ⟨x0, x1, x2, x3, x4, x5, x6, x7, x8, x9⟩ := BX.out _ hb)
    | (go_at_call 12; refine (right_w _ _ _ _ _ _ s t _ (by omega) (by omega) (Lib.hid (HA.out.below2 (HWB.out _ hb))) (Lib.hid (HT.out.below2 (HWB.out _ hb)))).mono ?_; rintro e wl ⟨⟨rb, rfl, hrb⟩, hv⟩; obtain rfl : rb = true := hrb.2 HR.out; clear hrb; replace hb := hb.trans (hv.mono hb.size); clear x0 x1 x2 x3 x4 x5 x6 x7 x8 x9; obtain ⟨x0, x1, x2, x3, x4, x5, x6, x7, x8, x9⟩ := BX.out _ hb)
    | (go_at_call 13; refine (number_w _ undef _ _ _ _ _ hlt).mono ?_; rw [hc5]; rintro e wl ⟨rfl, hv⟩; replace hb := hb.trans (hv.mono hb.size); clear x0 x1 x2 x3 x4 x5 x6 x7 x8 x9; obtain ⟨x0, x1, x2, x3, x4, x5, x6, x7, x8, x9⟩ := BX.out _ hb)
    | (go_at_call 29; refine (refAges_w _ _ _ _ _ _ _ g _ (by omega) hlq (Lib.hid (HS.out.below (HWB.out _ hb)))).mono ?_; rintro e wl ⟨⟨rb, rfl, hrb⟩, hv⟩; obtain rfl : rb = true := hrb.2 HQ.out; clear hrb; replace hb := hb.trans (hv.mono hb.size); clear x0 x1 x2 x3 x4 x5 x6 x7 x8 x9; obtain ⟨x0, x1, x2, x3, x4, x5, x6, x7, x8, x9⟩ := BX.out _ hb)
    | (go_at_call 30; refine (need_w _ _).mono ?_; rw [hcn]; rintro e w' ⟨rfl, rfl⟩)
    | (go_at_call 9; refine (K.out _).mono ?_; rintro e wl ⟨rfl, hv⟩; have hB11 := hb.trans (hv.mono hb.size)))
  go_ret
  exact ⟨rfl, HWB.out _ hB11⟩

set_option maxRecDepth 100000 in
set_option maxHeartbeats 4000000 in
theorem lawmo_e1 (sa ta sq pa la ka : Option Addr) (ls cs lt ct lq cq lp cp ll cl lk ck : Nat) (s : Nat → Int) (t : Nat → St5) (g : Nat → Int) (p : Nat → Sp2) (l : Nat → Int) (c : Nat → Cl3) (z : Cl3) (st up down nd less il ih : Int) (w : World) (hls : ls ≤ maxLen) (hlt : lt ≤ maxLen) (hlq : lq ≤ maxLen) (hlp : lp ≤ maxLen) (hll : ll ≤ maxLen) (hlk : lk ≤ maxLen) (HA : Hid (NumSl w sa ls s)) (HT : Hid (StSl w ta lt t)) (HS : Hid (IntSl w sq lq g)) (K : Hid KnownOk') (hq1 : ls ≤ 13 ∧ lt ≤ 10) (hq2 : lq ≤ 10) (hq3 : lp ≤ 10 ∧ ll ≤ 10 ∧ lk ≤ 6) (HR : Hid (RightP ls lt s t)) (hc5 : fromB 0 ((lt : Int) - 1) st = true) (HQ : Hid (AgeP lt lq g)) (hu1 : ¬ up < 0) (hu2 : ¬ (100 : Int) < up) (hd1 : ¬ down < 0) (hd2 : ¬ (100 : Int) < down) (hcn : fromB 1 10000000 nd = true) (he1 : less < 0) :
    Calls Tryz.prog 7 #[.agg #[.slice sa ls cs, .slice ta lt ct], .int .i64 st, .slice sq lq cq, .int .i64 up, .int .i64 down, .int .i64 nd, .int .i64 less, .agg #[.int .i64 il, .int .i64 ih, .slice pa lp cp, .slice la ll cl], .slice ka lk ck, .agg #[.int .i64 z.be, .int .i64 z.pr, .int .i64 z.st]] w
      fun e w' => e = .returned (.bool true) ∧ Below w.heap.size w w' := by
  have BX := Lib.hid (fun (w1 : World) (hb : Below (((w.alloc (.cells #[.slice sa ls cs, .slice ta lt ct] 25)).alloc (.cells #[.int .i64 il, .int .i64 ih, .slice pa lp cp, .slice la ll cl] 40)).alloc (.cells #[.int .i64 z.be, .int .i64 z.pr, .int .i64 z.st] 54)).heap.size (((w.alloc (.cells #[.slice sa ls cs, .slice ta lt ct] 25)).alloc (.cells #[.int .i64 il, .int .i64 ih, .slice pa lp cp, .slice la ll cl] 40)).alloc (.cells #[.int .i64 z.be, .int .i64 z.pr, .int .i64 z.st] 54)) w1) => bx9 hb)
  have hW : Below w.heap.size w (((w.alloc (.cells #[.slice sa ls cs, .slice ta lt ct] 25)).alloc (.cells #[.int .i64 il, .int .i64 ih, .slice pa lp cp, .slice la ll cl] 40)).alloc (.cells #[.int .i64 z.be, .int .i64 z.pr, .int .i64 z.st] 54)) := (((Below.refl _ _).alloc (Nat.le_refl _) _).alloc (by simp) _).alloc (by simp; omega) _
  have HWB : Hid (∀ w1, Below (((w.alloc (.cells #[.slice sa ls cs, .slice ta lt ct] 25)).alloc (.cells #[.int .i64 il, .int .i64 ih, .slice pa lp cp, .slice la ll cl] 40)).alloc (.cells #[.int .i64 z.be, .int .i64 z.pr, .int .i64 z.st] 54)).heap.size (((w.alloc (.cells #[.slice sa ls cs, .slice ta lt ct] 25)).alloc (.cells #[.int .i64 il, .int .i64 ih, .slice pa lp cp, .slice la ll cl] 40)).alloc (.cells #[.int .i64 z.be, .int .i64 z.pr, .int .i64 z.st] 54)) w1 → Below w.heap.size w w1) := Lib.hid fun w1 h => hW.trans (h.mono hW.size)
  have hb : Below (((w.alloc (.cells #[.slice sa ls cs, .slice ta lt ct] 25)).alloc (.cells #[.int .i64 il, .int .i64 ih, .slice pa lp cp, .slice la ll cl] 40)).alloc (.cells #[.int .i64 z.be, .int .i64 z.pr, .int .i64 z.st] 54)).heap.size (((w.alloc (.cells #[.slice sa ls cs, .slice ta lt ct] 25)).alloc (.cells #[.int .i64 il, .int .i64 ih, .slice pa lp cp, .slice la ll cl] 40)).alloc (.cells #[.int .i64 z.be, .int .i64 z.pr, .int .i64 z.st] 54)) (((w.alloc (.cells #[.slice sa ls cs, .slice ta lt ct] 25)).alloc (.cells #[.int .i64 il, .int .i64 ih, .slice pa lp cp, .slice la ll cl] 40)).alloc (.cells #[.int .i64 z.be, .int .i64 z.pr, .int .i64 z.st] 54)) := Below.refl _ _
  obtain ⟨x0, x1, x2, x3, x4, x5, x6, x7, x8, x9⟩ := BX.out _ hb
  clear hW
  have hlq2 := hlq; unfold maxLen at hlq2
  have hc1 : decide (ls ≤ 13 ∧ lt ≤ 10) = true := decide_eq_true hq1
  have hc2 : ¬ (10 : Int) < (lq : Int) := by omega
  have hc3 : decide (lp ≤ 10 ∧ ll ≤ 10 ∧ lk ≤ 6) = true := decide_eq_true hq3
  go_enter Tryz.func7, Tryz.ntmps7
  go_wp2_with (first
    | (go_at_call 8; refine (short_w _ _ _ _ _ _ _ hls hlt).mono ?_; rw [hc1]; rintro e wl ⟨rfl, hv⟩; replace hb := hb.trans (hv.mono hb.size); clear x0 x1 x2 x3 x4 x5 x6 x7 x8 x9; obtain ⟨x0, x1, x2, x3, x4, x5, x6, x7, x8, x9⟩ := BX.out _ hb)
    | (go_at_call 16; refine (slim_w _ _ _ _ _ _ _ _ _ _ _ _ hlp hll hlk).mono ?_; rw [hc3]; rintro e wl ⟨rfl, hv⟩; replace hb := hb.trans (hv.mono hb.size); clear x0 x1 x2 x3 x4 x5 x6 x7 x8 x9; obtain ⟨x0, x1, x2, x3, x4, x5, x6, x7, x8, x9⟩ := BX.out _ hb)
    | (go_at_call 12; refine (right_w _ _ _ _ _ _ s t _ (by omega) (by omega) (Lib.hid (HA.out.below2 (HWB.out _ hb))) (Lib.hid (HT.out.below2 (HWB.out _ hb)))).mono ?_; rintro e wl ⟨⟨rb, rfl, hrb⟩, hv⟩; obtain rfl : rb = true := hrb.2 HR.out; clear hrb; replace hb := hb.trans (hv.mono hb.size); clear x0 x1 x2 x3 x4 x5 x6 x7 x8 x9; obtain ⟨x0, x1, x2, x3, x4, x5, x6, x7, x8, x9⟩ := BX.out _ hb)
    | (go_at_call 13; refine (number_w _ undef _ _ _ _ _ hlt).mono ?_; rw [hc5]; rintro e wl ⟨rfl, hv⟩; replace hb := hb.trans (hv.mono hb.size); clear x0 x1 x2 x3 x4 x5 x6 x7 x8 x9; obtain ⟨x0, x1, x2, x3, x4, x5, x6, x7, x8, x9⟩ := BX.out _ hb)
    | (go_at_call 29; refine (refAges_w _ _ _ _ _ _ _ g _ (by omega) hlq (Lib.hid (HS.out.below (HWB.out _ hb)))).mono ?_; rintro e wl ⟨⟨rb, rfl, hrb⟩, hv⟩; obtain rfl : rb = true := hrb.2 HQ.out; clear hrb; replace hb := hb.trans (hv.mono hb.size); clear x0 x1 x2 x3 x4 x5 x6 x7 x8 x9; obtain ⟨x0, x1, x2, x3, x4, x5, x6, x7, x8, x9⟩ := BX.out _ hb)
    | (go_at_call 30; refine (need_w _ _).mono ?_; rw [hcn]; rintro e w' ⟨rfl, rfl⟩)
    | (go_at_call 9; refine (K.out _).mono ?_; rintro e wl ⟨rfl, hv⟩; have hB11 := hb.trans (hv.mono hb.size)))
  go_ret
  exact ⟨rfl, HWB.out _ hB11⟩

set_option maxRecDepth 100000 in
set_option maxHeartbeats 4000000 in
theorem lawmo_e2 (sa ta sq pa la ka : Option Addr) (ls cs lt ct lq cq lp cp ll cl lk ck : Nat) (s : Nat → Int) (t : Nat → St5) (g : Nat → Int) (p : Nat → Sp2) (l : Nat → Int) (c : Nat → Cl3) (z : Cl3) (st up down nd less il ih : Int) (w : World) (hls : ls ≤ maxLen) (hlt : lt ≤ maxLen) (hlq : lq ≤ maxLen) (hlp : lp ≤ maxLen) (hll : ll ≤ maxLen) (hlk : lk ≤ maxLen) (HA : Hid (NumSl w sa ls s)) (HT : Hid (StSl w ta lt t)) (HS : Hid (IntSl w sq lq g)) (K : Hid KnownOk') (hq1 : ls ≤ 13 ∧ lt ≤ 10) (hq2 : lq ≤ 10) (hq3 : lp ≤ 10 ∧ ll ≤ 10 ∧ lk ≤ 6) (HR : Hid (RightP ls lt s t)) (hc5 : fromB 0 ((lt : Int) - 1) st = true) (HQ : Hid (AgeP lt lq g)) (hu1 : ¬ up < 0) (hu2 : ¬ (100 : Int) < up) (hd1 : ¬ down < 0) (hd2 : ¬ (100 : Int) < down) (hcn : fromB 1 10000000 nd = true) (he1 : ¬ less < 0) (he2 : nd ≤ less) :
    Calls Tryz.prog 7 #[.agg #[.slice sa ls cs, .slice ta lt ct], .int .i64 st, .slice sq lq cq, .int .i64 up, .int .i64 down, .int .i64 nd, .int .i64 less, .agg #[.int .i64 il, .int .i64 ih, .slice pa lp cp, .slice la ll cl], .slice ka lk ck, .agg #[.int .i64 z.be, .int .i64 z.pr, .int .i64 z.st]] w
      fun e w' => e = .returned (.bool true) ∧ Below w.heap.size w w' := by
  have BX := Lib.hid (fun (w1 : World) (hb : Below (((w.alloc (.cells #[.slice sa ls cs, .slice ta lt ct] 25)).alloc (.cells #[.int .i64 il, .int .i64 ih, .slice pa lp cp, .slice la ll cl] 40)).alloc (.cells #[.int .i64 z.be, .int .i64 z.pr, .int .i64 z.st] 54)).heap.size (((w.alloc (.cells #[.slice sa ls cs, .slice ta lt ct] 25)).alloc (.cells #[.int .i64 il, .int .i64 ih, .slice pa lp cp, .slice la ll cl] 40)).alloc (.cells #[.int .i64 z.be, .int .i64 z.pr, .int .i64 z.st] 54)) w1) => bx9 hb)
  have hW : Below w.heap.size w (((w.alloc (.cells #[.slice sa ls cs, .slice ta lt ct] 25)).alloc (.cells #[.int .i64 il, .int .i64 ih, .slice pa lp cp, .slice la ll cl] 40)).alloc (.cells #[.int .i64 z.be, .int .i64 z.pr, .int .i64 z.st] 54)) := (((Below.refl _ _).alloc (Nat.le_refl _) _).alloc (by simp) _).alloc (by simp; omega) _
  have HWB : Hid (∀ w1, Below (((w.alloc (.cells #[.slice sa ls cs, .slice ta lt ct] 25)).alloc (.cells #[.int .i64 il, .int .i64 ih, .slice pa lp cp, .slice la ll cl] 40)).alloc (.cells #[.int .i64 z.be, .int .i64 z.pr, .int .i64 z.st] 54)).heap.size (((w.alloc (.cells #[.slice sa ls cs, .slice ta lt ct] 25)).alloc (.cells #[.int .i64 il, .int .i64 ih, .slice pa lp cp, .slice la ll cl] 40)).alloc (.cells #[.int .i64 z.be, .int .i64 z.pr, .int .i64 z.st] 54)) w1 → Below w.heap.size w w1) := Lib.hid fun w1 h => hW.trans (h.mono hW.size)
  have hb : Below (((w.alloc (.cells #[.slice sa ls cs, .slice ta lt ct] 25)).alloc (.cells #[.int .i64 il, .int .i64 ih, .slice pa lp cp, .slice la ll cl] 40)).alloc (.cells #[.int .i64 z.be, .int .i64 z.pr, .int .i64 z.st] 54)).heap.size (((w.alloc (.cells #[.slice sa ls cs, .slice ta lt ct] 25)).alloc (.cells #[.int .i64 il, .int .i64 ih, .slice pa lp cp, .slice la ll cl] 40)).alloc (.cells #[.int .i64 z.be, .int .i64 z.pr, .int .i64 z.st] 54)) (((w.alloc (.cells #[.slice sa ls cs, .slice ta lt ct] 25)).alloc (.cells #[.int .i64 il, .int .i64 ih, .slice pa lp cp, .slice la ll cl] 40)).alloc (.cells #[.int .i64 z.be, .int .i64 z.pr, .int .i64 z.st] 54)) := Below.refl _ _
  obtain ⟨x0, x1, x2, x3, x4, x5, x6, x7, x8, x9⟩ := BX.out _ hb
  clear hW
  have hlq2 := hlq; unfold maxLen at hlq2
  have hc1 : decide (ls ≤ 13 ∧ lt ≤ 10) = true := decide_eq_true hq1
  have hc2 : ¬ (10 : Int) < (lq : Int) := by omega
  have hc3 : decide (lp ≤ 10 ∧ ll ≤ 10 ∧ lk ≤ 6) = true := decide_eq_true hq3
  go_enter Tryz.func7, Tryz.ntmps7
  go_wp2_with (first
    | (go_at_call 8; refine (short_w _ _ _ _ _ _ _ hls hlt).mono ?_; rw [hc1]; rintro e wl ⟨rfl, hv⟩; replace hb := hb.trans (hv.mono hb.size); clear x0 x1 x2 x3 x4 x5 x6 x7 x8 x9; obtain ⟨x0, x1, x2, x3, x4, x5, x6, x7, x8, x9⟩ := BX.out _ hb)
    | (go_at_call 16; refine (slim_w _ _ _ _ _ _ _ _ _ _ _ _ hlp hll hlk).mono ?_; rw [hc3]; rintro e wl ⟨rfl, hv⟩; replace hb := hb.trans (hv.mono hb.size); clear x0 x1 x2 x3 x4 x5 x6 x7 x8 x9; obtain ⟨x0, x1, x2, x3, x4, x5, x6, x7, x8, x9⟩ := BX.out _ hb)
    | (go_at_call 12; refine (right_w _ _ _ _ _ _ s t _ (by omega) (by omega) (Lib.hid (HA.out.below2 (HWB.out _ hb))) (Lib.hid (HT.out.below2 (HWB.out _ hb)))).mono ?_; rintro e wl ⟨⟨rb, rfl, hrb⟩, hv⟩; obtain rfl : rb = true := hrb.2 HR.out; clear hrb; replace hb := hb.trans (hv.mono hb.size); clear x0 x1 x2 x3 x4 x5 x6 x7 x8 x9; obtain ⟨x0, x1, x2, x3, x4, x5, x6, x7, x8, x9⟩ := BX.out _ hb)
    | (go_at_call 13; refine (number_w _ undef _ _ _ _ _ hlt).mono ?_; rw [hc5]; rintro e wl ⟨rfl, hv⟩; replace hb := hb.trans (hv.mono hb.size); clear x0 x1 x2 x3 x4 x5 x6 x7 x8 x9; obtain ⟨x0, x1, x2, x3, x4, x5, x6, x7, x8, x9⟩ := BX.out _ hb)
    | (go_at_call 29; refine (refAges_w _ _ _ _ _ _ _ g _ (by omega) hlq (Lib.hid (HS.out.below (HWB.out _ hb)))).mono ?_; rintro e wl ⟨⟨rb, rfl, hrb⟩, hv⟩; obtain rfl : rb = true := hrb.2 HQ.out; clear hrb; replace hb := hb.trans (hv.mono hb.size); clear x0 x1 x2 x3 x4 x5 x6 x7 x8 x9; obtain ⟨x0, x1, x2, x3, x4, x5, x6, x7, x8, x9⟩ := BX.out _ hb)
    | (go_at_call 30; refine (need_w _ _).mono ?_; rw [hcn]; rintro e w' ⟨rfl, rfl⟩)
    | (go_at_call 9; refine (K.out _).mono ?_; rintro e wl ⟨rfl, hv⟩; have hB11 := hb.trans (hv.mono hb.size)))
  go_ret
  exact ⟨rfl, HWB.out _ hB11⟩

end Go.Kn

namespace Go.Kn
open Go Go.Proofs Go.RowKit Go.Shelf

theorem run_append_nil0 {P : Program} {w : World} (t ty e : TypeId) (i : TypeInfo) (ht : P.underlying t = some (.slice e)) (hi : P.info? e = some i) (sq : Option Addr) (c : Nat) :
    (Builtin.append_ #[t, t] ty #[.slice none 0 0, .slice sq 0 c]).run P w = .ok (.slice none 0 0) w := by
  cases sq <;> simp [Builtin.append_, run_underlying ht, sizeOf, typeInfo, hi, Builtin.lenOf, Builtin.firstCells, loadCells, loadCellsFrom]

theorem step_append_sl {P : Program} {w : World} {ops : Array Oper} {o : Oper} {a : Act} {K : Act → World → Prop} {Q : Exit → Act → World → Prop} {E : Prop} (hgd : o.guard = none) (s x : Operand) (t : TypeId)
    (ho : o.op = .call { callee := .builtin .append, args := #[s, x], argTypes := #[t, t] })
    (base : Nat) (e : TypeId) (i : TypeInfo) (z : Value) (size bytes : Nat) (ht : P.underlying t = some (.slice e)) (hi : P.info? e = some i) (hz : i.zero = some z)
    (hsize : i.size = size) (hby : i.bytes = bytes) (hzs : z.cells.size = size) (hsz : 0 < size)
    (hs : a.eval s = .slice none 0 0) (sq : Option Addr) (m c : Nat) (news : List Value) (hx : a.eval x = .slice sq m c) (hl : news.length = m * size)
    (hnews : m = 0 ∨ ∃ ad, sq = some ad ∧ ∀ j u, news[j]? = some u → w.cell? (ad.add j) = some u) (h1 : ∀ u ∈ news, u.oneCell' = true)
    (h63 : m ≤ maxLen) (hbytes : m * bytes ≤ 140737488355328) (hbase : base ≤ w.heap.size)
    (h : ∀ va cap w', w'.ownsRow base e size (.slice va m cap) m news → w.grownBy w' none → (∀ r, (Value.slice va m cap).ownBlock = some r → r = w.heap.size) → K (a.put o.dst (.slice va m cap)) w') :
    if Region.wanted o (yielded ops a.tmps) = true then Oper.wp P o a w K Q else E := by
  by_cases hm : m = 0
  · subst hm
    have hn : news = [] := by cases news with
      | nil => rfl
      | cons _ _ => simp at hl
    subst hn
    have hw : Region.wanted o (yielded ops a.tmps) = true := by simp [Region.wanted, hgd]
    rw [if_pos hw]
    have hr := run_append_nil0 (P := P) (w := w) t o.type e i ht hi sq c
    unfold Oper.wp execOp
    simp only [ho, resolve, invoke, builtin, Sem.run_bind, Sem.run_pure, Result.andThen_ok, List.map_toArray, List.map_cons, List.map_nil, hs, hx, hr]
    exact h none 0 w (World.ownsRow_nil _ _ _ _) ⟨rfl, rfl, rfl, Nat.le_refl _, fun k _ _ => rfl⟩ (fun r hr => by simp [Value.ownBlock] at hr)
  · obtain ⟨ad, rfl, hn⟩ := hnews.resolve_left hm
    refine step_append_lies _ hgd s x t ho base e i z size bytes ht hi hz hsize hby hzs hsz (.slice none 0 0) 0 [] hs (World.ownsRow_nil _ _ _ _) ad m c news hx hl hn h1 (by omega) (by omega) (by rw [Nat.zero_add]; exact hbytes) hbase _ rfl ?_
    intro g cap w' h2 h3 h4 h5
    rw [Nat.zero_add, List.nil_append] at h2
    rw [Nat.zero_add]
    refine h _ _ _ h2 h3 fun r hr => ?_
    have hr' : r = g := by simpa [Value.ownBlock] using hr.symm
    rcases h4 with h4 | h4
    · simp [Value.ownBlock] at h4
    · omega
theorem bs54 (w : World) (a b c : Int) : (Instr.buildSlice 41 1 #[(0, .agg #[.int .i64 a, .int .i64 b, .int .i64 c])]).run Tryz.prog w = .ok (.slice (some ⟨w.heap.size, 0, none⟩) 1 1) (w.alloc (.cells #[.int .i64 a, .int .i64 b, .int .i64 c] 54)) := by kernel_rfl
theorem step_bs54 {w : World} {ops : Array Oper} {o : Oper} {a : Act} {K : Act → World → Prop} {Q : Exit → Act → World → Prop} {E : Prop} (hgd : o.guard = none) (x : Operand) (p q r : Int)
    (ho : o.op = .buildSlice 41 1 #[(0, x)]) (hx : a.eval x = .agg #[.int .i64 p, .int .i64 q, .int .i64 r])
    (h : K (a.put o.dst (.slice (some ⟨w.heap.size, 0, none⟩) 1 1)) (w.alloc (.cells #[.int .i64 p, .int .i64 q, .int .i64 r] 54))) :
    if Region.wanted o (yielded ops a.tmps) = true then Oper.wp Tryz.prog o a w K Q else E := by
  have hw : Region.wanted o (yielded ops a.tmps) = true := by simp [Region.wanted, hgd]
  rw [if_pos hw]
  have hr := bs54 w p q r
  unfold Oper.wp execOp
  simp only [ho, List.map_toArray, List.map_cons, List.map_nil, hx, Sem.run_bind, hr, Result.andThen_ok, Sem.run_pure]
  exact h
theorem lies3 {W : World} {b : Nat} {x y z : Value} (h : W.cell? ⟨b, 0, none⟩ = some x ∧ W.cell? ⟨b, 1, none⟩ = some y ∧ W.cell? ⟨b, 2, none⟩ = some z) : ∀ (j : Nat) (u : Value), [x, y, z][j]? = some u → W.cell? ((⟨b, 0, none⟩ : Addr).add j) = some u := by
  intro j u hj
  match j, hj with
  | 0, hj => simp at hj; subst hj; exact h.1
  | 1, hj => simp at hj; subst hj; rw [add_mk, Nat.zero_add]; exact h.2.1
  | 2, hj => simp at hj; subst hj; rw [add_mk, Nat.zero_add]; exact h.2.2

theorem ppipes_n (il ih : Int) (C P cp A O ll cl : Nat) (p : Nat → Sp2) (l : Nat → Int) (C2 P2 kk ck : Nat) (c : Nat → Cl3) (w : World) (H : Hid (SipAt w C P (ll + 1) A O ll il ih p l)) (hC2 : C2 < w.heap.size) (HC : Hid (ClAt w C2 P2 kk c)) (HK : Hid (ClsP kk c)) (HCH : Hid (cheap (sufL kk (cBu c (prOf il ih p)) l (cSt c) (cPr c) ll) = none)) :
    Calls Tryz.prog 22 #[.agg #[.int .i64 il, .int .i64 ih, .slice (some ⟨C, P, none⟩) (ll + 1) cp, .slice (some ⟨A, O, none⟩) ll cl], .slice (some ⟨C2, P2, none⟩) kk ck] w
      fun e w' => e = .returned (.tuple #[.slice none 0 0, .int .i64 0, .int .i64 5]) ∧ Below w.heap.size w w' :=
  (ppipes_w il ih C P cp A O ll cl p l C2 P2 kk ck c w H hC2 HC HK).mono (by
    rintro e w' ⟨hb, o, ho, rfl, _⟩
    rw [HCH.out] at ho
    cases o with
    | none => exact ⟨rfl, hb⟩
    | some y => cases ho)
theorem ppipes_s (il ih : Int) (C P cp A O ll cl : Nat) (p : Nat → Sp2) (l : Nat → Int) (C2 P2 kk ck : Nat) (c : Nat → Cl3) (y : List Nat × Int) (w : World) (H : Hid (SipAt w C P (ll + 1) A O ll il ih p l)) (hC2 : C2 < w.heap.size) (HC : Hid (ClAt w C2 P2 kk c)) (HK : Hid (ClsP kk c)) (HCH : Hid (cheap (sufL kk (cBu c (prOf il ih p)) l (cSt c) (cPr c) ll) = some y)) :
    Calls Tryz.prog 22 #[.agg #[.int .i64 il, .int .i64 ih, .slice (some ⟨C, P, none⟩) (ll + 1) cp, .slice (some ⟨A, O, none⟩) ll cl], .slice (some ⟨C2, P2, none⟩) kk ck] w
      fun e w' => (∃ g n cap, e = .returned (.tuple #[.slice (some ⟨g, 0, none⟩) n cap, .int .i64 y.2, .int .i64 0])) ∧ Below w.heap.size w w' :=
  (ppipes_w il ih C P cp A O ll cl p l C2 P2 kk ck c w H hC2 HC HK).mono (by
    rintro e w' ⟨hb, o, ho, rfl, _⟩
    rw [HCH.out] at ho
    cases o with
    | none => cases ho
    | some yd =>
      have hpr : yd.pr = y := by simpa using ho
      subst hpr
      exact ⟨⟨yd.g, yd.c.length, yd.cap, rfl⟩, hb⟩)
/-- the same as cut_region, for two appended slices -/
theorem cut_region5 {P : Program} {code : Code} {Q : Exit → Act → World → Prop} {a : Act} {w : World} (F : Option Addr → Nat → Nat → Nat → Nat → World → Prop) (act : Option Addr → Nat → Nat → Nat → Nat → Act) (hr : (∀ va c5 lb g6 c6 W3, F va c5 lb g6 c6 W3 → Q .normal (act va c5 lb g6 c6) W3) → code.wp P Q a w) (hc : ∀ va c5 lb g6 c6 W3, F va c5 lb g6 c6 W3 → Q .normal (act va c5 lb g6 c6) W3) : code.wp P Q a w := hr hc
end Go.Kn
