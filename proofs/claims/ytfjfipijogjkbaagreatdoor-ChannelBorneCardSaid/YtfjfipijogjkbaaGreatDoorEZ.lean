/- Walks of functions of layer 2 (contracts that the laws of this seat use). Conditions: as each theorem states them. -/
import Derived.Test.YtfjfipijogjkbaaGreatDoorEY
set_option linter.unusedVariables false
set_option linter.unusedSimpArgs false
namespace Go.Kn
open Go Go.Proofs Go.RowKit

/-- n bools' cells, which can be written -/
def BoolAt (W : World) (M n : Nat) (f : Nat → Bool) : Prop := M < W.heap.size ∧ ∀ j, j < n → W.cell? ⟨M, j, none⟩ = some (.bool (f j)) ∧ W.frozen? ⟨M, j, none⟩ = false
theorem BoolAt.below {W W' : World} {M n B : Nat} {f : Nat → Bool} (h : BoolAt W M n f) (hM : M < B) (hb : Below B W W') : BoolAt W' M n f :=
  ⟨Nat.lt_of_lt_of_le h.1 hb.size, fun j hj => ⟨(hb.cell (p := ⟨M, j, none⟩) hM).trans (h.2 j hj).1, (hb.frozen (p := ⟨M, j, none⟩) hM).trans (h.2 j hj).2⟩⟩
theorem BoolAt.set {W : World} {M n : Nat} {f : Nat → Bool} (h : BoolAt W M n f) {k : Nat} (hk : k < n) (b : Bool) : BoolAt (W.setCell ⟨M, k, none⟩ (.bool b)) M n (fun j => if j = k then b else f j) := by
  refine ⟨by rw [World.size_setCell]; exact h.1, fun j hj => ⟨?_, by rw [World.frozen?_setCell]; exact (h.2 j hj).2⟩⟩
  by_cases e : j = k
  · subst e
    simp only [if_true]
    exact World.cell?_setCell_same' _ _ _ (by rw [(h.2 j hj).1]; rfl)
  · simp only [if_neg e]
    exact (World.cell?_setCell_other _ _ _ _ (by intro h9; exact e (congrArg Addr.off h9).symm)).trans (h.2 j hj).1
theorem BoolAt.congr {W : World} {M n : Nat} {f g : Nat → Bool} (h : BoolAt W M n f) (e : ∀ j, j < n → f j = g j) : BoolAt W M n g := ⟨h.1, fun j hj => by rw [← e j hj]; exact h.2 j hj⟩
theorem boolAt_of_make {w : World} {base e g n : Nat} (h : w.ownsRow base e 1 (.slice (some ⟨g, 0, none⟩) n n) n (madeCells #[.bool false] (n * 1)).toList) (hn : 1 ≤ n) : BoolAt w g n (fun _ => false) := by
  rcases h.2 with ⟨h1, _⟩ | ⟨g', cap', cur, h1, hb, hg, hm, hc, hs, hx⟩
  · cases h1
  · cases h1
    refine ⟨(Array.getElem?_eq_some_iff.1 hg).1, fun j hj => ⟨?_, by simp [World.frozen?, hg]⟩⟩
    have h2 : (madeCells #[Value.bool false] (n * 1)).toList[j]? = some (.bool false) := by
      simp [madeCells, hj, Nat.mod_one]
    rw [← hx, List.getElem?_take] at h2
    split at h2
    · simp only [Array.getElem?_toList] at h2
      simp [World.cell?, hg, h2]
    · cases h2
theorem info4M : (Tryz.prog.info? 4).map (fun i => (i.zero, i.size, i.bytes)) = some (some (.bool false), 1, 1) := by kernel_rfl

/-- what has been met when k numbers of a list are gone through -/
def metB (L : List Int) (k j : Nat) : Bool := (L.take k).contains (j : Int)
theorem metB_zero (L : List Int) (j : Nat) : metB L 0 j = false := by simp [metB]
theorem metB_succ {L : List Int} {k : Nat} (hk : k < L.length) (j : Nat) : metB L (k + 1) j = if (j : Int) = L.getD k 0 then true else metB L k j := by
  have h : L.take (k + 1) = L.take k ++ [L.getD k 0] := by
    rw [List.take_add_one, List.getElem?_eq_getElem hk]
    simp [List.getD, List.getElem?_eq_getElem hk]
  unfold metB
  rw [h]
  by_cases e : (j : Int) = L.getD k 0
  · simp [e]
  · have e' : ¬ ((j : Int) = L[k]?.getD 0) := by simpa [List.getD] using e
    rw [if_neg e, List.contains_eq_mem, List.contains_eq_mem]
    simp [e']
theorem pick_mem {b : Nat → Bool} : ∀ (n : Nat) (x : Int), x ∈ pick b n ↔ ∃ j : Nat, x = (j : Int) ∧ j < n ∧ b j = true := by
  intro n
  induction n with
  | zero => intro x; constructor
            · intro h; simp [pick] at h
            · rintro ⟨j, _, h, _⟩; omega
  | succ n ih =>
    intro x
    cases e : b n
    · rw [pick_f e, ih]
      constructor
      · rintro ⟨j, h1, h2, h3⟩; exact ⟨j, h1, by omega, h3⟩
      · rintro ⟨j, h1, h2, h3⟩
        refine ⟨j, h1, ?_, h3⟩
        by_cases h : j = n
        · rw [h, e] at h3; cases h3
        · omega
    · rw [pick_t e]
      simp only [List.mem_append, List.mem_singleton]
      rw [ih]
      constructor
      · rintro (⟨j, h1, h2, h3⟩ | h)
        · exact ⟨j, h1, by omega, h3⟩
        · exact ⟨n, h, by omega, e⟩
      · rintro ⟨j, h1, h2, h3⟩
        by_cases h : j = n
        · exact .inr (by rw [h1, h])
        · exact .inl ⟨j, h1, by omega, h3⟩

theorem pick_sorted {b : Nat → Bool} : ∀ n : Nat, List.Pairwise (· < ·) (pick b n) := by
  intro n
  induction n with
  | zero => simp [pick]
  | succ n ih =>
    cases e : b n
    · rw [pick_f e]; exact ih
    · rw [pick_t e, List.pairwise_append]
      refine ⟨ih, by simp, ?_⟩
      intro x hx y hy
      obtain ⟨j, rfl, hj, _⟩ := (pick_mem n x).1 hx
      simp at hy
      subst hy
      omega

theorem pick_get {b : Nat → Bool} {n k : Nat} (hk : k < (pick b n).length) : ∃ j : Nat, (pick b n).getD k 0 = (j : Int) ∧ j < n ∧ b j = true := by
  have h : (pick b n).getD k 0 ∈ pick b n := by
    simp [List.getD, List.getElem?_eq_getElem hk]
  exact (pick_mem n _).1 h

theorem pick_lt {b : Nat → Bool} {n k : Nat} (hk : k + 1 < (pick b n).length) : (pick b n).getD k 0 < (pick b n).getD (k + 1) 0 := by
  have h := List.pairwise_iff_getElem.1 (pick_sorted (b := b) n) k (k + 1) (by omega) hk (by omega)
  simpa [List.getD, List.getElem?_eq_getElem hk, List.getElem?_eq_getElem (show k < (pick b n).length by omega)] using h

theorem metB_end {b : Nat → Bool} {n j : Nat} (hj : j < n) : metB (pick b n) (pick b n).length j = b j := by
  unfold metB
  rw [List.take_length, Bool.eq_iff_iff]
  constructor
  · intro h
    obtain ⟨i, h1, _, h3⟩ := (pick_mem n _).1 (by simpa using h)
    obtain rfl : i = j := by omega
    exact h3
  · intro h
    have := (pick_mem (b := b) n (j : Int)).2 ⟨j, rfl, hj, h⟩
    simpa using this

set_option maxRecDepth 100000 in
set_option maxHeartbeats 4000000 in
theorem lawbo_a (il ih : Int) (pa la ka sq : Option Addr) (lp cp ll cl lk ck lq cq : Nat) (p : Nat → Sp2) (l : Nat → Int) (c : Nat → Cl3) (s : Nat → Int) (n : Int) (ra : Option Addr) (lr cr : Nat) (r : Nat → Int) (w : World) (hlp : lp ≤ maxLen) (hll : ll ≤ maxLen) (hlk : lk ≤ maxLen) (hlq : lq ≤ maxLen) (H : Hid (AnySip w pa la lp ll p l)) (HC : Hid (ClSl w ka lk c)) (HS : Hid (IntSl w sq lq s)) (K : Hid KnownOk')
    (hq : ¬ (lp ≤ 10 ∧ ll ≤ 10 ∧ lk ≤ 6)) :
    Calls Tryz.prog 4 #[.agg #[.int .i64 il, .int .i64 ih, .slice pa lp cp, .slice la ll cl], .slice ka lk ck, .slice sq lq cq, .int .i64 n, .slice ra lr cr] w
      fun e w' => e = .returned (.bool true) ∧ Below w.heap.size w w' := by
  have BX := Lib.hid (fun (w1 : World) (hb : Below (w.alloc (.cells #[.int .i64 il, .int .i64 ih, .slice pa lp cp, .slice la ll cl] 40)).heap.size (w.alloc (.cells #[.int .i64 il, .int .i64 ih, .slice pa lp cp, .slice la ll cl] 40)) w1) => bcell4 hb)
  have HL : Hid (∀ w1, Below (w.alloc (.cells #[.int .i64 il, .int .i64 ih, .slice pa lp cp, .slice la ll cl] 40)).heap.size (w.alloc (.cells #[.int .i64 il, .int .i64 ih, .slice pa lp cp, .slice la ll cl] 40)) w1 → AnySip w1 pa la lp ll p l ∧ ClSl w1 ka lk c ∧ IntSl w1 sq lq s) := Lib.hid fun w1 h => ⟨H.out.below (below_al h), HC.out.below (below_al h), HS.out.below (below_al h)⟩
  unfold maxLen at hlq
  have hsh : decide (lp ≤ 10 ∧ ll ≤ 10 ∧ lk ≤ 6) = false := decide_eq_false hq
  go_enter Tryz.func4, Tryz.ntmps4
  go_wp2_with (first
    | (go_at_call 16; refine (slim_w _ _ _ _ _ _ _ _ _ _ _ _ hlp hll hlk).mono ?_; rw [hsh]; rintro e w1 ⟨rfl, hb1⟩; obtain ⟨x0, x1, x2, x3, x4⟩ := BX.out _ hb1)
    | (go_at_call 9; refine (K.out _).mono ?_; rintro e w11 ⟨rfl, hb11⟩))
  go_ret
  exact ⟨rfl, below_al (hb1.trans (hb11.mono hb1.size))⟩

set_option maxRecDepth 100000 in
set_option maxHeartbeats 4000000 in
theorem lawbo_a2 (il ih : Int) (pa la ka sq : Option Addr) (lp cp ll cl lk ck lq cq : Nat) (p : Nat → Sp2) (l : Nat → Int) (c : Nat → Cl3) (s : Nat → Int) (n : Int) (ra : Option Addr) (lr cr : Nat) (r : Nat → Int) (w : World) (hlp : lp ≤ maxLen) (hll : ll ≤ maxLen) (hlk : lk ≤ maxLen) (hlq : lq ≤ maxLen) (H : Hid (AnySip w pa la lp ll p l)) (HC : Hid (ClSl w ka lk c)) (HS : Hid (IntSl w sq lq s)) (K : Hid KnownOk')
    (hq : lp ≤ 10 ∧ ll ≤ 10 ∧ lk ≤ 6) (hq4 : ¬ lq ≤ 10) :
    Calls Tryz.prog 4 #[.agg #[.int .i64 il, .int .i64 ih, .slice pa lp cp, .slice la ll cl], .slice ka lk ck, .slice sq lq cq, .int .i64 n, .slice ra lr cr] w
      fun e w' => e = .returned (.bool true) ∧ Below w.heap.size w w' := by
  have BX := Lib.hid (fun (w1 : World) (hb : Below (w.alloc (.cells #[.int .i64 il, .int .i64 ih, .slice pa lp cp, .slice la ll cl] 40)).heap.size (w.alloc (.cells #[.int .i64 il, .int .i64 ih, .slice pa lp cp, .slice la ll cl] 40)) w1) => bcell4 hb)
  have HL : Hid (∀ w1, Below (w.alloc (.cells #[.int .i64 il, .int .i64 ih, .slice pa lp cp, .slice la ll cl] 40)).heap.size (w.alloc (.cells #[.int .i64 il, .int .i64 ih, .slice pa lp cp, .slice la ll cl] 40)) w1 → AnySip w1 pa la lp ll p l ∧ ClSl w1 ka lk c ∧ IntSl w1 sq lq s) := Lib.hid fun w1 h => ⟨H.out.below (below_al h), HC.out.below (below_al h), HS.out.below (below_al h)⟩
  unfold maxLen at hlq
  have hsh : decide (lp ≤ 10 ∧ ll ≤ 10 ∧ lk ≤ 6) = true := decide_eq_true hq
  obtain ⟨hq1, hq2, hq3⟩ := hq
  have hq5 : (10 : Int) < (lq : Int) := by omega
  go_enter Tryz.func4, Tryz.ntmps4
  go_wp2_with (first
    | (go_at_call 16; refine (slim_w _ _ _ _ _ _ _ _ _ _ _ _ hlp hll hlk).mono ?_; rw [hsh]; rintro e w1 ⟨rfl, hb1⟩; obtain ⟨x0, x1, x2, x3, x4⟩ := BX.out _ hb1)
    | (go_at_call 9; refine (K.out _).mono ?_; rintro e w11 ⟨rfl, hb11⟩))
  go_ret
  exact ⟨rfl, below_al (hb1.trans (hb11.mono hb1.size))⟩

set_option maxRecDepth 100000 in
set_option maxHeartbeats 4000000 in
theorem lawbo_b1 (il ih : Int) (pa la ka sq : Option Addr) (lp cp ll cl lk ck lq cq : Nat) (p : Nat → Sp2) (l : Nat → Int) (c : Nat → Cl3) (s : Nat → Int) (n : Int) (ra : Option Addr) (lr cr : Nat) (r : Nat → Int) (w : World) (hlp : lp ≤ maxLen) (hll : ll ≤ maxLen) (hlk : lk ≤ maxLen) (hlq : lq ≤ maxLen) (H : Hid (AnySip w pa la lp ll p l)) (HC : Hid (ClSl w ka lk c)) (HS : Hid (IntSl w sq lq s)) (K : Hid KnownOk')
    (hq : lp ≤ 10 ∧ ll ≤ 10 ∧ lk ≤ 6) (hq4 : lq ≤ 10) (HR : Hid (¬ SipP il ih lp ll p l)) :
    Calls Tryz.prog 4 #[.agg #[.int .i64 il, .int .i64 ih, .slice pa lp cp, .slice la ll cl], .slice ka lk ck, .slice sq lq cq, .int .i64 n, .slice ra lr cr] w
      fun e w' => e = .returned (.bool true) ∧ Below w.heap.size w w' := by
  have BX := Lib.hid (fun (w1 : World) (hb : Below (w.alloc (.cells #[.int .i64 il, .int .i64 ih, .slice pa lp cp, .slice la ll cl] 40)).heap.size (w.alloc (.cells #[.int .i64 il, .int .i64 ih, .slice pa lp cp, .slice la ll cl] 40)) w1) => bcell4 hb)
  have HL : Hid (∀ w1, Below (w.alloc (.cells #[.int .i64 il, .int .i64 ih, .slice pa lp cp, .slice la ll cl] 40)).heap.size (w.alloc (.cells #[.int .i64 il, .int .i64 ih, .slice pa lp cp, .slice la ll cl] 40)) w1 → AnySip w1 pa la lp ll p l ∧ ClSl w1 ka lk c ∧ IntSl w1 sq lq s) := Lib.hid fun w1 h => ⟨H.out.below (below_al h), HC.out.below (below_al h), HS.out.below (below_al h)⟩
  unfold maxLen at hlq
  have hsh : decide (lp ≤ 10 ∧ ll ≤ 10 ∧ lk ≤ 6) = true := decide_eq_true hq
  obtain ⟨hq1, hq2, hq3⟩ := hq
  have hq5 : ¬ (10 : Int) < (lq : Int) := by omega
  go_enter Tryz.func4, Tryz.ntmps4
  go_wp2_with (first
    | (go_at_call 16; refine (slim_w _ _ _ _ _ _ _ _ _ _ _ _ hlp hll hlk).mono ?_; rw [hsh]; rintro e w1 ⟨rfl, hb1⟩; obtain ⟨x0, x1, x2, x3, x4⟩ := BX.out _ hb1)
    | (go_at_call 17; refine (rsiph_w _ _ _ _ _ _ _ _ p l _ (by omega) (by omega) (Lib.hid (HL.out _ hb1).1)).mono ?_; rintro e w2 ⟨⟨rb, rfl, hrb⟩, hb2⟩; obtain rfl : rb = false := (by cases rb <;> first | rfl | exact (HR.out (hrb.1 rfl)).elim); clear hrb; have chb2 := hb1.trans (hb2.mono hb1.size); clear x0 x1 x2 x3 x4; obtain ⟨x0, x1, x2, x3, x4⟩ := BX.out _ chb2)
    | (go_at_call 9; refine (K.out _).mono ?_; rintro e w11 ⟨rfl, hb11⟩))
  go_ret
  exact ⟨rfl, below_al (chb2.trans (hb11.mono chb2.size))⟩

set_option maxRecDepth 100000 in
set_option maxHeartbeats 4000000 in
theorem lawbo_b2 (il ih : Int) (pa la ka sq : Option Addr) (lp cp ll cl lk ck lq cq : Nat) (p : Nat → Sp2) (l : Nat → Int) (c : Nat → Cl3) (s : Nat → Int) (n : Int) (ra : Option Addr) (lr cr : Nat) (r : Nat → Int) (w : World) (hlp : lp ≤ maxLen) (hll : ll ≤ maxLen) (hlk : lk ≤ maxLen) (hlq : lq ≤ maxLen) (H : Hid (AnySip w pa la lp ll p l)) (HC : Hid (ClSl w ka lk c)) (HS : Hid (IntSl w sq lq s)) (K : Hid KnownOk')
    (hq : lp ≤ 10 ∧ ll ≤ 10 ∧ lk ≤ 6) (hq4 : lq ≤ 10) (HR : Hid (SipP il ih lp ll p l)) (HK : Hid (¬ ClsP lk c)) :
    Calls Tryz.prog 4 #[.agg #[.int .i64 il, .int .i64 ih, .slice pa lp cp, .slice la ll cl], .slice ka lk ck, .slice sq lq cq, .int .i64 n, .slice ra lr cr] w
      fun e w' => e = .returned (.bool true) ∧ Below w.heap.size w w' := by
  have BX := Lib.hid (fun (w1 : World) (hb : Below (w.alloc (.cells #[.int .i64 il, .int .i64 ih, .slice pa lp cp, .slice la ll cl] 40)).heap.size (w.alloc (.cells #[.int .i64 il, .int .i64 ih, .slice pa lp cp, .slice la ll cl] 40)) w1) => bcell4 hb)
  have HL : Hid (∀ w1, Below (w.alloc (.cells #[.int .i64 il, .int .i64 ih, .slice pa lp cp, .slice la ll cl] 40)).heap.size (w.alloc (.cells #[.int .i64 il, .int .i64 ih, .slice pa lp cp, .slice la ll cl] 40)) w1 → AnySip w1 pa la lp ll p l ∧ ClSl w1 ka lk c ∧ IntSl w1 sq lq s) := Lib.hid fun w1 h => ⟨H.out.below (below_al h), HC.out.below (below_al h), HS.out.below (below_al h)⟩
  unfold maxLen at hlq
  have hsh : decide (lp ≤ 10 ∧ ll ≤ 10 ∧ lk ≤ 6) = true := decide_eq_true hq
  obtain ⟨hq1, hq2, hq3⟩ := hq
  have hq5 : ¬ (10 : Int) < (lq : Int) := by omega
  go_enter Tryz.func4, Tryz.ntmps4
  go_wp2_with (first
    | (go_at_call 16; refine (slim_w _ _ _ _ _ _ _ _ _ _ _ _ hlp hll hlk).mono ?_; rw [hsh]; rintro e w1 ⟨rfl, hb1⟩; obtain ⟨x0, x1, x2, x3, x4⟩ := BX.out _ hb1)
    | (go_at_call 17; refine (rsiph_w _ _ _ _ _ _ _ _ p l _ (by omega) (by omega) (Lib.hid (HL.out _ hb1).1)).mono ?_; rintro e w2 ⟨⟨rb, rfl, hrb⟩, hb2⟩; obtain rfl : rb = true := hrb.2 HR.out; clear hrb; have chb2 := hb1.trans (hb2.mono hb1.size); clear x0 x1 x2 x3 x4; obtain ⟨x0, x1, x2, x3, x4⟩ := BX.out _ chb2)
    | (go_at_call 18; refine (rcls_w _ _ _ c _ (by omega) (Lib.hid (HL.out _ chb2).2.1)).mono ?_; rintro e w3 ⟨⟨rb, rfl, hrb⟩, rfl⟩; obtain rfl : rb = false := (by cases rb <;> first | rfl | exact (HK.out (hrb.1 rfl)).elim); clear hrb)
    | (go_at_call 9; refine (K.out _).mono ?_; rintro e w11 ⟨rfl, hb11⟩))
  go_ret
  exact ⟨rfl, below_al (chb2.trans (hb11.mono chb2.size))⟩

set_option maxRecDepth 100000 in
set_option maxHeartbeats 4000000 in
theorem lawbo_b3 (il ih : Int) (pa la ka sq : Option Addr) (lp cp ll cl lk ck lq cq : Nat) (p : Nat → Sp2) (l : Nat → Int) (c : Nat → Cl3) (s : Nat → Int) (n : Int) (ra : Option Addr) (lr cr : Nat) (r : Nat → Int) (w : World) (hlp : lp ≤ maxLen) (hll : ll ≤ maxLen) (hlk : lk ≤ maxLen) (hlq : lq ≤ maxLen) (H : Hid (AnySip w pa la lp ll p l)) (HC : Hid (ClSl w ka lk c)) (HS : Hid (IntSl w sq lq s)) (K : Hid KnownOk')
    (hq : lp ≤ 10 ∧ ll ≤ 10 ∧ lk ≤ 6) (hq4 : lq ≤ 10) (HR : Hid (SipP il ih lp ll p l)) (HK : Hid (ClsP lk c)) (HQ : Hid (¬ ChoP lk ll lq s)) :
    Calls Tryz.prog 4 #[.agg #[.int .i64 il, .int .i64 ih, .slice pa lp cp, .slice la ll cl], .slice ka lk ck, .slice sq lq cq, .int .i64 n, .slice ra lr cr] w
      fun e w' => e = .returned (.bool true) ∧ Below w.heap.size w w' := by
  have BX := Lib.hid (fun (w1 : World) (hb : Below (w.alloc (.cells #[.int .i64 il, .int .i64 ih, .slice pa lp cp, .slice la ll cl] 40)).heap.size (w.alloc (.cells #[.int .i64 il, .int .i64 ih, .slice pa lp cp, .slice la ll cl] 40)) w1) => bcell4 hb)
  have HL : Hid (∀ w1, Below (w.alloc (.cells #[.int .i64 il, .int .i64 ih, .slice pa lp cp, .slice la ll cl] 40)).heap.size (w.alloc (.cells #[.int .i64 il, .int .i64 ih, .slice pa lp cp, .slice la ll cl] 40)) w1 → AnySip w1 pa la lp ll p l ∧ ClSl w1 ka lk c ∧ IntSl w1 sq lq s) := Lib.hid fun w1 h => ⟨H.out.below (below_al h), HC.out.below (below_al h), HS.out.below (below_al h)⟩
  unfold maxLen at hlq
  have hsh : decide (lp ≤ 10 ∧ ll ≤ 10 ∧ lk ≤ 6) = true := decide_eq_true hq
  obtain ⟨hq1, hq2, hq3⟩ := hq
  have hq5 : ¬ (10 : Int) < (lq : Int) := by omega
  go_enter Tryz.func4, Tryz.ntmps4
  go_wp2_with (first
    | (go_at_call 16; refine (slim_w _ _ _ _ _ _ _ _ _ _ _ _ hlp hll hlk).mono ?_; rw [hsh]; rintro e w1 ⟨rfl, hb1⟩; obtain ⟨x0, x1, x2, x3, x4⟩ := BX.out _ hb1)
    | (go_at_call 17; refine (rsiph_w _ _ _ _ _ _ _ _ p l _ (by omega) (by omega) (Lib.hid (HL.out _ hb1).1)).mono ?_; rintro e w2 ⟨⟨rb, rfl, hrb⟩, hb2⟩; obtain rfl : rb = true := hrb.2 HR.out; clear hrb; have chb2 := hb1.trans (hb2.mono hb1.size); clear x0 x1 x2 x3 x4; obtain ⟨x0, x1, x2, x3, x4⟩ := BX.out _ chb2)
    | (go_at_call 18; refine (rcls_w _ _ _ c _ (by omega) (Lib.hid (HL.out _ chb2).2.1)).mono ?_; rintro e w3 ⟨⟨rb, rfl, hrb⟩, rfl⟩; obtain rfl : rb = true := hrb.2 HK.out; clear hrb)
    | (go_at_call 19; refine (rchosen_w _ _ _ _ _ _ _ _ _ _ _ _ s _ (by omega) (by omega) (by unfold maxLen; omega) (Lib.hid (HL.out _ chb2).2.2)).mono ?_; rintro e w4 ⟨⟨rb, rfl, hrb⟩, hb4⟩; obtain rfl : rb = false := (by cases rb <;> first | rfl | exact (HQ.out (hrb.1 rfl)).elim); clear hrb; have chb4 := chb2.trans (hb4.mono chb2.size); clear x0 x1 x2 x3 x4; obtain ⟨x0, x1, x2, x3, x4⟩ := BX.out _ chb4)
    | (go_at_call 9; refine (K.out _).mono ?_; rintro e w11 ⟨rfl, hb11⟩))
  go_ret
  exact ⟨rfl, below_al (chb4.trans (hb11.mono chb4.size))⟩

set_option maxRecDepth 100000 in
set_option maxHeartbeats 4000000 in
theorem lawbo_b4 (il ih : Int) (C P cp A O ll cl : Nat) (p : Nat → Sp2) (l : Nat → Int) (C2 P2 lk ck : Nat) (c : Nat → Cl3) (D F cq : Nat) (s : Nat → Int) (n : Int) (ra : Option Addr) (lr cr : Nat) (r : Nat → Int) (w : World) (H : Hid (SipAt w C P (ll + 1) A O ll il ih p l)) (hC2 : C2 < w.heap.size) (HC : Hid (ClAt w C2 P2 lk c)) (HK : Hid (ClsP lk c)) (hD : D < w.heap.size) (HD : Hid (NumAt w D F ll s)) (HQ : Hid (ChoP lk ll ll s)) (hlr : lr ≤ maxLen) (HZ : Hid (IntSl w ra lr r)) (K : Hid KnownOk') (hq5 : ¬ (10 : Int) < (ll : Int)) (HQZ : Hid (¬ HeiP il ih (ll + 1) p n lr r)) :
    Calls Tryz.prog 4 #[.agg #[.int .i64 il, .int .i64 ih, .slice (some ⟨C, P, none⟩) (ll + 1) cp, .slice (some ⟨A, O, none⟩) ll cl], .slice (some ⟨C2, P2, none⟩) lk ck, .slice (some ⟨D, F, none⟩) ll cq, .int .i64 n, .slice ra lr cr] w
      fun e w' => e = .returned (.bool true) ∧ Below w.heap.size w w' := by
  have BX := Lib.hid (fun (w1 : World) (hb : Below (w.alloc (.cells #[.int .i64 il, .int .i64 ih, .slice (some ⟨C, P, none⟩) (ll + 1) cp, .slice (some ⟨A, O, none⟩) ll cl] 40)).heap.size (w.alloc (.cells #[.int .i64 il, .int .i64 ih, .slice (some ⟨C, P, none⟩) (ll + 1) cp, .slice (some ⟨A, O, none⟩) ll cl] 40)) w1) => bcell4 hb)
  have HL : Hid (∀ w1, Below (w.alloc (.cells #[.int .i64 il, .int .i64 ih, .slice (some ⟨C, P, none⟩) (ll + 1) cp, .slice (some ⟨A, O, none⟩) ll cl] 40)).heap.size (w.alloc (.cells #[.int .i64 il, .int .i64 ih, .slice (some ⟨C, P, none⟩) (ll + 1) cp, .slice (some ⟨A, O, none⟩) ll cl] 40)) w1 → SipAt w1 C P (ll + 1) A O ll il ih p l ∧ ClAt w1 C2 P2 lk c ∧ NumAt w1 D F ll s ∧ C2 < w1.heap.size ∧ D < w1.heap.size ∧ IntSl w1 ra lr r) := Lib.hid fun w1 h => ⟨H.out.below (below_al h), HC.out.below hC2 (below_al h), HD.out.below hD (below_al h), Nat.lt_of_lt_of_le hC2 (below_al h).size, Nat.lt_of_lt_of_le hD (below_al h).size, HZ.out.below (below_al h)⟩
  have q1 := H.out.lp1
  have q2 := H.out.lp2
  have g1 := HK.out.n1
  have g2 := HK.out.n2
  have hlp : ll + 1 ≤ maxLen := by unfold maxLen; omega
  have hll : ll ≤ maxLen := by unfold maxLen; omega
  have hlk : lk ≤ maxLen := by unfold maxLen; omega
  have hsh : decide (ll + 1 ≤ 10 ∧ ll ≤ 10 ∧ lk ≤ 6) = true := decide_eq_true ⟨by omega, by omega, by omega⟩
  have HR : Hid (SipP il ih (ll + 1) ll p l) := Lib.hid H.out.ok
  have hf1 : fstV none = .slice none 0 0 := rfl
  have hf2 : ∀ y : Yd, fstV (some y) = .slice (some ⟨y.g, 0, none⟩) y.c.length y.cap := fun _ => rfl
  have hf3 : fstQ none = 0 := rfl
  have hf4 : ∀ y : Yd, fstQ (some y) = y.q := fun _ => rfl
  go_enter Tryz.func4, Tryz.ntmps4
  go_wp2_with (first
    | (go_at_call 16; refine (slim_w _ _ _ _ _ _ _ _ _ _ _ _ hlp hll hlk).mono ?_; rw [hsh]; rintro e w1 ⟨rfl, hb1⟩; obtain ⟨x0, x1, x2, x3, x4⟩ := BX.out _ hb1)
    | (go_at_call 17; refine (rsiph_w _ _ _ _ _ _ _ _ p l _ (by omega) (by omega) (Lib.hid (HL.out _ hb1).1.any)).mono ?_; rintro e w2 ⟨⟨rb, rfl, hrb⟩, hb2⟩; obtain rfl : rb = true := hrb.2 HR.out; clear hrb; have chb2 := hb1.trans (hb2.mono hb1.size); clear x0 x1 x2 x3 x4; obtain ⟨x0, x1, x2, x3, x4⟩ := BX.out _ chb2)
    | (go_at_call 18; refine (rcls_w _ _ _ c _ (by omega) (Lib.hid (.inr ⟨C2, P2, rfl, (HL.out _ chb2).2.2.2.1, (HL.out _ chb2).2.1⟩))).mono ?_; rintro e w3 ⟨⟨rb, rfl, hrb⟩, rfl⟩; obtain rfl : rb = true := hrb.2 HK.out; clear hrb)
    | (go_at_call_of 19 (some (Addr.mk D F none)); refine (rchosen_w _ _ _ _ _ _ _ _ _ _ _ _ s _ (by omega) (by omega) hll (Lib.hid (.inr ⟨D, F, rfl, (HL.out _ chb2).2.2.2.2.1, (HL.out _ chb2).2.2.1⟩))).mono ?_; rintro e w4 ⟨⟨rb, rfl, hrb⟩, hb4⟩; obtain rfl : rb = true := hrb.2 HQ.out; clear hrb; have chb4 := chb2.trans (hb4.mono chb2.size); clear x0 x1 x2 x3 x4; obtain ⟨x0, x1, x2, x3, x4⟩ := BX.out _ chb4)
    | (go_at_call 20; refine (heights_w _ _ _ _ _ _ _ _ _ _ p l _ _ _ _ r _ hlr (Lib.hid (HL.out _ chb4).1) (Lib.hid (HL.out _ chb4).2.2.2.2.2)).mono ?_; rintro e w41 ⟨⟨rb, rfl, hrb⟩, hb41⟩; obtain rfl : rb = false := (by cases rb <;> first | rfl | exact (HQZ.out (hrb.1 rfl)).elim); clear hrb; have chb41 := chb4.trans (hb41.mono chb4.size); clear x0 x1 x2 x3 x4; obtain ⟨x0, x1, x2, x3, x4⟩ := BX.out _ chb41)
    | (go_at_call 9; refine (K.out _).mono ?_; rintro e w11 ⟨rfl, hb11⟩))
  go_ret
  exact ⟨rfl, below_al (chb41.trans (hb11.mono chb41.size))⟩

end Go.Kn

namespace Go.Kn
open Go Go.Proofs Go.RowKit

set_option maxRecDepth 100000 in
set_option maxHeartbeats 4000000 in
theorem lawbo_d0 (il ih : Int) (C P cp A O ll cl : Nat) (p : Nat → Sp2) (l : Nat → Int) (C2 P2 lk ck : Nat) (c : Nat → Cl3) (D F cq : Nat) (s : Nat → Int) (n : Int) (ra : Option Addr) (lr cr : Nat) (r : Nat → Int) (w : World) (H : Hid (SipAt w C P (ll + 1) A O ll il ih p l)) (hC2 : C2 < w.heap.size) (HC : Hid (ClAt w C2 P2 lk c)) (HK : Hid (ClsP lk c)) (hD : D < w.heap.size) (HD : Hid (NumAt w D F ll s)) (HQ : Hid (ChoP lk ll ll s)) (hlr : lr ≤ maxLen) (HZ : Hid (IntSl w ra lr r)) (K : Hid KnownOk') (HQZ : Hid (HeiP il ih (ll + 1) p n lr r)) (HCH : Hid (cheap (sufL lk (cBu c (prOf il ih p)) l (cSt c) (cPr c) ll) = none)) :
    Calls Tryz.prog 4 #[.agg #[.int .i64 il, .int .i64 ih, .slice (some ⟨C, P, none⟩) (ll + 1) cp, .slice (some ⟨A, O, none⟩) ll cl], .slice (some ⟨C2, P2, none⟩) lk ck, .slice (some ⟨D, F, none⟩) ll cq, .int .i64 n, .slice ra lr cr] w
      fun e w' => e = .returned (.bool true) ∧ Below w.heap.size w w' := by
  have BX := Lib.hid (fun (w1 : World) (hb : Below (w.alloc (.cells #[.int .i64 il, .int .i64 ih, .slice (some ⟨C, P, none⟩) (ll + 1) cp, .slice (some ⟨A, O, none⟩) ll cl] 40)).heap.size (w.alloc (.cells #[.int .i64 il, .int .i64 ih, .slice (some ⟨C, P, none⟩) (ll + 1) cp, .slice (some ⟨A, O, none⟩) ll cl] 40)) w1) => bcell4 hb)
  have HL : Hid (∀ w1, Below (w.alloc (.cells #[.int .i64 il, .int .i64 ih, .slice (some ⟨C, P, none⟩) (ll + 1) cp, .slice (some ⟨A, O, none⟩) ll cl] 40)).heap.size (w.alloc (.cells #[.int .i64 il, .int .i64 ih, .slice (some ⟨C, P, none⟩) (ll + 1) cp, .slice (some ⟨A, O, none⟩) ll cl] 40)) w1 → SipAt w1 C P (ll + 1) A O ll il ih p l ∧ ClAt w1 C2 P2 lk c ∧ NumAt w1 D F ll s ∧ C2 < w1.heap.size ∧ D < w1.heap.size ∧ IntSl w1 ra lr r) := Lib.hid fun w1 h => ⟨H.out.below (below_al h), HC.out.below hC2 (below_al h), HD.out.below hD (below_al h), Nat.lt_of_lt_of_le hC2 (below_al h).size, Nat.lt_of_lt_of_le hD (below_al h).size, HZ.out.below (below_al h)⟩
  have q1 := H.out.lp1
  have q2 := H.out.lp2
  have g1 := HK.out.n1
  have g2 := HK.out.n2
  have hlp : ll + 1 ≤ maxLen := by unfold maxLen; omega
  have hll : ll ≤ maxLen := by unfold maxLen; omega
  have hlk : lk ≤ maxLen := by unfold maxLen; omega
  have hsh : decide (ll + 1 ≤ 10 ∧ ll ≤ 10 ∧ lk ≤ 6) = true := decide_eq_true ⟨by omega, by omega, by omega⟩
  have HR : Hid (SipP il ih (ll + 1) ll p l) := Lib.hid H.out.ok
  have hf1 : fstV none = .slice none 0 0 := rfl
  have hf2 : ∀ y : Yd, fstV (some y) = .slice (some ⟨y.g, 0, none⟩) y.c.length y.cap := fun _ => rfl
  have hf3 : fstQ none = 0 := rfl
  have hf4 : ∀ y : Yd, fstQ (some y) = y.q := fun _ => rfl
  have hq5 : ¬ (10 : Int) < (ll : Int) := by omega
  obtain ⟨i0, hi, hz0, hz1, hz2⟩ := info_parts info4M
  have hll1 : 1 ≤ ll := by omega
  have HIH : Hid (hOk il ∧ hOk ih ∧ il ≤ ih) := Lib.hid (spanB_h H.out.iok)
  have HPK : Hid (∀ i, i < ll + 1 → hOk (p i).lo ∧ hOk (p i).hi ∧ (p i).lo ≤ (p i).hi) := Lib.hid fun i hi => spanB_h (H.out.pok i hi)
  have HNO : Hid (hOk n ∧ n ≤ ih) := Lib.hid (by have h1 := HIH.out; have h2 := HQZ.out.n1; have h3 := HQZ.out.n2; obtain ⟨⟨_, _⟩, ⟨_, _⟩, _⟩ := h1; exact ⟨⟨by omega, by omega⟩, h3⟩)
  have HRO : Hid (∀ i, i < ll + 1 → hOk (r i) ∧ (p i).lo ≤ r i) := Lib.hid fun i hi => by
    obtain ⟨⟨_, _⟩, ⟨_, _⟩, _⟩ := HPK.out i hi
    have := HQZ.out.at_ i hi
    exact ⟨⟨by omega, by omega⟩, this.1⟩
  have HLR := Lib.hid HQZ.out.lq
  go_enter Tryz.func4, Tryz.ntmps4
  go_wp2_with (first
    | (go_at_call 16; refine (slim_w _ _ _ _ _ _ _ _ _ _ _ _ hlp hll hlk).mono ?_; rw [hsh]; rintro e w1 ⟨rfl, hb1⟩; obtain ⟨x0, x1, x2, x3, x4⟩ := BX.out _ hb1)
    | (go_at_call 17; refine (rsiph_w _ _ _ _ _ _ _ _ p l _ (by omega) (by omega) (Lib.hid (HL.out _ hb1).1.any)).mono ?_; rintro e w2 ⟨⟨rb, rfl, hrb⟩, hb2⟩; obtain rfl : rb = true := hrb.2 HR.out; clear hrb; have chb2 := hb1.trans (hb2.mono hb1.size); clear x0 x1 x2 x3 x4; obtain ⟨x0, x1, x2, x3, x4⟩ := BX.out _ chb2)
    | (go_at_call 18; refine (rcls_w _ _ _ c _ (by omega) (Lib.hid (.inr ⟨C2, P2, rfl, (HL.out _ chb2).2.2.2.1, (HL.out _ chb2).2.1⟩))).mono ?_; rintro e w3 ⟨⟨rb, rfl, hrb⟩, rfl⟩; obtain rfl : rb = true := hrb.2 HK.out; clear hrb)
    | (go_at_call_of 19 (some (Addr.mk D F none)); refine (rchosen_w _ _ _ _ _ _ _ _ _ _ _ _ s _ (by omega) (by omega) hll (Lib.hid (.inr ⟨D, F, rfl, (HL.out _ chb2).2.2.2.2.1, (HL.out _ chb2).2.2.1⟩))).mono ?_; rintro e w4 ⟨⟨rb, rfl, hrb⟩, hb4⟩; obtain rfl : rb = true := hrb.2 HQ.out; clear hrb; have chb4 := chb2.trans (hb4.mono chb2.size); clear x0 x1 x2 x3 x4; obtain ⟨x0, x1, x2, x3, x4⟩ := BX.out _ chb4)
    | (go_at_call 20; refine (heights_w _ _ _ _ _ _ _ _ _ _ p l _ _ _ _ r _ hlr (Lib.hid (HL.out _ chb4).1) (Lib.hid (HL.out _ chb4).2.2.2.2.2)).mono ?_; rintro e w41 ⟨⟨rb, rfl, hrb⟩, hb41⟩; obtain rfl : rb = true := hrb.2 HQZ.out; clear hrb; have chb41 := chb4.trans (hb41.mono chb4.size); clear x0 x1 x2 x3 x4; obtain ⟨x0, x1, x2, x3, x4⟩ := BX.out _ chb41)
    | (go_at_call 21; refine (pbursts_w _ _ _ _ _ _ _ _ _ p l _ _ _ _ c _ _ _ s _ (Lib.hid (HL.out _ chb41).1) (HL.out _ chb41).2.2.2.1 (Lib.hid (HL.out _ chb41).2.1) HK.out (HL.out _ chb41).2.2.2.2.1 (Lib.hid (HL.out _ chb41).2.2.1) HQ).mono ?_; rintro e w42 ⟨⟨v, n2, rfl, hv⟩, hb42⟩; obtain ⟨va, vc, rfl, hn2, hvs⟩ := intSl_of_owns hv; have HV := Lib.hid hvs; have HN2 := Lib.hid hn2; have hn3 := (by have := pick_len (burB (prOf il ih p) c s) ll; omega : n2 ≤ ll); clear hvs hv hn2; have chb42 := chb41.trans (hb42.mono chb41.size); clear x0 x1 x2 x3 x4; obtain ⟨x0, x1, x2, x3, x4⟩ := BX.out _ chb42)
    | (go_at_call 22; refine (ppipes_w _ _ _ _ _ _ _ _ _ p l _ _ _ _ c _ (Lib.hid (HL.out _ chb42).1) (HL.out _ chb42).2.2.2.1 (Lib.hid (HL.out _ chb42).2.1) HK).mono ?_; rintro e w5 ⟨hb5, o, ho, rfl, hy⟩; obtain rfl : o = none := (by rw [HCH.out] at ho; cases o <;> first | rfl | cases ho); clear ho hy; have HV5 := Lib.hid (HV.out.below hb5); have chb5 := chb42.trans (hb5.mono chb42.size); clear x0 x1 x2 x3 x4; obtain ⟨x0, x1, x2, x3, x4⟩ := BX.out _ chb5)
    | (at_make; refine wpList_make_full _ rfl _ _ 51 rfl w5.heap.size 4 i0 _ 1 Tryz.underlying51 hi hz0 hz1 _ _ _ _ ll rfl rfl rfl rfl (by rw [hz2]; omega) (by unfold maxLen; omega) (by simp) ?_; intro w9 hown hgrow))
  have hXb := chb5
  have hB9 : Below w5.heap.size w5 w9 := (Below.refl _ _).grown hgrow (Nat.le_refl _) (fun k h => by cases h)
  have hM := boolAt_of_make hown hll1
  obtain ⟨E, U, hrae, hE, hrn⟩ := ((HL.out _ chb5).2.2.2.2.2).resolve_left (by have := HLR.out; omega)
  have hlr1 := HLR.out
  subst hrae
  subst hlr1
  have HE := Lib.hid hrn
  clear hrn
  obtain ⟨x0, x1, x2, x3, x4⟩ := BX.out _ chb5
  have FX : Hid (∀ w', Below w5.heap.size w5 w' → (NumAt w' D F ll s ∧ ClAt w' C2 P2 lk c ∧ NumAt w' E U (ll + 1) r ∧ SpAt w' C P (ll + 1) p) ∧ (w'.cell? ⟨w.heap.size, 1, none⟩ = some (.int .i64 ih) ∧ w'.cell? ⟨w.heap.size, 2, none⟩ = some (.slice (some ⟨C, P, none⟩) (ll + 1) cp)) ∧ IntSl w' va n2 (fun i => (pick (burB (prOf il ih p) c s) ll).getD i 0)) := Lib.hid fun w' h => by
    have hh := chb5.trans (h.mono chb5.size)
    obtain ⟨z0, z1, z2, z3, z4⟩ := BX.out _ hh
    exact ⟨⟨(HL.out _ hh).2.2.1, (HL.out _ hh).2.1, HE.out.below hE h, (HL.out _ hh).1.sp⟩, ⟨z1, z2⟩, HV5.out.below h⟩
  have HB0 : Hid (Below w.heap.size w w5) := Lib.hid (below_al chb5)
  have HM := Lib.hid hM
  have HB9 := Lib.hid hB9
  obtain ⟨M, hMe⟩ : ∃ M, M = w5.heap.size := ⟨_, rfl⟩
  rw [← hMe] at HM ⊢
  have HME := Lib.hid hMe
  clear hM hB9 hown hgrow hMe x0 x1 x2 x3 x4 hXb
  go_loopw [17] (fun kk wr => ∃ m : Nat, m ≤ n2 ∧ kk = .int .i64 m ∧ Below w5.heap.size w5 wr ∧ BoolAt wr M ll (metB (pick (burB (prOf il ih p) c s) ll) m)) (fun kk _ => n2 - (intOf kk).toNat)
  case atStart => exact ⟨0, Nat.zero_le _, rfl, HB9.out, HM.out.congr fun j _ => (metB_zero _ _).symm⟩
  case round =>
    obtain ⟨m, hm, rfl, hbw, hbo⟩ := hrel
    have HBO := Lib.hid hbo
    have HBW := Lib.hid hbw
    clear hbo hbw
    have hMw : M < wr.heap.size := HBO.out.1
    by_cases hlt : m < n2
    · obtain ⟨Av, Ov, rfl, hAv, hnum⟩ := (FX.out _ HBW.out).2.2.resolve_left (by omega)
      obtain ⟨j, hj, hjl, _⟩ := pick_get (b := burB (prOf il ih p) c s) (n := ll) (k := m) (by have := HN2.out; omega)
      have HST := Lib.hid (metB_succ (L := pick (burB (prOf il ih p) c s) ll) (k := m) (by have := HN2.out; omega))
      have HJ := Lib.hid hj
      have y0 := hnum m hlt
      simp only [hj] at y0
      have n1 : (0 : Int) ≤ (m : Int) := by omega
      have nn2 : (m : Int) < (n2 : Int) := by omega
      have n3 : (0 : Int) ≤ (j : Int) := by omega
      have n3' : ¬ (j : Int) < 0 := by omega
      have n4 : (j : Int) < (ll : Int) := by omega
      have n4' : ¬ (ll : Int) ≤ (j : Int) := by omega
      have n5 : ¬ ll ≤ j := by omega
      have n6 : decide (ll ≤ j) = false := decide_eq_false n5
      have n7 : decide ((ll : Int) ≤ (j : Int)) = false := decide_eq_false n4'
      by_cases h0 : m = 0
      · subst h0
        simp only [Nat.add_zero] at y0
        have FY : Hid (∀ w', Below wr.heap.size wr w' → w'.cell? ⟨Av, Ov, none⟩ = some (.int .i64 (j : Int)) ∧ True) := Lib.hid fun w' h => ⟨(h.cell (p := ⟨Av, Ov, none⟩) hAv).trans y0, trivial⟩
        go_wp2
        refine wp_region_calm (W := wr) (by kernel_rfl) (by kernel_rfl) (Below.refl _ _) ?_
        repeat (first
          | (refine calm_no (by rfl) ?_
             (try simp only [Act.put, List.setIfInBounds_toArray, List.set_cons_zero, List.set_cons_succ]))
          | (apply calm_yes
             focus rfl
             focus
               intro w' hw'
               obtain ⟨y1, _⟩ := FY.out w' hw'
               go_simp
               first
                 | done
                 | with_reducible rfl
                 | fail
             (try simp only [Act.put, List.setIfInBounds_toArray, List.set_cons_zero, List.set_cons_succ])))
        refine calm_nil ?_
        intro w20 hb20
        have HBO2 := HBO.out.below hMw hb20
        obtain ⟨c1, c2⟩ := HBO2.2 j hjl
        have y2 := (FY.out _ hb20).1
        have HBO3 := Lib.hid (HBO2.set hjl true)
        have HB20 := Lib.hid hb20
        clear HBO2
        go_wp2
        go_roundw
        case rel => exact ⟨0 + 1, by omega, by go_num, (HBW.out.trans (HB20.out.mono HBW.out.size)).setCell (by have := HME.out; simp only []; omega) _, HBO3.out.congr fun i hi => by (rw [HST.out, HJ.out]; by_cases e : i = j; (subst e; simp); (rw [if_neg e, if_neg (by omega)]))⟩
        case measure => simp [intOf]; omega
      · obtain ⟨m, rfl⟩ : ∃ m', m = m' + 1 := ⟨m - 1, by omega⟩
        obtain ⟨j2, hj2, _, _⟩ := pick_get (b := burB (prOf il ih p) c s) (n := ll) (k := m) (by have := HN2.out; omega)
        have hlt2 := pick_lt (b := burB (prOf il ih p) c s) (n := ll) (k := m) (by have := HN2.out; omega)
        rw [hj2, hj] at hlt2
        have y9 := hnum m (by omega)
        simp only [hj2] at y9
        have h0' : (0 : Int) < (m : Int) + 1 := by omega
        have e1 : IntKind.i64.wrap (m : Int) = (m : Int) := IntWalk.i64_in _ (by omega)
        have e2 : (0 : Int) ≤ (m : Int) := by omega
        have e3 : (m : Int) < (n2 : Int) := by omega
        have e3' : (m : Int) + 1 < (n2 : Int) := by omega
        have e2' : (0 : Int) ≤ (m : Int) + 1 := by omega
        have e4 : ((m : Int) + 1).toNat = m + 1 := by omega
        have e5 : ¬ (j : Int) ≤ (j2 : Int) := by omega
        have e6 : ¬ j ≤ j2 := by omega
        have e7 : decide (j ≤ j2) = false := decide_eq_false e6
        have e8 : decide ((j : Int) ≤ (j2 : Int)) = false := decide_eq_false e5
        have h0e : decide ((0 : Int) < (m : Int) + 1) = true := decide_eq_true h0'
        have FY : Hid (∀ w', Below wr.heap.size wr w' → w'.cell? ⟨Av, Ov + (m + 1), none⟩ = some (.int .i64 (j : Int)) ∧ w'.cell? ⟨Av, Ov + m, none⟩ = some (.int .i64 (j2 : Int))) := Lib.hid fun w' h => ⟨(h.cell (p := ⟨Av, Ov + (m + 1), none⟩) hAv).trans y0, (h.cell (p := ⟨Av, Ov + m, none⟩) hAv).trans y9⟩
        go_wp2
        refine wp_region_calm (W := wr) (by kernel_rfl) (by kernel_rfl) (Below.refl _ _) ?_
        repeat (first
          | (refine calm_no (by rfl) ?_
             (try simp only [Act.put, List.setIfInBounds_toArray, List.set_cons_zero, List.set_cons_succ]))
          | (apply calm_yes
             focus rfl
             focus
               intro w' hw'
               obtain ⟨y1, y3⟩ := FY.out w' hw'
               go_simp
               first
                 | done
                 | with_reducible rfl
                 | fail
             (try simp only [Act.put, List.setIfInBounds_toArray, List.set_cons_zero, List.set_cons_succ])))
        refine calm_nil ?_
        intro w20 hb20
        have HBO2 := HBO.out.below hMw hb20
        obtain ⟨c1, c2⟩ := HBO2.2 j hjl
        have y2 := (FY.out _ hb20).1
        have HBO3 := Lib.hid (HBO2.set hjl true)
        have HB20 := Lib.hid hb20
        clear HBO2
        go_wp2
        go_roundw
        case rel => exact ⟨m + 1 + 1, by omega, by go_num, (HBW.out.trans (HB20.out.mono HBW.out.size)).setCell (by have := HME.out; simp only []; omega) _, HBO3.out.congr fun i hi => by (rw [HST.out, HJ.out]; by_cases e : i = j; (subst e; simp); (rw [if_neg e, if_neg (by omega)]))⟩
        case measure => simp [intOf]; omega
    · obtain rfl : m = n2 := by omega
      obtain ⟨wm, rfl⟩ : ∃ wm, wm = wr := ⟨_, rfl⟩
      have HBE : Hid (BoolAt wm M ll (burB (prOf il ih p) c s)) := Lib.hid (HBO.out.congr fun j hj => by have := HN2.out; rw [this]; exact metB_end hj)
      go_wp2
      go_loopw [18] (fun kk w2 => ∃ k : Nat, k ≤ ll ∧ kk = .int .i64 k ∧ Below wm.heap.size wm w2) (fun kk _ => ll - (intOf kk).toNat)
      case atStart => exact ⟨0, Nat.zero_le _, rfl, Below.refl _ _⟩
      case round =>
        obtain ⟨k, hk, rfl, hb2⟩ := hrel
        have HB2 := Lib.hid hb2
        clear hb2
        by_cases hk1 : k < ll
        · have hMw2 : M < wr.heap.size := Nat.lt_of_lt_of_le hMw HB2.out.size
          have hFB := Lib.hid (HBW.out.trans (HB2.out.mono HBW.out.size))
          obtain ⟨⟨f1, f2, f3, f4⟩, ⟨f5, f6⟩, f7⟩ := FX.out _ hFB.out
          clear f7
          have hq := HQ.out.ok k hk1
          simp only [fromB, decide_eq_true_eq] at hq
          obtain ⟨j, hj⟩ : ∃ j : Nat, s k = (j : Int) := ⟨(s k).toNat, by omega⟩
          have hjn : (s k).toNat = j := by omega
          have y0 := f1 k hk1
          rw [hj] at y0
          obtain ⟨y3, _, _⟩ := f2 j (by omega)
          have y1 := f3 k (by omega)
          have y2 := f3 (k + 1) (by omega)
          obtain ⟨y4, _⟩ := f4 k (by omega)
          obtain ⟨y5, _⟩ := f4 (k + 1) (by omega)
          obtain ⟨c1, _⟩ := (HBE.out.below hMw HB2.out).2 k hk1
          have n1 : (0 : Int) ≤ (k : Int) := by omega
          have n2' : (k : Int) < (ll : Int) := by omega
          have n3 : (0 : Int) ≤ (j : Int) := by omega
          have n4 : (j : Int) < (lk : Int) := by omega
          have n5 : IntKind.i64.wrap ((k : Int) + 1) = (k : Int) + 1 := IntWalk.i64_in _ (by omega)
          have n6 : (0 : Int) ≤ (k : Int) + 1 := by omega
          have n7 : (k : Int) + 1 < (ll : Int) + 1 := by omega
          have n7' : (k : Int) + 1 < ((ll + 1 : Nat) : Int) := by omega
          have n8 : ((k : Int) + 1).toNat = k + 1 := by omega
          have n9 : (k : Int) < (ll : Int) + 1 := by omega
          have n9' : (k : Int) < ((ll + 1 : Nat) : Int) := by omega
          have FA : Hid (∀ w', Below wr.heap.size wr w' → w'.cell? ⟨E, U + k, none⟩ = some (.int .i64 (r k)) ∧ w'.cell? ⟨E, U + (k + 1), none⟩ = some (.int .i64 (r (k + 1))) ∧ w'.cell? ⟨D, F + k, none⟩ = some (.int .i64 (j : Int)) ∧ w'.cell? ⟨C2, P2 + j * 3, none⟩ = some (.int .i64 (c j).be) ∧ w'.cell? ⟨C, P + k * 2, none⟩ = some (.int .i64 (p k).lo) ∧ w'.cell? ⟨C, P + (k + 1) * 2, none⟩ = some (.int .i64 (p (k + 1)).lo) ∧ w'.cell? ⟨w.heap.size, 1, none⟩ = some (.int .i64 ih) ∧ w'.cell? ⟨w.heap.size, 2, none⟩ = some (.slice (some ⟨C, P, none⟩) (ll + 1) cp) ∧ w'.cell? ⟨M, k, none⟩ = some (.bool (burB (prOf il ih p) c s k))) := Lib.hid fun w' h => by
            obtain ⟨⟨f1, f2, f3, f4⟩, ⟨f5, f6⟩, f7⟩ := FX.out _ (hFB.out.trans (h.mono hFB.out.size))
            have y0 := f1 k hk1
            rw [hj] at y0
            exact ⟨f3 k (by omega), f3 (k + 1) (by omega), y0, (f2 j (by omega)).1, (f4 k (by omega)).1, (f4 (k + 1) (by omega)).1, f5, f6, ((HBE.out.below hMw HB2.out).below hMw2 h).2 k hk1 |>.1⟩
          clear f1 f2 f3 f4 f5 f6 y0 y1 y2 y3 y4 y5 c1
          obtain ⟨hr1, hr2⟩ := HRO.out k (by omega)
          obtain ⟨hr3, hr4⟩ := HRO.out (k + 1) (by omega)
          obtain ⟨hp1, _, _⟩ := HPK.out k (by omega)
          obtain ⟨hp2, _, _⟩ := HPK.out (k + 1) (by omega)
          have HN := HNO.out
          have hih := HIH.out.2.1
          have HW : Hid (presV ih (p k).lo (p (k + 1)).lo = (prOf il ih p k).hi) := Lib.hid (by simp only [presV, prOf, prHi]; omega)
          have hle : presV n (r k) (r (k + 1)) ≤ (prOf il ih p k).hi := by rw [← HW.out]; simp only [presV]; have := HN.2; omega
          have HBU : Hid (burB (prOf il ih p) c s k = decide ((c j).be < (prOf il ih p k).hi)) := Lib.hid (by simp only [burB, hjn])
          obtain ⟨N, hN⟩ : ∃ N, presV n (r k) (r (k + 1)) = N := ⟨_, rfl⟩
          have HNN := Lib.hid hN
          rw [hN] at hle
          obtain ⟨Wt, hWt⟩ : ∃ Wt, (prOf il ih p k).hi = Wt := ⟨_, rfl⟩
          have HWT := Lib.hid hWt
          rw [hWt] at hle
          obtain ⟨Be, hBe⟩ : ∃ Be, (c j).be = Be := ⟨_, rfl⟩
          have HBEE := Lib.hid hBe
          obtain ⟨bu, hbu⟩ : ∃ bu, burB (prOf il ih p) c s k = bu := ⟨_, rfl⟩
          have HBUE := Lib.hid hbu
          have hbv : bu = decide (Be < Wt) := by rw [← hbu, HBU.out, hBe, hWt]
          have HBV := Lib.hid hbv
          have hNH := Lib.hid HN.1
          clear hN hWt hBe hbu hbv hr2 hr4 HN hq
          go_wp2
          refine wp_region_calm (W := wr) (by kernel_rfl) (by kernel_rfl) (Below.refl _ _) ?_
          repeat (first
            | (refine calm_no (by rfl) ?_
               (try simp only [Act.put, List.setIfInBounds_toArray, List.set_cons_zero, List.set_cons_succ]))
            | (apply calm_yes
               focus rfl
               focus
                 intro w' hw'
                 obtain ⟨g1, g2, g3, g4, g5, g6, g7, g8, g9⟩ := FA.out w' hw'
                 go_simp
                 first
                   | done
                   | with_reducible rfl
                   | (go_at_call 23; refine (pressure_w _ _ _ _ hNH.out hr1 hr3).mono ?_; rintro e w8 ⟨rfl, rfl⟩; rw [HNN.out]; exact ⟨rfl, hw'⟩)
               (try simp only [Act.put, List.setIfInBounds_toArray, List.set_cons_zero, List.set_cons_succ])))
          refine calm_nil ?_
          intro w21 hb21
          have hb21s := hb21.size
          have FB : Hid (∀ w', Below w21.heap.size w21 w' → w'.cell? ⟨D, F + k, none⟩ = some (.int .i64 (j : Int)) ∧ w'.cell? ⟨C2, P2 + j * 3, none⟩ = some (.int .i64 Be) ∧ w'.cell? ⟨C, P + k * 2, none⟩ = some (.int .i64 (p k).lo) ∧ w'.cell? ⟨C, P + (k + 1) * 2, none⟩ = some (.int .i64 (p (k + 1)).lo) ∧ w'.cell? ⟨w.heap.size, 1, none⟩ = some (.int .i64 ih) ∧ w'.cell? ⟨w.heap.size, 2, none⟩ = some (.slice (some ⟨C, P, none⟩) (ll + 1) cp) ∧ w'.cell? ⟨M, k, none⟩ = some (.bool bu)) := Lib.hid fun w' h => by
            obtain ⟨_, _, g3, g4, g5, g6, g7, g8, g9⟩ := FA.out _ (hb21.trans (h.mono hb21s))
            rw [HBEE.out] at g4
            rw [HBUE.out] at g9
            exact ⟨g3, g4, g5, g6, g7, g8, g9⟩
          have HB21 := Lib.hid hb21
          clear hb21
          go_wp2
          refine wp_region_calm (W := w21) (by kernel_rfl) (by kernel_rfl) (Below.refl _ _) ?_
          repeat (first
            | (refine calm_no (by rfl) ?_
               (try simp only [Act.put, List.setIfInBounds_toArray, List.set_cons_zero, List.set_cons_succ]))
            | (apply calm_yes
               focus rfl
               focus
                 intro w' hw'
                 obtain ⟨g3, g4, g5, g6, g7, g8, g9⟩ := FB.out w' hw'
                 go_simp
                 first
                   | done
                   | with_reducible rfl
                   | (go_at_call 23; refine (pressure_w _ _ _ _ hih hp1 hp2).mono ?_; rintro e w8 ⟨rfl, rfl⟩; rw [HW.out, HWT.out]; exact ⟨rfl, hw'⟩)
               (try simp only [Act.put, List.setIfInBounds_toArray, List.set_cons_zero, List.set_cons_succ])))
          refine calm_nil ?_
          intro w22 hb22
          obtain ⟨k3, k4, _, _, _, _, k9⟩ := FB.out _ hb22
          have HBX := Lib.hid ((HB21.out.trans (hb22.mono hb21s)))
          clear hb22
          have hbx := HBX.out.size
          by_cases hc : Be < Wt
          · have hb1 : bu = true := by rw [HBV.out]; exact decide_eq_true hc
            subst hb1
            have hc' : ¬ Wt ≤ Be := by omega
            by_cases hd : Be < N
            · go_wp2
              go_roundw
              case rel => exact ⟨k + 1, by omega, by go_num, HB2.out.trans (HBX.out.mono HB2.out.size)⟩
              case measure => simp [intOf]; omega
            · go_wp2
              go_roundw
              case rel => exact ⟨k + 1, by omega, by go_num, HB2.out.trans (HBX.out.mono HB2.out.size)⟩
              case measure => simp [intOf]; omega
          · have hb1 : bu = false := by rw [HBV.out]; exact decide_eq_false hc
            subst hb1
            have hd : ¬ Be < N := by omega
            go_wp2
            go_roundw
            case rel => exact ⟨k + 1, by omega, by go_num, HB2.out.trans (HBX.out.mono HB2.out.size)⟩
            case measure => simp [intOf]; omega
        · go_wp2_with (go_at_call 9; refine (K.out _).mono ?_; rintro e w11 ⟨rfl, hb11⟩)
          go_ret
          have hbb := HBW.out.trans (HB2.out.mono HBW.out.size)
          exact ⟨rfl, HB0.out.trans ((hbb.trans (hb11.mono hbb.size)).mono HB0.out.size)⟩

end Go.Kn
