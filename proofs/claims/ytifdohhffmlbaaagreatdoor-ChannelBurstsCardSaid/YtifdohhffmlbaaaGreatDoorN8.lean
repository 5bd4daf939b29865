/- Walks of the functions of layer 2 that ChannelHeights calls, and the law itself (a part of it). Conditions: as each theorem states them. -/
import Derived.Test.YtifdohhffmlbaaaGreatDoorN7
set_option linter.unusedVariables false
set_option linter.unusedSimpArgs false
namespace Go.Kn
open Go Go.Proofs Go.RowKit

def IntSl (w : World) (sa : Option Addr) (ls : Nat) (s : Nat → Int) : Prop := ls = 0 ∨ ∃ A O, sa = some ⟨A, O, none⟩ ∧ A < w.heap.size ∧ NumAt w A O ls s
def SpSl (w : World) (ta : Option Addr) (lt : Nat) (t : Nat → Sp2) : Prop := lt = 0 ∨ ∃ C P, ta = some ⟨C, P, none⟩ ∧ C < w.heap.size ∧ SpAt w C P lt t
theorem IntSl.below {w w1 : World} {sa : Option Addr} {ls : Nat} {s : Nat → Int} (h : IntSl w sa ls s) (hb : Below w.heap.size w w1) : IntSl w1 sa ls s := by
  rcases h with h | ⟨A, O, h1, h2, h3⟩
  · exact .inl h
  · exact .inr ⟨A, O, h1, Nat.lt_of_lt_of_le h2 hb.size, h3.below h2 hb⟩
theorem SpSl.below {w w1 : World} {ta : Option Addr} {lt : Nat} {t : Nat → Sp2} (h : SpSl w ta lt t) (hb : Below w.heap.size w w1) : SpSl w1 ta lt t := by
  rcases h with h | ⟨A, O, h1, h2, h3⟩
  · exact .inl h
  · exact .inr ⟨A, O, h1, Nat.lt_of_lt_of_le h2 hb.size, h3.below h2 hb⟩
structure AnySip (w : World) (pa la : Option Addr) (lp ll : Nat) (p : Nat → Sp2) (l : Nat → Int) : Prop where
  hp : SpSl w pa lp p
  hl : IntSl w la ll l
theorem AnySip.below {w w1 : World} {pa la : Option Addr} {lp ll : Nat} {p : Nat → Sp2} {l : Nat → Int} (h : AnySip w pa la lp ll p l) (hb : Below w.heap.size w w1) : AnySip w1 pa la lp ll p l := ⟨h.hp.below hb, h.hl.below hb⟩
structure SipP (il ih : Int) (lp ll : Nat) (p : Nat → Sp2) (l : Nat → Int) : Prop where
  iok : spanB 1000 il ih = true
  lp1 : 2 ≤ lp
  lp2 : lp ≤ 8
  lpe : lp = ll + 1
  pok : SpOk lp p
  lok : ∀ k, k < ll → fromB 1 100 (l k) = true
theorem no_iff' {p : Prop} (h : p → False) : (false = true ↔ p) := ⟨fun e => Bool.noConfusion e, fun x => (h x).elim⟩
theorem bcell4 {w w1 : World} {x y z u : Value} {T : TypeId} (hb : Below (w.alloc (.cells #[x, y, z, u] T)).heap.size (w.alloc (.cells #[x, y, z, u] T)) w1) :
    w1.cell? ⟨w.heap.size, 0, none⟩ = some x ∧ w1.cell? ⟨w.heap.size, 1, none⟩ = some y ∧ w1.cell? ⟨w.heap.size, 2, none⟩ = some z ∧ w1.cell? ⟨w.heap.size, 3, none⟩ = some u ∧ w.heap.size < w1.heap.size := by
  obtain ⟨hc, _⟩ := bcell hb
  refine ⟨(hc _ _ (by simp)).trans (by simp), (hc _ _ (by simp)).trans (by simp), (hc _ _ (by simp)).trans (by simp), (hc _ _ (by simp)).trans (by simp), ?_⟩
  have := hb.size
  simp at this; omega

set_option maxRecDepth 100000 in
set_option maxHeartbeats 4000000 in
theorem isSiphon_w (il ih : Int) (pa la : Option Addr) (lp cp ll cl : Nat) (p : Nat → Sp2) (l : Nat → Int) (w : World) (hlp : lp ≤ 1000000) (hll : ll ≤ 1000000) (H : Hid (AnySip w pa la lp ll p l)) :
    Calls Tryz.prog 79 #[.agg #[.int .i64 il, .int .i64 ih, .slice pa lp cp, .slice la ll cl]] w
      fun e w' => (∃ rb : Bool, e = .returned (.bool rb) ∧ (rb = true ↔ SipP il ih lp ll p l)) ∧ Below w.heap.size w w' := by
  have BX := Lib.hid (fun (w1 : World) (hb : Below (w.alloc (.cells #[.int .i64 il, .int .i64 ih, .slice pa lp cp, .slice la ll cl] 70)).heap.size (w.alloc (.cells #[.int .i64 il, .int .i64 ih, .slice pa lp cp, .slice la ll cl] 70)) w1) => bcell4 hb)
  have HL : Hid (∀ w1, Below (w.alloc (.cells #[.int .i64 il, .int .i64 ih, .slice pa lp cp, .slice la ll cl] 70)).heap.size (w.alloc (.cells #[.int .i64 il, .int .i64 ih, .slice pa lp cp, .slice la ll cl] 70)) w1 → AnySip w1 pa la lp ll p l) := Lib.hid fun w1 h => H.out.below (below_al h)
  cases HI : spanB 1000 il ih
  case false =>
    go_enter Tryz.func79, Tryz.ntmps79
    go_wp2_with (first
      | (go_at_call 107; refine (isHeight_w _ _ _).mono ?_; rw [HI]; rintro e w1 ⟨rfl, hb1⟩; obtain ⟨x0, x1, x2, x3, x4⟩ := BX.out _ hb1))
    go_ret

    exact ⟨⟨false, rfl, no_iff' (fun h => by rw [h.iok] at HI; cases HI)⟩, below_al hb1⟩
  cases f2 : fromB 2 8 (lp : Int)
  case false =>
    go_enter Tryz.func79, Tryz.ntmps79
    go_wp2_with (first
      | (go_at_call 107; refine (isHeight_w _ _ _).mono ?_; rw [HI]; rintro e w1 ⟨rfl, hb1⟩; obtain ⟨x0, x1, x2, x3, x4⟩ := BX.out _ hb1)
      | (go_at_call 88; refine (isFrom_w _ _ _ _).mono ?_; rintro e w' ⟨rfl, rfl⟩))
    go_ret

    exact ⟨⟨false, rfl, no_iff' (fun h => by have := h.lp1; have := h.lp2; simp only [fromB, decide_eq_false_iff_not] at f2; omega)⟩, below_al hb1⟩
  have g2 : 2 ≤ lp ∧ lp ≤ 8 := by simp only [fromB, decide_eq_true_eq] at f2; omega
  obtain ⟨C, P, rfl, hC, hst⟩ := H.out.hp.resolve_left (by omega)
  have HSPA : Hid (∀ w1, Below (w.alloc (.cells #[.int .i64 il, .int .i64 ih, .slice (some ⟨C, P, none⟩) lp cp, .slice la ll cl] 70)).heap.size (w.alloc (.cells #[.int .i64 il, .int .i64 ih, .slice (some ⟨C, P, none⟩) lp cp, .slice la ll cl] 70)) w1 → SpAt w1 C P lp p) := Lib.hid fun w1 h => hst.below hC (below_al h)
  clear hst
  by_cases hs : SpOk lp p
  case neg =>
    have HS := Lib.hid hs
    clear hs
    go_enter Tryz.func79, Tryz.ntmps79
    go_wp2_with (first
      | (go_at_call 107; refine (isHeight_w _ _ _).mono ?_; rw [HI]; rintro e w1 ⟨rfl, hb1⟩; obtain ⟨x0, x1, x2, x3, x4⟩ := BX.out _ hb1)
      | (go_at_call 88; refine (isFrom_w _ _ _ _).mono ?_; rintro e w' ⟨rfl, rfl⟩)
      | (go_at_call 108; refine (allHeight_w _ _ _ _ p _ (by omega) (by omega) (HSPA.out _ hb1)).mono ?_; rintro e w2 ⟨⟨rb, rfl, hrb⟩, hb2⟩; obtain rfl : rb = false := (by cases rb <;> first | rfl | exact (HS.out (hrb.1 rfl)).elim); clear hrb; have hb12 := hb1.trans (hb2.mono hb1.size); clear x0 x1 x2 x3 x4; obtain ⟨x0, x1, x2, x3, x4⟩ := BX.out _ hb12))
    go_ret

    exact ⟨⟨false, rfl, no_iff' (fun h => HS.out h.pok)⟩, below_al hb12⟩
  have HS := Lib.hid hs
  clear hs
  by_cases hle : lp = ll + 1
  case neg =>
    go_enter Tryz.func79, Tryz.ntmps79
    go_wp2_with (first
      | (go_at_call 107; refine (isHeight_w _ _ _).mono ?_; rw [HI]; rintro e w1 ⟨rfl, hb1⟩; obtain ⟨x0, x1, x2, x3, x4⟩ := BX.out _ hb1)
      | (go_at_call 88; refine (isFrom_w _ _ _ _).mono ?_; rintro e w' ⟨rfl, rfl⟩)
      | (go_at_call 108; refine (allHeight_w _ _ _ _ p _ (by omega) (by omega) (HSPA.out _ hb1)).mono ?_; rintro e w2 ⟨⟨rb, rfl, hrb⟩, hb2⟩; obtain rfl : rb = true := hrb.2 HS.out; clear hrb; have hb12 := hb1.trans (hb2.mono hb1.size); clear x0 x1 x2 x3 x4; obtain ⟨x0, x1, x2, x3, x4⟩ := BX.out _ hb12))
    go_ret

    exact ⟨⟨false, rfl, no_iff' (fun h => hle h.lpe)⟩, below_al hb12⟩
  subst hle
  obtain ⟨A, O, rfl, hA, hln⟩ := H.out.hl.resolve_left (by omega)
  have HLN : Hid (∀ w1, Below (w.alloc (.cells #[.int .i64 il, .int .i64 ih, .slice (some ⟨C, P, none⟩) (ll + 1) cp, .slice (some ⟨A, O, none⟩) ll cl] 70)).heap.size (w.alloc (.cells #[.int .i64 il, .int .i64 ih, .slice (some ⟨C, P, none⟩) (ll + 1) cp, .slice (some ⟨A, O, none⟩) ll cl] 70)) w1 → NumAt w1 A O ll l) := Lib.hid fun w1 h => hln.below hA (below_al h)
  clear hln
  go_enter Tryz.func79, Tryz.ntmps79
  go_wp2_with (first
    | (go_at_call 107; refine (isHeight_w _ _ _).mono ?_; rw [HI]; rintro e w1 ⟨rfl, hb1⟩; obtain ⟨x0, x1, x2, x3, x4⟩ := BX.out _ hb1)
    | (go_at_call 88; refine (isFrom_w _ _ _ _).mono ?_; rintro e w' ⟨rfl, rfl⟩)
    | (go_at_call 108; refine (allHeight_w _ _ _ _ p _ (by omega) (by omega) (HSPA.out _ hb1)).mono ?_; rintro e w2 ⟨⟨rb, rfl, hrb⟩, hb2⟩; obtain rfl : rb = true := hrb.2 HS.out; clear hrb; have hb12 := hb1.trans (hb2.mono hb1.size); clear x0 x1 x2 x3 x4; obtain ⟨x0, x1, x2, x3, x4⟩ := BX.out _ hb12)
    | (go_at_call 92; refine (allLength_w _ _ _ _ l _ (by unfold maxLen; omega) (by omega) (HLN.out _ hb12)).mono ?_; rintro e w3 ⟨⟨rb, rfl, hrb⟩, hb3⟩; have HR := Lib.hid hrb; clear hrb))
  go_ret
  exact ⟨⟨rb, rfl, HR.out.trans ⟨fun h => ⟨HI, g2.1, g2.2, rfl, HS.out, h⟩, fun h => h.lok⟩⟩, below_al (hb12.trans (hb3.mono hb12.size))⟩
end Go.Kn
