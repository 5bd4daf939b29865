/- Walks of functions of layer 2 (contracts that the laws of this seat use). Conditions: as each theorem states them. -/
import Derived.Test.YtgjgcgonibldmaaGreatDoorFW
import Derived.Test.YtgjgcgonibldmaaGreatDoorFL
set_option linter.unusedVariables false
set_option linter.unusedSimpArgs false
namespace Go.Kn
open Go Go.Proofs Go.RowKit

set_option maxHeartbeats 400000 in
theorem need_w (c : Int) (w : World) : Calls Tryz.prog 16 #[.int .i64 c] w fun e w' => e = .returned (.bool (fromB 1 10000000 c)) ∧ w = w' := by
  go_enter Tryz.func16, Tryz.ntmps16
  go_wp2_with (go_at_call 43; refine (in_w _ _ _ _).mono ?_; rintro e w1 ⟨rfl, rfl⟩)
  go_ret
  exact ⟨rfl, rfl⟩

set_option maxHeartbeats 400000 in
theorem isNeed_w (c : Int) (w : World) : Calls Tryz.prog 47 #[.int .i64 c] w fun e w' => e = .returned (.bool (fromB 1 10000000 c)) ∧ w = w' := by
  go_enter Tryz.func47, Tryz.ntmps47
  go_wp2_with (go_at_call 48; refine (isFrom_w _ _ _ _).mono ?_; rintro e w' ⟨rfl, rfl⟩)
  go_ret
  exact ⟨rfl, rfl⟩

set_option maxHeartbeats 1000000 in
theorem surely_w (b d f lo hi sp ag nd : Int) (w : World) (hb : 0 ≤ b ∧ b ≤ 100) (hd : 0 ≤ d ∧ d ≤ 100) (hs : 0 ≤ sp ∧ sp ≤ 1000) (ha : 0 ≤ ag ∧ ag ≤ 200) (hr : 0 ≤ hi ∧ hi ≤ 100) :
    Calls Tryz.prog 58 #[.agg #[.int .i64 b, .int .i64 d, .int .i64 f, .int .i64 lo, .int .i64 hi, .int .i64 sp, .int .i64 ag], .int .i64 nd] w fun e w' => e = .returned (.bool (decide (nd ≤ cupsV b d sp ag hi))) ∧ Below w.heap.size w w' := by
  go_enter Tryz.func58, Tryz.ntmps58
  go_wp2_with (go_at_call 79; refine (least_w _ _ _ _ _ _ _ _ hb hd hs ha hr).mono ?_; rintro e w1 ⟨rfl, hb1⟩)
  go_ret
  exact ⟨rfl, below_al hb1⟩

/-- a is the greatest age at which a stretch surely carries a need, if b; else there is none -/
def Great (s : Nat → Int) (x : St5) (nd a : Int) (b : Bool) : Prop :=
  (b = true ∧ 0 ≤ a ∧ a ≤ 200 ∧ nd ≤ cupsL s x a x.hi ∧ ∀ a', a < a' → a' ≤ 200 → cupsL s x a' x.hi < nd) ∨ (b = false ∧ a = 0 ∧ ∀ a', 0 ≤ a' → a' ≤ 200 → cupsL s x a' x.hi < nd)

set_option maxRecDepth 100000 in
set_option maxHeartbeats 4000000 in
theorem greatestAge_w (A O C P ls cs lt ct n : Nat) (s : Nat → Int) (t : Nat → St5) (nd : Int) (w : World) (H : Hid (LineAt w A O C P ls lt s t)) (hn : n < lt) :
    Calls Tryz.prog 49 #[.agg #[.slice (some ⟨A, O, none⟩) ls cs, .slice (some ⟨C, P, none⟩) lt ct], .int .i64 (n : Int), .int .i64 nd] w
      fun e w' => (∃ (a : Int) (b : Bool), e = .returned (.tuple #[.int .i64 a, .bool b]) ∧ Great s (t n) nd a b) ∧ Below w.heap.size w w' := by
  obtain ⟨b1, b2, b3, b4, b5⟩ := H.out.bds hn
  have HL : Hid (∀ w1, Below (w.alloc (.cells #[.slice (some ⟨A, O, none⟩) ls cs, .slice (some ⟨C, P, none⟩) lt ct] 25)).heap.size (w.alloc (.cells #[.slice (some ⟨A, O, none⟩) ls cs, .slice (some ⟨C, P, none⟩) lt ct] 25)) w1 → LineAt w1 A O C P ls lt s t) := Lib.hid fun w1 h => H.out.below (below_al h)
  have BX := Lib.hid (fun (w1 : World) (hb : Below (w.alloc (.cells #[.slice (some ⟨A, O, none⟩) ls cs, .slice (some ⟨C, P, none⟩) lt ct] 25)).heap.size (w.alloc (.cells #[.slice (some ⟨A, O, none⟩) ls cs, .slice (some ⟨C, P, none⟩) lt ct] 25)) w1) => box_cells hb)
  go_enter Tryz.func49, Tryz.ntmps49
  go_wp2
  go_loopw [8] (fun i wr => ∃ k : Nat, k ≤ 201 ∧ i = .int .i64 (200 - (k : Int)) ∧ Below (w.alloc (.cells #[.slice (some ⟨A, O, none⟩) ls cs, .slice (some ⟨C, P, none⟩) lt ct] 25)).heap.size (w.alloc (.cells #[.slice (some ⟨A, O, none⟩) ls cs, .slice (some ⟨C, P, none⟩) lt ct] 25)) wr ∧ (∀ a', 200 - (k : Int) < a' → a' ≤ 200 → cupsL s (t n) a' (t n).hi < nd))
    (fun i _ => (intOf i + 1).toNat)
  case atStart => exact ⟨0, by omega, by go_num, Below.refl _ _, fun a' h1 h2 => by omega⟩
  case round =>
    obtain ⟨k, hk, rfl, hbw, hall⟩ := hrel
    have HALL := Lib.hid hall
    clear hall
    obtain ⟨x1, x2, x3⟩ := BX.out _ hbw
    by_cases hlt : k ≤ 200
    · have ha : 0 ≤ 200 - (k : Int) ∧ 200 - (k : Int) ≤ 200 := ⟨by omega, by omega⟩
      by_cases hv : nd ≤ cupsL s (t n) (200 - (k : Int)) (t n).hi
      · have hdv : decide (nd ≤ cupsV (t n).b (t n).d (s (t n).f.toNat) (200 - (k : Int)) (t n).hi) = true := decide_eq_true hv
        go_wp2_with (first
          | (go_at_call 41; refine (at_l (HL.out _ hbw) hn _ _ _).mono ?_; rintro e w1 ⟨rfl, hb1⟩)
          | (go_at_call 58; refine (surely_w _ _ _ _ _ _ _ nd _ ⟨by omega, b1.2⟩ ⟨by omega, b2.2⟩ ⟨by omega, b5.2⟩ ha ⟨by omega, b4.2.2⟩).mono ?_; rw [hdv]; rintro e w2 ⟨rfl, hb2⟩; have hbw2 := (hbw.trans (hb1.mono hbw.size)).trans (hb2.mono (Nat.le_trans hbw.size hb1.size))))
        refine bodyPost_ret (v := .tuple #[.int .i64 (200 - (k : Int)), .bool true]) (by simp [results, Tryz.results49, go_sem]) rfl ⟨⟨_, true, rfl, .inl ⟨rfl, ha.1, ha.2, hv, HALL.out⟩⟩, below_al hbw2⟩
      · have hdv : decide (nd ≤ cupsV (t n).b (t n).d (s (t n).f.toNat) (200 - (k : Int)) (t n).hi) = false := decide_eq_false hv
        go_wp2_with (first
          | (go_at_call 41; refine (at_l (HL.out _ hbw) hn _ _ _).mono ?_; rintro e w1 ⟨rfl, hb1⟩)
          | (go_at_call 58; refine (surely_w _ _ _ _ _ _ _ nd _ ⟨by omega, b1.2⟩ ⟨by omega, b2.2⟩ ⟨by omega, b5.2⟩ ha ⟨by omega, b4.2.2⟩).mono ?_; rw [hdv]; rintro e w2 ⟨rfl, hb2⟩; have hbw2 := (hbw.trans (hb1.mono hbw.size)).trans (hb2.mono (Nat.le_trans hbw.size hb1.size))))
        go_roundw
        case rel => exact ⟨k + 1, by omega, by go_num, hbw2, fun a' h1 h2 => by
          by_cases e : a' = 200 - (k : Int)
          · rw [e]; omega
          · exact HALL.out a' (by omega) h2⟩
        case measure => simp [intOf]; omega
    · go_wp2
      refine bodyPost_ret (v := .tuple #[.int .i64 0, .bool false]) (by simp [results, Tryz.results49, go_sem]) rfl ⟨⟨0, false, rfl, .inr ⟨rfl, rfl, fun a' h1 h2 => HALL.out a' (by omega) h2⟩⟩, below_al hbw⟩

set_option maxRecDepth 100000 in
set_option maxHeartbeats 4000000 in
theorem latest_w (A O C P ls cs lt ct n : Nat) (s : Nat → Int) (t : Nat → St5) (nd : Int) (w : World) (H : Hid (LineAt w A O C P ls lt s t)) (hn : n < lt) (hnd : fromB 1 10000000 nd = true) :
    Calls Tryz.prog 26 #[.agg #[.slice (some ⟨A, O, none⟩) ls cs, .slice (some ⟨C, P, none⟩) lt ct], .int .i64 (n : Int), .int .i64 nd] w
      fun e w' => (∃ (a : Int) (b : Bool), e = .returned (.tuple #[.int .i64 a, .int .i64 (cond b 0 5)]) ∧ Great s (t n) nd a b) ∧ Below w.heap.size w w' := by
  have q0 := H.out.ls2
  have q1 := H.out.lt2
  have f1 : fromB 0 ((lt : Int) - 1) (n : Int) = true := by simp only [fromB, decide_eq_true_eq]; omega
  have HL : Hid (∀ w1, Below (w.alloc (.cells #[.slice (some ⟨A, O, none⟩) ls cs, .slice (some ⟨C, P, none⟩) lt ct] 25)).heap.size (w.alloc (.cells #[.slice (some ⟨A, O, none⟩) ls cs, .slice (some ⟨C, P, none⟩) lt ct] 25)) w1 → LineAt w1 A O C P ls lt s t) := Lib.hid fun w1 h => H.out.below (below_al h)
  have H1 : Hid (LineAt (w.alloc (.cells #[.slice (some ⟨A, O, none⟩) ls cs, .slice (some ⟨C, P, none⟩) lt ct] 25)) A O C P ls lt s t) := Lib.hid (H.out.alloc _)
  have BX := Lib.hid (fun (w1 : World) (hb : Below (w.alloc (.cells #[.slice (some ⟨A, O, none⟩) ls cs, .slice (some ⟨C, P, none⟩) lt ct] 25)).heap.size (w.alloc (.cells #[.slice (some ⟨A, O, none⟩) ls cs, .slice (some ⟨C, P, none⟩) lt ct] 25)) w1) => box_cells hb)
  go_enter Tryz.func26, Tryz.ntmps26
  go_wp2_with (first
    | (go_at_call 38; refine (isLine_w _ _ _ _ _ _ _ _ s t _ H1).mono ?_; rintro e w1 ⟨rfl, hb1⟩; obtain ⟨x1, x2, x3⟩ := BX.out _ hb1)
    | (go_at_call 39; refine (isStretch_w _ _ _ _ _ _ (by unfold maxLen; omega)).mono ?_; rintro e w2 ⟨rfl, hb2⟩; have hb12 := hb1.trans (hb2.mono hb1.size); clear x1 x2 x3; obtain ⟨x1, x2, x3⟩ := BX.out _ hb12)
    | (go_at_call 47; refine (isNeed_w _ _).mono ?_; rintro e w' ⟨rfl, rfl⟩)
    | (go_at_call 49; refine (greatestAge_w _ _ _ _ _ _ _ _ _ s t nd _ (Lib.hid (HL.out _ hb12)) hn).mono ?_; rintro e w3 ⟨⟨a, b, rfl, hg⟩, hb3⟩; have HG := Lib.hid hg; clear hg; have hb13 := hb12.trans (hb3.mono hb12.size)))
  · rename_i hb0
    obtain rfl : b = false := by simpa using hb0
    obtain rfl : a = 0 := by rcases HG.out with ⟨h, _⟩ | ⟨_, h, _⟩; cases h; exact h
    exact bodyPost_ret (v := .tuple #[.int .i64 0, .int .i64 5]) (by simp [results, Tryz.results26, go_sem]) rfl ⟨⟨0, false, rfl, HG.out⟩, below_al hb13⟩
  · rename_i hb0
    obtain rfl : b = true := by simpa using hb0
    exact bodyPost_ret (v := .tuple #[.int .i64 a, .int .i64 0]) (by simp [results, Tryz.results26, go_sem]) rfl ⟨⟨a, true, rfl, HG.out⟩, below_al hb13⟩
end Go.Kn

namespace Go.Kn

/-- the least breadth from b0 to 100 with which f is at least nd; 101, if there is none -/
structure IsW (f : Int → Int) (b0 nd W : Int) : Prop where
  lo : b0 ≤ W
  hi : W ≤ 101
  less : ∀ b, b0 ≤ b → b < W → f b < nd
  ok : W ≤ 100 → nd ≤ f W

theorem IsW.ex (f : Int → Int) (nd : Int) : ∀ (n : Nat) (b0 : Int), b0 + (n : Int) = 101 → ∃ W, IsW f b0 nd W := by
  intro n
  induction n with
  | zero => intro b0 h; exact ⟨b0, by omega, by omega, fun b h1 h2 => by omega, fun h1 => by omega⟩
  | succ n ih =>
    intro b0 h
    by_cases e : nd ≤ f b0
    · exact ⟨b0, by omega, by omega, fun b h1 h2 => by omega, fun _ => e⟩
    · obtain ⟨W, h1, h2, h3, h4⟩ := ih (b0 + 1) (by omega)
      refine ⟨W, by omega, h2, fun b hb hW => ?_, h4⟩
      by_cases eb : b = b0
      · subst eb; omega
      · exact h3 b (by omega) hW

theorem IsW.eq {f : Int → Int} {b0 nd W b : Int} (h : IsW f b0 nd W) (h0 : b0 ≤ b) (h1 : b ≤ 100) (h2 : nd ≤ f b) (h3 : ∀ b', b0 ≤ b' → b' < b → f b' < nd) : W = b := by
  rcases Int.lt_trichotomy b W with e | e | e
  · have := h.less b h0 e; omega
  · exact e.symm
  · have := h3 W h.lo e
    have := h.ok (by omega)
    omega

theorem IsW.none {f : Int → Int} {b0 nd W : Int} (h : IsW f b0 nd W) (h3 : ∀ b', b0 ≤ b' → b' ≤ 100 → f b' < nd) : W = 101 := by
  by_cases e : W ≤ 100
  · have := h3 W h.lo e
    have := h.ok e
    omega
  · have := h.hi; omega
end Go.Kn

namespace Go.Kn
open Go Go.Proofs Go.RowKit

theorem Great.same {s : Nat → Int} {x : St5} {nd a a' : Int} (h : Great s x nd a true) (h' : Great s x nd a' true) : a = a' := by
  rcases h with ⟨_, h1, h2, h3, h4⟩ | ⟨h, _⟩
  · rcases h' with ⟨_, k1, k2, k3, k4⟩ | ⟨h, _⟩
    · rcases Int.lt_trichotomy a a' with e | e | e
      · have := h4 a' e k2; omega
      · exact e
      · have := k4 a e h2; omega
    · cases h
  · cases h

theorem Great.not {s : Nat → Int} {x : St5} {nd a a' : Int} (h : Great s x nd a true) (h' : Great s x nd a' false) : False := by
  rcases h with ⟨_, h1, h2, h3, h4⟩ | ⟨h, _⟩
  · rcases h' with ⟨h, _⟩ | ⟨_, k1, k2⟩
    · cases h
    · have := k2 a h1 h2; omega
  · cases h

theorem Great.zero {s : Nat → Int} {x : St5} {nd a : Int} (h : Great s x nd a false) : a = 0 := by
  rcases h with ⟨h, _⟩ | ⟨_, h, _⟩
  · cases h
  · exact h

theorem Great.nonneg {s : Nat → Int} {x : St5} {nd a : Int} (h : Great s x nd a true) : 0 ≤ a := by
  rcases h with ⟨_, h, _⟩ | ⟨h, _⟩
  · exact h
  · cases h

/-- what the specification's Latest returns: the greatest age, or -1 -/
def LateIs (s : Nat → Int) (x : St5) (nd y : Int) : Prop := (0 ≤ y ∧ Great s x nd y true) ∨ (y = -1 ∧ Great s x nd 0 false)

set_option maxRecDepth 100000 in
set_option maxHeartbeats 4000000 in
theorem refLatest_w (A O C P ls cs lt ct n : Nat) (s : Nat → Int) (t : Nat → St5) (nd : Int) (w : World) (H : Hid (LineAt w A O C P ls lt s t)) (hn : n < lt) :
    Calls Tryz.prog 51 #[.agg #[.slice (some ⟨A, O, none⟩) ls cs, .slice (some ⟨C, P, none⟩) lt ct], .int .i64 (n : Int), .int .i64 nd] w
      fun e w' => (∃ y : Int, e = .returned (.int .i64 y) ∧ LateIs s (t n) nd y) ∧ Below w.heap.size w w' := by
  obtain ⟨b1, b2, b3, b4, b5⟩ := H.out.bds hn
  have HL : Hid (∀ w1, Below (w.alloc (.cells #[.slice (some ⟨A, O, none⟩) ls cs, .slice (some ⟨C, P, none⟩) lt ct] 25)).heap.size (w.alloc (.cells #[.slice (some ⟨A, O, none⟩) ls cs, .slice (some ⟨C, P, none⟩) lt ct] 25)) w1 → LineAt w1 A O C P ls lt s t) := Lib.hid fun w1 h => H.out.below (below_al h)
  have BX := Lib.hid (fun (w1 : World) (hb : Below (w.alloc (.cells #[.slice (some ⟨A, O, none⟩) ls cs, .slice (some ⟨C, P, none⟩) lt ct] 25)).heap.size (w.alloc (.cells #[.slice (some ⟨A, O, none⟩) ls cs, .slice (some ⟨C, P, none⟩) lt ct] 25)) w1) => box_cells hb)
  have hf0 := field31_0
  go_enter Tryz.func51, Tryz.ntmps51
  go_wp2
  go_loopw [7] (fun i wr => ∃ k : Nat, k ≤ 201 ∧ i = .int .i64 (200 - (k : Int)) ∧ Below (w.alloc (.cells #[.slice (some ⟨A, O, none⟩) ls cs, .slice (some ⟨C, P, none⟩) lt ct] 25)).heap.size (w.alloc (.cells #[.slice (some ⟨A, O, none⟩) ls cs, .slice (some ⟨C, P, none⟩) lt ct] 25)) wr ∧ (∀ a', 200 - (k : Int) < a' → a' ≤ 200 → cupsL s (t n) a' (t n).hi < nd))
    (fun i _ => (intOf i + 1).toNat)
  case atStart => exact ⟨0, by omega, by go_num, Below.refl _ _, fun a' h1 h2 => by omega⟩
  case round =>
    obtain ⟨k, hk, rfl, hbw, hall⟩ := hrel
    have HALL := Lib.hid hall
    clear hall
    obtain ⟨x1, x2, x3⟩ := BX.out _ hbw
    by_cases hlt : k ≤ 200
    · have ha : 0 ≤ 200 - (k : Int) ∧ 200 - (k : Int) ≤ 200 := ⟨by omega, by omega⟩
      by_cases hv : nd ≤ cupsL s (t n) (200 - (k : Int)) (t n).hi
      · have hdv : decide (nd ≤ cupsL s (t n) (200 - (k : Int)) (t n).hi) = true := decide_eq_true hv
        go_wp2_with (first
          | (go_at_call 13; refine (refCarries_w _ _ _ _ _ _ _ _ n s t _ _ (Lib.hid (HL.out _ hbw)) hn ha).mono ?_; rintro e w1 ⟨rfl, hb1⟩; have hbw2 := hbw.trans (hb1.mono hbw.size)))
        go_ret
        exact ⟨⟨_, rfl, .inl ⟨ha.1, .inl ⟨rfl, ha.1, ha.2, hv, HALL.out⟩⟩⟩, below_al hbw2⟩
      · have hdv : decide (nd ≤ cupsL s (t n) (200 - (k : Int)) (t n).hi) = false := decide_eq_false hv
        go_wp2_with (first
          | (go_at_call 13; refine (refCarries_w _ _ _ _ _ _ _ _ n s t _ _ (Lib.hid (HL.out _ hbw)) hn ha).mono ?_; rintro e w1 ⟨rfl, hb1⟩; have hbw2 := hbw.trans (hb1.mono hbw.size)))
        go_roundw
        case rel => exact ⟨k + 1, by omega, by go_num, hbw2, fun a' h1 h2 => by
          by_cases e : a' = 200 - (k : Int)
          · rw [e]; omega
          · exact HALL.out a' (by omega) h2⟩
        case measure => simp [intOf]; omega
    · go_wp2
      go_ret
      exact ⟨⟨_, rfl, .inr ⟨rfl, .inr ⟨rfl, rfl, fun a' h1 h2 => HALL.out a' (by omega) h2⟩⟩⟩, below_al hbw⟩
end Go.Kn
