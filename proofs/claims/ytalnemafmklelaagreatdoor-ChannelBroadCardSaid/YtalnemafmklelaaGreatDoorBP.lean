/- Walks of functions of layer 2 (contracts that the laws of this seat use). Conditions: as each theorem states them. -/
import Derived.Test.YtalnemafmklelaaGreatDoorBW
import Derived.Test.YtalnemafmklelaaGreatDoorBL
import Derived.Deep.RegionHeld3
import Derived.WalkMore
set_option linter.unusedVariables false
set_option linter.unusedSimpArgs false
namespace Go.Kn
open Go Go.Proofs Go.RowKit

set_option maxHeartbeats 400000 in
theorem need_w (c : Int) (w : World) : Calls Tryz.prog 34 #[.int .i64 c] w fun e w' => e = .returned (.bool (fromB 1 10000000 c)) ∧ w = w' := by
  go_enter Tryz.func34, Tryz.ntmps34
  go_wp2_with (go_at_call 66; refine (in_w _ _ _ _).mono ?_; rintro e w1 ⟨rfl, rfl⟩)
  go_ret
  exact ⟨rfl, rfl⟩

set_option maxHeartbeats 400000 in
theorem isNeed_w (c : Int) (w : World) : Calls Tryz.prog 71 #[.int .i64 c] w fun e w' => e = .returned (.bool (fromB 1 10000000 c)) ∧ w = w' := by
  go_enter Tryz.func71, Tryz.ntmps71
  go_wp2_with (go_at_call 89; refine (isFrom_w _ _ _ _).mono ?_; rintro e w' ⟨rfl, rfl⟩)
  go_ret
  exact ⟨rfl, rfl⟩

set_option maxHeartbeats 1000000 in
theorem surely_w (b d f lo hi sp ag nd : Int) (w : World) (hb : 0 ≤ b ∧ b ≤ 100) (hd : 0 ≤ d ∧ d ≤ 100) (hs : 0 ≤ sp ∧ sp ≤ 1000) (ha : 0 ≤ ag ∧ ag ≤ 200) (hr : 0 ≤ hi ∧ hi ≤ 100) :
    Calls Tryz.prog 73 #[.agg #[.int .i64 b, .int .i64 d, .int .i64 f, .int .i64 lo, .int .i64 hi, .int .i64 sp, .int .i64 ag], .int .i64 nd] w fun e w' => e = .returned (.bool (decide (nd ≤ cupsV b d sp ag hi))) ∧ Below w.heap.size w w' := by
  go_enter Tryz.func73, Tryz.ntmps73
  go_wp2_with (go_at_call 99; refine (least_w _ _ _ _ _ _ _ _ hb hd hs ha hr).mono ?_; rintro e w1 ⟨rfl, hb1⟩)
  go_ret
  exact ⟨rfl, below_al hb1⟩

/-- a is the greatest age at which a stretch surely carries a need, if b; else there is none -/
def Great (s : Nat → Int) (x : St5) (nd a : Int) (b : Bool) : Prop :=
  (b = true ∧ 0 ≤ a ∧ a ≤ 200 ∧ nd ≤ cupsL s x a x.hi ∧ ∀ a', a < a' → a' ≤ 200 → cupsL s x a' x.hi < nd) ∨ (b = false ∧ a = 0 ∧ ∀ a', 0 ≤ a' → a' ≤ 200 → cupsL s x a' x.hi < nd)

set_option maxRecDepth 100000 in
set_option maxHeartbeats 4000000 in
theorem greatestAge_w (A O C P ls cs lt ct n : Nat) (s : Nat → Int) (t : Nat → St5) (nd : Int) (w : World) (H : Hid (LineAt w A O C P ls lt s t)) (hn : n < lt) :
    Calls Tryz.prog 72 #[.agg #[.slice (some ⟨A, O, none⟩) ls cs, .slice (some ⟨C, P, none⟩) lt ct], .int .i64 (n : Int), .int .i64 nd] w
      fun e w' => (∃ (a : Int) (b : Bool), e = .returned (.tuple #[.int .i64 a, .bool b]) ∧ Great s (t n) nd a b) ∧ Below w.heap.size w w' := by
  obtain ⟨b1, b2, b3, b4, b5⟩ := H.out.bds hn
  have HL : Hid (∀ w1, Below (w.alloc (.cells #[.slice (some ⟨A, O, none⟩) ls cs, .slice (some ⟨C, P, none⟩) lt ct] 25)).heap.size (w.alloc (.cells #[.slice (some ⟨A, O, none⟩) ls cs, .slice (some ⟨C, P, none⟩) lt ct] 25)) w1 → LineAt w1 A O C P ls lt s t) := Lib.hid fun w1 h => H.out.below (below_al h)
  have BX := Lib.hid (fun (w1 : World) (hb : Below (w.alloc (.cells #[.slice (some ⟨A, O, none⟩) ls cs, .slice (some ⟨C, P, none⟩) lt ct] 25)).heap.size (w.alloc (.cells #[.slice (some ⟨A, O, none⟩) ls cs, .slice (some ⟨C, P, none⟩) lt ct] 25)) w1) => box_cells hb)
  go_enter Tryz.func72, Tryz.ntmps72
  go_wp2
  go_loopw [8] (fun i wr => ∃ k : Nat, k ≤ 201 ∧ i = .int .i64 (200 - (k : Int)) ∧ Below (w.alloc (.cells #[.slice (some ⟨A, O, none⟩) ls cs, .slice (some ⟨C, P, none⟩) lt ct] 25)).heap.size (w.alloc (.cells #[.slice (some ⟨A, O, none⟩) ls cs, .slice (some ⟨C, P, none⟩) lt ct] 25)) wr ∧ (∀ a', 200 - (k : Int) < a' → a' ≤ 200 → cupsL s (t n) a' (t n).hi < nd))
    (fun i _ => (intOf i + 1).toNat)
  case atStart => exact ⟨0, by omega, by go_num, Below.refl _ _, fun a' h1 h2 => by omega⟩
  case round =>
    obtain ⟨k, hk, rfl, hbw, hall⟩ := hrel
    have HALL := Lib.hid hall
    clear hall
    obtain ⟨x1, x2, x3⟩ := BX.out _ hbw
    by_cases hlt : k ≤ 200
    · have ha : 0 ≤ 200 - (k : Int) ∧ 200 - (k : Int) ≤ 200 := ⟨by omega, by omega⟩
      by_cases hv : nd ≤ cupsL s (t n) (200 - (k : Int)) (t n).hi
      · have hdv : decide (nd ≤ cupsV (t n).b (t n).d (s (t n).f.toNat) (200 - (k : Int)) (t n).hi) = true := decide_eq_true hv
        go_wp2_with (first
          | (go_at_call 64; refine (at_l (HL.out _ hbw) hn _ _ _).mono ?_; rintro e w1 ⟨rfl, hb1⟩)
          | (go_at_call 73; refine (surely_w _ _ _ _ _ _ _ nd _ ⟨by omega, b1.2⟩ ⟨by omega, b2.2⟩ ⟨by omega, b5.2⟩ ha ⟨by omega, b4.2.2⟩).mono ?_; rw [hdv]; rintro e w2 ⟨rfl, hb2⟩; have hbw2 := (hbw.trans (hb1.mono hbw.size)).trans (hb2.mono (Nat.le_trans hbw.size hb1.size))))
        refine bodyPost_ret (v := .tuple #[.int .i64 (200 - (k : Int)), .bool true]) (by simp [results, Tryz.results72, go_sem]) rfl ⟨⟨_, true, rfl, .inl ⟨rfl, ha.1, ha.2, hv, HALL.out⟩⟩, below_al hbw2⟩
      · have hdv : decide (nd ≤ cupsV (t n).b (t n).d (s (t n).f.toNat) (200 - (k : Int)) (t n).hi) = false := decide_eq_false hv
        go_wp2_with (first
          | (go_at_call 64; refine (at_l (HL.out _ hbw) hn _ _ _).mono ?_; rintro e w1 ⟨rfl, hb1⟩)
          | (go_at_call 73; refine (surely_w _ _ _ _ _ _ _ nd _ ⟨by omega, b1.2⟩ ⟨by omega, b2.2⟩ ⟨by omega, b5.2⟩ ha ⟨by omega, b4.2.2⟩).mono ?_; rw [hdv]; rintro e w2 ⟨rfl, hb2⟩; have hbw2 := (hbw.trans (hb1.mono hbw.size)).trans (hb2.mono (Nat.le_trans hbw.size hb1.size))))
        go_roundw
        case rel => exact ⟨k + 1, by omega, by go_num, hbw2, fun a' h1 h2 => by
          by_cases e : a' = 200 - (k : Int)
          · rw [e]; omega
          · exact HALL.out a' (by omega) h2⟩
        case measure => simp [intOf]; omega
    · go_wp2
      refine bodyPost_ret (v := .tuple #[.int .i64 0, .bool false]) (by simp [results, Tryz.results72, go_sem]) rfl ⟨⟨0, false, rfl, .inr ⟨rfl, rfl, fun a' h1 h2 => HALL.out a' (by omega) h2⟩⟩, below_al hbw⟩

set_option maxRecDepth 100000 in
set_option maxHeartbeats 4000000 in
theorem latest_w (A O C P ls cs lt ct n : Nat) (s : Nat → Int) (t : Nat → St5) (nd : Int) (w : World) (H : Hid (LineAt w A O C P ls lt s t)) (hn : n < lt) (hnd : fromB 1 10000000 nd = true) :
    Calls Tryz.prog 32 #[.agg #[.slice (some ⟨A, O, none⟩) ls cs, .slice (some ⟨C, P, none⟩) lt ct], .int .i64 (n : Int), .int .i64 nd] w
      fun e w' => (∃ (a : Int) (b : Bool), e = .returned (.tuple #[.int .i64 a, .int .i64 (cond b 0 5)]) ∧ Great s (t n) nd a b) ∧ Below w.heap.size w w' := by
  have q0 := H.out.ls2
  have q1 := H.out.lt2
  have f1 : fromB 0 ((lt : Int) - 1) (n : Int) = true := by simp only [fromB, decide_eq_true_eq]; omega
  have HL : Hid (∀ w1, Below (w.alloc (.cells #[.slice (some ⟨A, O, none⟩) ls cs, .slice (some ⟨C, P, none⟩) lt ct] 25)).heap.size (w.alloc (.cells #[.slice (some ⟨A, O, none⟩) ls cs, .slice (some ⟨C, P, none⟩) lt ct] 25)) w1 → LineAt w1 A O C P ls lt s t) := Lib.hid fun w1 h => H.out.below (below_al h)
  have H1 : Hid (LineAt (w.alloc (.cells #[.slice (some ⟨A, O, none⟩) ls cs, .slice (some ⟨C, P, none⟩) lt ct] 25)) A O C P ls lt s t) := Lib.hid (H.out.alloc _)
  have BX := Lib.hid (fun (w1 : World) (hb : Below (w.alloc (.cells #[.slice (some ⟨A, O, none⟩) ls cs, .slice (some ⟨C, P, none⟩) lt ct] 25)).heap.size (w.alloc (.cells #[.slice (some ⟨A, O, none⟩) ls cs, .slice (some ⟨C, P, none⟩) lt ct] 25)) w1) => box_cells hb)
  go_enter Tryz.func32, Tryz.ntmps32
  go_wp2_with (first
    | (go_at_call 61; refine (isLine_w _ _ _ _ _ _ _ _ s t _ H1).mono ?_; rintro e w1 ⟨rfl, hb1⟩; obtain ⟨x1, x2, x3⟩ := BX.out _ hb1)
    | (go_at_call 62; refine (isStretch_w _ _ _ _ _ _ (by unfold maxLen; omega)).mono ?_; rintro e w2 ⟨rfl, hb2⟩; have hb12 := hb1.trans (hb2.mono hb1.size); clear x1 x2 x3; obtain ⟨x1, x2, x3⟩ := BX.out _ hb12)
    | (go_at_call 71; refine (isNeed_w _ _).mono ?_; rintro e w' ⟨rfl, rfl⟩)
    | (go_at_call 72; refine (greatestAge_w _ _ _ _ _ _ _ _ _ s t nd _ (Lib.hid (HL.out _ hb12)) hn).mono ?_; rintro e w3 ⟨⟨a, b, rfl, hg⟩, hb3⟩; have HG := Lib.hid hg; clear hg; have hb13 := hb12.trans (hb3.mono hb12.size)))
  · rename_i hb0
    obtain rfl : b = false := by simpa using hb0
    obtain rfl : a = 0 := by rcases HG.out with ⟨h, _⟩ | ⟨_, h, _⟩; cases h; exact h
    exact bodyPost_ret (v := .tuple #[.int .i64 0, .int .i64 5]) (by simp [results, Tryz.results32, go_sem]) rfl ⟨⟨0, false, rfl, HG.out⟩, below_al hb13⟩
  · rename_i hb0
    obtain rfl : b = true := by simpa using hb0
    exact bodyPost_ret (v := .tuple #[.int .i64 a, .int .i64 0]) (by simp [results, Tryz.results32, go_sem]) rfl ⟨⟨a, true, rfl, HG.out⟩, below_al hb13⟩
end Go.Kn

namespace Go.Kn

/-- the least breadth from b0 to 100 with which f is at least nd; 101, if there is none -/
structure IsW (f : Int → Int) (b0 nd W : Int) : Prop where
  lo : b0 ≤ W
  hi : W ≤ 101
  less : ∀ b, b0 ≤ b → b < W → f b < nd
  ok : W ≤ 100 → nd ≤ f W

theorem IsW.ex (f : Int → Int) (nd : Int) : ∀ (n : Nat) (b0 : Int), b0 + (n : Int) = 101 → ∃ W, IsW f b0 nd W := by
  intro n
  induction n with
  | zero => intro b0 h; exact ⟨b0, by omega, by omega, fun b h1 h2 => by omega, fun h1 => by omega⟩
  | succ n ih =>
    intro b0 h
    by_cases e : nd ≤ f b0
    · exact ⟨b0, by omega, by omega, fun b h1 h2 => by omega, fun _ => e⟩
    · obtain ⟨W, h1, h2, h3, h4⟩ := ih (b0 + 1) (by omega)
      refine ⟨W, by omega, h2, fun b hb hW => ?_, h4⟩
      by_cases eb : b = b0
      · subst eb; omega
      · exact h3 b (by omega) hW

theorem IsW.eq {f : Int → Int} {b0 nd W b : Int} (h : IsW f b0 nd W) (h0 : b0 ≤ b) (h1 : b ≤ 100) (h2 : nd ≤ f b) (h3 : ∀ b', b0 ≤ b' → b' < b → f b' < nd) : W = b := by
  rcases Int.lt_trichotomy b W with e | e | e
  · have := h.less b h0 e; omega
  · exact e.symm
  · have := h3 W h.lo e
    have := h.ok (by omega)
    omega

theorem IsW.none {f : Int → Int} {b0 nd W : Int} (h : IsW f b0 nd W) (h3 : ∀ b', b0 ≤ b' → b' ≤ 100 → f b' < nd) : W = 101 := by
  by_cases e : W ≤ 100
  · have := h3 W h.lo e
    have := h.ok e
    omega
  · have := h.hi; omega
end Go.Kn

namespace Go.Kn
open Go Go.Proofs Go.RowKit

theorem Great.same {s : Nat → Int} {x : St5} {nd a a' : Int} (h : Great s x nd a true) (h' : Great s x nd a' true) : a = a' := by
  rcases h with ⟨_, h1, h2, h3, h4⟩ | ⟨h, _⟩
  · rcases h' with ⟨_, k1, k2, k3, k4⟩ | ⟨h, _⟩
    · rcases Int.lt_trichotomy a a' with e | e | e
      · have := h4 a' e k2; omega
      · exact e
      · have := k4 a e h2; omega
    · cases h
  · cases h

theorem Great.not {s : Nat → Int} {x : St5} {nd a a' : Int} (h : Great s x nd a true) (h' : Great s x nd a' false) : False := by
  rcases h with ⟨_, h1, h2, h3, h4⟩ | ⟨h, _⟩
  · rcases h' with ⟨h, _⟩ | ⟨_, k1, k2⟩
    · cases h
    · have := k2 a h1 h2; omega
  · cases h

theorem Great.zero {s : Nat → Int} {x : St5} {nd a : Int} (h : Great s x nd a false) : a = 0 := by
  rcases h with ⟨h, _⟩ | ⟨_, h, _⟩
  · cases h
  · exact h

theorem Great.nonneg {s : Nat → Int} {x : St5} {nd a : Int} (h : Great s x nd a true) : 0 ≤ a := by
  rcases h with ⟨_, h, _⟩ | ⟨h, _⟩
  · exact h
  · cases h

/-- what the specification's Latest returns: the greatest age, or -1 -/
def LateIs (s : Nat → Int) (x : St5) (nd y : Int) : Prop := (0 ≤ y ∧ Great s x nd y true) ∨ (y = -1 ∧ Great s x nd 0 false)

set_option maxRecDepth 100000 in
set_option maxHeartbeats 4000000 in
theorem refLatest_w (A O C P ls cs lt ct n : Nat) (s : Nat → Int) (t : Nat → St5) (nd : Int) (w : World) (H : Hid (LineAt w A O C P ls lt s t)) (hn : n < lt) :
    Calls Tryz.prog 35 #[.agg #[.slice (some ⟨A, O, none⟩) ls cs, .slice (some ⟨C, P, none⟩) lt ct], .int .i64 (n : Int), .int .i64 nd] w
      fun e w' => (∃ y : Int, e = .returned (.int .i64 y) ∧ LateIs s (t n) nd y) ∧ Below w.heap.size w w' := by
  obtain ⟨b1, b2, b3, b4, b5⟩ := H.out.bds hn
  have HL : Hid (∀ w1, Below (w.alloc (.cells #[.slice (some ⟨A, O, none⟩) ls cs, .slice (some ⟨C, P, none⟩) lt ct] 25)).heap.size (w.alloc (.cells #[.slice (some ⟨A, O, none⟩) ls cs, .slice (some ⟨C, P, none⟩) lt ct] 25)) w1 → LineAt w1 A O C P ls lt s t) := Lib.hid fun w1 h => H.out.below (below_al h)
  have BX := Lib.hid (fun (w1 : World) (hb : Below (w.alloc (.cells #[.slice (some ⟨A, O, none⟩) ls cs, .slice (some ⟨C, P, none⟩) lt ct] 25)).heap.size (w.alloc (.cells #[.slice (some ⟨A, O, none⟩) ls cs, .slice (some ⟨C, P, none⟩) lt ct] 25)) w1) => box_cells hb)
  have hf0 := field31_0
  go_enter Tryz.func35, Tryz.ntmps35
  go_wp2
  go_loopw [7] (fun i wr => ∃ k : Nat, k ≤ 201 ∧ i = .int .i64 (200 - (k : Int)) ∧ Below (w.alloc (.cells #[.slice (some ⟨A, O, none⟩) ls cs, .slice (some ⟨C, P, none⟩) lt ct] 25)).heap.size (w.alloc (.cells #[.slice (some ⟨A, O, none⟩) ls cs, .slice (some ⟨C, P, none⟩) lt ct] 25)) wr ∧ (∀ a', 200 - (k : Int) < a' → a' ≤ 200 → cupsL s (t n) a' (t n).hi < nd))
    (fun i _ => (intOf i + 1).toNat)
  case atStart => exact ⟨0, by omega, by go_num, Below.refl _ _, fun a' h1 h2 => by omega⟩
  case round =>
    obtain ⟨k, hk, rfl, hbw, hall⟩ := hrel
    have HALL := Lib.hid hall
    clear hall
    obtain ⟨x1, x2, x3⟩ := BX.out _ hbw
    by_cases hlt : k ≤ 200
    · have ha : 0 ≤ 200 - (k : Int) ∧ 200 - (k : Int) ≤ 200 := ⟨by omega, by omega⟩
      by_cases hv : nd ≤ cupsL s (t n) (200 - (k : Int)) (t n).hi
      · have hdv : decide (nd ≤ cupsL s (t n) (200 - (k : Int)) (t n).hi) = true := decide_eq_true hv
        go_wp2_with (first
          | (go_at_call 23; refine (refCarries_w _ _ _ _ _ _ _ _ n s t _ _ (Lib.hid (HL.out _ hbw)) hn ha).mono ?_; rintro e w1 ⟨rfl, hb1⟩; have hbw2 := hbw.trans (hb1.mono hbw.size)))
        go_ret
        exact ⟨⟨_, rfl, .inl ⟨ha.1, .inl ⟨rfl, ha.1, ha.2, hv, HALL.out⟩⟩⟩, below_al hbw2⟩
      · have hdv : decide (nd ≤ cupsL s (t n) (200 - (k : Int)) (t n).hi) = false := decide_eq_false hv
        go_wp2_with (first
          | (go_at_call 23; refine (refCarries_w _ _ _ _ _ _ _ _ n s t _ _ (Lib.hid (HL.out _ hbw)) hn ha).mono ?_; rintro e w1 ⟨rfl, hb1⟩; have hbw2 := hbw.trans (hb1.mono hbw.size)))
        go_roundw
        case rel => exact ⟨k + 1, by omega, by go_num, hbw2, fun a' h1 h2 => by
          by_cases e : a' = 200 - (k : Int)
          · rw [e]; omega
          · exact HALL.out a' (by omega) h2⟩
        case measure => simp [intOf]; omega
    · go_wp2
      go_ret
      exact ⟨⟨_, rfl, .inr ⟨rfl, .inr ⟨rfl, rfl, fun a' h1 h2 => HALL.out a' (by omega) h2⟩⟩⟩, below_al hbw⟩
end Go.Kn

namespace Go.Kn
open Go Go.Proofs Go.RowKit

/-- the cells of one stretch -/
def stc (x : St5) : Nat → Value
  | 0 => .int .i64 x.b
  | 1 => .int .i64 x.d
  | 2 => .int .i64 x.f
  | 3 => .int .i64 x.lo
  | _ => .int .i64 x.hi

def stCells (t : Nat → St5) (lt : Nat) : List Value := (List.range (lt * 5)).map fun j => stc (t (j / 5)) (j % 5)

theorem stCells_len (t : Nat → St5) (lt : Nat) : (stCells t lt).length = lt * 5 := by simp [stCells]

theorem stCells_get {t : Nat → St5} {lt j : Nat} (h : j < lt * 5) : (stCells t lt)[j]? = some (stc (t (j / 5)) (j % 5)) := by
  simp [stCells, h]

theorem stCells_one (t : Nat → St5) (lt : Nat) : ∀ u ∈ stCells t lt, u.oneCell' = true := by
  intro u hu
  simp only [stCells, List.mem_map] at hu
  obtain ⟨j, _, rfl⟩ := hu
  unfold stc
  split <;> rfl

theorem StAt.cellOf {w : World} {C P lt : Nat} {t : Nat → St5} (h : StAt w C P lt t) {j : Nat} (hj : j < lt * 5) : w.cell? ⟨C, P + j, none⟩ = some (stc (t (j / 5)) (j % 5)) := by
  obtain ⟨q, r, hr, rfl⟩ : ∃ q r, r < 5 ∧ j = q * 5 + r := ⟨j / 5, j % 5, Nat.mod_lt _ (by omega), by omega⟩
  rw [show (q * 5 + r) / 5 = q by omega, show (q * 5 + r) % 5 = r by omega]
  obtain ⟨h0, h1, h2, h3, h4⟩ := h q (by omega)
  match r, hr with
  | 0, _ => exact h0
  | 1, _ => exact h1
  | 2, _ => exact h2
  | 3, _ => exact h3
  | 4, _ => exact h4

theorem StAt.news {w : World} {C P lt : Nat} {t : Nat → St5} (h : StAt w C P lt t) : ∀ (j : Nat) (u : Value), (stCells t lt)[j]? = some u → w.cell? ((⟨C, P, none⟩ : Addr).add j) = some u := by
  intro j u hu
  have hj : j < lt * 5 := by
    have := (List.getElem?_eq_some_iff.1 hu).1
    rwa [stCells_len] at this
  rw [stCells_get hj] at hu
  rw [add_mk, ← hu]
  exact h.cellOf hj

theorem StAt.of_owns {w : World} {base g lt cap : Nat} {t : Nat → St5} (h : w.ownsRow base 39 5 (.slice (some ⟨g, 0, none⟩) lt cap) lt (stCells t lt)) : StAt w g 0 lt t := by
  rcases h.2 with ⟨h1, _⟩ | ⟨g', cap', cur, h1, hb, hg, hn, hc, hs, hx⟩
  · cases h1
  · cases h1
    have hc : ∀ j, j < lt * 5 → w.cell? ⟨g, j, none⟩ = some (stc (t (j / 5)) (j % 5)) := fun j hj => by
      have h2 := stCells_get (t := t) hj
      rw [← hx, List.getElem?_take, if_pos hj] at h2
      simp only [Array.getElem?_toList] at h2
      simp [World.cell?, hg, h2]
    intro i hi
    have e : ∀ r, r < 5 → w.cell? ⟨g, 0 + i * 5 + r, none⟩ = some (stc (t i) r) := fun r hr => by
      have := hc (i * 5 + r) (by omega)
      rw [show (i * 5 + r) / 5 = i by omega, show (i * 5 + r) % 5 = r by omega] at this
      rw [Nat.zero_add]; exact this
    exact ⟨e 0 (by omega), e 1 (by omega), e 2 (by omega), e 3 (by omega), e 4 (by omega)⟩

/-- the stretches, one of which has another breadth -/
def updB (t : Nat → St5) (n : Nat) (b : Int) : Nat → St5 := fun i => if i = n then { t i with b := b } else t i

theorem StAt.upd {w : World} {C lt n : Nat} {t : Nat → St5} (h : StAt w C 0 lt t) (hn : n < lt) (b : Int) : StAt (w.setCell ⟨C, n * 5, none⟩ (.int .i64 b)) C 0 lt (updB t n b) := by
  intro i hi
  obtain ⟨h0, h1, h2, h3, h4⟩ := h i hi
  have hne : ∀ a : Nat, a ≠ n * 5 → (w.setCell ⟨C, n * 5, none⟩ (.int .i64 b)).cell? ⟨C, a, none⟩ = w.cell? ⟨C, a, none⟩ := fun a h => World.cell?_setCell_other _ _ _ _ (by intro e; cases e; exact h rfl)
  simp only [Nat.zero_add] at *
  unfold updB
  by_cases e : i = n
  · subst e
    rw [if_pos rfl]
    exact ⟨World.cell?_setCell_same' _ _ _ (by rw [h0]; rfl), (hne _ (by omega)).trans h1, (hne _ (by omega)).trans h2, (hne _ (by omega)).trans h3, (hne _ (by omega)).trans h4⟩
  · rw [if_neg e]
    exact ⟨(hne _ (by omega)).trans h0, (hne _ (by omega)).trans h1, (hne _ (by omega)).trans h2, (hne _ (by omega)).trans h3, (hne _ (by omega)).trans h4⟩

theorem updB_ok {ls lt n : Nat} {t : Nat → St5} (h : StOk ls lt t) {b : Int} (hb : 1 ≤ b ∧ b ≤ 100) : StOk ls lt (updB t n b) := by
  intro i hi
  have := h i hi
  unfold updB
  by_cases e : i = n
  · rw [if_pos e]
    simp only [stB, decide_eq_true_eq] at this ⊢
    omega
  · rw [if_neg e]; exact this

theorem info39 : (Tryz.prog.info? 39).map (fun i => (i.zero, i.size, i.bytes)) = some (some (.agg #[.int .i64 0, .int .i64 0, .int .i64 0, .int .i64 0, .int .i64 0]), 5, 40) := by kernel_rfl
end Go.Kn

namespace Go.Kn
open Go Go.Proofs Go.RowKit

theorem al3b (w : World) (x y X Y U V : Value) (T T1 T2 : TypeId) (w7 : World)
    (hb : Below (((w.alloc (.cells #[x, y] T)).alloc (.cells #[X, Y] T1)).alloc (.cells #[U, V] T2)).heap.size (((w.alloc (.cells #[x, y] T)).alloc (.cells #[X, Y] T1)).alloc (.cells #[U, V] T2)) w7) :
    Below w.heap.size w w7 ∧ w7.cell? ⟨w.heap.size, 0, none⟩ = some x ∧ w7.cell? ⟨w.heap.size, 1, none⟩ = some y ∧ w7.cell? ⟨w.heap.size + 1, 0, none⟩ = some X ∧ w7.cell? ⟨w.heap.size + 1, 1, none⟩ = some Y ∧
      w7.frozen? ⟨w.heap.size + 1, 0, none⟩ = false ∧ w7.frozen? ⟨w.heap.size + 1, 1, none⟩ = false ∧ w7.cell? ⟨w.heap.size + 1 + 1, 0, none⟩ = some U ∧ w7.cell? ⟨w.heap.size + 1 + 1, 1, none⟩ = some V ∧
      w7.frozen? ⟨w.heap.size + 1 + 1, 0, none⟩ = false ∧ w7.frozen? ⟨w.heap.size + 1 + 1, 1, none⟩ = false ∧ w.heap.size + 1 + 1 < w7.heap.size := by
  obtain ⟨e0, e1, e2, e3, e4, e5, e6, e7, e8, e9, e10, e11⟩ := al3 w x y X Y U V T T1 T2
  obtain ⟨c, f⟩ := bcell hb
  have l0 : w.heap.size < (((w.alloc (.cells #[x, y] T)).alloc (.cells #[X, Y] T1)).alloc (.cells #[U, V] T2)).heap.size := by simp only [World.size_alloc]; omega
  have l1 : w.heap.size + 1 < (((w.alloc (.cells #[x, y] T)).alloc (.cells #[X, Y] T1)).alloc (.cells #[U, V] T2)).heap.size := by simp only [World.size_alloc]; omega
  exact ⟨e0.trans (hb.mono e0.size), (c _ _ l0).trans e1, (c _ _ l0).trans e2, (c _ _ l1).trans e3, (c _ _ l1).trans e4, (f _ _ l1).trans e5, (f _ _ l1).trans e6, (c _ _ e11).trans e7, (c _ _ e11).trans e8, (f _ _ e11).trans e9, (f _ _ e11).trans e10, Nat.lt_of_lt_of_le e11 hb.size⟩

theorem StAt.other {w : World} {C lt : Nat} {t : Nat → St5} (h : StAt w C 0 lt t) {B : Nat} (hB : B ≠ C) (o : Nat) (v : Value) : StAt (w.setCell ⟨B, o, none⟩ v) C 0 lt t := by
  intro i hi
  obtain ⟨h0, h1, h2, h3, h4⟩ := h i hi
  have hne : ∀ a : Nat, (w.setCell ⟨B, o, none⟩ v).cell? ⟨C, a, none⟩ = w.cell? ⟨C, a, none⟩ := fun a => World.cell?_setCell_other _ _ _ _ (by intro e; cases e; exact hB rfl)
  exact ⟨(hne _).trans h0, (hne _).trans h1, (hne _).trans h2, (hne _).trans h3, (hne _).trans h4⟩

set_option maxRecDepth 100000 in
set_option maxHeartbeats 4000000 in
theorem widened_w (A O C P ls cs lt ct n : Nat) (s : Nat → Int) (t : Nat → St5) (b : Int) (w : World) (H : Hid (LineAt w A O C P ls lt s t)) (hn : n < lt) (hb : 1 ≤ b ∧ b ≤ 100) :
    Calls Tryz.prog 74 #[.agg #[.slice (some ⟨A, O, none⟩) ls cs, .slice (some ⟨C, P, none⟩) lt ct], .int .i64 (n : Int), .int .i64 b] w
      fun e w' => (∃ g cg : Nat, e = .returned (.agg #[.slice (some ⟨A, O, none⟩) ls cs, .slice (some ⟨g, 0, none⟩) lt cg]) ∧ LineAt w' A O g 0 ls lt s (updB t n b)) ∧ Below w.heap.size w w' := by
  have q1 := H.out.lt1
  have q2 := H.out.lt2
  have q0 := H.out.ls2
  have hA := H.out.hA
  have hC := H.out.hC
  obtain ⟨i0, hi, hz0, hz1, hz2⟩ := info_parts info39
  have n1 : (0 : Int) ≤ (n : Int) := by omega
  have n2 : (n : Int) < (lt : Int) := by omega
  go_enter Tryz.func74, Tryz.ntmps74
  go_wp2_with (at_builtin; refine wpList_append_own _ rfl _ _ 23 rfl (w.heap.size + 1 + 1 + 1) 39 i0 _ 5 40 Tryz.underlying23 hi hz0 hz1 hz2 rfl (by decide) (.slice none 0 0) 0 [] rfl (World.ownsRow_nil _ _ _ _) ⟨C, P, none⟩ lt ct (stCells t lt) rfl (stCells_len t lt) ?news (stCells_one t lt) (by unfold maxLen; omega) (by omega) (by first | (simp; done) | (simp; omega)) ?_; (case news => exact ((((H.out.alloc _).alloc _).alloc _).st).news); intro v' w7 hown7 hgrow7 _; rw [Nat.zero_add, List.nil_append] at hown7; obtain ⟨g7, c7, rfl, hg7, hgs7⟩ := World.ownsRow.form hown7 (by omega); have hb7 := ((Below.refl _ _).grown hgrow7 (Nat.le_refl _) (fun k h => by cases h)); obtain ⟨z0, z1, z2, z3, z4, z5, z6, z7, z8, z9, z10, z11⟩ := al3b _ _ _ _ _ _ _ _ _ _ _ hb7; have hst7 := StAt.of_owns hown7; have hrow7 := rowAt_of_owns hown7; have y1 := (hst7 n hn).1; have y2 := (hrow7.2 (n * 5) (by omega)).2; rw [Nat.zero_add] at y1; have HST := Lib.hid hst7; clear hst7 hrow7 hown7 hgrow7; have hne1 : g7 ≠ w.heap.size + 1 + 1 := (by omega); have hne2 : w.heap.size + 1 + 1 ≠ g7 := (by omega); have hne3 : w.heap.size + 1 ≠ g7 := (by omega); have hne4 : g7 ≠ w.heap.size + 1 := (by omega))
  have hb8 : Below w.heap.size w ((((w7.setCell ⟨w.heap.size + 1 + 1, 1, none⟩ (.slice (some ⟨g7, 0, none⟩) lt c7)).setCell ⟨g7, n * 5, none⟩ (.int .i64 b)).setCell ⟨w.heap.size + 1, 0, none⟩ (.slice (some ⟨A, O, none⟩) ls cs)).setCell ⟨w.heap.size + 1, 1, none⟩ (.slice (some ⟨g7, 0, none⟩) lt c7)) := (((z0.setCell (by simp only []; omega) _).setCell (by simp only []; omega) _).setCell (by simp only []; omega) _).setCell (by simp only []; omega) _
  refine bodyPost_ret (v := .agg #[.slice (some ⟨A, O, none⟩) ls cs, .slice (some ⟨g7, 0, none⟩) lt c7]) (by simp [results, Tryz.results74, go_sem, z3, z4, hne3, hne4]) rfl ⟨⟨g7, ⟨c7, rfl⟩, ?_⟩, hb8⟩
  exact ⟨Nat.lt_of_lt_of_le hA hb8.size, by simp only [World.size_setCell]; exact hgs7, H.out.ls1, q0, q1, q2, H.out.sp.below hA hb8, ((((HST.out.other hne2 _ _).upd hn b).other hne3 _ _).other hne3 _ _), H.out.sok, updB_ok H.out.tok hb⟩
end Go.Kn

namespace Go.Kn
open Go Go.Proofs Go.RowKit

/-- what a stretch of breadth b surely carries at its age -/
def cupsB (s : Nat → Int) (x : St5) (ag b : Int) : Int := cupsL s { x with b := b } ag x.hi

theorem cupsB_own (s : Nat → Int) (x : St5) (ag : Int) : cupsB s x ag x.b = cupsL s x ag x.hi := rfl

set_option maxHeartbeats 1000000 in
theorem refCarriesB_w (A O g0 ls cs lt c0 n : Nat) (s : Nat → Int) (t : Nat → St5) (b ag : Int) (w : World) (H : Hid (LineAt w A O g0 0 ls lt s (updB t n b))) (hn : n < lt) (ha : 0 ≤ ag ∧ ag ≤ 200) :
    Calls Tryz.prog 23 #[.agg #[.slice (some ⟨A, O, none⟩) ls cs, .slice (some ⟨g0, 0, none⟩) lt c0], .int .i64 (n : Int), .int .i64 ag] w
      fun e w' => (∃ y : Int, e = .returned (.agg #[.int .i64 (cupsB s (t n) ag b), .int .i64 y])) ∧ Below w.heap.size w w' := by
  have hu : updB t n b n = { t n with b := b } := if_pos rfl
  refine (refCarries_w _ _ _ _ _ _ _ _ n s _ ag w H hn ha).mono ?_
  rintro e w' ⟨rfl, hb⟩
  rw [hu]
  exact ⟨⟨_, rfl⟩, hb⟩

set_option maxRecDepth 100000 in
set_option maxHeartbeats 4000000 in
theorem rwiden_w (A O C P ls cs lt ct D F cq : Nat) (s : Nat → Int) (t : Nat → St5) (g W : Nat → Int) (nd : Int) (w : World) (H : Hid (LineAt w A O C P ls lt s t)) (hD : D < w.heap.size) (HD : Hid (NumAt w D F lt g)) (hQ : Hid (AgeP lt lt g))
    (HW : Hid (∀ i, i < lt → IsW (cupsB s (t i) (g i)) (t i).b nd (W i))) :
    Calls Tryz.prog 36 #[.agg #[.slice (some ⟨A, O, none⟩) ls cs, .slice (some ⟨C, P, none⟩) lt ct], .slice (some ⟨D, F, none⟩) lt cq, .int .i64 nd] w
      fun e w' => (((∃ i, i < lt ∧ W i = 101) ∧ e = .returned (.tuple #[.slice none 0 0, .bool false])) ∨
          ((∀ i, i < lt → W i ≤ 100) ∧ ∃ v, e = .returned (.tuple #[v, .bool true]) ∧ w'.ownsRow (w.heap.size + 1) 3 1 v lt ((upto W lt).map (Value.int .i64)))) ∧ Below w.heap.size w w' := by
  have BX := Lib.hid (fun (w1 : World) (hb : Below (w.alloc (.cells #[.slice (some ⟨A, O, none⟩) ls cs, .slice (some ⟨C, P, none⟩) lt ct] 25)).heap.size (w.alloc (.cells #[.slice (some ⟨A, O, none⟩) ls cs, .slice (some ⟨C, P, none⟩) lt ct] 25)) w1) => box_cells hb)
  have HL : Hid (∀ w1, Below (w.alloc (.cells #[.slice (some ⟨A, O, none⟩) ls cs, .slice (some ⟨C, P, none⟩) lt ct] 25)).heap.size (w.alloc (.cells #[.slice (some ⟨A, O, none⟩) ls cs, .slice (some ⟨C, P, none⟩) lt ct] 25)) w1 → LineAt w1 A O C P ls lt s t ∧ D < w1.heap.size ∧ NumAt w1 D F lt g) := Lib.hid fun w1 h => ⟨H.out.below (below_al h), Nat.lt_of_lt_of_le hD (below_al h).size, HD.out.below hD (below_al h)⟩
  have q1 := H.out.lt1
  have q2 := H.out.lt2
  have TB : Hid (∀ i, i < lt → 1 ≤ (t i).b ∧ (t i).b ≤ 100) := Lib.hid fun i hi => (H.out.bds hi).1
  obtain ⟨i0, hi, hz0, hz1, hz22⟩ := info_parts info3'
  have hsz : (w.alloc (.cells #[.slice (some ⟨A, O, none⟩) ls cs, .slice (some ⟨C, P, none⟩) lt ct] 25)).heap.size = w.heap.size + 1 := by simp
  have HSZ := Lib.hid hsz
  clear hsz
  have hf0 := field31_0
  go_enter Tryz.func36, Tryz.ntmps36
  go_wp2
  go_loopw [8, 9] (fun v ii wr => ∃ (i : Nat), i ≤ lt ∧ ii = .int .i64 i ∧ wr.ownsRow (w.heap.size + 1) 3 1 v i ((upto W i).map (Value.int .i64)) ∧ (∀ j, j < i → W j ≤ 100) ∧ Below (w.alloc (.cells #[.slice (some ⟨A, O, none⟩) ls cs, .slice (some ⟨C, P, none⟩) lt ct] 25)).heap.size (w.alloc (.cells #[.slice (some ⟨A, O, none⟩) ls cs, .slice (some ⟨C, P, none⟩) lt ct] 25)) wr) (fun _ i _ => lt - (intOf i).toNat)
  case atStart => exact ⟨0, Nat.zero_le _, rfl, World.ownsRow_nil _ _ _ _, fun j hj => absurd hj (by omega), Below.refl _ _⟩
  case round =>
    obtain ⟨i, hi', rfl, hown, hle, hbw⟩ := hrel
    have HLE := Lib.hid hle
    clear hle
    obtain ⟨va, vc, rfl, -, -⟩ := intSl_of_owns hown
    have HOWN := Lib.hid hown
    clear hown
    obtain ⟨x0, x1, x2⟩ := BX.out _ hbw
    have HBW := Lib.hid hbw
    by_cases hlt : i < lt
    · have hag := hQ.out.ok i hlt
      simp only [fromB, decide_eq_true_eq] at hag
      have HAG := Lib.hid hag
      obtain ⟨tb1, tb2⟩ := TB.out i hlt
      have y9 := ((HL.out _ hbw).1.st i hlt).1
      have HWI := Lib.hid (HW.out i hlt)
      clear hag hbw
      have n1 : (0 : Int) ≤ (i : Int) := by omega
      have n2 : (i : Int) < (lt : Int) := by omega
      go_wp2
      clear x0 x1 x2 y9
      obtain ⟨wo, rfl⟩ : ∃ wo, wo = wr := ⟨wr, rfl⟩
      go_loopw [8, 10] (fun vv bb w2 => ∃ (k : Nat), vv = .slice va i vc ∧ (t i).b + (k : Int) ≤ 101 ∧ bb = .int .i64 ((t i).b + (k : Int)) ∧ (∀ b', (t i).b ≤ b' → b' < (t i).b + (k : Int) → cupsB s (t i) (g i) b' < nd) ∧ Below wo.heap.size wo w2) (fun _ b _ => (101 - intOf b).toNat)
      case atStart => exact ⟨0, rfl, by omega, by go_num, fun b' h1 h2 => by omega, Below.refl _ _⟩
      case round =>
        obtain ⟨k, rfl, hk, rfl, hless, hb2⟩ := hrel
        have HLESS := Lib.hid hless
        have HB2 := Lib.hid hb2
        clear hless
        have hb3 := HBW.out.trans (hb2.mono HBW.out.size)
        have HB3 := Lib.hid hb3
        obtain ⟨x0, x1, x2⟩ := BX.out _ hb3
        have y0 := (HL.out _ hb3).2.2 i hlt
        have HLW := Lib.hid (HL.out _ hb3).1
        have FY : Hid (∀ w', Below wr.heap.size wr w' → w'.cell? ⟨w.heap.size, 0, none⟩ = some (.slice (some ⟨A, O, none⟩) ls cs) ∧ w'.cell? ⟨w.heap.size, 1, none⟩ = some (.slice (some ⟨C, P, none⟩) lt ct) ∧ w'.cell? ⟨D, F + i, none⟩ = some (.int .i64 (g i))) := Lib.hid fun w' h => by
          obtain ⟨z0, z1, _⟩ := BX.out _ (HB3.out.trans (h.mono HB3.out.size))
          exact ⟨z0, z1, (HL.out _ (HB3.out.trans (h.mono HB3.out.size))).2.2 i hlt⟩
        clear hb2 hb3
        by_cases hk100 : (t i).b + (k : Int) ≤ 100
        · have HB : Hid (1 ≤ (t i).b + (k : Int) ∧ (t i).b + (k : Int) ≤ 100) := Lib.hid ⟨by omega, hk100⟩
          by_cases hv : nd ≤ cupsB s (t i) (g i) ((t i).b + (k : Int))
          · have hdv : decide (nd ≤ cupsB s (t i) (g i) ((t i).b + (k : Int))) = true := decide_eq_true hv
            have EW := Lib.hid (HWI.out.eq (by omega) hk100 hv HLESS.out)
            clear hv
            go_wp2
            go_region_held3 (fun w' => w'.cell? ⟨w.heap.size, 0, none⟩ = some (.slice (some ⟨A, O, none⟩) ls cs) ∧ w'.cell? ⟨w.heap.size, 1, none⟩ = some (.slice (some ⟨C, P, none⟩) lt ct) ∧ w'.cell? ⟨D, F + i, none⟩ = some (.int .i64 (g i)))
              ((first | exact FY.out _ hb6r | exact FY.out _ hb5r | (refine FY.out _ ?_; repeat (first | exact Below.refl _ _ | refine Below.drew ?_))))
              ((first
                | (go_at_call 74; refine (widened_w _ _ _ _ _ _ _ _ i s t _ wr.drew (Lib.hid (HLW.out.below ((Below.refl _ _).drew))) hlt HB.out).mono ?_; rintro e w5 ⟨⟨g5, c5, rfl, hl5⟩, hb5⟩; have HL5 := Lib.hid hl5; clear hl5; have hb5r : Below wr.heap.size wr w5 := (Below.refl _ _).drew.trans hb5)
                | (go_at_call 23; refine (refCarriesB_w _ _ _ _ _ _ _ _ s t _ _ w5 HL5 hlt HAG.out).mono ?_; rintro e w6 ⟨⟨y6, rfl⟩, hb6⟩; have hb6r : Below wr.heap.size wr w6 := hb5r.trans (hb6.mono hb5r.size))))
            have hbw6 := HB3.out.trans (hb6r.mono HB3.out.size)
            have HO := Lib.hid (owns_below HOWN.out (HB2.out.trans (hb6r.mono HB2.out.size)))
            have hzz := hbw6.size
            rw [HSZ.out] at hzz
            have HBW6 := Lib.hid hbw6
            clear hbw6 hb6 hb6r hb5 hb5r x0 x1 x2 y0
            have h4 : (((i + 1 : Nat) : Int) != (i : Int) + 1) = false := by simp
            go_wp2_with (at_builtin; refine wpList_append_own _ rfl _ _ 22 rfl (w.heap.size + 1) 3 i0 (.int .i64 0) 1 8 Tryz.underlying22 hi hz0 hz1 hz22 rfl (by decide) _ i _ rfl (HO.out.alloc _) ⟨_, 0, none⟩ 1 1 [.int .i64 ((t i).b + (k : Int))] rfl rfl (lies_any (by first | exact al_top rfl _ _ | exact al_top (by simp) _ _)) (by intro u hu; simp at hu; subst hu; rfl) (by unfold maxLen; omega) (by omega) (by simp; omega) ?_; intro v' w7 hown7 hgrow7 _; have hown8 : w7.ownsRow (w.heap.size + 1) 3 1 v' (i + 1) ((upto W (i + 1)).map (Value.int .i64)) := (by rw [upto_map_succ, EW.out]; exact hown7); obtain ⟨vb, vd, rfl, -, -⟩ := intSl_of_owns hown8; have HOWN8 := Lib.hid hown8; clear hown7 hown8)
            go_roundw
            case rel => exact ⟨i + 1, by omega, by go_num, HOWN8.out, fun j hj => by
              by_cases e : j = i
              · rw [e, EW.out]; exact hk100
              · exact HLE.out j (by omega), (HBW6.out.alloc HBW6.out.size _).grown hgrow7 (by have := HBW6.out.size; simp at this ⊢; omega) (fun r e => by have h9 := own_ge HO.out r e; simp only [World.size_alloc] at h9 ⊢; exact h9)⟩
            case measure => simp [intOf]; omega
          · have hdv : decide (nd ≤ cupsB s (t i) (g i) ((t i).b + (k : Int))) = false := decide_eq_false hv
            have HV := Lib.hid hv
            clear hv
            go_wp2
            go_region_held3 (fun w' => w'.cell? ⟨w.heap.size, 0, none⟩ = some (.slice (some ⟨A, O, none⟩) ls cs) ∧ w'.cell? ⟨w.heap.size, 1, none⟩ = some (.slice (some ⟨C, P, none⟩) lt ct) ∧ w'.cell? ⟨D, F + i, none⟩ = some (.int .i64 (g i)))
              ((first | exact FY.out _ hb6r | exact FY.out _ hb5r | (refine FY.out _ ?_; repeat (first | exact Below.refl _ _ | refine Below.drew ?_))))
              ((first
                | (go_at_call 74; refine (widened_w _ _ _ _ _ _ _ _ i s t _ wr.drew (Lib.hid (HLW.out.below ((Below.refl _ _).drew))) hlt HB.out).mono ?_; rintro e w5 ⟨⟨g5, c5, rfl, hl5⟩, hb5⟩; have HL5 := Lib.hid hl5; clear hl5; have hb5r : Below wr.heap.size wr w5 := (Below.refl _ _).drew.trans hb5)
                | (go_at_call 23; refine (refCarriesB_w _ _ _ _ _ _ _ _ s t _ _ w5 HL5 hlt HAG.out).mono ?_; rintro e w6 ⟨⟨y6, rfl⟩, hb6⟩; have hb6r : Below wr.heap.size wr w6 := hb5r.trans (hb6.mono hb5r.size))))
            go_wp2
            go_roundw
            case rel => exact ⟨k + 1, rfl, by omega, by go_num, fun b' h1 h2 => by
              by_cases e : b' = (t i).b + (k : Int)
              · rw [e]; have := HV.out; omega
              · exact HLESS.out b' h1 (by omega), HB2.out.trans (hb6r.mono HB2.out.size)⟩
            case measure => simp [intOf]; omega
        · have EW := Lib.hid (HWI.out.none (fun b' h1 h2 => HLESS.out b' h1 (by omega)))
          have h3 : ((i : Int) != (i : Int) + 1) = true := by simp; omega
          clear x0 x1 x2 y0
          go_wp2
          refine bodyPost_ret (v := .tuple #[.slice none 0 0, .bool false]) (by simp [results, Tryz.results36, go_sem]) rfl ⟨.inl ⟨⟨i, hlt, EW.out⟩, rfl⟩, below_al HB3.out⟩
    · obtain rfl : i = lt := by omega
      clear x2 hbw
      go_wp2
      refine bodyPost_ret (v := .tuple #[.slice va i vc, .bool true]) (by simp [results, Tryz.results36, go_sem]) rfl ⟨.inr ⟨HLE.out, _, rfl, HOWN.out⟩, below_al HBW.out⟩
end Go.Kn

namespace Go.Kn
open Go Go.Proofs Go.RowKit

/-- the number that a pointer leads to -/
def bOf (w : World) : Value → Int
  | .pointer (some a) => match w.cell? a with
    | some v => intOf v
    | none => 0
  | _ => 0

set_option maxRecDepth 100000 in
set_option maxHeartbeats 8000000 in
theorem pwiden_w (A O C P ls cs lt ct D F cq : Nat) (s : Nat → Int) (t : Nat → St5) (g W : Nat → Int) (nd : Int) (w : World) (H : Hid (LineAt w A O C P ls lt s t)) (hD : D < w.heap.size) (HD : Hid (NumAt w D F lt g)) (HQ : Hid (AgeP lt lt g)) (hnd : fromB 1 10000000 nd = true)
    (HW : Hid (∀ i, i < lt → IsW (cupsB s (t i) (g i)) (t i).b nd (W i))) :
    Calls Tryz.prog 33 #[.agg #[.slice (some ⟨A, O, none⟩) ls cs, .slice (some ⟨C, P, none⟩) lt ct], .slice (some ⟨D, F, none⟩) lt cq, .int .i64 nd] w
      fun e w' => (((∃ i, i < lt ∧ W i = 101) ∧ e = .returned (.tuple #[.slice none 0 0, .int .i64 5])) ∨
          ((∀ i, i < lt → W i ≤ 100) ∧ ∃ v, e = .returned (.tuple #[v, .int .i64 0]) ∧ w'.ownsRow (w.heap.size + 1) 3 1 v lt ((upto W lt).map (Value.int .i64)))) ∧ Below w.heap.size w w' := by
  have BX := Lib.hid (fun (w1 : World) (hb : Below (w.alloc (.cells #[.slice (some ⟨A, O, none⟩) ls cs, .slice (some ⟨C, P, none⟩) lt ct] 25)).heap.size (w.alloc (.cells #[.slice (some ⟨A, O, none⟩) ls cs, .slice (some ⟨C, P, none⟩) lt ct] 25)) w1) => box_cells hb)
  have HL : Hid (∀ w1, Below (w.alloc (.cells #[.slice (some ⟨A, O, none⟩) ls cs, .slice (some ⟨C, P, none⟩) lt ct] 25)).heap.size (w.alloc (.cells #[.slice (some ⟨A, O, none⟩) ls cs, .slice (some ⟨C, P, none⟩) lt ct] 25)) w1 → LineAt w1 A O C P ls lt s t ∧ D < w1.heap.size ∧ NumAt w1 D F lt g) := Lib.hid fun w1 h => ⟨H.out.below (below_al h), Nat.lt_of_lt_of_le hD (below_al h).size, HD.out.below hD (below_al h)⟩
  have HN : Hid (∀ w1, Below (w.alloc (.cells #[.slice (some ⟨A, O, none⟩) ls cs, .slice (some ⟨C, P, none⟩) lt ct] 25)).heap.size (w.alloc (.cells #[.slice (some ⟨A, O, none⟩) ls cs, .slice (some ⟨C, P, none⟩) lt ct] 25)) w1 → Hid (AnyLine w1 (some ⟨A, O, none⟩) (some ⟨C, P, none⟩) ls lt s t)) := Lib.hid fun w1 h => Lib.hid ⟨.inr ⟨A, O, rfl, (HL.out w1 h).1.hA, (HL.out w1 h).1.sp⟩, .inr ⟨C, P, rfl, (HL.out w1 h).1.hC, (HL.out w1 h).1.st⟩⟩
  have HI : Hid (∀ w1, Below (w.alloc (.cells #[.slice (some ⟨A, O, none⟩) ls cs, .slice (some ⟨C, P, none⟩) lt ct] 25)).heap.size (w.alloc (.cells #[.slice (some ⟨A, O, none⟩) ls cs, .slice (some ⟨C, P, none⟩) lt ct] 25)) w1 → Hid (IntSl w1 (some ⟨D, F, none⟩) lt g)) := Lib.hid fun w1 h => Lib.hid (.inr ⟨D, F, rfl, (HL.out w1 h).2.1, (HL.out w1 h).2.2⟩)
  have HR : Hid (RightP ls lt s t) := Lib.hid ⟨H.out.ls1, H.out.ls2, H.out.lt1, H.out.lt2, H.out.sok, H.out.tok⟩
  have q0 := H.out.ls2
  have q1 := H.out.lt1
  have q2 := H.out.lt2
  have hltm : lt ≤ maxLen := by unfold maxLen; omega
  have TB : Hid (∀ i, i < lt → (1 ≤ (t i).b ∧ (t i).b ≤ 100) ∧ (1 ≤ (t i).d ∧ (t i).d ≤ 100) ∧ (0 ≤ (t i).hi ∧ (t i).hi ≤ 100) ∧ (0 ≤ s (t i).f.toNat ∧ s (t i).f.toNat ≤ 1000)) := Lib.hid fun i hi => by
    obtain ⟨b1, b2, b3, b4, b5⟩ := H.out.bds hi
    refine ⟨b1, b2, ?_, ?_⟩ <;> omega
  obtain ⟨i0, hi, hz0, hz1, hz22⟩ := info_parts info3'
  have hsz : (w.alloc (.cells #[.slice (some ⟨A, O, none⟩) ls cs, .slice (some ⟨C, P, none⟩) lt ct] 25)).heap.size = w.heap.size + 1 := by simp
  have HSZ := Lib.hid hsz
  clear hsz
  go_enter Tryz.func33, Tryz.ntmps33
  go_wp2
  go_step3
  go_wp2_with (first
    | (go_at_call 61; refine (isLine2_w _ _ _ _ _ _ s t _ (by omega) (by omega) (HN.out _ (Below.refl _ _))).mono ?_; rintro e w1 ⟨⟨rb, rfl, hrb⟩, hb1⟩; obtain rfl : rb = true := hrb.2 HR.out; clear hrb; obtain ⟨x1, x2, x3⟩ := BX.out _ hb1)
    | (go_at_call 68; refine (areAges_w _ _ _ _ _ _ _ g _ ⟨q1, by omega⟩ hltm (HI.out _ hb1)).mono ?_; rintro e w2 ⟨⟨rb, rfl, hrb⟩, hb2⟩; obtain rfl : rb = true := hrb.2 HQ.out; clear hrb; have hb12 := hb1.trans (hb2.mono hb1.size); clear x1 x2 x3; obtain ⟨x1, x2, x3⟩ := BX.out _ hb12)
    | (go_at_call 71; refine (isNeed_w _ _).mono ?_; rintro e w' ⟨rfl, rfl⟩))
  all_goals (try go_step3)
  go_wp2
  have HB12 := Lib.hid hb12
  clear hb1 hb2 hb12 x1 x2 x3
  go_loopw [8, 28] (fun v ii wr => ∃ (i : Nat), i ≤ lt ∧ ii = .int .i64 i ∧ wr.ownsRow (w.heap.size + 1) 3 1 v i ((upto W i).map (Value.int .i64)) ∧ (∀ j, j < i → W j ≤ 100) ∧ Below (w.alloc (.cells #[.slice (some ⟨A, O, none⟩) ls cs, .slice (some ⟨C, P, none⟩) lt ct] 25)).heap.size (w.alloc (.cells #[.slice (some ⟨A, O, none⟩) ls cs, .slice (some ⟨C, P, none⟩) lt ct] 25)) wr) (fun _ i _ => lt - (intOf i).toNat)
  case atStart => exact ⟨0, Nat.zero_le _, rfl, World.ownsRow_nil _ _ _ _, fun j hj => absurd hj (by omega), HB12.out⟩
  case round =>
    obtain ⟨i, hi', rfl, hown, hle, hbw⟩ := hrel
    have HLE := Lib.hid hle
    clear hle
    obtain ⟨va, vc, rfl, -, -⟩ := intSl_of_owns hown
    have HOWN := Lib.hid hown
    clear hown
    obtain ⟨x0, x1, x2⟩ := BX.out _ hbw
    have HBW := Lib.hid hbw
    by_cases hlt : i < lt
    · have hag := HQ.out.ok i hlt
      simp only [fromB, decide_eq_true_eq] at hag
      have HAG := Lib.hid hag
      obtain ⟨⟨tb1, tb2⟩, ⟨td1, td2⟩, ⟨th1, th2⟩, tsp⟩ := TB.out i hlt
      have HSP := Lib.hid tsp
      have HWI := Lib.hid (HW.out i hlt)
      have y0 := (HL.out _ hbw).2.2 i hlt
      have HLW := Lib.hid (HL.out _ hbw).1
      clear hag hbw tsp
      have n1 : (0 : Int) ≤ (i : Int) := by omega
      have n2 : (i : Int) < (lt : Int) := by omega
      go_wp2_with (go_at_call 64; refine (at_l HLW.out hlt _ _ _).mono ?_; rintro e w6 ⟨rfl, hb6⟩)
      clear x0 x1 x2 y0
      have HB6 := Lib.hid hb6
      obtain ⟨wo, rfl⟩ : ∃ wo, wo = wr := ⟨wr, rfl⟩
      clear hb6
      go_loopw [8, 11] (fun vv pp w2 => ∃ (k B : Nat), vv = .slice va i vc ∧ pp = .pointer (some ⟨B, 0, none⟩) ∧ (t i).b + (k : Int) ≤ 101 ∧ (∀ b', (t i).b ≤ b' → b' < (t i).b + (k : Int) → cupsB s (t i) (g i) b' < nd) ∧ Below wo.heap.size wo w2 ∧ wo.heap.size ≤ B ∧ B < w2.heap.size ∧ w2.cell? ⟨B, 0, none⟩ = some (.int .i64 ((t i).b + (k : Int))) ∧ w2.cell? ⟨B, 1, none⟩ = some (.int .i64 ((t i).d)) ∧ w2.cell? ⟨B, 2, none⟩ = some (.int .i64 ((t i).f)) ∧ w2.cell? ⟨B, 3, none⟩ = some (.int .i64 ((t i).lo)) ∧ w2.cell? ⟨B, 4, none⟩ = some (.int .i64 ((t i).hi)) ∧ w2.cell? ⟨B, 5, none⟩ = some (.int .i64 (s (t i).f.toNat)) ∧ w2.cell? ⟨B, 6, none⟩ = some (.int .i64 (g i)) ∧ w2.frozen? ⟨B, 0, none⟩ = false) (fun _ p w2 => (101 - bOf w2 p).toNat)
      case atStart => exact ⟨0, w6.heap.size, rfl, rfl, by omega, fun b' h1 h2 => by omega, HB6.out.alloc HB6.out.size _, HB6.out.size, by simp, by simp, by simp, by simp, by simp, by simp, by simp, by simp, by simp⟩
      case round =>
        obtain ⟨k, B, rfl, rfl, hk, hless, hb2, hB0, hBl, c0, c1, c2, c3, c4, c5, c6, c7⟩ := hrel
        have HLESS := Lib.hid hless
        have HB2 := Lib.hid hb2
        clear hless
        have hb3 := HBW.out.trans (hb2.mono HBW.out.size)
        have HB3 := Lib.hid hb3
        clear hb2 hb3
        by_cases hk100 : (t i).b + (k : Int) ≤ 100
        · by_cases hv : nd ≤ cupsB s (t i) (g i) ((t i).b + (k : Int))
          · have hdv : decide (nd ≤ cupsV ((t i).b + (k : Int)) (t i).d (s (t i).f.toNat) (g i) (t i).hi) = true := decide_eq_true hv
            have EW := Lib.hid (HWI.out.eq (by omega) hk100 hv HLESS.out)
            clear hv
            have HO0 := Lib.hid (owns_below HOWN.out HB2.out)
            have hzz := HB3.out.size
            rw [HSZ.out] at hzz
            have HBl : Hid (∀ w8, Below wr.heap.size wr w8 → w8.ownsRow (w.heap.size + 1) 3 1 (.slice va i vc) i ((upto W i).map (Value.int .i64)) ∧ Below (w.alloc (.cells #[.slice (some ⟨A, O, none⟩) ls cs, .slice (some ⟨C, P, none⟩) lt ct] 25)).heap.size (w.alloc (.cells #[.slice (some ⟨A, O, none⟩) ls cs, .slice (some ⟨C, P, none⟩) lt ct] 25)) w8 ∧ w.heap.size + 1 ≤ w8.heap.size) := Lib.hid fun w8 h => ⟨owns_below HO0.out h, HB3.out.trans (h.mono HB3.out.size), Nat.le_trans hzz h.size⟩
            have h4 : (((i + 1 : Nat) : Int) != (i : Int) + 1) = false := by simp
            go_wp2_with (first
              | (go_at_call 73; refine (surely_w _ _ _ _ _ _ _ nd _ ⟨by omega, by omega⟩ ⟨by omega, by omega⟩ HSP.out HAG.out ⟨by omega, by omega⟩).mono ?_; rw [hdv]; rintro e w8 ⟨rfl, hb8⟩; obtain ⟨qc, qf⟩ := bcell hb8; have HO := Lib.hid (HBl.out _ hb8); have hz8 := (HBl.out _ hb8).2.2; have d0 := (qc _ 0 hBl).trans c0; have d1 := (qc _ 1 hBl).trans c1; have d2 := (qc _ 2 hBl).trans c2; have d3 := (qc _ 3 hBl).trans c3; have d4 := (qc _ 4 hBl).trans c4; have d5 := (qc _ 5 hBl).trans c5; have d6 := (qc _ 6 hBl).trans c6; have df := (qf _ 0 hBl).trans c7; have hBl8 := Nat.lt_of_lt_of_le hBl hb8.size; clear qc qf)
              | (at_builtin; refine wpList_append_own _ rfl _ _ 22 rfl (w.heap.size + 1) 3 i0 (.int .i64 0) 1 8 Tryz.underlying22 hi hz0 hz1 hz22 rfl (by decide) _ i _ rfl (HO.out.1.alloc _) ⟨_, 0, none⟩ 1 1 [.int .i64 ((t i).b + (k : Int))] rfl rfl (lies_any (by first | exact al_top rfl _ _ | exact al_top (by simp) _ _)) (by intro u hu; simp at hu; subst hu; rfl) (by unfold maxLen; omega) (by omega) (by simp; omega) ?_; intro v' w7 hown7 hgrow7 _; have hown8 : w7.ownsRow (w.heap.size + 1) 3 1 v' (i + 1) ((upto W (i + 1)).map (Value.int .i64)) := (by rw [upto_map_succ, EW.out]; exact hown7); have HOWN8 := Lib.hid hown8; clear hown7 hown8))
            go_roundw
            case rel => exact ⟨i + 1, by omega, by go_num, HOWN8.out, fun j hj => by
              by_cases e : j = i
              · rw [e, EW.out]; exact hk100
              · exact HLE.out j (by omega), (HO.out.2.1.alloc HO.out.2.1.size _).grown hgrow7 (by have := HO.out.2.1.size; simp at this ⊢; omega) (fun r e => by have h9 := own_ge HO.out.1 r e; simp only [World.size_alloc] at h9 ⊢; exact h9)⟩
            case measure => simp [intOf]; omega
          · have hdv : decide (nd ≤ cupsV ((t i).b + (k : Int)) (t i).d (s (t i).f.toNat) (g i) (t i).hi) = false := decide_eq_false hv
            have HV := Lib.hid hv
            clear hv
            go_wp2_with (go_at_call 73; refine (surely_w _ _ _ _ _ _ _ nd _ ⟨by omega, by omega⟩ ⟨by omega, by omega⟩ HSP.out HAG.out ⟨by omega, by omega⟩).mono ?_; rw [hdv]; rintro e w8 ⟨rfl, hb8⟩; obtain ⟨qc, qf⟩ := bcell hb8; have d0 := (qc _ 0 hBl).trans c0; have d1 := (qc _ 1 hBl).trans c1; have d2 := (qc _ 2 hBl).trans c2; have d3 := (qc _ 3 hBl).trans c3; have d4 := (qc _ 4 hBl).trans c4; have d5 := (qc _ 5 hBl).trans c5; have d6 := (qc _ 6 hBl).trans c6; have df := (qf _ 0 hBl).trans c7; have hBl8 := Nat.lt_of_lt_of_le hBl hb8.size; clear qc qf)
            go_roundw
            case rel =>
              have hbx := HB2.out.trans (hb8.mono HB2.out.size)
              exact ⟨k + 1, w8.heap.size, rfl, rfl, by omega, fun b' h1 h2 => by
                by_cases e : b' = (t i).b + (k : Int)
                · rw [e]; have := HV.out; omega
                · exact HLESS.out b' h1 (by omega), hbx.alloc hbx.size _, hbx.size, by simp, by rw [show ((t i).b + ((k + 1 : Nat) : Int)) = (t i).b + (k : Int) + 1 by omega]; simp, by simp, by simp, by simp, by simp, by simp, by simp, by simp⟩
            case measure => simp [bOf, intOf, c0]; omega
        · have EW := Lib.hid (HWI.out.none (fun b' h1 h2 => HLESS.out b' h1 (by omega)))
          go_wp2
          refine bodyPost_ret (v := .tuple #[.slice none 0 0, .int .i64 5]) (by simp [results, Tryz.results33, go_sem]) rfl ⟨.inl ⟨⟨i, hlt, EW.out⟩, rfl⟩, below_al HB3.out⟩
    · obtain rfl : i = lt := by omega
      clear x2 hbw
      go_wp2
      rw [Exit.noGoto_ret]
      refine bodyPost_ret (v := .tuple #[.slice va i vc, .int .i64 0]) (by simp [results, Tryz.results33, go_sem]) rfl ⟨.inr ⟨HLE.out, _, rfl, HOWN.out⟩, below_al HBW.out⟩
end Go.Kn

namespace Go.Kn
open Go Go.Proofs Go.RowKit

set_option maxRecDepth 100000 in
set_option maxHeartbeats 4000000 in
theorem latestF1 (sa ta : Option Addr) (ls cs lt ct : Nat) (s : Nat → Int) (t : Nat → St5) (st nd : Int) (w : World) (hls : ls ≤ 1000000) (hlt : lt ≤ 1000000) (H : Hid (AnyLine w sa ta ls lt s t)) (HR : Hid (¬ RightP ls lt s t)) :
    Calls Tryz.prog 32 #[.agg #[.slice sa ls cs, .slice ta lt ct], .int .i64 st, .int .i64 nd] w
      fun e w' => e = .returned (.tuple #[.int .i64 0, .int .i64 2]) ∧ Below w.heap.size w w' := by
  have BX := Lib.hid (fun (w1 : World) (hb : Below (w.alloc (.cells #[.slice sa ls cs, .slice ta lt ct] 25)).heap.size (w.alloc (.cells #[.slice sa ls cs, .slice ta lt ct] 25)) w1) => box_cells hb)
  have HN : Hid (∀ w1, Below (w.alloc (.cells #[.slice sa ls cs, .slice ta lt ct] 25)).heap.size (w.alloc (.cells #[.slice sa ls cs, .slice ta lt ct] 25)) w1 → Hid (AnyLine w1 sa ta ls lt s t)) := Lib.hid fun w1 h => Lib.hid (H.out.below (below_al h))
  have hb : Below (w.alloc (.cells #[.slice sa ls cs, .slice ta lt ct] 25)).heap.size (w.alloc (.cells #[.slice sa ls cs, .slice ta lt ct] 25)) (w.alloc (.cells #[.slice sa ls cs, .slice ta lt ct] 25)) := Below.refl _ _
  obtain ⟨x1, x2, x3⟩ := BX.out _ hb
  go_enter Tryz.func32, Tryz.ntmps32
  go_wp2_with (first
    | (go_at_call 61; refine (isLine2_w _ _ _ _ _ _ s t _ hls hlt (HN.out _ hb)).mono ?_; rintro e wl ⟨⟨rb, rfl, hrb⟩, hv⟩; obtain rfl : rb = false := (by cases rb <;> first | rfl | exact (HR.out (hrb.1 rfl)).elim); clear hrb; replace hb := hb.trans (hv.mono hb.size); clear x1 x2 x3; obtain ⟨x1, x2, x3⟩ := BX.out _ hb))
  exact bodyPost_ret (v := .tuple #[.int .i64 0, .int .i64 2]) (by simp [results, Tryz.results32, go_sem]) rfl ⟨rfl, below_al hb⟩

set_option maxRecDepth 100000 in
set_option maxHeartbeats 4000000 in
theorem latestF2 (sa ta : Option Addr) (ls cs lt ct : Nat) (s : Nat → Int) (t : Nat → St5) (st nd : Int) (w : World) (hls : ls ≤ 1000000) (hlt : lt ≤ 1000000) (H : Hid (AnyLine w sa ta ls lt s t)) (HR : Hid (RightP ls lt s t)) (g1 : fromB 0 ((lt : Int) - 1) st = false) :
    Calls Tryz.prog 32 #[.agg #[.slice sa ls cs, .slice ta lt ct], .int .i64 st, .int .i64 nd] w
      fun e w' => e = .returned (.tuple #[.int .i64 0, .int .i64 2]) ∧ Below w.heap.size w w' := by
  have BX := Lib.hid (fun (w1 : World) (hb : Below (w.alloc (.cells #[.slice sa ls cs, .slice ta lt ct] 25)).heap.size (w.alloc (.cells #[.slice sa ls cs, .slice ta lt ct] 25)) w1) => box_cells hb)
  have HN : Hid (∀ w1, Below (w.alloc (.cells #[.slice sa ls cs, .slice ta lt ct] 25)).heap.size (w.alloc (.cells #[.slice sa ls cs, .slice ta lt ct] 25)) w1 → Hid (AnyLine w1 sa ta ls lt s t)) := Lib.hid fun w1 h => Lib.hid (H.out.below (below_al h))
  have hb : Below (w.alloc (.cells #[.slice sa ls cs, .slice ta lt ct] 25)).heap.size (w.alloc (.cells #[.slice sa ls cs, .slice ta lt ct] 25)) (w.alloc (.cells #[.slice sa ls cs, .slice ta lt ct] 25)) := Below.refl _ _
  obtain ⟨x1, x2, x3⟩ := BX.out _ hb
  go_enter Tryz.func32, Tryz.ntmps32
  go_wp2_with (first
    | (go_at_call 61; refine (isLine2_w _ _ _ _ _ _ s t _ hls hlt (HN.out _ hb)).mono ?_; rintro e wl ⟨⟨rb, rfl, hrb⟩, hv⟩; obtain rfl : rb = true := hrb.2 HR.out; clear hrb; replace hb := hb.trans (hv.mono hb.size); clear x1 x2 x3; obtain ⟨x1, x2, x3⟩ := BX.out _ hb)
    | (go_at_call 62; refine (isStretch_w _ _ _ _ _ _ (by unfold maxLen; omega)).mono ?_; rintro e wl ⟨rfl, hv⟩; replace hb := hb.trans (hv.mono hb.size); clear x1 x2 x3; obtain ⟨x1, x2, x3⟩ := BX.out _ hb))
  exact bodyPost_ret (v := .tuple #[.int .i64 0, .int .i64 2]) (by simp [results, Tryz.results32, go_sem]) rfl ⟨rfl, below_al hb⟩

set_option maxRecDepth 100000 in
set_option maxHeartbeats 4000000 in
theorem latestF3 (sa ta : Option Addr) (ls cs lt ct : Nat) (s : Nat → Int) (t : Nat → St5) (st nd : Int) (w : World) (hls : ls ≤ 1000000) (hlt : lt ≤ 1000000) (H : Hid (AnyLine w sa ta ls lt s t)) (HR : Hid (RightP ls lt s t)) (g1 : fromB 0 ((lt : Int) - 1) st = true) (g2 : fromB 1 10000000 nd = false) :
    Calls Tryz.prog 32 #[.agg #[.slice sa ls cs, .slice ta lt ct], .int .i64 st, .int .i64 nd] w
      fun e w' => e = .returned (.tuple #[.int .i64 0, .int .i64 2]) ∧ Below w.heap.size w w' := by
  have BX := Lib.hid (fun (w1 : World) (hb : Below (w.alloc (.cells #[.slice sa ls cs, .slice ta lt ct] 25)).heap.size (w.alloc (.cells #[.slice sa ls cs, .slice ta lt ct] 25)) w1) => box_cells hb)
  have HN : Hid (∀ w1, Below (w.alloc (.cells #[.slice sa ls cs, .slice ta lt ct] 25)).heap.size (w.alloc (.cells #[.slice sa ls cs, .slice ta lt ct] 25)) w1 → Hid (AnyLine w1 sa ta ls lt s t)) := Lib.hid fun w1 h => Lib.hid (H.out.below (below_al h))
  have hb : Below (w.alloc (.cells #[.slice sa ls cs, .slice ta lt ct] 25)).heap.size (w.alloc (.cells #[.slice sa ls cs, .slice ta lt ct] 25)) (w.alloc (.cells #[.slice sa ls cs, .slice ta lt ct] 25)) := Below.refl _ _
  obtain ⟨x1, x2, x3⟩ := BX.out _ hb
  go_enter Tryz.func32, Tryz.ntmps32
  go_wp2_with (first
    | (go_at_call 61; refine (isLine2_w _ _ _ _ _ _ s t _ hls hlt (HN.out _ hb)).mono ?_; rintro e wl ⟨⟨rb, rfl, hrb⟩, hv⟩; obtain rfl : rb = true := hrb.2 HR.out; clear hrb; replace hb := hb.trans (hv.mono hb.size); clear x1 x2 x3; obtain ⟨x1, x2, x3⟩ := BX.out _ hb)
    | (go_at_call 62; refine (isStretch_w _ _ _ _ _ _ (by unfold maxLen; omega)).mono ?_; rintro e wl ⟨rfl, hv⟩; replace hb := hb.trans (hv.mono hb.size); clear x1 x2 x3; obtain ⟨x1, x2, x3⟩ := BX.out _ hb)
    | (go_at_call 71; refine (isNeed_w _ _).mono ?_; rintro e w' ⟨rfl, rfl⟩))
  exact bodyPost_ret (v := .tuple #[.int .i64 0, .int .i64 2]) (by simp [results, Tryz.results32, go_sem]) rfl ⟨rfl, below_al hb⟩

set_option maxRecDepth 100000 in
set_option maxHeartbeats 4000000 in
theorem widenF1 (sa ta sq : Option Addr) (ls cs lt ct lq cq : Nat) (s : Nat → Int) (t : Nat → St5) (g : Nat → Int) (nd : Int) (w : World) (hls : ls ≤ 1000000) (hlt : lt ≤ 1000000) (hlq : lq ≤ maxLen) (H : Hid (AnyLine w sa ta ls lt s t)) (HS : Hid (IntSl w sq lq g)) (HR : Hid (¬ RightP ls lt s t)) :
    Calls Tryz.prog 33 #[.agg #[.slice sa ls cs, .slice ta lt ct], .slice sq lq cq, .int .i64 nd] w
      fun e w' => e = .returned (.tuple #[.slice none 0 0, .int .i64 2]) ∧ Below w.heap.size w w' := by
  have BX := Lib.hid (fun (w1 : World) (hb : Below (w.alloc (.cells #[.slice sa ls cs, .slice ta lt ct] 25)).heap.size (w.alloc (.cells #[.slice sa ls cs, .slice ta lt ct] 25)) w1) => box_cells hb)
  have HN : Hid (∀ w1, Below (w.alloc (.cells #[.slice sa ls cs, .slice ta lt ct] 25)).heap.size (w.alloc (.cells #[.slice sa ls cs, .slice ta lt ct] 25)) w1 → Hid (AnyLine w1 sa ta ls lt s t)) := Lib.hid fun w1 h => Lib.hid (H.out.below (below_al h))
  have HI : Hid (∀ w1, Below (w.alloc (.cells #[.slice sa ls cs, .slice ta lt ct] 25)).heap.size (w.alloc (.cells #[.slice sa ls cs, .slice ta lt ct] 25)) w1 → Hid (IntSl w1 sq lq g)) := Lib.hid fun w1 h => Lib.hid (HS.out.below (below_al h))
  have hb : Below (w.alloc (.cells #[.slice sa ls cs, .slice ta lt ct] 25)).heap.size (w.alloc (.cells #[.slice sa ls cs, .slice ta lt ct] 25)) (w.alloc (.cells #[.slice sa ls cs, .slice ta lt ct] 25)) := Below.refl _ _
  obtain ⟨x1, x2, x3⟩ := BX.out _ hb
  go_enter Tryz.func33, Tryz.ntmps33
  go_wp2
  go_step3
  go_wp2_with (first
    | (go_at_call 61; refine (isLine2_w _ _ _ _ _ _ s t _ hls hlt (HN.out _ hb)).mono ?_; rintro e wl ⟨⟨rb, rfl, hrb⟩, hv⟩; obtain rfl : rb = false := (by cases rb <;> first | rfl | exact (HR.out (hrb.1 rfl)).elim); clear hrb; replace hb := hb.trans (hv.mono hb.size); clear x1 x2 x3; obtain ⟨x1, x2, x3⟩ := BX.out _ hb))
  first
    | exact bodyPost_ret (v := .tuple #[.slice none 0 0, .int .i64 2]) (by simp [results, Tryz.results33, go_sem]) rfl ⟨rfl, below_al hb⟩
    | (rw [Exit.noGoto_ret]
       exact bodyPost_ret (v := .tuple #[.slice none 0 0, .int .i64 2]) (by simp [results, Tryz.results33, go_sem]) rfl ⟨rfl, below_al hb⟩)

set_option maxRecDepth 100000 in
set_option maxHeartbeats 4000000 in
theorem widenF2 (sa ta sq : Option Addr) (ls cs lt ct lq cq : Nat) (s : Nat → Int) (t : Nat → St5) (g : Nat → Int) (nd : Int) (w : World) (hls : ls ≤ 1000000) (hlt : lt ≤ 1000000) (hlq : lq ≤ maxLen) (H : Hid (AnyLine w sa ta ls lt s t)) (HS : Hid (IntSl w sq lq g)) (HR : Hid (RightP ls lt s t)) (HQ : Hid (¬ AgeP lt lq g)) :
    Calls Tryz.prog 33 #[.agg #[.slice sa ls cs, .slice ta lt ct], .slice sq lq cq, .int .i64 nd] w
      fun e w' => e = .returned (.tuple #[.slice none 0 0, .int .i64 2]) ∧ Below w.heap.size w w' := by
  have BX := Lib.hid (fun (w1 : World) (hb : Below (w.alloc (.cells #[.slice sa ls cs, .slice ta lt ct] 25)).heap.size (w.alloc (.cells #[.slice sa ls cs, .slice ta lt ct] 25)) w1) => box_cells hb)
  have HN : Hid (∀ w1, Below (w.alloc (.cells #[.slice sa ls cs, .slice ta lt ct] 25)).heap.size (w.alloc (.cells #[.slice sa ls cs, .slice ta lt ct] 25)) w1 → Hid (AnyLine w1 sa ta ls lt s t)) := Lib.hid fun w1 h => Lib.hid (H.out.below (below_al h))
  have HI : Hid (∀ w1, Below (w.alloc (.cells #[.slice sa ls cs, .slice ta lt ct] 25)).heap.size (w.alloc (.cells #[.slice sa ls cs, .slice ta lt ct] 25)) w1 → Hid (IntSl w1 sq lq g)) := Lib.hid fun w1 h => Lib.hid (HS.out.below (below_al h))
  have hb : Below (w.alloc (.cells #[.slice sa ls cs, .slice ta lt ct] 25)).heap.size (w.alloc (.cells #[.slice sa ls cs, .slice ta lt ct] 25)) (w.alloc (.cells #[.slice sa ls cs, .slice ta lt ct] 25)) := Below.refl _ _
  obtain ⟨x1, x2, x3⟩ := BX.out _ hb
  go_enter Tryz.func33, Tryz.ntmps33
  go_wp2
  go_step3
  go_wp2_with (first
    | (go_at_call 61; refine (isLine2_w _ _ _ _ _ _ s t _ hls hlt (HN.out _ hb)).mono ?_; rintro e wl ⟨⟨rb, rfl, hrb⟩, hv⟩; obtain rfl : rb = true := hrb.2 HR.out; clear hrb; replace hb := hb.trans (hv.mono hb.size); clear x1 x2 x3; obtain ⟨x1, x2, x3⟩ := BX.out _ hb)
    | (go_at_call 68; refine (areAges_w _ _ _ _ _ _ _ g _ ⟨HR.out.lt1, hlt⟩ hlq (HI.out _ hb)).mono ?_; rintro e wl ⟨⟨rb, rfl, hrb⟩, hv⟩; obtain rfl : rb = false := (by cases rb <;> first | rfl | exact (HQ.out (hrb.1 rfl)).elim); clear hrb; replace hb := hb.trans (hv.mono hb.size); clear x1 x2 x3; obtain ⟨x1, x2, x3⟩ := BX.out _ hb))
  first
    | exact bodyPost_ret (v := .tuple #[.slice none 0 0, .int .i64 2]) (by simp [results, Tryz.results33, go_sem]) rfl ⟨rfl, below_al hb⟩
    | (rw [Exit.noGoto_ret]
       exact bodyPost_ret (v := .tuple #[.slice none 0 0, .int .i64 2]) (by simp [results, Tryz.results33, go_sem]) rfl ⟨rfl, below_al hb⟩)

set_option maxRecDepth 100000 in
set_option maxHeartbeats 4000000 in
theorem widenF3 (sa ta sq : Option Addr) (ls cs lt ct lq cq : Nat) (s : Nat → Int) (t : Nat → St5) (g : Nat → Int) (nd : Int) (w : World) (hls : ls ≤ 1000000) (hlt : lt ≤ 1000000) (hlq : lq ≤ maxLen) (H : Hid (AnyLine w sa ta ls lt s t)) (HS : Hid (IntSl w sq lq g)) (HR : Hid (RightP ls lt s t)) (HQ : Hid (AgeP lt lq g)) (g2 : fromB 1 10000000 nd = false) :
    Calls Tryz.prog 33 #[.agg #[.slice sa ls cs, .slice ta lt ct], .slice sq lq cq, .int .i64 nd] w
      fun e w' => e = .returned (.tuple #[.slice none 0 0, .int .i64 2]) ∧ Below w.heap.size w w' := by
  have BX := Lib.hid (fun (w1 : World) (hb : Below (w.alloc (.cells #[.slice sa ls cs, .slice ta lt ct] 25)).heap.size (w.alloc (.cells #[.slice sa ls cs, .slice ta lt ct] 25)) w1) => box_cells hb)
  have HN : Hid (∀ w1, Below (w.alloc (.cells #[.slice sa ls cs, .slice ta lt ct] 25)).heap.size (w.alloc (.cells #[.slice sa ls cs, .slice ta lt ct] 25)) w1 → Hid (AnyLine w1 sa ta ls lt s t)) := Lib.hid fun w1 h => Lib.hid (H.out.below (below_al h))
  have HI : Hid (∀ w1, Below (w.alloc (.cells #[.slice sa ls cs, .slice ta lt ct] 25)).heap.size (w.alloc (.cells #[.slice sa ls cs, .slice ta lt ct] 25)) w1 → Hid (IntSl w1 sq lq g)) := Lib.hid fun w1 h => Lib.hid (HS.out.below (below_al h))
  have hb : Below (w.alloc (.cells #[.slice sa ls cs, .slice ta lt ct] 25)).heap.size (w.alloc (.cells #[.slice sa ls cs, .slice ta lt ct] 25)) (w.alloc (.cells #[.slice sa ls cs, .slice ta lt ct] 25)) := Below.refl _ _
  obtain ⟨x1, x2, x3⟩ := BX.out _ hb
  go_enter Tryz.func33, Tryz.ntmps33
  go_wp2
  go_step3
  go_wp2_with (first
    | (go_at_call 61; refine (isLine2_w _ _ _ _ _ _ s t _ hls hlt (HN.out _ hb)).mono ?_; rintro e wl ⟨⟨rb, rfl, hrb⟩, hv⟩; obtain rfl : rb = true := hrb.2 HR.out; clear hrb; replace hb := hb.trans (hv.mono hb.size); clear x1 x2 x3; obtain ⟨x1, x2, x3⟩ := BX.out _ hb)
    | (go_at_call 68; refine (areAges_w _ _ _ _ _ _ _ g _ ⟨HR.out.lt1, hlt⟩ hlq (HI.out _ hb)).mono ?_; rintro e wl ⟨⟨rb, rfl, hrb⟩, hv⟩; obtain rfl : rb = true := hrb.2 HQ.out; clear hrb; replace hb := hb.trans (hv.mono hb.size); clear x1 x2 x3; obtain ⟨x1, x2, x3⟩ := BX.out _ hb)
    | (go_at_call 71; refine (isNeed_w _ _).mono ?_; rintro e w' ⟨rfl, rfl⟩))
  first
    | exact bodyPost_ret (v := .tuple #[.slice none 0 0, .int .i64 2]) (by simp [results, Tryz.results33, go_sem]) rfl ⟨rfl, below_al hb⟩
    | (rw [Exit.noGoto_ret]
       exact bodyPost_ret (v := .tuple #[.slice none 0 0, .int .i64 2]) (by simp [results, Tryz.results33, go_sem]) rfl ⟨rfl, below_al hb⟩)

theorem latest_t (A O C P ls cs lt ct n : Nat) (s : Nat → Int) (t : Nat → St5) (nd a : Int) (w : World) (H : Hid (LineAt w A O C P ls lt s t)) (hn : n < lt) (hnd : fromB 1 10000000 nd = true) (HG : Hid (Great s (t n) nd a true)) :
    Calls Tryz.prog 32 #[.agg #[.slice (some ⟨A, O, none⟩) ls cs, .slice (some ⟨C, P, none⟩) lt ct], .int .i64 (n : Int), .int .i64 nd] w fun e w' => e = .returned (.tuple #[.int .i64 a, .int .i64 0]) ∧ Below w.heap.size w w' := by
  refine (latest_w A O C P ls cs lt ct n s t nd w H hn hnd).mono ?_
  rintro e w' ⟨⟨a', b, rfl, hg⟩, hb⟩
  cases b with
  | false => exact (HG.out.not (a' := a') hg).elim
  | true => obtain rfl := hg.same HG.out; exact ⟨rfl, hb⟩

theorem latest_f (A O C P ls cs lt ct n : Nat) (s : Nat → Int) (t : Nat → St5) (nd a : Int) (w : World) (H : Hid (LineAt w A O C P ls lt s t)) (hn : n < lt) (hnd : fromB 1 10000000 nd = true) (HG : Hid (Great s (t n) nd a false)) :
    Calls Tryz.prog 32 #[.agg #[.slice (some ⟨A, O, none⟩) ls cs, .slice (some ⟨C, P, none⟩) lt ct], .int .i64 (n : Int), .int .i64 nd] w fun e w' => e = .returned (.tuple #[.int .i64 0, .int .i64 5]) ∧ Below w.heap.size w w' := by
  refine (latest_w A O C P ls cs lt ct n s t nd w H hn hnd).mono ?_
  rintro e w' ⟨⟨a', b, rfl, hg⟩, hb⟩
  cases b with
  | false => obtain rfl := hg.zero; exact ⟨rfl, hb⟩
  | true => exact (hg.not HG.out).elim

theorem rlatest_t (A O C P ls cs lt ct n : Nat) (s : Nat → Int) (t : Nat → St5) (nd a : Int) (w : World) (H : Hid (LineAt w A O C P ls lt s t)) (hn : n < lt) (HG : Hid (Great s (t n) nd a true)) :
    Calls Tryz.prog 35 #[.agg #[.slice (some ⟨A, O, none⟩) ls cs, .slice (some ⟨C, P, none⟩) lt ct], .int .i64 (n : Int), .int .i64 nd] w fun e w' => e = .returned (.int .i64 a) ∧ Below w.heap.size w w' := by
  refine (refLatest_w A O C P ls cs lt ct n s t nd w H hn).mono ?_
  rintro e w' ⟨⟨y, rfl, hy⟩, hb⟩
  rcases hy with ⟨_, hg⟩ | ⟨_, hg⟩
  · obtain rfl := hg.same HG.out; exact ⟨rfl, hb⟩
  · exact (HG.out.not hg).elim

theorem rlatest_f (A O C P ls cs lt ct n : Nat) (s : Nat → Int) (t : Nat → St5) (nd a : Int) (w : World) (H : Hid (LineAt w A O C P ls lt s t)) (hn : n < lt) (HG : Hid (Great s (t n) nd a false)) :
    Calls Tryz.prog 35 #[.agg #[.slice (some ⟨A, O, none⟩) ls cs, .slice (some ⟨C, P, none⟩) lt ct], .int .i64 (n : Int), .int .i64 nd] w fun e w' => e = .returned (.int .i64 (-1)) ∧ Below w.heap.size w w' := by
  refine (refLatest_w A O C P ls cs lt ct n s t nd w H hn).mono ?_
  rintro e w' ⟨⟨y, rfl, hy⟩, hb⟩
  rcases hy with ⟨_, hg⟩ | ⟨rfl, hg⟩
  · exact (hg.not HG.out).elim
  · exact ⟨rfl, hb⟩

theorem pwiden_t (A O C P ls cs lt ct D F cq : Nat) (s : Nat → Int) (t : Nat → St5) (g W : Nat → Int) (nd : Int) (w : World) (H : Hid (LineAt w A O C P ls lt s t)) (hD : D < w.heap.size) (HD : Hid (NumAt w D F lt g)) (HQ : Hid (AgeP lt lt g)) (hnd : fromB 1 10000000 nd = true) (HW : Hid (∀ i, i < lt → IsW (cupsB s (t i) (g i)) (t i).b nd (W i))) (HT : Hid (∀ i, i < lt → W i ≤ 100)) :
    Calls Tryz.prog 33 #[.agg #[.slice (some ⟨A, O, none⟩) ls cs, .slice (some ⟨C, P, none⟩) lt ct], .slice (some ⟨D, F, none⟩) lt cq, .int .i64 nd] w fun e w' => (∃ va vc, e = .returned (.tuple #[.slice va lt vc, .int .i64 0]) ∧ Hid (IntSl w' va lt (fun i => (upto W lt).getD i 0))) ∧ Below w.heap.size w w' := by
  refine (pwiden_w A O C P ls cs lt ct D F cq s t g W nd w H hD HD HQ hnd HW).mono ?_
  rintro e w' ⟨⟨⟨i, h1, h2⟩, _⟩ | ⟨_, v, rfl, hv⟩, hb⟩
  · have := HT.out i h1; omega
  · obtain ⟨va, vc, rfl, _, hI⟩ := intSl_of_owns hv
    exact ⟨⟨va, vc, rfl, Lib.hid hI⟩, hb⟩

theorem pwiden_f (A O C P ls cs lt ct D F cq : Nat) (s : Nat → Int) (t : Nat → St5) (g W : Nat → Int) (nd : Int) (w : World) (H : Hid (LineAt w A O C P ls lt s t)) (hD : D < w.heap.size) (HD : Hid (NumAt w D F lt g)) (HQ : Hid (AgeP lt lt g)) (hnd : fromB 1 10000000 nd = true) (HW : Hid (∀ i, i < lt → IsW (cupsB s (t i) (g i)) (t i).b nd (W i))) (HT : Hid (∃ i, i < lt ∧ W i = 101)) :
    Calls Tryz.prog 33 #[.agg #[.slice (some ⟨A, O, none⟩) ls cs, .slice (some ⟨C, P, none⟩) lt ct], .slice (some ⟨D, F, none⟩) lt cq, .int .i64 nd] w fun e w' => e = .returned (.tuple #[.slice none 0 0, .int .i64 5]) ∧ Below w.heap.size w w' := by
  refine (pwiden_w A O C P ls cs lt ct D F cq s t g W nd w H hD HD HQ hnd HW).mono ?_
  rintro e w' ⟨⟨_, rfl⟩ | ⟨h, _⟩, hb⟩
  · exact ⟨rfl, hb⟩
  · obtain ⟨i, h1, h2⟩ := HT.out
    have := h i h1; omega

theorem rwiden_t (A O C P ls cs lt ct D F cq : Nat) (s : Nat → Int) (t : Nat → St5) (g W : Nat → Int) (nd : Int) (w : World) (H : Hid (LineAt w A O C P ls lt s t)) (hD : D < w.heap.size) (HD : Hid (NumAt w D F lt g)) (HQ : Hid (AgeP lt lt g)) (HW : Hid (∀ i, i < lt → IsW (cupsB s (t i) (g i)) (t i).b nd (W i))) (HT : Hid (∀ i, i < lt → W i ≤ 100)) :
    Calls Tryz.prog 36 #[.agg #[.slice (some ⟨A, O, none⟩) ls cs, .slice (some ⟨C, P, none⟩) lt ct], .slice (some ⟨D, F, none⟩) lt cq, .int .i64 nd] w fun e w' => (∃ va vc, e = .returned (.tuple #[.slice va lt vc, .bool true]) ∧ Hid (IntSl w' va lt (fun i => (upto W lt).getD i 0))) ∧ Below w.heap.size w w' := by
  refine (rwiden_w A O C P ls cs lt ct D F cq s t g W nd w H hD HD HQ HW).mono ?_
  rintro e w' ⟨⟨⟨i, h1, h2⟩, _⟩ | ⟨_, v, rfl, hv⟩, hb⟩
  · have := HT.out i h1; omega
  · obtain ⟨va, vc, rfl, _, hI⟩ := intSl_of_owns hv
    exact ⟨⟨va, vc, rfl, Lib.hid hI⟩, hb⟩

theorem rwiden_f (A O C P ls cs lt ct D F cq : Nat) (s : Nat → Int) (t : Nat → St5) (g W : Nat → Int) (nd : Int) (w : World) (H : Hid (LineAt w A O C P ls lt s t)) (hD : D < w.heap.size) (HD : Hid (NumAt w D F lt g)) (HQ : Hid (AgeP lt lt g)) (HW : Hid (∀ i, i < lt → IsW (cupsB s (t i) (g i)) (t i).b nd (W i))) (HT : Hid (∃ i, i < lt ∧ W i = 101)) :
    Calls Tryz.prog 36 #[.agg #[.slice (some ⟨A, O, none⟩) ls cs, .slice (some ⟨C, P, none⟩) lt ct], .slice (some ⟨D, F, none⟩) lt cq, .int .i64 nd] w fun e w' => e = .returned (.tuple #[.slice none 0 0, .bool false]) ∧ Below w.heap.size w w' := by
  refine (rwiden_w A O C P ls cs lt ct D F cq s t g W nd w H hD HD HQ HW).mono ?_
  rintro e w' ⟨⟨_, rfl⟩ | ⟨h, _⟩, hb⟩
  · exact ⟨rfl, hb⟩
  · obtain ⟨i, h1, h2⟩ := HT.out
    have := h i h1; omega

end Go.Kn

namespace Go.Kn
open Go Go.Proofs Go.RowKit

theorem cupsB_mono {s : Nat → Int} {x : St5} {ag b b' : Int} (hs : 0 ≤ s x.f.toNat) (h : b ≤ b') : cupsB s x ag b ≤ cupsB s x ag b' := by
  unfold cupsB cupsL cupsV
  simp only []
  refine Int.mul_le_mul_of_nonneg_right (Int.mul_le_mul_of_nonneg_right ?_ (by omega)) hs
  omega

/-- the least breadth tells with which ones the stretch carries the need -/
theorem IsW.iff {s : Nat → Int} {x : St5} {ag nd W b : Int} (h : IsW (cupsB s x ag) x.b nd W) (hs : 0 ≤ s x.f.toNat) (hW : W ≤ 100) (hb : x.b ≤ b) : nd ≤ cupsB s x ag b ↔ W ≤ b := by
  constructor
  · intro h1
    rcases Int.lt_or_le b W with h2 | h2
    · have := h.less b hb h2; omega
    · exact h2
  · intro h1
    have h2 := h.ok hW
    have h3 := cupsB_mono (x := x) (ag := ag) hs h1
    omega

/-- the first k stretches have other breadths -/
def tk (t : Nat → St5) (B : Nat → Int) (k : Nat) : Nat → St5 := fun i => if i < k then { t i with b := B i } else t i

theorem tk_zero (t : Nat → St5) (B : Nat → Int) : tk t B 0 = t := by
  funext i; simp [tk]

theorem tk_step (t : Nat → St5) (B : Nat → Int) (k : Nat) : updB (tk t B k) k (B k) = tk t B (k + 1) := by
  funext i
  unfold updB tk
  by_cases h1 : i = k
  · subst h1; simp
  · by_cases h2 : i < k
    · have h3 : i < k + 1 := by omega
      simp [h1, h2, h3]
    · have h3 : ¬ i < k + 1 := by omega
      simp [h1, h2, h3]

theorem updB_upd (t : Nat → St5) (k : Nat) (a b : Int) : updB (updB t k a) k b = updB t k b := by
  funext i
  unfold updB
  by_cases h1 : i = k
  · subst h1; simp
  · simp [h1]

theorem tk_lt {t : Nat → St5} {B : Nat → Int} {k i : Nat} (h : i < k) : tk t B k i = { t i with b := B i } := by simp [tk, h]

theorem tk_ok {ls lt : Nat} {t : Nat → St5} {B : Nat → Int} (h : StOk ls lt t) (hB : ∀ i, i < lt → 1 ≤ B i ∧ B i ≤ 100) : ∀ k, k ≤ lt → StOk ls lt (tk t B k) := by
  intro k
  induction k with
  | zero => intro _; rw [tk_zero]; exact h
  | succ k ih => intro hk; rw [← tk_step]; exact updB_ok (ih (by omega)) (hB k (by omega))

theorem tk_lo (s : Nat → Int) {t : Nat → St5} {B : Nat → Int} (g : Nat → Int) {lt i : Nat} (h : i < lt) : (carOf s (tk t B lt) g i).lo = cupsB s (t i) (g i) (B i) := by
  unfold carOf
  rw [tk_lt h]
  rfl

/-- the line carries the need just if each stretch does -/
theorem line_need {s : Nat → Int} {t : Nat → St5} {B : Nat → Int} {g : Nat → Int} {lt : Nat} {nd La : Int} (h1 : 1 ≤ lt) (hL : La = bmin (upto (fun j => (carOf s (tk t B lt) g j).lo) lt)) :
    nd ≤ La ↔ ∀ i, i < lt → nd ≤ cupsB s (t i) (g i) (B i) := by
  rw [hL, le_bmin _ _ _ h1]
  constructor
  · intro h i hi; have := h i hi; rwa [tk_lo s g hi] at this
  · intro h i hi; rw [tk_lo s g hi]; exact h i hi
end Go.Kn
