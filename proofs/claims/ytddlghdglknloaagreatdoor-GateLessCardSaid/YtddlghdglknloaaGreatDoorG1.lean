/- Contracts of functions that the laws of this seat call, or the evaluator of closed calls and its runs. Conditions: as each theorem states them. -/
import Derived.Test.YtddlghdglknloaaGreatDoorRT
set_option linter.unusedVariables false
set_option linter.unusedSimpArgs false
namespace Go.Kn
open Go Go.Proofs Go.RowKit

def PtAt (w : World) (A O lp : Nat) (P : Nat → P8) : Prop := ∀ i, i < lp → w.cell? ⟨A, O + i * 3, none⟩ = some (.int .i64 (P i).lo) ∧ w.cell? ⟨A, O + i * 3 + 1, none⟩ = some (.int .i64 (P i).hi) ∧ w.cell? ⟨A, O + i * 3 + 2, none⟩ = some (.int .i64 (P i).nd)
def ChAt (w : World) (A O lc : Nat) (C : Nat → C8) : Prop := ∀ i, i < lc → w.cell? ⟨A, O + i * 4, none⟩ = some (.int .i64 (C i).fr) ∧ w.cell? ⟨A, O + i * 4 + 1, none⟩ = some (.int .i64 (C i).to) ∧ w.cell? ⟨A, O + i * 4 + 2, none⟩ = some (.int .i64 (C i).cu) ∧ w.cell? ⟨A, O + i * 4 + 3, none⟩ = some (.bool (C i).ga)
theorem PtAt.below {w w1 : World} {A O lp : Nat} {P : Nat → P8} (h : PtAt w A O lp P) (hA : A < w.heap.size) (hb : Below w.heap.size w w1) : PtAt w1 A O lp P := fun i hi => by
  rw [(bcell hb).1 _ _ hA, (bcell hb).1 _ _ hA, (bcell hb).1 _ _ hA]; exact h i hi
theorem ChAt.below {w w1 : World} {A O lc : Nat} {C : Nat → C8} (h : ChAt w A O lc C) (hA : A < w.heap.size) (hb : Below w.heap.size w w1) : ChAt w1 A O lc C := fun i hi => by
  rw [(bcell hb).1 _ _ hA, (bcell hb).1 _ _ hA, (bcell hb).1 _ _ hA, (bcell hb).1 _ _ hA]; exact h i hi
def PtSl (w : World) (pa : Option Addr) (lp : Nat) (P : Nat → P8) : Prop := lp = 0 ∨ ∃ A O, pa = some ⟨A, O, none⟩ ∧ A < w.heap.size ∧ PtAt w A O lp P
def ChSl (w : World) (ca : Option Addr) (lc : Nat) (C : Nat → C8) : Prop := lc = 0 ∨ ∃ A O, ca = some ⟨A, O, none⟩ ∧ A < w.heap.size ∧ ChAt w A O lc C
theorem PtSl.below {w w1 : World} {pa : Option Addr} {lp : Nat} {P : Nat → P8} (h : PtSl w pa lp P) (hb : Below w.heap.size w w1) : PtSl w1 pa lp P := by
  rcases h with h | ⟨A, O, h1, h2, h3⟩
  · exact .inl h
  · exact .inr ⟨A, O, h1, Nat.lt_of_lt_of_le h2 hb.size, h3.below h2 hb⟩
theorem ChSl.below {w w1 : World} {ca : Option Addr} {lc : Nat} {C : Nat → C8} (h : ChSl w ca lc C) (hb : Below w.heap.size w w1) : ChSl w1 ca lc C := by
  rcases h with h | ⟨A, O, h1, h2, h3⟩
  · exact .inl h
  · exact .inr ⟨A, O, h1, Nat.lt_of_lt_of_le h2 hb.size, h3.below h2 hb⟩
/-- a network in memory -/
structure Ne8 (w : World) (pa ca : Option Addr) (lp lc : Nat) (P : Nat → P8) (C : Nat → C8) : Prop where
  hp : PtSl w pa lp P
  hc : ChSl w ca lc C
theorem Ne8.below {w w1 : World} {pa ca : Option Addr} {lp lc : Nat} {P : Nat → P8} {C : Nat → C8} (h : Ne8 w pa ca lp lc P C) (hb : Below w.heap.size w w1) : Ne8 w1 pa ca lp lc P C := ⟨h.hp.below hb, h.hc.below hb⟩
def opV (op : Nat → Bool) : Value := .agg #[.bool (op 0), .bool (op 1), .bool (op 2), .bool (op 3), .bool (op 4), .bool (op 5), .bool (op 6), .bool (op 7), .bool (op 8), .bool (op 9)]
/-- the cells of a network with positions -/
def opC (pa ca : Option Addr) (lp cp lc cc : Nat) (op : Nat → Bool) : Array Value := #[.slice pa lp cp, .slice ca lc cc, .bool (op 0), .bool (op 1), .bool (op 2), .bool (op 3), .bool (op 4), .bool (op 5), .bool (op 6), .bool (op 7), .bool (op 8), .bool (op 9)]
theorem ten {p : Nat → Prop} (h0 : p 0) (h1 : p 1) (h2 : p 2) (h3 : p 3) (h4 : p 4) (h5 : p 5) (h6 : p 6) (h7 : p 7) (h8 : p 8) (h9 : p 9) : ∀ j, j < 10 → p j := fun j hj => by
  match j, hj with
  | 0, _ => exact h0
  | 1, _ => exact h1
  | 2, _ => exact h2
  | 3, _ => exact h3
  | 4, _ => exact h4
  | 5, _ => exact h5
  | 6, _ => exact h6
  | 7, _ => exact h7
  | 8, _ => exact h8
  | 9, _ => exact h9
/-- a boxed network with positions, in any world that comes later -/
theorem box12 {w w1 : World} {pa ca : Option Addr} {lp cp lc cc : Nat} {op : Nat → Bool} (hb : Below (w.alloc (.cells (opC pa ca lp cp lc cc op) 81)).heap.size (w.alloc (.cells (opC pa ca lp cp lc cc op) 81)) w1) :
    w1.cell? ⟨w.heap.size, 0, none⟩ = some (.slice pa lp cp) ∧ w1.cell? ⟨w.heap.size, 1, none⟩ = some (.slice ca lc cc) ∧ (∀ j, j < 10 → w1.cell? ⟨w.heap.size, 2 + j, none⟩ = some (.bool (op j))) ∧ w.heap.size < w1.heap.size := by
  have q := (bcell hb).1
  have hs := hb.size
  refine ⟨(q _ _ (by simp)).trans (by simp [opC]), (q _ _ (by simp)).trans (by simp [opC]), ten ?_ ?_ ?_ ?_ ?_ ?_ ?_ ?_ ?_ ?_, ?_⟩
  all_goals first | exact (q _ _ (by simp)).trans (by simp [opC]) | skip
  simp at hs; omega

set_option maxHeartbeats 400000 in
theorem isFrom_w (a b c : Int) (w : World) :
    Calls Tryz.prog 103 #[.int .i64 a, .int .i64 b, .int .i64 c] w fun e w' => e = .returned (.bool (fromB a b c)) ∧ w = w' := by
  by_cases h1 : a ≤ c <;> by_cases h2 : c ≤ b
  all_goals
    go_enter Tryz.func103, Tryz.ntmps103
    go_wp2
    go_ret
    exact ⟨by simp [fromB, h1, h2], rfl⟩

set_option maxRecDepth 100000 in
theorem least_w (lo hi nd : Int) (w : World) : Calls Tryz.prog 146 #[.agg #[.int .i64 lo, .int .i64 hi, .int .i64 nd]] w fun e w' => e = .returned (.int .i64 lo) ∧ Below w.heap.size w w' := by
  go_enter Tryz.func146, Tryz.ntmps146
  go_wp2
  go_ret
  exact ⟨rfl, (Below.refl _ _).alloc (Nat.le_refl _) _⟩
set_option maxRecDepth 100000 in
theorem most_w (lo hi nd : Int) (w : World) : Calls Tryz.prog 147 #[.agg #[.int .i64 lo, .int .i64 hi, .int .i64 nd]] w fun e w' => e = .returned (.int .i64 hi) ∧ Below w.heap.size w w' := by
  go_enter Tryz.func147, Tryz.ntmps147
  go_wp2
  go_ret
  exact ⟨rfl, (Below.refl _ _).alloc (Nat.le_refl _) _⟩

set_option maxRecDepth 100000 in
set_option maxHeartbeats 2000000 in
theorem carries_w (pa ca : Option Addr) (lp cp lc cc k : Nat) (P : Nat → P8) (C : Nat → C8) (op : Nat → Bool) (w : World) (hk : k < lc) (hc : lc ≤ 10) (H : Hid (Ne8 w pa ca lp lc P C)) :
    Calls Tryz.prog 113 #[.agg (opC pa ca lp cp lc cc op), .int .i64 (k : Int)] w fun e w' => e = .returned (.int .i64 (carV C op k)) ∧ Below w.heap.size w w' := by
  obtain ⟨A, O, rfl, hA, hN⟩ := H.out.hc.resolve_left (by omega)
  have hal : Below w.heap.size w (w.alloc (.cells (opC pa (some ⟨A, O, none⟩) lp cp lc cc op) 81)) := (Below.refl _ _).alloc (Nat.le_refl _) _
  obtain ⟨y0, y1, y2, y3⟩ := (hN.below hA hal) k hk
  obtain ⟨x0, x1, x2, x3⟩ := box12 (w := w) (pa := pa) (ca := some ⟨A, O, none⟩) (lp := lp) (cp := cp) (lc := lc) (cc := cc) (op := op) (Below.refl _ _)
  have x4 := x2 k (by omega)
  have n1 : (0 : Int) ≤ (k : Int) := by omega
  have n2 : (k : Int) < (lc : Int) := by omega
  have n3 : (k : Int) < 10 := by omega
  obtain ⟨⟨fr, to, cu, ga⟩, hck⟩ : ∃ c, C k = c := ⟨_, rfl⟩
  have HV : Hid (carV C op k = if ga && !op k then 0 else cu) := Lib.hid (by unfold carV; rw [hck])
  rw [hck] at y0 y1 y2 y3
  dsimp only at y0 y1 y2 y3
  obtain ⟨b, hb⟩ : ∃ b, op k = b := ⟨_, rfl⟩
  rw [hb] at x4 HV
  rw [HV.out]
  simp only [opC]
  simp only [opC] at x0 x1 x2 x3 x4 y0 y1 y2 y3
  have x5 : ((w.alloc (.cells (opC pa (some ⟨A, O, none⟩) lp cp lc cc op) 81)).alloc (.cells #[.int .i64 fr, .int .i64 to, .int .i64 cu, .bool ga] 68)).cell? ⟨w.heap.size, 2 + k, none⟩ = some (.bool b) := by
    exact (World.cell?_alloc_lt _ _ _ (by simp)).trans x4
  simp only [opC] at x5
  clear HV hck hb hN hal x2
  cases ga <;> cases b
  all_goals
    go_enter Tryz.func113, Tryz.ntmps113
    go_wp2
    go_ret
    exact ⟨rfl, ((Below.refl _ _).alloc (Nat.le_refl _) _).alloc (by simp) _⟩
end Go.Kn

namespace Go.Kn
open Go Go.Proofs Go.RowKit

set_option maxRecDepth 100000 in
set_option maxHeartbeats 2000000 in
theorem left_w (pa ca : Option Addr) (lp cp lc cc i : Nat) (P : Nat → P8) (C : Nat → C8) (op : Nat → Bool) (e : Bool) (w : World) (hi : i < lp) (hlp : lp ≤ 1000) (HB : Hid (-1000000 ≤ (P i).lo ∧ (P i).lo ≤ 1000000 ∧ -1000000 ≤ (P i).hi ∧ (P i).hi ≤ 1000000 ∧ -1000000 ≤ (P i).nd ∧ (P i).nd ≤ 1000000)) (H : Hid (Ne8 w pa ca lp lc P C)) :
    Calls Tryz.prog 112 #[.agg (opC pa ca lp cp lc cc op), .int .i64 (i : Int), .int .i64 (if e then 1 else 0)] w fun r w' => r = .returned (.int .i64 (leftV P e i)) ∧ Below w.heap.size w w' := by
  obtain ⟨A, O, rfl, hA, hN⟩ := H.out.hp.resolve_left (by omega)
  obtain ⟨W1, hW1⟩ : ∃ W1, W1 = w.alloc (.cells (opC (some ⟨A, O, none⟩) ca lp cp lc cc op) 81) := ⟨_, rfl⟩
  have hb1 : Below w.heap.size w W1 := by rw [hW1]; exact (Below.refl _ _).alloc (Nat.le_refl _) _
  obtain ⟨x0, x1, x2, x3⟩ := box12 (w := w) (pa := some ⟨A, O, none⟩) (ca := ca) (lp := lp) (cp := cp) (lc := lc) (cc := cc) (op := op) (Below.refl _ _)
  rw [← hW1] at x0 x1 x2 x3
  obtain ⟨W2, hW2⟩ : ∃ W2, W2 = W1.alloc (.cells #[.func (.func 146) #[] #[], .func (.func 147) #[] #[]] 153) := ⟨_, rfl⟩
  have hz1 : W1.heap.size = w.heap.size + 1 := by rw [hW1]; simp
  have hb2 : Below w.heap.size w W2 := by rw [hW2]; exact hb1.alloc hb1.size _
  have hz2 : W2.heap.size = w.heap.size + 2 := by rw [hW2]; simp [hz1]
  obtain ⟨y0, y1, y2⟩ := (hN.below hA hb2) i hi
  have z0 : W2.cell? ⟨w.heap.size, 0, none⟩ = some (.slice (some ⟨A, O, none⟩) lp cp) := by rw [hW2]; exact (World.cell?_alloc_lt _ _ _ x3).trans x0
  obtain ⟨⟨lo, hi', nd⟩, hp⟩ : ∃ p, P i = p := ⟨_, rfl⟩
  have HV : Hid (leftV P e i = (if e then hi' else lo) - nd) := Lib.hid (by unfold leftV; rw [hp])
  have hbd := HB.out
  rw [hp] at y0 y1 y2 hbd
  dsimp only at y0 y1 y2 hbd
  obtain ⟨b1, b2, b3, b4, b5, b6⟩ := hbd
  obtain ⟨W3, hW3⟩ : ∃ W3, W3 = W2.alloc (.cells #[.int .i64 lo, .int .i64 hi', .int .i64 nd] 37) := ⟨_, rfl⟩
  have hb3 : Below w.heap.size w W3 := by rw [hW3]; exact hb2.alloc hb2.size _
  have HB3 := Lib.hid hb3
  have hz3 : W3.heap.size = w.heap.size + 3 := by rw [hW3]; simp [hz2]
  have HF : Hid (∀ w2, Below W3.heap.size W3 w2 → w2.cell? ⟨w.heap.size + 1, 0, none⟩ = some (.func (.func 146) #[] #[]) ∧ w2.cell? ⟨w.heap.size + 1, 1, none⟩ = some (.func (.func 147) #[] #[]) ∧ w2.cell? ⟨w.heap.size + 2, 0, none⟩ = some (.int .i64 lo) ∧ w2.cell? ⟨w.heap.size + 2, 1, none⟩ = some (.int .i64 hi') ∧ w2.cell? ⟨w.heap.size + 2, 2, none⟩ = some (.int .i64 nd)) := Lib.hid fun w2 h => by
    have q := (bcell h).1
    refine ⟨(q _ _ (by omega)).trans ?_, (q _ _ (by omega)).trans ?_, (q _ _ (by omega)).trans ?_, (q _ _ (by omega)).trans ?_, (q _ _ (by omega)).trans ?_⟩
    · rw [hW3]; refine (World.cell?_alloc_lt _ _ _ (by show w.heap.size + 1 < _; omega)).trans ?_; rw [hW2, ← hz1]; simp
    · rw [hW3]; refine (World.cell?_alloc_lt _ _ _ (by show w.heap.size + 1 < _; omega)).trans ?_; rw [hW2, ← hz1]; simp
    · rw [hW3, ← hz2]; simp
    · rw [hW3, ← hz2]; simp
    · rw [hW3, ← hz2]; simp
  have n1 : (0 : Int) ≤ (i : Int) := by omega
  have n2 : (i : Int) < (lp : Int) := by omega
  have hbz : Below W3.heap.size W3 W3 := Below.refl _ _
  rw [HV.out]
  have wr1 : IntKind.i64.wrap (lo - nd) = lo - nd := by rw [IntKind.wrap_i64]; omega
  have wr2 : IntKind.i64.wrap (hi' - nd) = hi' - nd := by rw [IntKind.wrap_i64]; omega
  clear HV hp hN hb1 hb2 hb3 hA x1 x2 hz1 hz2 hz3 H HB b1 b2 b3 b4 b5 b6 x0 x3
  subst hW2
  subst hW1
  simp only [opC] at z0 y0 y1 y2 hW3
  have HW3 := Lib.hid hW3
  clear hW3
  simp only [opC]
  cases e
  case false =>
    simp only [Bool.false_eq_true, if_false]
    go_enter Tryz.func112, Tryz.ntmps112
    go_wp2
    rw [← HW3.out]
    clear z0 y0 y1 y2
    obtain ⟨f0, f1, f2, f3, f4⟩ := HF.out _ hbz
    go_region_held3 (fun w' => w'.cell? ⟨w.heap.size + 1, 0, none⟩ = some (.func (.func 146) #[] #[]) ∧ w'.cell? ⟨w.heap.size + 2, 0, none⟩ = some (.int .i64 lo) ∧ w'.cell? ⟨w.heap.size + 2, 1, none⟩ = some (.int .i64 hi') ∧ w'.cell? ⟨w.heap.size + 2, 2, none⟩ = some (.int .i64 nd)) (first | exact ⟨f0, f2, f3, f4⟩ | exact ⟨g0, g2, g3, g4⟩ | go_keep) (first
      | (go_at_call 146; refine (least_w lo hi' nd _).mono ?_; rintro r w5 ⟨rfl, hv⟩; have hb5 : Below W3.heap.size W3 w5 := below_go8 (by first | exact hbz | exact below_drew hbz) hv; have HB5 := Lib.hid hb5; obtain ⟨g0, g1, g2, g3, g4⟩ := HF.out _ hb5))
    all_goals
      go_wp2
      go_ret
      exact ⟨rfl, by first | exact HB3.out.trans (HB5.out.mono HB3.out.size) | exact HB3.out.trans ((below_drew HB5.out).mono HB3.out.size)⟩
  case true =>
    simp only [if_true]
    go_enter Tryz.func112, Tryz.ntmps112
    go_wp2
    rw [← HW3.out]
    clear z0 y0 y1 y2
    obtain ⟨f0, f1, f2, f3, f4⟩ := HF.out _ hbz
    go_region_held3 (fun w' => w'.cell? ⟨w.heap.size + 1, 1, none⟩ = some (.func (.func 147) #[] #[]) ∧ w'.cell? ⟨w.heap.size + 2, 0, none⟩ = some (.int .i64 lo) ∧ w'.cell? ⟨w.heap.size + 2, 1, none⟩ = some (.int .i64 hi') ∧ w'.cell? ⟨w.heap.size + 2, 2, none⟩ = some (.int .i64 nd)) (first | exact ⟨f1, f2, f3, f4⟩ | exact ⟨g1, g2, g3, g4⟩ | go_keep) (first
      | (go_at_call 147; refine (most_w lo hi' nd _).mono ?_; rintro r w5 ⟨rfl, hv⟩; have hb5 : Below W3.heap.size W3 w5 := below_go8 (by first | exact hbz | exact below_drew hbz) hv; have HB5 := Lib.hid hb5; obtain ⟨g0, g1, g2, g3, g4⟩ := HF.out _ hb5))
    all_goals
      go_wp2
      go_ret
      exact ⟨rfl, by first | exact HB3.out.trans (HB5.out.mono HB3.out.size) | exact HB3.out.trans ((below_drew HB5.out).mono HB3.out.size)⟩
end Go.Kn

namespace Go.Kn
open Go Go.Proofs Go.RowKit

theorem memI_app (a b : List Nat) (x : Int) : memI (a ++ b) x = (memI a x || memI b x) := by simp [memI]
theorem memI_one (i : Nat) (x : Int) : memI [i] x = decide ((i : Int) = x) := by simp [memI]
theorem memI_iff {L : List Nat} {x : Int} : memI L x = true ↔ ∃ i ∈ L, (i : Int) = x := by simp [memI]
theorem memI_nat {L : List Nat} {n : Nat} : memI L (n : Int) = decide (n ∈ L) := by
  rw [Bool.eq_iff_iff, memI_iff, decide_eq_true_eq]
  constructor
  · rintro ⟨i, hi, e⟩; rw [← Int.ofNat.inj e]; exact hi
  · intro h; exact ⟨n, h, rfl⟩
theorem memI_yes {L : List Nat} {x : Int} {k : Nat} (hk : k < L.length) (h : lgI L k = x) : memI L x = true := memI_iff.2 ⟨L[k], List.getElem_mem _, by rw [← h, lgI_get hk]⟩
theorem take_next {L : List Nat} {k : Nat} (hk : k < L.length) : L.take (k + 1) = L.take k ++ [L[k]] := by rw [List.take_add_one, List.getElem?_eq_getElem hk]; rfl
theorem memI_next {L : List Nat} {x : Int} {k : Nat} (hk : k < L.length) (h0 : memI (L.take k) x = false) (h : lgI L k ≠ x) : memI (L.take (k + 1)) x = false := by
  rw [take_next hk, memI_app, h0, memI_one, Bool.false_or, decide_eq_false_iff_not]
  rw [lgI_get hk] at h; exact h

set_option maxRecDepth 100000 in
set_option maxHeartbeats 2000000 in
theorem index_w (pa : Option Addr) (m c : Nat) (L : List Nat) (x : Int) (w : World) (hl : L.length = m) (hm : m ≤ 1000000) (HS : Hid (IntSl w pa m (lgI L))) :
    Calls Tryz.prog 122 #[.slice pa m c, .int .i64 x] w fun e w' => (∃ r : Int, e = .returned (.int .i64 r) ∧ decide (0 ≤ r) = memI L x) ∧ w = w' := by
  have HL := Lib.hid hl
  clear hl
  go_enter Tryz.func122, Tryz.ntmps122
  go_wp2
  go_loopw [8] (fun ii wr => ∃ k : Nat, k ≤ m ∧ ii = .int .i64 (k : Int) ∧ memI (L.take k) x = false ∧ wr = w) (fun ii _ => m - (Go.RowKit.intOf ii).toNat)
  case atStart => exact ⟨0, Nat.zero_le _, rfl, by simp [memI], rfl⟩
  case round =>
    obtain ⟨k, hk, rfl, hno, rfl⟩ := hrel
    have HNO := Lib.hid hno
    clear hno
    by_cases hlt : k < m
    · obtain ⟨A, O, rfl, hA, hN⟩ := HS.out.resolve_left (by omega)
      have y1 := hN k hlt
      have hkl : k < L.length := by rw [HL.out]; exact hlt
      have n1 : (0 : Int) ≤ (k : Int) := by omega
      have n2 : (k : Int) < (m : Int) := by omega
      clear hN
      obtain ⟨v, hv⟩ : ∃ v, lgI L k = v := ⟨_, rfl⟩
      have HV := Lib.hid hv
      rw [hv] at y1
      clear hv
      by_cases he : x = v
      · have q0 : (x == v) = true := by rw [beq_iff_eq]; exact he
        have HE := Lib.hid (memI_yes (x := x) hkl (HV.out.trans he.symm))
        clear he hkl
        go_wp2
        go_ret
        exact ⟨⟨k, rfl, by rw [HE.out]; simp⟩, rfl⟩
      · have q0 : (x == v) = false := by rw [beq_eq_false_iff_ne]; exact he
        have HE := Lib.hid (memI_next hkl HNO.out (fun h => he (h.symm.trans HV.out)))
        clear he hkl
        go_wp2
        go_roundw
        case rel => exact ⟨k + 1, by omega, by go_num, HE.out, by first | rfl | trivial⟩
        case measure => simp [Go.RowKit.intOf]; omega
    · obtain rfl : k = m := by omega
      have HE : Hid (memI L x = false) := Lib.hid (by have := HNO.out; rw [← HL.out, List.take_length] at this; exact this)
      go_wp2
      go_ret
      exact ⟨⟨-1, rfl, by rw [HE.out]; rfl⟩, rfl⟩
set_option maxRecDepth 100000 in
set_option maxHeartbeats 1000000 in
theorem contains_w (pa : Option Addr) (m c : Nat) (L : List Nat) (x : Int) (w : World) (hl : L.length = m) (hm : m ≤ 1000000) (HS : Hid (IntSl w pa m (lgI L))) :
    Calls Tryz.prog 73 #[.slice pa m c, .int .i64 x] w fun e w' => e = .returned (.bool (memI L x)) ∧ w = w' := by
  have HI := Lib.hid (index_w pa m c L x w hl hm HS)
  clear hl
  go_enter Tryz.func73, Tryz.ntmps73
  go_wp2_with (go_at_call 122; refine HI.out.mono ?_; rintro e w5 ⟨⟨r, rfl, hr⟩, rfl⟩; have HR := Lib.hid hr; clear hr)
  go_ret
  exact ⟨by rw [← HR.out]; rfl, rfl⟩

theorem sumN_get (xs : List Int) : ∀ k, k ≤ xs.length → sumN (fun i => xs.getD i 0) k = sumI (xs.take k)
  | 0, _ => by simp [sumN, sumI]
  | k + 1, h => by
    simp only [sumN]
    rw [sumN_get xs k (by omega), List.take_add_one, List.getElem?_eq_getElem (by omega), sumI_app]
    simp [sumI, show k < xs.length by omega]
theorem sumI_bd {m : Int} (hm : 0 ≤ m) : ∀ (l : List Int), (∀ x ∈ l, -m ≤ x ∧ x ≤ m) → -(m * l.length) ≤ sumI l ∧ sumI l ≤ m * l.length
  | [], _ => by simp [sumI]
  | x :: l, h => by
    have h1 := h x List.mem_cons_self
    have h2 := sumI_bd hm l fun y hy => h y (List.mem_cons_of_mem _ hy)
    simp only [sumI, List.length_cons]
    push_cast
    rw [Int.mul_add]
    omega
theorem sum_step {xs : List Int} {k : Nat} (hb : ∀ x ∈ xs, -1000000 ≤ x ∧ x ≤ 1000000) (hn : xs.length ≤ 1000) (hk : k < xs.length) :
    IntKind.i64.wrap (sumI (xs.take k) + xs.getD k 0) = sumI (xs.take (k + 1)) := by
  have h1 := sumI_bd (m := 1000000) (by omega) (xs.take (k + 1)) fun x hx => hb x (List.mem_of_mem_take hx)
  have h2 : (xs.take (k + 1)).length ≤ 1000 := by simp; omega
  have h3 : sumI (xs.take (k + 1)) = sumI (xs.take k) + xs.getD k 0 := by
    rw [List.take_add_one, List.getElem?_eq_getElem hk, sumI_app]; simp [sumI, hk]
  rw [← h3, IntKind.wrap_i64]
  omega

set_option maxRecDepth 100000 in
set_option maxHeartbeats 2000000 in
theorem sum_w (pa : Option Addr) (m c : Nat) (xs : List Int) (w : World) (hl : xs.length = m) (hm : m ≤ 1000) (hb : Hid (∀ x ∈ xs, -1000000 ≤ x ∧ x ≤ 1000000)) (HS : Hid (IntSl w pa m (fun i => xs.getD i 0))) :
    Calls Tryz.prog 123 #[.slice pa m c] w fun e w' => e = .returned (.int .i64 (sumI xs)) ∧ w = w' := by
  have HL := Lib.hid hl
  clear hl
  go_enter Tryz.func123, Tryz.ntmps123
  go_wp2
  go_loopw [3, 8] (fun v ii wr => ∃ k : Nat, k ≤ m ∧ ii = .int .i64 (k : Int) ∧ v = .int .i64 (sumI (xs.take k)) ∧ wr = w) (fun _ ii _ => m - (Go.RowKit.intOf ii).toNat)
  case atStart => exact ⟨0, Nat.zero_le _, rfl, by simp [sumI], rfl⟩
  case round =>
    obtain ⟨k, hk, rfl, rfl, rfl⟩ := hrel
    by_cases hlt : k < m
    · obtain ⟨A, O, rfl, hA, hN⟩ := HS.out.resolve_left (by omega)
      have y1 := hN k hlt
      dsimp only at y1
      have hs := sum_step hb.out (by rw [HL.out]; omega) (by rw [HL.out]; exact hlt : k < xs.length)
      have n1 : (0 : Int) ≤ (k : Int) := by omega
      have n2 : (k : Int) < (m : Int) := by omega
      obtain ⟨v, hv⟩ : ∃ v, xs.getD k 0 = v := ⟨_, rfl⟩
      obtain ⟨s, hsv⟩ : ∃ s, sumI (xs.take k) = s := ⟨_, rfl⟩
      obtain ⟨t, ht⟩ : ∃ t, sumI (xs.take (k + 1)) = t := ⟨_, rfl⟩
      have HT := Lib.hid ht
      rw [hv] at y1
      rw [hv, hsv, ht] at hs
      rw [hsv]
      clear hN hv hsv ht
      go_wp2
      go_roundw
      case rel => exact ⟨k + 1, by omega, by go_num, by rw [HT.out], by first | rfl | trivial⟩
      case measure => simp [Go.RowKit.intOf]; omega
    · obtain rfl : k = m := by omega
      go_wp2
      go_ret
      exact ⟨by rw [← HL.out, List.take_length]; rfl, rfl⟩
end Go.Kn

namespace Go.Kn
open Go Go.Proofs Go.RowKit

/-- a network whose numbers are not too great for any sum -/
structure NetB (lp : Nat) (P : Nat → P8) (lc : Nat) (C : Nat → C8) : Prop where
  l7 : lp ≤ 7
  c10 : lc ≤ 10
  pt : ∀ i, i < lp → -20000 ≤ (P i).lo ∧ (P i).lo ≤ 20000 ∧ -20000 ≤ (P i).hi ∧ (P i).hi ≤ 20000 ∧ -20000 ≤ (P i).nd ∧ (P i).nd ≤ 20000
  ch : ∀ k, k < lc → 0 ≤ (C k).fr ∧ (C k).fr < lp ∧ 0 ≤ (C k).to ∧ (C k).to < lp ∧ (C k).fr ≠ (C k).to ∧ -20000 ≤ (C k).cu ∧ (C k).cu ≤ 20000
theorem NetP.b {lp : Nat} {P : Nat → P8} {lc : Nat} {C : Nat → C8} (h : NetP lp P lc C) : NetB lp P lc C :=
  ⟨h.l7, h.c10, fun i hi => by have := h.p hi; omega, fun k hk => by have := h.c hk; omega⟩
/-- what comes through the first channels -/
def chanL (C : Nat → C8) (op : Nat → Bool) (L : List Nat) (k : Nat) : List Int := ((List.range k).filter (inV C L)).map (carV C op)
theorem chanL_yes {C : Nat → C8} {op : Nat → Bool} {L : List Nat} {k : Nat} (h : inV C L k = true) : chanL C op L (k + 1) = chanL C op L k ++ [carV C op k] := by
  unfold chanL; rw [List.range_succ, List.filter_append]; simp [h]
theorem chanL_no {C : Nat → C8} {op : Nat → Bool} {L : List Nat} {k : Nat} (h : inV C L k = false) : chanL C op L (k + 1) = chanL C op L k := by
  unfold chanL; rw [List.range_succ, List.filter_append]; simp [h]
theorem chanL_sum {C : Nat → C8} {op : Nat → Bool} {L : List Nat} : ∀ k, sumI (chanL C op L k) = sumN (fun k => if inV C L k then carV C op k else 0) k
  | 0 => rfl
  | k + 1 => by
    simp only [sumN]
    cases h : inV C L k with
    | true => rw [chanL_yes h, sumI_app, chanL_sum k]; simp [sumI]
    | false => rw [chanL_no h, chanL_sum k]; simp
theorem chanL_len {C : Nat → C8} {op : Nat → Bool} {L : List Nat} (k : Nat) : (chanL C op L k).length ≤ k := by
  unfold chanL
  have := List.length_filter_le (inV C L) (List.range k)
  simp at this ⊢; exact this
theorem carV_bd {lp : Nat} {P : Nat → P8} {lc : Nat} {C : Nat → C8} {op : Nat → Bool} (h : NetB lp P lc C) {k : Nat} (hk : k < lc) : -1000000 ≤ carV C op k ∧ carV C op k ≤ 1000000 := by
  have := h.ch k hk
  unfold carV
  split <;> omega
theorem leftV_bd {lp : Nat} {P : Nat → P8} {lc : Nat} {C : Nat → C8} {e : Bool} (h : NetB lp P lc C) {i : Nat} (hi : i < lp) : -1000000 ≤ leftV P e i ∧ leftV P e i ≤ 1000000 := by
  have := h.pt i hi
  unfold leftV
  split <;> omega

/-- the same, a row for each cell -/
structure B12 (w : World) (B : Nat) (pa ca : Option Addr) (lp cp lc cc : Nat) (op : Nat → Bool) : Prop where
  x0 : w.cell? ⟨B, 0, none⟩ = some (.slice pa lp cp)
  x1 : w.cell? ⟨B, 1, none⟩ = some (.slice ca lc cc)
  x2 : w.cell? ⟨B, 2, none⟩ = some (.bool (op 0))
  x3 : w.cell? ⟨B, 3, none⟩ = some (.bool (op 1))
  x4 : w.cell? ⟨B, 4, none⟩ = some (.bool (op 2))
  x5 : w.cell? ⟨B, 5, none⟩ = some (.bool (op 3))
  x6 : w.cell? ⟨B, 6, none⟩ = some (.bool (op 4))
  x7 : w.cell? ⟨B, 7, none⟩ = some (.bool (op 5))
  x8 : w.cell? ⟨B, 8, none⟩ = some (.bool (op 6))
  x9 : w.cell? ⟨B, 9, none⟩ = some (.bool (op 7))
  x10 : w.cell? ⟨B, 10, none⟩ = some (.bool (op 8))
  x11 : w.cell? ⟨B, 11, none⟩ = some (.bool (op 9))
  lt : B < w.heap.size
theorem B12.below {w w1 : World} {B : Nat} {pa ca : Option Addr} {lp cp lc cc : Nat} {op : Nat → Bool} (h : B12 w B pa ca lp cp lc cc op) (hb : Below w.heap.size w w1) : B12 w1 B pa ca lp cp lc cc op :=
  ⟨((bcell hb).1 _ _ h.lt).trans h.x0, ((bcell hb).1 _ _ h.lt).trans h.x1, ((bcell hb).1 _ _ h.lt).trans h.x2, ((bcell hb).1 _ _ h.lt).trans h.x3, ((bcell hb).1 _ _ h.lt).trans h.x4, ((bcell hb).1 _ _ h.lt).trans h.x5, ((bcell hb).1 _ _ h.lt).trans h.x6, ((bcell hb).1 _ _ h.lt).trans h.x7, ((bcell hb).1 _ _ h.lt).trans h.x8, ((bcell hb).1 _ _ h.lt).trans h.x9, ((bcell hb).1 _ _ h.lt).trans h.x10, ((bcell hb).1 _ _ h.lt).trans h.x11, Nat.lt_of_lt_of_le h.lt hb.size⟩
theorem B12.new (w : World) (pa ca : Option Addr) (lp cp lc cc : Nat) (op : Nat → Bool) : B12 (w.alloc (.cells (opC pa ca lp cp lc cc op) 81)) w.heap.size pa ca lp cp lc cc op := by
  obtain ⟨a0, a1, a2, a3⟩ := box12 (w := w) (pa := pa) (ca := ca) (lp := lp) (cp := cp) (lc := lc) (cc := cc) (op := op) (Below.refl _ _)
  exact ⟨a0, a1, a2 0 (by decide), a2 1 (by decide), a2 2 (by decide), a2 3 (by decide), a2 4 (by decide), a2 5 (by decide), a2 6 (by decide), a2 7 (by decide), a2 8 (by decide), a2 9 (by decide), a3⟩
theorem B12.bit {w : World} {B : Nat} {pa ca : Option Addr} {lp cp lc cc : Nat} {op : Nat → Bool} (h : B12 w B pa ca lp cp lc cc op) : ∀ j, j < 10 → w.cell? ⟨B, 2 + j, none⟩ = some (.bool (op j)) :=
  ten h.x2 h.x3 h.x4 h.x5 h.x6 h.x7 h.x8 h.x9 h.x10 h.x11

set_option maxRecDepth 100000 in
set_option maxHeartbeats 4000000 in
theorem spare_w (pa ca sa : Option Addr) (lp cp lc cc m sc : Nat) (P : Nat → P8) (C : Nat → C8) (op : Nat → Bool) (e : Bool) (L : List Nat) (w : World) (HB : Hid (NetB lp P lc C)) (hl : L.length = m) (hm : m ≤ 20) (hL : Hid (∀ y ∈ L, y < lp)) (H : Hid (Ne8 w pa ca lp lc P C)) (HS : Hid (IntSl w sa m (lgI L))) :
    Calls Tryz.prog 74 #[.agg (opC pa ca lp cp lc cc op), .slice sa m sc, .int .i64 (if e then 1 else 0)] w fun r w' => r = .returned (.int .i64 (spareV P lc C op e L)) ∧ Below w.heap.size w w' := by
  obtain ⟨i0, hi0, hz0, hz1, hz2⟩ := info_parts info3'
  have hc10 := HB.out.c10
  have hl7 := HB.out.l7
  obtain ⟨z, hz⟩ : ∃ z : Int, z = (if e then 1 else 0) := ⟨_, rfl⟩
  rw [← hz]
  have HE := Lib.hid hz
  clear hz
  obtain ⟨W0, hW0⟩ : ∃ W0, W0 = w.alloc (.cells (opC pa ca lp cp lc cc op) 81) := ⟨_, rfl⟩
  have hA : Below w.heap.size w W0 := by rw [hW0]; exact (Below.refl _ _).alloc (Nat.le_refl _) _
  have hz0' : W0.heap.size = w.heap.size + 1 := by rw [hW0]; simp
  have BX : Hid (∀ w2, Below W0.heap.size W0 w2 → B12 w2 w.heap.size pa ca lp cp lc cc op) := Lib.hid fun w2 h => (show B12 W0 w.heap.size pa ca lp cp lc cc op by rw [hW0]; exact B12.new _ _ _ _ _ _ _ _).below h
  have HN : Hid (∀ w2, Below W0.heap.size W0 w2 → Hid (Ne8 w2 pa ca lp lc P C)) := Lib.hid fun w2 h => Lib.hid (H.out.below (hA.trans (h.mono hA.size)))
  have HSL : Hid (∀ w2, Below W0.heap.size W0 w2 → Hid (IntSl w2 sa m (lgI L))) := Lib.hid fun w2 h => Lib.hid (HS.out.below (hA.trans (h.mono hA.size)))
  have HL := Lib.hid hl
  have HA := Lib.hid hA
  have HZ := Lib.hid hz0'
  clear hA hl H HS hz0'
  go_enter Tryz.func74, Tryz.ntmps74
  simp only [opC] at hW0 ⊢
  go_wp2
  rw [← hW0]
  clear hW0
  go_loopw [7, 14] (fun v ii wr => ∃ k : Nat, k ≤ m ∧ ii = .int .i64 (k : Int) ∧ wr.ownsRow W0.heap.size 3 1 v k (((L.take k).map (leftV P e)).map (Value.int .i64)) ∧ Below W0.heap.size W0 wr) (fun _ ii _ => m - (Go.RowKit.intOf ii).toNat)
  case atStart => exact ⟨0, Nat.zero_le _, rfl, ⟨rfl, .inl ⟨rfl, rfl⟩⟩, Below.refl _ _⟩
  case round =>
    obtain ⟨k, hk, rfl, hown, hbr⟩ := hrel
    have HOW := Lib.hid hown
    have HBR := Lib.hid hbr
    clear hown
    obtain ⟨x0, x1, x2, x3, x4, x5, x6, x7, x8, x9, x10, x11, x12⟩ := BX.out _ hbr
    clear hbr
    by_cases hlt : k < m
    case pos =>
      obtain ⟨A, O, rfl, hA, hN⟩ := (HSL.out _ HBR.out).out.resolve_left (by omega)
      have y1 := hN k hlt
      have hkl : k < L.length := by rw [HL.out]; exact hlt
      obtain ⟨i, hi⟩ : ∃ i, L[k] = i := ⟨_, rfl⟩
      have hil : i < lp := hL.out i (by rw [← hi]; exact List.getElem_mem _)
      rw [lgI_get hkl, hi] at y1
      have HTK : Hid (L.take (k + 1) = L.take k ++ [i]) := Lib.hid (by rw [take_next hkl, hi])
      have n1 : (0 : Int) ≤ (k : Int) := by omega
      have n2 : (k : Int) < (m : Int) := by omega
      have HLF : Hid (Calls Tryz.prog 112 #[.agg (opC pa ca lp cp lc cc op), .int .i64 (i : Int), .int .i64 z] wr fun r w' => r = .returned (.int .i64 (leftV P e i)) ∧ Below wr.heap.size wr w') := Lib.hid (by rw [HE.out]; exact left_w pa ca lp cp lc cc i P C op e wr hil (by omega) (Lib.hid (by have := HB.out.pt i hil; omega)) (HN.out _ HBR.out))
      simp only [opC] at HLF
      clear hN hi hkl
      go_wp2_with (first
        | (go_at_call 112; refine HLF.out.mono ?_; rintro r w5 ⟨rfl, hv⟩; have HV5 := Lib.hid hv; clear hv x0 x1 x2 x3 x4 x5 x6 x7 x8 x9 x10 x11 x12 y1; have HO5 := Lib.hid (owns_below HOW.out HV5.out); have HB5 := Lib.hid (HBR.out.trans (HV5.out.mono HBR.out.size)))
        | (at_builtin; refine wpList_append_own_at _ rfl (.tmp 18) (.tmp 23) 26 rfl W0.heap.size 3 i0 (.int .i64 0) 1 8 Tryz.underlying26 hi0 hz0 hz1 hz2 rfl (by decide) _ k _ rfl (HO5.out.alloc _) ⟨_, 0, none⟩ 1 1 [.int .i64 (leftV P e i)] rfl rfl (lies_any (by first | exact al_top rfl _ _ | exact al_top (by simp) _ _)) (by intro u hu; simp at hu; subst hu; rfl) (by unfold maxLen; omega) (by omega) (by have := HB5.out.size; simp; omega) ?_; intro v7 w7 hown7 hgrow7 _ hloc7))
      go_roundw
      case rel => exact ⟨k + 1, by omega, by go_num, by rw [HTK.out, List.map_append, List.map_append]; exact hown7, (HB5.out.alloc HB5.out.size _).grown hgrow7 (by have := HB5.out.size; simp; omega) (fun r e => own_ge HO5.out r e)⟩
      case measure => simp [Go.RowKit.intOf]; omega
    case neg =>
      obtain rfl : k = m := by omega
      have HM : Hid (L.take k = L) := Lib.hid (by rw [← HL.out, List.take_length])
      rw [HM.out] at HOW
      obtain ⟨w9, hw9⟩ : ∃ w9, w9 = wr := ⟨_, rfl⟩
      subst hw9
      go_wp2
      clear x0 x1 x2 x3 x4 x5 x6 x7 x8 x9 x10 x11 x12
      go_loopw [7, 30] (fun v ii wr => ∃ j q : Nat, j ≤ lc ∧ ii = .int .i64 (j : Int) ∧ k + (chanL C op L j).length = q ∧ wr.ownsRow W0.heap.size 3 1 v q ((L.map (leftV P e) ++ chanL C op L j).map (Value.int .i64)) ∧ Below W0.heap.size W0 wr) (fun _ ii _ => lc - (Go.RowKit.intOf ii).toNat)
      case atStart => exact ⟨0, k, Nat.zero_le _, rfl, by simp [chanL], by simpa [chanL] using HOW.out, HBR.out⟩
      case round =>
        obtain ⟨j, q, hj, rfl, hq, hown, hbr⟩ := hrel
        have HO2 := Lib.hid hown
        have HB2 := Lib.hid hbr
        have HQ := Lib.hid hq
        have hq30 : q ≤ 30 := by have := chanL_len (C := C) (op := op) (L := L) j; omega
        clear hown hq
        obtain ⟨x0, x1, x2, x3, x4, x5, x6, x7, x8, x9, x10, x11, x12⟩ := BX.out _ hbr
        clear hbr
        by_cases hlt : j < lc
        case pos =>
          obtain ⟨A, O, rfl, hA, hN⟩ := (HN.out _ HB2.out).out.hc.resolve_left (by omega)
          obtain ⟨y0, y1, y2, y3⟩ := hN j hlt
          obtain ⟨⟨fr, to, cu, ga⟩, hcj⟩ : ∃ c, C j = c := ⟨_, rfl⟩
          have HIN : Hid (inV C L j = (memI L to && !memI L fr)) := Lib.hid (by unfold inV; rw [hcj])
          rw [hcj] at y0 y1 y2 y3
          dsimp only at y0 y1 y2 y3
          have n1 : (0 : Int) ≤ (j : Int) := by omega
          have n2 : (j : Int) < (lc : Int) := by omega
          obtain ⟨W1, hW1⟩ : ∃ W1, W1 = wr.alloc (.cells #[.int .i64 fr, .int .i64 to, .int .i64 cu, .bool ga] 68) := ⟨_, rfl⟩
          have hb1 : Below W0.heap.size W0 W1 := by rw [hW1]; exact HB2.out.alloc HB2.out.size _
          have HO1 : Hid (W1.ownsRow W0.heap.size 3 1 u7 q ((L.map (leftV P e) ++ chanL C op L j).map (Value.int .i64))) := Lib.hid (by rw [hW1]; exact HO2.out.alloc _)
          have HB1 := Lib.hid hb1
          have z0 : W1.cell? ⟨wr.heap.size, 0, none⟩ = some (.int .i64 fr) := by rw [hW1]; simp
          have z1 : W1.cell? ⟨wr.heap.size, 1, none⟩ = some (.int .i64 to) := by rw [hW1]; simp
          have HCO : Hid (∀ x : Int, Calls Tryz.prog 73 #[.slice sa k sc, .int .i64 x] W1 fun e w' => e = .returned (.bool (memI L x)) ∧ W1 = w') := Lib.hid fun x => contains_w sa k sc L x W1 HL.out (by omega) (HSL.out _ HB1.out)
          have HCA : Hid (Calls Tryz.prog 113 #[.agg (opC pa (some ⟨A, O, none⟩) lp cp lc cc op), .int .i64 (j : Int)] W1 fun e w' => e = .returned (.int .i64 (carV C op j)) ∧ Below W1.heap.size W1 w') := Lib.hid (carries_w pa (some ⟨A, O, none⟩) lp cp lc cc j P C op W1 hlt hc10 (HN.out _ HB1.out))
          simp only [opC] at HCA
          obtain ⟨w0, w1, w2, w3, w4, w5, w6, w7, w8, w10, w11, w12, _⟩ := BX.out _ HB1.out
          clear hN hcj hA hb1
          subst hW1
          have A1 := Lib.hid trivial
          cases ht : memI L to with
          | false =>
            rw [ht] at HIN
            have HNX := Lib.hid (chanL_no (op := op) HIN.out)
            have HT := Lib.hid ht
            clear ht
            go_wp2_with (go_at_call 73; refine (HCO.out to).mono ?_; rw [HT.out]; rintro r wc ⟨rfl, rfl⟩)
            go_roundw
            case rel => exact ⟨j + 1, q, by omega, by go_num, by rw [HNX.out]; exact HQ.out, by rw [HNX.out]; exact HO1.out, HB1.out⟩
            case measure => simp [Go.RowKit.intOf]; omega
          | true =>
            rw [ht] at HIN
            have HT := Lib.hid ht
            clear ht
            cases hf : memI L fr with
            | true =>
              rw [hf] at HIN
              have HNX := Lib.hid (chanL_no (op := op) HIN.out)
              have HF := Lib.hid hf
              clear hf
              go_wp2_with (first
                | (go_at_call 73; have hB := A1.out; clear hB A1; refine (HCO.out to).mono ?_; rw [HT.out]; rintro r wc ⟨rfl, rfl⟩)
                | (go_at_call 73; refine (HCO.out fr).mono ?_; rw [HF.out]; rintro r wc ⟨rfl, rfl⟩))
              go_roundw
              case rel => exact ⟨j + 1, q, by omega, by go_num, by rw [HNX.out]; exact HQ.out, by rw [HNX.out]; exact HO1.out, HB1.out⟩
              case measure => simp [Go.RowKit.intOf]; omega
            | false =>
              rw [hf] at HIN
              have HNX := Lib.hid (chanL_yes (op := op) HIN.out)
              have HF := Lib.hid hf
              clear hf
              go_wp2_with (first
                | (go_at_call 73; have hB := A1.out; clear hB A1; refine (HCO.out to).mono ?_; rw [HT.out]; rintro r wc ⟨rfl, rfl⟩)
                | (go_at_call 73; refine (HCO.out fr).mono ?_; rw [HF.out]; rintro r wc ⟨rfl, rfl⟩)
                | (go_at_call 113; refine HCA.out.mono ?_; rintro r w5 ⟨rfl, hv⟩; have HV5 := Lib.hid hv; clear hv; have HO5 := Lib.hid (owns_below HO1.out HV5.out); have HB5 := Lib.hid (HB1.out.trans (HV5.out.mono HB1.out.size)))
                | (at_builtin; refine wpList_append_own_at _ rfl (.tmp 46) (.tmp 50) 26 rfl W0.heap.size 3 i0 (.int .i64 0) 1 8 Tryz.underlying26 hi0 hz0 hz1 hz2 rfl (by decide) _ q _ rfl (HO5.out.alloc _) ⟨_, 0, none⟩ 1 1 [.int .i64 (carV C op j)] rfl rfl (lies_any (by first | exact al_top rfl _ _ | exact al_top (by simp) _ _)) (by intro u hu; simp at hu; subst hu; rfl) (by unfold maxLen; omega) (by omega) (by have := HB5.out.size; simp; omega) ?_; intro v7 w7' hown7 hgrow7 _ hloc7))
              go_roundw
              case rel => exact ⟨j + 1, q + 1, by omega, by go_num, by rw [HNX.out, List.length_append]; have := HQ.out; simp; omega, by rw [HNX.out, ← List.append_assoc, List.map_append]; exact hown7, (HB5.out.alloc HB5.out.size _).grown hgrow7 (by have := HB5.out.size; simp; omega) (fun r e => own_ge HO5.out r e)⟩
              case measure => simp [Go.RowKit.intOf]; omega
        case neg =>
          obtain rfl : j = lc := by omega
          obtain ⟨sv, cv, rfl, hqv, hsv⟩ := intSl_of_owns HO2.out
          have HSV := Lib.hid hsv
          have HBD : Hid (∀ x ∈ L.map (leftV P e) ++ chanL C op L j, -1000000 ≤ x ∧ x ≤ 1000000) := Lib.hid fun x hx => by
            rcases List.mem_append.1 hx with h | h
            · obtain ⟨i, hi, rfl⟩ := List.mem_map.1 h
              exact leftV_bd HB.out (hL.out i hi)
            · unfold chanL at h
              obtain ⟨i, hi, rfl⟩ := List.mem_map.1 h
              exact carV_bd HB.out (List.mem_range.1 (List.mem_filter.1 hi).1)
          have HSU := Lib.hid (sum_w sv q cv (L.map (leftV P e) ++ chanL C op L j) wr hqv.symm (by omega) HBD HSV)
          have HEQ : Hid (sumI (L.map (leftV P e) ++ chanL C op L j) = spareV P j C op e L) := Lib.hid (by rw [sumI_app, sumI_map, chanL_sum]; rfl)
          rw [HEQ.out] at HSU
          clear hqv hsv
          go_wp2_with (go_at_call 123; refine HSU.out.mono ?_; rintro r wc ⟨rfl, rfl⟩)
          go_ret
          exact ⟨rfl, HA.out.trans (HB2.out.mono HA.out.size)⟩
end Go.Kn
