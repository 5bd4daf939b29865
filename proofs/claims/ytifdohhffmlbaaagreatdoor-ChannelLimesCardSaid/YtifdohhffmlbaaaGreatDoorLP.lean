/- Walks of the functions of layer 2 that ChannelLines calls, and the law itself (a part of it). Conditions: as each theorem states them. -/
import Derived.Test.YtifdohhffmlbaaaGreatDoorN3
import Derived.Test.YtifdohhffmlbaaaGreatDoorN4
import Derived.Test.YtifdohhffmlbaaaGreatDoorN2
import Derived.Test.YtifdohhffmlbaaaGreatDoorWI
import Derived.Test.YtifdohhffmlbaaaGreatDoorX4
import Derived.OwnWalk
import Derived.Deep.QuietTactic
import Derived.BigQuiet
import Derived.WalkSmall
import Derived.Deep.RegionHeld3
import Derived.Deep.AppendLies
set_option linter.unusedVariables false
set_option linter.unusedSimpArgs false
namespace Go.Kn
open Go Go.Proofs Go.RowKit

set_option maxHeartbeats 400000 in
theorem notAge_w (B : Nat) (x : Int) (w : World) (hB : w.cell? ⟨B, 0, none⟩ = some (.func (.func 62) #[] #[])) :
    Calls Tryz.prog 125 #[.int .i64 x, .pointer (some ⟨B, 0, none⟩)] w fun e w' => e = .returned (.bool (!fromB 0 200 x)) ∧ w = w' := by
  go_enter Tryz.func125, Tryz.ntmps125
  go_wp2_with (go_at_call 62; refine (isAge_w _ _).mono ?_; rintro e w1 ⟨rfl, rfl⟩)
  go_ret
  exact ⟨rfl, rfl⟩

set_option maxRecDepth 100000 in
set_option maxHeartbeats 1000000 in
theorem idxAge_w (A O ls cs B : Nat) (s : Nat → Int) (w : World) (hls : ls ≤ maxLen) (hB : w.cell? ⟨B, 0, none⟩ = some (.func (.func 62) #[] #[]))
    (hA : ∀ i, i < ls → w.cell? ⟨A, O + i, none⟩ = some (.int .i64 (s i))) :
    Calls Tryz.prog 144 #[.slice (some ⟨A, O, none⟩) ls cs, .func (.func 125) #[] #[.pointer (some ⟨B, 0, none⟩)]] w
      fun e w' => (∃ i : Int, e = .returned (.int .i64 i) ∧ ((i < 0 ∧ ∀ k, k < ls → fromB 0 200 (s k) = true) ∨ (0 ≤ i ∧ ∃ k, k < ls ∧ fromB 0 200 (s k) = false))) ∧ w = w' := by
  unfold maxLen at hls
  go_enter Tryz.func144, Tryz.ntmps144
  go_wp2
  go_loop [8] (fun i => ∃ k : Nat, k ≤ ls ∧ i = .int .i64 k ∧ ∀ j, j < k → fromB 0 200 (s j) = true) (fun i => ls - (intOf i).toNat)
  case atStart => exact ⟨0, Nat.zero_le _, rfl, fun j hj => absurd hj (by omega)⟩
  case round =>
    obtain ⟨k, hk, rfl, hall⟩ := hrel
    have HA := Lib.hid hall
    clear hall
    by_cases hlt : k < ls
    · have hcell := hA k hlt
      clear hA
      cases hv : fromB 0 200 (s k)
      · go_wp2_with (go_at_call 125; refine (notAge_w _ _ _ hB).mono ?_; rintro e w1 ⟨rfl, rfl⟩)
        go_ret
        exact ⟨⟨_, rfl, .inr ⟨by omega, k, hlt, hv⟩⟩, rfl⟩
      · go_wp2_with (go_at_call 125; refine (notAge_w _ _ _ hB).mono ?_; rintro e w1 ⟨rfl, rfl⟩)
        go_round
        case rel => exact ⟨k + 1, by omega, by go_num, fun j hj => by
          rcases Nat.lt_succ_iff_lt_or_eq.1 hj with h | h
          · exact HA.out j h
          · rw [h]; exact hv⟩
        case measure => simp [intOf]; omega
    · clear hA
      go_wp2
      go_ret
      exact ⟨⟨_, rfl, .inl ⟨by omega, fun j hj => HA.out j (by omega)⟩⟩, rfl⟩

set_option maxRecDepth 100000 in
set_option maxHeartbeats 1000000 in
theorem contAge_w (A O ls cs B : Nat) (s : Nat → Int) (w : World) (hls : ls ≤ maxLen) (hB : w.cell? ⟨B, 0, none⟩ = some (.func (.func 62) #[] #[]))
    (hA : ∀ i, i < ls → w.cell? ⟨A, O + i, none⟩ = some (.int .i64 (s i))) :
    Calls Tryz.prog 124 #[.slice (some ⟨A, O, none⟩) ls cs, .func (.func 125) #[] #[.pointer (some ⟨B, 0, none⟩)]] w
      fun e w' => (∃ cb : Bool, e = .returned (.bool cb) ∧ (cb = false ↔ ∀ k, k < ls → fromB 0 200 (s k) = true)) ∧ w = w' := by
  have HA := Lib.hid hA
  clear hA
  go_enter Tryz.func124, Tryz.ntmps124
  go_wp2_with (go_at_call 144; refine (idxAge_w _ _ _ _ _ s _ hls hB HA.out).mono ?_; rintro e w1 ⟨⟨i, rfl, hi⟩, rfl⟩; have HI := Lib.hid hi; clear hi)
  go_ret
  refine ⟨⟨decide (0 ≤ i), rfl, ?_⟩, rfl⟩
  rcases HI.out with ⟨h1, h2⟩ | ⟨h1, k, h2, h3⟩
  · exact ⟨fun _ => h2, fun _ => decide_eq_false (by omega)⟩
  · exact ⟨fun h => by have := of_decide_eq_false h; omega, fun h => by rw [h k h2] at h3; cases h3⟩

set_option maxRecDepth 100000 in
set_option maxHeartbeats 1000000 in
theorem allAge_w (A O ls cs : Nat) (s : Nat → Int) (w : World) (hls : ls ≤ maxLen) (hAw : A < w.heap.size)
    (hA : ∀ i, i < ls → w.cell? ⟨A, O + i, none⟩ = some (.int .i64 (s i))) :
    Calls Tryz.prog 92 #[.slice (some ⟨A, O, none⟩) ls cs, .func (.func 62) #[] #[]] w
      fun e w' => (∃ rb : Bool, e = .returned (.bool rb) ∧ (rb = true ↔ ∀ k, k < ls → fromB 0 200 (s k) = true)) ∧ Below w.heap.size w w' := by
  have HA : Hid (∀ (o : Obj) (i : Nat), i < ls → (w.alloc o).cell? ⟨A, O + i, none⟩ = some (.int .i64 (s i))) := Lib.hid (fun o i hi => (World.cell?_alloc_lt w o _ hAw).trans (hA i hi))
  clear hA
  go_enter Tryz.func92, Tryz.ntmps92
  go_wp2_with (go_at_call 124; refine (contAge_w _ _ _ _ _ s _ hls (cell_newL _ _ _) (HA.out _)).mono ?_; rintro e w1 ⟨⟨cb, rfl, hcb⟩, rfl⟩; have HC := Lib.hid hcb; clear hcb)
  go_ret
  refine ⟨⟨!cb, rfl, ?_⟩, (Below.refl _ _).alloc (Nat.le_refl _) _⟩
  rw [← HC.out]; cases cb <;> simp
end Go.Kn

namespace Go.Kn
open Go Go.Proofs Go.RowKit

/-- n spans' cells, which can be written -/
def RowAt (w : World) (G m : Nat) : Prop := G < w.heap.size ∧ ∀ j, j < m → (∃ v, w.cell? ⟨G, j, none⟩ = some v) ∧ w.frozen? ⟨G, j, none⟩ = false

theorem RowAt.below {w w1 : World} {B G m : Nat} (h : RowAt w G m) (hG : G < B) (hb : Below B w w1) : RowAt w1 G m :=
  ⟨Nat.lt_of_lt_of_le h.1 hb.size, fun j hj => by
    obtain ⟨⟨v, hv⟩, hf⟩ := h.2 j hj
    exact ⟨⟨v, (hb.cell (p := ⟨G, j, none⟩) hG).trans hv⟩, (hb.frozen (p := ⟨G, j, none⟩) hG).trans hf⟩⟩

theorem RowAt.set {w : World} {G m : Nat} (h : RowAt w G m) (j : Nat) (u : Value) : RowAt (w.setCell ⟨G, j, none⟩ u) G m := by
  refine ⟨by rw [World.size_setCell]; exact h.1, fun i hi => ?_⟩
  obtain ⟨⟨v, hv⟩, hf⟩ := h.2 i hi
  refine ⟨?_, by rw [World.frozen?_setCell]; exact hf⟩
  by_cases e : i = j
  · subst e; exact ⟨u, World.cell?_setCell_same' _ _ _ (by rw [hv]; rfl)⟩
  · exact ⟨v, (World.cell?_setCell_other _ _ _ _ (by intro he; cases he; exact e rfl)).trans hv⟩

theorem rowAt_of_owns {w : World} {base e size g n cap : Nat} {xs : List Value} (h : w.ownsRow base e size (.slice (some ⟨g, 0, none⟩) n cap) n xs) : RowAt w g (n * size) := by
  rcases h.2 with ⟨h1, _⟩ | ⟨g', cap', cur, h1, hb, hg, hn, hc, hs, hx⟩
  · cases h1
  · cases h1
    refine ⟨(Array.getElem?_eq_some_iff.1 hg).1, fun j hj => ?_⟩
    have hj' : j < cur.size := by rw [hs]; exact Nat.lt_of_lt_of_le hj (Nat.mul_le_mul_right _ hn)
    refine ⟨⟨cur[j], ?_⟩, ?_⟩
    · simp [World.cell?, hg, hj']
    · simp [World.frozen?, hg]

theorem SpAt.snoc {w : World} {G k m : Nat} {p : Nat → Sp2} (h : SpAt w G 0 k p) (hr : RowAt w G m) (hm : k * 2 + 1 < m) :
    SpAt ((w.setCell ⟨G, k * 2, none⟩ (.int .i64 (p k).lo)).setCell ⟨G, k * 2 + 1, none⟩ (.int .i64 (p k).hi)) G 0 (k + 1) p := by
  intro i hi
  have g0 := (hr.2 (k * 2) (by omega)).1
  have g1 := (hr.set (k * 2) (.int .i64 (p k).lo)).2 (k * 2 + 1) (by omega)
  have hne : ∀ a b c : Nat, a ≠ b → (⟨c, a, none⟩ : Addr) ≠ ⟨c, b, none⟩ := fun a b c h e => h (by cases e; rfl)
  by_cases e : i = k
  · subst e
    simp only [Nat.zero_add]
    obtain ⟨v0, hv0⟩ := g0
    obtain ⟨⟨v1, hv1⟩, _⟩ := g1
    exact ⟨(World.cell?_setCell_other _ _ _ _ (hne _ _ _ (by omega))).trans (World.cell?_setCell_same' _ _ _ (by rw [hv0]; rfl)), World.cell?_setCell_same' _ _ _ (by rw [hv1]; rfl)⟩
  · obtain ⟨h0, h1⟩ := h i (by omega)
    simp only [Nat.zero_add] at *
    exact ⟨(World.cell?_setCell_other _ _ _ _ (hne _ _ _ (by omega))).trans ((World.cell?_setCell_other _ _ _ _ (hne _ _ _ (by omega))).trans h0),
      (World.cell?_setCell_other _ _ _ _ (hne _ _ _ (by omega))).trans ((World.cell?_setCell_other _ _ _ _ (hne _ _ _ (by omega))).trans h1)⟩

theorem info31 : (Tryz.prog.info? 31).map (fun i => (i.zero, i.size, i.bytes)) = some (some (.agg #[.int .i64 0, .int .i64 0]), 2, 16) := by kernel_rfl

def IntSl (w : World) (sa : Option Addr) (ls : Nat) (s : Nat → Int) : Prop := ls = 0 ∨ ∃ A O, sa = some ⟨A, O, none⟩ ∧ A < w.heap.size ∧ NumAt w A O ls s

theorem IntSl.below {w w1 : World} {sa : Option Addr} {ls : Nat} {s : Nat → Int} (h : IntSl w sa ls s) (hb : Below w.heap.size w w1) : IntSl w1 sa ls s := by
  rcases h with h | ⟨A, O, h1, h2, h3⟩
  · exact .inl h
  · exact .inr ⟨A, O, h1, Nat.lt_of_lt_of_le h2 hb.size, h3.below h2 hb⟩

theorem no_iff' {p : Prop} (h : p → False) : (false = true ↔ p) := ⟨fun e => Bool.noConfusion e, fun x => (h x).elim⟩

theorem below_drewM {B : Nat} {a w : World} (h : Below B a w) (n : Nat) : Below B a (w.drewN n) := h.trans ⟨rfl, rfl, rfl, Nat.le_refl _, fun _ _ => rfl⟩

theorem own_ne {W : World} {n0 e size k B : Nat} {v : Value} {xs : List Value} (h : W.ownsRow n0 e size v k xs) (hB : B < n0 ∨ W.heap.size ≤ B) : some B ≠ v.ownBlock := by
  rcases h.2 with ⟨rfl, _⟩ | ⟨g, cap, cur, rfl, hb, hg, _⟩
  · simp [Value.ownBlock]
  · intro e'
    obtain rfl : B = g := by simpa [Value.ownBlock] using e'
    have := (Array.getElem?_eq_some_iff.1 hg).1
    omega

theorem own_ge {W : World} {n0 e size k : Nat} {v : Value} {xs : List Value} (h : W.ownsRow n0 e size v k xs) (r : Nat) (hr : v.ownBlock = some r) : n0 ≤ r := by
  rcases h.2 with ⟨rfl, _⟩ | ⟨g, cap, cur, rfl, hb, hg, _⟩
  · simp [Value.ownBlock] at hr
  · obtain rfl : g = r := by simpa [Value.ownBlock] using hr
    exact hb

theorem intSl_of_owns {w : World} {base n : Nat} {v : Value} {xs : List Int} (h : w.ownsRow base 3 1 v n (xs.map (Value.int .i64))) :
    ∃ sa cap, v = .slice sa n cap ∧ n = xs.length ∧ IntSl w sa n (fun i => xs.getD i 0) := by
  have hl : n = xs.length := by have := h.1; simp at this; omega
  rcases h.2 with ⟨rfl, rfl⟩ | ⟨g, cap, cur, rfl, hb, hg, hn, hc, hs, hx⟩
  · exact ⟨none, 0, rfl, hl, .inl rfl⟩
  · refine ⟨_, cap, rfl, hl, ?_⟩
    by_cases h0 : n = 0
    · exact .inl h0
    refine .inr ⟨g, 0, rfl, (Array.getElem?_eq_some_iff.1 hg).1, fun i hi => ?_⟩
    have hj : (xs.map (Value.int .i64))[i]? = some (.int .i64 (xs.getD i 0)) := by
      have hi' : i < xs.length := by omega
      simp [List.getD, hi']
    rw [← hx] at hj
    rw [List.getElem?_take] at hj
    split at hj
    · simp only [Array.getElem?_toList] at hj
      simp [World.cell?, hg, hj]
    · cases hj

set_option maxRecDepth 100000 in
set_option maxHeartbeats 2000000 in
theorem same_w (sa sb : Option Addr) (ls c1 c2 : Nat) (s : Nat → Int) (w : World) (hls : ls ≤ maxLen) (H1 : Hid (IntSl w sa ls s)) (H2 : Hid (IntSl w sb ls s)) :
    Calls Tryz.prog 28 #[.slice sa ls c1, .slice sb ls c2] w fun e w' => e = .returned (.bool true) ∧ Below w.heap.size w w' := by
  unfold maxLen at hls
  go_enter Tryz.func28, Tryz.ntmps28
  go_wp2
  go_loopw [5] (fun i wr => ∃ k : Nat, k ≤ ls ∧ i = .int .i64 k ∧ Below w.heap.size w wr) (fun i _ => ls - (intOf i).toNat)
  case atStart => exact ⟨0, Nat.zero_le _, rfl, Below.refl _ _⟩
  case round =>
    obtain ⟨k, hk, rfl, hbw⟩ := hrel
    by_cases hlt : k < ls
    · obtain ⟨A, O, rfl, hA, h1⟩ := H1.out.resolve_left (by omega)
      obtain ⟨B, U, rfl, hB, h2⟩ := H2.out.resolve_left (by omega)
      have y0 := (h1.below hA hbw) k hlt
      have y1 := (h2.below hB hbw) k hlt
      clear h1 h2
      have n1 : (0 : Int) ≤ (k : Int) := by omega
      have n2 : (k : Int) < (ls : Int) := by omega
      go_wp2
      go_quiet (fail)
      go_wp2
      go_roundw
      case rel => exact ⟨k + 1, by omega, by go_num, below_drewM hbw _⟩
      case measure => simp [intOf]; omega
    · go_wp2
      go_ret
      exact ⟨rfl, hbw⟩

theorem info3' : (Tryz.prog.info? 3).map (fun i => (i.zero, i.size, i.bytes)) = some (some (.int .i64 0), 1, 8) := by kernel_rfl

/-- the numbers below n that meet b -/
def pick (b : Nat → Bool) : Nat → List Int
  | 0 => []
  | n + 1 => cond (b n) (pick b n ++ [(n : Int)]) (pick b n)

theorem pick_t {b : Nat → Bool} {n : Nat} (h : b n = true) : pick b (n + 1) = pick b n ++ [(n : Int)] := by simp [pick, h]

theorem pick_f {b : Nat → Bool} {n : Nat} (h : b n = false) : pick b (n + 1) = pick b n := by simp [pick, h]

theorem pick_len (b : Nat → Bool) (n : Nat) : (pick b n).length ≤ n := by
  induction n with
  | zero => simp [pick]
  | succ n ih => simp only [pick]; cases b n <;> simp <;> omega

theorem one_lies {W : World} (x : Value) (T : TypeId) : ∀ (j : Nat) (u : Value), [x][j]? = some u → (W.alloc (.cells #[x] T)).cell? ((⟨W.heap.size, 0, none⟩ : Addr).add j) = some u := by
  intro j u h
  match j, h with
  | 0, h => simp at h; subst h; simp [Addr.add]

theorem own_base {w : World} {b b' e size n : Nat} {v : Value} {xs : List Value} (h : w.ownsRow b e size v n xs) (hb : b' ≤ b) : w.ownsRow b' e size v n xs := by
  refine ⟨h.1, ?_⟩
  rcases h.2 with h2 | ⟨g, cap, cur, h1, h2, h3⟩
  · exact .inl h2
  · exact .inr ⟨g, cap, cur, h1, by omega, h3⟩

theorem owns_below {w w1 : World} {base e size n : Nat} {v : Value} {xs : List Value} (h : w.ownsRow base e size v n xs) (hb : Below w.heap.size w w1) : w1.ownsRow base e size v n xs := by
  refine ⟨h.1, ?_⟩
  rcases h.2 with h2 | ⟨g, cap, cur, h1, h2, h3, h4⟩
  · exact .inl h2
  · exact .inr ⟨g, cap, cur, h1, h2, (hb.block g (Array.getElem?_eq_some_iff.1 h3).1).trans h3, h4⟩

end Go.Kn

namespace Go.Kn
open Go Go.Proofs Go.RowKit

/-- ages as they should be -/
structure AgeP (lt lq : Nat) (g : Nat → Int) : Prop where
  eq : lq = lt
  ok : ∀ i, i < lq → fromB 0 200 (g i) = true

set_option maxRecDepth 100000 in
set_option maxHeartbeats 2000000 in
theorem areAges_w (x : Value) (ta sq : Option Addr) (lt ct lq cq : Nat) (g : Nat → Int) (w : World) (hlt : 1 ≤ lt ∧ lt ≤ 1000000) (hlq : lq ≤ maxLen) (HS : Hid (IntSl w sq lq g)) :
    Calls Tryz.prog 67 #[.agg #[x, .slice ta lt ct], .slice sq lq cq] w fun e w' => (∃ rb : Bool, e = .returned (.bool rb) ∧ (rb = true ↔ AgeP lt lq g)) ∧ Below w.heap.size w w' := by
  unfold maxLen at hlq
  by_cases h : lq = lt
  case neg =>
    have h3 : ((lq : Int) == (lt : Int)) = false := by simp; omega
    go_enter Tryz.func67, Tryz.ntmps67
    go_wp2
    go_ret
    first
      | exact ⟨⟨false, rfl, no_iff' (fun hh => h hh.eq)⟩, (Below.refl _ _).alloc (Nat.le_refl _) _⟩
      | exact ⟨.inl ⟨rfl, fun hh => h hh.eq⟩, (Below.refl _ _).alloc (Nat.le_refl _) _⟩
  subst h
  obtain ⟨D, F, rfl, hD, hs⟩ := HS.out.resolve_left (by omega)
  have HD : Hid (∀ o : Obj, NumAt (w.alloc o) D F lq g) := Lib.hid fun o => hs.below hD ((Below.refl _ _).alloc (Nat.le_refl _) _)
  clear hs
  go_enter Tryz.func67, Tryz.ntmps67
  go_wp2_with (go_at_call 92; refine (allAge_w _ _ _ _ g _ (by unfold maxLen; omega) (by simp; omega) (HD.out _)).mono ?_; rintro e w1 ⟨⟨rb, rfl, hrb⟩, hb1⟩; have HR := Lib.hid hrb; clear hrb)
  go_ret
  exact ⟨⟨rb, rfl, HR.out.trans ⟨fun h => ⟨rfl, h⟩, fun h => h.ok⟩⟩, below_al hb1⟩

set_option maxRecDepth 100000 in
set_option maxHeartbeats 2000000 in
theorem refAges_w (x : Value) (ta sq : Option Addr) (lt ct lq cq : Nat) (g : Nat → Int) (w : World) (hlt : lt ≤ 1000000) (hlq : lq ≤ maxLen) (HS : Hid (IntSl w sq lq g)) :
    Calls Tryz.prog 26 #[.agg #[x, .slice ta lt ct], .slice sq lq cq] w fun e w' => (∃ rb : Bool, e = .returned (.bool rb) ∧ (rb = true ↔ AgeP lt lq g)) ∧ Below w.heap.size w w' := by
  unfold maxLen at hlq
  go_enter Tryz.func26, Tryz.ntmps26
  go_wp2
  go_loop [5] (fun i => ∃ k : Nat, k ≤ lq ∧ i = .int .i64 k ∧ ∀ j, j < k → fromB 0 200 (g j) = true) (fun i => lq - (intOf i).toNat)
  case atStart => exact ⟨0, Nat.zero_le _, rfl, fun j hj => absurd hj (by omega)⟩
  case round =>
    obtain ⟨k, hk, rfl, hall⟩ := hrel
    have HALL := Lib.hid hall
    clear hall
    by_cases hlt : k < lq
    · obtain ⟨D, F, rfl, hD, hs⟩ := HS.out.resolve_left (by omega)
      have y0 := (World.cell?_alloc_lt w (.cells #[x, .slice ta lt ct] 25) ⟨D, F + k, none⟩ hD).trans (hs k hlt)
      clear hs
      cases hv : fromB 0 200 (g k)
      · go_wp2_with (go_at_call 21; refine (age_w _ _).mono ?_; rw [hv]; rintro e w1 ⟨rfl, rfl⟩)
        go_ret
        exact ⟨⟨false, rfl, no_iff' (fun h => by rw [h.ok k hlt] at hv; exact Bool.noConfusion hv)⟩, (Below.refl _ _).alloc (Nat.le_refl _) _⟩
      · go_wp2_with (go_at_call 21; refine (age_w _ _).mono ?_; rw [hv]; rintro e w1 ⟨rfl, rfl⟩)
        go_round
        case rel => exact ⟨k + 1, by omega, by go_num, fun j hj => by
          rcases Nat.lt_succ_iff_lt_or_eq.1 hj with h | h
          · exact HALL.out j h
          · rw [h]; exact hv⟩
        case measure => simp [intOf]; omega
    · have HOK : Hid (∀ i, i < lq → fromB 0 200 (g i) = true) := Lib.hid fun j hj => HALL.out j (by omega)
      by_cases e : lq = lt
      · have h3 : ((lq : Int) == (lt : Int)) = true := by simp; omega
        have E := Lib.hid e
        clear e
        go_wp2
        go_ret
        first
          | exact ⟨⟨true, rfl, fun _ => ⟨E.out, HOK.out⟩, fun _ => rfl⟩, (Below.refl _ _).alloc (Nat.le_refl _) _⟩
          | exact ⟨.inr ⟨rfl, E.out, HOK.out⟩, (Below.refl _ _).alloc (Nat.le_refl _) _⟩
      · have h3 : ((lq : Int) == (lt : Int)) = false := by simp; omega
        go_wp2
        go_ret
        first
          | exact ⟨⟨false, rfl, no_iff' (fun hh => e hh.eq)⟩, (Below.refl _ _).alloc (Nat.le_refl _) _⟩
          | exact ⟨.inl ⟨rfl, fun hh => e hh.eq⟩, (Below.refl _ _).alloc (Nat.le_refl _) _⟩

/-- what the stretches carry at their ages -/
def carOf (s : Nat → Int) (t : Nat → St5) (g : Nat → Int) (k : Nat) : Sp2 := ⟨cupsL s (t k) (g k) (t k).hi, cupsL s (t k) (g k) (t k).lo⟩

set_option maxRecDepth 100000 in
set_option maxHeartbeats 4000000 in
theorem carried_w (A O C P ls cs lt ct D F cq : Nat) (s : Nat → Int) (t : Nat → St5) (g : Nat → Int) (w : World) (H : Hid (LineAt w A O C P ls lt s t)) (hD : D < w.heap.size) (HD : Hid (NumAt w D F lt g)) (hQ : Hid (AgeP lt lt g)) :
    Calls Tryz.prog 69 #[.agg #[.slice (some ⟨A, O, none⟩) ls cs, .slice (some ⟨C, P, none⟩) lt ct], .slice (some ⟨D, F, none⟩) lt cq] w
      fun e w' => (∃ G, e = .returned (.slice (some ⟨G, 0, none⟩) lt lt) ∧ w.heap.size ≤ G ∧ G < w'.heap.size ∧ SpAt w' G 0 lt (carOf s t g)) ∧ Below w.heap.size w w' := by
  have q1 := H.out.lt1
  have q2 := H.out.lt2
  obtain ⟨W0, hW0⟩ : ∃ W0, W0 = w.alloc (.cells #[.slice (some ⟨A, O, none⟩) ls cs, .slice (some ⟨C, P, none⟩) lt ct] 25) := ⟨_, rfl⟩
  have hz : W0.heap.size = w.heap.size + 1 := by rw [hW0]; simp
  have hB0 : Below w.heap.size w W0 := by rw [hW0]; exact (Below.refl _ _).alloc (Nat.le_refl _) _
  have FX : Hid (∀ w', Below W0.heap.size W0 w' → w'.cell? ⟨w.heap.size, 0, none⟩ = some (.slice (some ⟨A, O, none⟩) ls cs) ∧ w'.cell? ⟨w.heap.size, 1, none⟩ = some (.slice (some ⟨C, P, none⟩) lt ct) ∧ LineAt w' A O C P ls lt s t ∧ NumAt w' D F lt g) := Lib.hid fun w' h => by
    have q : ∀ b o, b < W0.heap.size → w'.cell? ⟨b, o, none⟩ = W0.cell? ⟨b, o, none⟩ := (bcell h).1
    have hall := hB0.trans (h.mono (by omega))
    exact ⟨(q _ _ (by omega)).trans (by rw [hW0]; simp), (q _ _ (by omega)).trans (by rw [hW0]; simp), H.out.below hall, HD.out.below hD hall⟩
  obtain ⟨i0, hi, hz0, hz1, hz2⟩ := info_parts info31
  go_enter Tryz.func69, Tryz.ntmps69
  go_wp2_with (at_make; refine wpList_make_full _ rfl _ _ 68 rfl w.heap.size 31 i0 _ 2 Tryz.underlying68 hi hz0 hz1 _ _ _ _ lt rfl rfl rfl rfl (by rw [hz2]; omega) (by unfold maxLen; omega) (by simp) ?_; intro w1 hown hgrow; rw [← hW0] at hown hgrow; have hb1 : Below W0.heap.size W0 w1 := (Below.refl _ _).grown hgrow (Nat.le_refl _) (fun k h => by cases h); have hrow := rowAt_of_owns hown; rw [hz] at hrow; obtain ⟨x0, x1, _⟩ := FX.out _ hb1)
  have HR0 : Hid (RowAt w1 (w.heap.size + 1) (lt * 2)) := Lib.hid hrow
  clear hown hgrow hrow
  go_loopw [13] (fun i wr => ∃ k : Nat, k ≤ lt ∧ i = .int .i64 k ∧ Below W0.heap.size W0 wr ∧ RowAt wr (w.heap.size + 1) (lt * 2) ∧ SpAt wr (w.heap.size + 1) 0 k (carOf s t g)) (fun i _ => lt - (intOf i).toNat)
  case atStart => exact ⟨0, Nat.zero_le _, rfl, hb1, HR0.out, fun i hi => absurd hi (by omega)⟩
  case round =>
    clear x0 x1 hb1
    obtain ⟨k, hk, rfl, hbw, hrow, hsp⟩ := hrel
    have HROW := Lib.hid hrow
    have HSP := Lib.hid hsp
    clear hrow hsp
    by_cases hlt : k < lt
    · obtain ⟨x0, x1, x2, x3⟩ := FX.out _ hbw
      have y0 := x3 k hlt
      have HLW := Lib.hid x2
      clear x2 x3
      have hgz := HROW.out.1
      have hag := hQ.out.ok k hlt
      simp only [fromB, decide_eq_true_eq] at hag
      have HAG := Lib.hid hag
      clear hag
      go_wp2_with (first
        | (go_at_call 63; refine (at_l HLW.out hlt _ _ _).mono ?_; rintro e w2 ⟨rfl, hb2⟩)
        | (go_at_call 64; refine (carries_l HLW.out hlt _ HAG.out _).mono ?_; rintro e w3 ⟨rfl, hb3⟩; have hbr : Below wr.heap.size wr w3 := hb2.trans (hb3.mono hb2.size); have hr2 := HROW.out.below hgz hbr; obtain ⟨⟨v0, hv0⟩, hf0⟩ := hr2.2 (k * 2) (by omega); obtain ⟨⟨v1, hv1⟩, hf1⟩ := hr2.2 (k * 2 + 1) (by omega)))
      go_roundw
      case rel => exact ⟨k + 1, by omega, by go_num, ((hbw.trans (hbr.mono hbw.size)).setCell (by simp; omega) _).setCell (by simp; omega) _, (hr2.set _ _).set _ _, (HSP.out.below hgz hbr).snoc hr2 (by omega)⟩
      case measure => simp [intOf]; omega
    · go_wp2
      go_ret
      obtain rfl : k = lt := by omega
      exact ⟨⟨_, rfl, by omega, HROW.out.1, HSP.out⟩, hB0.trans (hbw.mono (by omega))⟩
end Go.Kn

namespace Go.Kn
open Go Go.Proofs Go.RowKit

theorem lies_any {W : World} {b : Nat} {x : Value} (h : W.cell? ⟨b, 0, none⟩ = some x) : ∀ (j : Nat) (u : Value), [x][j]? = some u → W.cell? ((⟨b, 0, none⟩ : Addr).add j) = some u := by
  intro j u hj
  match j, hj with
  | 0, hj => simp at hj; subst hj; exact h
theorem upto_map_succ (f : Nat → Int) (k : Nat) : (upto f (k + 1)).map (Value.int .i64) = (upto f k).map (Value.int .i64) ++ [.int .i64 (f k)] := by rw [upto_succ]; simp

theorem upto_getD (f : Nat → Int) (n : Nat) : upto (fun i => (upto f n).getD i 0) n = upto f n := by
  apply List.ext_getElem
  · simp [upto]
  · intro i h1 h2
    simp [upto] at h1 h2 ⊢
    simp [h1]
theorem leastRow_w (b off n cap : Nat) (f : Nat → Int) (L : Int) (hL : L = bmin (upto f n)) (hn : 1 ≤ n ∧ n ≤ 8) (w : World) (hb : b < w.heap.size) (hc : NumAt w b off n (fun i => (upto f n).getD i 0)) :
    Calls Tryz.prog 101 #[.slice (some ⟨b, off, none⟩) n cap] w fun e W' => e = .returned (.int .i64 L) ∧ Below w.heap.size w W' := by
  have := leastN_w b off n cap (fun i => (upto f n).getD i 0) (by omega) (by omega) w hb hc
  rw [upto_getD, ← hL] at this
  exact this
theorem al_top {W : World} {n : Nat} (hn : W.heap.size = n) (x : Value) (T : TypeId) : (W.alloc (.cells #[x] T)).cell? ⟨n, 0, none⟩ = some x := by subst hn; simp
theorem keep2 {W W' : World} {n0 e size k : Nat} {v v' : Value} {xs : List Value} (h : W.ownsRow n0 e size v k xs) (hg : W.grownBy W' v'.ownBlock) (hd : ∀ r, v'.ownBlock = some r → v.ownBlock ≠ some r) : W'.ownsRow n0 e size v k xs := by
  refine h.kept hg ?_
  rcases h.2 with ⟨rfl, _⟩ | ⟨g, cap, cur, rfl, _⟩
  · exact .inl rfl
  · refine .inr fun he => ?_
    have h1 : (Value.slice (some ⟨g, 0, none⟩) k cap).ownBlock = some g := rfl
    exact hd g (he ▸ h1) h1
theorem own_lt {W : World} {n0 e size k : Nat} {v : Value} {xs : List Value} (h : W.ownsRow n0 e size v k xs) (r : Nat) (hr : v.ownBlock = some r) : r < W.heap.size := by
  rcases h.2 with ⟨rfl, _⟩ | ⟨g, cap, cur, rfl, hb, hg, _⟩
  · simp [Value.ownBlock] at hr
  · obtain rfl : g = r := by simpa [Value.ownBlock] using hr
    exact (Array.getElem?_eq_some_iff.1 hg).1
theorem disj1 {W : World} {n0 e size k g H : Nat} {v v' : Value} {xs : List Value} (hB : W.ownsRow n0 e size v' k xs) (hat : v.ownBlock = some g ∨ g = H) (hd : ∀ r, v.ownBlock = some r → v'.ownBlock ≠ some r) (hH : W.heap.size ≤ H) : ∀ r, v'.ownBlock = some r → some g ≠ some r := by
  intro r hr he
  cases he
  rcases hat with h | h
  · exact hd _ h hr
  · have := own_lt hB _ hr; omega
theorem disj2 {g1 g2 H : Nat} {v : Value} (h1 : ∀ r, v.ownBlock = some r → some g1 ≠ some r) (hat : v.ownBlock = some g2 ∨ g2 = H) (hH : g1 < H) : g1 ≠ g2 := by
  intro e
  rcases hat with h | h
  · exact h1 _ h (by rw [e])
  · omega

set_option maxRecDepth 100000 in
set_option maxHeartbeats 4000000 in
theorem leastOf_w (G n c : Nat) (q : Nat → Sp2) (La Lb : Int) (HLA : Hid (La = bmin (upto (fun j => (q j).lo) n))) (HLB : Hid (Lb = bmin (upto (fun j => (q j).hi) n))) (w : World) (hn : 1 ≤ n ∧ n ≤ 8) (hG : G < w.heap.size) (HQ : Hid (SpAt w G 0 n q)) :
    Calls Tryz.prog 68 #[.slice (some ⟨G, 0, none⟩) n c] w
      fun e w' => e = .returned (.agg #[.int .i64 La, .int .i64 Lb]) ∧ Below w.heap.size w w' := by
  obtain ⟨hn1, hn2⟩ := hn
  obtain ⟨i0, hi, hz0, hz1, hz22⟩ := info_parts info3'
  have FX : Hid (∀ w', Below (w.alloc (.cells #[.int .i64 0, .int .i64 0] 31)).heap.size (w.alloc (.cells #[.int .i64 0, .int .i64 0] 31)) w' → SpAt w' G 0 n q) := Lib.hid fun w' h => HQ.out.below hG (below_al h)
  go_enter Tryz.func68, Tryz.ntmps68
  go_wp2
  go_loopw [3, 4, 9] (fun v1 v2 i wr => ∃ k : Nat, k ≤ n ∧ i = .int .i64 k ∧ wr.ownsRow (w.heap.size + 1) 3 1 v1 k ((upto (fun j => (q j).lo) k).map (Value.int .i64)) ∧ wr.ownsRow (w.heap.size + 1) 3 1 v2 k ((upto (fun j => (q j).hi) k).map (Value.int .i64)) ∧
      (∀ r, v1.ownBlock = some r → v2.ownBlock ≠ some r) ∧ Below (w.alloc (.cells #[.int .i64 0, .int .i64 0] 31)).heap.size (w.alloc (.cells #[.int .i64 0, .int .i64 0] 31)) wr) (fun _ _ i _ => n - (intOf i).toNat)
  case atStart => exact ⟨0, Nat.zero_le _, rfl, World.ownsRow_nil _ _ _ _, World.ownsRow_nil _ _ _ _, fun r h => by simp [Value.ownBlock] at h, Below.refl _ _⟩
  case round =>
    obtain ⟨k, hk, rfl, hown1, hown2, hdis, hbw⟩ := hrel
    have HA := Lib.hid hown1
    have HB := Lib.hid hown2
    have HD := Lib.hid hdis
    have HD2 := Lib.hid (fun r (h : _ = some r) h2 => hdis r h2 h)
    clear hown1 hown2 hdis
    have hz : w.heap.size + 1 ≤ wr.heap.size := by have := hbw.size; simpa using this
    by_cases hlt : k < n
    · obtain ⟨y0, y1⟩ := FX.out _ hbw k hlt
      simp only [Nat.zero_add] at y0 y1
      go_wp2
      have FZ : Hid (∀ w', Below (wr.alloc (.cells #[.int .i64 (q k).lo, .int .i64 (q k).hi] 31)).heap.size (wr.alloc (.cells #[.int .i64 (q k).lo, .int .i64 (q k).hi] 31)) w' → w'.cell? ⟨wr.heap.size, 0, none⟩ = some (.int .i64 (q k).lo) ∧ w'.cell? ⟨wr.heap.size, 1, none⟩ = some (.int .i64 (q k).hi)) := Lib.hid fun w' h => ⟨((bcell h).1 wr.heap.size 0 (by simp)).trans (by simp), ((bcell h).1 wr.heap.size 1 (by simp)).trans (by simp)⟩
      go_region_held3 (fun w' => w'.cell? ⟨wr.heap.size, 0, none⟩ = some (.int .i64 (q k).lo) ∧ w'.cell? ⟨wr.heap.size, 1, none⟩ = some (.int .i64 (q k).hi))
        ((first | exact hS | exact ⟨(World.cell?_alloc_lt _ _ ⟨wr.heap.size, 0, none⟩ (by show wr.heap.size < _; omega)).trans hS.1, (World.cell?_alloc_lt _ _ ⟨wr.heap.size, 1, none⟩ (by show wr.heap.size < _; omega)).trans hS.2⟩ | (refine FZ.out _ ?_; repeat (first | exact Below.refl _ _ | refine Below.alloc ?_ (by first | omega | (simp; done) | (simp; omega)) _ | refine Below.drew ?_))))
        ((first
          | (have hmode := hHB; refine step_append_lies _ rfl (.tmp 13) (.tmp 16) 22 rfl (w.heap.size + 1) 3 i0 _ 1 8 Tryz.underlying22 hi hz0 hz1 hz22 rfl (by decide) _ k _ rfl (by first | exact HO5 | exact HO5.alloc _) ⟨_, 0, none⟩ 1 1 [.int .i64 (q k).lo] rfl rfl (lies_any (by first | exact hc5 | exact al_top rfl _ _)) (by intro u hu; simp at hu; subst hu; rfl) (by decide) (by unfold maxLen; omega) (by omega) (by first | omega | (simp; omega)) _ rfl ?_; intro g2 cap2 w6 hown6 hgrow6 hat6 hlt6; have hz6 := hgrow6.size; have hS := (show w6.cell? ⟨wr.heap.size, 0, none⟩ = some (.int .i64 (q k).lo) ∧ w6.cell? ⟨wr.heap.size, 1, none⟩ = some (.int .i64 (q k).hi) from ⟨(hgrow6.cell_far ⟨wr.heap.size, 0, none⟩ (by first | (show wr.heap.size < _; omega) | (simp; omega)) (own_ne HA.out (.inr (Nat.le_refl _)))).trans (by first | exact hS.1 | exact (World.cell?_alloc_lt _ _ ⟨wr.heap.size, 0, none⟩ (by show wr.heap.size < _; omega)).trans hS.1), (hgrow6.cell_far ⟨wr.heap.size, 1, none⟩ (by first | (show wr.heap.size < _; omega) | (simp; omega)) (own_ne HA.out (.inr (Nat.le_refl _)))).trans (by first | exact hS.2 | exact (World.cell?_alloc_lt _ _ ⟨wr.heap.size, 1, none⟩ (by show wr.heap.size < _; omega)).trans hS.2)⟩); have HF := keep2 (v := .slice (some ⟨g1, 0, none⟩) (k + 1) cap1) (by first | exact hmode | exact hmode.alloc _) hgrow6 hdis1; have hne := disj2 hdis1 hat6 (by first | omega | (simp; done) | (simp; omega)); have hbl6 := (show Below (w.alloc (.cells #[.int .i64 0, .int .i64 0] 31)).heap.size (w.alloc (.cells #[.int .i64 0, .int .i64 0] 31)) w6 from Below.grown (by repeat (first | exact hbl5 | refine Below.alloc ?_ (by first | omega | (simp; done) | (simp; omega)) _)) hgrow6 (by first | omega | (simp; done) | (simp; omega)) (fun r e => Nat.le_trans (by simp) (own_ge HA.out r e))))
          | (have hmode := hHA; refine step_append_lies _ rfl (.tmp 18) (.tmp 21) 22 rfl (w.heap.size + 1) 3 i0 _ 1 8 Tryz.underlying22 hi hz0 hz1 hz22 rfl (by decide) _ k _ rfl (by first | exact HO5 | exact HO5.alloc _) ⟨_, 0, none⟩ 1 1 [.int .i64 (q k).hi] rfl rfl (lies_any (by first | exact hc5 | exact al_top rfl _ _)) (by intro u hu; simp at hu; subst hu; rfl) (by decide) (by unfold maxLen; omega) (by omega) (by first | omega | (simp; omega)) _ rfl ?_; intro g2 cap2 w6 hown6 hgrow6 hat6 hlt6; have hz6 := hgrow6.size; have hS := (show w6.cell? ⟨wr.heap.size, 0, none⟩ = some (.int .i64 (q k).lo) ∧ w6.cell? ⟨wr.heap.size, 1, none⟩ = some (.int .i64 (q k).hi) from ⟨(hgrow6.cell_far ⟨wr.heap.size, 0, none⟩ (by first | (show wr.heap.size < _; omega) | (simp; omega)) (own_ne HB.out (.inr (Nat.le_refl _)))).trans (by first | exact hS.1 | exact (World.cell?_alloc_lt _ _ ⟨wr.heap.size, 0, none⟩ (by show wr.heap.size < _; omega)).trans hS.1), (hgrow6.cell_far ⟨wr.heap.size, 1, none⟩ (by first | (show wr.heap.size < _; omega) | (simp; omega)) (own_ne HB.out (.inr (Nat.le_refl _)))).trans (by first | exact hS.2 | exact (World.cell?_alloc_lt _ _ ⟨wr.heap.size, 1, none⟩ (by show wr.heap.size < _; omega)).trans hS.2)⟩); have HF := keep2 (v := .slice (some ⟨g1, 0, none⟩) (k + 1) cap1) (by first | exact hmode | exact hmode.alloc _) hgrow6 hdis1; have hne := disj2 hdis1 hat6 (by first | omega | (simp; done) | (simp; omega)); have hbl6 := (show Below (w.alloc (.cells #[.int .i64 0, .int .i64 0] 31)).heap.size (w.alloc (.cells #[.int .i64 0, .int .i64 0] 31)) w6 from Below.grown (by repeat (first | exact hbl5 | refine Below.alloc ?_ (by first | omega | (simp; done) | (simp; omega)) _)) hgrow6 (by first | omega | (simp; done) | (simp; omega)) (fun r e => Nat.le_trans (by simp) (own_ge HB.out r e))))
          | (refine step_append_lies _ rfl (.tmp 13) (.tmp 16) 22 rfl (w.heap.size + 1) 3 i0 _ 1 8 Tryz.underlying22 hi hz0 hz1 hz22 rfl (by decide) _ k _ rfl ((HA.out.alloc _).alloc _).drew ⟨wr.heap.size + 1, 0, none⟩ 1 1 [.int .i64 (q k).lo] rfl rfl (lies_any (by simp)) (by intro u hu; simp at hu; subst hu; rfl) (by decide) (by unfold maxLen; omega) (by omega) (by first | omega | (simp; omega)) _ rfl ?_; intro g1 cap1 w5 hown5 hgrow5 hat5 hlt5; have hz5 : wr.heap.size + 1 ≤ w5.heap.size := (by have := hgrow5.size; simp at this; omega); have hS := (show w5.cell? ⟨wr.heap.size, 0, none⟩ = some (.int .i64 (q k).lo) ∧ w5.cell? ⟨wr.heap.size, 1, none⟩ = some (.int .i64 (q k).hi) from ⟨(hgrow5.cell_far ⟨wr.heap.size, 0, none⟩ (by first | (simp; done) | (simp; omega)) (own_ne HA.out (.inr (Nat.le_refl _)))).trans (FZ.out _ (by repeat (first | exact Below.refl _ _ | refine Below.alloc ?_ (by first | omega | (simp; done) | (simp; omega)) _ | refine Below.drew ?_))).1, (hgrow5.cell_far ⟨wr.heap.size, 1, none⟩ (by first | (simp; done) | (simp; omega)) (own_ne HA.out (.inr (Nat.le_refl _)))).trans (FZ.out _ (by repeat (first | exact Below.refl _ _ | refine Below.alloc ?_ (by first | omega | (simp; done) | (simp; omega)) _ | refine Below.drew ?_))).2⟩); have HO5 := keep2 (((HB.out.alloc _).alloc _).drew) hgrow5 HD.out; have hdis1 := disj1 HB.out hat5 HD.out (by first | (simp; done) | (simp; omega)); have hbl5 := (Below.trans (show Below (w.alloc (.cells #[.int .i64 0, .int .i64 0] 31)).heap.size (w.alloc (.cells #[.int .i64 0, .int .i64 0] 31)) wr from hbw) (Below.mono (Below.grown (B := w.heap.size + 1) (by repeat (first | exact Below.refl _ _ | refine Below.alloc ?_ (by first | omega | (simp; done) | (simp; omega)) _ | refine Below.drew ?_)) hgrow5 (by first | (simp; done) | (simp; omega)) (fun r e => own_ge HA.out r e)) (by simp))); have hHA := hown5)
          | (refine step_append_lies _ rfl (.tmp 13) (.tmp 16) 22 rfl (w.heap.size + 1) 3 i0 _ 1 8 Tryz.underlying22 hi hz0 hz1 hz22 rfl (by decide) _ k _ rfl (((HA.out.alloc _).alloc _).alloc _).drew ⟨wr.heap.size + 1, 0, none⟩ 1 1 [.int .i64 (q k).lo] rfl rfl (lies_any (by simp only [World.cell?_drew]; exact (World.cell?_alloc_lt _ _ ⟨wr.heap.size + 1, 0, none⟩ (by simp)).trans (by simp))) (by intro u hu; simp at hu; subst hu; rfl) (by decide) (by unfold maxLen; omega) (by omega) (by first | omega | (simp; omega)) _ rfl ?_; intro g1 cap1 w5 hown5 hgrow5 hat5 hlt5; have hz5 : wr.heap.size + 1 ≤ w5.heap.size := (by have := hgrow5.size; simp at this; omega); have hS := (show w5.cell? ⟨wr.heap.size, 0, none⟩ = some (.int .i64 (q k).lo) ∧ w5.cell? ⟨wr.heap.size, 1, none⟩ = some (.int .i64 (q k).hi) from ⟨(hgrow5.cell_far ⟨wr.heap.size, 0, none⟩ (by first | (simp; done) | (simp; omega)) (own_ne HA.out (.inr (Nat.le_refl _)))).trans (FZ.out _ (by repeat (first | exact Below.refl _ _ | refine Below.alloc ?_ (by first | omega | (simp; done) | (simp; omega)) _ | refine Below.drew ?_))).1, (hgrow5.cell_far ⟨wr.heap.size, 1, none⟩ (by first | (simp; done) | (simp; omega)) (own_ne HA.out (.inr (Nat.le_refl _)))).trans (FZ.out _ (by repeat (first | exact Below.refl _ _ | refine Below.alloc ?_ (by first | omega | (simp; done) | (simp; omega)) _ | refine Below.drew ?_))).2⟩); have HO5 := keep2 ((((HB.out.alloc _).alloc _).alloc _).drew) hgrow5 HD.out; have hdis1 := disj1 HB.out hat5 HD.out (by first | (simp; done) | (simp; omega)); have hbl5 := (Below.trans (show Below (w.alloc (.cells #[.int .i64 0, .int .i64 0] 31)).heap.size (w.alloc (.cells #[.int .i64 0, .int .i64 0] 31)) wr from hbw) (Below.mono (Below.grown (B := w.heap.size + 1) (by repeat (first | exact Below.refl _ _ | refine Below.alloc ?_ (by first | omega | (simp; done) | (simp; omega)) _ | refine Below.drew ?_)) hgrow5 (by first | (simp; done) | (simp; omega)) (fun r e => own_ge HA.out r e)) (by simp))); have hc5 := (hgrow5.cell_far ⟨wr.heap.size + 1 + 1, 0, none⟩ (by simp) (own_ne HA.out (.inr (by show wr.heap.size ≤ wr.heap.size + 1 + 1; omega)))).trans (show _ = some (Value.int .i64 (q k).hi) from (by simp only [World.cell?_drew]; exact al_top (by simp) _ _)); have hHA := hown5)
          | (refine step_append_lies _ rfl (.tmp 13) (.tmp 16) 22 rfl (w.heap.size + 1) 3 i0 _ 1 8 Tryz.underlying22 hi hz0 hz1 hz22 rfl (by decide) _ k _ rfl (((HA.out.alloc _).alloc _).alloc _).drew ⟨wr.heap.size + 1 + 1, 0, none⟩ 1 1 [.int .i64 (q k).lo] rfl rfl (lies_any (by simp only [World.cell?_drew]; exact al_top (by simp) _ _)) (by intro u hu; simp at hu; subst hu; rfl) (by decide) (by unfold maxLen; omega) (by omega) (by first | omega | (simp; omega)) _ rfl ?_; intro g1 cap1 w5 hown5 hgrow5 hat5 hlt5; have hz5 : wr.heap.size + 1 ≤ w5.heap.size := (by have := hgrow5.size; simp at this; omega); have hS := (show w5.cell? ⟨wr.heap.size, 0, none⟩ = some (.int .i64 (q k).lo) ∧ w5.cell? ⟨wr.heap.size, 1, none⟩ = some (.int .i64 (q k).hi) from ⟨(hgrow5.cell_far ⟨wr.heap.size, 0, none⟩ (by first | (simp; done) | (simp; omega)) (own_ne HA.out (.inr (Nat.le_refl _)))).trans (FZ.out _ (by repeat (first | exact Below.refl _ _ | refine Below.alloc ?_ (by first | omega | (simp; done) | (simp; omega)) _ | refine Below.drew ?_))).1, (hgrow5.cell_far ⟨wr.heap.size, 1, none⟩ (by first | (simp; done) | (simp; omega)) (own_ne HA.out (.inr (Nat.le_refl _)))).trans (FZ.out _ (by repeat (first | exact Below.refl _ _ | refine Below.alloc ?_ (by first | omega | (simp; done) | (simp; omega)) _ | refine Below.drew ?_))).2⟩); have HO5 := keep2 ((((HB.out.alloc _).alloc _).alloc _).drew) hgrow5 HD.out; have hdis1 := disj1 HB.out hat5 HD.out (by first | (simp; done) | (simp; omega)); have hbl5 := (Below.trans (show Below (w.alloc (.cells #[.int .i64 0, .int .i64 0] 31)).heap.size (w.alloc (.cells #[.int .i64 0, .int .i64 0] 31)) wr from hbw) (Below.mono (Below.grown (B := w.heap.size + 1) (by repeat (first | exact Below.refl _ _ | refine Below.alloc ?_ (by first | omega | (simp; done) | (simp; omega)) _ | refine Below.drew ?_)) hgrow5 (by first | (simp; done) | (simp; omega)) (fun r e => own_ge HA.out r e)) (by simp))); have hc5 := (hgrow5.cell_far ⟨wr.heap.size + 1, 0, none⟩ (by simp) (own_ne HA.out (.inr (by show wr.heap.size ≤ wr.heap.size + 1; omega)))).trans (show _ = some (Value.int .i64 (q k).hi) from (by simp only [World.cell?_drew]; exact (World.cell?_alloc_lt _ _ ⟨wr.heap.size + 1, 0, none⟩ (by simp)).trans (by simp))); have hHA := hown5)
          | (refine step_append_lies _ rfl (.tmp 18) (.tmp 21) 22 rfl (w.heap.size + 1) 3 i0 _ 1 8 Tryz.underlying22 hi hz0 hz1 hz22 rfl (by decide) _ k _ rfl ((HB.out.alloc _).alloc _).drew ⟨wr.heap.size + 1, 0, none⟩ 1 1 [.int .i64 (q k).hi] rfl rfl (lies_any (by simp)) (by intro u hu; simp at hu; subst hu; rfl) (by decide) (by unfold maxLen; omega) (by omega) (by first | omega | (simp; omega)) _ rfl ?_; intro g1 cap1 w5 hown5 hgrow5 hat5 hlt5; have hz5 : wr.heap.size + 1 ≤ w5.heap.size := (by have := hgrow5.size; simp at this; omega); have hS := (show w5.cell? ⟨wr.heap.size, 0, none⟩ = some (.int .i64 (q k).lo) ∧ w5.cell? ⟨wr.heap.size, 1, none⟩ = some (.int .i64 (q k).hi) from ⟨(hgrow5.cell_far ⟨wr.heap.size, 0, none⟩ (by first | (simp; done) | (simp; omega)) (own_ne HB.out (.inr (Nat.le_refl _)))).trans (FZ.out _ (by repeat (first | exact Below.refl _ _ | refine Below.alloc ?_ (by first | omega | (simp; done) | (simp; omega)) _ | refine Below.drew ?_))).1, (hgrow5.cell_far ⟨wr.heap.size, 1, none⟩ (by first | (simp; done) | (simp; omega)) (own_ne HB.out (.inr (Nat.le_refl _)))).trans (FZ.out _ (by repeat (first | exact Below.refl _ _ | refine Below.alloc ?_ (by first | omega | (simp; done) | (simp; omega)) _ | refine Below.drew ?_))).2⟩); have HO5 := keep2 (((HA.out.alloc _).alloc _).drew) hgrow5 HD2.out; have hdis1 := disj1 HA.out hat5 HD2.out (by first | (simp; done) | (simp; omega)); have hbl5 := (Below.trans (show Below (w.alloc (.cells #[.int .i64 0, .int .i64 0] 31)).heap.size (w.alloc (.cells #[.int .i64 0, .int .i64 0] 31)) wr from hbw) (Below.mono (Below.grown (B := w.heap.size + 1) (by repeat (first | exact Below.refl _ _ | refine Below.alloc ?_ (by first | omega | (simp; done) | (simp; omega)) _ | refine Below.drew ?_)) hgrow5 (by first | (simp; done) | (simp; omega)) (fun r e => own_ge HB.out r e)) (by simp))); have hHB := hown5)
          | (refine step_append_lies _ rfl (.tmp 18) (.tmp 21) 22 rfl (w.heap.size + 1) 3 i0 _ 1 8 Tryz.underlying22 hi hz0 hz1 hz22 rfl (by decide) _ k _ rfl (((HB.out.alloc _).alloc _).alloc _).drew ⟨wr.heap.size + 1, 0, none⟩ 1 1 [.int .i64 (q k).hi] rfl rfl (lies_any (by simp only [World.cell?_drew]; exact (World.cell?_alloc_lt _ _ ⟨wr.heap.size + 1, 0, none⟩ (by simp)).trans (by simp))) (by intro u hu; simp at hu; subst hu; rfl) (by decide) (by unfold maxLen; omega) (by omega) (by first | omega | (simp; omega)) _ rfl ?_; intro g1 cap1 w5 hown5 hgrow5 hat5 hlt5; have hz5 : wr.heap.size + 1 ≤ w5.heap.size := (by have := hgrow5.size; simp at this; omega); have hS := (show w5.cell? ⟨wr.heap.size, 0, none⟩ = some (.int .i64 (q k).lo) ∧ w5.cell? ⟨wr.heap.size, 1, none⟩ = some (.int .i64 (q k).hi) from ⟨(hgrow5.cell_far ⟨wr.heap.size, 0, none⟩ (by first | (simp; done) | (simp; omega)) (own_ne HB.out (.inr (Nat.le_refl _)))).trans (FZ.out _ (by repeat (first | exact Below.refl _ _ | refine Below.alloc ?_ (by first | omega | (simp; done) | (simp; omega)) _ | refine Below.drew ?_))).1, (hgrow5.cell_far ⟨wr.heap.size, 1, none⟩ (by first | (simp; done) | (simp; omega)) (own_ne HB.out (.inr (Nat.le_refl _)))).trans (FZ.out _ (by repeat (first | exact Below.refl _ _ | refine Below.alloc ?_ (by first | omega | (simp; done) | (simp; omega)) _ | refine Below.drew ?_))).2⟩); have HO5 := keep2 ((((HA.out.alloc _).alloc _).alloc _).drew) hgrow5 HD2.out; have hdis1 := disj1 HA.out hat5 HD2.out (by first | (simp; done) | (simp; omega)); have hbl5 := (Below.trans (show Below (w.alloc (.cells #[.int .i64 0, .int .i64 0] 31)).heap.size (w.alloc (.cells #[.int .i64 0, .int .i64 0] 31)) wr from hbw) (Below.mono (Below.grown (B := w.heap.size + 1) (by repeat (first | exact Below.refl _ _ | refine Below.alloc ?_ (by first | omega | (simp; done) | (simp; omega)) _ | refine Below.drew ?_)) hgrow5 (by first | (simp; done) | (simp; omega)) (fun r e => own_ge HB.out r e)) (by simp))); have hc5 := (hgrow5.cell_far ⟨wr.heap.size + 1 + 1, 0, none⟩ (by simp) (own_ne HB.out (.inr (by show wr.heap.size ≤ wr.heap.size + 1 + 1; omega)))).trans (show _ = some (Value.int .i64 (q k).lo) from (by simp only [World.cell?_drew]; exact al_top (by simp) _ _)); have hHB := hown5)
          | (refine step_append_lies _ rfl (.tmp 18) (.tmp 21) 22 rfl (w.heap.size + 1) 3 i0 _ 1 8 Tryz.underlying22 hi hz0 hz1 hz22 rfl (by decide) _ k _ rfl (((HB.out.alloc _).alloc _).alloc _).drew ⟨wr.heap.size + 1 + 1, 0, none⟩ 1 1 [.int .i64 (q k).hi] rfl rfl (lies_any (by simp only [World.cell?_drew]; exact al_top (by simp) _ _)) (by intro u hu; simp at hu; subst hu; rfl) (by decide) (by unfold maxLen; omega) (by omega) (by first | omega | (simp; omega)) _ rfl ?_; intro g1 cap1 w5 hown5 hgrow5 hat5 hlt5; have hz5 : wr.heap.size + 1 ≤ w5.heap.size := (by have := hgrow5.size; simp at this; omega); have hS := (show w5.cell? ⟨wr.heap.size, 0, none⟩ = some (.int .i64 (q k).lo) ∧ w5.cell? ⟨wr.heap.size, 1, none⟩ = some (.int .i64 (q k).hi) from ⟨(hgrow5.cell_far ⟨wr.heap.size, 0, none⟩ (by first | (simp; done) | (simp; omega)) (own_ne HB.out (.inr (Nat.le_refl _)))).trans (FZ.out _ (by repeat (first | exact Below.refl _ _ | refine Below.alloc ?_ (by first | omega | (simp; done) | (simp; omega)) _ | refine Below.drew ?_))).1, (hgrow5.cell_far ⟨wr.heap.size, 1, none⟩ (by first | (simp; done) | (simp; omega)) (own_ne HB.out (.inr (Nat.le_refl _)))).trans (FZ.out _ (by repeat (first | exact Below.refl _ _ | refine Below.alloc ?_ (by first | omega | (simp; done) | (simp; omega)) _ | refine Below.drew ?_))).2⟩); have HO5 := keep2 ((((HA.out.alloc _).alloc _).alloc _).drew) hgrow5 HD2.out; have hdis1 := disj1 HA.out hat5 HD2.out (by first | (simp; done) | (simp; omega)); have hbl5 := (Below.trans (show Below (w.alloc (.cells #[.int .i64 0, .int .i64 0] 31)).heap.size (w.alloc (.cells #[.int .i64 0, .int .i64 0] 31)) wr from hbw) (Below.mono (Below.grown (B := w.heap.size + 1) (by repeat (first | exact Below.refl _ _ | refine Below.alloc ?_ (by first | omega | (simp; done) | (simp; omega)) _ | refine Below.drew ?_)) hgrow5 (by first | (simp; done) | (simp; omega)) (fun r e => own_ge HB.out r e)) (by simp))); have hc5 := (hgrow5.cell_far ⟨wr.heap.size + 1, 0, none⟩ (by simp) (own_ne HB.out (.inr (by show wr.heap.size ≤ wr.heap.size + 1; omega)))).trans (show _ = some (Value.int .i64 (q k).lo) from (by simp only [World.cell?_drew]; exact (World.cell?_alloc_lt _ _ ⟨wr.heap.size + 1, 0, none⟩ (by simp)).trans (by simp))); have hHB := hown5)))
      all_goals
        go_wp2
        go_roundw
        case rel =>
          first
            | exact ⟨k + 1, by omega, by go_num, by rw [upto_map_succ]; exact HF, by rw [upto_map_succ]; exact hown6, fun r h h2 => hne (Option.some.inj (h.trans h2.symm)), hbl6⟩
            | exact ⟨k + 1, by omega, by go_num, by rw [upto_map_succ]; exact hown6, by rw [upto_map_succ]; exact HF, fun r h h2 => hne (Option.some.inj (h2.trans h.symm)), hbl6⟩
        case measure => simp [intOf]; omega
    · obtain rfl : k = n := by omega
      clear HD HD2
      go_wp2_with (fail)
      obtain ⟨sa, ca, hv1, -, hs1⟩ := intSl_of_owns HA.out
      obtain ⟨sb, cb, hv2, -, hs2⟩ := intSl_of_owns HB.out
      subst hv1
      subst hv2
      obtain ⟨A1, O1, rfl, hA1, hn1'⟩ := hs1.resolve_left (by omega)
      obtain ⟨A2, O2, rfl, hA2, hn2'⟩ := hs2.resolve_left (by omega)
      have N1 := Lib.hid hn1'
      have N2 := Lib.hid hn2'
      clear hs1 hs2 hn1' hn2' HA HB
      have z0 : ∀ w', Below wr.heap.size wr w' → w'.cell? ⟨w.heap.size, 0, none⟩ = some (.int .i64 0) ∧ w'.cell? ⟨w.heap.size, 1, none⟩ = some (.int .i64 0) ∧ w'.frozen? ⟨w.heap.size, 0, none⟩ = false ∧ w'.frozen? ⟨w.heap.size, 1, none⟩ = false := fun w' h => by
        have hh := hbw.trans (h.mono hbw.size)
        obtain ⟨a, b⟩ := bcell hh
        exact ⟨(a _ _ (by simp)).trans (by simp), (a _ _ (by simp)).trans (by simp), (b _ _ (by simp)).trans (by simp), (b _ _ (by simp)).trans (by simp)⟩
      have Z0 := Lib.hid z0
      clear z0
      clear hk hlt
      go_wp2_with (first
        | (go_at_call_of 101 A1; refine (leastRow_w A1 O1 k ca _ La HLA.out ⟨hn1, hn2⟩ _ hA1 N1.out).mono ?_; rintro e w5 ⟨rfl, hb5⟩)
        | (go_at_call 101; refine (leastRow_w A2 O2 k cb _ Lb HLB.out ⟨hn1, hn2⟩ _ (Nat.lt_of_lt_of_le hA2 hb5.size) (N2.out.below hA2 hb5)).mono ?_; rintro e w6 ⟨rfl, hb6⟩; have hb56 := hb5.trans (hb6.mono hb5.size); obtain ⟨c0, c1, f0, f1⟩ := Z0.out _ hb56))
      refine bodyPost_ret (v := .agg #[.int .i64 La, .int .i64 Lb]) (by simp [results, Tryz.results68, go_sem, c0, c1]) rfl ⟨rfl, ?_⟩
      exact ((below_al (hbw.trans (hb56.mono hbw.size))).setCell (by simp) _).setCell (by simp) _
end Go.Kn
