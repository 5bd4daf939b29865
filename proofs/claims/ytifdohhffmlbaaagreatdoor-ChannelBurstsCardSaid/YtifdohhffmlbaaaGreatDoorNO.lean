/- Walks of the functions of layer 2 that ChannelBursts calls, and the law itself (a part of it). Conditions: as each theorem states them. -/
import Derived.Test.YtifdohhffmlbaaaGreatDoorNM
import Derived.Test.YtifdohhffmlbaaaGreatDoorNF
set_option linter.unusedVariables false
set_option linter.unusedSimpArgs false
namespace Go.Kn
open Go Go.Proofs Go.RowKit

structure ChoP (lk ll lq : Nat) (s : Nat → Int) : Prop where
  eq : lq = ll
  ok : ∀ i, i < lq → fromB 0 ((lk : Int) - 1) (s i) = true

set_option maxRecDepth 100000 in
set_option maxHeartbeats 2000000 in
theorem isChoice_w (il ih : Value) (pv : Value) (la ka sq : Option Addr) (ll cl lk ck lq cq : Nat) (s : Nat → Int) (w : World) (hll : 1 ≤ ll ∧ ll ≤ 1000000) (hlk : lk ≤ 1000000) (hlq : lq ≤ maxLen) (HS : Hid (IntSl w sq lq s)) :
    Calls Tryz.prog 83 #[.agg #[il, ih, pv, .slice la ll cl], .slice ka lk ck, .slice sq lq cq] w fun e w' => (∃ rb : Bool, e = .returned (.bool rb) ∧ (rb = true ↔ ChoP lk ll lq s)) ∧ Below w.heap.size w w' := by
  unfold maxLen at hlq
  by_cases h : lq = ll
  case neg =>
    have h3 : ((lq : Int) == (ll : Int)) = false := by simp; omega
    go_enter Tryz.func83, Tryz.ntmps83
    go_wp2
    go_ret
    first
      | exact ⟨⟨false, rfl, no_iff' (fun hh => h hh.eq)⟩, ((Below.refl _ _).alloc (Nat.le_refl _) _).alloc (by simp) _⟩
      | exact ⟨.inl ⟨rfl, fun hh => h hh.eq⟩, ((Below.refl _ _).alloc (Nat.le_refl _) _).alloc (by simp) _⟩
  subst h
  obtain ⟨D, F, rfl, hD, hs⟩ := HS.out.resolve_left (by omega)
  have HD : Hid (∀ o o' : Obj, NumAt ((w.alloc o).alloc o') D F lq s) := Lib.hid fun o o' => hs.below hD (((Below.refl _ _).alloc (Nat.le_refl _) _).alloc (by simp) _)
  clear hs
  go_enter Tryz.func83, Tryz.ntmps83
  go_wp2_with (go_at_call 92; refine (allCh_w _ _ _ _ s (w.heap.size + 1) lk ck ka hlk _ (by simp) (by simp) (by unfold maxLen; omega) (by simp; omega) (HD.out _ _)).mono ?_; rintro e w1 ⟨⟨rb, rfl, hrb⟩, hb1⟩; have HR := Lib.hid hrb; clear hrb)
  go_ret
  exact ⟨⟨rb, rfl, HR.out.trans ⟨fun h => ⟨rfl, h⟩, fun h => h.ok⟩⟩, (((Below.refl _ _).alloc (Nat.le_refl _) _).alloc (by simp) _).trans (hb1.mono (by simp; omega))⟩

set_option maxRecDepth 100000 in
set_option maxHeartbeats 2000000 in
theorem rchosen_w (il ih : Value) (pv : Value) (la ka sq : Option Addr) (ll cl lk ck lq cq : Nat) (s : Nat → Int) (w : World) (hll : ll ≤ 1000000) (hlk : lk ≤ 1000000) (hlq : lq ≤ maxLen) (HS : Hid (IntSl w sq lq s)) :
    Calls Tryz.prog 51 #[.agg #[il, ih, pv, .slice la ll cl], .slice ka lk ck, .slice sq lq cq] w fun e w' => (∃ rb : Bool, e = .returned (.bool rb) ∧ (rb = true ↔ ChoP lk ll lq s)) ∧ Below w.heap.size w w' := by
  unfold maxLen at hlq
  go_enter Tryz.func51, Tryz.ntmps51
  go_wp2
  go_loop [7] (fun i => ∃ k : Nat, k ≤ lq ∧ i = .int .i64 k ∧ ∀ j, j < k → fromB 0 ((lk : Int) - 1) (s j) = true) (fun i => lq - (intOf i).toNat)
  case atStart => exact ⟨0, Nat.zero_le _, rfl, fun j hj => absurd hj (by omega)⟩
  case round =>
    obtain ⟨k, hk, rfl, hall⟩ := hrel
    have HALL := Lib.hid hall
    clear hall
    by_cases hlt : k < lq
    · obtain ⟨D, F, rfl, hD, hs⟩ := HS.out.resolve_left (by omega)
      have y0 := (World.cell?_alloc_lt w (.cells #[il, ih, pv, .slice la ll cl] 70) ⟨D, F + k, none⟩ hD).trans (hs k hlt)
      clear hs
      cases hv : fromB 0 ((lk : Int) - 1) (s k)
      · go_wp2_with (go_at_call 65; refine (in_w _ _ _ _).mono ?_; rw [hv]; rintro e w1 ⟨rfl, rfl⟩)
        go_ret
        exact ⟨⟨false, rfl, no_iff' (fun h => by rw [h.ok k hlt] at hv; exact Bool.noConfusion hv)⟩, (Below.refl _ _).alloc (Nat.le_refl _) _⟩
      · go_wp2_with (go_at_call 65; refine (in_w _ _ _ _).mono ?_; rw [hv]; rintro e w1 ⟨rfl, rfl⟩)
        go_round
        case rel => exact ⟨k + 1, by omega, by go_num, fun j hj => by
          rcases Nat.lt_succ_iff_lt_or_eq.1 hj with h | h
          · exact HALL.out j h
          · rw [h]; exact hv⟩
        case measure => simp [intOf]; omega
    · have HOK : Hid (∀ i, i < lq → fromB 0 ((lk : Int) - 1) (s i) = true) := Lib.hid fun j hj => HALL.out j (by omega)
      by_cases e : lq = ll
      · have h3 : ((lq : Int) == (ll : Int)) = true := by simp; omega
        have E := Lib.hid e
        clear e
        go_wp2
        go_ret
        first
          | exact ⟨⟨true, rfl, fun _ => ⟨E.out, HOK.out⟩, fun _ => rfl⟩, (Below.refl _ _).alloc (Nat.le_refl _) _⟩
          | exact ⟨.inr ⟨rfl, E.out, HOK.out⟩, (Below.refl _ _).alloc (Nat.le_refl _) _⟩
      · have h3 : ((lq : Int) == (ll : Int)) = false := by simp; omega
        go_wp2
        go_ret
        first
          | exact ⟨⟨false, rfl, no_iff' (fun hh => e hh.eq)⟩, (Below.refl _ _).alloc (Nat.le_refl _) _⟩
          | exact ⟨.inl ⟨rfl, fun hh => e hh.eq⟩, (Below.refl _ _).alloc (Nat.le_refl _) _⟩

set_option maxHeartbeats 1000000 in
theorem canBurst_w (be pr st lo hi : Int) (w : World) :
    Calls Tryz.prog 84 #[.agg #[.int .i64 be, .int .i64 pr, .int .i64 st], .agg #[.int .i64 lo, .int .i64 hi]] w fun e w' => e = .returned (.bool (decide (be < hi))) ∧ Below w.heap.size w w' := by
  go_enter Tryz.func84, Tryz.ntmps84
  go_wp2
  go_ret
  exact ⟨rfl, ((Below.refl _ _).alloc (Nat.le_refl _) _).alloc (by simp) _⟩

theorem intSl_of_owns {w : World} {base n : Nat} {v : Value} {xs : List Int} (h : w.ownsRow base 3 1 v n (xs.map (Value.int .i64))) :
    ∃ sa cap, v = .slice sa n cap ∧ n = xs.length ∧ IntSl w sa n (fun i => xs.getD i 0) := by
  have hl : n = xs.length := by have := h.1; simp at this; omega
  rcases h.2 with ⟨rfl, rfl⟩ | ⟨g, cap, cur, rfl, hb, hg, hn, hc, hs, hx⟩
  · exact ⟨none, 0, rfl, hl, .inl rfl⟩
  · refine ⟨_, cap, rfl, hl, ?_⟩
    by_cases h0 : n = 0
    · exact .inl h0
    refine .inr ⟨g, 0, rfl, (Array.getElem?_eq_some_iff.1 hg).1, fun i hi => ?_⟩
    have hj : (xs.map (Value.int .i64))[i]? = some (.int .i64 (xs.getD i 0)) := by
      have hi' : i < xs.length := by omega
      simp [List.getD, hi']
    rw [← hx] at hj
    rw [List.getElem?_take] at hj
    split at hj
    · simp only [Array.getElem?_toList] at hj
      simp [World.cell?, hg, hj]
    · cases hj

set_option maxRecDepth 100000 in
set_option maxHeartbeats 2000000 in
theorem same_w (sa sb : Option Addr) (ls c1 c2 : Nat) (s : Nat → Int) (w : World) (hls : ls ≤ maxLen) (H1 : Hid (IntSl w sa ls s)) (H2 : Hid (IntSl w sb ls s)) :
    Calls Tryz.prog 28 #[.slice sa ls c1, .slice sb ls c2] w fun e w' => e = .returned (.bool true) ∧ Below w.heap.size w w' := by
  unfold maxLen at hls
  go_enter Tryz.func28, Tryz.ntmps28
  go_wp2
  go_loopw [5] (fun i wr => ∃ k : Nat, k ≤ ls ∧ i = .int .i64 k ∧ Below w.heap.size w wr) (fun i _ => ls - (intOf i).toNat)
  case atStart => exact ⟨0, Nat.zero_le _, rfl, Below.refl _ _⟩
  case round =>
    obtain ⟨k, hk, rfl, hbw⟩ := hrel
    by_cases hlt : k < ls
    · obtain ⟨A, O, rfl, hA, h1⟩ := H1.out.resolve_left (by omega)
      obtain ⟨B, U, rfl, hB, h2⟩ := H2.out.resolve_left (by omega)
      have y0 := (h1.below hA hbw) k hlt
      have y1 := (h2.below hB hbw) k hlt
      clear h1 h2
      have n1 : (0 : Int) ≤ (k : Int) := by omega
      have n2 : (k : Int) < (ls : Int) := by omega
      go_wp2
      go_quiet (fail)
      go_wp2
      go_roundw
      case rel => exact ⟨k + 1, by omega, by go_num, below_drewM hbw _⟩
      case measure => simp [intOf]; omega
    · go_wp2
      go_ret
      exact ⟨rfl, hbw⟩
end Go.Kn
