/- Walks of functions of layer 2 (contracts that the laws of this seat use). Conditions: as each theorem states them. -/
import Derived.Test.YtgjgcgonibldmaaGreatDoorFN
import Derived.Deep.Slices
import Derived.Deep.Fields
import Derived.ChangeSame
import Derived.Lib.SmallJoins
set_option linter.unusedVariables false
set_option linter.unusedSimpArgs false
namespace Go.Kn
open Go Go.Proofs Go.RowKit

/-- ages as they should be -/
structure AgeP (lt lq : Nat) (g : Nat → Int) : Prop where
  eq : lq = lt
  ok : ∀ i, i < lq → fromB 0 200 (g i) = true

set_option maxRecDepth 100000 in
set_option maxHeartbeats 2000000 in
theorem areAges_w (x : Value) (ta sq : Option Addr) (lt ct lq cq : Nat) (g : Nat → Int) (w : World) (hlt : 1 ≤ lt ∧ lt ≤ 1000000) (hlq : lq ≤ maxLen) (HS : Hid (IntSl w sq lq g)) :
    Calls Tryz.prog 46 #[.agg #[x, .slice ta lt ct], .slice sq lq cq] w fun e w' => (∃ rb : Bool, e = .returned (.bool rb) ∧ (rb = true ↔ AgeP lt lq g)) ∧ Below w.heap.size w w' := by
  unfold maxLen at hlq
  by_cases h : lq = lt
  case neg =>
    have h3 : ((lq : Int) == (lt : Int)) = false := by simp; omega
    go_enter Tryz.func46, Tryz.ntmps46
    go_wp2
    go_ret
    first
      | exact ⟨⟨false, rfl, no_iff' (fun hh => h hh.eq)⟩, (Below.refl _ _).alloc (Nat.le_refl _) _⟩
      | exact ⟨.inl ⟨rfl, fun hh => h hh.eq⟩, (Below.refl _ _).alloc (Nat.le_refl _) _⟩
  subst h
  obtain ⟨D, F, rfl, hD, hs⟩ := HS.out.resolve_left (by omega)
  have HD : Hid (∀ o : Obj, NumAt (w.alloc o) D F lq g) := Lib.hid fun o => hs.below hD ((Below.refl _ _).alloc (Nat.le_refl _) _)
  clear hs
  go_enter Tryz.func46, Tryz.ntmps46
  go_wp2_with (go_at_call 73; refine (allAge_w _ _ _ _ g _ (by unfold maxLen; omega) (by simp; omega) (HD.out _)).mono ?_; rintro e w1 ⟨⟨rb, rfl, hrb⟩, hb1⟩; have HR := Lib.hid hrb; clear hrb)
  go_ret
  exact ⟨⟨rb, rfl, HR.out.trans ⟨fun h => ⟨rfl, h⟩, fun h => h.ok⟩⟩, below_al hb1⟩

set_option maxRecDepth 100000 in
set_option maxHeartbeats 2000000 in
theorem refAges_w (x : Value) (ta sq : Option Addr) (lt ct lq cq : Nat) (g : Nat → Int) (w : World) (hlt : lt ≤ 1000000) (hlq : lq ≤ maxLen) (HS : Hid (IntSl w sq lq g)) :
    Calls Tryz.prog 15 #[.agg #[x, .slice ta lt ct], .slice sq lq cq] w fun e w' => (∃ rb : Bool, e = .returned (.bool rb) ∧ (rb = true ↔ AgeP lt lq g)) ∧ Below w.heap.size w w' := by
  unfold maxLen at hlq
  go_enter Tryz.func15, Tryz.ntmps15
  go_wp2
  go_loop [5] (fun i => ∃ k : Nat, k ≤ lq ∧ i = .int .i64 k ∧ ∀ j, j < k → fromB 0 200 (g j) = true) (fun i => lq - (intOf i).toNat)
  case atStart => exact ⟨0, Nat.zero_le _, rfl, fun j hj => absurd hj (by omega)⟩
  case round =>
    obtain ⟨k, hk, rfl, hall⟩ := hrel
    have HALL := Lib.hid hall
    clear hall
    by_cases hlt : k < lq
    · obtain ⟨D, F, rfl, hD, hs⟩ := HS.out.resolve_left (by omega)
      have y0 := (World.cell?_alloc_lt w (.cells #[x, .slice ta lt ct] 25) ⟨D, F + k, none⟩ hD).trans (hs k hlt)
      clear hs
      cases hv : fromB 0 200 (g k)
      · go_wp2_with (go_at_call 12; refine (age_w _ _).mono ?_; rw [hv]; rintro e w1 ⟨rfl, rfl⟩)
        go_ret
        exact ⟨⟨false, rfl, no_iff' (fun h => by rw [h.ok k hlt] at hv; exact Bool.noConfusion hv)⟩, (Below.refl _ _).alloc (Nat.le_refl _) _⟩
      · go_wp2_with (go_at_call 12; refine (age_w _ _).mono ?_; rw [hv]; rintro e w1 ⟨rfl, rfl⟩)
        go_round
        case rel => exact ⟨k + 1, by omega, by go_num, fun j hj => by
          rcases Nat.lt_succ_iff_lt_or_eq.1 hj with h | h
          · exact HALL.out j h
          · rw [h]; exact hv⟩
        case measure => simp [intOf]; omega
    · have HOK : Hid (∀ i, i < lq → fromB 0 200 (g i) = true) := Lib.hid fun j hj => HALL.out j (by omega)
      by_cases e : lq = lt
      · have h3 : ((lq : Int) == (lt : Int)) = true := by simp; omega
        have E := Lib.hid e
        clear e
        go_wp2
        go_ret
        first
          | exact ⟨⟨true, rfl, fun _ => ⟨E.out, HOK.out⟩, fun _ => rfl⟩, (Below.refl _ _).alloc (Nat.le_refl _) _⟩
          | exact ⟨.inr ⟨rfl, E.out, HOK.out⟩, (Below.refl _ _).alloc (Nat.le_refl _) _⟩
      · have h3 : ((lq : Int) == (lt : Int)) = false := by simp; omega
        go_wp2
        go_ret
        first
          | exact ⟨⟨false, rfl, no_iff' (fun hh => e hh.eq)⟩, (Below.refl _ _).alloc (Nat.le_refl _) _⟩
          | exact ⟨.inl ⟨rfl, fun hh => e hh.eq⟩, (Below.refl _ _).alloc (Nat.le_refl _) _⟩

/-- what the stretches carry at their ages -/
def carOf (s : Nat → Int) (t : Nat → St5) (g : Nat → Int) (k : Nat) : Sp2 := ⟨cupsL s (t k) (g k) (t k).hi, cupsL s (t k) (g k) (t k).lo⟩

set_option maxRecDepth 100000 in
set_option maxHeartbeats 4000000 in
theorem carried_w (A O C P ls cs lt ct D F cq : Nat) (s : Nat → Int) (t : Nat → St5) (g : Nat → Int) (w : World) (H : Hid (LineAt w A O C P ls lt s t)) (hD : D < w.heap.size) (HD : Hid (NumAt w D F lt g)) (hQ : Hid (AgeP lt lt g)) :
    Calls Tryz.prog 57 #[.agg #[.slice (some ⟨A, O, none⟩) ls cs, .slice (some ⟨C, P, none⟩) lt ct], .slice (some ⟨D, F, none⟩) lt cq] w
      fun e w' => (∃ G, e = .returned (.slice (some ⟨G, 0, none⟩) lt lt) ∧ w.heap.size ≤ G ∧ G < w'.heap.size ∧ SpAt w' G 0 lt (carOf s t g)) ∧ Below w.heap.size w w' := by
  have q1 := H.out.lt1
  have q2 := H.out.lt2
  obtain ⟨W0, hW0⟩ : ∃ W0, W0 = w.alloc (.cells #[.slice (some ⟨A, O, none⟩) ls cs, .slice (some ⟨C, P, none⟩) lt ct] 25) := ⟨_, rfl⟩
  have hz : W0.heap.size = w.heap.size + 1 := by rw [hW0]; simp
  have hB0 : Below w.heap.size w W0 := by rw [hW0]; exact (Below.refl _ _).alloc (Nat.le_refl _) _
  have FX : Hid (∀ w', Below W0.heap.size W0 w' → w'.cell? ⟨w.heap.size, 0, none⟩ = some (.slice (some ⟨A, O, none⟩) ls cs) ∧ w'.cell? ⟨w.heap.size, 1, none⟩ = some (.slice (some ⟨C, P, none⟩) lt ct) ∧ LineAt w' A O C P ls lt s t ∧ NumAt w' D F lt g) := Lib.hid fun w' h => by
    have q : ∀ b o, b < W0.heap.size → w'.cell? ⟨b, o, none⟩ = W0.cell? ⟨b, o, none⟩ := (bcell h).1
    have hall := hB0.trans (h.mono (by omega))
    exact ⟨(q _ _ (by omega)).trans (by rw [hW0]; simp), (q _ _ (by omega)).trans (by rw [hW0]; simp), H.out.below hall, HD.out.below hD hall⟩
  obtain ⟨i0, hi, hz0, hz1, hz2⟩ := info_parts info31
  go_enter Tryz.func57, Tryz.ntmps57
  go_wp2_with (at_make; refine wpList_make_full _ rfl _ _ 57 rfl w.heap.size 31 i0 _ 2 Tryz.underlying57 hi hz0 hz1 _ _ _ _ lt rfl rfl rfl rfl (by rw [hz2]; omega) (by unfold maxLen; omega) (by simp) ?_; intro w1 hown hgrow; rw [← hW0] at hown hgrow; have hb1 : Below W0.heap.size W0 w1 := (Below.refl _ _).grown hgrow (Nat.le_refl _) (fun k h => by cases h); have hrow := rowAt_of_owns hown; rw [hz] at hrow; obtain ⟨x0, x1, _⟩ := FX.out _ hb1)
  have HR0 : Hid (RowAt w1 (w.heap.size + 1) (lt * 2)) := Lib.hid hrow
  clear hown hgrow hrow
  go_loopw [13] (fun i wr => ∃ k : Nat, k ≤ lt ∧ i = .int .i64 k ∧ Below W0.heap.size W0 wr ∧ RowAt wr (w.heap.size + 1) (lt * 2) ∧ SpAt wr (w.heap.size + 1) 0 k (carOf s t g)) (fun i _ => lt - (intOf i).toNat)
  case atStart => exact ⟨0, Nat.zero_le _, rfl, hb1, HR0.out, fun i hi => absurd hi (by omega)⟩
  case round =>
    clear x0 x1 hb1
    obtain ⟨k, hk, rfl, hbw, hrow, hsp⟩ := hrel
    have HROW := Lib.hid hrow
    have HSP := Lib.hid hsp
    clear hrow hsp
    by_cases hlt : k < lt
    · obtain ⟨x0, x1, x2, x3⟩ := FX.out _ hbw
      have y0 := x3 k hlt
      have HLW := Lib.hid x2
      clear x2 x3
      have hgz := HROW.out.1
      have hag := hQ.out.ok k hlt
      simp only [fromB, decide_eq_true_eq] at hag
      have HAG := Lib.hid hag
      clear hag
      go_wp2_with (first
        | (go_at_call 41; refine (at_l HLW.out hlt _ _ _).mono ?_; rintro e w2 ⟨rfl, hb2⟩)
        | (go_at_call 42; refine (carries_l HLW.out hlt _ HAG.out _).mono ?_; rintro e w3 ⟨rfl, hb3⟩; have hbr : Below wr.heap.size wr w3 := hb2.trans (hb3.mono hb2.size); have hr2 := HROW.out.below hgz hbr; obtain ⟨⟨v0, hv0⟩, hf0⟩ := hr2.2 (k * 2) (by omega); obtain ⟨⟨v1, hv1⟩, hf1⟩ := hr2.2 (k * 2 + 1) (by omega)))
      go_roundw
      case rel => exact ⟨k + 1, by omega, by go_num, ((hbw.trans (hbr.mono hbw.size)).setCell (by simp; omega) _).setCell (by simp; omega) _, (hr2.set _ _).set _ _, (HSP.out.below hgz hbr).snoc hr2 (by omega)⟩
      case measure => simp [intOf]; omega
    · go_wp2
      go_ret
      obtain rfl : k = lt := by omega
      exact ⟨⟨_, rfl, by omega, HROW.out.1, HSP.out⟩, hB0.trans (hbw.mono (by omega))⟩
end Go.Kn

namespace Go.Kn
open Go Go.Proofs Go.RowKit
theorem field31_1 (a b : Int) (w : World) : (Instr.field 31 (.agg #[.int .i64 a, .int .i64 b]) 1).run Tryz.prog w = .ok (.int .i64 b) w := by kernel_rfl
theorem field31_0 (a b : Int) (w : World) : (Instr.field 31 (.agg #[.int .i64 a, .int .i64 b]) 0).run Tryz.prog w = .ok (.int .i64 a) w := by kernel_rfl
end Go.Kn

namespace Go.Kn
open Go Go.Proofs Go.RowKit Go.ChangeShapes Go.WideShapes Go.Deep

def numOfL : Value → Int
  | .int _ k => k
  | _ => 0

theorem cel3L : Tryz.prog.cellsOf 3 = 1 := by kernel_rfl

section
variable {H : Type} {enc : TypeId × Value → H} {w : World} {base : Nat} {spare : Nat → Bool} {held : Bool}

theorem addr_mkL {a : Addr} {v : Value} (h : w.cell? a = some v) : a = ⟨a.block, a.off, none⟩ := by
  have := World.cell?_spot h
  obtain ⟨b, o, s⟩ := a
  simp at this
  subst this; rfl

theorem add_mkL (b o i : Nat) : (⟨b, o, none⟩ : Addr).add i = ⟨b, o + i, none⟩ := by
  unfold Addr.add
  split
  · rename_i h; subst h; rfl
  · rfl

theorem int_openL {n : Nat} {v : Value} {y : DataW H × List MemPlace} (h : DataW.trod enc Tryz.prog w base spare held n 22 [v] = some y) :
    ∃ (sa : Option Addr) (ls cs : Nat) (s : Nat → Int), v = .slice sa ls cs ∧ ls ≤ maxLen ∧ IntSl w sa ls s := by
  rcases open_slice1 Tryz.underlying22 cel3L h with ⟨h1, _⟩ | ⟨a, len, cap, m, n', V, D, Pl, h1, _, hl, hm, hmm, _, hi⟩
  · exact ⟨none, 0, 0, fun _ => 0, by simpa using h1, by decide, .inl rfl⟩
  · refine ⟨some a, len, cap, fun i => numOfL (V i), by simpa using h1, by omega, ?_⟩
    by_cases h0 : len = 0
    · exact .inl h0
    · have hml : len ≤ m := by rw [hmm]; split <;> omega
      have hc0 := (hi 0 (by omega)).1
      have ea : a.add 0 = a := rfl
      rw [ea] at hc0
      have e := addr_mkL hc0
      refine .inr ⟨a.block, a.off, by rw [← e], World.block_lt_of_cell? w a hc0, fun i hil => ?_⟩
      obtain ⟨hc, ht⟩ := hi i (by omega)
      obtain ⟨k, hk, _⟩ := DataW.trod_int Tryz.underlying3 ht
      have hv : V i = .int .i64 k := by simpa using hk
      have q : a.add i = ⟨a.block, a.off + i, none⟩ := (congrArg (fun x => Addr.add x i) e).trans (add_mkL _ _ _)
      rw [q] at hc
      show w.cell? _ = some (.int .i64 (numOfL (V i)))
      rw [hc, hv]; rfl

end
end Go.Kn
