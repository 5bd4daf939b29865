/- Walks of functions of layer 2 (contracts that the laws of this seat use). Conditions: as each theorem states them. -/
import Derived.Test.YtalnemafmklelaaGreatDoorBW
import Derived.Deep.QuietTactic
import Derived.Test.YtalnemafmklelaaGreatDoorBL
import Derived.WalkMore
import Derived.Test.YtalnemafmklelaaGreatDoorBN
import Derived.KernelRfl
import Derived.Defers
import Derived.Recover
set_option linter.unusedVariables false
set_option linter.unusedSimpArgs false
namespace Go.Kn
open Go Go.Proofs Go.RowKit

/-- The lexical walk, behind a door: so that nobody lays it open unasked. -/
structure Calm (P : Program) (ops : Array Oper) (C : World → Prop) (Q : Act → Prop) (l : List Oper) (a : Act) : Prop where
  out : wpQuiet P ops C Q l a

/-- One walk of the lexical order serves every order: the class of worlds in which nothing below a mark has changed. -/
theorem wp_region_calm {P : Program} {id : Nat} {Q : Exit → Act → World → Prop} {a : Act} {w W : World} {l : List Oper} (hm : P.follows .mixedOrders = true) (hB : Region.lexB .any l.toArray = true) (h0 : Below W.heap.size W w)
    (h : Calm P l.toArray (fun w' => Below W.heap.size W w') (fun a' => ∀ w', Below W.heap.size W w' → Q .normal a' w') l a) : (Code.region id l.toArray true).wp P Q a w :=
  wp_region_quiet (C := fun w' => Below W.heap.size W w') hm hB (below_drew h0) (by simpa using h.out)

theorem calm_nil {P : Program} {ops : Array Oper} {C : World → Prop} {Q : Act → Prop} {a : Act} (h : Q a) : Calm P ops C Q [] a := ⟨wpQuiet_nil h⟩

theorem calm_yes {P : Program} {ops : Array Oper} {C : World → Prop} {Q : Act → Prop} {a : Act} {o : Oper} {rest : List Oper} {v : Value} (hw : Region.wanted o (yielded ops a.tmps) = true)
    (h1 : ∀ w', C w' → o.quietAt P a C w' v) (h2 : Calm P ops C Q rest (a.put o.dst v)) : Calm P ops C Q (o :: rest) a := by
  refine ⟨?_⟩
  unfold wpQuiet
  rw [if_pos hw]
  exact ⟨v, h1, h2.out⟩

theorem calm_no {P : Program} {ops : Array Oper} {C : World → Prop} {Q : Act → Prop} {a : Act} {o : Oper} {rest : List Oper} (hw : Region.wanted o (yielded ops a.tmps) = false)
    (h2 : Calm P ops C Q rest (a.put o.dst undef)) : Calm P ops C Q (o :: rest) a := by
  refine ⟨?_⟩
  unfold wpQuiet
  rw [if_neg (by rw [hw]; decide)]
  exact h2.out
end Go.Kn

namespace Go.Kn
open Go Go.Proofs Go.RowKit

structure Nt3 where
  ag : Int
  lo : Int
  hi : Int

/-- notes in memory -/
def NtAt (w : World) (C P ln : Nat) (q : Nat → Nt3) : Prop := ∀ i, i < ln → w.cell? ⟨C, P + i * 3, none⟩ = some (.int .i64 (q i).ag) ∧ w.cell? ⟨C, P + i * 3 + 1, none⟩ = some (.int .i64 (q i).lo) ∧ w.cell? ⟨C, P + i * 3 + 2, none⟩ = some (.int .i64 (q i).hi)

theorem NtAt.below {w w1 : World} {C P ln : Nat} {q : Nat → Nt3} (h : NtAt w C P ln q) (hC : C < w.heap.size) (hb : Below w.heap.size w w1) : NtAt w1 C P ln q := by
  intro i hi
  obtain ⟨h0, h1, h2⟩ := h i hi
  have e : ∀ o, w1.cell? ⟨C, o, none⟩ = w.cell? ⟨C, o, none⟩ := fun o => hb.cell (p := ⟨C, o, none⟩) hC
  exact ⟨(e _).trans h0, (e _).trans h1, (e _).trans h2⟩

def NtSl (w : World) (sa : Option Addr) (ln : Nat) (q : Nat → Nt3) : Prop := ln = 0 ∨ ∃ C P, sa = some ⟨C, P, none⟩ ∧ C < w.heap.size ∧ NtAt w C P ln q

theorem NtSl.below {w w1 : World} {sa : Option Addr} {ln : Nat} {q : Nat → Nt3} (h : NtSl w sa ln q) (hb : Below w.heap.size w w1) : NtSl w1 sa ln q := by
  rcases h with h | ⟨C, P, h1, h2, h3⟩
  · exact .inl h
  · exact .inr ⟨C, P, h1, Nat.lt_of_lt_of_le h2 hb.size, h3.below h2 hb⟩

def ntB (x : Nt3) : Bool := fromB 0 200 x.ag && betB x.lo x.hi 0 10000000

/-- notes as they should be -/
structure NotesP (ln : Nat) (q : Nat → Nt3) : Prop where
  few : ln ≤ 8
  ok : ∀ i, i < ln → ntB (q i) = true

set_option maxRecDepth 100000 in
set_option maxHeartbeats 1000000 in
theorem note_w (x : Nt3) (w : World) :
    Calls Tryz.prog 79 #[.agg #[.int .i64 x.ag, .int .i64 x.lo, .int .i64 x.hi]] w fun e w' => e = .returned (.bool (ntB x)) ∧ Below w.heap.size w w' := by
  have hb0 : Below w.heap.size w (w.alloc (.cells #[.int .i64 x.ag, .int .i64 x.lo, .int .i64 x.hi] 65)) := (Below.refl _ _).alloc (Nat.le_refl _) _
  cases h : fromB 0 200 x.ag
  · have hn : ntB x = false := by simp [ntB, h]
    rw [hn]
    go_enter Tryz.func79, Tryz.ntmps79
    go_wp2_with (first
      | (go_at_call 22; refine (age_w _ _).mono ?_; rintro e w' ⟨rfl, rfl⟩)
      | (go_at_call 101; refine (between_w _ _ _ _ _).mono ?_; rintro e w' ⟨rfl, hb1⟩))
    go_ret
    exact ⟨rfl, hb0⟩
  · have hn : ntB x = betB x.lo x.hi 0 10000000 := by simp [ntB, h]
    rw [hn]
    go_enter Tryz.func79, Tryz.ntmps79
    go_wp2_with (first
      | (go_at_call 22; refine (age_w _ _).mono ?_; rintro e w' ⟨rfl, rfl⟩)
      | (go_at_call 101; refine (between_w _ _ _ _ _).mono ?_; rintro e w' ⟨rfl, hb1⟩))
    go_ret
    exact ⟨rfl, hb0.trans (hb1.mono hb0.size)⟩

set_option maxRecDepth 100000 in
set_option maxHeartbeats 2000000 in
theorem notes_w (sa : Option Addr) (ln cn : Nat) (q : Nat → Nt3) (w : World) (hln : ln ≤ 1000000) (H : Hid (NtSl w sa ln q)) :
    Calls Tryz.prog 38 #[.slice sa ln cn] w fun e w' => (∃ rb : Bool, e = .returned (.bool rb) ∧ (rb = true ↔ NotesP ln q)) ∧ Below w.heap.size w w' := by
  go_enter Tryz.func38, Tryz.ntmps38
  go_wp2
  go_loopw [3] (fun i wr => ∃ k : Nat, k ≤ ln ∧ i = .int .i64 k ∧ Below w.heap.size w wr ∧ ∀ j, j < k → ntB (q j) = true) (fun i _ => ln - (intOf i).toNat)
  case atStart => exact ⟨0, Nat.zero_le _, rfl, Below.refl _ _, fun j hj => absurd hj (by omega)⟩
  case round =>
    obtain ⟨k, hk, rfl, hbw, hall⟩ := hrel
    have HALL := Lib.hid hall
    clear hall
    by_cases hlt : k < ln
    · obtain ⟨C, P, rfl, hC, hc⟩ := (H.out.below hbw).resolve_left (by omega)
      obtain ⟨c0, c1, c2⟩ := hc k hlt
      clear hc
      have n1 : (0 : Int) ≤ (k : Int) := by omega
      have n2 : (k : Int) < (ln : Int) := by omega
      cases hx : ntB (q k)
      · go_wp2_with (go_at_call 79; refine (note_w _ _).mono ?_; rw [hx]; rintro e w1 ⟨rfl, hb1⟩)
        go_ret
        exact ⟨⟨false, rfl, no_iff' (fun h => by have := h.ok k hlt; rw [hx] at this; cases this)⟩, hbw.trans (hb1.mono hbw.size)⟩
      · go_wp2_with (go_at_call 79; refine (note_w _ _).mono ?_; rw [hx]; rintro e w1 ⟨rfl, hb1⟩)
        go_roundw
        case rel => exact ⟨k + 1, by omega, by go_num, hbw.trans (hb1.mono hbw.size), fun j hj => by
          rcases Nat.lt_succ_iff_lt_or_eq.1 hj with h | h
          · exact HALL.out j h
          · rw [h]; exact hx⟩
        case measure => simp [intOf]; omega
    · obtain rfl : k = ln := by omega
      by_cases h8 : k ≤ 8
      · have h9 : decide ((k : Int) ≤ 8) = true := decide_eq_true (by omega)
        go_wp2
        go_ret
        exact ⟨⟨true, by simp, fun _ => ⟨h8, HALL.out⟩, fun _ => rfl⟩, hbw⟩
      · have h9 : decide ((k : Int) ≤ 8) = false := decide_eq_false (by omega)
        go_wp2
        go_ret
        exact ⟨⟨false, by simp, no_iff' (fun h => h8 h.few)⟩, hbw⟩
end Go.Kn

namespace Go.Kn
open Go Go.Proofs Go.RowKit

def NtOk (n : Nat) (q : Nat → Nt3) : Prop := ∀ i, i < n → ntB (q i) = true

theorem spanB_betB (l lo hi : Int) : spanB l lo hi = betB lo hi 0 l := by
  unfold spanB betB; rw [decide_eq_decide]; omega

set_option maxHeartbeats 1000000 in
theorem isNt_w (ag lo hi : Int) (w : World) :
    Calls Tryz.prog 104 #[.agg #[.int .i64 ag, .int .i64 lo, .int .i64 hi]] w fun e w' => e = .returned (.bool (ntB ⟨ag, lo, hi⟩)) ∧ Below w.heap.size w w' := by
  have hb0 : Below w.heap.size w (w.alloc (.cells #[.int .i64 ag, .int .i64 lo, .int .i64 hi] 65)) := (Below.refl _ _).alloc (Nat.le_refl _) _
  cases h : fromB 0 200 ag
  · have hn : ntB ⟨ag, lo, hi⟩ = false := by simp [ntB, h]
    rw [hn]
    go_enter Tryz.func104, Tryz.ntmps104
    go_wp2_with (first
      | (go_at_call 63; refine (isAge_w _ _).mono ?_; rintro e w' ⟨rfl, rfl⟩)
      | (go_at_call 105; refine (isSpan_w _ _ _ _).mono ?_; rintro e w' ⟨rfl, hb1⟩))
    go_ret
    exact ⟨rfl, hb0⟩
  · have hn : ntB ⟨ag, lo, hi⟩ = spanB 10000000 lo hi := by simp [ntB, h, spanB_betB]
    rw [hn]
    go_enter Tryz.func104, Tryz.ntmps104
    go_wp2_with (first
      | (go_at_call 63; refine (isAge_w _ _).mono ?_; rintro e w' ⟨rfl, rfl⟩)
      | (go_at_call 105; refine (isSpan_w _ _ _ _).mono ?_; rintro e w' ⟨rfl, hb1⟩))
    go_ret
    exact ⟨rfl, hb0.trans (hb1.mono hb0.size)⟩

set_option maxHeartbeats 1000000 in
theorem notNt_w (B : Nat) (ag lo hi : Int) (w : World) (hBw : B < w.heap.size) (hB : w.cell? ⟨B, 0, none⟩ = some (.func (.func 104) #[] #[])) :
    Calls Tryz.prog 132 #[.agg #[.int .i64 ag, .int .i64 lo, .int .i64 hi], .pointer (some ⟨B, 0, none⟩)] w fun e w' => e = .returned (.bool (!ntB ⟨ag, lo, hi⟩)) ∧ Below w.heap.size w w' := by
  have hal2 : ∀ (o : Obj) (k : Nat), (w.alloc o).cell? ⟨B, k, none⟩ = w.cell? ⟨B, k, none⟩ := fun o k => World.cell?_alloc_lt w o _ hBw
  go_enter Tryz.func132, Tryz.ntmps132
  go_wp2_with (go_at_call 104; refine (isNt_w _ _ _ _).mono ?_; rintro e w' ⟨rfl, hbl⟩)
  go_ret
  exact ⟨rfl, below_al hbl⟩

set_option maxRecDepth 100000 in
set_option maxHeartbeats 2000000 in
theorem idxNt_w (C P lt ct B : Nat) (p : Nat → Nt3) (w : World) (hlt : lt ≤ 1000000) (hC : C < w.heap.size) (hBw : B < w.heap.size) (hB : w.cell? ⟨B, 0, none⟩ = some (.func (.func 104) #[] #[])) (ht : NtAt w C P lt p) :
    Calls Tryz.prog 143 #[.slice (some ⟨C, P, none⟩) lt ct, .func (.func 132) #[] #[.pointer (some ⟨B, 0, none⟩)]] w
      fun e w' => (∃ i : Int, e = .returned (.int .i64 i) ∧ ((i < 0 ∧ NtOk lt p) ∨ (0 ≤ i ∧ ¬ NtOk lt p))) ∧ Below w.heap.size w w' := by
  have HT := Lib.hid ht
  clear ht
  go_enter Tryz.func143, Tryz.ntmps143
  go_wp2
  go_loopw [8] (fun i wr => ∃ k : Nat, k ≤ lt ∧ i = .int .i64 k ∧ Below w.heap.size w wr ∧ (∀ j, j < k → ntB (p j) = true)) (fun i _ => lt - (intOf i).toNat)
  case atStart => exact ⟨0, Nat.zero_le _, rfl, Below.refl _ _, fun j hj => absurd hj (by omega)⟩
  case round =>
    obtain ⟨k, hk, rfl, hbw, hall⟩ := hrel
    have HALL := Lib.hid hall
    clear hall
    by_cases hlt' : k < lt
    · obtain ⟨c0, c1, c2⟩ := HT.out.below hC hbw k hlt'
      have mB : wr.cell? ⟨B, 0, none⟩ = some (.func (.func 104) #[] #[]) := (hbw.cell (p := ⟨B, 0, none⟩) hBw).trans hB
      have hz : w.heap.size ≤ wr.heap.size := hbw.size
      cases hv : ntB (p k)
      · go_wp2_with (go_at_call 132; refine (notNt_w _ _ _ _ _ (by omega) mB).mono ?_; rintro e w1 ⟨rfl, hb1⟩)
        go_ret
        exact ⟨⟨_, rfl, .inr ⟨by omega, fun h => by have h2 := h k hlt'; rw [hv] at h2; cases h2⟩⟩, hbw.trans (hb1.mono hz)⟩
      · go_wp2_with (go_at_call 132; refine (notNt_w _ _ _ _ _ (by omega) mB).mono ?_; rintro e w1 ⟨rfl, hb1⟩)
        go_roundw
        case rel => exact ⟨k + 1, by omega, by go_num, hbw.trans (hb1.mono hz), fun j hj => by
          rcases Nat.lt_succ_iff_lt_or_eq.1 hj with h | h
          · exact HALL.out j h
          · rw [h]; exact hv⟩
        case measure => simp [intOf]; omega
    · go_wp2
      go_ret
      exact ⟨⟨_, rfl, .inl ⟨by omega, fun j hj => HALL.out j (by omega)⟩⟩, hbw⟩

set_option maxRecDepth 100000 in
set_option maxHeartbeats 2000000 in
theorem contNt_w (C P lt ct B : Nat) (p : Nat → Nt3) (w : World) (hlt : lt ≤ 1000000) (hC : C < w.heap.size) (hBw : B < w.heap.size) (hB : w.cell? ⟨B, 0, none⟩ = some (.func (.func 104) #[] #[])) (ht : NtAt w C P lt p) :
    Calls Tryz.prog 131 #[.slice (some ⟨C, P, none⟩) lt ct, .func (.func 132) #[] #[.pointer (some ⟨B, 0, none⟩)]] w
      fun e w' => (∃ cb : Bool, e = .returned (.bool cb) ∧ (cb = false ↔ NtOk lt p)) ∧ Below w.heap.size w w' := by
  have HT := Lib.hid ht
  clear ht
  go_enter Tryz.func131, Tryz.ntmps131
  go_wp2_with (go_at_call 143; refine (idxNt_w _ _ _ _ _ p _ hlt hC hBw hB HT.out).mono ?_; rintro e w1 ⟨⟨i, rfl, hi⟩, hb1⟩; have HI := Lib.hid hi; clear hi)
  go_ret
  refine ⟨⟨decide (0 ≤ i), rfl, ?_⟩, hb1⟩
  rcases HI.out with ⟨h1, h2⟩ | ⟨h1, h2⟩
  · exact ⟨fun _ => h2, fun _ => decide_eq_false (by omega)⟩
  · exact ⟨fun h => by have := of_decide_eq_false h; omega, fun h => (h2 h).elim⟩

set_option maxRecDepth 100000 in
set_option maxHeartbeats 2000000 in
theorem allNt_w (C P lt ct : Nat) (p : Nat → Nt3) (w : World) (hlt : lt ≤ 1000000) (hC : C < w.heap.size) (ht : NtAt w C P lt p) :
    Calls Tryz.prog 103 #[.slice (some ⟨C, P, none⟩) lt ct, .func (.func 104) #[] #[]] w
      fun e w' => (∃ rb : Bool, e = .returned (.bool rb) ∧ (rb = true ↔ NtOk lt p)) ∧ Below w.heap.size w w' := by
  have HT : Hid (∀ o : Obj, NtAt (w.alloc o) C P lt p) := Lib.hid fun o => ht.below hC ((Below.refl _ _).alloc (Nat.le_refl _) _)
  clear ht
  go_enter Tryz.func103, Tryz.ntmps103
  go_wp2_with (go_at_call 131; refine (contNt_w _ _ _ _ _ p _ hlt (by simp; omega) (by simp) (cell_newL _ _ _) (HT.out _)).mono ?_; rintro e w1 ⟨⟨cb, rfl, hcb⟩, hb1⟩; have HC := Lib.hid hcb; clear hcb)
  go_ret
  refine ⟨⟨!cb, rfl, ?_⟩, below_al hb1⟩
  rw [← HC.out]; cases cb <;> simp

set_option maxRecDepth 100000 in
set_option maxHeartbeats 2000000 in
theorem idxNt0_w (sa : Option Addr) (ct B : Nat) (w : World) :
    Calls Tryz.prog 143 #[.slice sa 0 ct, .func (.func 132) #[] #[.pointer (some ⟨B, 0, none⟩)]] w
      fun e w' => e = .returned (.int .i64 (-1)) ∧ Below w.heap.size w w' := by
  go_enter Tryz.func143, Tryz.ntmps143
  go_wp2
  go_loopw [8] (fun i wr => i = .int .i64 0 ∧ Below w.heap.size w wr) (fun _ _ => 0)
  case atStart => exact ⟨rfl, Below.refl _ _⟩
  case round =>
    obtain ⟨rfl, hbw⟩ := hrel
    go_wp2
    go_ret
    exact ⟨rfl, hbw⟩

set_option maxRecDepth 100000 in
set_option maxHeartbeats 2000000 in
theorem allNt0_w (sa : Option Addr) (ct : Nat) (w : World) :
    Calls Tryz.prog 103 #[.slice sa 0 ct, .func (.func 104) #[] #[]] w
      fun e w' => e = .returned (.bool true) ∧ Below w.heap.size w w' := by
  have hc : ∀ (B : Nat) (w : World), Calls Tryz.prog 131 #[.slice sa 0 ct, .func (.func 132) #[] #[.pointer (some ⟨B, 0, none⟩)]] w fun e w' => e = .returned (.bool false) ∧ Below w.heap.size w w' := by
    intro B w
    go_enter Tryz.func131, Tryz.ntmps131
    go_wp2_with (go_at_call 143; refine (idxNt0_w _ _ _ _).mono ?_; rintro e w1 ⟨rfl, hb1⟩)
    go_ret
    exact ⟨rfl, hb1⟩
  go_enter Tryz.func103, Tryz.ntmps103
  go_wp2_with (go_at_call 131; refine (hc _ _).mono ?_; rintro e w1 ⟨rfl, hb1⟩)
  go_ret
  exact ⟨rfl, below_al hb1⟩

set_option maxRecDepth 100000 in
set_option maxHeartbeats 2000000 in
theorem areNotes_w (sa : Option Addr) (ln cn : Nat) (q : Nat → Nt3) (w : World) (hln : ln ≤ 1000000) (H : Hid (NtSl w sa ln q)) :
    Calls Tryz.prog 75 #[.slice sa ln cn] w fun e w' => (∃ rb : Bool, e = .returned (.bool rb) ∧ (rb = true ↔ NotesP ln q)) ∧ Below w.heap.size w w' := by
  by_cases f2 : ln ≤ 8
  case neg =>
    have h9 : decide ((ln : Int) ≤ 8) = false := decide_eq_false (by omega)
    go_enter Tryz.func75, Tryz.ntmps75
    go_wp2
    go_ret
    exact ⟨⟨false, by simp, no_iff' (fun h => f2 h.few)⟩, Below.refl _ _⟩
  have h9 : decide ((ln : Int) ≤ 8) = true := decide_eq_true (by omega)
  by_cases h0 : ln = 0
  · subst h0
    go_enter Tryz.func75, Tryz.ntmps75
    go_wp2_with (go_at_call 103; refine (allNt0_w _ _ _).mono ?_; rintro e w1 ⟨rfl, hb1⟩)
    go_ret
    exact ⟨⟨true, rfl, fun _ => ⟨f2, fun i hi => absurd hi (by omega)⟩, fun _ => rfl⟩, hb1⟩
  obtain ⟨C, P, rfl, hC, hc⟩ := H.out.resolve_left h0
  have HC := Lib.hid hc
  clear hc
  go_enter Tryz.func75, Tryz.ntmps75
  go_wp2_with (go_at_call 103; refine (allNt_w _ _ _ _ q _ hln hC HC.out).mono ?_; rintro e w1 ⟨⟨rb, rfl, hrb⟩, hb1⟩; have HR := Lib.hid hrb; clear hrb)
  go_ret
  exact ⟨⟨rb, rfl, HR.out.trans ⟨fun h => ⟨f2, h⟩, fun h => h.ok⟩⟩, hb1⟩
end Go.Kn

namespace Go.Kn
open Go Go.Proofs Go.RowKit

/-- a rate agrees with one note -/
def agB (s : Nat → Int) (x : St5) (r : Int) (y : Nt3) : Bool := fromB y.lo y.hi (cupsL s x y.ag r)

/-- a rate agrees with all notes -/
def AgP (s : Nat → Int) (x : St5) (ln : Nat) (q : Nat → Nt3) (r : Int) : Prop := ∀ i, i < ln → agB s x r (q i) = true

set_option maxRecDepth 100000 in
set_option maxHeartbeats 4000000 in
theorem agrees_w (A O C P ls cs lt ct n : Nat) (sa : Option Addr) (ln cn : Nat) (s : Nat → Int) (t : Nat → St5) (q : Nat → Nt3) (r : Int) (w : World) (H : Hid (LineAt w A O C P ls lt s t)) (hn : n < lt) (hln : ln ≤ 1000000) (HN : Hid (NtSl w sa ln q)) (HQ : Hid (NotesP ln q)) (hr : 0 ≤ r ∧ r ≤ 100) :
    Calls Tryz.prog 40 #[.agg #[.slice (some ⟨A, O, none⟩) ls cs, .slice (some ⟨C, P, none⟩) lt ct], .int .i64 (n : Int), .slice sa ln cn, .int .i64 r] w
      fun e w' => (∃ rb : Bool, e = .returned (.bool rb) ∧ (rb = true ↔ AgP s (t n) ln q r)) ∧ Below w.heap.size w w' := by
  have BX := Lib.hid (fun (w1 : World) (hb : Below (w.alloc (.cells #[.slice (some ⟨A, O, none⟩) ls cs, .slice (some ⟨C, P, none⟩) lt ct] 25)).heap.size (w.alloc (.cells #[.slice (some ⟨A, O, none⟩) ls cs, .slice (some ⟨C, P, none⟩) lt ct] 25)) w1) => box_cells hb)
  have HL : Hid (∀ w1, Below (w.alloc (.cells #[.slice (some ⟨A, O, none⟩) ls cs, .slice (some ⟨C, P, none⟩) lt ct] 25)).heap.size (w.alloc (.cells #[.slice (some ⟨A, O, none⟩) ls cs, .slice (some ⟨C, P, none⟩) lt ct] 25)) w1 → LineAt w1 A O C P ls lt s t ∧ NtSl w1 sa ln q) := Lib.hid fun w1 h => ⟨H.out.below (below_al h), HN.out.below (below_al h)⟩
  have HR := Lib.hid hr
  clear hr
  go_enter Tryz.func40, Tryz.ntmps40
  go_wp2
  go_loopw [9] (fun i wr => ∃ k : Nat, k ≤ ln ∧ i = .int .i64 k ∧ Below (w.alloc (.cells #[.slice (some ⟨A, O, none⟩) ls cs, .slice (some ⟨C, P, none⟩) lt ct] 25)).heap.size (w.alloc (.cells #[.slice (some ⟨A, O, none⟩) ls cs, .slice (some ⟨C, P, none⟩) lt ct] 25)) wr ∧ ∀ j, j < k → agB s (t n) r (q j) = true) (fun i _ => ln - (intOf i).toNat)
  case atStart => exact ⟨0, Nat.zero_le _, rfl, Below.refl _ _, fun j hj => absurd hj (by omega)⟩
  case round =>
    obtain ⟨k, hk, rfl, hbw, hall⟩ := hrel
    have HALL := Lib.hid hall
    have HBW := Lib.hid hbw
    clear hall hbw
    by_cases hlt : k < ln
    · obtain ⟨D, F, rfl, hD, hc⟩ := ((HL.out _ HBW.out).2).resolve_left (by omega)
      have HC := Lib.hid hc
      clear hc
      have hag := HQ.out.ok k hlt
      have hag2 : 0 ≤ (q k).ag ∧ (q k).ag ≤ 200 := by simp only [ntB, fromB, Bool.and_eq_true, decide_eq_true_eq] at hag; exact hag.1
      have HAG := Lib.hid hag2
      clear hag hag2
      have FD : Hid (∀ w', Below wr.heap.size wr w' → (w'.cell? ⟨w.heap.size, 0, none⟩ = some (.slice (some ⟨A, O, none⟩) ls cs) ∧ w'.cell? ⟨w.heap.size, 1, none⟩ = some (.slice (some ⟨C, P, none⟩) lt ct)) ∧ w'.cell? ⟨D, F + k * 3, none⟩ = some (.int .i64 (q k).ag) ∧ w'.cell? ⟨D, F + k * 3 + 1, none⟩ = some (.int .i64 (q k).lo) ∧ w'.cell? ⟨D, F + k * 3 + 2, none⟩ = some (.int .i64 (q k).hi)) := Lib.hid fun w' h => by
        obtain ⟨z0, z1, _⟩ := BX.out _ (HBW.out.trans (h.mono HBW.out.size))
        exact ⟨⟨z0, z1⟩, (HC.out.below hD h) k hlt⟩
      have HLq : Hid (∀ w', Below wr.heap.size wr w' → LineAt w' A O C P ls lt s t) := Lib.hid fun w' h => (HL.out _ (HBW.out.trans (h.mono HBW.out.size))).1
      obtain ⟨⟨x1, x2⟩, y0, y1, y2⟩ := FD.out _ (Below.refl _ _)
      have n1 : (0 : Int) ≤ (k : Int) := by omega
      have n2 : (k : Int) < (ln : Int) := by omega
      cases hx : agB s (t n) r (q k)
      · have hx2 : fromB (q k).lo (q k).hi (cupsL s (t n) (q k).ag r) = false := hx
        go_wp2
        refine wp_region_calm (W := wr) (by kernel_rfl) (by kernel_rfl) (Below.refl _ _) ?_
        repeat (first
          | (refine calm_no (by rfl) ?_
             (try simp only [Act.put, List.setIfInBounds_toArray, List.set_cons_zero, List.set_cons_succ]))
          | (apply calm_yes
             focus rfl
             focus
               intro w' hw'
               obtain ⟨⟨x1, x2⟩, y0, y1, y2⟩ := FD.out w' hw'
               go_simp
               first
                 | done
                 | with_reducible rfl
                 | (first
                      | (go_at_call 24; refine (rcups_l (HLq.out _ hw') hn _ _ _ _ HAG.out HR.out).mono ?_; rintro e w8 ⟨rfl, hb8⟩; exact ⟨rfl, hw'.trans (hb8.mono hw'.size)⟩)
                      | (go_at_call 66; refine (in_w _ _ _ _).mono ?_; rintro e w8 ⟨rfl, rfl⟩; rw [hx2]; exact ⟨rfl, hw'⟩))
             (try simp only [Act.put, List.setIfInBounds_toArray, List.set_cons_zero, List.set_cons_succ])))
        refine calm_nil ?_
        intro w12 hb12
        go_wp2
        go_ret
        exact ⟨⟨false, rfl, no_iff' (fun h => by have := h k hlt; rw [hx] at this; cases this)⟩, below_al (HBW.out.trans (hb12.mono HBW.out.size))⟩
      · have hx2 : fromB (q k).lo (q k).hi (cupsL s (t n) (q k).ag r) = true := hx
        go_wp2
        refine wp_region_calm (W := wr) (by kernel_rfl) (by kernel_rfl) (Below.refl _ _) ?_
        repeat (first
          | (refine calm_no (by rfl) ?_
             (try simp only [Act.put, List.setIfInBounds_toArray, List.set_cons_zero, List.set_cons_succ]))
          | (apply calm_yes
             focus rfl
             focus
               intro w' hw'
               obtain ⟨⟨x1, x2⟩, y0, y1, y2⟩ := FD.out w' hw'
               go_simp
               first
                 | done
                 | with_reducible rfl
                 | (first
                      | (go_at_call 24; refine (rcups_l (HLq.out _ hw') hn _ _ _ _ HAG.out HR.out).mono ?_; rintro e w8 ⟨rfl, hb8⟩; exact ⟨rfl, hw'.trans (hb8.mono hw'.size)⟩)
                      | (go_at_call 66; refine (in_w _ _ _ _).mono ?_; rintro e w8 ⟨rfl, rfl⟩; rw [hx2]; exact ⟨rfl, hw'⟩))
             (try simp only [Act.put, List.setIfInBounds_toArray, List.set_cons_zero, List.set_cons_succ])))
        refine calm_nil ?_
        intro w12 hb12
        go_wp2
        go_roundw
        case rel => exact ⟨k + 1, by omega, by go_num, HBW.out.trans (hb12.mono HBW.out.size), fun j hj => by
          rcases Nat.lt_succ_iff_lt_or_eq.1 hj with h | h
          · exact HALL.out j h
          · rw [h]; exact hx⟩
        case measure => simp [intOf]; omega
    · obtain rfl : k = ln := by omega
      go_wp2
      go_ret
      exact ⟨⟨true, rfl, fun _ => HALL.out, fun _ => rfl⟩, below_al HBW.out⟩
end Go.Kn

namespace Go.Kn
open Go Go.Proofs Go.RowKit

/-- three new blocks: a line, a result, a span that is being filled in -/
structure LS (w W : World) (x y X Y : Value) (a b : Int) : Prop where
  bel : Below w.heap.size w W
  x1 : W.cell? ⟨w.heap.size, 0, none⟩ = some x
  x2 : W.cell? ⟨w.heap.size, 1, none⟩ = some y
  r1 : W.cell? ⟨w.heap.size + 1, 0, none⟩ = some X
  r2 : W.cell? ⟨w.heap.size + 1, 1, none⟩ = some Y
  r3 : W.frozen? ⟨w.heap.size + 1, 0, none⟩ = false
  r4 : W.frozen? ⟨w.heap.size + 1, 1, none⟩ = false
  o1 : W.cell? ⟨w.heap.size + 1 + 1, 0, none⟩ = some (.int .i64 a)
  o2 : W.cell? ⟨w.heap.size + 1 + 1, 1, none⟩ = some (.int .i64 b)
  o3 : W.frozen? ⟨w.heap.size + 1 + 1, 0, none⟩ = false
  o4 : W.frozen? ⟨w.heap.size + 1 + 1, 1, none⟩ = false
  sz : w.heap.size + 1 + 1 < W.heap.size

theorem LS.below {w W W1 : World} {x y X Y : Value} {a b : Int} (h : LS w W x y X Y a b) (hb : Below W.heap.size W W1) : LS w W1 x y X Y a b := by
  obtain ⟨c, f⟩ := bcell hb
  have s := h.sz
  have l0 : w.heap.size < W.heap.size := by omega
  have l1 : w.heap.size + 1 < W.heap.size := by omega
  exact ⟨h.bel.trans (hb.mono h.bel.size), (c _ _ l0).trans h.x1, (c _ _ l0).trans h.x2, (c _ _ l1).trans h.r1, (c _ _ l1).trans h.r2, (f _ _ l1).trans h.r3, (f _ _ l1).trans h.r4, (c _ _ s).trans h.o1, (c _ _ s).trans h.o2, (f _ _ s).trans h.o3, (f _ _ s).trans h.o4, Nat.lt_of_lt_of_le s hb.size⟩

theorem LS.setA {w W : World} {x y X Y : Value} {a b : Int} (h : LS w W x y X Y a b) (v : Int) : LS w (W.setCell ⟨w.heap.size + 1 + 1, 0, none⟩ (.int .i64 v)) x y X Y v b := by
  have hne : ∀ (B o : Nat), (B ≠ w.heap.size + 1 + 1 ∨ o ≠ 0) → (W.setCell ⟨w.heap.size + 1 + 1, 0, none⟩ (.int .i64 v)).cell? ⟨B, o, none⟩ = W.cell? ⟨B, o, none⟩ := fun B o hh => World.cell?_setCell_other _ _ _ _ (by
    intro e
    have e1 := congrArg Addr.block e
    have e2 := congrArg Addr.off e
    simp only at e1 e2
    rcases hh with h1 | h1
    · exact h1 e1.symm
    · exact h1 e2.symm)
  exact ⟨h.bel.setCell (by simp only []; omega) _, (hne _ _ (by omega)).trans h.x1, (hne _ _ (by omega)).trans h.x2, (hne _ _ (by omega)).trans h.r1, (hne _ _ (by omega)).trans h.r2, by rw [World.frozen?_setCell]; exact h.r3, by rw [World.frozen?_setCell]; exact h.r4,
    World.cell?_setCell_same' _ _ _ (by rw [h.o1]; rfl), (hne _ _ (by omega)).trans h.o2, by rw [World.frozen?_setCell]; exact h.o3, by rw [World.frozen?_setCell]; exact h.o4, by rw [World.size_setCell]; exact h.sz⟩

theorem LS.setB {w W : World} {x y X Y : Value} {a b : Int} (h : LS w W x y X Y a b) (v : Int) : LS w (W.setCell ⟨w.heap.size + 1 + 1, 1, none⟩ (.int .i64 v)) x y X Y a v := by
  have hne : ∀ (B o : Nat), (B ≠ w.heap.size + 1 + 1 ∨ o ≠ 1) → (W.setCell ⟨w.heap.size + 1 + 1, 1, none⟩ (.int .i64 v)).cell? ⟨B, o, none⟩ = W.cell? ⟨B, o, none⟩ := fun B o hh => World.cell?_setCell_other _ _ _ _ (by
    intro e
    have e1 := congrArg Addr.block e
    have e2 := congrArg Addr.off e
    simp only at e1 e2
    rcases hh with h1 | h1
    · exact h1 e1.symm
    · exact h1 e2.symm)
  exact ⟨h.bel.setCell (by simp only []; omega) _, (hne _ _ (by omega)).trans h.x1, (hne _ _ (by omega)).trans h.x2, (hne _ _ (by omega)).trans h.r1, (hne _ _ (by omega)).trans h.r2, by rw [World.frozen?_setCell]; exact h.r3, by rw [World.frozen?_setCell]; exact h.r4,
    (hne _ _ (by omega)).trans h.o1, World.cell?_setCell_same' _ _ _ (by rw [h.o2]; rfl), by rw [World.frozen?_setCell]; exact h.o3, by rw [World.frozen?_setCell]; exact h.o4, by rw [World.size_setCell]; exact h.sz⟩

theorem LS.start (w : World) (x y X Y : Value) (a b : Int) (T T1 T2 : TypeId) : LS w (((w.alloc (.cells #[x, y] T)).alloc (.cells #[X, Y] T1)).alloc (.cells #[.int .i64 a, .int .i64 b] T2)) x y X Y a b := by
  obtain ⟨e0, e1, e2, e3, e4, e5, e6, e7, e8, e9, e10, e11⟩ := al3 w x y X Y (.int .i64 a) (.int .i64 b) T T1 T2
  exact ⟨e0, e1, e2, e3, e4, e5, e6, e7, e8, e9, e10, e11⟩

/-- the least and the greatest rate, of those from lo up to (not with) hi, that agree; -1: none -/
def LimeP (Ag : Int → Prop) (lo hi a b : Int) : Prop :=
  (a = -1 ∧ b = -1 ∧ ∀ r, lo ≤ r → r < hi → ¬ Ag r) ∨
  (lo ≤ a ∧ a ≤ b ∧ b < hi ∧ Ag a ∧ Ag b ∧ (∀ r, lo ≤ r → r < a → ¬ Ag r) ∧ (∀ r, b < r → r < hi → ¬ Ag r))

theorem LimeP.no {Ag : Int → Prop} {lo hi a b : Int} (h : LimeP Ag lo hi a b) (hn : ¬ Ag hi) : LimeP Ag lo (hi + 1) a b := by
  rcases h with ⟨h1, h2, h3⟩ | ⟨h1, h2, h3, h4, h5, h6, h7⟩
  · refine .inl ⟨h1, h2, fun r ha hb => ?_⟩
    by_cases e : r = hi
    · rw [e]; exact hn
    · exact h3 r ha (by omega)
  · refine .inr ⟨h1, h2, by omega, h4, h5, h6, fun r ha hb => ?_⟩
    by_cases e : r = hi
    · rw [e]; exact hn
    · exact h7 r ha (by omega)

theorem LimeP.first {Ag : Int → Prop} {lo hi a b : Int} (h : LimeP Ag lo hi a b) (h0 : 0 ≤ lo) (hl : lo ≤ hi) (ha : a < 0) (hy : Ag hi) : LimeP Ag lo (hi + 1) hi hi := by
  rcases h with ⟨h1, h2, h3⟩ | ⟨h1, h2, h3, h4, h5, h6, h7⟩
  · exact .inr ⟨hl, by omega, by omega, hy, hy, h3, fun r hr1 hr2 => by omega⟩
  · omega

theorem LimeP.next {Ag : Int → Prop} {lo hi a b : Int} (h : LimeP Ag lo hi a b) (ha : ¬ a < 0) (hy : Ag hi) : LimeP Ag lo (hi + 1) a hi := by
  rcases h with ⟨h1, h2, h3⟩ | ⟨h1, h2, h3, h4, h5, h6, h7⟩
  · omega
  · exact .inr ⟨h1, by omega, by omega, h4, hy, h6, fun r hr1 hr2 => by omega⟩
end Go.Kn

namespace Go.Kn
open Go Go.Proofs Go.RowKit

set_option maxRecDepth 100000 in
set_option maxHeartbeats 8000000 in
theorem refLime_w (A O C P ls cs lt ct n : Nat) (sa : Option Addr) (ln cn : Nat) (s : Nat → Int) (t : Nat → St5) (q : Nat → Nt3) (w : World) (H : Hid (LineAt w A O C P ls lt s t)) (hn : n < lt) (hln : ln ≤ 1000000) (HN : Hid (NtSl w sa ln q)) (HQ : Hid (NotesP ln q)) :
    Calls Tryz.prog 39 #[.agg #[.slice (some ⟨A, O, none⟩) ls cs, .slice (some ⟨C, P, none⟩) lt ct], .int .i64 (n : Int), .slice sa ln cn] w
      fun e w' => (∃ a b : Int, e = .returned (.agg #[.int .i64 a, .int .i64 b]) ∧ LimeP (AgP s (t n) ln q) (t n).lo ((t n).hi + 1) a b) ∧ Below w.heap.size w w' := by
  obtain ⟨b1, b2, b3, b4, b5⟩ := H.out.bds hn
  have q1 := H.out.lt2
  have CL : Hid (∀ w1, Below w.heap.size w w1 → LineAt w1 A O C P ls lt s t ∧ NtSl w1 sa ln q) := Lib.hid fun w1 h => ⟨H.out.below h, HN.out.below h⟩
  obtain ⟨d, hd⟩ : ∃ d : Nat, (t n).hi = (t n).lo + d := ⟨((t n).hi - (t n).lo).toNat, by omega⟩
  have n1 : (0 : Int) ≤ (n : Int) := by omega
  have n2 : (n : Int) < (lt : Int) := by omega
  have HS0 := Lib.hid (LS.start w (.slice (some ⟨A, O, none⟩) ls cs) (.slice (some ⟨C, P, none⟩) lt ct) (.int .i64 0) (.int .i64 0) (-1) (-1) 25 31 31)
  obtain ⟨_, _, _, c3, _⟩ := (CL.out _ HS0.out.bel).1.st n hn
  go_enter Tryz.func39, Tryz.ntmps39
  go_wp2
  clear c3
  go_loopw [8] (fun i wr => ∃ (k : Nat) (a b : Int), k ≤ d + 1 ∧ i = .int .i64 ((t n).lo + k) ∧ LS w wr (.slice (some ⟨A, O, none⟩) ls cs) (.slice (some ⟨C, P, none⟩) lt ct) (.int .i64 0) (.int .i64 0) a b ∧ LimeP (AgP s (t n) ln q) (t n).lo ((t n).lo + k) a b) (fun i _ => ((t n).hi + 1 - intOf i).toNat)
  case atStart => exact ⟨0, -1, -1, by omega, by go_num, HS0.out, .inl ⟨rfl, rfl, fun r h1 h2 => by omega⟩⟩
  case round =>
    obtain ⟨k, a, b, hk, rfl, hls, hlime⟩ := hrel
    have HBW := Lib.hid hls
    have HLM := Lib.hid hlime
    clear hls hlime
    obtain ⟨_, x1, x2, r1, r2, r3, r4, o1, o2, o3, o4, hz⟩ := HBW.out
    obtain ⟨_, _, _, _, c4⟩ := (CL.out _ HBW.out.bel).1.st n hn
    by_cases hle : (t n).lo + (k : Int) ≤ (t n).hi
    · have hk1 : (t n).lo + ((k + 1 : Nat) : Int) = (t n).lo + (k : Int) + 1 := by omega
      have HK1 := Lib.hid hk1
      clear hk1
      by_cases hA : AgP s (t n) ln q ((t n).lo + (k : Int))
      · have HA := Lib.hid hA
        clear hA
        by_cases ha : a < 0
        · clear r1 r2 r3 r4 o1 o2 o3 o4 hz
          go_wp2_with (go_at_call 40; refine (agrees_w _ _ _ _ _ _ _ _ _ _ _ _ s t q _ _ (Lib.hid (CL.out _ HBW.out.bel).1) hn hln (Lib.hid (CL.out _ HBW.out.bel).2) HQ ⟨by omega, by omega⟩).mono ?_; rintro e w1 ⟨⟨rb, rfl, hrb⟩, hb1⟩; obtain rfl : rb = true := hrb.2 HA.out; clear hrb; have HB1 := Lib.hid (HBW.out.below hb1); obtain ⟨_, x1, x2, r1, r2, r3, r4, o1, o2, o3, o4, hz⟩ := HB1.out)
          go_roundw
          case rel => exact ⟨k + 1, _, _, by omega, by go_num, (HB1.out.setA ((t n).lo + (k : Int))).setB ((t n).lo + (k : Int)), by rw [HK1.out]; exact HLM.out.first b4.1 (by omega) ha HA.out⟩
          case measure => simp [intOf]; omega
        · clear r1 r2 r3 r4 o1 o2 o3 o4 hz
          go_wp2_with (go_at_call 40; refine (agrees_w _ _ _ _ _ _ _ _ _ _ _ _ s t q _ _ (Lib.hid (CL.out _ HBW.out.bel).1) hn hln (Lib.hid (CL.out _ HBW.out.bel).2) HQ ⟨by omega, by omega⟩).mono ?_; rintro e w1 ⟨⟨rb, rfl, hrb⟩, hb1⟩; obtain rfl : rb = true := hrb.2 HA.out; clear hrb; have HB1 := Lib.hid (HBW.out.below hb1); obtain ⟨_, x1, x2, r1, r2, r3, r4, o1, o2, o3, o4, hz⟩ := HB1.out)
          go_roundw
          case rel => exact ⟨k + 1, _, _, by omega, by go_num, HB1.out.setB ((t n).lo + (k : Int)), by rw [HK1.out]; exact HLM.out.next (by omega) HA.out⟩
          case measure => simp [intOf]; omega
      · have HA := Lib.hid hA
        clear hA
        clear r1 r2 r3 r4 o1 o2 o3 o4 hz
        go_wp2_with (go_at_call 40; refine (agrees_w _ _ _ _ _ _ _ _ _ _ _ _ s t q _ _ (Lib.hid (CL.out _ HBW.out.bel).1) hn hln (Lib.hid (CL.out _ HBW.out.bel).2) HQ ⟨by omega, by omega⟩).mono ?_; rintro e w1 ⟨⟨rb, rfl, hrb⟩, hb1⟩; obtain rfl : rb = false := (by cases rb <;> first | rfl | exact (HA.out (hrb.1 rfl)).elim); clear hrb; have HB1 := Lib.hid (HBW.out.below hb1); obtain ⟨_, x1, x2, r1, r2, r3, r4, o1, o2, o3, o4, hz⟩ := HB1.out)
        go_roundw
        case rel => exact ⟨k + 1, _, _, by omega, by go_num, HB1.out, by rw [HK1.out]; exact HLM.out.no HA.out⟩
        case measure => simp [intOf]; omega
    · obtain rfl : k = d + 1 := by omega
      have hf : (t n).lo + ((d + 1 : Nat) : Int) = (t n).hi + 1 := by omega
      have HF := Lib.hid hf
      clear hf
      go_wp2
      refine bodyPost_ret (v := .agg #[.int .i64 a, .int .i64 b]) ?_ rfl ⟨⟨a, b, rfl, ?_⟩, ?_⟩
      · simp [results, Tryz.results39, go_sem, r1, r2]
      · rw [show (t n).lo + (d : Int) + 1 = (t n).lo + ((d + 1 : Nat) : Int) by omega]; exact HLM.out
      · exact (HBW.out.bel.setCell (by simp) _).setCell (by simp) _
end Go.Kn

namespace Go.Kn
open Go Go.Proofs Go.RowKit

theorem al_two (w : World) (b d f lo hi sp ag slo shi : Int) (w' : World)
    (hb : Below ((w.alloc (.cells #[.int .i64 b, .int .i64 d, .int .i64 f, .int .i64 lo, .int .i64 hi, .int .i64 sp, .int .i64 ag] 102)).alloc (.cells #[.int .i64 slo, .int .i64 shi] 31)).heap.size ((w.alloc (.cells #[.int .i64 b, .int .i64 d, .int .i64 f, .int .i64 lo, .int .i64 hi, .int .i64 sp, .int .i64 ag] 102)).alloc (.cells #[.int .i64 slo, .int .i64 shi] 31)) w') :
    Below w.heap.size w w' ∧ w'.cell? ⟨w.heap.size, 0, none⟩ = some (.int .i64 b) ∧ w'.cell? ⟨w.heap.size, 1, none⟩ = some (.int .i64 d) ∧ w'.cell? ⟨w.heap.size, 2, none⟩ = some (.int .i64 f) ∧ w'.cell? ⟨w.heap.size, 3, none⟩ = some (.int .i64 lo) ∧ w'.cell? ⟨w.heap.size, 4, none⟩ = some (.int .i64 hi) ∧ w'.cell? ⟨w.heap.size, 5, none⟩ = some (.int .i64 sp) ∧ w'.cell? ⟨w.heap.size, 6, none⟩ = some (.int .i64 ag) ∧
      w'.cell? ⟨w.heap.size + 1, 0, none⟩ = some (.int .i64 slo) ∧ w'.cell? ⟨w.heap.size + 1, 1, none⟩ = some (.int .i64 shi) := by
  obtain ⟨c, _⟩ := bcell hb
  have l0 : w.heap.size < ((w.alloc (.cells #[.int .i64 b, .int .i64 d, .int .i64 f, .int .i64 lo, .int .i64 hi, .int .i64 sp, .int .i64 ag] 102)).alloc (.cells #[.int .i64 slo, .int .i64 shi] 31)).heap.size := by simp only [World.size_alloc]; omega
  have l1 : w.heap.size + 1 < ((w.alloc (.cells #[.int .i64 b, .int .i64 d, .int .i64 f, .int .i64 lo, .int .i64 hi, .int .i64 sp, .int .i64 ag] 102)).alloc (.cells #[.int .i64 slo, .int .i64 shi] 31)).heap.size := by simp only [World.size_alloc]; omega
  have e0 : Below w.heap.size w ((w.alloc (.cells #[.int .i64 b, .int .i64 d, .int .i64 f, .int .i64 lo, .int .i64 hi, .int .i64 sp, .int .i64 ag] 102)).alloc (.cells #[.int .i64 slo, .int .i64 shi] 31)) := ((Below.refl _ _).alloc (Nat.le_refl _) _).alloc (by simp) _
  refine ⟨e0.trans (hb.mono e0.size), (c _ _ l0).trans ?_, (c _ _ l0).trans ?_, (c _ _ l0).trans ?_, (c _ _ l0).trans ?_, (c _ _ l0).trans ?_, (c _ _ l0).trans ?_, (c _ _ l0).trans ?_, (c _ _ l1).trans ?_, (c _ _ l1).trans ?_⟩ <;> simp

set_option maxRecDepth 100000 in
set_option maxHeartbeats 4000000 in
theorem aagrees_w (b d f lo hi sp ag r slo shi : Int) (w : World) (hb : 0 ≤ b ∧ b ≤ 100) (hd : 0 ≤ d ∧ d ≤ 100) (hs : 0 ≤ sp ∧ sp ≤ 1000) (ha : 0 ≤ ag ∧ ag ≤ 200) (hr : 0 ≤ r ∧ r ≤ 100) :
    Calls Tryz.prog 107 #[.agg #[.int .i64 b, .int .i64 d, .int .i64 f, .int .i64 lo, .int .i64 hi, .int .i64 sp, .int .i64 ag], .int .i64 r, .agg #[.int .i64 slo, .int .i64 shi]] w
      fun e w' => e = .returned (.bool (fromB slo shi (cupsV b d sp ag r))) ∧ Below w.heap.size w w' := by
  have BX := Lib.hid (al_two w b d f lo hi sp ag slo shi)
  obtain ⟨_, y0, y1, y2, y3, y4, y5, y6, z0, z1⟩ := BX.out _ (Below.refl _ _)
  obtain ⟨W, hW⟩ : ∃ W, W = (w.alloc (.cells #[.int .i64 b, .int .i64 d, .int .i64 f, .int .i64 lo, .int .i64 hi, .int .i64 sp, .int .i64 ag] 102)).alloc (.cells #[.int .i64 slo, .int .i64 shi] 31) := ⟨_, rfl⟩
  go_enter Tryz.func107, Tryz.ntmps107
  go_wp2
  rw [← hW] at BX y0 y1 y2 y3 y4 y5 y6 z0 z1 ⊢
  clear hW
  refine wp_region_calm (W := W) (by kernel_rfl) (by kernel_rfl) (Below.refl _ _) ?_
  repeat (first
    | (refine calm_no (by rfl) ?_
       (try simp only [Act.put, List.setIfInBounds_toArray, List.set_cons_zero, List.set_cons_succ]))
    | (apply calm_yes
       focus rfl
       focus
         intro w' hw'
         obtain ⟨_, y0, y1, y2, y3, y4, y5, y6, z0, z1⟩ := BX.out w' hw'
         go_simp
         first
           | done
           | with_reducible rfl
           | (first
                | (go_at_call 127; refine (cups_w _ _ _ _ _ _ _ _ _ hb hd hs ha hr).mono ?_; rintro e w8 ⟨rfl, hb8⟩; exact ⟨rfl, hw'.trans (hb8.mono hw'.size)⟩)
                | (go_at_call 89; refine (isFrom_w _ _ _ _).mono ?_; rintro e w8 ⟨rfl, rfl⟩; exact ⟨rfl, hw'⟩))
       (try simp only [Act.put, List.setIfInBounds_toArray, List.set_cons_zero, List.set_cons_succ])))
  refine calm_nil ?_
  intro w12 hb12
  
  go_wp2
  go_ret
  exact ⟨rfl, (BX.out _ hb12).1⟩
end Go.Kn

namespace Go.Kn
open Go Go.Proofs Go.RowKit

def agAll (s : Nat → Int) (x : St5) (ln : Nat) (q : Nat → Nt3) (r : Int) : Bool := (List.range ln).all fun i => agB s x r (q i)

theorem agAll_iff (s : Nat → Int) (x : St5) (ln : Nat) (q : Nat → Nt3) (r : Int) : agAll s x ln q r = true ↔ AgP s x ln q r := by
  unfold agAll AgP
  rw [List.all_eq_true]
  exact ⟨fun h i hi => h i (List.mem_range.2 hi), fun h i hi => h i (List.mem_range.1 hi)⟩

/-- of k rates, from lo on, those that agree, in order -/
def ratesL (b : Int → Bool) (lo : Int) : Nat → List Int
  | 0 => []
  | k + 1 => if b (lo + k) then ratesL b lo k ++ [lo + (k : Int)] else ratesL b lo k

theorem ratesL_t {b : Int → Bool} {lo : Int} {k : Nat} (h : b (lo + k) = true) : ratesL b lo (k + 1) = ratesL b lo k ++ [lo + (k : Int)] := by simp [ratesL, h]
theorem ratesL_f {b : Int → Bool} {lo : Int} {k : Nat} (h : b (lo + k) = false) : ratesL b lo (k + 1) = ratesL b lo k := by simp [ratesL, h]

theorem ratesL_len (b : Int → Bool) (lo : Int) (k : Nat) : (ratesL b lo k).length ≤ k := by
  induction k with
  | zero => simp [ratesL]
  | succ k ih => cases h : b (lo + k) <;> simp [ratesL, h] <;> omega

theorem ratesL_ge (b : Int → Bool) (lo : Int) : ∀ (k : Nat) (x : Int), x ∈ ratesL b lo k → lo ≤ x := by
  intro k
  induction k with
  | zero => intro x h; simp [ratesL] at h
  | succ k ih =>
    intro x h
    cases e : b (lo + k)
    · rw [ratesL_f e] at h; exact ih x h
    · rw [ratesL_t e, List.mem_append, List.mem_singleton] at h
      rcases h with h | h
      · exact ih x h
      · omega

/-- the first and the last of the list are the least and the greatest rate that agree -/
theorem ratesL_lime (b : Int → Bool) {lo : Int} (h0 : 0 ≤ lo) : ∀ k : Nat, LimeP (fun r => b r = true) lo (lo + k) ((ratesL b lo k).getD 0 (-1)) ((ratesL b lo k).getD ((ratesL b lo k).length - 1) (-1)) := by
  intro k
  induction k with
  | zero => exact .inl ⟨rfl, rfl, fun r h1 h2 => by omega⟩
  | succ k ih =>
    have hk : lo + ((k + 1 : Nat) : Int) = lo + (k : Int) + 1 := by omega
    rw [hk]
    cases e : b (lo + k)
    · rw [ratesL_f e]; exact ih.no (by rw [e]; decide)
    · rw [ratesL_t e]
      have hlast : (ratesL b lo k ++ [lo + (k : Int)]).getD ((ratesL b lo k ++ [lo + (k : Int)]).length - 1) (-1) = lo + k := by
        simp [List.getD]
      rw [hlast]
      cases hl : ratesL b lo k with
      | nil =>
        rw [hl] at ih
        exact ih.first h0 (by omega) (by simp) e
      | cons x l =>
        rw [hl] at ih
        have hx := ratesL_ge b lo k x (by rw [hl]; simp)
        exact ih.next (by simp; omega) e
end Go.Kn

namespace Go.Kn
open Go Go.Proofs Go.RowKit

theorem LS.keep {w W W1 : World} {x y X Y : Value} {a b : Int} (h : LS w W x y X Y a b) (hb : Below (w.heap.size + 1 + 1 + 1) W W1) : LS w W1 x y X Y a b := by
  have c : ∀ B o, B < w.heap.size + 1 + 1 + 1 → W1.cell? ⟨B, o, none⟩ = W.cell? ⟨B, o, none⟩ := fun B o hB => hb.cell (p := ⟨B, o, none⟩) hB
  have f : ∀ B o, B < w.heap.size + 1 + 1 + 1 → W1.frozen? ⟨B, o, none⟩ = W.frozen? ⟨B, o, none⟩ := fun B o hB => hb.frozen (p := ⟨B, o, none⟩) hB
  exact ⟨h.bel.trans (hb.mono (by omega)), (c _ _ (by omega)).trans h.x1, (c _ _ (by omega)).trans h.x2, (c _ _ (by omega)).trans h.r1, (c _ _ (by omega)).trans h.r2, (f _ _ (by omega)).trans h.r3, (f _ _ (by omega)).trans h.r4, (c _ _ (by omega)).trans h.o1, (c _ _ (by omega)).trans h.o2, (f _ _ (by omega)).trans h.o3, (f _ _ (by omega)).trans h.o4, Nat.lt_of_lt_of_le h.sz hb.size⟩

theorem wrp_small2 (p : Nat) (h : p ≤ 1000) : IntKind.i64.wrap (p : Int) = (p : Int) := by
  rw [IntKind.wrap_i64]; omega

set_option maxRecDepth 100000 in
set_option maxHeartbeats 16000000 in
theorem ratesOf_t (A O C P ls cs lt ct n : Nat) (sa : Option Addr) (ln cn : Nat) (s : Nat → Int) (t : Nat → St5) (q : Nat → Nt3) (d : Nat) (w : World) (H : Hid (LineAt w A O C P ls lt s t)) (hn : n < lt) (hln : ln ≤ 1000000) (HN : Hid (NtSl w sa ln q)) (HQ : Hid (NotesP ln q)) (hd : (t n).hi = (t n).lo + d)
    (hne : Hid (ratesL (agAll s (t n) ln q) (t n).lo (d + 1) ≠ [])) :
    Calls Tryz.prog 78 #[.agg #[.slice (some ⟨A, O, none⟩) ls cs, .slice (some ⟨C, P, none⟩) lt ct], .int .i64 (n : Int), .slice sa ln cn] w
      fun e w' => (∃ a b : Int, e = .returned (.agg #[.int .i64 a, .int .i64 b]) ∧ LimeP (AgP s (t n) ln q) (t n).lo ((t n).hi + 1) a b) ∧ Below w.heap.size w w' := by
  obtain ⟨b1, b2, b3, b4, b5⟩ := H.out.bds hn
  have TB1 : Hid (0 ≤ (t n).b ∧ (t n).b ≤ 100) := Lib.hid ⟨by omega, by omega⟩
  have TB2 : Hid (0 ≤ (t n).d ∧ (t n).d ≤ 100) := Lib.hid ⟨by omega, by omega⟩
  have TSP : Hid (0 ≤ s (t n).f.toNat ∧ s (t n).f.toNat ≤ 1000) := Lib.hid ⟨by omega, by omega⟩
  have q1 := H.out.lt2
  have CL : Hid (∀ w1, Below w.heap.size w w1 → LineAt w1 A O C P ls lt s t ∧ NtSl w1 sa ln q) := Lib.hid fun w1 h => ⟨H.out.below h, HN.out.below h⟩
  have n1 : (0 : Int) ≤ (n : Int) := by omega
  have n2 : (n : Int) < (lt : Int) := by omega
  obtain ⟨i0, hi, hz0, hz1, hz22⟩ := info_parts info3'
  have HS0 := Lib.hid (LS.start w (.slice (some ⟨A, O, none⟩) ls cs) (.slice (some ⟨C, P, none⟩) lt ct) (.int .i64 0) (.int .i64 0) (t n).lo (t n).hi 25 31 31)
  obtain ⟨_, _, _, c3, c4⟩ := (CL.out _ HS0.out.bel).1.st n hn
  obtain ⟨_, _, _, c5, c6⟩ := ((H.out.alloc (.cells #[.slice (some ⟨A, O, none⟩) ls cs, .slice (some ⟨C, P, none⟩) lt ct] 25)).alloc (.cells #[.int .i64 0, .int .i64 0] 31)).st n hn
  have HDD := Lib.hid hd
  clear hd
  go_enter Tryz.func78, Tryz.ntmps78
  go_wp2
  repeat (go_step3; go_wp2)
  clear c3 c4 c5 c6
  go_loopw [8, 9] (fun v ii wr => ∃ (k : Nat), k ≤ d + 1 ∧ ii = .int .i64 ((t n).lo + k) ∧ wr.ownsRow (w.heap.size + 1 + 1 + 1) 3 1 v (ratesL (agAll s (t n) ln q) (t n).lo k).length ((ratesL (agAll s (t n) ln q) (t n).lo k).map (Value.int .i64)) ∧ LS w wr (.slice (some ⟨A, O, none⟩) ls cs) (.slice (some ⟨C, P, none⟩) lt ct) (.int .i64 0) (.int .i64 0) (t n).lo (t n).hi) (fun _ i _ => ((t n).hi + 1 - intOf i).toNat)
  case atStart => exact ⟨0, by omega, by go_num, World.ownsRow_nil _ _ _ _, HS0.out⟩
  case round =>
    obtain ⟨k, hk, rfl, hown, hls⟩ := hrel
    have HLS := Lib.hid hls
    obtain ⟨va, vc, rfl, -, -⟩ := intSl_of_owns hown
    have HOWN := Lib.hid hown
    clear hls hown
    obtain ⟨_, x1, x2, _, _, _, _, o1, o2, _, _, _⟩ := HLS.out
    by_cases hle : (t n).lo + (k : Int) ≤ (t n).hi
    · have HRR : Hid (0 ≤ (t n).lo + (k : Int) ∧ (t n).lo + (k : Int) ≤ 100) := Lib.hid ⟨by omega, by omega⟩
      go_wp2
      clear x1 x2 o1 o2
      obtain ⟨wo, rfl⟩ : ∃ wo, wo = wr := ⟨wr, rfl⟩
      go_loopw [28] (fun jj w2 => ∃ (j : Nat), j ≤ ln ∧ jj = .int .i64 j ∧ Below wo.heap.size wo w2 ∧ ∀ i, i < j → agB s (t n) ((t n).lo + (k : Int)) (q i) = true) (fun j _ => ln - (intOf j).toNat)
      case atStart => exact ⟨0, Nat.zero_le _, rfl, Below.refl _ _, fun j hj => absurd hj (by omega)⟩
      case round =>
        obtain ⟨j, hj, rfl, hb2, hall⟩ := hrel
        have HALL := Lib.hid hall
        have HB2 := Lib.hid hb2
        have HLS2 := Lib.hid (HLS.out.below hb2)
        clear hall hb2
        by_cases hlt : j < ln
        · obtain ⟨D, F, rfl, hD, hc⟩ := ((CL.out _ HLS2.out.bel).2).resolve_left (by omega)
          obtain ⟨c0, c1, c2⟩ := hc j hlt
          clear hc
          have hag := HQ.out.ok j hlt
          have hag2 : 0 ≤ (q j).ag ∧ (q j).ag ≤ 200 := by simp only [ntB, fromB, Bool.and_eq_true, decide_eq_true_eq] at hag; exact hag.1
          have HAG := Lib.hid hag2
          clear hag hag2
          have m1 : (0 : Int) ≤ (j : Int) := by omega
          have m2 : (j : Int) < (ln : Int) := by omega
          cases hx : agB s (t n) ((t n).lo + (k : Int)) (q j)
          · have hx2 : fromB (q j).lo (q j).hi (cupsV (t n).b (t n).d (s (t n).f.toNat) (q j).ag ((t n).lo + (k : Int))) = false := hx
            obtain ⟨W, hW⟩ : ∃ W, W = (wr.alloc (.cells #[.int .i64 (q j).ag, .int .i64 (q j).lo, .int .i64 (q j).hi] 65)) := ⟨_, rfl⟩
            have hBW : Below wr.heap.size wr W := by rw [hW]; exact (Below.refl _ _).alloc (Nat.le_refl _) _
            have hc9 : W.cell? ⟨wr.heap.size, 0, none⟩ = some (.int .i64 (q j).ag) ∧ W.cell? ⟨wr.heap.size, 1, none⟩ = some (.int .i64 (q j).lo) ∧ W.cell? ⟨wr.heap.size, 2, none⟩ = some (.int .i64 (q j).hi) := by rw [hW]; simp
            have hwW : wr.heap.size < W.heap.size := by rw [hW]; simp
            have FD : Hid (∀ w', Below W.heap.size W w' → (w'.cell? ⟨w.heap.size, 0, none⟩ = some (.slice (some ⟨A, O, none⟩) ls cs) ∧ w'.cell? ⟨w.heap.size, 1, none⟩ = some (.slice (some ⟨C, P, none⟩) lt ct)) ∧ w'.cell? ⟨wr.heap.size, 0, none⟩ = some (.int .i64 (q j).ag) ∧ w'.cell? ⟨wr.heap.size, 1, none⟩ = some (.int .i64 (q j).lo) ∧ w'.cell? ⟨wr.heap.size, 2, none⟩ = some (.int .i64 (q j).hi)) := Lib.hid fun w' h => by
              have h1 := HLS2.out.below (hBW.trans (h.mono hBW.size))
              obtain ⟨c, _⟩ := bcell h
              exact ⟨⟨h1.x1, h1.x2⟩, (c _ _ hwW).trans hc9.1, (c _ _ hwW).trans hc9.2.1, (c _ _ hwW).trans hc9.2.2⟩
            have HLq : Hid (∀ w', Below W.heap.size W w' → LineAt w' A O C P ls lt s t ∧ Below wr.heap.size wr w') := Lib.hid fun w' h => ⟨(CL.out _ (HLS2.out.below (hBW.trans (h.mono hBW.size))).bel).1, hBW.trans (h.mono hBW.size)⟩
            obtain ⟨_, x1, x2, _, _, _, _, _, _, _, _, _⟩ := HLS2.out
            go_wp2
            rw [← hW]
            obtain ⟨⟨x1, x2⟩, y0, y1, y2⟩ := FD.out _ (Below.refl _ _)
            clear hW hc9
            refine wp_region_calm (W := W) (by kernel_rfl) (by kernel_rfl) (Below.refl _ _) ?_
            repeat (first
              | (refine calm_no (by rfl) ?_
                 (try simp only [Act.put, List.setIfInBounds_toArray, List.set_cons_zero, List.set_cons_succ]))
              | (apply calm_yes
                 focus rfl
                 focus
                   intro w' hw'
                   obtain ⟨⟨x1, x2⟩, y0, y1, y2⟩ := FD.out w' hw'
                   go_simp
                   first
                     | done
                     | with_reducible rfl
                     | (first
                          | (go_at_call 64; refine (at_l (HLq.out _ hw').1 hn _ _ _).mono ?_; rintro e w8 ⟨rfl, hb8⟩; exact ⟨rfl, hw'.trans (hb8.mono hw'.size)⟩)
                          | (go_at_call 107; refine (aagrees_w _ _ _ _ _ _ _ _ _ _ _ TB1.out TB2.out TSP.out HAG.out HRR.out).mono ?_; rintro e w8 ⟨rfl, hb8⟩; rw [hx2]; exact ⟨rfl, hw'.trans (hb8.mono hw'.size)⟩))
                 (try simp only [Act.put, List.setIfInBounds_toArray, List.set_cons_zero, List.set_cons_succ])))
            refine calm_nil ?_
            intro w12 hb12
            
            go_wp2
            have hbf : agAll s (t n) ln q ((t n).lo + (k : Int)) = false := by
              cases e : agAll s (t n) ln q ((t n).lo + (k : Int))
              · rfl
              · have := (agAll_iff _ _ _ _ _).1 e j hlt
                rw [hx] at this; cases this
            go_roundw
            case rel => exact ⟨k + 1, by have := HDD.out; omega, by go_num, by rw [ratesL_f hbf]; exact owns_below HOWN.out (HB2.out.trans ((HLq.out _ hb12).2.mono HB2.out.size)), HLS2.out.below (HLq.out _ hb12).2⟩
            case measure => simp [intOf]; omega
          · have hx2 : fromB (q j).lo (q j).hi (cupsV (t n).b (t n).d (s (t n).f.toNat) (q j).ag ((t n).lo + (k : Int))) = true := hx
            obtain ⟨W, hW⟩ : ∃ W, W = (wr.alloc (.cells #[.int .i64 (q j).ag, .int .i64 (q j).lo, .int .i64 (q j).hi] 65)) := ⟨_, rfl⟩
            have hBW : Below wr.heap.size wr W := by rw [hW]; exact (Below.refl _ _).alloc (Nat.le_refl _) _
            have hc9 : W.cell? ⟨wr.heap.size, 0, none⟩ = some (.int .i64 (q j).ag) ∧ W.cell? ⟨wr.heap.size, 1, none⟩ = some (.int .i64 (q j).lo) ∧ W.cell? ⟨wr.heap.size, 2, none⟩ = some (.int .i64 (q j).hi) := by rw [hW]; simp
            have hwW : wr.heap.size < W.heap.size := by rw [hW]; simp
            have FD : Hid (∀ w', Below W.heap.size W w' → (w'.cell? ⟨w.heap.size, 0, none⟩ = some (.slice (some ⟨A, O, none⟩) ls cs) ∧ w'.cell? ⟨w.heap.size, 1, none⟩ = some (.slice (some ⟨C, P, none⟩) lt ct)) ∧ w'.cell? ⟨wr.heap.size, 0, none⟩ = some (.int .i64 (q j).ag) ∧ w'.cell? ⟨wr.heap.size, 1, none⟩ = some (.int .i64 (q j).lo) ∧ w'.cell? ⟨wr.heap.size, 2, none⟩ = some (.int .i64 (q j).hi)) := Lib.hid fun w' h => by
              have h1 := HLS2.out.below (hBW.trans (h.mono hBW.size))
              obtain ⟨c, _⟩ := bcell h
              exact ⟨⟨h1.x1, h1.x2⟩, (c _ _ hwW).trans hc9.1, (c _ _ hwW).trans hc9.2.1, (c _ _ hwW).trans hc9.2.2⟩
            have HLq : Hid (∀ w', Below W.heap.size W w' → LineAt w' A O C P ls lt s t ∧ Below wr.heap.size wr w') := Lib.hid fun w' h => ⟨(CL.out _ (HLS2.out.below (hBW.trans (h.mono hBW.size))).bel).1, hBW.trans (h.mono hBW.size)⟩
            obtain ⟨_, x1, x2, _, _, _, _, _, _, _, _, _⟩ := HLS2.out
            go_wp2
            rw [← hW]
            obtain ⟨⟨x1, x2⟩, y0, y1, y2⟩ := FD.out _ (Below.refl _ _)
            clear hW hc9
            refine wp_region_calm (W := W) (by kernel_rfl) (by kernel_rfl) (Below.refl _ _) ?_
            repeat (first
              | (refine calm_no (by rfl) ?_
                 (try simp only [Act.put, List.setIfInBounds_toArray, List.set_cons_zero, List.set_cons_succ]))
              | (apply calm_yes
                 focus rfl
                 focus
                   intro w' hw'
                   obtain ⟨⟨x1, x2⟩, y0, y1, y2⟩ := FD.out w' hw'
                   go_simp
                   first
                     | done
                     | with_reducible rfl
                     | (first
                          | (go_at_call 64; refine (at_l (HLq.out _ hw').1 hn _ _ _).mono ?_; rintro e w8 ⟨rfl, hb8⟩; exact ⟨rfl, hw'.trans (hb8.mono hw'.size)⟩)
                          | (go_at_call 107; refine (aagrees_w _ _ _ _ _ _ _ _ _ _ _ TB1.out TB2.out TSP.out HAG.out HRR.out).mono ?_; rintro e w8 ⟨rfl, hb8⟩; rw [hx2]; exact ⟨rfl, hw'.trans (hb8.mono hw'.size)⟩))
                 (try simp only [Act.put, List.setIfInBounds_toArray, List.set_cons_zero, List.set_cons_succ])))
            refine calm_nil ?_
            intro w12 hb12
            
            go_wp2
            go_roundw
            case rel => exact ⟨j + 1, by omega, by go_num, HB2.out.trans ((HLq.out _ hb12).2.mono HB2.out.size), fun i hi => by
              rcases Nat.lt_succ_iff_lt_or_eq.1 hi with h | h
              · exact HALL.out i h
              · rw [h]; exact hx⟩
            case measure => simp [intOf]; omega
        · obtain rfl : j = ln := by omega
          have hbt : agAll s (t n) j q ((t n).lo + (k : Int)) = true := (agAll_iff _ _ _ _ _).2 HALL.out
          have HO := Lib.hid (owns_below HOWN.out HB2.out)
          have hzz := HLS2.out.sz
          have hll := ratesL_len (agAll s (t n) j q) (t n).lo k
          have hkk : k ≤ 100 := by have := HDD.out; omega
          obtain ⟨m0, hm0⟩ : ∃ m0, m0 = (ratesL (agAll s (t n) j q) (t n).lo k).length := ⟨_, rfl⟩
          rw [← hm0] at HO hll ⊢
          have HM0 := Lib.hid hm0
          clear hm0
          go_wp2_with (at_builtin; refine wpList_append_own _ rfl _ _ 22 rfl (w.heap.size + 1 + 1 + 1) 3 i0 (.int .i64 0) 1 8 Tryz.underlying22 hi hz0 hz1 hz22 rfl (by decide) _ m0 _ rfl (HO.out.alloc _) ⟨_, 0, none⟩ 1 1 [.int .i64 ((t n).lo + (k : Int))] rfl rfl (lies_any (by first | exact al_top rfl _ _ | exact al_top (by simp) _ _)) (by intro u hu; simp at hu; subst hu; rfl) (by unfold maxLen; omega) (by omega) (by simp; omega) ?_; intro v' w7 hown7 hgrow7 _)
          go_roundw
          case rel => exact ⟨k + 1, by have := HDD.out; omega, by go_num, by rw [ratesL_t hbt, List.length_append, List.map_append, ← HM0.out]; exact hown7, HLS2.out.keep (((Below.refl _ _).alloc (by omega) _).grown hgrow7 (by simp only [World.size_alloc]; omega) (fun r e => by have h9 := own_ge HO.out r e; exact h9))⟩
          case measure => simp [intOf]; omega
    · obtain rfl : k = d + 1 := by have := HDD.out; omega
      obtain ⟨_, _, he9, -, hI⟩ := intSl_of_owns HOWN.out
      cases he9
      have hlime := ratesL_lime (agAll s (t n) ln q) b4.1 (d + 1)
      have hll := ratesL_len (agAll s (t n) ln q) (t n).lo (d + 1)
      obtain ⟨R, hR⟩ : ∃ R, R = ratesL (agAll s (t n) ln q) (t n).lo (d + 1) := ⟨_, rfl⟩
      rw [← hR] at hI hlime hll ⊢
      have hn0 := hne.out
      rw [← hR] at hn0
      clear hR
      obtain ⟨m, hm⟩ : ∃ m, m = R.length := ⟨_, rfl⟩
      have hm1 : 1 ≤ m := by
        cases R with
        | nil => exact (hn0 rfl).elim
        | cons x l => simp at hm; omega
      obtain ⟨p, hp⟩ : ∃ p, m = p + 1 := ⟨m - 1, by omega⟩
      have e0 : R.getD 0 (-1) = R.getD 0 0 := by
        have h9 : 0 < R.length := by omega
        simp [List.getD, List.getElem?_eq_getElem h9]
      have e1 : R.getD (R.length - 1) (-1) = R.getD p 0 := by
        have h9 : p < R.length := by omega
        rw [show R.length - 1 = p by omega]
        simp [List.getD, List.getElem?_eq_getElem h9]
      rw [e0, e1] at hlime
      have hd9 : d ≤ 100 := by have := HDD.out; omega
      rw [← hm] at hI hll ⊢
      obtain ⟨G, Q, rfl, hG, hc⟩ := hI.resolve_left (by omega)
      have z0 : wr.cell? ⟨G, Q, none⟩ = some (.int .i64 (R.getD 0 0)) := hc 0 (by omega)
      have z1 : wr.cell? ⟨G, Q + p, none⟩ = some (.int .i64 (R.getD p 0)) := hc p (by omega)
      generalize R.getD 0 0 = a at z0 hlime
      generalize R.getD p 0 = b at z1 hlime
      have HLI := Lib.hid hlime
      clear hc hlime e0 e1 hn0
      have hmz : ((m : Int) == 0) = false := by simp; omega
      have hsub : (m : Int) - 1 = (p : Int) := by omega
      have k1 : (0 : Int) < (m : Int) := by omega
      have k2 : 0 < m := by omega
      have k3 : (0 : Int) ≤ (p : Int) := by omega
      have k4 : (p : Int) < (m : Int) := by omega
      have hwr := wrp_small2 p (by omega)
      clear hm hp hm1 hll
      obtain ⟨_, x1, x2, r1, r2, r3, r4, o1, o2, _, _, hz⟩ := HLS.out
      have hG2 : w.heap.size + 1 + 1 + 1 ≤ G := own_ge HOWN.out G rfl
      have g1 : G ≠ w.heap.size + 1 := by omega
      have g2 : w.heap.size + 1 ≠ G := by omega
      go_wp2
      go_region_held3 (fun w' => w'.cell? ⟨G, Q, none⟩ = some (.int .i64 a) ∧ w'.cell? ⟨G, Q + p, none⟩ = some (.int .i64 b)) (first | exact ⟨z0, z1⟩ | go_keep | (simp [g1, g2, z0, z1])) (fail)
      all_goals go_wp2
      have hP : (fun r => agAll s (t n) ln q r = true) = AgP s (t n) ln q := funext fun r => propext (agAll_iff _ _ _ _ _)
      have hl9 := HLI.out
      rw [hP, show (t n).lo + ((d + 1 : Nat) : Int) = (t n).hi + 1 by have := HDD.out; omega] at hl9
      all_goals
        rw [Exit.noGoto_ret]
        refine bodyPost_ret (v := .agg #[.int .i64 a, .int .i64 b]) ?_ rfl ⟨⟨a, b, rfl, hl9⟩, ?_⟩
        · simp [results, Tryz.results78, go_sem, r1, r2]
        · first
            | exact ((below_drew HLS.out.bel).setCell (by simp) _).setCell (by simp) _
            | exact (HLS.out.bel.setCell (by simp) _).setCell (by simp) _
            | exact ((((below_drew HLS.out.bel).setCell (by simp) _).setCell (by simp) _).setCell (by simp) _).setCell (by simp) _
end Go.Kn

namespace Go.Kn
open Go Go.Proofs Go.RowKit Go.ChangeShapes Go.WideShapes Go.Deep
theorem cells59 : Tryz.prog.cellsOf 59 = 1 := by kernel_rfl
theorem cells65 : Tryz.prog.cellsOf 65 = 3 := by kernel_rfl
theorem list3 {α : Type} {l : List α} (h : l.length = 3) : ∃ a b c, l = [a, b, c] := by
  match l, h with
  | [a, b, c], _ => exact ⟨a, b, c, rfl⟩
section
variable {H : Type} {enc : TypeId × Value → H} {w : World} {base : Nat} {spare : Nat → Bool} {held : Bool}
theorem nt_cells {n : Nat} {cs : List Value} {y : DataW H × List MemPlace} (h : DataW.trod enc Tryz.prog w base spare held n 65 cs = some y) :
    ∃ a b c : Int, cs = [.int .i64 a, .int .i64 b, .int .i64 c] := by
  obtain ⟨xs, n', _, _, hlen, hxl, hf⟩ := DataW.trod_struct Tryz.underlying65 h
  rw [cells65] at hlen
  obtain ⟨c0, c1, c2, rfl⟩ := list3 hlen
  obtain ⟨x0, x1, rfl⟩ := list2 hxl
  have f0 : DataW.trod enc Tryz.prog w base spare held n' 3 (([c0, c1, c2].drop 0).take (Tryz.prog.cellsOf 3)) = some x0 := hf 0 _ rfl
  rw [cells3] at f0
  have f3 : DataW.trod enc Tryz.prog w base spare held n' 31 (([c0, c1, c2].drop 1).take (Tryz.prog.cellsOf 31)) = some x1 := hf 1 _ rfl
  rw [cells31] at f3
  obtain ⟨k0, e0, _⟩ := DataW.trod_int Tryz.underlying3 f0
  obtain ⟨zs, n2, _, _, hlen2, hzl, hg⟩ := DataW.trod_struct Tryz.underlying31 f3
  obtain ⟨z0, z1, rfl⟩ := list2 hzl
  have g0 : DataW.trod enc Tryz.prog w base spare held n2 3 (((([c0, c1, c2].drop 1).take 2).drop 0).take (Tryz.prog.cellsOf 3)) = some z0 := hg 0 _ rfl
  rw [cells3] at g0
  have g1 : DataW.trod enc Tryz.prog w base spare held n2 3 (((([c0, c1, c2].drop 1).take 2).drop 1).take (Tryz.prog.cellsOf 3)) = some z1 := hg 1 _ rfl
  rw [cells3] at g1
  obtain ⟨k3, e3, _⟩ := DataW.trod_int Tryz.underlying3 g0
  obtain ⟨k4, e4, _⟩ := DataW.trod_int Tryz.underlying3 g1
  simp at e0 e3 e4
  exact ⟨k0, k3, k4, by rw [e0, e3, e4]⟩

theorem nt_open {n : Nat} {v : Value} {y : DataW H × List MemPlace} (h : DataW.trod enc Tryz.prog w base spare held n 59 [v] = some y) :
    ∃ (ta : Option Addr) (lt ct : Nat) (t : Nat → Nt3), v = .slice ta lt ct ∧ lt ≤ maxLen ∧ NtSl w ta lt t := by
  rcases open_slice Tryz.underlying59 h with ⟨h1, _⟩ | ⟨a, len, cap, m, n', D, Pl, h1, _, hl, hm, hmm, _, hi⟩
  · exact ⟨none, 0, 0, fun _ => ⟨0, 0, 0⟩, by simpa using h1, by decide, .inl rfl⟩
  · have hml : len ≤ m := by rw [hmm]; split <;> omega
    have key : ∀ i, i < len → ∃ x : Nt3, ∀ j c, [x.ag, x.lo, x.hi][j]? = some c → w.cell? (a.add (i * 3 + j)) = some (.int .i64 c) := by
      intro i hil
      obtain ⟨cs', hc, ht⟩ := hi i (by omega)
      rw [cells65] at hc
      obtain ⟨_, hcl, hat⟩ := World.cells?_some hc
      obtain ⟨k0, k1, k2, rfl⟩ := nt_cells ht
      refine ⟨⟨k0, k1, k2⟩, fun j c hj => ?_⟩
      have hj5 : j < 3 := by
        have := (List.getElem?_eq_some_iff.1 hj).1
        simpa using this
      have h1 := hat j hj5
      rw [← Go.Deep.add_add] at *
      rw [h1]
      match j, hj5, hj with
      | 0, _, hj => simpa using hj
      | 1, _, hj => simpa using hj
      | 2, _, hj => simpa using hj
    by_cases h0 : len = 0
    · exact ⟨some a, len, cap, fun _ => ⟨0, 0, 0⟩, by simpa using h1, by omega, .inl h0⟩
    · obtain ⟨x0, hx0⟩ := key 0 (by omega)
      have hc0 := hx0 0 _ rfl
      have ea : a.add (0 * 3 + 0) = a := rfl
      rw [ea] at hc0
      have e := addr_mk hc0
      refine ⟨some a, len, cap, fun i => if h : i < len then Classical.choose (key i h) else ⟨0, 0, 0⟩, by simpa using h1, by omega, .inr ⟨a.block, a.off, by rw [← e], World.block_lt_of_cell? w a hc0, fun i hil => ?_⟩⟩
      simp only [hil, dif_pos]
      have hk := Classical.choose_spec (key i hil)
      have q : ∀ j, a.add (i * 3 + j) = ⟨a.block, a.off + (i * 3 + j), none⟩ := fun j => (congrArg (fun x => Addr.add x (i * 3 + j)) e).trans (add_mk _ _ _)
      have c0 := hk 0 _ rfl
      have c1 := hk 1 _ rfl
      have c2 := hk 2 _ rfl
      rw [q] at c0 c1 c2
      exact ⟨c0, c1, c2⟩
end
end Go.Kn

namespace Go.Kn
open Go Go.Proofs Go.RowKit

set_option maxRecDepth 100000 in
set_option maxHeartbeats 16000000 in
theorem ratesOf_f (A O C P ls cs lt ct n : Nat) (sa : Option Addr) (ln cn : Nat) (s : Nat → Int) (t : Nat → St5) (q : Nat → Nt3) (d : Nat) (w : World) (H : Hid (LineAt w A O C P ls lt s t)) (hn : n < lt) (hln : ln ≤ 1000000) (HN : Hid (NtSl w sa ln q)) (HQ : Hid (NotesP ln q)) (hd : (t n).hi = (t n).lo + d)
    (hne : Hid (ratesL (agAll s (t n) ln q) (t n).lo (d + 1) = [])) :
    Calls Tryz.prog 78 #[.agg #[.slice (some ⟨A, O, none⟩) ls cs, .slice (some ⟨C, P, none⟩) lt ct], .int .i64 (n : Int), .slice sa ln cn] w
      fun e w' => e = .panicked [{ v := .iface 138 (.agg #[]), recovered := false }] ∧ Below w.heap.size w w' := by
  obtain ⟨b1, b2, b3, b4, b5⟩ := H.out.bds hn
  have TB1 : Hid (0 ≤ (t n).b ∧ (t n).b ≤ 100) := Lib.hid ⟨by omega, by omega⟩
  have TB2 : Hid (0 ≤ (t n).d ∧ (t n).d ≤ 100) := Lib.hid ⟨by omega, by omega⟩
  have TSP : Hid (0 ≤ s (t n).f.toNat ∧ s (t n).f.toNat ≤ 1000) := Lib.hid ⟨by omega, by omega⟩
  have q1 := H.out.lt2
  have CL : Hid (∀ w1, Below w.heap.size w w1 → LineAt w1 A O C P ls lt s t ∧ NtSl w1 sa ln q) := Lib.hid fun w1 h => ⟨H.out.below h, HN.out.below h⟩
  have n1 : (0 : Int) ≤ (n : Int) := by omega
  have n2 : (n : Int) < (lt : Int) := by omega
  obtain ⟨i0, hi, hz0, hz1, hz22⟩ := info_parts info3'
  have HS0 := Lib.hid (LS.start w (.slice (some ⟨A, O, none⟩) ls cs) (.slice (some ⟨C, P, none⟩) lt ct) (.int .i64 0) (.int .i64 0) (t n).lo (t n).hi 25 31 31)
  obtain ⟨_, _, _, c3, c4⟩ := (CL.out _ HS0.out.bel).1.st n hn
  obtain ⟨_, _, _, c5, c6⟩ := ((H.out.alloc (.cells #[.slice (some ⟨A, O, none⟩) ls cs, .slice (some ⟨C, P, none⟩) lt ct] 25)).alloc (.cells #[.int .i64 0, .int .i64 0] 31)).st n hn
  have HDD := Lib.hid hd
  clear hd
  go_enter Tryz.func78, Tryz.ntmps78
  go_wp2
  repeat (go_step3; go_wp2)
  clear c3 c4 c5 c6
  go_loopw [8, 9] (fun v ii wr => ∃ (k : Nat), k ≤ d + 1 ∧ ii = .int .i64 ((t n).lo + k) ∧ wr.ownsRow (w.heap.size + 1 + 1 + 1) 3 1 v (ratesL (agAll s (t n) ln q) (t n).lo k).length ((ratesL (agAll s (t n) ln q) (t n).lo k).map (Value.int .i64)) ∧ LS w wr (.slice (some ⟨A, O, none⟩) ls cs) (.slice (some ⟨C, P, none⟩) lt ct) (.int .i64 0) (.int .i64 0) (t n).lo (t n).hi) (fun _ i _ => ((t n).hi + 1 - intOf i).toNat)
  case atStart => exact ⟨0, by omega, by go_num, World.ownsRow_nil _ _ _ _, HS0.out⟩
  case round =>
    obtain ⟨k, hk, rfl, hown, hls⟩ := hrel
    have HLS := Lib.hid hls
    obtain ⟨va, vc, rfl, -, -⟩ := intSl_of_owns hown
    have HOWN := Lib.hid hown
    clear hls hown
    obtain ⟨_, x1, x2, _, _, _, _, o1, o2, _, _, _⟩ := HLS.out
    by_cases hle : (t n).lo + (k : Int) ≤ (t n).hi
    · have HRR : Hid (0 ≤ (t n).lo + (k : Int) ∧ (t n).lo + (k : Int) ≤ 100) := Lib.hid ⟨by omega, by omega⟩
      go_wp2
      clear x1 x2 o1 o2
      obtain ⟨wo, rfl⟩ : ∃ wo, wo = wr := ⟨wr, rfl⟩
      go_loopw [28] (fun jj w2 => ∃ (j : Nat), j ≤ ln ∧ jj = .int .i64 j ∧ Below wo.heap.size wo w2 ∧ ∀ i, i < j → agB s (t n) ((t n).lo + (k : Int)) (q i) = true) (fun j _ => ln - (intOf j).toNat)
      case atStart => exact ⟨0, Nat.zero_le _, rfl, Below.refl _ _, fun j hj => absurd hj (by omega)⟩
      case round =>
        obtain ⟨j, hj, rfl, hb2, hall⟩ := hrel
        have HALL := Lib.hid hall
        have HB2 := Lib.hid hb2
        have HLS2 := Lib.hid (HLS.out.below hb2)
        clear hall hb2
        by_cases hlt : j < ln
        · obtain ⟨D, F, rfl, hD, hc⟩ := ((CL.out _ HLS2.out.bel).2).resolve_left (by omega)
          obtain ⟨c0, c1, c2⟩ := hc j hlt
          clear hc
          have hag := HQ.out.ok j hlt
          have hag2 : 0 ≤ (q j).ag ∧ (q j).ag ≤ 200 := by simp only [ntB, fromB, Bool.and_eq_true, decide_eq_true_eq] at hag; exact hag.1
          have HAG := Lib.hid hag2
          clear hag hag2
          have m1 : (0 : Int) ≤ (j : Int) := by omega
          have m2 : (j : Int) < (ln : Int) := by omega
          cases hx : agB s (t n) ((t n).lo + (k : Int)) (q j)
          · have hx2 : fromB (q j).lo (q j).hi (cupsV (t n).b (t n).d (s (t n).f.toNat) (q j).ag ((t n).lo + (k : Int))) = false := hx
            obtain ⟨W, hW⟩ : ∃ W, W = (wr.alloc (.cells #[.int .i64 (q j).ag, .int .i64 (q j).lo, .int .i64 (q j).hi] 65)) := ⟨_, rfl⟩
            have hBW : Below wr.heap.size wr W := by rw [hW]; exact (Below.refl _ _).alloc (Nat.le_refl _) _
            have hc9 : W.cell? ⟨wr.heap.size, 0, none⟩ = some (.int .i64 (q j).ag) ∧ W.cell? ⟨wr.heap.size, 1, none⟩ = some (.int .i64 (q j).lo) ∧ W.cell? ⟨wr.heap.size, 2, none⟩ = some (.int .i64 (q j).hi) := by rw [hW]; simp
            have hwW : wr.heap.size < W.heap.size := by rw [hW]; simp
            have FD : Hid (∀ w', Below W.heap.size W w' → (w'.cell? ⟨w.heap.size, 0, none⟩ = some (.slice (some ⟨A, O, none⟩) ls cs) ∧ w'.cell? ⟨w.heap.size, 1, none⟩ = some (.slice (some ⟨C, P, none⟩) lt ct)) ∧ w'.cell? ⟨wr.heap.size, 0, none⟩ = some (.int .i64 (q j).ag) ∧ w'.cell? ⟨wr.heap.size, 1, none⟩ = some (.int .i64 (q j).lo) ∧ w'.cell? ⟨wr.heap.size, 2, none⟩ = some (.int .i64 (q j).hi)) := Lib.hid fun w' h => by
              have h1 := HLS2.out.below (hBW.trans (h.mono hBW.size))
              obtain ⟨c, _⟩ := bcell h
              exact ⟨⟨h1.x1, h1.x2⟩, (c _ _ hwW).trans hc9.1, (c _ _ hwW).trans hc9.2.1, (c _ _ hwW).trans hc9.2.2⟩
            have HLq : Hid (∀ w', Below W.heap.size W w' → LineAt w' A O C P ls lt s t ∧ Below wr.heap.size wr w') := Lib.hid fun w' h => ⟨(CL.out _ (HLS2.out.below (hBW.trans (h.mono hBW.size))).bel).1, hBW.trans (h.mono hBW.size)⟩
            obtain ⟨_, x1, x2, _, _, _, _, _, _, _, _, _⟩ := HLS2.out
            go_wp2
            rw [← hW]
            obtain ⟨⟨x1, x2⟩, y0, y1, y2⟩ := FD.out _ (Below.refl _ _)
            clear hW hc9
            refine wp_region_calm (W := W) (by kernel_rfl) (by kernel_rfl) (Below.refl _ _) ?_
            repeat (first
              | (refine calm_no (by rfl) ?_
                 (try simp only [Act.put, List.setIfInBounds_toArray, List.set_cons_zero, List.set_cons_succ]))
              | (apply calm_yes
                 focus rfl
                 focus
                   intro w' hw'
                   obtain ⟨⟨x1, x2⟩, y0, y1, y2⟩ := FD.out w' hw'
                   go_simp
                   first
                     | done
                     | with_reducible rfl
                     | (first
                          | (go_at_call 64; refine (at_l (HLq.out _ hw').1 hn _ _ _).mono ?_; rintro e w8 ⟨rfl, hb8⟩; exact ⟨rfl, hw'.trans (hb8.mono hw'.size)⟩)
                          | (go_at_call 107; refine (aagrees_w _ _ _ _ _ _ _ _ _ _ _ TB1.out TB2.out TSP.out HAG.out HRR.out).mono ?_; rintro e w8 ⟨rfl, hb8⟩; rw [hx2]; exact ⟨rfl, hw'.trans (hb8.mono hw'.size)⟩))
                 (try simp only [Act.put, List.setIfInBounds_toArray, List.set_cons_zero, List.set_cons_succ])))
            refine calm_nil ?_
            intro w12 hb12
            
            go_wp2
            have hbf : agAll s (t n) ln q ((t n).lo + (k : Int)) = false := by
              cases e : agAll s (t n) ln q ((t n).lo + (k : Int))
              · rfl
              · have := (agAll_iff _ _ _ _ _).1 e j hlt
                rw [hx] at this; cases this
            go_roundw
            case rel => exact ⟨k + 1, by have := HDD.out; omega, by go_num, by rw [ratesL_f hbf]; exact owns_below HOWN.out (HB2.out.trans ((HLq.out _ hb12).2.mono HB2.out.size)), HLS2.out.below (HLq.out _ hb12).2⟩
            case measure => simp [intOf]; omega
          · have hx2 : fromB (q j).lo (q j).hi (cupsV (t n).b (t n).d (s (t n).f.toNat) (q j).ag ((t n).lo + (k : Int))) = true := hx
            obtain ⟨W, hW⟩ : ∃ W, W = (wr.alloc (.cells #[.int .i64 (q j).ag, .int .i64 (q j).lo, .int .i64 (q j).hi] 65)) := ⟨_, rfl⟩
            have hBW : Below wr.heap.size wr W := by rw [hW]; exact (Below.refl _ _).alloc (Nat.le_refl _) _
            have hc9 : W.cell? ⟨wr.heap.size, 0, none⟩ = some (.int .i64 (q j).ag) ∧ W.cell? ⟨wr.heap.size, 1, none⟩ = some (.int .i64 (q j).lo) ∧ W.cell? ⟨wr.heap.size, 2, none⟩ = some (.int .i64 (q j).hi) := by rw [hW]; simp
            have hwW : wr.heap.size < W.heap.size := by rw [hW]; simp
            have FD : Hid (∀ w', Below W.heap.size W w' → (w'.cell? ⟨w.heap.size, 0, none⟩ = some (.slice (some ⟨A, O, none⟩) ls cs) ∧ w'.cell? ⟨w.heap.size, 1, none⟩ = some (.slice (some ⟨C, P, none⟩) lt ct)) ∧ w'.cell? ⟨wr.heap.size, 0, none⟩ = some (.int .i64 (q j).ag) ∧ w'.cell? ⟨wr.heap.size, 1, none⟩ = some (.int .i64 (q j).lo) ∧ w'.cell? ⟨wr.heap.size, 2, none⟩ = some (.int .i64 (q j).hi)) := Lib.hid fun w' h => by
              have h1 := HLS2.out.below (hBW.trans (h.mono hBW.size))
              obtain ⟨c, _⟩ := bcell h
              exact ⟨⟨h1.x1, h1.x2⟩, (c _ _ hwW).trans hc9.1, (c _ _ hwW).trans hc9.2.1, (c _ _ hwW).trans hc9.2.2⟩
            have HLq : Hid (∀ w', Below W.heap.size W w' → LineAt w' A O C P ls lt s t ∧ Below wr.heap.size wr w') := Lib.hid fun w' h => ⟨(CL.out _ (HLS2.out.below (hBW.trans (h.mono hBW.size))).bel).1, hBW.trans (h.mono hBW.size)⟩
            obtain ⟨_, x1, x2, _, _, _, _, _, _, _, _, _⟩ := HLS2.out
            go_wp2
            rw [← hW]
            obtain ⟨⟨x1, x2⟩, y0, y1, y2⟩ := FD.out _ (Below.refl _ _)
            clear hW hc9
            refine wp_region_calm (W := W) (by kernel_rfl) (by kernel_rfl) (Below.refl _ _) ?_
            repeat (first
              | (refine calm_no (by rfl) ?_
                 (try simp only [Act.put, List.setIfInBounds_toArray, List.set_cons_zero, List.set_cons_succ]))
              | (apply calm_yes
                 focus rfl
                 focus
                   intro w' hw'
                   obtain ⟨⟨x1, x2⟩, y0, y1, y2⟩ := FD.out w' hw'
                   go_simp
                   first
                     | done
                     | with_reducible rfl
                     | (first
                          | (go_at_call 64; refine (at_l (HLq.out _ hw').1 hn _ _ _).mono ?_; rintro e w8 ⟨rfl, hb8⟩; exact ⟨rfl, hw'.trans (hb8.mono hw'.size)⟩)
                          | (go_at_call 107; refine (aagrees_w _ _ _ _ _ _ _ _ _ _ _ TB1.out TB2.out TSP.out HAG.out HRR.out).mono ?_; rintro e w8 ⟨rfl, hb8⟩; rw [hx2]; exact ⟨rfl, hw'.trans (hb8.mono hw'.size)⟩))
                 (try simp only [Act.put, List.setIfInBounds_toArray, List.set_cons_zero, List.set_cons_succ])))
            refine calm_nil ?_
            intro w12 hb12
            
            go_wp2
            go_roundw
            case rel => exact ⟨j + 1, by omega, by go_num, HB2.out.trans ((HLq.out _ hb12).2.mono HB2.out.size), fun i hi => by
              rcases Nat.lt_succ_iff_lt_or_eq.1 hi with h | h
              · exact HALL.out i h
              · rw [h]; exact hx⟩
            case measure => simp [intOf]; omega
        · obtain rfl : j = ln := by omega
          have hbt : agAll s (t n) j q ((t n).lo + (k : Int)) = true := (agAll_iff _ _ _ _ _).2 HALL.out
          have HO := Lib.hid (owns_below HOWN.out HB2.out)
          have hzz := HLS2.out.sz
          have hll := ratesL_len (agAll s (t n) j q) (t n).lo k
          have hkk : k ≤ 100 := by have := HDD.out; omega
          obtain ⟨m0, hm0⟩ : ∃ m0, m0 = (ratesL (agAll s (t n) j q) (t n).lo k).length := ⟨_, rfl⟩
          rw [← hm0] at HO hll ⊢
          have HM0 := Lib.hid hm0
          clear hm0
          go_wp2_with (at_builtin; refine wpList_append_own _ rfl _ _ 22 rfl (w.heap.size + 1 + 1 + 1) 3 i0 (.int .i64 0) 1 8 Tryz.underlying22 hi hz0 hz1 hz22 rfl (by decide) _ m0 _ rfl (HO.out.alloc _) ⟨_, 0, none⟩ 1 1 [.int .i64 ((t n).lo + (k : Int))] rfl rfl (lies_any (by first | exact al_top rfl _ _ | exact al_top (by simp) _ _)) (by intro u hu; simp at hu; subst hu; rfl) (by unfold maxLen; omega) (by omega) (by simp; omega) ?_; intro v' w7 hown7 hgrow7 _)
          go_roundw
          case rel => exact ⟨k + 1, by have := HDD.out; omega, by go_num, by rw [ratesL_t hbt, List.length_append, List.map_append, ← HM0.out]; exact hown7, HLS2.out.keep (((Below.refl _ _).alloc (by omega) _).grown hgrow7 (by simp only [World.size_alloc]; omega) (fun r e => by have h9 := own_ge HO.out r e; exact h9))⟩
          case measure => simp [intOf]; omega
    · obtain rfl : k = d + 1 := by have := HDD.out; omega
      obtain ⟨_, _, he9, -, hI⟩ := intSl_of_owns HOWN.out
      cases he9
      have h0 := hne.out
      rw [h0]
      clear h0
      simp only [List.length_nil]
      obtain ⟨_, x1, x2, r1, r2, r3, r4, o1, o2, _, _, hz⟩ := HLS.out
      go_wp2
      exact ⟨rfl, rfl, HLS.out.bel⟩
end Go.Kn

namespace Go.Kn
open Go Go.Proofs Go.RowKit
theorem box1 {w w1 : World} {x : Value} {T : TypeId} (hb : Below (w.alloc (.cells #[x] T)).heap.size (w.alloc (.cells #[x] T)) w1) :
    w1.cell? ⟨w.heap.size, 0, none⟩ = some x ∧ w.heap.size < w1.heap.size := by
  obtain ⟨hc, _⟩ := bcell hb
  refine ⟨(hc _ _ (by simp)).trans (by simp), ?_⟩
  have := hb.size
  simp at this; omega

/-- four new blocks: a line, a number, notes, a span that is being filled in -/
structure LB (w W : World) (x y u v : Value) (a b : Int) : Prop where
  bel : Below w.heap.size w W
  x1 : W.cell? ⟨w.heap.size, 0, none⟩ = some x
  x2 : W.cell? ⟨w.heap.size, 1, none⟩ = some y
  x3 : W.cell? ⟨w.heap.size + 1, 0, none⟩ = some u
  x4 : W.cell? ⟨w.heap.size + 1 + 1, 0, none⟩ = some v
  r1 : W.cell? ⟨w.heap.size + 1 + 1 + 1, 0, none⟩ = some (.int .i64 a)
  r2 : W.cell? ⟨w.heap.size + 1 + 1 + 1, 1, none⟩ = some (.int .i64 b)
  r3 : W.frozen? ⟨w.heap.size + 1 + 1 + 1, 0, none⟩ = false
  r4 : W.frozen? ⟨w.heap.size + 1 + 1 + 1, 1, none⟩ = false
  sz : w.heap.size + 1 + 1 + 1 < W.heap.size

theorem LB.below {w W W1 : World} {x y u v : Value} {a b : Int} (h : LB w W x y u v a b) (hb : Below W.heap.size W W1) : LB w W1 x y u v a b := by
  obtain ⟨c, f⟩ := bcell hb
  have s := h.sz
  have l0 : w.heap.size < W.heap.size := by omega
  have l1 : w.heap.size + 1 < W.heap.size := by omega
  have l2 : w.heap.size + 1 + 1 < W.heap.size := by omega
  exact ⟨h.bel.trans (hb.mono h.bel.size), (c _ _ l0).trans h.x1, (c _ _ l0).trans h.x2, (c _ _ l1).trans h.x3, (c _ _ l2).trans h.x4, (c _ _ s).trans h.r1, (c _ _ s).trans h.r2, (f _ _ s).trans h.r3, (f _ _ s).trans h.r4, Nat.lt_of_lt_of_le s hb.size⟩

theorem LB.start (w : World) (x y u v : Value) (a b : Int) (T T1 T2 T3 : TypeId) : LB w ((((w.alloc (.cells #[x, y] T)).alloc (.cells #[u] T1)).alloc (.cells #[v] T2)).alloc (.cells #[.int .i64 a, .int .i64 b] T3)) x y u v a b := by
  have e1 : Below (w.alloc (.cells #[x, y] T)).heap.size (w.alloc (.cells #[x, y] T)) ((((w.alloc (.cells #[x, y] T)).alloc (.cells #[u] T1)).alloc (.cells #[v] T2)).alloc (.cells #[.int .i64 a, .int .i64 b] T3)) := (((Below.refl _ _).alloc (Nat.le_refl _) _).alloc (by simp) _).alloc (by first | (simp; done) | (simp; omega)) _
  have e2 : Below ((w.alloc (.cells #[x, y] T)).alloc (.cells #[u] T1)).heap.size ((w.alloc (.cells #[x, y] T)).alloc (.cells #[u] T1)) ((((w.alloc (.cells #[x, y] T)).alloc (.cells #[u] T1)).alloc (.cells #[v] T2)).alloc (.cells #[.int .i64 a, .int .i64 b] T3)) := ((Below.refl _ _).alloc (Nat.le_refl _) _).alloc (by simp) _
  have e3 : Below (((w.alloc (.cells #[x, y] T)).alloc (.cells #[u] T1)).alloc (.cells #[v] T2)).heap.size (((w.alloc (.cells #[x, y] T)).alloc (.cells #[u] T1)).alloc (.cells #[v] T2)) ((((w.alloc (.cells #[x, y] T)).alloc (.cells #[u] T1)).alloc (.cells #[v] T2)).alloc (.cells #[.int .i64 a, .int .i64 b] T3)) := (Below.refl _ _).alloc (Nat.le_refl _) _
  have e4 : Below ((((w.alloc (.cells #[x, y] T)).alloc (.cells #[u] T1)).alloc (.cells #[v] T2)).alloc (.cells #[.int .i64 a, .int .i64 b] T3)).heap.size ((((w.alloc (.cells #[x, y] T)).alloc (.cells #[u] T1)).alloc (.cells #[v] T2)).alloc (.cells #[.int .i64 a, .int .i64 b] T3)) ((((w.alloc (.cells #[x, y] T)).alloc (.cells #[u] T1)).alloc (.cells #[v] T2)).alloc (.cells #[.int .i64 a, .int .i64 b] T3)) := Below.refl _ _
  obtain ⟨x1, x2, _⟩ := box_cells e1
  obtain ⟨x3, _⟩ := box1 e2
  obtain ⟨x4, _⟩ := box1 e3
  obtain ⟨o1, o2, o5⟩ := box_cells e4
  obtain ⟨o3, o4⟩ := box_froz e4
  simp only [World.size_alloc] at x3 x4 o1 o2 o3 o4 o5
  exact ⟨below_al e1, x1, x2, x3, x4, o1, o2, o3, o4, by simp only [World.size_alloc]; omega⟩
end Go.Kn

namespace Go.Kn
open Go Go.Proofs Go.RowKit

theorem ta_nil1 (w : World) : (Instr.typeAssert Value.nilIface 20 138 true).run Tryz.prog w = .ok (.tuple #[.agg #[], .bool false]) w := by kernel_rfl
theorem ta_nil2 (w : World) : (Instr.typeAssert Value.nilIface 20 139 true).run Tryz.prog w = .ok (.tuple #[.agg #[], .bool false]) w := by kernel_rfl
theorem ta_rate (w : World) : (Instr.typeAssert (Value.iface 138 (.agg #[])) 20 138 true).run Tryz.prog w = .ok (.tuple #[.agg #[], .bool true]) w := by kernel_rfl

set_option maxRecDepth 100000 in
set_option maxHeartbeats 1000000 in
theorem catch_none (p : Addr) (w : World) :
    CallsD Tryz.prog 106 #[.pointer (some p)] .returning w fun e u' w' => e = .returned (.tuple #[]) ∧ u' = .returning ∧ w' = w := by
  refine callsD_of_wpS Tryz.func106 rfl fun c₀ cs hu => ?_
  have h1 := ta_nil1
  have h2 := ta_nil2
  apply wpS_seq
  apply wpS_region
  simp [wpOpsS, go_sem, recoverD, hu, Tryz.ntmps106, Exit.thenS]
  refine wpS_of_wp ?_
  go_wp2
  simp [bodyPostS, results, Tryz.results106]
  cases c₀
  simp_all

set_option maxRecDepth 100000 in
set_option maxHeartbeats 1000000 in
theorem catch_rate (p : Addr) (x : Int) (older : List PanicEntry) (w : World) (hc : w.cell? p = some (.int .i64 x)) (hz : w.frozen? p = false) :
    CallsD Tryz.prog 106 #[.pointer (some p)] (.panicking ({ v := .iface 138 (.agg #[]), recovered := false } :: older)) w fun e u' w' =>
      e = .returned (.tuple #[]) ∧ u' = .panicking ({ v := .iface 138 (.agg #[]), recovered := true } :: older) ∧ w' = w.setCell p (.int .i64 7) := by
  refine callsD_of_wpS Tryz.func106 rfl fun c₀ cs hu => ?_
  have h1 := ta_rate
  apply wpS_seq
  apply wpS_region
  simp [wpOpsS, go_sem, recoverD, hu, Tryz.ntmps106, Exit.thenS]
  refine wpS_of_wp ?_
  go_wp2
  simp [bodyPostS, results, Tryz.results106]

end Go.Kn

namespace Go.Kn
open Go Go.Proofs Go.RowKit

theorem below_set2 {m : Nat} {w w1 : World} {B : Nat} (hb : Below m w w1) (hB : m ≤ B) (u v : Value) : Below m w ((w1.setCell ⟨B, 0, none⟩ u).setCell ⟨B, 1, none⟩ v) :=
  (hb.setCell hB u).setCell hB v

set_option maxRecDepth 100000 in
set_option maxHeartbeats 1000000 in
theorem lime1_t (A O C P ls cs lt ct n : Nat) (sa : Option Addr) (ln cn : Nat) (s : Nat → Int) (t : Nat → St5) (q : Nat → Nt3) (d : Nat) (w0 w : World) (a0 b0 : Int)
    (HB : LB w0 w (.slice (some ⟨A, O, none⟩) ls cs) (.slice (some ⟨C, P, none⟩) lt ct) (.int .i64 (n : Int)) (.slice sa ln cn) a0 b0)
    (H : Hid (LineAt w A O C P ls lt s t)) (hn : n < lt) (hln : ln ≤ 1000000) (HN : Hid (NtSl w sa ln q)) (HQ : Hid (NotesP ln q)) (hd : Hid ((t n).hi = (t n).lo + d))
    (hne : Hid (ratesL (agAll s (t n) ln q) (t n).lo (d + 1) ≠ [])) :
    Calls Tryz.prog 77 #[.pointer (some ⟨w0.heap.size, 0, none⟩), .pointer (some ⟨w0.heap.size + 1, 0, none⟩), .pointer (some ⟨w0.heap.size + 1 + 1, 0, none⟩), .pointer (some ⟨w0.heap.size + 1 + 1 + 1, 0, none⟩)] w
      fun e w' => ∃ (a b : Int) (w1 : World), e = .returned (.tuple #[]) ∧ LimeP (AgP s (t n) ln q) (t n).lo ((t n).hi + 1) a b ∧ Below w.heap.size w w1 ∧ w' = (w1.setCell ⟨w0.heap.size + 1 + 1 + 1, 0, none⟩ (.int .i64 a)).setCell ⟨w0.heap.size + 1 + 1 + 1, 1, none⟩ (.int .i64 b) := by
  have HBB := Lib.hid HB
  obtain ⟨_, x1, x2, x3, x4, r1, r2, r3, r4, sz⟩ := HB
  go_enter Tryz.func77, Tryz.ntmps77
  go_wp2_with (go_at_call 78; refine (ratesOf_t _ _ _ _ _ _ _ _ _ _ _ _ s t q d _ H hn hln HN HQ hd.out hne).mono ?_; rintro e w1 ⟨⟨a, b, rfl, hl⟩, hb⟩; have HLI := Lib.hid hl; clear hl; clear x1 x2 x3 x4 r1 r2 r3 r4; obtain ⟨_, x1, x2, x3, x4, r1, r2, r3, r4, _⟩ := HBB.out.below hb)
  go_end0
  exact ⟨a, b, w1, rfl, HLI.out, hb, rfl⟩

set_option maxRecDepth 100000 in
set_option maxHeartbeats 1000000 in
theorem lime1_f (A O C P ls cs lt ct n : Nat) (sa : Option Addr) (ln cn : Nat) (s : Nat → Int) (t : Nat → St5) (q : Nat → Nt3) (d : Nat) (w0 w : World) (a0 b0 : Int)
    (HB : LB w0 w (.slice (some ⟨A, O, none⟩) ls cs) (.slice (some ⟨C, P, none⟩) lt ct) (.int .i64 (n : Int)) (.slice sa ln cn) a0 b0)
    (H : Hid (LineAt w A O C P ls lt s t)) (hn : n < lt) (hln : ln ≤ 1000000) (HN : Hid (NtSl w sa ln q)) (HQ : Hid (NotesP ln q)) (hd : Hid ((t n).hi = (t n).lo + d))
    (hne : Hid (ratesL (agAll s (t n) ln q) (t n).lo (d + 1) = [])) :
    Calls Tryz.prog 77 #[.pointer (some ⟨w0.heap.size, 0, none⟩), .pointer (some ⟨w0.heap.size + 1, 0, none⟩), .pointer (some ⟨w0.heap.size + 1 + 1, 0, none⟩), .pointer (some ⟨w0.heap.size + 1 + 1 + 1, 0, none⟩)] w
      fun e w' => e = .panicked [{ v := .iface 138 (.agg #[]), recovered := false }] ∧ Below w.heap.size w w' := by
  have HBB := Lib.hid HB
  obtain ⟨_, x1, x2, x3, x4, r1, r2, r3, r4, sz⟩ := HB
  go_enter Tryz.func77, Tryz.ntmps77
  go_wp2_with (go_at_call 78; refine (ratesOf_f _ _ _ _ _ _ _ _ _ _ _ _ s t q d _ H hn hln HN HQ hd.out hne).mono ?_; rintro e w1 ⟨rfl, hb⟩)
  exact ⟨rfl, rfl, hb⟩


theorem cell_ne (w : World) {B C : Nat} (h : B ≠ C) (o o' : Nat) (v : Value) : (w.setCell ⟨B, o, none⟩ v).cell? ⟨C, o', none⟩ = w.cell? ⟨C, o', none⟩ :=
  World.cell?_setCell_other _ _ _ _ (by intro e; cases e; exact h rfl)

theorem cell_ne2 (w : World) {B o o' : Nat} (h : o ≠ o') (v : Value) : (w.setCell ⟨B, o, none⟩ v).cell? ⟨B, o', none⟩ = w.cell? ⟨B, o', none⟩ :=
  World.cell?_setCell_other _ _ _ _ (by intro e; cases e; exact h rfl)

theorem LB.set {w W : World} {x y u v : Value} {a b : Int} (h : LB w W x y u v a b) (a' b' : Int) :
    LB w ((W.setCell ⟨w.heap.size + 1 + 1 + 1, 0, none⟩ (.int .i64 a')).setCell ⟨w.heap.size + 1 + 1 + 1, 1, none⟩ (.int .i64 b')) x y u v a' b' := by
  have d0 : w.heap.size + 1 + 1 + 1 ≠ w.heap.size := by omega
  have d1 : w.heap.size + 1 + 1 + 1 ≠ w.heap.size + 1 := by omega
  have d2 : w.heap.size + 1 + 1 + 1 ≠ w.heap.size + 1 + 1 := by omega
  have hb : Below W.heap.size W W := Below.refl _ _
  refine ⟨(h.bel.setCell (by simp only []; omega) _).setCell (by simp only []; omega) _, ?_, ?_, ?_, ?_, ?_, ?_, ?_, ?_, ?_⟩
  · rw [cell_ne _ d0, cell_ne _ d0]; exact h.x1
  · rw [cell_ne _ d0, cell_ne _ d0]; exact h.x2
  · rw [cell_ne _ d1, cell_ne _ d1]; exact h.x3
  · rw [cell_ne _ d2, cell_ne _ d2]; exact h.x4
  · rw [cell_ne2 _ (by decide)]; exact World.cell?_setCell_same' _ _ _ (by rw [h.r1]; rfl)
  · exact World.cell?_setCell_same' _ _ _ (by rw [cell_ne2 _ (by decide), h.r2]; rfl)
  · simp only [World.frozen?_setCell]; exact h.r3
  · simp only [World.frozen?_setCell]; exact h.r4
  · simp only [World.size_setCell]; exact h.sz

theorem LB.other {w W : World} {x y u v : Value} {a b : Int} (h : LB w W x y u v a b) {B : Nat} (hB : w.heap.size + 1 + 1 + 1 < B) (z : Value) :
    LB w (W.setCell ⟨B, 0, none⟩ z) x y u v a b := by
  have d0 : B ≠ w.heap.size := by omega
  have d1 : B ≠ w.heap.size + 1 := by omega
  have d2 : B ≠ w.heap.size + 1 + 1 := by omega
  have d3 : B ≠ w.heap.size + 1 + 1 + 1 := by omega
  refine ⟨h.bel.setCell (by simp only []; omega) _, ?_, ?_, ?_, ?_, ?_, ?_, ?_, ?_, ?_⟩
  · rw [cell_ne _ d0]; exact h.x1
  · rw [cell_ne _ d0]; exact h.x2
  · rw [cell_ne _ d1]; exact h.x3
  · rw [cell_ne _ d2]; exact h.x4
  · rw [cell_ne _ d3]; exact h.r1
  · rw [cell_ne _ d3]; exact h.r2
  · simp only [World.frozen?_setCell]; exact h.r3
  · simp only [World.frozen?_setCell]; exact h.r4
  · simp only [World.size_setCell]; exact h.sz

set_option maxRecDepth 100000 in
set_option maxHeartbeats 1000000 in
theorem attempt_t (A O C P ls cs lt ct n : Nat) (sa : Option Addr) (ln cn : Nat) (s : Nat → Int) (t : Nat → St5) (q : Nat → Nt3) (d : Nat) (w0 w : World) (a0 b0 : Int)
    (HB : LB w0 w (.slice (some ⟨A, O, none⟩) ls cs) (.slice (some ⟨C, P, none⟩) lt ct) (.int .i64 (n : Int)) (.slice sa ln cn) a0 b0)
    (H : Hid (LineAt w A O C P ls lt s t)) (hn : n < lt) (hln : ln ≤ 1000000) (HN : Hid (NtSl w sa ln q)) (HQ : Hid (NotesP ln q)) (hd : Hid ((t n).hi = (t n).lo + d))
    (hne : Hid (ratesL (agAll s (t n) ln q) (t n).lo (d + 1) ≠ [])) :
    Calls Tryz.prog 76 #[.func (.func 77) #[] #[.pointer (some ⟨w0.heap.size, 0, none⟩), .pointer (some ⟨w0.heap.size + 1, 0, none⟩), .pointer (some ⟨w0.heap.size + 1 + 1, 0, none⟩), .pointer (some ⟨w0.heap.size + 1 + 1 + 1, 0, none⟩)]] w
      fun e w' => ∃ (a b : Int), e = .returned (.int .i64 0) ∧ LimeP (AgP s (t n) ln q) (t n).lo ((t n).hi + 1) a b ∧ LB w0 w' (.slice (some ⟨A, O, none⟩) ls cs) (.slice (some ⟨C, P, none⟩) lt ct) (.int .i64 (n : Int)) (.slice sa ln cn) a b := by
  have hmf : ∀ (fn : Fn) (first cap : Array Value) (w : World), (Instr.makeFunc fn first cap).run Tryz.prog w = .ok (.func fn first cap) w := fun _ _ _ _ => rfl
  have hA : Below w.heap.size w (w.alloc (.cells #[.int .i64 0] 28)) := (Below.refl _ _).alloc (Nat.le_refl _) _
  have HB1 := HB.below hA
  have H1 := Lib.hid (H.out.below hA)
  have HN1 := Lib.hid (HN.out.below hA)
  have hsz : w0.heap.size + 1 + 1 + 1 < w.heap.size := HB.sz
  have HS := Lib.hid hsz
  have hdiff : w0.heap.size + 1 + 1 + 1 ≠ w.heap.size := by omega
  have HBB := Lib.hid HB1
  have c0 : (w.alloc (.cells #[.int .i64 0] 28)).cell? ⟨w.heap.size, 0, none⟩ = some (.int .i64 0) := by simp
  have f0 : (w.alloc (.cells #[.int .i64 0] 28)).frozen? ⟨w.heap.size, 0, none⟩ = false := by simp
  have l0 : w.heap.size < (w.alloc (.cells #[.int .i64 0] 28)).heap.size := by simp
  have HC : Hid (∀ w1 w2 a b, Below (w.alloc (.cells #[.int .i64 0] 28)).heap.size (w.alloc (.cells #[.int .i64 0] 28)) w1 → w2 = (w1.setCell ⟨w0.heap.size + 1 + 1 + 1, 0, none⟩ (.int .i64 a)).setCell ⟨w0.heap.size + 1 + 1 + 1, 1, none⟩ (.int .i64 b) → w2.cell? ⟨w.heap.size, 0, none⟩ = some (.int .i64 0) ∧ w2.frozen? ⟨w.heap.size, 0, none⟩ = false) := Lib.hid fun w1 w2 a b hb e => by
    obtain ⟨c, f⟩ := bcell hb
    rw [e, cell_ne _ hdiff, cell_ne _ hdiff]
    refine ⟨(c _ _ l0).trans c0, ?_⟩
    have := (f _ _ l0).trans f0
    simpa using this
  clear HB HB1 H HN c0 f0 l0 hsz hdiff
  go_enter_defers Tryz.func76, Tryz.ntmps76
  go_wp2_with (go_at_call 77; refine (lime1_t A O C P ls cs lt ct n sa ln cn s t q d w0 _ a0 b0 HBB.out H1 hn hln HN1 HQ hd hne).mono ?_; rintro e w2 ⟨a, b, w1, rfl, hl, hb, hw2⟩; have HLI := Lib.hid hl; clear hl; obtain ⟨y1, y2⟩ := HC.out _ _ _ _ hb hw2; have HW2 := Lib.hid hw2; clear hw2)
  refine leaves_cons (f := 106) (args := #[.pointer (some ⟨w.heap.size, 0, none⟩)]) (by simp) (by simp [go_sem]) ?_
  refine (catch_none ⟨w.heap.size, 0, none⟩ _).mono ?_
  rintro e u' w'' ⟨rfl, rfl, rfl⟩
  have hlb : LB w0 (w2.setCell ⟨w.heap.size, 0, none⟩ (.int .i64 0)) (.slice (some ⟨A, O, none⟩) ls cs) (.slice (some ⟨C, P, none⟩) lt ct) (.int .i64 (n : Int)) (.slice sa ln cn) a b := by
    rw [HW2.out]
    exact ((HBB.out.below hb).set a b).other HS.out _
  have hq := HLI.out
  generalize (LimeP (AgP s (t n) ln q) (t n).lo ((t n).hi + 1)) = Z at hq ⊢
  simp [Leaves, settle, results, Tryz.results76, go_sem, y1]
  exact ⟨a, b, hq, hlb⟩

set_option maxRecDepth 100000 in
set_option maxHeartbeats 1000000 in
theorem attempt_f (A O C P ls cs lt ct n : Nat) (sa : Option Addr) (ln cn : Nat) (s : Nat → Int) (t : Nat → St5) (q : Nat → Nt3) (d : Nat) (w0 w : World) (a0 b0 : Int)
    (HB : LB w0 w (.slice (some ⟨A, O, none⟩) ls cs) (.slice (some ⟨C, P, none⟩) lt ct) (.int .i64 (n : Int)) (.slice sa ln cn) a0 b0)
    (H : Hid (LineAt w A O C P ls lt s t)) (hn : n < lt) (hln : ln ≤ 1000000) (HN : Hid (NtSl w sa ln q)) (HQ : Hid (NotesP ln q)) (hd : Hid ((t n).hi = (t n).lo + d))
    (hne : Hid (ratesL (agAll s (t n) ln q) (t n).lo (d + 1) = [])) :
    Calls Tryz.prog 76 #[.func (.func 77) #[] #[.pointer (some ⟨w0.heap.size, 0, none⟩), .pointer (some ⟨w0.heap.size + 1, 0, none⟩), .pointer (some ⟨w0.heap.size + 1 + 1, 0, none⟩), .pointer (some ⟨w0.heap.size + 1 + 1 + 1, 0, none⟩)]] w
      fun e w' => e = .returned (.int .i64 7) ∧ LB w0 w' (.slice (some ⟨A, O, none⟩) ls cs) (.slice (some ⟨C, P, none⟩) lt ct) (.int .i64 (n : Int)) (.slice sa ln cn) a0 b0 := by
  have hmf : ∀ (fn : Fn) (first cap : Array Value) (w : World), (Instr.makeFunc fn first cap).run Tryz.prog w = .ok (.func fn first cap) w := fun _ _ _ _ => rfl
  have hA : Below w.heap.size w (w.alloc (.cells #[.int .i64 0] 28)) := (Below.refl _ _).alloc (Nat.le_refl _) _
  have HB1 := HB.below hA
  have H1 := Lib.hid (H.out.below hA)
  have HN1 := Lib.hid (HN.out.below hA)
  have HS := Lib.hid HB.sz
  have HBB := Lib.hid HB1
  have c0 : (w.alloc (.cells #[.int .i64 0] 28)).cell? ⟨w.heap.size, 0, none⟩ = some (.int .i64 0) := by simp
  have f0 : (w.alloc (.cells #[.int .i64 0] 28)).frozen? ⟨w.heap.size, 0, none⟩ = false := by simp
  have l0 : w.heap.size < (w.alloc (.cells #[.int .i64 0] 28)).heap.size := by simp
  have HC : Hid (∀ w1, Below (w.alloc (.cells #[.int .i64 0] 28)).heap.size (w.alloc (.cells #[.int .i64 0] 28)) w1 → w1.cell? ⟨w.heap.size, 0, none⟩ = some (.int .i64 0) ∧ w1.frozen? ⟨w.heap.size, 0, none⟩ = false) := Lib.hid fun w1 hb => by
    obtain ⟨c, f⟩ := bcell hb
    exact ⟨(c _ _ l0).trans c0, (f _ _ l0).trans f0⟩
  clear HB HB1 H HN c0 f0 l0
  go_enter_defers Tryz.func76, Tryz.ntmps76
  go_wp2_with (go_at_call 77; refine (lime1_f A O C P ls cs lt ct n sa ln cn s t q d w0 _ a0 b0 HBB.out H1 hn hln HN1 HQ hd hne).mono ?_; rintro e w2 ⟨rfl, hb⟩; obtain ⟨y1, y2⟩ := HC.out _ hb)
  refine leaves_cons (f := 106) (args := #[.pointer (some ⟨w.heap.size, 0, none⟩)]) (by simp) (by simp [go_sem]) ?_
  refine (catch_rate ⟨w.heap.size, 0, none⟩ 0 [] _ y1 y2).mono ?_
  rintro e u' w'' ⟨rfl, rfl, rfl⟩
  have hlb : LB w0 (w2.setCell ⟨w.heap.size, 0, none⟩ (.int .i64 7)) (.slice (some ⟨A, O, none⟩) ls cs) (.slice (some ⟨C, P, none⟩) lt ct) (.int .i64 (n : Int)) (.slice sa ln cn) a0 b0 := (HBB.out.below hb).other HS.out _
  simp [Leaves, settle, results, Tryz.results76, go_sem, y1]
  exact hlb
end Go.Kn

namespace Go.Kn
open Go Go.Proofs Go.RowKit

set_option maxRecDepth 100000 in
set_option maxHeartbeats 4000000 in
theorem limeF1 (sa ta sq : Option Addr) (ls cs lt ct lq cq : Nat) (s : Nat → Int) (t : Nat → St5) (q : Nat → Nt3) (st : Int) (w : World) (hls : ls ≤ 1000000) (hlt : lt ≤ 1000000) (hlq : lq ≤ 1000000) (H : Hid (AnyLine w sa ta ls lt s t)) (HS : Hid (NtSl w sq lq q)) (HR : Hid (¬ RightP ls lt s t)) :
    Calls Tryz.prog 37 #[.agg #[.slice sa ls cs, .slice ta lt ct], .int .i64 st, .slice sq lq cq] w
      fun e w' => e = .returned (.tuple #[.agg #[.int .i64 0, .int .i64 0], .int .i64 2]) ∧ Below w.heap.size w w' := by
  have BX := Lib.hid (fun (w1 : World) (hb : Below ((((w.alloc (.cells #[.slice sa ls cs, .slice ta lt ct] 25)).alloc (.cells #[.int .i64 st] 3)).alloc (.cells #[.slice sq lq cq] 59)).alloc (.cells #[.int .i64 0, .int .i64 0] 31)).heap.size ((((w.alloc (.cells #[.slice sa ls cs, .slice ta lt ct] 25)).alloc (.cells #[.int .i64 st] 3)).alloc (.cells #[.slice sq lq cq] 59)).alloc (.cells #[.int .i64 0, .int .i64 0] 31)) w1) => (LB.start w (.slice sa ls cs) (.slice ta lt ct) (.int .i64 st) (.slice sq lq cq) 0 0 25 3 59 31).below hb)
  have hW : Below w.heap.size w ((((w.alloc (.cells #[.slice sa ls cs, .slice ta lt ct] 25)).alloc (.cells #[.int .i64 st] 3)).alloc (.cells #[.slice sq lq cq] 59)).alloc (.cells #[.int .i64 0, .int .i64 0] 31)) := (LB.start w (.slice sa ls cs) (.slice ta lt ct) (.int .i64 st) (.slice sq lq cq) 0 0 25 3 59 31).bel
  have HN : Hid (∀ w1, Below ((((w.alloc (.cells #[.slice sa ls cs, .slice ta lt ct] 25)).alloc (.cells #[.int .i64 st] 3)).alloc (.cells #[.slice sq lq cq] 59)).alloc (.cells #[.int .i64 0, .int .i64 0] 31)).heap.size ((((w.alloc (.cells #[.slice sa ls cs, .slice ta lt ct] 25)).alloc (.cells #[.int .i64 st] 3)).alloc (.cells #[.slice sq lq cq] 59)).alloc (.cells #[.int .i64 0, .int .i64 0] 31)) w1 → Hid (AnyLine w1 sa ta ls lt s t)) := Lib.hid fun w1 h => Lib.hid (H.out.below (hW.trans (h.mono hW.size)))
  have HNT : Hid (∀ w1, Below ((((w.alloc (.cells #[.slice sa ls cs, .slice ta lt ct] 25)).alloc (.cells #[.int .i64 st] 3)).alloc (.cells #[.slice sq lq cq] 59)).alloc (.cells #[.int .i64 0, .int .i64 0] 31)).heap.size ((((w.alloc (.cells #[.slice sa ls cs, .slice ta lt ct] 25)).alloc (.cells #[.int .i64 st] 3)).alloc (.cells #[.slice sq lq cq] 59)).alloc (.cells #[.int .i64 0, .int .i64 0] 31)) w1 → Hid (NtSl w1 sq lq q)) := Lib.hid fun w1 h => Lib.hid (HS.out.below (hW.trans (h.mono hW.size)))
  have hb : Below ((((w.alloc (.cells #[.slice sa ls cs, .slice ta lt ct] 25)).alloc (.cells #[.int .i64 st] 3)).alloc (.cells #[.slice sq lq cq] 59)).alloc (.cells #[.int .i64 0, .int .i64 0] 31)).heap.size ((((w.alloc (.cells #[.slice sa ls cs, .slice ta lt ct] 25)).alloc (.cells #[.int .i64 st] 3)).alloc (.cells #[.slice sq lq cq] 59)).alloc (.cells #[.int .i64 0, .int .i64 0] 31)) ((((w.alloc (.cells #[.slice sa ls cs, .slice ta lt ct] 25)).alloc (.cells #[.int .i64 st] 3)).alloc (.cells #[.slice sq lq cq] 59)).alloc (.cells #[.int .i64 0, .int .i64 0] 31)) := Below.refl _ _
  obtain ⟨_, x1, x2, x3, x4, r1, r2, r3, r4, sz⟩ := BX.out _ hb
  clear hW
  clear H HS
  go_enter Tryz.func37, Tryz.ntmps37
  go_wp2_with (first
    | (go_at_call 61; refine (isLine2_w _ _ _ _ _ _ s t _ hls hlt (HN.out _ hb)).mono ?_; rintro e wl ⟨⟨rb, rfl, hrb⟩, hv⟩; obtain rfl : rb = false := (by cases rb <;> first | rfl | exact (HR.out (hrb.1 rfl)).elim); clear hrb; replace hb := hb.trans (hv.mono hb.size); clear x1 x2 x3 x4 r1 r2 r3 r4 sz; obtain ⟨_, x1, x2, x3, x4, r1, r2, r3, r4, sz⟩ := BX.out _ hb))
  have h2 := (BX.out _ hb).set 0 0
  generalize (wl.setCell ⟨w.heap.size + 1 + 1 + 1, 0, none⟩ (.int .i64 0)).setCell ⟨w.heap.size + 1 + 1 + 1, 1, none⟩ (.int .i64 0) = W9 at h2 ⊢
  exact bodyPost_ret (v := .tuple #[.agg #[.int .i64 0, .int .i64 0], .int .i64 2]) (by simp [results, Tryz.results37, go_sem, h2.r1, h2.r2]) rfl ⟨rfl, h2.bel⟩

set_option maxRecDepth 100000 in
set_option maxHeartbeats 4000000 in
theorem limeF2 (sa ta sq : Option Addr) (ls cs lt ct lq cq : Nat) (s : Nat → Int) (t : Nat → St5) (q : Nat → Nt3) (st : Int) (w : World) (hls : ls ≤ 1000000) (hlt : lt ≤ 1000000) (hlq : lq ≤ 1000000) (H : Hid (AnyLine w sa ta ls lt s t)) (HS : Hid (NtSl w sq lq q)) (HR : Hid (RightP ls lt s t)) (g1 : fromB 0 ((lt : Int) - 1) st = false) :
    Calls Tryz.prog 37 #[.agg #[.slice sa ls cs, .slice ta lt ct], .int .i64 st, .slice sq lq cq] w
      fun e w' => e = .returned (.tuple #[.agg #[.int .i64 0, .int .i64 0], .int .i64 2]) ∧ Below w.heap.size w w' := by
  have BX := Lib.hid (fun (w1 : World) (hb : Below ((((w.alloc (.cells #[.slice sa ls cs, .slice ta lt ct] 25)).alloc (.cells #[.int .i64 st] 3)).alloc (.cells #[.slice sq lq cq] 59)).alloc (.cells #[.int .i64 0, .int .i64 0] 31)).heap.size ((((w.alloc (.cells #[.slice sa ls cs, .slice ta lt ct] 25)).alloc (.cells #[.int .i64 st] 3)).alloc (.cells #[.slice sq lq cq] 59)).alloc (.cells #[.int .i64 0, .int .i64 0] 31)) w1) => (LB.start w (.slice sa ls cs) (.slice ta lt ct) (.int .i64 st) (.slice sq lq cq) 0 0 25 3 59 31).below hb)
  have hW : Below w.heap.size w ((((w.alloc (.cells #[.slice sa ls cs, .slice ta lt ct] 25)).alloc (.cells #[.int .i64 st] 3)).alloc (.cells #[.slice sq lq cq] 59)).alloc (.cells #[.int .i64 0, .int .i64 0] 31)) := (LB.start w (.slice sa ls cs) (.slice ta lt ct) (.int .i64 st) (.slice sq lq cq) 0 0 25 3 59 31).bel
  have HN : Hid (∀ w1, Below ((((w.alloc (.cells #[.slice sa ls cs, .slice ta lt ct] 25)).alloc (.cells #[.int .i64 st] 3)).alloc (.cells #[.slice sq lq cq] 59)).alloc (.cells #[.int .i64 0, .int .i64 0] 31)).heap.size ((((w.alloc (.cells #[.slice sa ls cs, .slice ta lt ct] 25)).alloc (.cells #[.int .i64 st] 3)).alloc (.cells #[.slice sq lq cq] 59)).alloc (.cells #[.int .i64 0, .int .i64 0] 31)) w1 → Hid (AnyLine w1 sa ta ls lt s t)) := Lib.hid fun w1 h => Lib.hid (H.out.below (hW.trans (h.mono hW.size)))
  have HNT : Hid (∀ w1, Below ((((w.alloc (.cells #[.slice sa ls cs, .slice ta lt ct] 25)).alloc (.cells #[.int .i64 st] 3)).alloc (.cells #[.slice sq lq cq] 59)).alloc (.cells #[.int .i64 0, .int .i64 0] 31)).heap.size ((((w.alloc (.cells #[.slice sa ls cs, .slice ta lt ct] 25)).alloc (.cells #[.int .i64 st] 3)).alloc (.cells #[.slice sq lq cq] 59)).alloc (.cells #[.int .i64 0, .int .i64 0] 31)) w1 → Hid (NtSl w1 sq lq q)) := Lib.hid fun w1 h => Lib.hid (HS.out.below (hW.trans (h.mono hW.size)))
  have hb : Below ((((w.alloc (.cells #[.slice sa ls cs, .slice ta lt ct] 25)).alloc (.cells #[.int .i64 st] 3)).alloc (.cells #[.slice sq lq cq] 59)).alloc (.cells #[.int .i64 0, .int .i64 0] 31)).heap.size ((((w.alloc (.cells #[.slice sa ls cs, .slice ta lt ct] 25)).alloc (.cells #[.int .i64 st] 3)).alloc (.cells #[.slice sq lq cq] 59)).alloc (.cells #[.int .i64 0, .int .i64 0] 31)) ((((w.alloc (.cells #[.slice sa ls cs, .slice ta lt ct] 25)).alloc (.cells #[.int .i64 st] 3)).alloc (.cells #[.slice sq lq cq] 59)).alloc (.cells #[.int .i64 0, .int .i64 0] 31)) := Below.refl _ _
  obtain ⟨_, x1, x2, x3, x4, r1, r2, r3, r4, sz⟩ := BX.out _ hb
  clear hW
  clear H HS
  go_enter Tryz.func37, Tryz.ntmps37
  go_wp2_with (first
    | (go_at_call 61; refine (isLine2_w _ _ _ _ _ _ s t _ hls hlt (HN.out _ hb)).mono ?_; rintro e wl ⟨⟨rb, rfl, hrb⟩, hv⟩; obtain rfl : rb = true := hrb.2 HR.out; clear hrb; replace hb := hb.trans (hv.mono hb.size); clear x1 x2 x3 x4 r1 r2 r3 r4 sz; obtain ⟨_, x1, x2, x3, x4, r1, r2, r3, r4, sz⟩ := BX.out _ hb)
    | (go_at_call 62; refine (isStretch_w _ _ _ _ _ _ (by unfold maxLen; omega)).mono ?_; rintro e wl ⟨rfl, hv⟩; replace hb := hb.trans (hv.mono hb.size); clear x1 x2 x3 x4 r1 r2 r3 r4 sz; obtain ⟨_, x1, x2, x3, x4, r1, r2, r3, r4, sz⟩ := BX.out _ hb))
  have h2 := (BX.out _ hb).set 0 0
  generalize (wl.setCell ⟨w.heap.size + 1 + 1 + 1, 0, none⟩ (.int .i64 0)).setCell ⟨w.heap.size + 1 + 1 + 1, 1, none⟩ (.int .i64 0) = W9 at h2 ⊢
  exact bodyPost_ret (v := .tuple #[.agg #[.int .i64 0, .int .i64 0], .int .i64 2]) (by simp [results, Tryz.results37, go_sem, h2.r1, h2.r2]) rfl ⟨rfl, h2.bel⟩

set_option maxRecDepth 100000 in
set_option maxHeartbeats 4000000 in
theorem limeF3 (sa ta sq : Option Addr) (ls cs lt ct lq cq : Nat) (s : Nat → Int) (t : Nat → St5) (q : Nat → Nt3) (st : Int) (w : World) (hls : ls ≤ 1000000) (hlt : lt ≤ 1000000) (hlq : lq ≤ 1000000) (H : Hid (AnyLine w sa ta ls lt s t)) (HS : Hid (NtSl w sq lq q)) (HR : Hid (RightP ls lt s t)) (g1 : fromB 0 ((lt : Int) - 1) st = true) (HQ : Hid (¬ NotesP lq q)) :
    Calls Tryz.prog 37 #[.agg #[.slice sa ls cs, .slice ta lt ct], .int .i64 st, .slice sq lq cq] w
      fun e w' => e = .returned (.tuple #[.agg #[.int .i64 0, .int .i64 0], .int .i64 2]) ∧ Below w.heap.size w w' := by
  have BX := Lib.hid (fun (w1 : World) (hb : Below ((((w.alloc (.cells #[.slice sa ls cs, .slice ta lt ct] 25)).alloc (.cells #[.int .i64 st] 3)).alloc (.cells #[.slice sq lq cq] 59)).alloc (.cells #[.int .i64 0, .int .i64 0] 31)).heap.size ((((w.alloc (.cells #[.slice sa ls cs, .slice ta lt ct] 25)).alloc (.cells #[.int .i64 st] 3)).alloc (.cells #[.slice sq lq cq] 59)).alloc (.cells #[.int .i64 0, .int .i64 0] 31)) w1) => (LB.start w (.slice sa ls cs) (.slice ta lt ct) (.int .i64 st) (.slice sq lq cq) 0 0 25 3 59 31).below hb)
  have hW : Below w.heap.size w ((((w.alloc (.cells #[.slice sa ls cs, .slice ta lt ct] 25)).alloc (.cells #[.int .i64 st] 3)).alloc (.cells #[.slice sq lq cq] 59)).alloc (.cells #[.int .i64 0, .int .i64 0] 31)) := (LB.start w (.slice sa ls cs) (.slice ta lt ct) (.int .i64 st) (.slice sq lq cq) 0 0 25 3 59 31).bel
  have HN : Hid (∀ w1, Below ((((w.alloc (.cells #[.slice sa ls cs, .slice ta lt ct] 25)).alloc (.cells #[.int .i64 st] 3)).alloc (.cells #[.slice sq lq cq] 59)).alloc (.cells #[.int .i64 0, .int .i64 0] 31)).heap.size ((((w.alloc (.cells #[.slice sa ls cs, .slice ta lt ct] 25)).alloc (.cells #[.int .i64 st] 3)).alloc (.cells #[.slice sq lq cq] 59)).alloc (.cells #[.int .i64 0, .int .i64 0] 31)) w1 → Hid (AnyLine w1 sa ta ls lt s t)) := Lib.hid fun w1 h => Lib.hid (H.out.below (hW.trans (h.mono hW.size)))
  have HNT : Hid (∀ w1, Below ((((w.alloc (.cells #[.slice sa ls cs, .slice ta lt ct] 25)).alloc (.cells #[.int .i64 st] 3)).alloc (.cells #[.slice sq lq cq] 59)).alloc (.cells #[.int .i64 0, .int .i64 0] 31)).heap.size ((((w.alloc (.cells #[.slice sa ls cs, .slice ta lt ct] 25)).alloc (.cells #[.int .i64 st] 3)).alloc (.cells #[.slice sq lq cq] 59)).alloc (.cells #[.int .i64 0, .int .i64 0] 31)) w1 → Hid (NtSl w1 sq lq q)) := Lib.hid fun w1 h => Lib.hid (HS.out.below (hW.trans (h.mono hW.size)))
  have hb : Below ((((w.alloc (.cells #[.slice sa ls cs, .slice ta lt ct] 25)).alloc (.cells #[.int .i64 st] 3)).alloc (.cells #[.slice sq lq cq] 59)).alloc (.cells #[.int .i64 0, .int .i64 0] 31)).heap.size ((((w.alloc (.cells #[.slice sa ls cs, .slice ta lt ct] 25)).alloc (.cells #[.int .i64 st] 3)).alloc (.cells #[.slice sq lq cq] 59)).alloc (.cells #[.int .i64 0, .int .i64 0] 31)) ((((w.alloc (.cells #[.slice sa ls cs, .slice ta lt ct] 25)).alloc (.cells #[.int .i64 st] 3)).alloc (.cells #[.slice sq lq cq] 59)).alloc (.cells #[.int .i64 0, .int .i64 0] 31)) := Below.refl _ _
  obtain ⟨_, x1, x2, x3, x4, r1, r2, r3, r4, sz⟩ := BX.out _ hb
  clear hW
  clear H HS
  go_enter Tryz.func37, Tryz.ntmps37
  go_wp2_with (first
    | (go_at_call 61; refine (isLine2_w _ _ _ _ _ _ s t _ hls hlt (HN.out _ hb)).mono ?_; rintro e wl ⟨⟨rb, rfl, hrb⟩, hv⟩; obtain rfl : rb = true := hrb.2 HR.out; clear hrb; replace hb := hb.trans (hv.mono hb.size); clear x1 x2 x3 x4 r1 r2 r3 r4 sz; obtain ⟨_, x1, x2, x3, x4, r1, r2, r3, r4, sz⟩ := BX.out _ hb)
    | (go_at_call 62; refine (isStretch_w _ _ _ _ _ _ (by unfold maxLen; omega)).mono ?_; rintro e wl ⟨rfl, hv⟩; replace hb := hb.trans (hv.mono hb.size); clear x1 x2 x3 x4 r1 r2 r3 r4 sz; obtain ⟨_, x1, x2, x3, x4, r1, r2, r3, r4, sz⟩ := BX.out _ hb)
    | (go_at_call 75; refine (areNotes_w _ _ _ q _ hlq (HNT.out _ hb)).mono ?_; rintro e wl ⟨⟨rb, rfl, hrb⟩, hv⟩; obtain rfl : rb = false := (by cases rb <;> first | rfl | exact (HQ.out (hrb.1 rfl)).elim); clear hrb; replace hb := hb.trans (hv.mono hb.size); clear x1 x2 x3 x4 r1 r2 r3 r4 sz; obtain ⟨_, x1, x2, x3, x4, r1, r2, r3, r4, sz⟩ := BX.out _ hb))
  have h2 := (BX.out _ hb).set 0 0
  generalize (wl.setCell ⟨w.heap.size + 1 + 1 + 1, 0, none⟩ (.int .i64 0)).setCell ⟨w.heap.size + 1 + 1 + 1, 1, none⟩ (.int .i64 0) = W9 at h2 ⊢
  exact bodyPost_ret (v := .tuple #[.agg #[.int .i64 0, .int .i64 0], .int .i64 2]) (by simp [results, Tryz.results37, go_sem, h2.r1, h2.r2]) rfl ⟨rfl, h2.bel⟩

set_option maxRecDepth 100000 in
set_option maxHeartbeats 4000000 in
theorem lime_t (A O C P ls cs lt ct n : Nat) (sq : Option Addr) (lq cq : Nat) (s : Nat → Int) (t : Nat → St5) (q : Nat → Nt3) (d : Nat) (w : World) (H0 : Hid (LineAt w A O C P ls lt s t)) (hn : n < lt) (hlq : lq ≤ 1000000) (HS : Hid (NtSl w sq lq q)) (HQ : Hid (NotesP lq q)) (hd : Hid ((t n).hi = (t n).lo + d))
    (hne : Hid (ratesL (agAll s (t n) lq q) (t n).lo (d + 1) ≠ [])) :
    Calls Tryz.prog 37 #[.agg #[.slice (some ⟨A, O, none⟩) ls cs, .slice (some ⟨C, P, none⟩) lt ct], .int .i64 (n : Int), .slice sq lq cq] w
      fun e w' => (∃ a b : Int, e = .returned (.tuple #[.agg #[.int .i64 a, .int .i64 b], .int .i64 0]) ∧ LimeP (AgP s (t n) lq q) (t n).lo ((t n).hi + 1) a b) ∧ Below w.heap.size w w' := by
  have HR : Hid (RightP ls lt s t) := Lib.hid ⟨H0.out.ls1, H0.out.ls2, H0.out.lt1, H0.out.lt2, H0.out.sok, H0.out.tok⟩
  have q0 := H0.out.ls2
  have q2 := H0.out.lt2
  have hls : ls ≤ 1000000 := by omega
  have hlt : lt ≤ 1000000 := by omega
  have g1 : fromB 0 ((lt : Int) - 1) (n : Int) = true := by simp only [fromB, decide_eq_true_eq]; omega
  have H : Hid (AnyLine w (some ⟨A, O, none⟩) (some ⟨C, P, none⟩) ls lt s t) := Lib.hid ⟨.inr ⟨A, O, rfl, H0.out.hA, H0.out.sp⟩, .inr ⟨C, P, rfl, H0.out.hC, H0.out.st⟩⟩
  have HL : Hid (∀ w1, Below ((((w.alloc (.cells #[.slice (some ⟨A, O, none⟩) ls cs, .slice (some ⟨C, P, none⟩) lt ct] 25)).alloc (.cells #[.int .i64 (n : Int)] 3)).alloc (.cells #[.slice sq lq cq] 59)).alloc (.cells #[.int .i64 0, .int .i64 0] 31)).heap.size ((((w.alloc (.cells #[.slice (some ⟨A, O, none⟩) ls cs, .slice (some ⟨C, P, none⟩) lt ct] 25)).alloc (.cells #[.int .i64 (n : Int)] 3)).alloc (.cells #[.slice sq lq cq] 59)).alloc (.cells #[.int .i64 0, .int .i64 0] 31)) w1 → LineAt w1 A O C P ls lt s t) := Lib.hid fun w1 h => H0.out.below (have hW := (LB.start w (.slice (some ⟨A, O, none⟩) ls cs) (.slice (some ⟨C, P, none⟩) lt ct) (.int .i64 (n : Int)) (.slice sq lq cq) 0 0 25 3 59 31).bel; hW.trans (h.mono hW.size))
  have BX := Lib.hid (fun (w1 : World) (hb : Below ((((w.alloc (.cells #[.slice (some ⟨A, O, none⟩) ls cs, .slice (some ⟨C, P, none⟩) lt ct] 25)).alloc (.cells #[.int .i64 (n : Int)] 3)).alloc (.cells #[.slice sq lq cq] 59)).alloc (.cells #[.int .i64 0, .int .i64 0] 31)).heap.size ((((w.alloc (.cells #[.slice (some ⟨A, O, none⟩) ls cs, .slice (some ⟨C, P, none⟩) lt ct] 25)).alloc (.cells #[.int .i64 (n : Int)] 3)).alloc (.cells #[.slice sq lq cq] 59)).alloc (.cells #[.int .i64 0, .int .i64 0] 31)) w1) => (LB.start w (.slice (some ⟨A, O, none⟩) ls cs) (.slice (some ⟨C, P, none⟩) lt ct) (.int .i64 (n : Int)) (.slice sq lq cq) 0 0 25 3 59 31).below hb)
  have hW : Below w.heap.size w ((((w.alloc (.cells #[.slice (some ⟨A, O, none⟩) ls cs, .slice (some ⟨C, P, none⟩) lt ct] 25)).alloc (.cells #[.int .i64 (n : Int)] 3)).alloc (.cells #[.slice sq lq cq] 59)).alloc (.cells #[.int .i64 0, .int .i64 0] 31)) := (LB.start w (.slice (some ⟨A, O, none⟩) ls cs) (.slice (some ⟨C, P, none⟩) lt ct) (.int .i64 (n : Int)) (.slice sq lq cq) 0 0 25 3 59 31).bel
  have HN : Hid (∀ w1, Below ((((w.alloc (.cells #[.slice (some ⟨A, O, none⟩) ls cs, .slice (some ⟨C, P, none⟩) lt ct] 25)).alloc (.cells #[.int .i64 (n : Int)] 3)).alloc (.cells #[.slice sq lq cq] 59)).alloc (.cells #[.int .i64 0, .int .i64 0] 31)).heap.size ((((w.alloc (.cells #[.slice (some ⟨A, O, none⟩) ls cs, .slice (some ⟨C, P, none⟩) lt ct] 25)).alloc (.cells #[.int .i64 (n : Int)] 3)).alloc (.cells #[.slice sq lq cq] 59)).alloc (.cells #[.int .i64 0, .int .i64 0] 31)) w1 → Hid (AnyLine w1 (some ⟨A, O, none⟩) (some ⟨C, P, none⟩) ls lt s t)) := Lib.hid fun w1 h => Lib.hid (H.out.below (hW.trans (h.mono hW.size)))
  have HNT : Hid (∀ w1, Below ((((w.alloc (.cells #[.slice (some ⟨A, O, none⟩) ls cs, .slice (some ⟨C, P, none⟩) lt ct] 25)).alloc (.cells #[.int .i64 (n : Int)] 3)).alloc (.cells #[.slice sq lq cq] 59)).alloc (.cells #[.int .i64 0, .int .i64 0] 31)).heap.size ((((w.alloc (.cells #[.slice (some ⟨A, O, none⟩) ls cs, .slice (some ⟨C, P, none⟩) lt ct] 25)).alloc (.cells #[.int .i64 (n : Int)] 3)).alloc (.cells #[.slice sq lq cq] 59)).alloc (.cells #[.int .i64 0, .int .i64 0] 31)) w1 → Hid (NtSl w1 sq lq q)) := Lib.hid fun w1 h => Lib.hid (HS.out.below (hW.trans (h.mono hW.size)))
  have hb : Below ((((w.alloc (.cells #[.slice (some ⟨A, O, none⟩) ls cs, .slice (some ⟨C, P, none⟩) lt ct] 25)).alloc (.cells #[.int .i64 (n : Int)] 3)).alloc (.cells #[.slice sq lq cq] 59)).alloc (.cells #[.int .i64 0, .int .i64 0] 31)).heap.size ((((w.alloc (.cells #[.slice (some ⟨A, O, none⟩) ls cs, .slice (some ⟨C, P, none⟩) lt ct] 25)).alloc (.cells #[.int .i64 (n : Int)] 3)).alloc (.cells #[.slice sq lq cq] 59)).alloc (.cells #[.int .i64 0, .int .i64 0] 31)) ((((w.alloc (.cells #[.slice (some ⟨A, O, none⟩) ls cs, .slice (some ⟨C, P, none⟩) lt ct] 25)).alloc (.cells #[.int .i64 (n : Int)] 3)).alloc (.cells #[.slice sq lq cq] 59)).alloc (.cells #[.int .i64 0, .int .i64 0] 31)) := Below.refl _ _
  obtain ⟨_, x1, x2, x3, x4, r1, r2, r3, r4, sz⟩ := BX.out _ hb
  clear hW
  clear H HS H0
  have hmf : ∀ (fn : Fn) (first cap : Array Value) (w : World), (Instr.makeFunc fn first cap).run Tryz.prog w = .ok (.func fn first cap) w := fun _ _ _ _ => rfl
  go_enter Tryz.func37, Tryz.ntmps37
  go_wp2_with (first
    | (go_at_call 61; refine (isLine2_w _ _ _ _ _ _ s t _ hls hlt (HN.out _ hb)).mono ?_; rintro e wl ⟨⟨rb, rfl, hrb⟩, hv⟩; obtain rfl : rb = true := hrb.2 HR.out; clear hrb; replace hb := hb.trans (hv.mono hb.size); clear x1 x2 x3 x4 r1 r2 r3 r4 sz; obtain ⟨_, x1, x2, x3, x4, r1, r2, r3, r4, sz⟩ := BX.out _ hb)
    | (go_at_call 62; refine (isStretch_w _ _ _ _ _ _ (by unfold maxLen; omega)).mono ?_; rintro e wl ⟨rfl, hv⟩; replace hb := hb.trans (hv.mono hb.size); clear x1 x2 x3 x4 r1 r2 r3 r4 sz; obtain ⟨_, x1, x2, x3, x4, r1, r2, r3, r4, sz⟩ := BX.out _ hb)
    | (go_at_call 75; refine (areNotes_w _ _ _ q _ hlq (HNT.out _ hb)).mono ?_; rintro e wl ⟨⟨rb, rfl, hrb⟩, hv⟩; obtain rfl : rb = true := hrb.2 HQ.out; clear hrb; replace hb := hb.trans (hv.mono hb.size); clear x1 x2 x3 x4 r1 r2 r3 r4 sz; obtain ⟨_, x1, x2, x3, x4, r1, r2, r3, r4, sz⟩ := BX.out _ hb)
    | (go_at_call 76; refine (attempt_t A O C P ls cs lt ct n sq lq cq s t q d w _ 0 0 (BX.out _ hb) (Lib.hid (HL.out _ hb)) hn hlq (HNT.out _ hb) HQ hd hne).mono ?_; rintro e wl ⟨a, b, rfl, hl, hlb⟩; have HLI := Lib.hid hl; clear hl; have HX := Lib.hid hlb; clear x1 x2 x3 x4 r1 r2 r3 r4 sz; obtain ⟨_, x1, x2, x3, x4, r1, r2, r3, r4, sz⟩ := hlb))
  have h2 := HX.out.set a b
  generalize (wl.setCell ⟨w.heap.size + 1 + 1 + 1, 0, none⟩ (.int .i64 a)).setCell ⟨w.heap.size + 1 + 1 + 1, 1, none⟩ (.int .i64 b) = W9 at h2 ⊢
  exact bodyPost_ret (v := .tuple #[.agg #[.int .i64 a, .int .i64 b], .int .i64 0]) (by simp [results, Tryz.results37, go_sem, h2.r1, h2.r2]) rfl ⟨⟨a, b, rfl, HLI.out⟩, h2.bel⟩

set_option maxRecDepth 100000 in
set_option maxHeartbeats 4000000 in
theorem lime_f (A O C P ls cs lt ct n : Nat) (sq : Option Addr) (lq cq : Nat) (s : Nat → Int) (t : Nat → St5) (q : Nat → Nt3) (d : Nat) (w : World) (H0 : Hid (LineAt w A O C P ls lt s t)) (hn : n < lt) (hlq : lq ≤ 1000000) (HS : Hid (NtSl w sq lq q)) (HQ : Hid (NotesP lq q)) (hd : Hid ((t n).hi = (t n).lo + d))
    (hne : Hid (ratesL (agAll s (t n) lq q) (t n).lo (d + 1) = [])) :
    Calls Tryz.prog 37 #[.agg #[.slice (some ⟨A, O, none⟩) ls cs, .slice (some ⟨C, P, none⟩) lt ct], .int .i64 (n : Int), .slice sq lq cq] w
      fun e w' => e = .returned (.tuple #[.agg #[.int .i64 0, .int .i64 0], .int .i64 7]) ∧ Below w.heap.size w w' := by
  have HR : Hid (RightP ls lt s t) := Lib.hid ⟨H0.out.ls1, H0.out.ls2, H0.out.lt1, H0.out.lt2, H0.out.sok, H0.out.tok⟩
  have q0 := H0.out.ls2
  have q2 := H0.out.lt2
  have hls : ls ≤ 1000000 := by omega
  have hlt : lt ≤ 1000000 := by omega
  have g1 : fromB 0 ((lt : Int) - 1) (n : Int) = true := by simp only [fromB, decide_eq_true_eq]; omega
  have H : Hid (AnyLine w (some ⟨A, O, none⟩) (some ⟨C, P, none⟩) ls lt s t) := Lib.hid ⟨.inr ⟨A, O, rfl, H0.out.hA, H0.out.sp⟩, .inr ⟨C, P, rfl, H0.out.hC, H0.out.st⟩⟩
  have HL : Hid (∀ w1, Below ((((w.alloc (.cells #[.slice (some ⟨A, O, none⟩) ls cs, .slice (some ⟨C, P, none⟩) lt ct] 25)).alloc (.cells #[.int .i64 (n : Int)] 3)).alloc (.cells #[.slice sq lq cq] 59)).alloc (.cells #[.int .i64 0, .int .i64 0] 31)).heap.size ((((w.alloc (.cells #[.slice (some ⟨A, O, none⟩) ls cs, .slice (some ⟨C, P, none⟩) lt ct] 25)).alloc (.cells #[.int .i64 (n : Int)] 3)).alloc (.cells #[.slice sq lq cq] 59)).alloc (.cells #[.int .i64 0, .int .i64 0] 31)) w1 → LineAt w1 A O C P ls lt s t) := Lib.hid fun w1 h => H0.out.below (have hW := (LB.start w (.slice (some ⟨A, O, none⟩) ls cs) (.slice (some ⟨C, P, none⟩) lt ct) (.int .i64 (n : Int)) (.slice sq lq cq) 0 0 25 3 59 31).bel; hW.trans (h.mono hW.size))
  have BX := Lib.hid (fun (w1 : World) (hb : Below ((((w.alloc (.cells #[.slice (some ⟨A, O, none⟩) ls cs, .slice (some ⟨C, P, none⟩) lt ct] 25)).alloc (.cells #[.int .i64 (n : Int)] 3)).alloc (.cells #[.slice sq lq cq] 59)).alloc (.cells #[.int .i64 0, .int .i64 0] 31)).heap.size ((((w.alloc (.cells #[.slice (some ⟨A, O, none⟩) ls cs, .slice (some ⟨C, P, none⟩) lt ct] 25)).alloc (.cells #[.int .i64 (n : Int)] 3)).alloc (.cells #[.slice sq lq cq] 59)).alloc (.cells #[.int .i64 0, .int .i64 0] 31)) w1) => (LB.start w (.slice (some ⟨A, O, none⟩) ls cs) (.slice (some ⟨C, P, none⟩) lt ct) (.int .i64 (n : Int)) (.slice sq lq cq) 0 0 25 3 59 31).below hb)
  have hW : Below w.heap.size w ((((w.alloc (.cells #[.slice (some ⟨A, O, none⟩) ls cs, .slice (some ⟨C, P, none⟩) lt ct] 25)).alloc (.cells #[.int .i64 (n : Int)] 3)).alloc (.cells #[.slice sq lq cq] 59)).alloc (.cells #[.int .i64 0, .int .i64 0] 31)) := (LB.start w (.slice (some ⟨A, O, none⟩) ls cs) (.slice (some ⟨C, P, none⟩) lt ct) (.int .i64 (n : Int)) (.slice sq lq cq) 0 0 25 3 59 31).bel
  have HN : Hid (∀ w1, Below ((((w.alloc (.cells #[.slice (some ⟨A, O, none⟩) ls cs, .slice (some ⟨C, P, none⟩) lt ct] 25)).alloc (.cells #[.int .i64 (n : Int)] 3)).alloc (.cells #[.slice sq lq cq] 59)).alloc (.cells #[.int .i64 0, .int .i64 0] 31)).heap.size ((((w.alloc (.cells #[.slice (some ⟨A, O, none⟩) ls cs, .slice (some ⟨C, P, none⟩) lt ct] 25)).alloc (.cells #[.int .i64 (n : Int)] 3)).alloc (.cells #[.slice sq lq cq] 59)).alloc (.cells #[.int .i64 0, .int .i64 0] 31)) w1 → Hid (AnyLine w1 (some ⟨A, O, none⟩) (some ⟨C, P, none⟩) ls lt s t)) := Lib.hid fun w1 h => Lib.hid (H.out.below (hW.trans (h.mono hW.size)))
  have HNT : Hid (∀ w1, Below ((((w.alloc (.cells #[.slice (some ⟨A, O, none⟩) ls cs, .slice (some ⟨C, P, none⟩) lt ct] 25)).alloc (.cells #[.int .i64 (n : Int)] 3)).alloc (.cells #[.slice sq lq cq] 59)).alloc (.cells #[.int .i64 0, .int .i64 0] 31)).heap.size ((((w.alloc (.cells #[.slice (some ⟨A, O, none⟩) ls cs, .slice (some ⟨C, P, none⟩) lt ct] 25)).alloc (.cells #[.int .i64 (n : Int)] 3)).alloc (.cells #[.slice sq lq cq] 59)).alloc (.cells #[.int .i64 0, .int .i64 0] 31)) w1 → Hid (NtSl w1 sq lq q)) := Lib.hid fun w1 h => Lib.hid (HS.out.below (hW.trans (h.mono hW.size)))
  have hb : Below ((((w.alloc (.cells #[.slice (some ⟨A, O, none⟩) ls cs, .slice (some ⟨C, P, none⟩) lt ct] 25)).alloc (.cells #[.int .i64 (n : Int)] 3)).alloc (.cells #[.slice sq lq cq] 59)).alloc (.cells #[.int .i64 0, .int .i64 0] 31)).heap.size ((((w.alloc (.cells #[.slice (some ⟨A, O, none⟩) ls cs, .slice (some ⟨C, P, none⟩) lt ct] 25)).alloc (.cells #[.int .i64 (n : Int)] 3)).alloc (.cells #[.slice sq lq cq] 59)).alloc (.cells #[.int .i64 0, .int .i64 0] 31)) ((((w.alloc (.cells #[.slice (some ⟨A, O, none⟩) ls cs, .slice (some ⟨C, P, none⟩) lt ct] 25)).alloc (.cells #[.int .i64 (n : Int)] 3)).alloc (.cells #[.slice sq lq cq] 59)).alloc (.cells #[.int .i64 0, .int .i64 0] 31)) := Below.refl _ _
  obtain ⟨_, x1, x2, x3, x4, r1, r2, r3, r4, sz⟩ := BX.out _ hb
  clear hW
  clear H HS H0
  have hmf : ∀ (fn : Fn) (first cap : Array Value) (w : World), (Instr.makeFunc fn first cap).run Tryz.prog w = .ok (.func fn first cap) w := fun _ _ _ _ => rfl
  go_enter Tryz.func37, Tryz.ntmps37
  go_wp2_with (first
    | (go_at_call 61; refine (isLine2_w _ _ _ _ _ _ s t _ hls hlt (HN.out _ hb)).mono ?_; rintro e wl ⟨⟨rb, rfl, hrb⟩, hv⟩; obtain rfl : rb = true := hrb.2 HR.out; clear hrb; replace hb := hb.trans (hv.mono hb.size); clear x1 x2 x3 x4 r1 r2 r3 r4 sz; obtain ⟨_, x1, x2, x3, x4, r1, r2, r3, r4, sz⟩ := BX.out _ hb)
    | (go_at_call 62; refine (isStretch_w _ _ _ _ _ _ (by unfold maxLen; omega)).mono ?_; rintro e wl ⟨rfl, hv⟩; replace hb := hb.trans (hv.mono hb.size); clear x1 x2 x3 x4 r1 r2 r3 r4 sz; obtain ⟨_, x1, x2, x3, x4, r1, r2, r3, r4, sz⟩ := BX.out _ hb)
    | (go_at_call 75; refine (areNotes_w _ _ _ q _ hlq (HNT.out _ hb)).mono ?_; rintro e wl ⟨⟨rb, rfl, hrb⟩, hv⟩; obtain rfl : rb = true := hrb.2 HQ.out; clear hrb; replace hb := hb.trans (hv.mono hb.size); clear x1 x2 x3 x4 r1 r2 r3 r4 sz; obtain ⟨_, x1, x2, x3, x4, r1, r2, r3, r4, sz⟩ := BX.out _ hb)
    | (go_at_call 76; refine (attempt_f A O C P ls cs lt ct n sq lq cq s t q d w _ 0 0 (BX.out _ hb) (Lib.hid (HL.out _ hb)) hn hlq (HNT.out _ hb) HQ hd hne).mono ?_; rintro e wl ⟨rfl, hlb⟩; have HX := Lib.hid hlb; clear x1 x2 x3 x4 r1 r2 r3 r4 sz; obtain ⟨_, x1, x2, x3, x4, r1, r2, r3, r4, sz⟩ := hlb))
  have h2 := HX.out.set 0 0
  generalize (wl.setCell ⟨w.heap.size + 1 + 1 + 1, 0, none⟩ (.int .i64 0)).setCell ⟨w.heap.size + 1 + 1 + 1, 1, none⟩ (.int .i64 0) = W9 at h2 ⊢
  exact bodyPost_ret (v := .tuple #[.agg #[.int .i64 0, .int .i64 0], .int .i64 7]) (by simp [results, Tryz.results37, go_sem, h2.r1, h2.r2]) rfl ⟨rfl, h2.bel⟩

end Go.Kn

namespace Go.Kn
open Go Go.Proofs Go.RowKit

theorem LimeP.nil {Ag : Int → Prop} {lo hi a b : Int} (h : LimeP Ag lo hi a b) (he : ∀ r, lo ≤ r → r < hi → ¬ Ag r) : a = -1 ∧ b = -1 := by
  rcases h with ⟨h1, h2, h3⟩ | ⟨h1, h2, h3, h4, h5, h6, h7⟩
  · exact ⟨h1, h2⟩
  · exact (he a h1 (by omega) h4).elim

theorem LimeP.pos {Ag : Int → Prop} {lo hi a b : Int} (h : LimeP Ag lo hi a b) (he : ∃ r, lo ≤ r ∧ r < hi ∧ Ag r) (h0 : 0 ≤ lo) : 0 ≤ a := by
  rcases h with ⟨h1, h2, h3⟩ | ⟨h1, h2, h3, h4, h5, h6, h7⟩
  · obtain ⟨r, e1, e2, e3⟩ := he
    exact (h3 r e1 e2 e3).elim
  · omega

theorem LimeP.uniq {Ag : Int → Prop} {lo hi a b c d : Int} (h : LimeP Ag lo hi a b) (g : LimeP Ag lo hi c d) : c = a ∧ d = b := by
  rcases g with ⟨g1, g2, g3⟩ | ⟨g1, g2, g3, g4, g5, g6, g7⟩
  · obtain ⟨e1, e2⟩ := h.nil g3
    exact ⟨by omega, by omega⟩
  · rcases h with ⟨h1, h2, h3⟩ | ⟨h1, h2, h3, h4, h5, h6, h7⟩
    · exact (h3 c g1 (by omega) g4).elim
    · constructor
      · rcases Int.lt_trichotomy c a with e | e | e
        · exact (h6 c g1 e g4).elim
        · exact e
        · exact (g6 a h1 e h4).elim
      · rcases Int.lt_trichotomy d b with e | e | e
        · exact (g7 b e h3 h5).elim
        · exact e
        · exact (h7 d e g3 g5).elim

theorem ratesL_some {b : Int → Bool} {lo : Int} {k j : Nat} (hj : j < k) (h : b (lo + j) = true) : ratesL b lo k ≠ [] := by
  induction k with
  | zero => omega
  | succ k ih =>
    cases e : b (lo + k)
    · rw [ratesL_f e]
      refine ih ?_
      rcases Nat.lt_succ_iff_lt_or_eq.1 hj with h1 | h1
      · exact h1
      · subst h1; rw [e] at h; cases h
    · rw [ratesL_t e]; simp

theorem ratesL_none {b : Int → Bool} {lo : Int} {k : Nat} (h : ∀ j, j < k → b (lo + (j : Int)) = false) : ratesL b lo k = [] := by
  induction k with
  | zero => rfl
  | succ k ih => rw [ratesL_f (h k (by omega))]; exact ih fun j hj => h j (by omega)

set_option maxRecDepth 100000 in
set_option maxHeartbeats 4000000 in
theorem lawl9_a (sa ta sq : Option Addr) (ls cs lt ct lq cq : Nat) (s : Nat → Int) (t : Nat → St5) (q : Nat → Nt3) (st : Int) (w : World) (hls : ls ≤ maxLen) (hlt : lt ≤ maxLen) (hlq : lq ≤ maxLen) (hq : ¬ (ls ≤ 13 ∧ lt ≤ 10)) (H : Hid (AnyLine w sa ta ls lt s t)) (HS : Hid (NtSl w sq lq q)) (K : Hid KnownOk) :
    Calls Tryz.prog 9 #[.agg #[.slice sa ls cs, .slice ta lt ct], .int .i64 st, .slice sq lq cq] w
      fun e w' => e = .returned (.bool true) ∧ Below w.heap.size w w' := by
  have hsh : decide (ls ≤ 13 ∧ lt ≤ 10) = false := decide_eq_false hq
  have BX := Lib.hid (fun (w1 : World) (hb : Below (w.alloc (.cells #[.slice sa ls cs, .slice ta lt ct] 25)).heap.size (w.alloc (.cells #[.slice sa ls cs, .slice ta lt ct] 25)) w1) => box_cells hb)
  have HN : Hid (∀ w1, Below (w.alloc (.cells #[.slice sa ls cs, .slice ta lt ct] 25)).heap.size (w.alloc (.cells #[.slice sa ls cs, .slice ta lt ct] 25)) w1 → Hid (AnyLine w1 sa ta ls lt s t)) := Lib.hid fun w1 h => Lib.hid (H.out.below (below_al h))
  have HI : Hid (∀ w1, Below (w.alloc (.cells #[.slice sa ls cs, .slice ta lt ct] 25)).heap.size (w.alloc (.cells #[.slice sa ls cs, .slice ta lt ct] 25)) w1 → Hid (NtSl w1 sq lq q)) := Lib.hid fun w1 h => Lib.hid (HS.out.below (below_al h))
  have hb : Below (w.alloc (.cells #[.slice sa ls cs, .slice ta lt ct] 25)).heap.size (w.alloc (.cells #[.slice sa ls cs, .slice ta lt ct] 25)) (w.alloc (.cells #[.slice sa ls cs, .slice ta lt ct] 25)) := Below.refl _ _
  obtain ⟨x1, x2, x3⟩ := BX.out _ hb
  clear H HS
  go_enter Tryz.func9, Tryz.ntmps9
  go_wp2_with (first
    | (go_at_call 16; refine (short_w _ _ _ _ _ _ _ hls hlt).mono ?_; rw [hsh]; rintro e wl ⟨rfl, hv⟩; replace hb := hb.trans (hv.mono hb.size); clear x1 x2 x3; obtain ⟨x1, x2, x3⟩ := BX.out _ hb)
    | (go_at_call 17; refine (K.out _).mono ?_; rintro e wl ⟨rfl, hv⟩; replace hb := hb.trans (hv.mono hb.size); clear x1 x2 x3; obtain ⟨x1, x2, x3⟩ := BX.out _ hb))
  go_ret
  exact ⟨rfl, below_al hb⟩

set_option maxRecDepth 100000 in
set_option maxHeartbeats 4000000 in
theorem lawl9_b (sa ta sq : Option Addr) (ls cs lt ct lq cq : Nat) (s : Nat → Int) (t : Nat → St5) (q : Nat → Nt3) (st : Int) (w : World) (hls : ls ≤ maxLen) (hlt : lt ≤ maxLen) (hlq : lq ≤ maxLen) (hq : ls ≤ 13 ∧ lt ≤ 10) (hqq : ¬ lq ≤ 11) (H : Hid (AnyLine w sa ta ls lt s t)) (HS : Hid (NtSl w sq lq q)) (K : Hid KnownOk) :
    Calls Tryz.prog 9 #[.agg #[.slice sa ls cs, .slice ta lt ct], .int .i64 st, .slice sq lq cq] w
      fun e w' => e = .returned (.bool true) ∧ Below w.heap.size w w' := by
  have hsh : decide (ls ≤ 13 ∧ lt ≤ 10) = true := decide_eq_true hq
  have hq10 : (11 : Int) < (lq : Int) := by omega
  have BX := Lib.hid (fun (w1 : World) (hb : Below (w.alloc (.cells #[.slice sa ls cs, .slice ta lt ct] 25)).heap.size (w.alloc (.cells #[.slice sa ls cs, .slice ta lt ct] 25)) w1) => box_cells hb)
  have HN : Hid (∀ w1, Below (w.alloc (.cells #[.slice sa ls cs, .slice ta lt ct] 25)).heap.size (w.alloc (.cells #[.slice sa ls cs, .slice ta lt ct] 25)) w1 → Hid (AnyLine w1 sa ta ls lt s t)) := Lib.hid fun w1 h => Lib.hid (H.out.below (below_al h))
  have HI : Hid (∀ w1, Below (w.alloc (.cells #[.slice sa ls cs, .slice ta lt ct] 25)).heap.size (w.alloc (.cells #[.slice sa ls cs, .slice ta lt ct] 25)) w1 → Hid (NtSl w1 sq lq q)) := Lib.hid fun w1 h => Lib.hid (HS.out.below (below_al h))
  have hb : Below (w.alloc (.cells #[.slice sa ls cs, .slice ta lt ct] 25)).heap.size (w.alloc (.cells #[.slice sa ls cs, .slice ta lt ct] 25)) (w.alloc (.cells #[.slice sa ls cs, .slice ta lt ct] 25)) := Below.refl _ _
  obtain ⟨x1, x2, x3⟩ := BX.out _ hb
  clear H HS
  go_enter Tryz.func9, Tryz.ntmps9
  go_wp2_with (first
    | (go_at_call 16; refine (short_w _ _ _ _ _ _ _ hls hlt).mono ?_; rw [hsh]; rintro e wl ⟨rfl, hv⟩; replace hb := hb.trans (hv.mono hb.size); clear x1 x2 x3; obtain ⟨x1, x2, x3⟩ := BX.out _ hb)
    | (go_at_call 17; refine (K.out _).mono ?_; rintro e wl ⟨rfl, hv⟩; replace hb := hb.trans (hv.mono hb.size); clear x1 x2 x3; obtain ⟨x1, x2, x3⟩ := BX.out _ hb))
  go_ret
  exact ⟨rfl, below_al hb⟩

set_option maxRecDepth 100000 in
set_option maxHeartbeats 4000000 in
theorem lawl9_c (sa ta sq : Option Addr) (ls cs lt ct lq cq : Nat) (s : Nat → Int) (t : Nat → St5) (q : Nat → Nt3) (st : Int) (w : World) (hls : ls ≤ 1000000) (hlt : lt ≤ 1000000) (hlq : lq ≤ 1000000) (hq : ls ≤ 13 ∧ lt ≤ 10) (hqq : lq ≤ 11) (HR : Hid (¬ RightP ls lt s t)) (H : Hid (AnyLine w sa ta ls lt s t)) (HS : Hid (NtSl w sq lq q)) (K : Hid KnownOk) :
    Calls Tryz.prog 9 #[.agg #[.slice sa ls cs, .slice ta lt ct], .int .i64 st, .slice sq lq cq] w
      fun e w' => e = .returned (.bool true) ∧ Below w.heap.size w w' := by
  have hsh : decide (ls ≤ 13 ∧ lt ≤ 10) = true := decide_eq_true hq
  have hq10 : (lq : Int) ≤ (11 : Int) := by omega
  have BX := Lib.hid (fun (w1 : World) (hb : Below (w.alloc (.cells #[.slice sa ls cs, .slice ta lt ct] 25)).heap.size (w.alloc (.cells #[.slice sa ls cs, .slice ta lt ct] 25)) w1) => box_cells hb)
  have HN : Hid (∀ w1, Below (w.alloc (.cells #[.slice sa ls cs, .slice ta lt ct] 25)).heap.size (w.alloc (.cells #[.slice sa ls cs, .slice ta lt ct] 25)) w1 → Hid (AnyLine w1 sa ta ls lt s t)) := Lib.hid fun w1 h => Lib.hid (H.out.below (below_al h))
  have HI : Hid (∀ w1, Below (w.alloc (.cells #[.slice sa ls cs, .slice ta lt ct] 25)).heap.size (w.alloc (.cells #[.slice sa ls cs, .slice ta lt ct] 25)) w1 → Hid (NtSl w1 sq lq q)) := Lib.hid fun w1 h => Lib.hid (HS.out.below (below_al h))
  have hb : Below (w.alloc (.cells #[.slice sa ls cs, .slice ta lt ct] 25)).heap.size (w.alloc (.cells #[.slice sa ls cs, .slice ta lt ct] 25)) (w.alloc (.cells #[.slice sa ls cs, .slice ta lt ct] 25)) := Below.refl _ _
  obtain ⟨x1, x2, x3⟩ := BX.out _ hb
  clear H HS
  go_enter Tryz.func9, Tryz.ntmps9
  go_wp2_with (first
    | (go_at_call 16; refine (short_w _ _ _ _ _ _ _ (by unfold maxLen; omega) (by unfold maxLen; omega)).mono ?_; rw [hsh]; rintro e wl ⟨rfl, hv⟩; replace hb := hb.trans (hv.mono hb.size); clear x1 x2 x3; obtain ⟨x1, x2, x3⟩ := BX.out _ hb)
    | (go_at_call 37; refine (limeF1 _ _ _ _ _ _ _ _ _ s t q _ _ hls hlt hlq (HN.out _ hb) (HI.out _ hb) HR).mono ?_; rintro e wl ⟨rfl, hv⟩; replace hb := hb.trans (hv.mono hb.size); clear x1 x2 x3; obtain ⟨x1, x2, x3⟩ := BX.out _ hb; replace hb := hb.alloc hb.size (.cells #[.int .i64 0, .int .i64 0] 31); have hy := Below.refl (wl.alloc (.cells #[.int .i64 0, .int .i64 0] 31)).heap.size (wl.alloc (.cells #[.int .i64 0, .int .i64 0] 31)))
    | (go_at_call 20; refine (right_w _ _ _ _ _ _ s t _ hls hlt (Lib.hid (HN.out _ hb).out.hs) (Lib.hid (HN.out _ hb).out.ht)).mono ?_; rintro e wl ⟨⟨rb, rfl, hrb⟩, hv⟩; obtain rfl : rb = false := (by cases rb <;> first | rfl | exact (HR.out (hrb.1 rfl)).elim); clear hrb; replace hb := hb.trans (hv.mono hb.size); clear x1 x2 x3; obtain ⟨x1, x2, x3⟩ := BX.out _ hb; replace hy := hy.trans (hv.mono hy.size); (try clear y1 y2 y3); obtain ⟨y1, y2, y3⟩ := box_cells hy)
    | (go_at_call 17; refine (K.out _).mono ?_; rintro e wl ⟨rfl, hv⟩; replace hb := hb.trans (hv.mono hb.size); clear x1 x2 x3; obtain ⟨x1, x2, x3⟩ := BX.out _ hb))
  go_ret
  exact ⟨rfl, below_al hb⟩

set_option maxRecDepth 100000 in
set_option maxHeartbeats 4000000 in
theorem lawl9_d (sa ta sq : Option Addr) (ls cs lt ct lq cq : Nat) (s : Nat → Int) (t : Nat → St5) (q : Nat → Nt3) (st : Int) (w : World) (hls : ls ≤ 1000000) (hlt : lt ≤ 1000000) (hlq : lq ≤ 1000000) (hq : ls ≤ 13 ∧ lt ≤ 10) (hqq : lq ≤ 11) (HR : Hid (RightP ls lt s t)) (g1 : fromB 0 ((lt : Int) - 1) st = false) (H : Hid (AnyLine w sa ta ls lt s t)) (HS : Hid (NtSl w sq lq q)) (K : Hid KnownOk) :
    Calls Tryz.prog 9 #[.agg #[.slice sa ls cs, .slice ta lt ct], .int .i64 st, .slice sq lq cq] w
      fun e w' => e = .returned (.bool true) ∧ Below w.heap.size w w' := by
  have hsh : decide (ls ≤ 13 ∧ lt ≤ 10) = true := decide_eq_true hq
  have hq10 : (lq : Int) ≤ (11 : Int) := by omega
  have BX := Lib.hid (fun (w1 : World) (hb : Below (w.alloc (.cells #[.slice sa ls cs, .slice ta lt ct] 25)).heap.size (w.alloc (.cells #[.slice sa ls cs, .slice ta lt ct] 25)) w1) => box_cells hb)
  have HN : Hid (∀ w1, Below (w.alloc (.cells #[.slice sa ls cs, .slice ta lt ct] 25)).heap.size (w.alloc (.cells #[.slice sa ls cs, .slice ta lt ct] 25)) w1 → Hid (AnyLine w1 sa ta ls lt s t)) := Lib.hid fun w1 h => Lib.hid (H.out.below (below_al h))
  have HI : Hid (∀ w1, Below (w.alloc (.cells #[.slice sa ls cs, .slice ta lt ct] 25)).heap.size (w.alloc (.cells #[.slice sa ls cs, .slice ta lt ct] 25)) w1 → Hid (NtSl w1 sq lq q)) := Lib.hid fun w1 h => Lib.hid (HS.out.below (below_al h))
  have hb : Below (w.alloc (.cells #[.slice sa ls cs, .slice ta lt ct] 25)).heap.size (w.alloc (.cells #[.slice sa ls cs, .slice ta lt ct] 25)) (w.alloc (.cells #[.slice sa ls cs, .slice ta lt ct] 25)) := Below.refl _ _
  obtain ⟨x1, x2, x3⟩ := BX.out _ hb
  clear H HS
  go_enter Tryz.func9, Tryz.ntmps9
  go_wp2_with (first
    | (go_at_call 16; refine (short_w _ _ _ _ _ _ _ (by unfold maxLen; omega) (by unfold maxLen; omega)).mono ?_; rw [hsh]; rintro e wl ⟨rfl, hv⟩; replace hb := hb.trans (hv.mono hb.size); clear x1 x2 x3; obtain ⟨x1, x2, x3⟩ := BX.out _ hb)
    | (go_at_call 37; refine (limeF2 _ _ _ _ _ _ _ _ _ s t q _ _ hls hlt hlq (HN.out _ hb) (HI.out _ hb) HR g1).mono ?_; rintro e wl ⟨rfl, hv⟩; replace hb := hb.trans (hv.mono hb.size); clear x1 x2 x3; obtain ⟨x1, x2, x3⟩ := BX.out _ hb; replace hb := hb.alloc hb.size (.cells #[.int .i64 0, .int .i64 0] 31); have hy := Below.refl (wl.alloc (.cells #[.int .i64 0, .int .i64 0] 31)).heap.size (wl.alloc (.cells #[.int .i64 0, .int .i64 0] 31)))
    | (go_at_call 20; refine (right_w _ _ _ _ _ _ s t _ hls hlt (Lib.hid (HN.out _ hb).out.hs) (Lib.hid (HN.out _ hb).out.ht)).mono ?_; rintro e wl ⟨⟨rb, rfl, hrb⟩, hv⟩; obtain rfl : rb = true := hrb.2 HR.out; clear hrb; replace hb := hb.trans (hv.mono hb.size); clear x1 x2 x3; obtain ⟨x1, x2, x3⟩ := BX.out _ hb; replace hy := hy.trans (hv.mono hy.size); (try clear y1 y2 y3); obtain ⟨y1, y2, y3⟩ := box_cells hy)
    | (go_at_call 21; refine (number_w _ undef _ _ _ _ _ (by unfold maxLen; omega)).mono ?_; rintro e wl ⟨rfl, hv⟩; replace hb := hb.trans (hv.mono hb.size); clear x1 x2 x3; obtain ⟨x1, x2, x3⟩ := BX.out _ hb; replace hy := hy.trans (hv.mono hy.size); (try clear y1 y2 y3); obtain ⟨y1, y2, y3⟩ := box_cells hy)
    | (go_at_call 17; refine (K.out _).mono ?_; rintro e wl ⟨rfl, hv⟩; replace hb := hb.trans (hv.mono hb.size); clear x1 x2 x3; obtain ⟨x1, x2, x3⟩ := BX.out _ hb))
  go_ret
  exact ⟨rfl, below_al hb⟩

set_option maxRecDepth 100000 in
set_option maxHeartbeats 4000000 in
theorem lawl9_e (sa ta sq : Option Addr) (ls cs lt ct lq cq : Nat) (s : Nat → Int) (t : Nat → St5) (q : Nat → Nt3) (st : Int) (w : World) (hls : ls ≤ 1000000) (hlt : lt ≤ 1000000) (hlq : lq ≤ 1000000) (hq : ls ≤ 13 ∧ lt ≤ 10) (hqq : lq ≤ 11) (HR : Hid (RightP ls lt s t)) (g1 : fromB 0 ((lt : Int) - 1) st = true) (HQ : Hid (¬ NotesP lq q)) (H : Hid (AnyLine w sa ta ls lt s t)) (HS : Hid (NtSl w sq lq q)) (K : Hid KnownOk) :
    Calls Tryz.prog 9 #[.agg #[.slice sa ls cs, .slice ta lt ct], .int .i64 st, .slice sq lq cq] w
      fun e w' => e = .returned (.bool true) ∧ Below w.heap.size w w' := by
  have hsh : decide (ls ≤ 13 ∧ lt ≤ 10) = true := decide_eq_true hq
  have hq10 : (lq : Int) ≤ (11 : Int) := by omega
  have BX := Lib.hid (fun (w1 : World) (hb : Below (w.alloc (.cells #[.slice sa ls cs, .slice ta lt ct] 25)).heap.size (w.alloc (.cells #[.slice sa ls cs, .slice ta lt ct] 25)) w1) => box_cells hb)
  have HN : Hid (∀ w1, Below (w.alloc (.cells #[.slice sa ls cs, .slice ta lt ct] 25)).heap.size (w.alloc (.cells #[.slice sa ls cs, .slice ta lt ct] 25)) w1 → Hid (AnyLine w1 sa ta ls lt s t)) := Lib.hid fun w1 h => Lib.hid (H.out.below (below_al h))
  have HI : Hid (∀ w1, Below (w.alloc (.cells #[.slice sa ls cs, .slice ta lt ct] 25)).heap.size (w.alloc (.cells #[.slice sa ls cs, .slice ta lt ct] 25)) w1 → Hid (NtSl w1 sq lq q)) := Lib.hid fun w1 h => Lib.hid (HS.out.below (below_al h))
  have hb : Below (w.alloc (.cells #[.slice sa ls cs, .slice ta lt ct] 25)).heap.size (w.alloc (.cells #[.slice sa ls cs, .slice ta lt ct] 25)) (w.alloc (.cells #[.slice sa ls cs, .slice ta lt ct] 25)) := Below.refl _ _
  obtain ⟨x1, x2, x3⟩ := BX.out _ hb
  clear H HS
  go_enter Tryz.func9, Tryz.ntmps9
  go_wp2_with (first
    | (go_at_call 16; refine (short_w _ _ _ _ _ _ _ (by unfold maxLen; omega) (by unfold maxLen; omega)).mono ?_; rw [hsh]; rintro e wl ⟨rfl, hv⟩; replace hb := hb.trans (hv.mono hb.size); clear x1 x2 x3; obtain ⟨x1, x2, x3⟩ := BX.out _ hb)
    | (go_at_call 37; refine (limeF3 _ _ _ _ _ _ _ _ _ s t q _ _ hls hlt hlq (HN.out _ hb) (HI.out _ hb) HR g1 HQ).mono ?_; rintro e wl ⟨rfl, hv⟩; replace hb := hb.trans (hv.mono hb.size); clear x1 x2 x3; obtain ⟨x1, x2, x3⟩ := BX.out _ hb; replace hb := hb.alloc hb.size (.cells #[.int .i64 0, .int .i64 0] 31); have hy := Below.refl (wl.alloc (.cells #[.int .i64 0, .int .i64 0] 31)).heap.size (wl.alloc (.cells #[.int .i64 0, .int .i64 0] 31)))
    | (go_at_call 20; refine (right_w _ _ _ _ _ _ s t _ hls hlt (Lib.hid (HN.out _ hb).out.hs) (Lib.hid (HN.out _ hb).out.ht)).mono ?_; rintro e wl ⟨⟨rb, rfl, hrb⟩, hv⟩; obtain rfl : rb = true := hrb.2 HR.out; clear hrb; replace hb := hb.trans (hv.mono hb.size); clear x1 x2 x3; obtain ⟨x1, x2, x3⟩ := BX.out _ hb; replace hy := hy.trans (hv.mono hy.size); (try clear y1 y2 y3); obtain ⟨y1, y2, y3⟩ := box_cells hy)
    | (go_at_call 21; refine (number_w _ undef _ _ _ _ _ (by unfold maxLen; omega)).mono ?_; rintro e wl ⟨rfl, hv⟩; replace hb := hb.trans (hv.mono hb.size); clear x1 x2 x3; obtain ⟨x1, x2, x3⟩ := BX.out _ hb; replace hy := hy.trans (hv.mono hy.size); (try clear y1 y2 y3); obtain ⟨y1, y2, y3⟩ := box_cells hy)
    | (go_at_call 38; refine (notes_w _ _ _ q _ hlq (HI.out _ hb)).mono ?_; rintro e wl ⟨⟨rb, rfl, hrb⟩, hv⟩; obtain rfl : rb = false := (by cases rb <;> first | rfl | exact (HQ.out (hrb.1 rfl)).elim); clear hrb; replace hb := hb.trans (hv.mono hb.size); clear x1 x2 x3; obtain ⟨x1, x2, x3⟩ := BX.out _ hb; replace hy := hy.trans (hv.mono hy.size); (try clear y1 y2 y3); obtain ⟨y1, y2, y3⟩ := box_cells hy)
    | (go_at_call 17; refine (K.out _).mono ?_; rintro e wl ⟨rfl, hv⟩; replace hb := hb.trans (hv.mono hb.size); clear x1 x2 x3; obtain ⟨x1, x2, x3⟩ := BX.out _ hb))
  go_ret
  exact ⟨rfl, below_al hb⟩

set_option maxRecDepth 100000 in
set_option maxHeartbeats 4000000 in
theorem lawl9_f (A O C P ls cs lt ct n d : Nat) (sq : Option Addr) (lq cq : Nat) (s : Nat → Int) (t : Nat → St5) (q : Nat → Nt3) (w : World) (H0 : Hid (LineAt w A O C P ls lt s t)) (hn : n < lt) (hqq : lq ≤ 11) (HS : Hid (NtSl w sq lq q)) (HQ : Hid (NotesP lq q)) (HD : Hid ((t n).hi = (t n).lo + d)) (h0 : 0 ≤ (t n).lo) (HE : Hid (∀ r, (t n).lo ≤ r → r < (t n).hi + 1 → ¬ AgP s (t n) lq q r))
    (hne : Hid (ratesL (agAll s (t n) lq q) (t n).lo (d + 1) = [])) (K : Hid KnownOk) :
    Calls Tryz.prog 9 #[.agg #[.slice (some ⟨A, O, none⟩) ls cs, .slice (some ⟨C, P, none⟩) lt ct], .int .i64 (n : Int), .slice sq lq cq] w
      fun e w' => e = .returned (.bool true) ∧ Below w.heap.size w w' := by
  have HR : Hid (RightP ls lt s t) := Lib.hid ⟨H0.out.ls1, H0.out.ls2, H0.out.lt1, H0.out.lt2, H0.out.sok, H0.out.tok⟩
  have q0 := H0.out.ls2
  have q1 := H0.out.lt1
  have q2 := H0.out.lt2
  have hls : ls ≤ 1000000 := by omega
  have hlt : lt ≤ 1000000 := by omega
  have hlq : lq ≤ 1000000 := by omega
  have hsh : decide (ls ≤ 13 ∧ lt ≤ 10) = true := by simp; omega
  have hq10 : (lq : Int) ≤ (11 : Int) := by omega
  have H : Hid (AnyLine w (some ⟨A, O, none⟩) (some ⟨C, P, none⟩) ls lt s t) := Lib.hid ⟨.inr ⟨A, O, rfl, H0.out.hA, H0.out.sp⟩, .inr ⟨C, P, rfl, H0.out.hC, H0.out.st⟩⟩
  have g1 : fromB 0 ((lt : Int) - 1) (n : Int) = true := by simp only [fromB, decide_eq_true_eq]; omega
  have BX := Lib.hid (fun (w1 : World) (hb : Below (w.alloc (.cells #[.slice (some ⟨A, O, none⟩) ls cs, .slice (some ⟨C, P, none⟩) lt ct] 25)).heap.size (w.alloc (.cells #[.slice (some ⟨A, O, none⟩) ls cs, .slice (some ⟨C, P, none⟩) lt ct] 25)) w1) => box_cells hb)
  have HN : Hid (∀ w1, Below (w.alloc (.cells #[.slice (some ⟨A, O, none⟩) ls cs, .slice (some ⟨C, P, none⟩) lt ct] 25)).heap.size (w.alloc (.cells #[.slice (some ⟨A, O, none⟩) ls cs, .slice (some ⟨C, P, none⟩) lt ct] 25)) w1 → Hid (AnyLine w1 (some ⟨A, O, none⟩) (some ⟨C, P, none⟩) ls lt s t)) := Lib.hid fun w1 h => Lib.hid (H.out.below (below_al h))
  have HL : Hid (∀ w1, Below (w.alloc (.cells #[.slice (some ⟨A, O, none⟩) ls cs, .slice (some ⟨C, P, none⟩) lt ct] 25)).heap.size (w.alloc (.cells #[.slice (some ⟨A, O, none⟩) ls cs, .slice (some ⟨C, P, none⟩) lt ct] 25)) w1 → LineAt w1 A O C P ls lt s t) := Lib.hid fun w1 h => H0.out.below (below_al h)
  have HI : Hid (∀ w1, Below (w.alloc (.cells #[.slice (some ⟨A, O, none⟩) ls cs, .slice (some ⟨C, P, none⟩) lt ct] 25)).heap.size (w.alloc (.cells #[.slice (some ⟨A, O, none⟩) ls cs, .slice (some ⟨C, P, none⟩) lt ct] 25)) w1 → Hid (NtSl w1 sq lq q)) := Lib.hid fun w1 h => Lib.hid (HS.out.below (below_al h))
  have hb : Below (w.alloc (.cells #[.slice (some ⟨A, O, none⟩) ls cs, .slice (some ⟨C, P, none⟩) lt ct] 25)).heap.size (w.alloc (.cells #[.slice (some ⟨A, O, none⟩) ls cs, .slice (some ⟨C, P, none⟩) lt ct] 25)) (w.alloc (.cells #[.slice (some ⟨A, O, none⟩) ls cs, .slice (some ⟨C, P, none⟩) lt ct] 25)) := Below.refl _ _
  obtain ⟨x1, x2, x3⟩ := BX.out _ hb
  clear H HS H0
  go_enter Tryz.func9, Tryz.ntmps9
  go_wp2_with (first
    | (go_at_call 16; refine (short_w _ _ _ _ _ _ _ (by unfold maxLen; omega) (by unfold maxLen; omega)).mono ?_; rw [hsh]; rintro e wl ⟨rfl, hv⟩; replace hb := hb.trans (hv.mono hb.size); clear x1 x2 x3; obtain ⟨x1, x2, x3⟩ := BX.out _ hb)
    | (go_at_call 37; refine (lime_f _ _ _ _ _ _ _ _ n _ _ _ s t q d _ (Lib.hid (HL.out _ hb)) hn hlq (HI.out _ hb) HQ HD hne).mono ?_; rintro e wl ⟨rfl, hv⟩; replace hb := hb.trans (hv.mono hb.size); clear x1 x2 x3; obtain ⟨x1, x2, x3⟩ := BX.out _ hb; replace hb := hb.alloc hb.size (.cells #[.int .i64 0, .int .i64 0] 31); have hy := Below.refl (wl.alloc (.cells #[.int .i64 0, .int .i64 0] 31)).heap.size (wl.alloc (.cells #[.int .i64 0, .int .i64 0] 31)))
    | (go_at_call 20; refine (right_w _ _ _ _ _ _ s t _ hls hlt (Lib.hid (HN.out _ hb).out.hs) (Lib.hid (HN.out _ hb).out.ht)).mono ?_; rintro e wl ⟨⟨rb, rfl, hrb⟩, hv⟩; obtain rfl : rb = true := hrb.2 HR.out; clear hrb; replace hb := hb.trans (hv.mono hb.size); clear x1 x2 x3; obtain ⟨x1, x2, x3⟩ := BX.out _ hb; replace hy := hy.trans (hv.mono hy.size); (try clear y1 y2 y3); obtain ⟨y1, y2, y3⟩ := box_cells hy)
    | (go_at_call 21; refine (number_w _ undef _ _ _ _ _ (by unfold maxLen; omega)).mono ?_; rintro e wl ⟨rfl, hv⟩; replace hb := hb.trans (hv.mono hb.size); clear x1 x2 x3; obtain ⟨x1, x2, x3⟩ := BX.out _ hb; replace hy := hy.trans (hv.mono hy.size); (try clear y1 y2 y3); obtain ⟨y1, y2, y3⟩ := box_cells hy)
    | (go_at_call 38; refine (notes_w _ _ _ q _ hlq (HI.out _ hb)).mono ?_; rintro e wl ⟨⟨rb, rfl, hrb⟩, hv⟩; obtain rfl : rb = true := hrb.2 HQ.out; clear hrb; replace hb := hb.trans (hv.mono hb.size); clear x1 x2 x3; obtain ⟨x1, x2, x3⟩ := BX.out _ hb; replace hy := hy.trans (hv.mono hy.size); (try clear y1 y2 y3); obtain ⟨y1, y2, y3⟩ := box_cells hy)
    | (go_at_call 39; refine (refLime_w _ _ _ _ _ _ _ _ n _ _ _ s t q _ (Lib.hid (HL.out _ hb)) hn hlq (HI.out _ hb) HQ).mono ?_; rintro e wl ⟨⟨a, b, rfl, hl⟩, hv⟩; obtain ⟨rfl, rfl⟩ := hl.nil HE.out; clear hl; replace hb := hb.trans (hv.mono hb.size); clear x1 x2 x3; obtain ⟨x1, x2, x3⟩ := BX.out _ hb; replace hy := hy.trans (hv.mono hy.size); (try clear y1 y2 y3); obtain ⟨y1, y2, y3⟩ := box_cells hy; replace hb := hb.alloc hb.size (.cells #[.int .i64 (-1), .int .i64 (-1)] 31); replace hy := hy.alloc hy.size (.cells #[.int .i64 (-1), .int .i64 (-1)] 31))
    | (go_at_call 17; refine (K.out _).mono ?_; rintro e wl ⟨rfl, hv⟩; replace hb := hb.trans (hv.mono hb.size); clear x1 x2 x3; obtain ⟨x1, x2, x3⟩ := BX.out _ hb))
  go_ret
  exact ⟨rfl, below_al hb⟩

set_option maxRecDepth 100000 in
set_option maxHeartbeats 4000000 in
theorem lawl9_t (A O C P ls cs lt ct n d : Nat) (sq : Option Addr) (lq cq : Nat) (s : Nat → Int) (t : Nat → St5) (q : Nat → Nt3) (w : World) (H0 : Hid (LineAt w A O C P ls lt s t)) (hn : n < lt) (hqq : lq ≤ 11) (HS : Hid (NtSl w sq lq q)) (HQ : Hid (NotesP lq q)) (HD : Hid ((t n).hi = (t n).lo + d)) (h0 : 0 ≤ (t n).lo) (HE : Hid (∃ r, (t n).lo ≤ r ∧ r < (t n).hi + 1 ∧ AgP s (t n) lq q r))
    (hne : Hid (ratesL (agAll s (t n) lq q) (t n).lo (d + 1) ≠ [])) (K : Hid KnownOk) :
    Calls Tryz.prog 9 #[.agg #[.slice (some ⟨A, O, none⟩) ls cs, .slice (some ⟨C, P, none⟩) lt ct], .int .i64 (n : Int), .slice sq lq cq] w
      fun e w' => e = .returned (.bool true) ∧ Below w.heap.size w w' := by
  have HR : Hid (RightP ls lt s t) := Lib.hid ⟨H0.out.ls1, H0.out.ls2, H0.out.lt1, H0.out.lt2, H0.out.sok, H0.out.tok⟩
  have q0 := H0.out.ls2
  have q1 := H0.out.lt1
  have q2 := H0.out.lt2
  have hls : ls ≤ 1000000 := by omega
  have hlt : lt ≤ 1000000 := by omega
  have hlq : lq ≤ 1000000 := by omega
  have hsh : decide (ls ≤ 13 ∧ lt ≤ 10) = true := by simp; omega
  have hq10 : (lq : Int) ≤ (11 : Int) := by omega
  have H : Hid (AnyLine w (some ⟨A, O, none⟩) (some ⟨C, P, none⟩) ls lt s t) := Lib.hid ⟨.inr ⟨A, O, rfl, H0.out.hA, H0.out.sp⟩, .inr ⟨C, P, rfl, H0.out.hC, H0.out.st⟩⟩
  have g1 : fromB 0 ((lt : Int) - 1) (n : Int) = true := by simp only [fromB, decide_eq_true_eq]; omega
  have BX := Lib.hid (fun (w1 : World) (hb : Below (w.alloc (.cells #[.slice (some ⟨A, O, none⟩) ls cs, .slice (some ⟨C, P, none⟩) lt ct] 25)).heap.size (w.alloc (.cells #[.slice (some ⟨A, O, none⟩) ls cs, .slice (some ⟨C, P, none⟩) lt ct] 25)) w1) => box_cells hb)
  have HN : Hid (∀ w1, Below (w.alloc (.cells #[.slice (some ⟨A, O, none⟩) ls cs, .slice (some ⟨C, P, none⟩) lt ct] 25)).heap.size (w.alloc (.cells #[.slice (some ⟨A, O, none⟩) ls cs, .slice (some ⟨C, P, none⟩) lt ct] 25)) w1 → Hid (AnyLine w1 (some ⟨A, O, none⟩) (some ⟨C, P, none⟩) ls lt s t)) := Lib.hid fun w1 h => Lib.hid (H.out.below (below_al h))
  have HL : Hid (∀ w1, Below (w.alloc (.cells #[.slice (some ⟨A, O, none⟩) ls cs, .slice (some ⟨C, P, none⟩) lt ct] 25)).heap.size (w.alloc (.cells #[.slice (some ⟨A, O, none⟩) ls cs, .slice (some ⟨C, P, none⟩) lt ct] 25)) w1 → LineAt w1 A O C P ls lt s t) := Lib.hid fun w1 h => H0.out.below (below_al h)
  have HI : Hid (∀ w1, Below (w.alloc (.cells #[.slice (some ⟨A, O, none⟩) ls cs, .slice (some ⟨C, P, none⟩) lt ct] 25)).heap.size (w.alloc (.cells #[.slice (some ⟨A, O, none⟩) ls cs, .slice (some ⟨C, P, none⟩) lt ct] 25)) w1 → Hid (NtSl w1 sq lq q)) := Lib.hid fun w1 h => Lib.hid (HS.out.below (below_al h))
  have hb : Below (w.alloc (.cells #[.slice (some ⟨A, O, none⟩) ls cs, .slice (some ⟨C, P, none⟩) lt ct] 25)).heap.size (w.alloc (.cells #[.slice (some ⟨A, O, none⟩) ls cs, .slice (some ⟨C, P, none⟩) lt ct] 25)) (w.alloc (.cells #[.slice (some ⟨A, O, none⟩) ls cs, .slice (some ⟨C, P, none⟩) lt ct] 25)) := Below.refl _ _
  obtain ⟨x1, x2, x3⟩ := BX.out _ hb
  clear H HS H0
  go_enter Tryz.func9, Tryz.ntmps9
  go_wp2_with (first
    | (go_at_call 16; refine (short_w _ _ _ _ _ _ _ (by unfold maxLen; omega) (by unfold maxLen; omega)).mono ?_; rw [hsh]; rintro e wl ⟨rfl, hv⟩; replace hb := hb.trans (hv.mono hb.size); clear x1 x2 x3; obtain ⟨x1, x2, x3⟩ := BX.out _ hb)
    | (go_at_call 37; refine (lime_t _ _ _ _ _ _ _ _ n _ _ _ s t q d _ (Lib.hid (HL.out _ hb)) hn hlq (HI.out _ hb) HQ HD hne).mono ?_; rintro e wl ⟨⟨a, b, rfl, hl⟩, hv⟩; have HLI := Lib.hid hl; clear hl; have ha0 := HLI.out.pos HE.out h0; have hx : decide (a < (0 : Int)) = false := decide_eq_false (by omega); clear ha0; replace hb := hb.trans (hv.mono hb.size); clear x1 x2 x3; obtain ⟨x1, x2, x3⟩ := BX.out _ hb; replace hb := hb.alloc hb.size (.cells #[.int .i64 a, .int .i64 b] 31); have hy := Below.refl (wl.alloc (.cells #[.int .i64 a, .int .i64 b] 31)).heap.size (wl.alloc (.cells #[.int .i64 a, .int .i64 b] 31)))
    | (go_at_call 20; refine (right_w _ _ _ _ _ _ s t _ hls hlt (Lib.hid (HN.out _ hb).out.hs) (Lib.hid (HN.out _ hb).out.ht)).mono ?_; rintro e wl ⟨⟨rb, rfl, hrb⟩, hv⟩; obtain rfl : rb = true := hrb.2 HR.out; clear hrb; replace hb := hb.trans (hv.mono hb.size); clear x1 x2 x3; obtain ⟨x1, x2, x3⟩ := BX.out _ hb; replace hy := hy.trans (hv.mono hy.size); (try clear y1 y2 y3); obtain ⟨y1, y2, y3⟩ := box_cells hy)
    | (go_at_call 21; refine (number_w _ undef _ _ _ _ _ (by unfold maxLen; omega)).mono ?_; rintro e wl ⟨rfl, hv⟩; replace hb := hb.trans (hv.mono hb.size); clear x1 x2 x3; obtain ⟨x1, x2, x3⟩ := BX.out _ hb; replace hy := hy.trans (hv.mono hy.size); (try clear y1 y2 y3); obtain ⟨y1, y2, y3⟩ := box_cells hy)
    | (go_at_call 38; refine (notes_w _ _ _ q _ hlq (HI.out _ hb)).mono ?_; rintro e wl ⟨⟨rb, rfl, hrb⟩, hv⟩; obtain rfl : rb = true := hrb.2 HQ.out; clear hrb; replace hb := hb.trans (hv.mono hb.size); clear x1 x2 x3; obtain ⟨x1, x2, x3⟩ := BX.out _ hb; replace hy := hy.trans (hv.mono hy.size); (try clear y1 y2 y3); obtain ⟨y1, y2, y3⟩ := box_cells hy)
    | (go_at_call 39; refine (refLime_w _ _ _ _ _ _ _ _ n _ _ _ s t q _ (Lib.hid (HL.out _ hb)) hn hlq (HI.out _ hb) HQ).mono ?_; rintro e wl ⟨⟨a2, b2, rfl, hl⟩, hv⟩; obtain ⟨e1, e2⟩ := hl.uniq HLI.out; clear hl; subst e1; subst e2; replace hb := hb.trans (hv.mono hb.size); clear x1 x2 x3; obtain ⟨x1, x2, x3⟩ := BX.out _ hb; replace hy := hy.trans (hv.mono hy.size); (try clear y1 y2 y3); obtain ⟨y1, y2, y3⟩ := box_cells hy; replace hb := hb.alloc hb.size (.cells #[.int .i64 a, .int .i64 b] 31); replace hy := hy.alloc hy.size (.cells #[.int .i64 a, .int .i64 b] 31))
    | (go_at_call 17; refine (K.out _).mono ?_; rintro e wl ⟨rfl, hv⟩; replace hb := hb.trans (hv.mono hb.size); clear x1 x2 x3; obtain ⟨x1, x2, x3⟩ := BX.out _ hb))
  go_ret
  exact ⟨rfl, below_al hb⟩

theorem lawl9_w (sa ta sq : Option Addr) (ls cs lt ct lq cq : Nat) (s : Nat → Int) (t : Nat → St5) (q : Nat → Nt3) (st : Int) (w : World) (hls : ls ≤ maxLen) (hlt : lt ≤ maxLen) (hlq : lq ≤ maxLen) (HS : NumSl w sa ls s) (HT : StSl w ta lt t) (HG : NtSl w sq lq q) (K : Hid KnownOk) :
    Calls Tryz.prog 9 #[.agg #[.slice sa ls cs, .slice ta lt ct], .int .i64 st, .slice sq lq cq] w
      fun e w' => e = .returned (.bool true) ∧ Below w.heap.size w w' := by
  by_cases hq : ls ≤ 13 ∧ lt ≤ 10
  case neg => exact lawl9_a sa ta sq ls cs lt ct lq cq s t q st w hls hlt hlq hq (Lib.hid ⟨HS, HT⟩) (Lib.hid HG) K
  by_cases hb : lq ≤ 11
  case neg => exact lawl9_b sa ta sq ls cs lt ct lq cq s t q st w hls hlt hlq hq hb (Lib.hid ⟨HS, HT⟩) (Lib.hid HG) K
  by_cases hR : RightP ls lt s t
  case neg => exact lawl9_c sa ta sq ls cs lt ct lq cq s t q st w (by omega) (by omega) (by omega) hq hb (Lib.hid hR) (Lib.hid ⟨HS, HT⟩) (Lib.hid HG) K
  cases g1 : fromB 0 ((lt : Int) - 1) st
  · exact lawl9_d sa ta sq ls cs lt ct lq cq s t q st w (by omega) (by omega) (by omega) hq hb (Lib.hid hR) g1 (Lib.hid ⟨HS, HT⟩) (Lib.hid HG) K
  by_cases hQ : NotesP lq q
  case neg => exact lawl9_e sa ta sq ls cs lt ct lq cq s t q st w (by omega) (by omega) (by omega) hq hb (Lib.hid hR) g1 (Lib.hid hQ) (Lib.hid ⟨HS, HT⟩) (Lib.hid HG) K
  obtain ⟨A, O, rfl, hA, hsp⟩ := HS.resolve_left (by have := hR.ls1; omega)
  obtain ⟨C, P, rfl, hC, hst⟩ := HT.resolve_left (by have := hR.lt1; omega)
  have H : LineAt w A O C P ls lt s t := ⟨hA, hC, hR.ls1, hR.ls2, hR.lt1, hR.lt2, hsp, hst, hR.sok, hR.tok⟩
  have h1 := fromB_tt g1
  obtain ⟨n, rfl⟩ : ∃ n : Nat, st = (n : Int) := ⟨st.toNat, by omega⟩
  have hn : n < lt := by omega
  obtain ⟨_, _, _, b4, _⟩ := H.bds hn
  obtain ⟨d, hd⟩ : ∃ d : Nat, (t n).hi = (t n).lo + d := ⟨((t n).hi - (t n).lo).toNat, by omega⟩
  have h0 : 0 ≤ (t n).lo := by omega
  by_cases he : ∃ r, (t n).lo ≤ r ∧ r < (t n).hi + 1 ∧ AgP s (t n) lq q r
  · refine lawl9_t A O C P ls cs lt ct n d sq lq cq s t q w (Lib.hid H) hn hb (Lib.hid HG) (Lib.hid hQ) (Lib.hid hd) h0 (Lib.hid he) (Lib.hid ?_) K
    obtain ⟨r, e1, e2, e3⟩ := he
    obtain ⟨j, rfl⟩ : ∃ j : Nat, r = (t n).lo + j := ⟨(r - (t n).lo).toNat, by omega⟩
    exact ratesL_some (j := j) (by omega) ((agAll_iff _ _ _ _ _).2 e3)
  · have he2 : ∀ r, (t n).lo ≤ r → r < (t n).hi + 1 → ¬ AgP s (t n) lq q r := fun r e1 e2 e3 => he ⟨r, e1, e2, e3⟩
    refine lawl9_f A O C P ls cs lt ct n d sq lq cq s t q w (Lib.hid H) hn hb (Lib.hid HG) (Lib.hid hQ) (Lib.hid hd) h0 (Lib.hid he2) (Lib.hid ?_) K
    refine ratesL_none fun j hj => ?_
    cases e : agAll s (t n) lq q ((t n).lo + (j : Int))
    · rfl
    · exact (he2 _ (by omega) (by omega) ((agAll_iff _ _ _ _ _).1 e)).elim
end Go.Kn
