/- Walks of the functions of layer 2 that ChannelTrue calls, and the law itself (a part of it). Conditions: as each theorem states them. -/
import Derived.Test.YtifdohhffmlbaaaGreatDoorW9
set_option linter.unusedVariables false
set_option linter.unusedSimpArgs false
namespace Go.Kn
open Go Go.Proofs Go.RowKit

structure St5 where
  b : Int
  d : Int
  f : Int
  lo : Int
  hi : Int

def St5.val (x : St5) : Value := .agg #[.int .i64 x.b, .int .i64 x.d, .int .i64 x.f, .int .i64 x.lo, .int .i64 x.hi]

/-- stretches in memory -/
def StAt (w : World) (C P lt : Nat) (t : Nat → St5) : Prop := ∀ i, i < lt → w.cell? ⟨C, P + i * 5, none⟩ = some (.int .i64 (t i).b) ∧ w.cell? ⟨C, P + i * 5 + 1, none⟩ = some (.int .i64 (t i).d) ∧ w.cell? ⟨C, P + i * 5 + 2, none⟩ = some (.int .i64 (t i).f) ∧
  w.cell? ⟨C, P + i * 5 + 3, none⟩ = some (.int .i64 (t i).lo) ∧ w.cell? ⟨C, P + i * 5 + 4, none⟩ = some (.int .i64 (t i).hi)

theorem StAt.below {w w1 : World} {C P lt : Nat} {t : Nat → St5} (h : StAt w C P lt t) (hC : C < w.heap.size) (hb : Below w.heap.size w w1) : StAt w1 C P lt t := by
  intro i hi
  obtain ⟨h0, h1, h2, h3, h4⟩ := h i hi
  have e : ∀ o, w1.cell? ⟨C, o, none⟩ = w.cell? ⟨C, o, none⟩ := fun o => hb.cell (p := ⟨C, o, none⟩) hC
  exact ⟨(e _).trans h0, (e _).trans h1, (e _).trans h2, (e _).trans h3, (e _).trans h4⟩

def NumAt (w : World) (A O ls : Nat) (s : Nat → Int) : Prop := ∀ i, i < ls → w.cell? ⟨A, O + i, none⟩ = some (.int .i64 (s i))

theorem NumAt.below {w w1 : World} {A O ls : Nat} {s : Nat → Int} (h : NumAt w A O ls s) (hA : A < w.heap.size) (hb : Below w.heap.size w w1) : NumAt w1 A O ls s := fun i hi => (hb.cell (p := ⟨A, O + i, none⟩) hA).trans (h i hi)

def StOk (ls lt : Nat) (t : Nat → St5) : Prop := ∀ i, i < lt → stB (t i).b (t i).d (t i).f (t i).lo (t i).hi ls = true

set_option maxRecDepth 100000 in
set_option maxHeartbeats 2000000 in
theorem idxSt_w (C P lt ct B L ls cs : Nat) (sa : Option Addr) (y : Value) (t : Nat → St5) (w : World) (hlt : lt ≤ 1000000) (hls : ls ≤ 1000000) (hC : C < w.heap.size) (hBw : B < w.heap.size) (hL : L < w.heap.size)
    (l0 : w.cell? ⟨L, 0, none⟩ = some (.slice sa ls cs)) (l1 : w.cell? ⟨L, 1, none⟩ = some y) (hB : w.cell? ⟨B, 0, none⟩ = some (.func (.func 95) #[] #[.pointer (some ⟨L, 0, none⟩)]))
    (ht : StAt w C P lt t) (hg : StOk ls lt t) :
    Calls Tryz.prog 145 #[.slice (some ⟨C, P, none⟩) lt ct, .func (.func 127) #[] #[.pointer (some ⟨B, 0, none⟩)]] w
      fun e w' => e = .returned (.int .i64 (-1)) ∧ Below w.heap.size w w' := by
  have HT := Lib.hid ht
  have HG := Lib.hid hg
  clear ht hg
  go_enter Tryz.func145, Tryz.ntmps145
  go_wp2
  go_loopw [8] (fun i wr => ∃ k : Nat, k ≤ lt ∧ i = .int .i64 k ∧ Below w.heap.size w wr) (fun i _ => lt - (intOf i).toNat)
  case atStart => exact ⟨0, Nat.zero_le _, rfl, Below.refl _ _⟩
  case round =>
    obtain ⟨k, hk, rfl, hbw⟩ := hrel
    by_cases hlt' : k < lt
    · obtain ⟨c0, c1, c2, c3, c4⟩ := HT.out.below hC hbw k hlt'
      have m0 : wr.cell? ⟨L, 0, none⟩ = some (.slice sa ls cs) := (hbw.cell (p := ⟨L, 0, none⟩) hL).trans l0
      have m1 : wr.cell? ⟨L, 1, none⟩ = some y := (hbw.cell (p := ⟨L, 1, none⟩) hL).trans l1
      have mB : wr.cell? ⟨B, 0, none⟩ = some (.func (.func 95) #[] #[.pointer (some ⟨L, 0, none⟩)]) := (hbw.cell (p := ⟨B, 0, none⟩) hBw).trans hB
      have hz : w.heap.size ≤ wr.heap.size := hbw.size
      have hgk := HG.out k hlt'
      go_wp2_with (go_at_call 127; refine (notLine_w _ _ _ _ _ _ _ _ _ _ _ _ hls hgk (by omega) (by omega) m0 m1 mB).mono ?_; rintro e w1 ⟨rfl, hb1⟩)
      go_roundw
      case rel => exact ⟨k + 1, by omega, by go_num, hbw.trans (hb1.mono hz)⟩
      case measure => simp [intOf]; omega
    · go_wp2
      go_ret
      exact ⟨rfl, hbw⟩
end Go.Kn
