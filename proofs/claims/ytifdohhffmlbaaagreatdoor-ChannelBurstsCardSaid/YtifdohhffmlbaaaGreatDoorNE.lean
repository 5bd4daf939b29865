/- Walks of the functions of layer 2 that ChannelPressures calls, and the law itself (a part of it). Conditions: as each theorem states them. -/
import Derived.Test.YtifdohhffmlbaaaGreatDoorNA
import Derived.Deep.RegionHeld3
import Derived.Deep.AppendLies
set_option linter.unusedVariables false
set_option linter.unusedSimpArgs false
namespace Go.Kn
open Go Go.Proofs Go.RowKit

set_option maxRecDepth 100000 in
set_option maxHeartbeats 2000000 in
theorem rflows_w (il ih : Int) (C P cp A O ll cl : Nat) (p : Nat → Sp2) (l : Nat → Int) (w : World) (H : Hid (SipAt w C P (ll + 1) A O ll il ih p l)) :
    Calls Tryz.prog 46 #[.agg #[.int .i64 il, .int .i64 ih, .slice (some ⟨C, P, none⟩) (ll + 1) cp, .slice (some ⟨A, O, none⟩) ll cl]] w
      fun e w' => e = .returned (.int .i64 (flowV il ih (p ll))) ∧ Below w.heap.size w w' := by
  have BX := Lib.hid (fun (w1 : World) (hb : Below (w.alloc (.cells #[.int .i64 il, .int .i64 ih, .slice (some ⟨C, P, none⟩) (ll + 1) cp, .slice (some ⟨A, O, none⟩) ll cl] 70)).heap.size (w.alloc (.cells #[.int .i64 il, .int .i64 ih, .slice (some ⟨C, P, none⟩) (ll + 1) cp, .slice (some ⟨A, O, none⟩) ll cl] 70)) w1) => bcell4 hb)
  have HL := H.out.below ((Below.refl _ _).alloc (Nat.le_refl _) (.cells #[.int .i64 il, .int .i64 ih, .slice (some ⟨C, P, none⟩) (ll + 1) cp, .slice (some ⟨A, O, none⟩) ll cl] 70))
  obtain ⟨y0, y1⟩ := HL.sp ll (by omega)
  clear HL
  have q1 := H.out.lp1
  have q2 := H.out.lp2
  by_cases h1 : (p ll).hi < il <;> by_cases h2 : ih ≤ (p ll).lo
  all_goals
    go_enter Tryz.func46, Tryz.ntmps46
    go_wp2
    go_ret
    refine ⟨by simp only [flowV]; (repeat' split) <;> first | omega | rfl, ?_⟩
    repeat (first | exact Below.refl _ _ | refine Below.setCell ?_ (by simp) _ | refine Below.alloc ?_ (by simp) _ | refine Below.drew ?_)

set_option maxRecDepth 100000 in
set_option maxHeartbeats 2000000 in
theorem sameSp_w (G G2 ll c1 c2 : Nat) (p : Nat → Sp2) (w : World) (hll : ll ≤ 1000000) (h1 : Hid (SpAt w G 0 ll p)) (h2 : Hid (SpAt w G2 0 ll p)) :
    Calls Tryz.prog 44 #[.slice (some ⟨G, 0, none⟩) ll c1, .slice (some ⟨G2, 0, none⟩) ll c2] w
      fun e w' => e = .returned (.bool true) ∧ Below w.heap.size w w' := by
  go_enter Tryz.func44, Tryz.ntmps44
  go_wp2
  go_loopw [5] (fun i wr => ∃ k : Nat, k ≤ ll ∧ i = .int .i64 k ∧ Below w.heap.size w wr ∧ ∀ b o, wr.cell? ⟨b, o, none⟩ = w.cell? ⟨b, o, none⟩) (fun i _ => ll - (intOf i).toNat)
  case atStart => exact ⟨0, Nat.zero_le _, rfl, Below.refl _ _, fun _ _ => rfl⟩
  case round =>
    obtain ⟨k, hk, rfl, hbw, hsame⟩ := hrel
    by_cases hlt : k < ll
    · obtain ⟨y0, y1⟩ := h1.out k hlt
      obtain ⟨y2, y3⟩ := h2.out k hlt
      simp only [Nat.zero_add] at y0 y1 y2 y3
      have z0 := (hsame _ _).trans y0
      have z1 := (hsame _ _).trans y1
      have z2 := (hsame _ _).trans y2
      have z3 := (hsame _ _).trans y3
      have HSM := Lib.hid hsame
      clear y0 y1 y2 y3 hsame
      have n1 : (0 : Int) ≤ (k : Int) := by omega
      have n2 : (k : Int) < (ll : Int) := by omega
      go_wp2
      go_quiet (fail)
      go_wp2
      go_roundw
      case rel => exact ⟨k + 1, by omega, by go_num, (below_drewM hbw _), fun b o => HSM.out b o⟩
      case measure => simp [intOf]; omega
    · clear hsame
      go_wp2
      go_ret
      exact ⟨rfl, hbw⟩
end Go.Kn
