/- Contracts of functions that the laws of this seat call, or the evaluator of closed calls and its runs. Conditions: as each theorem states them. -/
import Derived.Test.YtddlghdglknloaaGreatDoorP1
set_option linter.unusedVariables false
set_option linter.unusedSimpArgs false
namespace Go.Kn
open Go Go.Proofs Go.RowKit

set_option maxRecDepth 100000 in
set_option maxHeartbeats 4000000 in
theorem rmoved_w (pa ca sa ta : Option Addr) (lp cp lc cc m sc n tc : Nat) (s t : Nat → Int) (w : World) (hlc : lc ≤ 1000) (hm : m ≤ 1000000) (hn : n ≤ 1000000) (H1 : Hid (IntSl w sa m s)) (H2 : Hid (IntSl w ta n t)) :
    Calls Tryz.prog 39 #[.agg #[.slice pa lp cp, .slice ca lc cc], .slice sa m sc, .slice ta n tc] w fun r w' => (∃ ra rc, r = .returned (.slice ra (movL s m t n lc).length rc) ∧ IntSl w' ra (movL s m t n lc).length (lgI (movL s m t n lc))) ∧ Below w.heap.size w w' := by
  obtain ⟨i0, hi0, hz0, hz1, hz2⟩ := info_parts info3'
  obtain ⟨W0, hW0⟩ : ∃ W0, W0 = w.alloc (.cells #[.slice pa lp cp, .slice ca lc cc] 25) := ⟨_, rfl⟩
  have hA : Below w.heap.size w W0 := by rw [hW0]; exact (Below.refl _ _).alloc (Nat.le_refl _) _
  have HF : Hid (∀ w2, Below W0.heap.size W0 w2 → w2.cell? ⟨w.heap.size, 0, none⟩ = some (.slice pa lp cp) ∧ w2.cell? ⟨w.heap.size, 1, none⟩ = some (.slice ca lc cc)) := Lib.hid fun w2 h => by
    rw [hW0] at h
    exact ⟨(box_cells h).1, (box_cells h).2.1⟩
  have HL1 : Hid (∀ (k : Nat) w2, Below W0.heap.size W0 w2 → Calls Tryz.prog 40 #[.slice sa m sc, .int .i64 (k : Int)] w2 fun e w' => e = .returned (.bool (anyB s (k : Int) m)) ∧ w2 = w') := Lib.hid fun k w2 h => rlisted_w sa m sc s (k : Int) w2 hm (Lib.hid (H1.out.below (hA.trans (h.mono hA.size))))
  have HL2 : Hid (∀ (k : Nat) w2, Below W0.heap.size W0 w2 → Calls Tryz.prog 40 #[.slice ta n tc, .int .i64 (k : Int)] w2 fun e w' => e = .returned (.bool (anyB t (k : Int) n)) ∧ w2 = w') := Lib.hid fun k w2 h => rlisted_w ta n tc t (k : Int) w2 hn (Lib.hid (H2.out.below (hA.trans (h.mono hA.size))))
  have HA := Lib.hid hA
  have HV : Hid (Below W0.heap.size W0 W0) := Lib.hid (Below.refl _ _)
  obtain ⟨g0, g1⟩ := HF.out _ (Below.refl _ _)
  rw [hW0] at g0 g1
  clear hA H1 H2
  go_enter Tryz.func39, Tryz.ntmps39
  go_wp2
  rw [← hW0]
  clear hW0 g0 g1
  go_loopw [7, 8] (fun v ii wr => ∃ k : Nat, k ≤ lc ∧ ii = .int .i64 (k : Int) ∧ wr.ownsRow W0.heap.size 3 1 v (movL s m t n k).length ((movL s m t n k).map iv1) ∧ Below W0.heap.size W0 wr) (fun _ ii _ => lc - (Go.RowKit.intOf ii).toNat)
  case atStart => exact ⟨0, Nat.zero_le _, rfl, ⟨rfl, .inl ⟨rfl, rfl⟩⟩, Below.refl _ _⟩
  case round =>
    obtain ⟨k, hk, rfl, hown, hbr⟩ := hrel
    have HOW := Lib.hid hown
    have HBR := Lib.hid hbr
    obtain ⟨g0, g1⟩ := HF.out _ hbr
    clear hown hbr
    by_cases hlt : k < lc
    case pos =>
      have n1 : (0 : Int) ≤ (k : Int) := by omega
      have n2 : (k : Int) < (lc : Int) := by omega
      have hle := movL_le (s := s) (t := t) (m := m) (n := n) k
      have HY := Lib.hid (movL_yes (s := s) (t := t) (m := m) (n := n) (k := k))
      have HNO := Lib.hid (movL_no (s := s) (t := t) (m := m) (n := n) (k := k))
      obtain ⟨q, hq⟩ : ∃ q, (movL s m t n k).length = q := ⟨_, rfl⟩
      rw [hq] at HOW hle
      have HQ := Lib.hid hq
      have HC1 := Lib.hid (HL1.out k)
      have HC2 := Lib.hid (HL2.out k)
      obtain ⟨b1, hb1⟩ : ∃ b, anyB s (k : Int) m = b := ⟨_, rfl⟩
      obtain ⟨b2, hb2⟩ : ∃ b, anyB t (k : Int) n = b := ⟨_, rfl⟩
      rw [hb1] at HC1 HY HNO
      rw [hb2] at HC2 HY HNO
      have M1 := Lib.hid True.intro
      clear hq hb1 hb2
      cases b1 <;> cases b2
      · have HNX := Lib.hid (HNO.out rfl)
        go_wp2_with (first
          | (go_at_call 40; have hB := M1.out; clear hB M1; refine (HC1.out _ HBR.out).mono ?_; rintro e w5 ⟨rfl, rfl⟩)
          | (go_at_call 40; refine (HC2.out _ HBR.out).mono ?_; rintro e w5 ⟨rfl, rfl⟩))
        go_roundw
        case rel => exact ⟨k + 1, by omega, by go_num, by rw [HNX.out, HQ.out]; exact HOW.out, HBR.out⟩
        case measure => simp [Go.RowKit.intOf]; omega
      · have HNX := Lib.hid (HY.out rfl)
        go_wp2_with (first
          | (go_at_call 40; have hB := M1.out; clear hB M1; refine (HC1.out _ HBR.out).mono ?_; rintro e w5 ⟨rfl, rfl⟩)
          | (go_at_call 40; refine (HC2.out _ HBR.out).mono ?_; rintro e w5 ⟨rfl, rfl⟩)
          | (at_builtin; refine wpList_append_own_at _ rfl (.tmp 23) (.tmp 25) 26 rfl W0.heap.size 3 i0 (.int .i64 0) 1 8 Tryz.underlying26 hi0 hz0 hz1 hz2 rfl (by decide) _ q _ rfl (HOW.out.alloc _) ⟨_, 0, none⟩ 1 1 [.int .i64 (k : Int)] rfl rfl (lies_any (by first | exact al_top rfl _ _ | exact al_top (by simp) _ _)) (by intro u hu; simp at hu; subst hu; rfl) (by unfold maxLen; omega) (by omega) (by have := HBR.out.size; simp at this ⊢; omega) ?_; intro v7 w7' hown7 hgrow7 _ hloc7))
        go_roundw
        case rel => exact ⟨k + 1, by omega, by go_num, by rw [HNX.out, List.length_append, HQ.out, List.map_append]; exact hown7, (HBR.out.alloc HBR.out.size _).grown hgrow7 (by have := HBR.out.size; simp at this ⊢; omega) (fun r e => own_ge HOW.out r e)⟩
        case measure => simp [Go.RowKit.intOf]; omega
      · have HNX := Lib.hid (HY.out rfl)
        go_wp2_with (first
          | (go_at_call 40; have hB := M1.out; clear hB M1; refine (HC1.out _ HBR.out).mono ?_; rintro e w5 ⟨rfl, rfl⟩)
          | (go_at_call 40; refine (HC2.out _ HBR.out).mono ?_; rintro e w5 ⟨rfl, rfl⟩)
          | (at_builtin; refine wpList_append_own_at _ rfl (.tmp 23) (.tmp 25) 26 rfl W0.heap.size 3 i0 (.int .i64 0) 1 8 Tryz.underlying26 hi0 hz0 hz1 hz2 rfl (by decide) _ q _ rfl (HOW.out.alloc _) ⟨_, 0, none⟩ 1 1 [.int .i64 (k : Int)] rfl rfl (lies_any (by first | exact al_top rfl _ _ | exact al_top (by simp) _ _)) (by intro u hu; simp at hu; subst hu; rfl) (by unfold maxLen; omega) (by omega) (by have := HBR.out.size; simp at this ⊢; omega) ?_; intro v7 w7' hown7 hgrow7 _ hloc7))
        go_roundw
        case rel => exact ⟨k + 1, by omega, by go_num, by rw [HNX.out, List.length_append, HQ.out, List.map_append]; exact hown7, (HBR.out.alloc HBR.out.size _).grown hgrow7 (by have := HBR.out.size; simp at this ⊢; omega) (fun r e => own_ge HOW.out r e)⟩
        case measure => simp [Go.RowKit.intOf]; omega
      · have HNX := Lib.hid (HNO.out rfl)
        go_wp2_with (first
          | (go_at_call 40; have hB := M1.out; clear hB M1; refine (HC1.out _ HBR.out).mono ?_; rintro e w5 ⟨rfl, rfl⟩)
          | (go_at_call 40; refine (HC2.out _ HBR.out).mono ?_; rintro e w5 ⟨rfl, rfl⟩))
        go_roundw
        case rel => exact ⟨k + 1, by omega, by go_num, by rw [HNX.out, HQ.out]; exact HOW.out, HBR.out⟩
        case measure => simp [Go.RowKit.intOf]; omega
    case neg =>
      obtain rfl : k = lc := by omega
      obtain ⟨ra, rc, rfl, h1, h2⟩ := own_any HOW.out
      go_wp2
      go_ret
      exact ⟨⟨ra, rc, rfl, h2⟩, HA.out.trans (HBR.out.mono HA.out.size)⟩
end Go.Kn
