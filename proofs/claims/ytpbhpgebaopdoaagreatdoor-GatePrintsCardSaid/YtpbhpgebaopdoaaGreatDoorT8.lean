/- Contracts of functions that the laws of this seat call, or the evaluator of closed calls and its runs. Conditions: as each theorem states them. -/
import Derived.Test.YtpbhpgebaopdoaaGreatDoorT2
import Derived.Test.YtpbhpgebaopdoaaGreatDoorT3
import Derived.Shelf.RegionOpen
import Derived.Deep.QuietTactic
import Derived.Test.YtpbhpgebaopdoaaGreatDoorT7
import Derived.Test.YtpbhpgebaopdoaaGreatDoorT5
import Derived.Test.YtpbhpgebaopdoaaGreatDoorJ3
import Derived.Test.YtpbhpgebaopdoaaGreatDoorJ4
import Derived.Test.YtpbhpgebaopdoaaGreatDoorKN
set_option linter.unusedVariables false
set_option linter.unusedSimpArgs false
namespace Go.Kn
open Go Go.Proofs Go.RowKit

set_option maxRecDepth 100000 in
set_option maxHeartbeats 1000000 in
theorem print_bad (na oa : Option Addr) (ln cn lo co : Nat) (N : Nat → P8) (U : Nat → C8) (w : World) (hls : ln ≤ 1000000) (hlt : lo ≤ 1000000) (H : Hid (Ne8 w na oa ln lo N U)) (HR : Hid (¬ NetP ln N lo U)) :
    Calls Tryz.prog 32 #[.agg #[.slice na ln cn, .slice oa lo co]] w fun e w' => e = .returned (.tuple #[.string ⟨#[]⟩, .int .i64 2]) ∧ Below w.heap.size w w' := by
  have hB0 : Below w.heap.size w (w.alloc (.cells #[.slice na ln cn, .slice oa lo co] 25)) := (Below.refl _ _).alloc (Nat.le_refl _) _
  have HIT : Hid (Calls Tryz.prog 49 #[.agg #[.slice na ln cn, .slice oa lo co]] (w.alloc (.cells #[.slice na ln cn, .slice oa lo co] 25)) fun e w' => e = .returned (.bool false) ∧ Below w.heap.size w w') := Lib.hid (by
    have h := isNet_w na oa ln cn lo co N U _ hls hlt (Lib.hid (H.out.below hB0))
    have hnv : netV ln N lo U = false := by
      cases h : netV ln N lo U with
      | false => rfl
      | true => exact absurd (netV_iff.1 h) HR.out
    rw [hnv] at h
    exact h.mono fun e w' ⟨he, hb⟩ => ⟨he, hB0.trans (hb.mono hB0.size)⟩)
  clear hB0
  go_enter Tryz.func32, Tryz.ntmps32
  go_wp2_with (go_at_call 49; refine HIT.out.mono ?_; rintro e w1 ⟨rfl, hb1⟩)
  refine bodyPost_ret (v := .tuple #[.string ⟨#[]⟩, .int .i64 2]) (by simp [results, Tryz.results32, go_sem]) rfl ⟨rfl, hb1⟩

set_option maxRecDepth 100000 in
set_option maxHeartbeats 2000000 in
theorem sameNets_w (na oa ma pa : Option Addr) (ln cn lo co dn eo : Nat) (N : Nat → P8) (U : Nat → C8) (w : World) (hln : ln ≤ 7) (hlo : lo ≤ 10) (H1 : Hid (Ne8 w na oa ln lo N U)) (H2 : Hid (Ne8 w ma pa ln lo N U)) :
    Calls Tryz.prog 35 #[.agg #[.slice na ln cn, .slice oa lo co], .agg #[.slice ma ln dn, .slice pa lo eo]] w fun e w' => e = .returned (.bool true) ∧ Below w.heap.size w w' := by
  obtain ⟨W, hW⟩ : ∃ W, W = (w.alloc (.cells #[.slice na ln cn, .slice oa lo co] 25)).alloc (.cells #[.slice ma ln dn, .slice pa lo eo] 25) := ⟨_, rfl⟩
  have hbW : Below w.heap.size w W := by rw [hW]; exact ((Below.refl _ _).alloc (Nat.le_refl _) _).alloc (by simp) _
  have hzW : W.heap.size = w.heap.size + 1 + 1 := by rw [hW]; simp
  have HC : Hid (∀ w1, Below W.heap.size W w1 → (w1.cell? ⟨w.heap.size, 0, none⟩ = some (.slice na ln cn) ∧ w1.cell? ⟨w.heap.size, 1, none⟩ = some (.slice oa lo co)) ∧ (w1.cell? ⟨w.heap.size + 1, 0, none⟩ = some (.slice ma ln dn) ∧ w1.cell? ⟨w.heap.size + 1, 1, none⟩ = some (.slice pa lo eo)) ∧ Ne8 w1 na oa ln lo N U ∧ Ne8 w1 ma pa ln lo N U) := Lib.hid fun w1 hb => by
    obtain ⟨c, _⟩ := bcell hb
    have hall := hbW.trans (hb.mono (by omega))
    exact ⟨⟨(c _ _ (by omega)).trans (by rw [hW]; simp), (c _ _ (by omega)).trans (by rw [hW]; simp)⟩, ⟨(c _ _ (by omega)).trans (by rw [hW]; simp), (c _ _ (by omega)).trans (by rw [hW]; simp)⟩, H1.out.below hall, H2.out.below hall⟩
  have HBW := Lib.hid hbW
  clear hbW hzW
  go_enter Tryz.func35, Tryz.ntmps35
  go_wp2
  rw [← hW]
  go_loopw [5] (fun ii wr => ∃ k : Nat, k ≤ ln ∧ ii = .int .i64 (k : Int) ∧ Below W.heap.size W wr) (fun ii _ => ln - (intOf ii).toNat)
  case atStart => exact ⟨0, Nat.zero_le _, rfl, Below.refl _ _⟩
  case round =>
    obtain ⟨k, hk, rfl, hbw⟩ := hrel
    obtain ⟨⟨x0, x1⟩, ⟨y0, y1⟩, h1, h2⟩ := HC.out _ hbw
    have HBB := Lib.hid hbw
    clear hbw
    by_cases hlt : k < ln
    · obtain ⟨A, O, rfl, _, hA⟩ := h1.hp.resolve_left (by omega)
      obtain ⟨B, P, rfl, _, hB⟩ := h2.hp.resolve_left (by omega)
      obtain ⟨a0, a1, a2⟩ := hA k hlt
      obtain ⟨b0, b1, b2⟩ := hB k hlt
      have n1 : (0 : Int) ≤ (k : Int) := by omega
      have n2 : (k : Int) < (ln : Int) := by omega
      clear h1 h2 hA hB
      go_wp2
      go_quiet (fail)
      go_wp2
      go_roundw
      case rel => exact ⟨k + 1, by omega, by go_num, below_drewM HBB.out _⟩
      case measure => simp [intOf]; omega
    · obtain rfl : k = ln := by omega
      obtain ⟨wm, rfl⟩ : ∃ wm, wm = wr := ⟨_, rfl⟩
      clear h1 h2
      go_wp2
      clear x0 x1 y0 y1
      go_loopw [6] (fun ii wr => ∃ j : Nat, j ≤ lo ∧ ii = .int .i64 (j : Int) ∧ Below W.heap.size W wr) (fun ii _ => lo - (intOf ii).toNat)
      case atStart => exact ⟨0, Nat.zero_le _, rfl, HBB.out⟩
      case round =>
        obtain ⟨j, hj, rfl, hbw⟩ := hrel
        obtain ⟨⟨x0, x1⟩, ⟨y0, y1⟩, h1, h2⟩ := HC.out _ hbw
        have HBB2 := Lib.hid hbw
        clear hbw
        by_cases hlt : j < lo
        · obtain ⟨A, O, rfl, _, hA⟩ := h1.hc.resolve_left (by omega)
          obtain ⟨B, P, rfl, _, hB⟩ := h2.hc.resolve_left (by omega)
          obtain ⟨a0, a1, a2, a3⟩ := hA j hlt
          obtain ⟨b0, b1, b2, b3⟩ := hB j hlt
          have n1 : (0 : Int) ≤ (j : Int) := by omega
          have n2 : (j : Int) < (lo : Int) := by omega
          clear h1 h2 hA hB
          go_wp2
          go_quiet (fail)
          go_wp2
          go_roundw
          case rel => exact ⟨j + 1, by omega, by go_num, below_drewM HBB2.out _⟩
          case measure => simp [intOf]; omega
        · clear h1 h2
          go_wp2
          go_ret
          exact ⟨rfl, HBW.out.trans (HBB2.out.mono HBW.out.size)⟩
end Go.Kn

namespace Go.Kn
open Go Go.Proofs Go.RowKit

set_option maxRecDepth 100000 in
set_option maxHeartbeats 4000000 in
theorem lawpr_a (na oa : Option Addr) (ln cn lo co : Nat) (N : Nat → P8) (U : Nat → C8) (w : World) (H : Hid (Ne8 w na oa ln lo N U)) (K : Hid KnownOk) (hpw : Hid (Pw w)) (hq : ¬ (ln ≤ 9 ∧ lo ≤ 13)) :
    Calls Tryz.prog 7 #[.agg #[.slice na ln cn, .slice oa lo co]] w fun e w' => e = .returned (.bool true) ∧ Below w.heap.size w w' := by
  have BX := Lib.hid (fun (w1 : World) (hb : Below (w.alloc (.cells #[.slice na ln cn, .slice oa lo co] 25)).heap.size (w.alloc (.cells #[.slice na ln cn, .slice oa lo co] 25)) w1) => box8 hb)
  have HPW : Hid (∀ w1, Below (w.alloc (.cells #[.slice na ln cn, .slice oa lo co] 25)).heap.size (w.alloc (.cells #[.slice na ln cn, .slice oa lo co] 25)) w1 → Pw w1) := Lib.hid fun w1 h => hpw.out.on (below_al h)
  have HN : Hid (∀ w1, Below (w.alloc (.cells #[.slice na ln cn, .slice oa lo co] 25)).heap.size (w.alloc (.cells #[.slice na ln cn, .slice oa lo co] 25)) w1 → Hid (Ne8 w1 na oa ln lo N U)) := Lib.hid fun w1 h => Lib.hid (H.out.below (below_al h))
  have hb : Below (w.alloc (.cells #[.slice na ln cn, .slice oa lo co] 25)).heap.size (w.alloc (.cells #[.slice na ln cn, .slice oa lo co] 25)) (w.alloc (.cells #[.slice na ln cn, .slice oa lo co] 25)) := Below.refl _ _
  obtain ⟨x1, x2, x3, x4⟩ := BX.out _ hb
  have hsh : decide (ln ≤ 9 ∧ lo ≤ 13) = false := decide_eq_false hq
  clear H
  go_enter Tryz.func7, Tryz.ntmps7
  go_wp2_with (first
    | (go_at_call 9; refine (short_w _ _ _ _ _ _ _).mono ?_; rw [hsh]; rintro e wl ⟨rfl, hv⟩; replace hb := hb.trans (hv.mono hb.size); clear x1 x2 x3 x4; obtain ⟨x1, x2, x3, x4⟩ := BX.out _ hb)
    | (go_at_call 10; refine (K.out _ (HPW.out _ hb)).mono ?_; rintro e wl ⟨rfl, hv⟩; replace hb := hb.trans (hv.mono hb.size); clear x1 x2 x3 x4; obtain ⟨x1, x2, x3, x4⟩ := BX.out _ hb))
  go_ret
  exact ⟨rfl, below_al hb⟩

set_option maxRecDepth 100000 in
set_option maxHeartbeats 4000000 in
theorem lawpr_b (na oa : Option Addr) (ln cn lo co : Nat) (N : Nat → P8) (U : Nat → C8) (w : World) (H : Hid (Ne8 w na oa ln lo N U)) (K : Hid KnownOk) (hpw : Hid (Pw w)) (hq : ln ≤ 9 ∧ lo ≤ 13) (HR : Hid (¬ NetP ln N lo U)) :
    Calls Tryz.prog 7 #[.agg #[.slice na ln cn, .slice oa lo co]] w fun e w' => e = .returned (.bool true) ∧ Below w.heap.size w w' := by
  have BX := Lib.hid (fun (w1 : World) (hb : Below (w.alloc (.cells #[.slice na ln cn, .slice oa lo co] 25)).heap.size (w.alloc (.cells #[.slice na ln cn, .slice oa lo co] 25)) w1) => box8 hb)
  have HPW : Hid (∀ w1, Below (w.alloc (.cells #[.slice na ln cn, .slice oa lo co] 25)).heap.size (w.alloc (.cells #[.slice na ln cn, .slice oa lo co] 25)) w1 → Pw w1) := Lib.hid fun w1 h => hpw.out.on (below_al h)
  have HN : Hid (∀ w1, Below (w.alloc (.cells #[.slice na ln cn, .slice oa lo co] 25)).heap.size (w.alloc (.cells #[.slice na ln cn, .slice oa lo co] 25)) w1 → Hid (Ne8 w1 na oa ln lo N U)) := Lib.hid fun w1 h => Lib.hid (H.out.below (below_al h))
  have hb : Below (w.alloc (.cells #[.slice na ln cn, .slice oa lo co] 25)).heap.size (w.alloc (.cells #[.slice na ln cn, .slice oa lo co] 25)) (w.alloc (.cells #[.slice na ln cn, .slice oa lo co] 25)) := Below.refl _ _
  obtain ⟨x1, x2, x3, x4⟩ := BX.out _ hb
  have hsh : decide (ln ≤ 9 ∧ lo ≤ 13) = true := decide_eq_true hq
  have hnv : netV ln N lo U = false := by
    cases h : netV ln N lo U with
    | false => rfl
    | true => exact absurd (netV_iff.1 h) HR.out
  clear H
  go_enter Tryz.func7, Tryz.ntmps7
  go_wp2_with (first
    | (go_at_call 9; refine (short_w _ _ _ _ _ _ _).mono ?_; rw [hsh]; rintro e wl ⟨rfl, hv⟩; replace hb := hb.trans (hv.mono hb.size); clear x1 x2 x3 x4; obtain ⟨x1, x2, x3, x4⟩ := BX.out _ hb)
    | (go_at_call 32; refine (print_bad _ _ _ _ _ _ N U _ (by omega) (by omega) (HN.out _ hb) HR).mono ?_; rintro e wl ⟨rfl, hv⟩; replace hb := hb.trans (hv.mono hb.size); clear x1 x2 x3 x4; obtain ⟨x1, x2, x3, x4⟩ := BX.out _ hb)
    | (go_at_call 11; refine (rnet_w _ _ _ _ _ _ N U _ (by omega) (by omega) (HN.out _ hb)).mono ?_; rw [hnv]; rintro e wl ⟨rfl, hv⟩; replace hb := hb.trans (hv.mono hb.size); clear x1 x2 x3 x4; obtain ⟨x1, x2, x3, x4⟩ := BX.out _ hb)
    | (go_at_call 10; refine (K.out _ (HPW.out _ hb)).mono ?_; rintro e wl ⟨rfl, hv⟩; replace hb := hb.trans (hv.mono hb.size); clear x1 x2 x3 x4; obtain ⟨x1, x2, x3, x4⟩ := BX.out _ hb))
  go_ret
  exact ⟨rfl, below_al hb⟩

set_option maxRecDepth 100000 in
set_option maxHeartbeats 4000000 in
theorem lawpr_c (na oa : Option Addr) (ln cn lo co : Nat) (N : Nat → P8) (U : Nat → C8) (w : World) (H : Hid (Ne8 w na oa ln lo N U)) (K : Hid KnownOk) (hpw : Hid (Pw w)) (HR : Hid (NetP ln N lo U)) (hp : Hid (Pow w)) (hm : Hid (ML w)) :
    Calls Tryz.prog 7 #[.agg #[.slice na ln cn, .slice oa lo co]] w fun e w' => e = .returned (.bool true) ∧ Below w.heap.size w w' := by
  have BX := Lib.hid (fun (w1 : World) (hb : Below (w.alloc (.cells #[.slice na ln cn, .slice oa lo co] 25)).heap.size (w.alloc (.cells #[.slice na ln cn, .slice oa lo co] 25)) w1) => box8 hb)
  have HPW : Hid (∀ w1, Below (w.alloc (.cells #[.slice na ln cn, .slice oa lo co] 25)).heap.size (w.alloc (.cells #[.slice na ln cn, .slice oa lo co] 25)) w1 → Pw w1) := Lib.hid fun w1 h => hpw.out.on (below_al h)
  have HN : Hid (∀ w1, Below (w.alloc (.cells #[.slice na ln cn, .slice oa lo co] 25)).heap.size (w.alloc (.cells #[.slice na ln cn, .slice oa lo co] 25)) w1 → Hid (Ne8 w1 na oa ln lo N U)) := Lib.hid fun w1 h => Lib.hid (H.out.below (below_al h))
  have hb : Below (w.alloc (.cells #[.slice na ln cn, .slice oa lo co] 25)).heap.size (w.alloc (.cells #[.slice na ln cn, .slice oa lo co] 25)) (w.alloc (.cells #[.slice na ln cn, .slice oa lo co] 25)) := Below.refl _ _
  obtain ⟨x1, x2, x3, x4⟩ := BX.out _ hb
  have q0 := HR.out.l7
  have q2 := HR.out.c10
  have hsh : decide (ln ≤ 9 ∧ lo ≤ 13) = true := decide_eq_true ⟨by omega, by omega⟩
  have hnv : netV ln N lo U = true := netV_iff.2 HR.out
  have HPM : Hid (∀ w1, Below (w.alloc (.cells #[.slice na ln cn, .slice oa lo co] 25)).heap.size (w.alloc (.cells #[.slice na ln cn, .slice oa lo co] 25)) w1 → Pow w1 ∧ ML w1) := Lib.hid fun w1 h => ⟨hp.out.on (below_al h), hm.out.on (below_al h)⟩
  have HPR : Hid (∀ w1, Below (w.alloc (.cells #[.slice na ln cn, .slice oa lo co] 25)).heap.size (w.alloc (.cells #[.slice na ln cn, .slice oa lo co] 25)) w1 → Calls Tryz.prog 32 #[.agg #[.slice na ln cn, .slice oa lo co]] w1 fun e w' => e = .returned (.tuple #[.string (txG ln lo N U), .int .i64 0]) ∧ Below w1.heap.size w1 w') := Lib.hid fun w1 h => print_w na oa ln cn lo co N U w1 (HN.out _ h) HR (Lib.hid (HPM.out _ h).1) (Lib.hid (by have := text_lenG HR.out; omega))
  have HRP : Hid (∀ w1, Below (w.alloc (.cells #[.slice na ln cn, .slice oa lo co] 25)).heap.size (w.alloc (.cells #[.slice na ln cn, .slice oa lo co] 25)) w1 → Calls Tryz.prog 34 #[.agg #[.slice na ln cn, .slice oa lo co]] w1 fun e w' => e = .returned (.string (txG ln lo N U)) ∧ Below w1.heap.size w1 w') := Lib.hid fun w1 h => rprint_w na oa ln cn lo co N U w1 (HN.out _ h) HR
  have HRD : Hid (∀ w1, Below (w.alloc (.cells #[.slice na ln cn, .slice oa lo co] 25)).heap.size (w.alloc (.cells #[.slice na ln cn, .slice oa lo co] 25)) w1 → Calls Tryz.prog 33 #[.string (txG ln lo N U)] w1 fun e w' => (∃ na cn bo co, e = .returned (.tuple #[.agg #[.slice na ln cn, .slice bo lo co], .int .i64 0]) ∧ Hid (Ne8 w' na bo ln lo N U)) ∧ Below w1.heap.size w1 w') := Lib.hid fun w1 h => read_t ln lo N U w1 HR (Lib.hid (HPM.out _ h).1) (Lib.hid (HPM.out _ h).2)
  obtain ⟨TX, hTX⟩ : ∃ t, txG ln lo N U = t := ⟨_, rfl⟩
  rw [hTX] at HPR HRP HRD
  clear hTX
  have hqq : (TX.toList == TX.toList) = true := by simp
  clear H
  go_enter Tryz.func7, Tryz.ntmps7
  go_wp2_with (first
    | (go_at_call 9; refine (short_w _ _ _ _ _ _ _).mono ?_; rw [hsh]; rintro e wl ⟨rfl, hv⟩; replace hb := hb.trans (hv.mono hb.size); clear x1 x2 x3 x4; obtain ⟨x1, x2, x3, x4⟩ := BX.out _ hb)
    | (go_at_call 32; refine (HPR.out _ hb).mono ?_; rintro e wl ⟨rfl, hv⟩; replace hb := hb.trans (hv.mono hb.size); clear x1 x2 x3 x4; obtain ⟨x1, x2, x3, x4⟩ := BX.out _ hb)
    | (go_at_call 11; refine (rnet_w _ _ _ _ _ _ N U _ (by omega) (by omega) (HN.out _ hb)).mono ?_; rw [hnv]; rintro e wl ⟨rfl, hv⟩; replace hb := hb.trans (hv.mono hb.size); clear x1 x2 x3 x4; obtain ⟨x1, x2, x3, x4⟩ := BX.out _ hb)
    | (go_at_call 33; refine (HRD.out _ hb).mono ?_; rintro e wl ⟨⟨na2, cn2, bo2, co2, rfl, hne⟩, hv⟩; replace hb := hb.trans (hv.mono hb.size); have HB3 := Lib.hid hb; have HV3 : Hid (Below wl.heap.size wl (wl.alloc (.cells #[.slice na2 ln cn2, .slice bo2 lo co2] 25))) := Lib.hid ((Below.refl _ _).alloc (Nat.le_refl _) _); replace hb := hb.trans (HV3.out.mono hb.size); clear x1 x2 x3 x4; obtain ⟨x1, x2, x3, x4⟩ := BX.out _ hb; obtain ⟨y1, y2, y3, y4⟩ := box8 (w := wl) (na := na2) (oa := bo2) (ln := ln) (cn := cn2) (lo := lo) (co := co2) (Below.refl _ _))
    | (go_at_call 34; refine (HRP.out _ hb).mono ?_; rintro e w4 ⟨rfl, hv4⟩; have HV4 := Lib.hid hv4; replace hb := hb.trans (hv4.mono hb.size); clear x1 x2 x3 x4 y1 y2 y3 y4; obtain ⟨x1, x2, x3, x4⟩ := BX.out _ hb; obtain ⟨y1, y2, y3, y4⟩ := box8 (w := wl) (na := na2) (oa := bo2) (ln := ln) (cn := cn2) (lo := lo) (co := co2) hv4)
    | (go_at_call 35; refine (sameNets_w na2 bo2 na oa ln cn2 lo co2 cn co N U _ (by omega) (by omega) (Lib.hid (hne.out.below (HV3.out.trans (HV4.out.mono HV3.out.size)))) (HN.out _ hb)).mono ?_; rintro e wl ⟨rfl, hv⟩; replace hb := hb.trans (hv.mono hb.size); clear x1 x2 x3 x4; obtain ⟨x1, x2, x3, x4⟩ := BX.out _ hb)
    | (go_at_call 10; refine (K.out _ (HPW.out _ hb)).mono ?_; rintro e wl ⟨rfl, hv⟩; replace hb := hb.trans (hv.mono hb.size); clear x1 x2 x3 x4; obtain ⟨x1, x2, x3, x4⟩ := BX.out _ hb))
  go_ret
  exact ⟨rfl, below_al hb⟩

theorem lawpr_w (na oa : Option Addr) (ln cn lo co : Nat) (N : Nat → P8) (U : Nat → C8) (w : World) (H : Hid (Ne8 w na oa ln lo N U)) (K : Hid KnownOk) (hpw : Hid (Pw w)) (hp : Hid (Pow w)) (hm : Hid (ML w)) :
    Calls Tryz.prog 7 #[.agg #[.slice na ln cn, .slice oa lo co]] w fun e w' => e = .returned (.bool true) ∧ Below w.heap.size w w' := by
  by_cases hq : ln ≤ 9 ∧ lo ≤ 13
  case neg => exact lawpr_a na oa ln cn lo co N U w H K hpw hq
  by_cases hR : NetP ln N lo U
  case neg => exact lawpr_b na oa ln cn lo co N U w H K hpw hq (Lib.hid hR)
  exact lawpr_c na oa ln cn lo co N U w H K hpw (Lib.hid hR) hp hm
end Go.Kn
