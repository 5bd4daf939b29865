/- Contracts of functions that the laws of this seat call, or the evaluator of closed calls and its runs. Conditions: as each theorem states them. -/
import Derived.Test.YtpbhpgebaopdoaaGreatDoorT2
import Derived.Test.YtpbhpgebaopdoaaGreatDoorJ3
import Derived.Test.YtpbhpgebaopdoaaGreatDoorJ4
import Derived.Test.YtpbhpgebaopdoaaGreatDoorKN
import Derived.Lib.ConvBytes
import Derived.Laws.IdiomStrings
import Derived.Lib.AtoiErrMem
set_option linter.unusedVariables false
set_option linter.unusedSimpArgs false
namespace Go.Kn
open Go Go.Proofs Go.RowKit

theorem box8 {w w1 : World} {na oa : Option Addr} {ln cn lo co : Nat} (hb : Below (w.alloc (.cells #[.slice na ln cn, .slice oa lo co] 25)).heap.size (w.alloc (.cells #[.slice na ln cn, .slice oa lo co] 25)) w1) :
    w1.cell? ⟨w.heap.size, 0, none⟩ = some (.slice na ln cn) ∧ w1.cell? ⟨w.heap.size, 1, none⟩ = some (.slice oa lo co) ∧ True ∧ w.heap.size < w1.heap.size := by
  have q := (bcell hb).1
  have hs := hb.size
  refine ⟨(q _ _ (by simp)).trans (by simp), (q _ _ (by simp)).trans (by simp), trivial, ?_⟩
  simp at hs; omega

set_option maxRecDepth 100000 in
set_option maxHeartbeats 1000000 in
theorem sameNets0_w (w : World) :
    Calls Tryz.prog 35 #[.agg #[.slice none 0 0, .slice none 0 0], .agg #[.slice none 0 0, .slice none 0 0]] w fun e w' => e = .returned (.bool true) ∧ Below w.heap.size w w' := by
  go_enter Tryz.func35, Tryz.ntmps35
  go_wp2
  go_loop [5] (fun ii => ii = .int .i64 0) (fun ii => 0)
  case atStart => exact rfl
  case round =>
    obtain rfl := hrel
    go_wp2
    go_loop [6] (fun ii => ii = .int .i64 0) (fun ii => 0)
    case atStart => exact rfl
    case round =>
      obtain rfl := hrel
      go_wp2
      go_ret
      exact ⟨rfl, ((Below.refl _ _).alloc (Nat.le_refl _) _).alloc (by simp) _⟩
end Go.Kn

namespace Go.Kn
open Go Go.Proofs Go.RowKit

theorem addr_plain (b j : Nat) : (⟨b, 0, none⟩ : Addr).add j = ⟨b, j, none⟩ := by
  unfold Addr.add
  split
  · rename_i h; rw [h]
  · simp

set_option maxRecDepth 100000 in
set_option maxHeartbeats 2000000 in
theorem lawsp_a (na oa : Option Addr) (ln cn lo co : Nat) (N : Nat → P8) (U : Nat → C8) (at' dg : Int) (w : World) (hls : ln ≤ maxLen) (hlt : lo ≤ maxLen) (H : Hid (Ne8 w na oa ln lo N U)) (K : Hid KnownOk) (hpw : Hid (Pw w)) (hq : ¬ (ln ≤ 9 ∧ lo ≤ 13)) :
    Calls Tryz.prog 8 #[.agg #[.slice na ln cn, .slice oa lo co], .int .i64 at', .int .i64 dg] w
      fun e w' => e = .returned (.bool true) ∧ Below w.heap.size w w' := by
  have hsh : decide (ln ≤ 9 ∧ lo ≤ 13) = false := decide_eq_false hq
  have BX := Lib.hid (fun (w1 : World) (hb : Below (w.alloc (.cells #[.slice na ln cn, .slice oa lo co] 25)).heap.size (w.alloc (.cells #[.slice na ln cn, .slice oa lo co] 25)) w1) => box8 hb)
  have HPW : Hid (∀ w1, Below (w.alloc (.cells #[.slice na ln cn, .slice oa lo co] 25)).heap.size (w.alloc (.cells #[.slice na ln cn, .slice oa lo co] 25)) w1 → Pw w1) := Lib.hid fun w1 h => hpw.out.on (below_al h)
  have HN : Hid (∀ w1, Below (w.alloc (.cells #[.slice na ln cn, .slice oa lo co] 25)).heap.size (w.alloc (.cells #[.slice na ln cn, .slice oa lo co] 25)) w1 → Hid (Ne8 w1 na oa ln lo N U)) := Lib.hid fun w1 h => Lib.hid (H.out.below (below_al h))
  have hb : Below (w.alloc (.cells #[.slice na ln cn, .slice oa lo co] 25)).heap.size (w.alloc (.cells #[.slice na ln cn, .slice oa lo co] 25)) (w.alloc (.cells #[.slice na ln cn, .slice oa lo co] 25)) := Below.refl _ _
  obtain ⟨x1, x2, x3, x4⟩ := BX.out _ hb
  clear H
  go_enter Tryz.func8, Tryz.ntmps8
  go_wp2_with (first
    | (go_at_call 9; refine (short_w _ _ _ _ _ _ _).mono ?_; rw [hsh]; rintro e wl ⟨rfl, hv⟩; replace hb := hb.trans (hv.mono hb.size); clear x1 x2 x3 x4; obtain ⟨x1, x2, x3, x4⟩ := BX.out _ hb)
    | (go_at_call 10; refine (K.out _ (HPW.out _ hb)).mono ?_; rintro e wl ⟨rfl, hv⟩; replace hb := hb.trans (hv.mono hb.size); clear x1 x2 x3 x4; obtain ⟨x1, x2, x3, x4⟩ := BX.out _ hb)    )
  go_ret
  exact ⟨rfl, below_al hb⟩

set_option maxRecDepth 100000 in
set_option maxHeartbeats 2000000 in
theorem lawsp_c (na oa : Option Addr) (ln cn lo co : Nat) (N : Nat → P8) (U : Nat → C8) (at' dg : Int) (w : World) (hls : ln ≤ 1000000) (hlt : lo ≤ 1000000) (H : Hid (Ne8 w na oa ln lo N U)) (K : Hid KnownOk) (hpw : Hid (Pw w)) (hq : ln ≤ 9 ∧ lo ≤ 13) (HR : Hid (¬ NetP ln N lo U)) :
    Calls Tryz.prog 8 #[.agg #[.slice na ln cn, .slice oa lo co], .int .i64 at', .int .i64 dg] w
      fun e w' => e = .returned (.bool true) ∧ Below w.heap.size w w' := by
  have hnv : netV ln N lo U = false := by
    cases h : netV ln N lo U with
    | false => rfl
    | true => exact absurd (netV_iff.1 h) HR.out
  have hsh : decide (ln ≤ 9 ∧ lo ≤ 13) = true := decide_eq_true hq
  have BX := Lib.hid (fun (w1 : World) (hb : Below (w.alloc (.cells #[.slice na ln cn, .slice oa lo co] 25)).heap.size (w.alloc (.cells #[.slice na ln cn, .slice oa lo co] 25)) w1) => box8 hb)
  have HPW : Hid (∀ w1, Below (w.alloc (.cells #[.slice na ln cn, .slice oa lo co] 25)).heap.size (w.alloc (.cells #[.slice na ln cn, .slice oa lo co] 25)) w1 → Pw w1) := Lib.hid fun w1 h => hpw.out.on (below_al h)
  have HN : Hid (∀ w1, Below (w.alloc (.cells #[.slice na ln cn, .slice oa lo co] 25)).heap.size (w.alloc (.cells #[.slice na ln cn, .slice oa lo co] 25)) w1 → Hid (Ne8 w1 na oa ln lo N U)) := Lib.hid fun w1 h => Lib.hid (H.out.below (below_al h))
  have hb : Below (w.alloc (.cells #[.slice na ln cn, .slice oa lo co] 25)).heap.size (w.alloc (.cells #[.slice na ln cn, .slice oa lo co] 25)) (w.alloc (.cells #[.slice na ln cn, .slice oa lo co] 25)) := Below.refl _ _
  obtain ⟨x1, x2, x3, x4⟩ := BX.out _ hb
  clear H
  go_enter Tryz.func8, Tryz.ntmps8
  go_wp2_with (first
    | (go_at_call 9; refine (short_w _ _ _ _ _ _ _).mono ?_; rw [hsh]; rintro e wl ⟨rfl, hv⟩; replace hb := hb.trans (hv.mono hb.size); clear x1 x2 x3 x4; obtain ⟨x1, x2, x3, x4⟩ := BX.out _ hb)
    | (go_at_call 11; refine (rnet_w _ _ _ _ _ _ N U _ (by omega) (by omega) (HN.out _ hb)).mono ?_; rw [hnv]; rintro e wl ⟨rfl, hv⟩; replace hb := hb.trans (hv.mono hb.size); clear x1 x2 x3 x4; obtain ⟨x1, x2, x3, x4⟩ := BX.out _ hb)
    | (go_at_call 10; refine (K.out _ (HPW.out _ hb)).mono ?_; rintro e wl ⟨rfl, hv⟩; replace hb := hb.trans (hv.mono hb.size); clear x1 x2 x3 x4; obtain ⟨x1, x2, x3, x4⟩ := BX.out _ hb)    )
  go_ret
  exact ⟨rfl, below_al hb⟩

set_option maxRecDepth 100000 in
set_option maxHeartbeats 2000000 in
theorem lawsp_d1 (na oa : Option Addr) (ln cn lo co : Nat) (N : Nat → P8) (U : Nat → C8) (at' dg : Int) (w : World) (hls : ln ≤ 1000000) (hlt : lo ≤ 1000000) (H : Hid (Ne8 w na oa ln lo N U)) (K : Hid KnownOk) (hpw : Hid (Pw w)) (hq : ln ≤ 9 ∧ lo ≤ 13) (HR : Hid (NetP ln N lo U)) (hd : dg < 0) :
    Calls Tryz.prog 8 #[.agg #[.slice na ln cn, .slice oa lo co], .int .i64 at', .int .i64 dg] w
      fun e w' => e = .returned (.bool true) ∧ Below w.heap.size w w' := by
  have hnv : netV ln N lo U = true := netV_iff.2 HR.out
  have hsh : decide (ln ≤ 9 ∧ lo ≤ 13) = true := decide_eq_true hq
  have hd1 : decide (dg < 0) = true := decide_eq_true hd
  have BX := Lib.hid (fun (w1 : World) (hb : Below (w.alloc (.cells #[.slice na ln cn, .slice oa lo co] 25)).heap.size (w.alloc (.cells #[.slice na ln cn, .slice oa lo co] 25)) w1) => box8 hb)
  have HPW : Hid (∀ w1, Below (w.alloc (.cells #[.slice na ln cn, .slice oa lo co] 25)).heap.size (w.alloc (.cells #[.slice na ln cn, .slice oa lo co] 25)) w1 → Pw w1) := Lib.hid fun w1 h => hpw.out.on (below_al h)
  have HN : Hid (∀ w1, Below (w.alloc (.cells #[.slice na ln cn, .slice oa lo co] 25)).heap.size (w.alloc (.cells #[.slice na ln cn, .slice oa lo co] 25)) w1 → Hid (Ne8 w1 na oa ln lo N U)) := Lib.hid fun w1 h => Lib.hid (H.out.below (below_al h))
  have hb : Below (w.alloc (.cells #[.slice na ln cn, .slice oa lo co] 25)).heap.size (w.alloc (.cells #[.slice na ln cn, .slice oa lo co] 25)) (w.alloc (.cells #[.slice na ln cn, .slice oa lo co] 25)) := Below.refl _ _
  obtain ⟨x1, x2, x3, x4⟩ := BX.out _ hb
  clear H
  go_enter Tryz.func8, Tryz.ntmps8
  go_wp2_with (first
    | (go_at_call 9; refine (short_w _ _ _ _ _ _ _).mono ?_; rw [hsh]; rintro e wl ⟨rfl, hv⟩; replace hb := hb.trans (hv.mono hb.size); clear x1 x2 x3 x4; obtain ⟨x1, x2, x3, x4⟩ := BX.out _ hb)
    | (go_at_call 11; refine (rnet_w _ _ _ _ _ _ N U _ (by omega) (by omega) (HN.out _ hb)).mono ?_; rw [hnv]; rintro e wl ⟨rfl, hv⟩; replace hb := hb.trans (hv.mono hb.size); clear x1 x2 x3 x4; obtain ⟨x1, x2, x3, x4⟩ := BX.out _ hb)
    | (go_at_call 10; refine (K.out _ (HPW.out _ hb)).mono ?_; rintro e wl ⟨rfl, hv⟩; replace hb := hb.trans (hv.mono hb.size); clear x1 x2 x3 x4; obtain ⟨x1, x2, x3, x4⟩ := BX.out _ hb)    )
  go_ret
  exact ⟨rfl, below_al hb⟩

set_option maxRecDepth 100000 in
set_option maxHeartbeats 2000000 in
theorem lawsp_d2 (na oa : Option Addr) (ln cn lo co : Nat) (N : Nat → P8) (U : Nat → C8) (at' dg : Int) (w : World) (hls : ln ≤ 1000000) (hlt : lo ≤ 1000000) (H : Hid (Ne8 w na oa ln lo N U)) (K : Hid KnownOk) (hpw : Hid (Pw w)) (hq : ln ≤ 9 ∧ lo ≤ 13) (HR : Hid (NetP ln N lo U)) (hd : ¬ dg < 0) (hd2 : 9 < dg) :
    Calls Tryz.prog 8 #[.agg #[.slice na ln cn, .slice oa lo co], .int .i64 at', .int .i64 dg] w
      fun e w' => e = .returned (.bool true) ∧ Below w.heap.size w w' := by
  have hnv : netV ln N lo U = true := netV_iff.2 HR.out
  have hsh : decide (ln ≤ 9 ∧ lo ≤ 13) = true := decide_eq_true hq
  have hd1 : decide (dg < 0) = false := decide_eq_false hd
  have hd3 : decide (9 < dg) = true := decide_eq_true hd2
  have BX := Lib.hid (fun (w1 : World) (hb : Below (w.alloc (.cells #[.slice na ln cn, .slice oa lo co] 25)).heap.size (w.alloc (.cells #[.slice na ln cn, .slice oa lo co] 25)) w1) => box8 hb)
  have HPW : Hid (∀ w1, Below (w.alloc (.cells #[.slice na ln cn, .slice oa lo co] 25)).heap.size (w.alloc (.cells #[.slice na ln cn, .slice oa lo co] 25)) w1 → Pw w1) := Lib.hid fun w1 h => hpw.out.on (below_al h)
  have HN : Hid (∀ w1, Below (w.alloc (.cells #[.slice na ln cn, .slice oa lo co] 25)).heap.size (w.alloc (.cells #[.slice na ln cn, .slice oa lo co] 25)) w1 → Hid (Ne8 w1 na oa ln lo N U)) := Lib.hid fun w1 h => Lib.hid (H.out.below (below_al h))
  have hb : Below (w.alloc (.cells #[.slice na ln cn, .slice oa lo co] 25)).heap.size (w.alloc (.cells #[.slice na ln cn, .slice oa lo co] 25)) (w.alloc (.cells #[.slice na ln cn, .slice oa lo co] 25)) := Below.refl _ _
  obtain ⟨x1, x2, x3, x4⟩ := BX.out _ hb
  clear H
  go_enter Tryz.func8, Tryz.ntmps8
  go_wp2_with (first
    | (go_at_call 9; refine (short_w _ _ _ _ _ _ _).mono ?_; rw [hsh]; rintro e wl ⟨rfl, hv⟩; replace hb := hb.trans (hv.mono hb.size); clear x1 x2 x3 x4; obtain ⟨x1, x2, x3, x4⟩ := BX.out _ hb)
    | (go_at_call 11; refine (rnet_w _ _ _ _ _ _ N U _ (by omega) (by omega) (HN.out _ hb)).mono ?_; rw [hnv]; rintro e wl ⟨rfl, hv⟩; replace hb := hb.trans (hv.mono hb.size); clear x1 x2 x3 x4; obtain ⟨x1, x2, x3, x4⟩ := BX.out _ hb)
    | (go_at_call 10; refine (K.out _ (HPW.out _ hb)).mono ?_; rintro e wl ⟨rfl, hv⟩; replace hb := hb.trans (hv.mono hb.size); clear x1 x2 x3 x4; obtain ⟨x1, x2, x3, x4⟩ := BX.out _ hb)    )
  go_ret
  exact ⟨rfl, below_al hb⟩

set_option maxRecDepth 100000 in
set_option maxHeartbeats 4000000 in
theorem lawsp_e1 (na oa : Option Addr) (ln cn lo co : Nat) (N : Nat → P8) (U : Nat → C8) (at' dg : Int) (w : World) (H : Hid (Ne8 w na oa ln lo N U)) (HR : Hid (NetP ln N lo U)) (K : Hid KnownOk) (hpw : Hid (Pw w)) (hp : Hid (Pow w)) (hm : Hid (ML w)) (hd : 0 ≤ dg ∧ dg ≤ 9) (ha : at' < 0) :
    Calls Tryz.prog 8 #[.agg #[.slice na ln cn, .slice oa lo co], .int .i64 at', .int .i64 dg] w
      fun e w' => e = .returned (.bool true) ∧ Below w.heap.size w w' := by
  have BX := Lib.hid (fun (w1 : World) (hb : Below (w.alloc (.cells #[.slice na ln cn, .slice oa lo co] 25)).heap.size (w.alloc (.cells #[.slice na ln cn, .slice oa lo co] 25)) w1) => box8 hb)
  have HPW : Hid (∀ w1, Below (w.alloc (.cells #[.slice na ln cn, .slice oa lo co] 25)).heap.size (w.alloc (.cells #[.slice na ln cn, .slice oa lo co] 25)) w1 → Pw w1) := Lib.hid fun w1 h => hpw.out.on (below_al h)
  have HL : Hid (∀ w1, Below (w.alloc (.cells #[.slice na ln cn, .slice oa lo co] 25)).heap.size (w.alloc (.cells #[.slice na ln cn, .slice oa lo co] 25)) w1 → Ne8 w1 na oa ln lo N U ∧ Pow w1 ∧ ML w1) := Lib.hid fun w1 h => ⟨H.out.below (below_al h), hp.out.on (below_al h), hm.out.on (below_al h)⟩
  have HN : Hid (∀ w1, Below (w.alloc (.cells #[.slice na ln cn, .slice oa lo co] 25)).heap.size (w.alloc (.cells #[.slice na ln cn, .slice oa lo co] 25)) w1 → Hid (Ne8 w1 na oa ln lo N U)) := Lib.hid fun w1 h => Lib.hid (HL.out w1 h).1
  have q0 := HR.out.l7
  have q2 := HR.out.c10
  have q3 := HR.out.l1
  have hnv : netV ln N lo U = true := netV_iff.2 HR.out
  have hls : ln ≤ 1000000 := by omega
  have hlt : lo ≤ 1000000 := by omega
  have hsh : decide (ln ≤ 9 ∧ lo ≤ 13) = true := decide_eq_true ⟨by omega, by omega⟩
  have htl := text_lenG HR.out
  have hdl : ¬ dg < 0 := by omega
  have hdg : ¬ 9 < dg := by omega
  have hb : Below (w.alloc (.cells #[.slice na ln cn, .slice oa lo co] 25)).heap.size (w.alloc (.cells #[.slice na ln cn, .slice oa lo co] 25)) (w.alloc (.cells #[.slice na ln cn, .slice oa lo co] 25)) := Below.refl _ _
  obtain ⟨x1, x2, x3, x4⟩ := BX.out _ hb
  have HPR : Hid (∀ w1, Below (w.alloc (.cells #[.slice na ln cn, .slice oa lo co] 25)).heap.size (w.alloc (.cells #[.slice na ln cn, .slice oa lo co] 25)) w1 → Calls Tryz.prog 32 #[.agg #[.slice na ln cn, .slice oa lo co]] w1 fun e w' => e = .returned (.tuple #[.string (bs (textL (rowsG ln lo N U))), .int .i64 0]) ∧ Below w1.heap.size w1 w') := Lib.hid fun w1 h => print_w na oa ln cn lo co N U w1 (Lib.hid (HL.out _ h).1) HR (Lib.hid (HL.out _ h).2.1) (Lib.hid (by omega))
  obtain ⟨TX, hTX⟩ : ∃ TX, textL (rowsG ln lo N U) = TX := ⟨_, rfl⟩
  rw [hTX] at HPR htl
  have HTX := Lib.hid hTX
  clear hTX
  have hbz : (bs TX).size = TX.length := bs_size TX
  have ha1 : decide (at' < 0) = true := decide_eq_true ha
  go_enter Tryz.func8, Tryz.ntmps8
  go_wp2_with (first
    | (go_at_call 9; refine (short_w _ _ _ _ _ _ _).mono ?_; rw [hsh]; rintro e wl ⟨rfl, hv⟩; replace hb := hb.trans (hv.mono hb.size); clear x1 x2 x3 x4; obtain ⟨x1, x2, x3, x4⟩ := BX.out _ hb)
    | (go_at_call 11; refine (rnet_w _ _ _ _ _ _ N U _ (by omega) (by omega) (HN.out _ hb)).mono ?_; rw [hnv]; rintro e wl ⟨rfl, hv⟩; replace hb := hb.trans (hv.mono hb.size); clear x1 x2 x3 x4; obtain ⟨x1, x2, x3, x4⟩ := BX.out _ hb)
    | (go_at_call 32; refine (HPR.out _ hb).mono ?_; rintro e wl ⟨rfl, hv⟩; replace hb := hb.trans (hv.mono hb.size); clear x1 x2 x3 x4; obtain ⟨x1, x2, x3, x4⟩ := BX.out _ hb)
    | (go_at_call 10; refine (K.out _ (HPW.out _ hb)).mono ?_; rintro e wl ⟨rfl, hv⟩; replace hb := hb.trans (hv.mono hb.size); clear x1 x2 x3 x4; obtain ⟨x1, x2, x3, x4⟩ := BX.out _ hb))
  go_ret
  exact ⟨rfl, below_al hb⟩

set_option maxRecDepth 100000 in
set_option maxHeartbeats 4000000 in
theorem lawsp_e2 (na oa : Option Addr) (ln cn lo co : Nat) (N : Nat → P8) (U : Nat → C8) (at' dg : Int) (w : World) (H : Hid (Ne8 w na oa ln lo N U)) (HR : Hid (NetP ln N lo U)) (K : Hid KnownOk) (hpw : Hid (Pw w)) (hp : Hid (Pow w)) (hm : Hid (ML w)) (hd : 0 ≤ dg ∧ dg ≤ 9) (ha : ¬ at' < 0) (ha2 : ((textL (rowsG ln lo N U)).length : Int) ≤ at') :
    Calls Tryz.prog 8 #[.agg #[.slice na ln cn, .slice oa lo co], .int .i64 at', .int .i64 dg] w
      fun e w' => e = .returned (.bool true) ∧ Below w.heap.size w w' := by
  have BX := Lib.hid (fun (w1 : World) (hb : Below (w.alloc (.cells #[.slice na ln cn, .slice oa lo co] 25)).heap.size (w.alloc (.cells #[.slice na ln cn, .slice oa lo co] 25)) w1) => box8 hb)
  have HPW : Hid (∀ w1, Below (w.alloc (.cells #[.slice na ln cn, .slice oa lo co] 25)).heap.size (w.alloc (.cells #[.slice na ln cn, .slice oa lo co] 25)) w1 → Pw w1) := Lib.hid fun w1 h => hpw.out.on (below_al h)
  have HL : Hid (∀ w1, Below (w.alloc (.cells #[.slice na ln cn, .slice oa lo co] 25)).heap.size (w.alloc (.cells #[.slice na ln cn, .slice oa lo co] 25)) w1 → Ne8 w1 na oa ln lo N U ∧ Pow w1 ∧ ML w1) := Lib.hid fun w1 h => ⟨H.out.below (below_al h), hp.out.on (below_al h), hm.out.on (below_al h)⟩
  have HN : Hid (∀ w1, Below (w.alloc (.cells #[.slice na ln cn, .slice oa lo co] 25)).heap.size (w.alloc (.cells #[.slice na ln cn, .slice oa lo co] 25)) w1 → Hid (Ne8 w1 na oa ln lo N U)) := Lib.hid fun w1 h => Lib.hid (HL.out w1 h).1
  have q0 := HR.out.l7
  have q2 := HR.out.c10
  have q3 := HR.out.l1
  have hnv : netV ln N lo U = true := netV_iff.2 HR.out
  have hls : ln ≤ 1000000 := by omega
  have hlt : lo ≤ 1000000 := by omega
  have hsh : decide (ln ≤ 9 ∧ lo ≤ 13) = true := decide_eq_true ⟨by omega, by omega⟩
  have htl := text_lenG HR.out
  have hdl : ¬ dg < 0 := by omega
  have hdg : ¬ 9 < dg := by omega
  have hb : Below (w.alloc (.cells #[.slice na ln cn, .slice oa lo co] 25)).heap.size (w.alloc (.cells #[.slice na ln cn, .slice oa lo co] 25)) (w.alloc (.cells #[.slice na ln cn, .slice oa lo co] 25)) := Below.refl _ _
  obtain ⟨x1, x2, x3, x4⟩ := BX.out _ hb
  have HPR : Hid (∀ w1, Below (w.alloc (.cells #[.slice na ln cn, .slice oa lo co] 25)).heap.size (w.alloc (.cells #[.slice na ln cn, .slice oa lo co] 25)) w1 → Calls Tryz.prog 32 #[.agg #[.slice na ln cn, .slice oa lo co]] w1 fun e w' => e = .returned (.tuple #[.string (bs (textL (rowsG ln lo N U))), .int .i64 0]) ∧ Below w1.heap.size w1 w') := Lib.hid fun w1 h => print_w na oa ln cn lo co N U w1 (Lib.hid (HL.out _ h).1) HR (Lib.hid (HL.out _ h).2.1) (Lib.hid (by omega))
  obtain ⟨TX, hTX⟩ : ∃ TX, textL (rowsG ln lo N U) = TX := ⟨_, rfl⟩
  rw [hTX] at HPR htl
  have HTX := Lib.hid hTX
  clear hTX
  have hbz : (bs TX).size = TX.length := bs_size TX
  rw [HTX.out] at ha2
  have ha1 : decide (at' < 0) = false := decide_eq_false ha
  have ha3 : decide ((TX.length : Int) ≤ at') = true := decide_eq_true ha2
  go_enter Tryz.func8, Tryz.ntmps8
  go_wp2_with (first
    | (go_at_call 9; refine (short_w _ _ _ _ _ _ _).mono ?_; rw [hsh]; rintro e wl ⟨rfl, hv⟩; replace hb := hb.trans (hv.mono hb.size); clear x1 x2 x3 x4; obtain ⟨x1, x2, x3, x4⟩ := BX.out _ hb)
    | (go_at_call 11; refine (rnet_w _ _ _ _ _ _ N U _ (by omega) (by omega) (HN.out _ hb)).mono ?_; rw [hnv]; rintro e wl ⟨rfl, hv⟩; replace hb := hb.trans (hv.mono hb.size); clear x1 x2 x3 x4; obtain ⟨x1, x2, x3, x4⟩ := BX.out _ hb)
    | (go_at_call 32; refine (HPR.out _ hb).mono ?_; rintro e wl ⟨rfl, hv⟩; replace hb := hb.trans (hv.mono hb.size); clear x1 x2 x3 x4; obtain ⟨x1, x2, x3, x4⟩ := BX.out _ hb)
    | (go_at_call 10; refine (K.out _ (HPW.out _ hb)).mono ?_; rintro e wl ⟨rfl, hv⟩; replace hb := hb.trans (hv.mono hb.size); clear x1 x2 x3 x4; obtain ⟨x1, x2, x3, x4⟩ := BX.out _ hb))
  go_ret
  exact ⟨rfl, below_al hb⟩

set_option maxRecDepth 100000 in
set_option maxHeartbeats 4000000 in
theorem lawsp_e3 (na oa : Option Addr) (ln cn lo co : Nat) (N : Nat → P8) (U : Nat → C8) (at' dg : Int) (w : World) (H : Hid (Ne8 w na oa ln lo N U)) (HR : Hid (NetP ln N lo U)) (K : Hid KnownOk) (hpw : Hid (Pw w)) (hp : Hid (Pow w)) (hm : Hid (ML w)) (hd : 0 ≤ dg ∧ dg ≤ 9) (p : Nat) (c : UInt8) (hat : at' = (p : Int)) (hpc : (textL (rowsG ln lo N U))[p]? = some c) (hc : c.toNat < 48) :
    Calls Tryz.prog 8 #[.agg #[.slice na ln cn, .slice oa lo co], .int .i64 at', .int .i64 dg] w
      fun e w' => e = .returned (.bool true) ∧ Below w.heap.size w w' := by
  have BX := Lib.hid (fun (w1 : World) (hb : Below (w.alloc (.cells #[.slice na ln cn, .slice oa lo co] 25)).heap.size (w.alloc (.cells #[.slice na ln cn, .slice oa lo co] 25)) w1) => box8 hb)
  have HPW : Hid (∀ w1, Below (w.alloc (.cells #[.slice na ln cn, .slice oa lo co] 25)).heap.size (w.alloc (.cells #[.slice na ln cn, .slice oa lo co] 25)) w1 → Pw w1) := Lib.hid fun w1 h => hpw.out.on (below_al h)
  have HL : Hid (∀ w1, Below (w.alloc (.cells #[.slice na ln cn, .slice oa lo co] 25)).heap.size (w.alloc (.cells #[.slice na ln cn, .slice oa lo co] 25)) w1 → Ne8 w1 na oa ln lo N U ∧ Pow w1 ∧ ML w1) := Lib.hid fun w1 h => ⟨H.out.below (below_al h), hp.out.on (below_al h), hm.out.on (below_al h)⟩
  have HN : Hid (∀ w1, Below (w.alloc (.cells #[.slice na ln cn, .slice oa lo co] 25)).heap.size (w.alloc (.cells #[.slice na ln cn, .slice oa lo co] 25)) w1 → Hid (Ne8 w1 na oa ln lo N U)) := Lib.hid fun w1 h => Lib.hid (HL.out w1 h).1
  have q0 := HR.out.l7
  have q2 := HR.out.c10
  have q3 := HR.out.l1
  have hnv : netV ln N lo U = true := netV_iff.2 HR.out
  have hls : ln ≤ 1000000 := by omega
  have hlt : lo ≤ 1000000 := by omega
  have hsh : decide (ln ≤ 9 ∧ lo ≤ 13) = true := decide_eq_true ⟨by omega, by omega⟩
  have htl := text_lenG HR.out
  have hdl : ¬ dg < 0 := by omega
  have hdg : ¬ 9 < dg := by omega
  have hb : Below (w.alloc (.cells #[.slice na ln cn, .slice oa lo co] 25)).heap.size (w.alloc (.cells #[.slice na ln cn, .slice oa lo co] 25)) (w.alloc (.cells #[.slice na ln cn, .slice oa lo co] 25)) := Below.refl _ _
  obtain ⟨x1, x2, x3, x4⟩ := BX.out _ hb
  have HPR : Hid (∀ w1, Below (w.alloc (.cells #[.slice na ln cn, .slice oa lo co] 25)).heap.size (w.alloc (.cells #[.slice na ln cn, .slice oa lo co] 25)) w1 → Calls Tryz.prog 32 #[.agg #[.slice na ln cn, .slice oa lo co]] w1 fun e w' => e = .returned (.tuple #[.string (bs (textL (rowsG ln lo N U))), .int .i64 0]) ∧ Below w1.heap.size w1 w') := Lib.hid fun w1 h => print_w na oa ln cn lo co N U w1 (Lib.hid (HL.out _ h).1) HR (Lib.hid (HL.out _ h).2.1) (Lib.hid (by omega))
  obtain ⟨TX, hTX⟩ : ∃ TX, textL (rowsG ln lo N U) = TX := ⟨_, rfl⟩
  rw [hTX] at HPR htl
  have HTX := Lib.hid hTX
  clear hTX
  have hbz : (bs TX).size = TX.length := bs_size TX
  subst hat
  rw [HTX.out] at hpc
  have hpl : p < TX.length := (List.getElem?_eq_some_iff.1 hpc).1
  have hby : ∀ h : p < (bs TX).size, (bs TX)[p]'h = c := fun h => by rw [bs_byte h]; simp [List.getD, hpc]
  have n0 : (0 : Int) ≤ (p : Int) := by omega
  have n1 : (p : Int) < (TX.length : Int) := by omega
  have n2 : ¬ (p : Int) < 0 := by omega
  have n3 : ¬ (TX.length : Int) ≤ (p : Int) := by omega
  have hc1 : (c.toNat : Int) < 48 := by omega
  have hc2 : decide ((c.toNat : Int) < 48) = true := decide_eq_true hc1
  go_enter Tryz.func8, Tryz.ntmps8
  go_wp2_with (first
    | (go_at_call 9; refine (short_w _ _ _ _ _ _ _).mono ?_; rw [hsh]; rintro e wl ⟨rfl, hv⟩; replace hb := hb.trans (hv.mono hb.size); clear x1 x2 x3 x4; obtain ⟨x1, x2, x3, x4⟩ := BX.out _ hb)
    | (go_at_call 11; refine (rnet_w _ _ _ _ _ _ N U _ (by omega) (by omega) (HN.out _ hb)).mono ?_; rw [hnv]; rintro e wl ⟨rfl, hv⟩; replace hb := hb.trans (hv.mono hb.size); clear x1 x2 x3 x4; obtain ⟨x1, x2, x3, x4⟩ := BX.out _ hb)
    | (go_at_call 32; refine (HPR.out _ hb).mono ?_; rintro e wl ⟨rfl, hv⟩; replace hb := hb.trans (hv.mono hb.size); clear x1 x2 x3 x4; obtain ⟨x1, x2, x3, x4⟩ := BX.out _ hb)
    | (go_at_call 10; refine (K.out _ (HPW.out _ hb)).mono ?_; rintro e wl ⟨rfl, hv⟩; replace hb := hb.trans (hv.mono hb.size); clear x1 x2 x3 x4; obtain ⟨x1, x2, x3, x4⟩ := BX.out _ hb))
  go_ret
  exact ⟨rfl, below_al hb⟩

set_option maxRecDepth 100000 in
set_option maxHeartbeats 4000000 in
theorem lawsp_e4 (na oa : Option Addr) (ln cn lo co : Nat) (N : Nat → P8) (U : Nat → C8) (at' dg : Int) (w : World) (H : Hid (Ne8 w na oa ln lo N U)) (HR : Hid (NetP ln N lo U)) (K : Hid KnownOk) (hpw : Hid (Pw w)) (hp : Hid (Pow w)) (hm : Hid (ML w)) (hd : 0 ≤ dg ∧ dg ≤ 9) (p : Nat) (c : UInt8) (hat : at' = (p : Int)) (hpc : (textL (rowsG ln lo N U))[p]? = some c) (hc : 57 < c.toNat) :
    Calls Tryz.prog 8 #[.agg #[.slice na ln cn, .slice oa lo co], .int .i64 at', .int .i64 dg] w
      fun e w' => e = .returned (.bool true) ∧ Below w.heap.size w w' := by
  have BX := Lib.hid (fun (w1 : World) (hb : Below (w.alloc (.cells #[.slice na ln cn, .slice oa lo co] 25)).heap.size (w.alloc (.cells #[.slice na ln cn, .slice oa lo co] 25)) w1) => box8 hb)
  have HPW : Hid (∀ w1, Below (w.alloc (.cells #[.slice na ln cn, .slice oa lo co] 25)).heap.size (w.alloc (.cells #[.slice na ln cn, .slice oa lo co] 25)) w1 → Pw w1) := Lib.hid fun w1 h => hpw.out.on (below_al h)
  have HL : Hid (∀ w1, Below (w.alloc (.cells #[.slice na ln cn, .slice oa lo co] 25)).heap.size (w.alloc (.cells #[.slice na ln cn, .slice oa lo co] 25)) w1 → Ne8 w1 na oa ln lo N U ∧ Pow w1 ∧ ML w1) := Lib.hid fun w1 h => ⟨H.out.below (below_al h), hp.out.on (below_al h), hm.out.on (below_al h)⟩
  have HN : Hid (∀ w1, Below (w.alloc (.cells #[.slice na ln cn, .slice oa lo co] 25)).heap.size (w.alloc (.cells #[.slice na ln cn, .slice oa lo co] 25)) w1 → Hid (Ne8 w1 na oa ln lo N U)) := Lib.hid fun w1 h => Lib.hid (HL.out w1 h).1
  have q0 := HR.out.l7
  have q2 := HR.out.c10
  have q3 := HR.out.l1
  have hnv : netV ln N lo U = true := netV_iff.2 HR.out
  have hls : ln ≤ 1000000 := by omega
  have hlt : lo ≤ 1000000 := by omega
  have hsh : decide (ln ≤ 9 ∧ lo ≤ 13) = true := decide_eq_true ⟨by omega, by omega⟩
  have htl := text_lenG HR.out
  have hdl : ¬ dg < 0 := by omega
  have hdg : ¬ 9 < dg := by omega
  have hb : Below (w.alloc (.cells #[.slice na ln cn, .slice oa lo co] 25)).heap.size (w.alloc (.cells #[.slice na ln cn, .slice oa lo co] 25)) (w.alloc (.cells #[.slice na ln cn, .slice oa lo co] 25)) := Below.refl _ _
  obtain ⟨x1, x2, x3, x4⟩ := BX.out _ hb
  have HPR : Hid (∀ w1, Below (w.alloc (.cells #[.slice na ln cn, .slice oa lo co] 25)).heap.size (w.alloc (.cells #[.slice na ln cn, .slice oa lo co] 25)) w1 → Calls Tryz.prog 32 #[.agg #[.slice na ln cn, .slice oa lo co]] w1 fun e w' => e = .returned (.tuple #[.string (bs (textL (rowsG ln lo N U))), .int .i64 0]) ∧ Below w1.heap.size w1 w') := Lib.hid fun w1 h => print_w na oa ln cn lo co N U w1 (Lib.hid (HL.out _ h).1) HR (Lib.hid (HL.out _ h).2.1) (Lib.hid (by omega))
  obtain ⟨TX, hTX⟩ : ∃ TX, textL (rowsG ln lo N U) = TX := ⟨_, rfl⟩
  rw [hTX] at HPR htl
  have HTX := Lib.hid hTX
  clear hTX
  have hbz : (bs TX).size = TX.length := bs_size TX
  subst hat
  rw [HTX.out] at hpc
  have hpl : p < TX.length := (List.getElem?_eq_some_iff.1 hpc).1
  have hby : ∀ h : p < (bs TX).size, (bs TX)[p]'h = c := fun h => by rw [bs_byte h]; simp [List.getD, hpc]
  have n0 : (0 : Int) ≤ (p : Int) := by omega
  have n1 : (p : Int) < (TX.length : Int) := by omega
  have n2 : ¬ (p : Int) < 0 := by omega
  have n3 : ¬ (TX.length : Int) ≤ (p : Int) := by omega
  have hc0 : ¬ (c.toNat : Int) < 48 := by omega
  have hc1 : (57 : Int) < (c.toNat : Int) := by omega
  have hc2 : decide ((57 : Int) < (c.toNat : Int)) = true := decide_eq_true hc1
  go_enter Tryz.func8, Tryz.ntmps8
  go_wp2_with (first
    | (go_at_call 9; refine (short_w _ _ _ _ _ _ _).mono ?_; rw [hsh]; rintro e wl ⟨rfl, hv⟩; replace hb := hb.trans (hv.mono hb.size); clear x1 x2 x3 x4; obtain ⟨x1, x2, x3, x4⟩ := BX.out _ hb)
    | (go_at_call 11; refine (rnet_w _ _ _ _ _ _ N U _ (by omega) (by omega) (HN.out _ hb)).mono ?_; rw [hnv]; rintro e wl ⟨rfl, hv⟩; replace hb := hb.trans (hv.mono hb.size); clear x1 x2 x3 x4; obtain ⟨x1, x2, x3, x4⟩ := BX.out _ hb)
    | (go_at_call 32; refine (HPR.out _ hb).mono ?_; rintro e wl ⟨rfl, hv⟩; replace hb := hb.trans (hv.mono hb.size); clear x1 x2 x3 x4; obtain ⟨x1, x2, x3, x4⟩ := BX.out _ hb)
    | (go_at_call 10; refine (K.out _ (HPW.out _ hb)).mono ?_; rintro e wl ⟨rfl, hv⟩; replace hb := hb.trans (hv.mono hb.size); clear x1 x2 x3 x4; obtain ⟨x1, x2, x3, x4⟩ := BX.out _ hb))
  go_ret
  exact ⟨rfl, below_al hb⟩

set_option maxRecDepth 100000 in
set_option maxHeartbeats 4000000 in
theorem lawsp_e5 (na oa : Option Addr) (ln cn lo co : Nat) (N : Nat → P8) (U : Nat → C8) (at' dg : Int) (w : World) (H : Hid (Ne8 w na oa ln lo N U)) (HR : Hid (NetP ln N lo U)) (K : Hid KnownOk) (hpw : Hid (Pw w)) (hp : Hid (Pow w)) (hm : Hid (ML w)) (hd : 0 ≤ dg ∧ dg ≤ 9) (p : Nat) (c : UInt8) (hat : at' = (p : Int)) (hpc : (textL (rowsG ln lo N U))[p]? = some c) (hc : 48 ≤ c.toNat ∧ c.toNat ≤ 57) (hcd : Hid ((c.toNat : Int) = 48 + dg)) :
    Calls Tryz.prog 8 #[.agg #[.slice na ln cn, .slice oa lo co], .int .i64 at', .int .i64 dg] w
      fun e w' => e = .returned (.bool true) ∧ Below w.heap.size w w' := by
  have BX := Lib.hid (fun (w1 : World) (hb : Below (w.alloc (.cells #[.slice na ln cn, .slice oa lo co] 25)).heap.size (w.alloc (.cells #[.slice na ln cn, .slice oa lo co] 25)) w1) => box8 hb)
  have HPW : Hid (∀ w1, Below (w.alloc (.cells #[.slice na ln cn, .slice oa lo co] 25)).heap.size (w.alloc (.cells #[.slice na ln cn, .slice oa lo co] 25)) w1 → Pw w1) := Lib.hid fun w1 h => hpw.out.on (below_al h)
  have HL : Hid (∀ w1, Below (w.alloc (.cells #[.slice na ln cn, .slice oa lo co] 25)).heap.size (w.alloc (.cells #[.slice na ln cn, .slice oa lo co] 25)) w1 → Ne8 w1 na oa ln lo N U ∧ Pow w1 ∧ ML w1) := Lib.hid fun w1 h => ⟨H.out.below (below_al h), hp.out.on (below_al h), hm.out.on (below_al h)⟩
  have HN : Hid (∀ w1, Below (w.alloc (.cells #[.slice na ln cn, .slice oa lo co] 25)).heap.size (w.alloc (.cells #[.slice na ln cn, .slice oa lo co] 25)) w1 → Hid (Ne8 w1 na oa ln lo N U)) := Lib.hid fun w1 h => Lib.hid (HL.out w1 h).1
  have q0 := HR.out.l7
  have q2 := HR.out.c10
  have q3 := HR.out.l1
  have hnv : netV ln N lo U = true := netV_iff.2 HR.out
  have hls : ln ≤ 1000000 := by omega
  have hlt : lo ≤ 1000000 := by omega
  have hsh : decide (ln ≤ 9 ∧ lo ≤ 13) = true := decide_eq_true ⟨by omega, by omega⟩
  have htl := text_lenG HR.out
  have hdl : ¬ dg < 0 := by omega
  have hdg : ¬ 9 < dg := by omega
  have hb : Below (w.alloc (.cells #[.slice na ln cn, .slice oa lo co] 25)).heap.size (w.alloc (.cells #[.slice na ln cn, .slice oa lo co] 25)) (w.alloc (.cells #[.slice na ln cn, .slice oa lo co] 25)) := Below.refl _ _
  obtain ⟨x1, x2, x3, x4⟩ := BX.out _ hb
  have HPR : Hid (∀ w1, Below (w.alloc (.cells #[.slice na ln cn, .slice oa lo co] 25)).heap.size (w.alloc (.cells #[.slice na ln cn, .slice oa lo co] 25)) w1 → Calls Tryz.prog 32 #[.agg #[.slice na ln cn, .slice oa lo co]] w1 fun e w' => e = .returned (.tuple #[.string (bs (textL (rowsG ln lo N U))), .int .i64 0]) ∧ Below w1.heap.size w1 w') := Lib.hid fun w1 h => print_w na oa ln cn lo co N U w1 (Lib.hid (HL.out _ h).1) HR (Lib.hid (HL.out _ h).2.1) (Lib.hid (by omega))
  obtain ⟨TX, hTX⟩ : ∃ TX, textL (rowsG ln lo N U) = TX := ⟨_, rfl⟩
  rw [hTX] at HPR htl
  have HTX := Lib.hid hTX
  clear hTX
  have hbz : (bs TX).size = TX.length := bs_size TX
  subst hat
  rw [HTX.out] at hpc
  have hpl : p < TX.length := (List.getElem?_eq_some_iff.1 hpc).1
  have hby : ∀ h : p < (bs TX).size, (bs TX)[p]'h = c := fun h => by rw [bs_byte h]; simp [List.getD, hpc]
  have n0 : (0 : Int) ≤ (p : Int) := by omega
  have n1 : (p : Int) < (TX.length : Int) := by omega
  have n2 : ¬ (p : Int) < 0 := by omega
  have n3 : ¬ (TX.length : Int) ≤ (p : Int) := by omega
  have hc0 : ¬ (c.toNat : Int) < 48 := by omega
  have hc1 : ¬ (57 : Int) < (c.toNat : Int) := by omega
  have hce : ((c.toNat : Int) - 48 == dg) = true := by have := hcd.out; simp; omega
  go_enter Tryz.func8, Tryz.ntmps8
  go_wp2_with (first
    | (go_at_call 9; refine (short_w _ _ _ _ _ _ _).mono ?_; rw [hsh]; rintro e wl ⟨rfl, hv⟩; replace hb := hb.trans (hv.mono hb.size); clear x1 x2 x3 x4; obtain ⟨x1, x2, x3, x4⟩ := BX.out _ hb)
    | (go_at_call 11; refine (rnet_w _ _ _ _ _ _ N U _ (by omega) (by omega) (HN.out _ hb)).mono ?_; rw [hnv]; rintro e wl ⟨rfl, hv⟩; replace hb := hb.trans (hv.mono hb.size); clear x1 x2 x3 x4; obtain ⟨x1, x2, x3, x4⟩ := BX.out _ hb)
    | (go_at_call 32; refine (HPR.out _ hb).mono ?_; rintro e wl ⟨rfl, hv⟩; replace hb := hb.trans (hv.mono hb.size); clear x1 x2 x3 x4; obtain ⟨x1, x2, x3, x4⟩ := BX.out _ hb)
    | (go_at_call 10; refine (K.out _ (HPW.out _ hb)).mono ?_; rintro e wl ⟨rfl, hv⟩; replace hb := hb.trans (hv.mono hb.size); clear x1 x2 x3 x4; obtain ⟨x1, x2, x3, x4⟩ := BX.out _ hb))
  go_ret
  exact ⟨rfl, below_al hb⟩

set_option maxRecDepth 100000 in
set_option maxHeartbeats 4000000 in
theorem lawsp_f (na oa : Option Addr) (ln cn lo co : Nat) (N : Nat → P8) (U : Nat → C8) (at' dg : Int) (w : World) (H : Hid (Ne8 w na oa ln lo N U)) (HR : Hid (NetP ln N lo U)) (K : Hid KnownOk) (hpw : Hid (Pw w)) (hp : Hid (Pow w)) (hm : Hid (ML w)) (hd : 0 ≤ dg ∧ dg ≤ 9) (p : Nat) (c : UInt8) (hat : at' = (p : Int)) (hpc : (textL (rowsG ln lo N U))[p]? = some c) (hc : 48 ≤ c.toNat ∧ c.toNat ≤ 57) (hcd : Hid ((c.toNat : Int) ≠ 48 + dg)) :
    Calls Tryz.prog 8 #[.agg #[.slice na ln cn, .slice oa lo co], .int .i64 at', .int .i64 dg] w
      fun e w' => e = .returned (.bool true) ∧ Below w.heap.size w w' := by
  have BX := Lib.hid (fun (w1 : World) (hb : Below (w.alloc (.cells #[.slice na ln cn, .slice oa lo co] 25)).heap.size (w.alloc (.cells #[.slice na ln cn, .slice oa lo co] 25)) w1) => box8 hb)
  have HPW : Hid (∀ w1, Below (w.alloc (.cells #[.slice na ln cn, .slice oa lo co] 25)).heap.size (w.alloc (.cells #[.slice na ln cn, .slice oa lo co] 25)) w1 → Pw w1) := Lib.hid fun w1 h => hpw.out.on (below_al h)
  have HL : Hid (∀ w1, Below (w.alloc (.cells #[.slice na ln cn, .slice oa lo co] 25)).heap.size (w.alloc (.cells #[.slice na ln cn, .slice oa lo co] 25)) w1 → Ne8 w1 na oa ln lo N U ∧ Pow w1 ∧ ML w1) := Lib.hid fun w1 h => ⟨H.out.below (below_al h), hp.out.on (below_al h), hm.out.on (below_al h)⟩
  have HN : Hid (∀ w1, Below (w.alloc (.cells #[.slice na ln cn, .slice oa lo co] 25)).heap.size (w.alloc (.cells #[.slice na ln cn, .slice oa lo co] 25)) w1 → Hid (Ne8 w1 na oa ln lo N U)) := Lib.hid fun w1 h => Lib.hid (HL.out w1 h).1
  have q0 := HR.out.l7
  have q2 := HR.out.c10
  have q3 := HR.out.l1
  have hnv : netV ln N lo U = true := netV_iff.2 HR.out
  have hls : ln ≤ 1000000 := by omega
  have hlt : lo ≤ 1000000 := by omega
  have hsh : decide (ln ≤ 9 ∧ lo ≤ 13) = true := decide_eq_true ⟨by omega, by omega⟩
  have htl := text_lenG HR.out
  have hdl : ¬ dg < 0 := by omega
  have hdg : ¬ 9 < dg := by omega
  have hb : Below (w.alloc (.cells #[.slice na ln cn, .slice oa lo co] 25)).heap.size (w.alloc (.cells #[.slice na ln cn, .slice oa lo co] 25)) (w.alloc (.cells #[.slice na ln cn, .slice oa lo co] 25)) := Below.refl _ _
  obtain ⟨x1, x2, x3, x4⟩ := BX.out _ hb
  have HPR : Hid (∀ w1, Below (w.alloc (.cells #[.slice na ln cn, .slice oa lo co] 25)).heap.size (w.alloc (.cells #[.slice na ln cn, .slice oa lo co] 25)) w1 → Calls Tryz.prog 32 #[.agg #[.slice na ln cn, .slice oa lo co]] w1 fun e w' => e = .returned (.tuple #[.string (bs (textL (rowsG ln lo N U))), .int .i64 0]) ∧ Below w1.heap.size w1 w') := Lib.hid fun w1 h => print_w na oa ln cn lo co N U w1 (Lib.hid (HL.out _ h).1) HR (Lib.hid (HL.out _ h).2.1) (Lib.hid (by omega))
  obtain ⟨TX, hTX⟩ : ∃ TX, textL (rowsG ln lo N U) = TX := ⟨_, rfl⟩
  rw [hTX] at HPR htl
  have HTX := Lib.hid hTX
  clear hTX
  have hbz : (bs TX).size = TX.length := bs_size TX
  subst hat
  rw [HTX.out] at hpc
  have hpl : p < TX.length := (List.getElem?_eq_some_iff.1 hpc).1
  have hby : ∀ h : p < (bs TX).size, (bs TX)[p]'h = c := fun h => by rw [bs_byte h]; simp [List.getD, hpc]
  have n0 : (0 : Int) ≤ (p : Int) := by omega
  have n1 : (p : Int) < (TX.length : Int) := by omega
  have n2 : ¬ (p : Int) < 0 := by omega
  have n3 : ¬ (TX.length : Int) ≤ (p : Int) := by omega
  have hc0 : ¬ (c.toNat : Int) < 48 := by omega
  have hc1 : ¬ (57 : Int) < (c.toNat : Int) := by omega
  have hcd0 := hcd.out
  have hce : ((c.toNat : Int) - 48 == dg) = false := by simp; omega
  have hcneq : ¬ ((c.toNat : Int) - 48 = dg) := by omega
  obtain ⟨d, hdd⟩ : ∃ d, UInt8.ofNat (48 + dg.toNat) = d := ⟨_, rfl⟩
  have hdn : (d.toNat : Int) = 48 + dg := by rw [← hdd, UInt8.toNat_ofNat']; omega
  obtain ⟨ys, z, hBad, hset⟩ := bad_of_change (xs := rowsG ln lo N U) (fun x hx => ⟨by have := (rows_okG HR.out x hx).1; omega, (rows_okG HR.out x hx).2⟩) (by rw [rowsG_len]; omega) (by rw [rowsG_len]; omega) (text_lenG HR.out) (p := p) (c := c) (d := d) (by rw [HTX.out]; exact hpc) (by intro e; subst e; simp at hc) (by intro e; subst e; simp at hdn; omega) (by intro e; subst e; omega) (by omega) (by omega)
  rw [HTX.out] at hset
  obtain ⟨BW, hBW⟩ : ∃ BW : World → World, ∀ w', BW w' = Lib.bytesWorld w' 5 (bs TX) := ⟨_, fun _ => rfl⟩
  obtain ⟨CP, hCP⟩ : ∃ CP : World → Nat, ∀ w', CP w' = grownCap w' (bs TX).size 0 5 := ⟨_, fun _ => rfl⟩
  have hcv : ∀ w' : World, (convert 9 56 (.string (bs TX))).run Tryz.prog w' = .ok (.slice (some ⟨w'.heap.size, 0, none⟩) TX.length (CP w')) (BW w') := fun w' => by
    rw [hBW, hCP, ← hbz]
    exact Lib.run_convert_string_bytes w' 9 56 5 (bs TX) Tryz.underlying9 Tryz.underlying56 Tryz.underlying5
  have hfz : ∀ w' : World, (BW w').frozen? ⟨w'.heap.size, p, none⟩ = false := fun w' => by
    rw [hBW]
    have hlen : TX.length ≤ (Lib.bytesCells w' 5 (bs TX)).size := by
      unfold Lib.bytesCells
      simp [bs]
    unfold World.frozen?
    simp only []
    rw [Lib.bytesWorld_at_new]
    simp
    omega
  have hcellp : ∀ w' : World, (BW w').cell? ⟨w'.heap.size, p, none⟩ = some (.int .u8 c.toNat) := fun w' => by
    rw [hBW, Lib.bytesWorld_cell _ _ _ _ (by rw [hbz]; exact hpl), bs_list]
    simp [List.getD, hpc]
  have hbel : ∀ w' : World, Below w'.heap.size w' (BW w') := fun w' => by
    rw [hBW]
    exact Lib.bytesWorld_below _ _ _
  have hback : ∀ w' : World, (convert 56 9 (.slice (some ⟨w'.heap.size, 0, none⟩) TX.length (CP w'))).run Tryz.prog ((BW w').setCell ⟨w'.heap.size, p, none⟩ (.int .u8 (48 + dg))) = .ok (.string (txt ys z)) ((BW w').setCell ⟨w'.heap.size, p, none⟩ (.int .u8 (48 + dg))) := fun w' => by
    have hl : (TX.set p d).length = TX.length := by simp
    have h := run_convert_bytes_back ((BW w').setCell ⟨w'.heap.size, p, none⟩ (.int .u8 (48 + dg))) 56 9 5 ⟨w'.heap.size, 0, none⟩ (CP w') (TX.set p d) Tryz.underlying56 Tryz.underlying5 Tryz.underlying9 (fun j hj => by
      rw [hl] at hj
      by_cases e : j = p
      · subst e
        rw [List.getElem_set_self, hdn, addr_plain]
        exact World.cell?_setCell_same' _ _ _ (by rw [hcellp]; rfl)
      · rw [List.getElem_set_ne (fun h => e h.symm), addr_plain, World.cell?_setCell_other _ _ _ _ (by intro h; cases h; exact e rfl), hBW, Lib.bytesWorld_cell _ _ _ _ (by rw [hbz]; exact hj), bs_list]
        simp [List.getD, hj])
    rw [hl] at h
    unfold txt
    rw [← hset]
    exact h
  have HBAD := Lib.hid hBad
  have HBEL := Lib.hid hbel
  have HRD : Hid (∀ w1, Below (w.alloc (.cells #[.slice na ln cn, .slice oa lo co] 25)).heap.size (w.alloc (.cells #[.slice na ln cn, .slice oa lo co] 25)) w1 → Calls Tryz.prog 33 #[.string (txt ys z)] ((BW w1).setCell ⟨w1.heap.size, p, none⟩ (.int .u8 (48 + dg))) fun e w' => e = .returned (.tuple #[.agg #[.slice none 0 0, .slice none 0 0], .int .i64 4]) ∧ Below w1.heap.size w1 w') := Lib.hid fun w1 h => by
    have h3 : Below w1.heap.size w1 ((BW w1).setCell ⟨w1.heap.size, p, none⟩ (.int .u8 (48 + dg))) := (HBEL.out w1).setCell (Nat.le_refl _) _
    exact (read_f ys z _ HBAD (Lib.hid ((HL.out _ h).2.1.on h3)) (Lib.hid ((HL.out _ h).2.2.on h3))).mono fun e w' ⟨he, hb'⟩ => ⟨he, h3.trans (hb'.mono h3.size)⟩
  clear hBad hset hBW hCP hdn hdd hcd0 hbel
  go_enter Tryz.func8, Tryz.ntmps8
  go_wp2_with (first
    | (go_at_call 9; refine (short_w _ _ _ _ _ _ _).mono ?_; rw [hsh]; rintro e wl ⟨rfl, hv⟩; replace hb := hb.trans (hv.mono hb.size); clear x1 x2 x3 x4; obtain ⟨x1, x2, x3, x4⟩ := BX.out _ hb)
    | (go_at_call 11; refine (rnet_w _ _ _ _ _ _ N U _ (by omega) (by omega) (HN.out _ hb)).mono ?_; rw [hnv]; rintro e wl ⟨rfl, hv⟩; replace hb := hb.trans (hv.mono hb.size); clear x1 x2 x3 x4; obtain ⟨x1, x2, x3, x4⟩ := BX.out _ hb)
    | (go_at_call 32; refine (HPR.out _ hb).mono ?_; rintro e wl ⟨rfl, hv⟩; replace hb := hb.trans (hv.mono hb.size); clear x1 x2 x3 x4; obtain ⟨x1, x2, x3, x4⟩ := BX.out _ hb)
    | (go_at_call 33; refine (HRD.out _ hb).mono ?_; rintro e wl ⟨rfl, hv⟩; replace hb := hb.trans (hv.mono hb.size); clear x1 x2 x3 x4; obtain ⟨x1, x2, x3, x4⟩ := BX.out _ hb)
    | (go_at_call 35; refine (sameNets0_w _).mono ?_; rintro e wl ⟨rfl, hv⟩; replace hb := (hb.alloc hb.size _).trans (hv.mono (hb.alloc hb.size _).size); clear x1 x2 x3 x4; obtain ⟨x1, x2, x3, x4⟩ := BX.out _ hb)
    | (go_at_call 10; refine (K.out _ (HPW.out _ hb)).mono ?_; rintro e wl ⟨rfl, hv⟩; replace hb := hb.trans (hv.mono hb.size); clear x1 x2 x3 x4; obtain ⟨x1, x2, x3, x4⟩ := BX.out _ hb))
  go_ret
  exact ⟨rfl, below_al hb⟩

theorem lawsp_w (na oa : Option Addr) (ln cn lo co : Nat) (N : Nat → P8) (U : Nat → C8) (at' dg : Int) (w : World) (hls : ln ≤ maxLen) (hlt : lo ≤ maxLen) (H : Hid (Ne8 w na oa ln lo N U)) (hp : Hid (Pow w)) (hm : Hid (ML w)) (K : Hid KnownOk) (hpw : Hid (Pw w)) :
    Calls Tryz.prog 8 #[.agg #[.slice na ln cn, .slice oa lo co], .int .i64 at', .int .i64 dg] w
      fun e w' => e = .returned (.bool true) ∧ Below w.heap.size w w' := by
  by_cases hq : ln ≤ 9 ∧ lo ≤ 13
  case neg => exact lawsp_a na oa ln cn lo co N U at' dg w hls hlt H K hpw hq
  have hls' : ln ≤ 1000000 := by omega
  have hlt' : lo ≤ 1000000 := by omega
  by_cases hR : NetP ln N lo U
  case neg => exact lawsp_c na oa ln cn lo co N U at' dg w hls' hlt' H K hpw hq (Lib.hid hR)
  by_cases h1 : dg < 0
  · exact lawsp_d1 na oa ln cn lo co N U at' dg w hls' hlt' H K hpw hq (Lib.hid hR) h1
  by_cases h2 : 9 < dg
  · exact lawsp_d2 na oa ln cn lo co N U at' dg w hls' hlt' H K hpw hq (Lib.hid hR) h1 h2
  have hd : 0 ≤ dg ∧ dg ≤ 9 := by omega
  by_cases h3 : at' < 0
  · exact lawsp_e1 na oa ln cn lo co N U at' dg w H (Lib.hid hR) K hpw hp hm hd h3
  by_cases h4 : ((textL (rowsG ln lo N U)).length : Int) ≤ at'
  · exact lawsp_e2 na oa ln cn lo co N U at' dg w H (Lib.hid hR) K hpw hp hm hd h3 h4
  obtain ⟨p, hpp⟩ : ∃ p : Nat, at' = (p : Int) := ⟨at'.toNat, by omega⟩
  have hpl : p < (textL (rowsG ln lo N U)).length := by omega
  have hpc := List.getElem?_eq_getElem hpl
  by_cases h5 : ((textL (rowsG ln lo N U))[p]).toNat < 48
  · exact lawsp_e3 na oa ln cn lo co N U at' dg w H (Lib.hid hR) K hpw hp hm hd p _ hpp hpc h5
  by_cases h6 : 57 < ((textL (rowsG ln lo N U))[p]).toNat
  · exact lawsp_e4 na oa ln cn lo co N U at' dg w H (Lib.hid hR) K hpw hp hm hd p _ hpp hpc h6
  by_cases h7 : (((textL (rowsG ln lo N U))[p]).toNat : Int) = 48 + dg
  · exact lawsp_e5 na oa ln cn lo co N U at' dg w H (Lib.hid hR) K hpw hp hm hd p _ hpp hpc ⟨by omega, by omega⟩ (Lib.hid h7)
  · exact lawsp_f na oa ln cn lo co N U at' dg w H (Lib.hid hR) K hpw hp hm hd p _ hpp hpc ⟨by omega, by omega⟩ (Lib.hid h7)
end Go.Kn
