/- Contracts of functions that the laws of this seat call, or the evaluator of closed calls and its runs. Conditions: as each theorem states them. -/
import Derived.Test.YtdfhkimjpnnobaaGreatDoorGP
import Derived.Shelf.RegionOpen
import Derived.Deep.QuietTactic
import Derived.Test.YtdfhkimjpnnobaaGreatDoorHE
import Derived.Test.YtdfhkimjpnnobaaGreatDoorGL
import Derived.Test.YtdfhkimjpnnobaaGreatDoorHB
set_option linter.unusedVariables false
set_option linter.unusedSimpArgs false
namespace Go.Kn
open Go Go.Proofs Go.RowKit

set_option maxRecDepth 100000 in
set_option maxHeartbeats 1000000 in
theorem print_bad (f : Int) (na oa : Option Addr) (ln cn lo co : Nat) (N : Nat → N2) (U : Nat → O3) (w : World) (hls : ln ≤ 1000000) (hlt : lo ≤ 1000000) (H : Hid (Tr7 w na oa ln lo N U)) (HR : Hid (¬ TreeP f ln lo N U)) :
    Calls Tryz.prog 21 #[.agg #[.int .i64 f, .slice na ln cn, .slice oa lo co]] w fun e w' => e = .returned (.tuple #[.string ⟨#[]⟩, .int .i64 2]) ∧ Below w.heap.size w w' := by
  have hB0 : Below w.heap.size w (w.alloc (.cells #[.int .i64 f, .slice na ln cn, .slice oa lo co] 25)) := (Below.refl _ _).alloc (Nat.le_refl _) _
  have HIT : Hid (Calls Tryz.prog 39 #[.agg #[.int .i64 f, .slice na ln cn, .slice oa lo co]] (w.alloc (.cells #[.int .i64 f, .slice na ln cn, .slice oa lo co] 25)) fun e w' => e = .returned (.bool false) ∧ Below w.heap.size w w') := Lib.hid ((isTree_w f na oa ln cn lo co N U _ hls hlt (Lib.hid (H.out.below hB0))).mono fun e w' ⟨⟨rb, he, hrb⟩, hb⟩ => ⟨by cases rb with | true => exact (HR.out (hrb.1 rfl)).elim | false => exact he, hB0.trans (hb.mono hB0.size)⟩)
  clear hB0
  go_enter Tryz.func21, Tryz.ntmps21
  go_wp2_with (go_at_call 39; refine HIT.out.mono ?_; rintro e w1 ⟨rfl, hb1⟩)
  refine bodyPost_ret (v := .tuple #[.string ⟨#[]⟩, .int .i64 2]) (by simp [results, Tryz.results21, go_sem]) rfl ⟨rfl, hb1⟩

set_option maxRecDepth 100000 in
set_option maxHeartbeats 2000000 in
theorem sameTrees_w (f : Int) (na oa ma pa : Option Addr) (ln cn lo co dn eo : Nat) (N : Nat → N2) (U : Nat → O3) (w : World) (hln : ln ≤ 6) (hlo : lo ≤ 8) (H1 : Hid (Tr7 w na oa ln lo N U)) (H2 : Hid (Tr7 w ma pa ln lo N U)) :
    Calls Tryz.prog 24 #[.agg #[.int .i64 f, .slice na ln cn, .slice oa lo co], .agg #[.int .i64 f, .slice ma ln dn, .slice pa lo eo]] w fun e w' => e = .returned (.bool true) ∧ Below w.heap.size w w' := by
  obtain ⟨W, hW⟩ : ∃ W, W = (w.alloc (.cells #[.int .i64 f, .slice na ln cn, .slice oa lo co] 25)).alloc (.cells #[.int .i64 f, .slice ma ln dn, .slice pa lo eo] 25) := ⟨_, rfl⟩
  have hbW : Below w.heap.size w W := by rw [hW]; exact ((Below.refl _ _).alloc (Nat.le_refl _) _).alloc (by simp) _
  have hzW : W.heap.size = w.heap.size + 1 + 1 := by rw [hW]; simp
  have HC : Hid (∀ w1, Below W.heap.size W w1 → (w1.cell? ⟨w.heap.size, 0, none⟩ = some (.int .i64 f) ∧ w1.cell? ⟨w.heap.size, 1, none⟩ = some (.slice na ln cn) ∧ w1.cell? ⟨w.heap.size, 2, none⟩ = some (.slice oa lo co)) ∧ (w1.cell? ⟨w.heap.size + 1, 0, none⟩ = some (.int .i64 f) ∧ w1.cell? ⟨w.heap.size + 1, 1, none⟩ = some (.slice ma ln dn) ∧ w1.cell? ⟨w.heap.size + 1, 2, none⟩ = some (.slice pa lo eo)) ∧ Tr7 w1 na oa ln lo N U ∧ Tr7 w1 ma pa ln lo N U) := Lib.hid fun w1 hb => by
    obtain ⟨c, _⟩ := bcell hb
    have hall := hbW.trans (hb.mono (by omega))
    exact ⟨⟨(c _ _ (by omega)).trans (by rw [hW]; simp), (c _ _ (by omega)).trans (by rw [hW]; simp), (c _ _ (by omega)).trans (by rw [hW]; simp)⟩, ⟨(c _ _ (by omega)).trans (by rw [hW]; simp), (c _ _ (by omega)).trans (by rw [hW]; simp), (c _ _ (by omega)).trans (by rw [hW]; simp)⟩, H1.out.below hall, H2.out.below hall⟩
  have HBW := Lib.hid hbW
  clear hbW hzW
  go_enter Tryz.func24, Tryz.ntmps24
  go_wp2
  rw [← hW]
  go_loopw [5] (fun ii wr => ∃ k : Nat, k ≤ ln ∧ ii = .int .i64 (k : Int) ∧ Below W.heap.size W wr) (fun ii _ => ln - (intOf ii).toNat)
  case atStart => exact ⟨0, Nat.zero_le _, rfl, Below.refl _ _⟩
  case round =>
    obtain ⟨k, hk, rfl, hbw⟩ := hrel
    obtain ⟨⟨x0, x1, x2⟩, ⟨y0, y1, y2⟩, h1, h2⟩ := HC.out _ hbw
    have HBB := Lib.hid hbw
    clear hbw
    by_cases hlt : k < ln
    · obtain ⟨A, O, rfl, _, hA⟩ := h1.hn.resolve_left (by omega)
      obtain ⟨B, P, rfl, _, hB⟩ := h2.hn.resolve_left (by omega)
      obtain ⟨a0, a1⟩ := hA k hlt
      obtain ⟨b0, b1⟩ := hB k hlt
      have n1 : (0 : Int) ≤ (k : Int) := by omega
      have n2 : (k : Int) < (ln : Int) := by omega
      clear h1 h2 hA hB
      go_wp2
      go_quiet (fail)
      go_wp2
      go_roundw
      case rel => exact ⟨k + 1, by omega, by go_num, below_drewM HBB.out _⟩
      case measure => simp [intOf]; omega
    · obtain rfl : k = ln := by omega
      obtain ⟨wm, rfl⟩ : ∃ wm, wm = wr := ⟨_, rfl⟩
      clear h1 h2
      go_wp2
      clear x0 x1 x2 y0 y1 y2
      go_loopw [6] (fun ii wr => ∃ j : Nat, j ≤ lo ∧ ii = .int .i64 (j : Int) ∧ Below W.heap.size W wr) (fun ii _ => lo - (intOf ii).toNat)
      case atStart => exact ⟨0, Nat.zero_le _, rfl, HBB.out⟩
      case round =>
        obtain ⟨j, hj, rfl, hbw⟩ := hrel
        obtain ⟨⟨x0, x1, x2⟩, ⟨y0, y1, y2⟩, h1, h2⟩ := HC.out _ hbw
        have HBB2 := Lib.hid hbw
        clear hbw
        by_cases hlt : j < lo
        · obtain ⟨A, O, rfl, _, hA⟩ := h1.ho.resolve_left (by omega)
          obtain ⟨B, P, rfl, _, hB⟩ := h2.ho.resolve_left (by omega)
          obtain ⟨a0, a1, a2⟩ := hA j hlt
          obtain ⟨b0, b1, b2⟩ := hB j hlt
          have n1 : (0 : Int) ≤ (j : Int) := by omega
          have n2 : (j : Int) < (lo : Int) := by omega
          clear h1 h2 hA hB
          go_wp2
          go_quiet (fail)
          go_wp2
          go_roundw
          case rel => exact ⟨j + 1, by omega, by go_num, below_drewM HBB2.out _⟩
          case measure => simp [intOf]; omega
        · clear h1 h2
          go_wp2
          go_ret
          exact ⟨rfl, HBW.out.trans (HBB2.out.mono HBW.out.size)⟩
end Go.Kn

namespace Go.Kn
open Go Go.Proofs Go.RowKit

set_option maxRecDepth 100000 in
set_option maxHeartbeats 2000000 in
theorem lawpr_a (f : Int) (na oa : Option Addr) (ln cn lo co : Nat) (N : Nat → N2) (U : Nat → O3) (w : World) (hls : ln ≤ maxLen) (hlt : lo ≤ maxLen) (H : Hid (Tr7 w na oa ln lo N U)) (K : Hid KnownOk) (hq : ¬ (ln ≤ 8 ∧ lo ≤ 10)) :
    Calls Tryz.prog 5 #[.agg #[.int .i64 f, .slice na ln cn, .slice oa lo co]] w
      fun e w' => e = .returned (.bool true) ∧ Below w.heap.size w w' := by
  have hsh : decide (ln ≤ 8 ∧ lo ≤ 10) = false := decide_eq_false hq
  have BX := Lib.hid (fun (w1 : World) (hb : Below (w.alloc (.cells #[.int .i64 f, .slice na ln cn, .slice oa lo co] 25)).heap.size (w.alloc (.cells #[.int .i64 f, .slice na ln cn, .slice oa lo co] 25)) w1) => box7 hb)
  have HN : Hid (∀ w1, Below (w.alloc (.cells #[.int .i64 f, .slice na ln cn, .slice oa lo co] 25)).heap.size (w.alloc (.cells #[.int .i64 f, .slice na ln cn, .slice oa lo co] 25)) w1 → Hid (Tr7 w1 na oa ln lo N U)) := Lib.hid fun w1 h => Lib.hid (H.out.below (below_al h))
  have hb : Below (w.alloc (.cells #[.int .i64 f, .slice na ln cn, .slice oa lo co] 25)).heap.size (w.alloc (.cells #[.int .i64 f, .slice na ln cn, .slice oa lo co] 25)) (w.alloc (.cells #[.int .i64 f, .slice na ln cn, .slice oa lo co] 25)) := Below.refl _ _
  obtain ⟨x1, x2, x3, x4⟩ := BX.out _ hb
  clear H
  go_enter Tryz.func5, Tryz.ntmps5
  go_wp2_with (first
    | (go_at_call 8; refine (short_w _ _ _ _ _ _ _ _ hls hlt).mono ?_; rw [hsh]; rintro e wl ⟨rfl, hv⟩; replace hb := hb.trans (hv.mono hb.size); clear x1 x2 x3 x4; obtain ⟨x1, x2, x3, x4⟩ := BX.out _ hb)
    | (go_at_call 9; refine (K.out _).mono ?_; rintro e wl ⟨rfl, hv⟩; replace hb := hb.trans (hv.mono hb.size); clear x1 x2 x3 x4; obtain ⟨x1, x2, x3, x4⟩ := BX.out _ hb)    )
  go_ret
  exact ⟨rfl, below_al hb⟩

set_option maxRecDepth 100000 in
set_option maxHeartbeats 2000000 in
theorem lawpr_c (f : Int) (na oa : Option Addr) (ln cn lo co : Nat) (N : Nat → N2) (U : Nat → O3) (w : World) (hls : ln ≤ 1000000) (hlt : lo ≤ 1000000) (H : Hid (Tr7 w na oa ln lo N U)) (K : Hid KnownOk) (hq : ln ≤ 8 ∧ lo ≤ 10) (HR : Hid (¬ TreeP f ln lo N U)) :
    Calls Tryz.prog 5 #[.agg #[.int .i64 f, .slice na ln cn, .slice oa lo co]] w
      fun e w' => e = .returned (.bool true) ∧ Below w.heap.size w w' := by
  have hsh : decide (ln ≤ 8 ∧ lo ≤ 10) = true := decide_eq_true hq
  have BX := Lib.hid (fun (w1 : World) (hb : Below (w.alloc (.cells #[.int .i64 f, .slice na ln cn, .slice oa lo co] 25)).heap.size (w.alloc (.cells #[.int .i64 f, .slice na ln cn, .slice oa lo co] 25)) w1) => box7 hb)
  have HN : Hid (∀ w1, Below (w.alloc (.cells #[.int .i64 f, .slice na ln cn, .slice oa lo co] 25)).heap.size (w.alloc (.cells #[.int .i64 f, .slice na ln cn, .slice oa lo co] 25)) w1 → Hid (Tr7 w1 na oa ln lo N U)) := Lib.hid fun w1 h => Lib.hid (H.out.below (below_al h))
  have hb : Below (w.alloc (.cells #[.int .i64 f, .slice na ln cn, .slice oa lo co] 25)).heap.size (w.alloc (.cells #[.int .i64 f, .slice na ln cn, .slice oa lo co] 25)) (w.alloc (.cells #[.int .i64 f, .slice na ln cn, .slice oa lo co] 25)) := Below.refl _ _
  obtain ⟨x1, x2, x3, x4⟩ := BX.out _ hb
  clear H
  go_enter Tryz.func5, Tryz.ntmps5
  go_wp2_with (first
    | (go_at_call 8; refine (short_w _ _ _ _ _ _ _ _ (by unfold maxLen; omega) (by unfold maxLen; omega)).mono ?_; rw [hsh]; rintro e wl ⟨rfl, hv⟩; replace hb := hb.trans (hv.mono hb.size); clear x1 x2 x3 x4; obtain ⟨x1, x2, x3, x4⟩ := BX.out _ hb)
    | (go_at_call 21; refine (print_bad _ _ _ _ _ _ _ N U _ hls hlt (HN.out _ hb) HR).mono ?_; rintro e wl ⟨rfl, hv⟩; replace hb := hb.trans (hv.mono hb.size); clear x1 x2 x3 x4; obtain ⟨x1, x2, x3, x4⟩ := BX.out _ hb)
    | (go_at_call 12; refine (tree_w _ _ _ _ _ _ _ N U _ hls hlt (HN.out _ hb)).mono ?_; rintro e wl ⟨⟨rb, rfl, hrb⟩, hv⟩; obtain rfl : rb = false := (by cases rb <;> first | rfl | exact (HR.out (hrb.1 rfl)).elim); clear hrb; replace hb := hb.trans (hv.mono hb.size); clear x1 x2 x3 x4; obtain ⟨x1, x2, x3, x4⟩ := BX.out _ hb)
    | (go_at_call 9; refine (K.out _).mono ?_; rintro e wl ⟨rfl, hv⟩; replace hb := hb.trans (hv.mono hb.size); clear x1 x2 x3 x4; obtain ⟨x1, x2, x3, x4⟩ := BX.out _ hb)    )
  go_ret
  exact ⟨rfl, below_al hb⟩

set_option maxRecDepth 100000 in
set_option maxHeartbeats 4000000 in
theorem lawpr_i (f : Int) (na oa : Option Addr) (ln cn lo co : Nat) (N : Nat → N2) (U : Nat → O3) (w : World) (H : Hid (Tr7 w na oa ln lo N U)) (HR : Hid (TreeP f ln lo N U)) (K : Hid KnownOk) (hp : Hid (Pow w)) (hm : Hid (ML w)) :
    Calls Tryz.prog 5 #[.agg #[.int .i64 f, .slice na ln cn, .slice oa lo co]] w
      fun e w' => e = .returned (.bool true) ∧ Below w.heap.size w w' := by
  have BX := Lib.hid (fun (w1 : World) (hb : Below (w.alloc (.cells #[.int .i64 f, .slice na ln cn, .slice oa lo co] 25)).heap.size (w.alloc (.cells #[.int .i64 f, .slice na ln cn, .slice oa lo co] 25)) w1) => box7 hb)
  have HL : Hid (∀ w1, Below (w.alloc (.cells #[.int .i64 f, .slice na ln cn, .slice oa lo co] 25)).heap.size (w.alloc (.cells #[.int .i64 f, .slice na ln cn, .slice oa lo co] 25)) w1 → Tr7 w1 na oa ln lo N U ∧ Pow w1 ∧ ML w1) := Lib.hid fun w1 h => ⟨H.out.below (below_al h), hp.out.on (below_al h), hm.out.on (below_al h)⟩
  have HN : Hid (∀ w1, Below (w.alloc (.cells #[.int .i64 f, .slice na ln cn, .slice oa lo co] 25)).heap.size (w.alloc (.cells #[.int .i64 f, .slice na ln cn, .slice oa lo co] 25)) w1 → Hid (Tr7 w1 na oa ln lo N U)) := Lib.hid fun w1 h => Lib.hid (HL.out w1 h).1
  have q0 := HR.out.l6
  have q2 := HR.out.lo2
  have hls : ln ≤ 1000000 := by omega
  have hlt : lo ≤ 1000000 := by omega
  have hsh : decide (ln ≤ 8 ∧ lo ≤ 10) = true := decide_eq_true ⟨by omega, by omega⟩
  have htl := text_lenD HR.out
  have hb : Below (w.alloc (.cells #[.int .i64 f, .slice na ln cn, .slice oa lo co] 25)).heap.size (w.alloc (.cells #[.int .i64 f, .slice na ln cn, .slice oa lo co] 25)) (w.alloc (.cells #[.int .i64 f, .slice na ln cn, .slice oa lo co] 25)) := Below.refl _ _
  obtain ⟨x1, x2, x3, x4⟩ := BX.out _ hb
  have HPR : Hid (∀ w1, Below (w.alloc (.cells #[.int .i64 f, .slice na ln cn, .slice oa lo co] 25)).heap.size (w.alloc (.cells #[.int .i64 f, .slice na ln cn, .slice oa lo co] 25)) w1 → Calls Tryz.prog 21 #[.agg #[.int .i64 f, .slice na ln cn, .slice oa lo co]] w1 fun e w' => e = .returned (.tuple #[.string (txD f ln lo N U), .int .i64 0]) ∧ Below w1.heap.size w1 w') := Lib.hid fun w1 h => print_w f na oa ln cn lo co N U w1 (Lib.hid (HL.out _ h).1) HR (Lib.hid (HL.out _ h).2.1) (Lib.hid (by omega))
  have HRP : Hid (∀ w1, Below (w.alloc (.cells #[.int .i64 f, .slice na ln cn, .slice oa lo co] 25)).heap.size (w.alloc (.cells #[.int .i64 f, .slice na ln cn, .slice oa lo co] 25)) w1 → Calls Tryz.prog 23 #[.agg #[.int .i64 f, .slice na ln cn, .slice oa lo co]] w1 fun e w' => e = .returned (.string (txD f ln lo N U)) ∧ Below w1.heap.size w1 w') := Lib.hid fun w1 h => rprint_w f na oa ln cn lo co N U w1 (Lib.hid (HL.out _ h).1) HR
  have HRD : Hid (∀ w1, Below (w.alloc (.cells #[.int .i64 f, .slice na ln cn, .slice oa lo co] 25)).heap.size (w.alloc (.cells #[.int .i64 f, .slice na ln cn, .slice oa lo co] 25)) w1 → Calls Tryz.prog 22 #[.string (txD f ln lo N U)] w1 fun e w' => (∃ ma dn C1 eo, e = .returned (.tuple #[.agg #[.int .i64 f, .slice ma ln dn, .slice (some ⟨C1, 0, none⟩) lo eo], .int .i64 0]) ∧ Hid (Tr7 w' ma (some ⟨C1, 0, none⟩) ln lo N U)) ∧ Below w1.heap.size w1 w') := Lib.hid fun w1 h => read_t f ln lo N U w1 HR (Lib.hid (HL.out _ h).2.1) (Lib.hid (HL.out _ h).2.2)
  obtain ⟨T, hT⟩ : ∃ T, txD f ln lo N U = T := ⟨_, rfl⟩
  rw [hT] at HPR HRP HRD
  have hTT : (T.toList == T.toList) = true := by simp
  clear hT htl
  go_enter Tryz.func5, Tryz.ntmps5
  go_wp2_with (first
    | (go_at_call 8; refine (short_w _ _ _ _ _ _ _ _ (by unfold maxLen; omega) (by unfold maxLen; omega)).mono ?_; rw [hsh]; rintro e wl ⟨rfl, hv⟩; replace hb := hb.trans (hv.mono hb.size); clear x1 x2 x3 x4; obtain ⟨x1, x2, x3, x4⟩ := BX.out _ hb)
    | (go_at_call 21; refine (HPR.out _ hb).mono ?_; rintro e wl ⟨rfl, hv⟩; replace hb := hb.trans (hv.mono hb.size); clear x1 x2 x3 x4; obtain ⟨x1, x2, x3, x4⟩ := BX.out _ hb)
    | (go_at_call 12; refine (tree_w _ _ _ _ _ _ _ N U _ hls hlt (HN.out _ hb)).mono ?_; rintro e wl ⟨⟨rb, rfl, hrb⟩, hv⟩; obtain rfl : rb = true := hrb.2 HR.out; clear hrb; replace hb := hb.trans (hv.mono hb.size); clear x1 x2 x3 x4; obtain ⟨x1, x2, x3, x4⟩ := BX.out _ hb)
    | (go_at_call 22; refine (HRD.out _ hb).mono ?_; rintro e wl ⟨⟨ma, dn, C1, eo, rfl, HL1⟩, hv⟩; replace hb := hb.trans (hv.mono hb.size); clear x1 x2 x3 x4; obtain ⟨x1, x2, x3, x4⟩ := BX.out _ hb; have hbx : Below wl.heap.size wl (wl.alloc (.cells #[.int .i64 f, .slice ma ln dn, .slice (some ⟨C1, 0, none⟩) lo eo] 25)) := (Below.refl _ _).alloc (Nat.le_refl _) _; have HBX := Lib.hid (And.intro (hb.trans (hbx.mono hb.size)) hbx); have BX2 := Lib.hid (fun (w1 : World) (hb' : Below (wl.alloc (.cells #[.int .i64 f, .slice ma ln dn, .slice (some ⟨C1, 0, none⟩) lo eo] 25)).heap.size (wl.alloc (.cells #[.int .i64 f, .slice ma ln dn, .slice (some ⟨C1, 0, none⟩) lo eo] 25)) w1) => box7 hb'); clear hbx)
    | (go_at_call 23; refine (HRP.out _ HBX.out.1).mono ?_; rintro e w5 ⟨rfl, hv5⟩; have h5 := HBX.out.1.trans (hv5.mono HBX.out.1.size); have HL5 := Lib.hid (HL1.out.below (HBX.out.2.trans (hv5.mono HBX.out.2.size))); clear x1 x2 x3 x4; obtain ⟨x1, x2, x3, x4⟩ := BX.out _ h5; obtain ⟨z1, z2, z3, z4⟩ := BX2.out _ hv5)
    | (go_at_call 24; refine (sameTrees_w f ma (some ⟨C1, 0, none⟩) na oa ln dn lo eo cn co N U _ q0 q2 HL5 (Lib.hid (HL.out _ h5).1)).mono ?_; rintro e w6 ⟨rfl, hv6⟩; have h6 := h5.trans (hv6.mono h5.size))
    | (go_at_call 9; refine (K.out _).mono ?_; rintro e w7 ⟨rfl, hv7⟩; have h7 := h6.trans (hv7.mono h6.size)))
  go_ret
  exact ⟨rfl, below_al h7⟩

theorem lawpr_w (f : Int) (na oa : Option Addr) (ln cn lo co : Nat) (N : Nat → N2) (U : Nat → O3) (w : World) (hls : ln ≤ maxLen) (hlt : lo ≤ maxLen) (HS : NdSl w na ln N) (HT : OuSl w oa lo U) (hp : Hid (Pow w)) (hm : Hid (ML w)) (K : Hid KnownOk) :
    Calls Tryz.prog 5 #[.agg #[.int .i64 f, .slice na ln cn, .slice oa lo co]] w
      fun e w' => e = .returned (.bool true) ∧ Below w.heap.size w w' := by
  have H : Tr7 w na oa ln lo N U := ⟨HS, HT⟩
  by_cases hq : ln ≤ 8 ∧ lo ≤ 10
  case neg => exact lawpr_a f na oa ln cn lo co N U w hls hlt (Lib.hid H) K hq
  have hls' : ln ≤ 1000000 := by omega
  have hlt' : lo ≤ 1000000 := by omega
  by_cases hR : TreeP f ln lo N U
  case neg => exact lawpr_c f na oa ln cn lo co N U w hls' hlt' (Lib.hid H) K hq (Lib.hid hR)
  exact lawpr_i f na oa ln cn lo co N U w (Lib.hid H) (Lib.hid hR) K hp hm
end Go.Kn
