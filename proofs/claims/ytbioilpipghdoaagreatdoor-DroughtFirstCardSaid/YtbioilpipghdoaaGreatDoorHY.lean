/- Contracts of functions that the laws of this seat call, or the evaluator of closed calls and its runs. Conditions: as each theorem states them. -/
import Derived.Test.YtbioilpipghdoaaGreatDoorHX
set_option linter.unusedVariables false
set_option linter.unusedSimpArgs false
namespace Go.Kn
open Go Go.Proofs Go.RowKit

/-- what the classes a to b get -/
def totT (U : Nat → O3) (s : Nat → Int) (a b : Int) (k : Nat) : Int := sm (fun i => if a ≤ (U i).k ∧ (U i).k ≤ b then s i else 0) k
theorem totT_bd {U : Nat → O3} {s : Nat → Int} {a b : Int} : ∀ k, (∀ i, i < k → 0 ≤ s i ∧ s i ≤ 200) → 0 ≤ totT U s a b k ∧ totT U s a b k ≤ 200 * (k : Int)
  | 0, _ => by simp [totT, sm]
  | k + 1, h => by
    have ih := totT_bd (U := U) (a := a) (b := b) k (fun i hi => h i (by omega))
    have hk := h k (by omega)
    unfold totT at *
    simp only [sm]
    split <;> omega
theorem totT_succ (U : Nat → O3) (s : Nat → Int) (a b : Int) (k : Nat) : totT U s a b (k + 1) = totT U s a b k + (if a ≤ (U k).k ∧ (U k).k ≤ b then s k else 0) := rfl

set_option maxRecDepth 100000 in
set_option maxHeartbeats 2000000 in
theorem total_w (f : Int) (na oa sa : Option Addr) (ln cn lo co cs : Nat) (N : Nat → N2) (U : Nat → O3) (s : Nat → Int) (a b : Int) (w : World) (hlo : lo ≤ 100) (hs : Hid (∀ i, i < lo → 0 ≤ s i ∧ s i ≤ 200)) (H : Hid (Tr7 w na oa ln lo N U)) (HS : Hid (IntSl w sa lo s)) :
    Calls Tryz.prog 36 #[.agg #[.int .i64 f, .slice na ln cn, .slice oa lo co], .slice sa lo cs, .int .i64 a, .int .i64 b] w fun e w' => e = .returned (.int .i64 (totT U s a b lo)) ∧ Below w.heap.size w w' := by
  obtain ⟨WA, hWA⟩ : ∃ WA, WA = w.alloc (.cells #[.int .i64 f, .slice na ln cn, .slice oa lo co] 25) := ⟨_, rfl⟩
  have hA : Below w.heap.size w WA := by rw [hWA]; exact (Below.refl _ _).alloc (Nat.le_refl _) _
  have HX : Hid (∀ w2, Below WA.heap.size WA w2 → w2.cell? ⟨w.heap.size, 2, none⟩ = some (.slice oa lo co)) := Lib.hid fun w2 h => by
    obtain ⟨c, _⟩ := bcell h
    have hz : WA.heap.size = w.heap.size + 1 := by rw [hWA]; simp
    exact (c _ _ (by omega)).trans (by rw [hWA]; simp)
  have HA := Lib.hid hA
  clear hA
  go_enter Tryz.func36, Tryz.ntmps36
  go_wp2
  rw [← hWA]
  clear hWA
  go_loopw [9, 10] (fun nv ii wr => ∃ k : Nat, k ≤ lo ∧ ii = .int .i64 (k : Int) ∧ nv = .int .i64 (totT U s a b k) ∧ Below WA.heap.size WA wr) (fun _ ii _ => lo - (Go.RowKit.intOf ii).toNat)
  case atStart => exact ⟨0, Nat.zero_le _, rfl, rfl, Below.refl _ _⟩
  case round =>
    obtain ⟨k, hk, rfl, rfl, hbr⟩ := hrel
    have HBR := Lib.hid hbr
    clear hbr
    by_cases hlt : k < lo
    case neg =>
      have hkl : lo = k := by omega
      subst hkl
      go_wp2
      go_ret
      exact ⟨rfl, HA.out.trans (HBR.out.mono HA.out.size)⟩
    case pos =>
      obtain ⟨A, O, rfl, hAl, hnum⟩ := HS.out.resolve_left (by omega)
      obtain ⟨C, P, hoa, hC, hnC⟩ := H.out.ho.resolve_left (by omega)
      subst hoa
      have hbw : Below w.heap.size w wr := HA.out.trans (HBR.out.mono HA.out.size)
      have x0 := HX.out wr HBR.out
      have x1 := (hbw.cell (p := ⟨A, O + k, none⟩) hAl).trans (hnum k hlt)
      have x2 := (hbw.cell (p := ⟨C, P + k * 3 + 2, none⟩) hC).trans (hnC k hlt).2.2
      have n1 : (0 : Int) ≤ (k : Int) := by omega
      have n2 : (k : Int) < (lo : Int) := by omega
      have bd := totT_bd (U := U) (a := a) (b := b) k (fun i hi => hs.out i (by omega))
      have bk := hs.out k hlt
      have wr1 : wrap64 (totT U s a b k + s k) = totT U s a b k + s k := by unfold wrap64; omega
      have HT := Lib.hid (totT_succ U s a b k)
      generalize totT U s a b k = tk at *
      clear hnum hnC hbw bd bk
      by_cases h1 : a ≤ (U k).k
      · by_cases h2 : (U k).k ≤ b
        · have HC := Lib.hid (And.intro h1 h2)
          go_wp2
          go_roundw
          case rel => exact ⟨k + 1, by omega, by go_num, by rw [HT.out, if_pos HC.out, wr1], HBR.out⟩
          case measure => simp [Go.RowKit.intOf]; omega
        · have HC := Lib.hid h2
          go_wp2
          go_roundw
          case rel => exact ⟨k + 1, by omega, by go_num, by rw [HT.out, if_neg (fun h => HC.out h.2), Int.add_zero], HBR.out⟩
          case measure => simp [Go.RowKit.intOf]; omega
      · have HC := Lib.hid h1
        go_wp2
        go_roundw
        case rel => exact ⟨k + 1, by omega, by go_num, by rw [HT.out, if_neg (fun h => HC.out h.1), Int.add_zero], HBR.out⟩
        case measure => simp [Go.RowKit.intOf]; omega
end Go.Kn

namespace Go.Kn
open Go Go.Proofs Go.RowKit

set_option maxRecDepth 100000 in
set_option maxHeartbeats 4000000 in
theorem lawfi_a (f : Int) (na oa qa pa : Option Addr) (ln cn lo co lq cq lc cc : Nat) (N : Nat → N2) (U : Nat → O3) (q cl : Nat → Int) (c : Int) (w : World) (hls : ln ≤ maxLen) (hlt : lo ≤ maxLen) (hlz : lc ≤ maxLen) (hlq : lq ≤ maxLen) (H : Hid (Tr7 w na oa ln lo N U)) (HQ : Hid (IntSl w qa lq q)) (HS : Hid (IntSl w pa lc cl)) (K : Hid KnownOk) (hq : ¬ (ln ≤ 8 ∧ lo ≤ 10)) :
    Calls Tryz.prog 9 #[.agg #[.int .i64 f, .slice na ln cn, .slice oa lo co], .slice qa lq cq, .slice pa lc cc, .int .i64 c] w
      fun e w' => e = .returned (.bool true) ∧ Below w.heap.size w w' := by
  have hlz' := hlz
  have hlq' := hlq
  unfold maxLen at hlz' hlq'
  have hsh : decide (ln ≤ 8 ∧ lo ≤ 10) = false := decide_eq_false hq
  have BX := Lib.hid (fun (w1 : World) (hb : Below (w.alloc (.cells #[.int .i64 f, .slice na ln cn, .slice oa lo co] 25)).heap.size (w.alloc (.cells #[.int .i64 f, .slice na ln cn, .slice oa lo co] 25)) w1) => box7 hb)
  have HN : Hid (∀ w1, Below (w.alloc (.cells #[.int .i64 f, .slice na ln cn, .slice oa lo co] 25)).heap.size (w.alloc (.cells #[.int .i64 f, .slice na ln cn, .slice oa lo co] 25)) w1 → Hid (Tr7 w1 na oa ln lo N U)) := Lib.hid fun w1 h => Lib.hid (H.out.below (below_al h))
  have HM : Hid (∀ w1, Below (w.alloc (.cells #[.int .i64 f, .slice na ln cn, .slice oa lo co] 25)).heap.size (w.alloc (.cells #[.int .i64 f, .slice na ln cn, .slice oa lo co] 25)) w1 → Hid (IntSl w1 pa lc cl)) := Lib.hid fun w1 h => Lib.hid (HS.out.below (below_al h))
  have HMQ : Hid (∀ w1, Below (w.alloc (.cells #[.int .i64 f, .slice na ln cn, .slice oa lo co] 25)).heap.size (w.alloc (.cells #[.int .i64 f, .slice na ln cn, .slice oa lo co] 25)) w1 → Hid (IntSl w1 qa lq q)) := Lib.hid fun w1 h => Lib.hid (HQ.out.below (below_al h))
  have hb : Below (w.alloc (.cells #[.int .i64 f, .slice na ln cn, .slice oa lo co] 25)).heap.size (w.alloc (.cells #[.int .i64 f, .slice na ln cn, .slice oa lo co] 25)) (w.alloc (.cells #[.int .i64 f, .slice na ln cn, .slice oa lo co] 25)) := Below.refl _ _
  obtain ⟨x1, x2, x3, x4⟩ := BX.out _ hb
  clear H HS HQ
  go_enter Tryz.func9, Tryz.ntmps9
  go_wp2_with (first
    | (go_at_call 13; refine (short_w _ _ _ _ _ _ _ _ hls hlt).mono ?_; rw [hsh]; rintro e wl ⟨rfl, hv⟩; (try replace hbs := hbs.trans (hv.mono hbs.size)); (try replace hbt := hbt.trans (hv.mono hbt.size)); replace hb := hb.trans (hv.mono hb.size); clear x1 x2 x3 x4; obtain ⟨x1, x2, x3, x4⟩ := BX.out _ hb)
    | (go_at_call 14; refine (K.out _).mono ?_; rintro e wl ⟨rfl, hv⟩; (try replace hbs := hbs.trans (hv.mono hbs.size)); (try replace hbt := hbt.trans (hv.mono hbt.size)); replace hb := hb.trans (hv.mono hb.size); clear x1 x2 x3 x4; obtain ⟨x1, x2, x3, x4⟩ := BX.out _ hb))
  go_ret
  exact ⟨rfl, below_al hb⟩

set_option maxRecDepth 100000 in
set_option maxHeartbeats 4000000 in
theorem lawfi_b (f : Int) (na oa qa pa : Option Addr) (ln cn lo co lq cq lc cc : Nat) (N : Nat → N2) (U : Nat → O3) (q cl : Nat → Int) (c : Int) (w : World) (hls : ln ≤ 1000000) (hlt : lo ≤ 1000000) (hlz : lc ≤ maxLen) (hlq : lq ≤ maxLen) (H : Hid (Tr7 w na oa ln lo N U)) (HQ : Hid (IntSl w qa lq q)) (HS : Hid (IntSl w pa lc cl)) (K : Hid KnownOk) (hq : ln ≤ 8 ∧ lo ≤ 10) (hq1 : 12 < lq) :
    Calls Tryz.prog 9 #[.agg #[.int .i64 f, .slice na ln cn, .slice oa lo co], .slice qa lq cq, .slice pa lc cc, .int .i64 c] w
      fun e w' => e = .returned (.bool true) ∧ Below w.heap.size w w' := by
  have hlz' := hlz
  have hlq' := hlq
  unfold maxLen at hlz' hlq'
  have hsh : decide (ln ≤ 8 ∧ lo ≤ 10) = true := decide_eq_true hq
  have hd1 : ((12 : Int) < (lq : Int)) := by omega
  have BX := Lib.hid (fun (w1 : World) (hb : Below (w.alloc (.cells #[.int .i64 f, .slice na ln cn, .slice oa lo co] 25)).heap.size (w.alloc (.cells #[.int .i64 f, .slice na ln cn, .slice oa lo co] 25)) w1) => box7 hb)
  have HN : Hid (∀ w1, Below (w.alloc (.cells #[.int .i64 f, .slice na ln cn, .slice oa lo co] 25)).heap.size (w.alloc (.cells #[.int .i64 f, .slice na ln cn, .slice oa lo co] 25)) w1 → Hid (Tr7 w1 na oa ln lo N U)) := Lib.hid fun w1 h => Lib.hid (H.out.below (below_al h))
  have HM : Hid (∀ w1, Below (w.alloc (.cells #[.int .i64 f, .slice na ln cn, .slice oa lo co] 25)).heap.size (w.alloc (.cells #[.int .i64 f, .slice na ln cn, .slice oa lo co] 25)) w1 → Hid (IntSl w1 pa lc cl)) := Lib.hid fun w1 h => Lib.hid (HS.out.below (below_al h))
  have HMQ : Hid (∀ w1, Below (w.alloc (.cells #[.int .i64 f, .slice na ln cn, .slice oa lo co] 25)).heap.size (w.alloc (.cells #[.int .i64 f, .slice na ln cn, .slice oa lo co] 25)) w1 → Hid (IntSl w1 qa lq q)) := Lib.hid fun w1 h => Lib.hid (HQ.out.below (below_al h))
  have hb : Below (w.alloc (.cells #[.int .i64 f, .slice na ln cn, .slice oa lo co] 25)).heap.size (w.alloc (.cells #[.int .i64 f, .slice na ln cn, .slice oa lo co] 25)) (w.alloc (.cells #[.int .i64 f, .slice na ln cn, .slice oa lo co] 25)) := Below.refl _ _
  obtain ⟨x1, x2, x3, x4⟩ := BX.out _ hb
  clear H HS HQ
  go_enter Tryz.func9, Tryz.ntmps9
  go_wp2_with (first
    | (go_at_call 13; refine (short_w _ _ _ _ _ _ _ _ (by unfold maxLen; omega) (by unfold maxLen; omega)).mono ?_; rw [hsh]; rintro e wl ⟨rfl, hv⟩; (try replace hbs := hbs.trans (hv.mono hbs.size)); (try replace hbt := hbt.trans (hv.mono hbt.size)); replace hb := hb.trans (hv.mono hb.size); clear x1 x2 x3 x4; obtain ⟨x1, x2, x3, x4⟩ := BX.out _ hb)
    | (go_at_call 14; refine (K.out _).mono ?_; rintro e wl ⟨rfl, hv⟩; (try replace hbs := hbs.trans (hv.mono hbs.size)); (try replace hbt := hbt.trans (hv.mono hbt.size)); replace hb := hb.trans (hv.mono hb.size); clear x1 x2 x3 x4; obtain ⟨x1, x2, x3, x4⟩ := BX.out _ hb))
  go_ret
  exact ⟨rfl, below_al hb⟩

set_option maxRecDepth 100000 in
set_option maxHeartbeats 4000000 in
theorem lawfi_c (f : Int) (na oa qa pa : Option Addr) (ln cn lo co lq cq lc cc : Nat) (N : Nat → N2) (U : Nat → O3) (q cl : Nat → Int) (c : Int) (w : World) (hls : ln ≤ 1000000) (hlt : lo ≤ 1000000) (hlz : lc ≤ maxLen) (hlq : lq ≤ maxLen) (H : Hid (Tr7 w na oa ln lo N U)) (HQ : Hid (IntSl w qa lq q)) (HS : Hid (IntSl w pa lc cl)) (K : Hid KnownOk) (hq : ln ≤ 8 ∧ lo ≤ 10) (hq1 : ¬ 12 < lq) (hq2 : 6 < lc) :
    Calls Tryz.prog 9 #[.agg #[.int .i64 f, .slice na ln cn, .slice oa lo co], .slice qa lq cq, .slice pa lc cc, .int .i64 c] w
      fun e w' => e = .returned (.bool true) ∧ Below w.heap.size w w' := by
  have hlz' := hlz
  have hlq' := hlq
  unfold maxLen at hlz' hlq'
  have hsh : decide (ln ≤ 8 ∧ lo ≤ 10) = true := decide_eq_true hq
  have hd1 : ¬ ((12 : Int) < (lq : Int)) := by omega
  have hd2 : ((6 : Int) < (lc : Int)) := by omega
  have BX := Lib.hid (fun (w1 : World) (hb : Below (w.alloc (.cells #[.int .i64 f, .slice na ln cn, .slice oa lo co] 25)).heap.size (w.alloc (.cells #[.int .i64 f, .slice na ln cn, .slice oa lo co] 25)) w1) => box7 hb)
  have HN : Hid (∀ w1, Below (w.alloc (.cells #[.int .i64 f, .slice na ln cn, .slice oa lo co] 25)).heap.size (w.alloc (.cells #[.int .i64 f, .slice na ln cn, .slice oa lo co] 25)) w1 → Hid (Tr7 w1 na oa ln lo N U)) := Lib.hid fun w1 h => Lib.hid (H.out.below (below_al h))
  have HM : Hid (∀ w1, Below (w.alloc (.cells #[.int .i64 f, .slice na ln cn, .slice oa lo co] 25)).heap.size (w.alloc (.cells #[.int .i64 f, .slice na ln cn, .slice oa lo co] 25)) w1 → Hid (IntSl w1 pa lc cl)) := Lib.hid fun w1 h => Lib.hid (HS.out.below (below_al h))
  have HMQ : Hid (∀ w1, Below (w.alloc (.cells #[.int .i64 f, .slice na ln cn, .slice oa lo co] 25)).heap.size (w.alloc (.cells #[.int .i64 f, .slice na ln cn, .slice oa lo co] 25)) w1 → Hid (IntSl w1 qa lq q)) := Lib.hid fun w1 h => Lib.hid (HQ.out.below (below_al h))
  have hb : Below (w.alloc (.cells #[.int .i64 f, .slice na ln cn, .slice oa lo co] 25)).heap.size (w.alloc (.cells #[.int .i64 f, .slice na ln cn, .slice oa lo co] 25)) (w.alloc (.cells #[.int .i64 f, .slice na ln cn, .slice oa lo co] 25)) := Below.refl _ _
  obtain ⟨x1, x2, x3, x4⟩ := BX.out _ hb
  clear H HS HQ
  go_enter Tryz.func9, Tryz.ntmps9
  go_wp2_with (first
    | (go_at_call 13; refine (short_w _ _ _ _ _ _ _ _ (by unfold maxLen; omega) (by unfold maxLen; omega)).mono ?_; rw [hsh]; rintro e wl ⟨rfl, hv⟩; (try replace hbs := hbs.trans (hv.mono hbs.size)); (try replace hbt := hbt.trans (hv.mono hbt.size)); replace hb := hb.trans (hv.mono hb.size); clear x1 x2 x3 x4; obtain ⟨x1, x2, x3, x4⟩ := BX.out _ hb)
    | (go_at_call 14; refine (K.out _).mono ?_; rintro e wl ⟨rfl, hv⟩; (try replace hbs := hbs.trans (hv.mono hbs.size)); (try replace hbt := hbt.trans (hv.mono hbt.size)); replace hb := hb.trans (hv.mono hb.size); clear x1 x2 x3 x4; obtain ⟨x1, x2, x3, x4⟩ := BX.out _ hb))
  go_ret
  exact ⟨rfl, below_al hb⟩

set_option maxRecDepth 100000 in
set_option maxHeartbeats 4000000 in
theorem lawfi_d (f : Int) (na oa qa pa : Option Addr) (ln cn lo co lq cq lc cc : Nat) (N : Nat → N2) (U : Nat → O3) (q cl : Nat → Int) (c : Int) (w : World) (hls : ln ≤ 1000000) (hlt : lo ≤ 1000000) (hlz : lc ≤ maxLen) (hlq : lq ≤ maxLen) (H : Hid (Tr7 w na oa ln lo N U)) (HQ : Hid (IntSl w qa lq q)) (HS : Hid (IntSl w pa lc cl)) (K : Hid KnownOk) (hq : ln ≤ 8 ∧ lo ≤ 10) (hq1 : ¬ 12 < lq) (hq2 : ¬ 6 < lc) (HR : Hid (¬ TreeP f ln lo N U)) :
    Calls Tryz.prog 9 #[.agg #[.int .i64 f, .slice na ln cn, .slice oa lo co], .slice qa lq cq, .slice pa lc cc, .int .i64 c] w
      fun e w' => e = .returned (.bool true) ∧ Below w.heap.size w w' := by
  have hlz' := hlz
  have hlq' := hlq
  unfold maxLen at hlz' hlq'
  have hsh : decide (ln ≤ 8 ∧ lo ≤ 10) = true := decide_eq_true hq
  have hd1 : ¬ ((12 : Int) < (lq : Int)) := by omega
  have hd2 : ¬ ((6 : Int) < (lc : Int)) := by omega
  have BX := Lib.hid (fun (w1 : World) (hb : Below (w.alloc (.cells #[.int .i64 f, .slice na ln cn, .slice oa lo co] 25)).heap.size (w.alloc (.cells #[.int .i64 f, .slice na ln cn, .slice oa lo co] 25)) w1) => box7 hb)
  have HN : Hid (∀ w1, Below (w.alloc (.cells #[.int .i64 f, .slice na ln cn, .slice oa lo co] 25)).heap.size (w.alloc (.cells #[.int .i64 f, .slice na ln cn, .slice oa lo co] 25)) w1 → Hid (Tr7 w1 na oa ln lo N U)) := Lib.hid fun w1 h => Lib.hid (H.out.below (below_al h))
  have HM : Hid (∀ w1, Below (w.alloc (.cells #[.int .i64 f, .slice na ln cn, .slice oa lo co] 25)).heap.size (w.alloc (.cells #[.int .i64 f, .slice na ln cn, .slice oa lo co] 25)) w1 → Hid (IntSl w1 pa lc cl)) := Lib.hid fun w1 h => Lib.hid (HS.out.below (below_al h))
  have HMQ : Hid (∀ w1, Below (w.alloc (.cells #[.int .i64 f, .slice na ln cn, .slice oa lo co] 25)).heap.size (w.alloc (.cells #[.int .i64 f, .slice na ln cn, .slice oa lo co] 25)) w1 → Hid (IntSl w1 qa lq q)) := Lib.hid fun w1 h => Lib.hid (HQ.out.below (below_al h))
  have hb : Below (w.alloc (.cells #[.int .i64 f, .slice na ln cn, .slice oa lo co] 25)).heap.size (w.alloc (.cells #[.int .i64 f, .slice na ln cn, .slice oa lo co] 25)) (w.alloc (.cells #[.int .i64 f, .slice na ln cn, .slice oa lo co] 25)) := Below.refl _ _
  obtain ⟨x1, x2, x3, x4⟩ := BX.out _ hb
  clear H HS HQ
  go_enter Tryz.func9, Tryz.ntmps9
  go_wp2_with (first
    | (go_at_call 13; refine (short_w _ _ _ _ _ _ _ _ (by unfold maxLen; omega) (by unfold maxLen; omega)).mono ?_; rw [hsh]; rintro e wl ⟨rfl, hv⟩; (try replace hbs := hbs.trans (hv.mono hbs.size)); (try replace hbt := hbt.trans (hv.mono hbt.size)); replace hb := hb.trans (hv.mono hb.size); clear x1 x2 x3 x4; obtain ⟨x1, x2, x3, x4⟩ := BX.out _ hb)
    | (go_at_call 17; refine (tree_w _ _ _ _ _ _ _ N U _ hls hlt (HN.out _ hb)).mono ?_; rintro e wl ⟨⟨rb, rfl, hrb⟩, hv⟩; obtain rfl : rb = false := (by cases rb <;> first | rfl | exact (HR.out (hrb.1 rfl)).elim); clear hrb; (try replace hbs := hbs.trans (hv.mono hbs.size)); (try replace hbt := hbt.trans (hv.mono hbt.size)); replace hb := hb.trans (hv.mono hb.size); clear x1 x2 x3 x4; obtain ⟨x1, x2, x3, x4⟩ := BX.out _ hb)
    | (go_at_call 14; refine (K.out _).mono ?_; rintro e wl ⟨rfl, hv⟩; (try replace hbs := hbs.trans (hv.mono hbs.size)); (try replace hbt := hbt.trans (hv.mono hbt.size)); replace hb := hb.trans (hv.mono hb.size); clear x1 x2 x3 x4; obtain ⟨x1, x2, x3, x4⟩ := BX.out _ hb))
  go_ret
  exact ⟨rfl, below_al hb⟩

set_option maxRecDepth 100000 in
set_option maxHeartbeats 4000000 in
theorem lawfi_e (f : Int) (na oa qa pa : Option Addr) (ln cn lo co lq cq lc cc : Nat) (N : Nat → N2) (U : Nat → O3) (q cl : Nat → Int) (c : Int) (w : World) (hls : ln ≤ 1000000) (hlt : lo ≤ 1000000) (hlz : lc ≤ maxLen) (hlq : lq ≤ maxLen) (H : Hid (Tr7 w na oa ln lo N U)) (HQ : Hid (IntSl w qa lq q)) (HS : Hid (IntSl w pa lc cl)) (K : Hid KnownOk) (hq : ln ≤ 8 ∧ lo ≤ 10) (hq1 : ¬ 12 < lq) (hq2 : ¬ 6 < lc) (HR : Hid (TreeP f ln lo N U)) (HSP : Hid (¬ SharesP lq lo q U)) :
    Calls Tryz.prog 9 #[.agg #[.int .i64 f, .slice na ln cn, .slice oa lo co], .slice qa lq cq, .slice pa lc cc, .int .i64 c] w
      fun e w' => e = .returned (.bool true) ∧ Below w.heap.size w w' := by
  have hlz' := hlz
  have hlq' := hlq
  unfold maxLen at hlz' hlq'
  have hsh : decide (ln ≤ 8 ∧ lo ≤ 10) = true := decide_eq_true hq
  have hd1 : ¬ ((12 : Int) < (lq : Int)) := by omega
  have hd2 : ¬ ((6 : Int) < (lc : Int)) := by omega
  have BX := Lib.hid (fun (w1 : World) (hb : Below (w.alloc (.cells #[.int .i64 f, .slice na ln cn, .slice oa lo co] 25)).heap.size (w.alloc (.cells #[.int .i64 f, .slice na ln cn, .slice oa lo co] 25)) w1) => box7 hb)
  have HN : Hid (∀ w1, Below (w.alloc (.cells #[.int .i64 f, .slice na ln cn, .slice oa lo co] 25)).heap.size (w.alloc (.cells #[.int .i64 f, .slice na ln cn, .slice oa lo co] 25)) w1 → Hid (Tr7 w1 na oa ln lo N U)) := Lib.hid fun w1 h => Lib.hid (H.out.below (below_al h))
  have HM : Hid (∀ w1, Below (w.alloc (.cells #[.int .i64 f, .slice na ln cn, .slice oa lo co] 25)).heap.size (w.alloc (.cells #[.int .i64 f, .slice na ln cn, .slice oa lo co] 25)) w1 → Hid (IntSl w1 pa lc cl)) := Lib.hid fun w1 h => Lib.hid (HS.out.below (below_al h))
  have HMQ : Hid (∀ w1, Below (w.alloc (.cells #[.int .i64 f, .slice na ln cn, .slice oa lo co] 25)).heap.size (w.alloc (.cells #[.int .i64 f, .slice na ln cn, .slice oa lo co] 25)) w1 → Hid (IntSl w1 qa lq q)) := Lib.hid fun w1 h => Lib.hid (HQ.out.below (below_al h))
  have hb : Below (w.alloc (.cells #[.int .i64 f, .slice na ln cn, .slice oa lo co] 25)).heap.size (w.alloc (.cells #[.int .i64 f, .slice na ln cn, .slice oa lo co] 25)) (w.alloc (.cells #[.int .i64 f, .slice na ln cn, .slice oa lo co] 25)) := Below.refl _ _
  obtain ⟨x1, x2, x3, x4⟩ := BX.out _ hb
  clear H HS HQ
  go_enter Tryz.func9, Tryz.ntmps9
  go_wp2_with (first
    | (go_at_call 13; refine (short_w _ _ _ _ _ _ _ _ (by unfold maxLen; omega) (by unfold maxLen; omega)).mono ?_; rw [hsh]; rintro e wl ⟨rfl, hv⟩; (try replace hbs := hbs.trans (hv.mono hbs.size)); (try replace hbt := hbt.trans (hv.mono hbt.size)); replace hb := hb.trans (hv.mono hb.size); clear x1 x2 x3 x4; obtain ⟨x1, x2, x3, x4⟩ := BX.out _ hb)
    | (go_at_call 17; refine (tree_w _ _ _ _ _ _ _ N U _ hls hlt (HN.out _ hb)).mono ?_; rintro e wl ⟨⟨rb, rfl, hrb⟩, hv⟩; obtain rfl : rb = true := hrb.2 HR.out; clear hrb; (try replace hbs := hbs.trans (hv.mono hbs.size)); (try replace hbt := hbt.trans (hv.mono hbt.size)); replace hb := hb.trans (hv.mono hb.size); clear x1 x2 x3 x4; obtain ⟨x1, x2, x3, x4⟩ := BX.out _ hb)
    | (go_at_call 18; refine (list_w _ _ _ _ _ _ _ _ _ _ N U q _ hlt hlq (HN.out _ hb) (HMQ.out _ hb)).mono ?_; rintro e wl ⟨⟨rb, rfl, hrb⟩, hv⟩; obtain rfl : rb = false := (by cases rb <;> first | rfl | exact (HSP.out (hrb.1 rfl)).elim); clear hrb; (try replace hbs := hbs.trans (hv.mono hbs.size)); (try replace hbt := hbt.trans (hv.mono hbt.size)); replace hb := hb.trans (hv.mono hb.size); clear x1 x2 x3 x4; obtain ⟨x1, x2, x3, x4⟩ := BX.out _ hb)
    | (go_at_call 14; refine (K.out _).mono ?_; rintro e wl ⟨rfl, hv⟩; (try replace hbs := hbs.trans (hv.mono hbs.size)); (try replace hbt := hbt.trans (hv.mono hbt.size)); replace hb := hb.trans (hv.mono hb.size); clear x1 x2 x3 x4; obtain ⟨x1, x2, x3, x4⟩ := BX.out _ hb))
  go_ret
  exact ⟨rfl, below_al hb⟩

set_option maxRecDepth 100000 in
set_option maxHeartbeats 4000000 in
theorem lawfi_f (f : Int) (na oa qa pa : Option Addr) (ln cn lo co lq cq lc cc : Nat) (N : Nat → N2) (U : Nat → O3) (q cl : Nat → Int) (c : Int) (w : World) (hls : ln ≤ 1000000) (hlt : lo ≤ 1000000) (hlz : lc ≤ maxLen) (hlq : lq ≤ maxLen) (H : Hid (Tr7 w na oa ln lo N U)) (HQ : Hid (IntSl w qa lq q)) (HS : Hid (IntSl w pa lc cl)) (K : Hid KnownOk) (hq : ln ≤ 8 ∧ lo ≤ 10) (hq1 : ¬ 12 < lq) (hq2 : ¬ 6 < lc) (HR : Hid (TreeP f ln lo N U)) (HSP : Hid (SharesP lq lo q U)) (HP : Hid (¬ OrdP cl lc)) :
    Calls Tryz.prog 9 #[.agg #[.int .i64 f, .slice na ln cn, .slice oa lo co], .slice qa lq cq, .slice pa lc cc, .int .i64 c] w
      fun e w' => e = .returned (.bool true) ∧ Below w.heap.size w w' := by
  have hlz' := hlz
  have hlq' := hlq
  unfold maxLen at hlz' hlq'
  have hsh : decide (ln ≤ 8 ∧ lo ≤ 10) = true := decide_eq_true hq
  have hd1 : ¬ ((12 : Int) < (lq : Int)) := by omega
  have hd2 : ¬ ((6 : Int) < (lc : Int)) := by omega
  have BX := Lib.hid (fun (w1 : World) (hb : Below (w.alloc (.cells #[.int .i64 f, .slice na ln cn, .slice oa lo co] 25)).heap.size (w.alloc (.cells #[.int .i64 f, .slice na ln cn, .slice oa lo co] 25)) w1) => box7 hb)
  have HN : Hid (∀ w1, Below (w.alloc (.cells #[.int .i64 f, .slice na ln cn, .slice oa lo co] 25)).heap.size (w.alloc (.cells #[.int .i64 f, .slice na ln cn, .slice oa lo co] 25)) w1 → Hid (Tr7 w1 na oa ln lo N U)) := Lib.hid fun w1 h => Lib.hid (H.out.below (below_al h))
  have HM : Hid (∀ w1, Below (w.alloc (.cells #[.int .i64 f, .slice na ln cn, .slice oa lo co] 25)).heap.size (w.alloc (.cells #[.int .i64 f, .slice na ln cn, .slice oa lo co] 25)) w1 → Hid (IntSl w1 pa lc cl)) := Lib.hid fun w1 h => Lib.hid (HS.out.below (below_al h))
  have HMQ : Hid (∀ w1, Below (w.alloc (.cells #[.int .i64 f, .slice na ln cn, .slice oa lo co] 25)).heap.size (w.alloc (.cells #[.int .i64 f, .slice na ln cn, .slice oa lo co] 25)) w1 → Hid (IntSl w1 qa lq q)) := Lib.hid fun w1 h => Lib.hid (HQ.out.below (below_al h))
  have hb : Below (w.alloc (.cells #[.int .i64 f, .slice na ln cn, .slice oa lo co] 25)).heap.size (w.alloc (.cells #[.int .i64 f, .slice na ln cn, .slice oa lo co] 25)) (w.alloc (.cells #[.int .i64 f, .slice na ln cn, .slice oa lo co] 25)) := Below.refl _ _
  obtain ⟨x1, x2, x3, x4⟩ := BX.out _ hb
  clear H HS HQ
  go_enter Tryz.func9, Tryz.ntmps9
  go_wp2_with (first
    | (go_at_call 13; refine (short_w _ _ _ _ _ _ _ _ (by unfold maxLen; omega) (by unfold maxLen; omega)).mono ?_; rw [hsh]; rintro e wl ⟨rfl, hv⟩; (try replace hbs := hbs.trans (hv.mono hbs.size)); (try replace hbt := hbt.trans (hv.mono hbt.size)); replace hb := hb.trans (hv.mono hb.size); clear x1 x2 x3 x4; obtain ⟨x1, x2, x3, x4⟩ := BX.out _ hb)
    | (go_at_call 17; refine (tree_w _ _ _ _ _ _ _ N U _ hls hlt (HN.out _ hb)).mono ?_; rintro e wl ⟨⟨rb, rfl, hrb⟩, hv⟩; obtain rfl : rb = true := hrb.2 HR.out; clear hrb; (try replace hbs := hbs.trans (hv.mono hbs.size)); (try replace hbt := hbt.trans (hv.mono hbt.size)); replace hb := hb.trans (hv.mono hb.size); clear x1 x2 x3 x4; obtain ⟨x1, x2, x3, x4⟩ := BX.out _ hb)
    | (go_at_call 18; refine (list_w _ _ _ _ _ _ _ _ _ _ N U q _ hlt hlq (HN.out _ hb) (HMQ.out _ hb)).mono ?_; rintro e wl ⟨⟨rb, rfl, hrb⟩, hv⟩; obtain rfl : rb = true := hrb.2 HSP.out; clear hrb; (try replace hbs := hbs.trans (hv.mono hbs.size)); (try replace hbt := hbt.trans (hv.mono hbt.size)); replace hb := hb.trans (hv.mono hb.size); clear x1 x2 x3 x4; obtain ⟨x1, x2, x3, x4⟩ := BX.out _ hb)
    | (go_at_call 24; refine (order_w _ _ _ _ _ (by omega) (HM.out _ hb)).mono ?_; rintro e wl ⟨⟨rb, rfl, hrb⟩, hv⟩; obtain rfl : rb = false := (by cases rb <;> first | rfl | exact (HP.out (hrb.1 rfl)).elim); clear hrb; (try replace hbs := hbs.trans (hv.mono hbs.size)); (try replace hbt := hbt.trans (hv.mono hbt.size)); replace hb := hb.trans (hv.mono hb.size); clear x1 x2 x3 x4; obtain ⟨x1, x2, x3, x4⟩ := BX.out _ hb)
    | (go_at_call 14; refine (K.out _).mono ?_; rintro e wl ⟨rfl, hv⟩; (try replace hbs := hbs.trans (hv.mono hbs.size)); (try replace hbt := hbt.trans (hv.mono hbt.size)); replace hb := hb.trans (hv.mono hb.size); clear x1 x2 x3 x4; obtain ⟨x1, x2, x3, x4⟩ := BX.out _ hb))
  go_ret
  exact ⟨rfl, below_al hb⟩

set_option maxRecDepth 100000 in
set_option maxHeartbeats 4000000 in
theorem lawfi_g (f : Int) (na oa qa pa : Option Addr) (ln cn lo co lq cq lc cc : Nat) (N : Nat → N2) (U : Nat → O3) (q cl : Nat → Int) (c : Int) (w : World) (hls : ln ≤ 1000000) (hlt : lo ≤ 1000000) (hlz : lc ≤ maxLen) (hlq : lq ≤ maxLen) (H : Hid (Tr7 w na oa ln lo N U)) (HQ : Hid (IntSl w qa lq q)) (HS : Hid (IntSl w pa lc cl)) (K : Hid KnownOk) (hq : ln ≤ 8 ∧ lo ≤ 10) (hq1 : ¬ 12 < lq) (hq2 : ¬ 6 < lc) (HR : Hid (TreeP f ln lo N U)) (HSP : Hid (SharesP lq lo q U)) (HP : Hid (OrdP cl lc)) (hfb : fromB 0 3 c = false) :
    Calls Tryz.prog 9 #[.agg #[.int .i64 f, .slice na ln cn, .slice oa lo co], .slice qa lq cq, .slice pa lc cc, .int .i64 c] w
      fun e w' => e = .returned (.bool true) ∧ Below w.heap.size w w' := by
  have hlz' := hlz
  have hlq' := hlq
  unfold maxLen at hlz' hlq'
  have hsh : decide (ln ≤ 8 ∧ lo ≤ 10) = true := decide_eq_true hq
  have hd1 : ¬ ((12 : Int) < (lq : Int)) := by omega
  have hd2 : ¬ ((6 : Int) < (lc : Int)) := by omega
  have BX := Lib.hid (fun (w1 : World) (hb : Below (w.alloc (.cells #[.int .i64 f, .slice na ln cn, .slice oa lo co] 25)).heap.size (w.alloc (.cells #[.int .i64 f, .slice na ln cn, .slice oa lo co] 25)) w1) => box7 hb)
  have HN : Hid (∀ w1, Below (w.alloc (.cells #[.int .i64 f, .slice na ln cn, .slice oa lo co] 25)).heap.size (w.alloc (.cells #[.int .i64 f, .slice na ln cn, .slice oa lo co] 25)) w1 → Hid (Tr7 w1 na oa ln lo N U)) := Lib.hid fun w1 h => Lib.hid (H.out.below (below_al h))
  have HM : Hid (∀ w1, Below (w.alloc (.cells #[.int .i64 f, .slice na ln cn, .slice oa lo co] 25)).heap.size (w.alloc (.cells #[.int .i64 f, .slice na ln cn, .slice oa lo co] 25)) w1 → Hid (IntSl w1 pa lc cl)) := Lib.hid fun w1 h => Lib.hid (HS.out.below (below_al h))
  have HMQ : Hid (∀ w1, Below (w.alloc (.cells #[.int .i64 f, .slice na ln cn, .slice oa lo co] 25)).heap.size (w.alloc (.cells #[.int .i64 f, .slice na ln cn, .slice oa lo co] 25)) w1 → Hid (IntSl w1 qa lq q)) := Lib.hid fun w1 h => Lib.hid (HQ.out.below (below_al h))
  have hb : Below (w.alloc (.cells #[.int .i64 f, .slice na ln cn, .slice oa lo co] 25)).heap.size (w.alloc (.cells #[.int .i64 f, .slice na ln cn, .slice oa lo co] 25)) (w.alloc (.cells #[.int .i64 f, .slice na ln cn, .slice oa lo co] 25)) := Below.refl _ _
  obtain ⟨x1, x2, x3, x4⟩ := BX.out _ hb
  clear H HS HQ
  go_enter Tryz.func9, Tryz.ntmps9
  go_wp2_with (first
    | (go_at_call 13; refine (short_w _ _ _ _ _ _ _ _ (by unfold maxLen; omega) (by unfold maxLen; omega)).mono ?_; rw [hsh]; rintro e wl ⟨rfl, hv⟩; (try replace hbs := hbs.trans (hv.mono hbs.size)); (try replace hbt := hbt.trans (hv.mono hbt.size)); replace hb := hb.trans (hv.mono hb.size); clear x1 x2 x3 x4; obtain ⟨x1, x2, x3, x4⟩ := BX.out _ hb)
    | (go_at_call 17; refine (tree_w _ _ _ _ _ _ _ N U _ hls hlt (HN.out _ hb)).mono ?_; rintro e wl ⟨⟨rb, rfl, hrb⟩, hv⟩; obtain rfl : rb = true := hrb.2 HR.out; clear hrb; (try replace hbs := hbs.trans (hv.mono hbs.size)); (try replace hbt := hbt.trans (hv.mono hbt.size)); replace hb := hb.trans (hv.mono hb.size); clear x1 x2 x3 x4; obtain ⟨x1, x2, x3, x4⟩ := BX.out _ hb)
    | (go_at_call 18; refine (list_w _ _ _ _ _ _ _ _ _ _ N U q _ hlt hlq (HN.out _ hb) (HMQ.out _ hb)).mono ?_; rintro e wl ⟨⟨rb, rfl, hrb⟩, hv⟩; obtain rfl : rb = true := hrb.2 HSP.out; clear hrb; (try replace hbs := hbs.trans (hv.mono hbs.size)); (try replace hbt := hbt.trans (hv.mono hbt.size)); replace hb := hb.trans (hv.mono hb.size); clear x1 x2 x3 x4; obtain ⟨x1, x2, x3, x4⟩ := BX.out _ hb)
    | (go_at_call 24; refine (order_w _ _ _ _ _ (by omega) (HM.out _ hb)).mono ?_; rintro e wl ⟨⟨rb, rfl, hrb⟩, hv⟩; obtain rfl : rb = true := hrb.2 HP.out; clear hrb; (try replace hbs := hbs.trans (hv.mono hbs.size)); (try replace hbt := hbt.trans (hv.mono hbt.size)); replace hb := hb.trans (hv.mono hb.size); clear x1 x2 x3 x4; obtain ⟨x1, x2, x3, x4⟩ := BX.out _ hb)
    | (go_at_call 37; refine (class_w c _).mono ?_; rw [hfb]; rintro e wl ⟨rfl, rfl⟩)
    | (go_at_call 14; refine (K.out _).mono ?_; rintro e wl ⟨rfl, hv⟩; (try replace hbs := hbs.trans (hv.mono hbs.size)); (try replace hbt := hbt.trans (hv.mono hbt.size)); replace hb := hb.trans (hv.mono hb.size); clear x1 x2 x3 x4; obtain ⟨x1, x2, x3, x4⟩ := BX.out _ hb))
  go_ret
  exact ⟨rfl, below_al hb⟩
end Go.Kn

namespace Go.Kn
open Go Go.Proofs Go.RowKit

theorem upto_four (cl : Nat → Int) : upto cl 4 = cl 0 :: [cl 1, cl 2, cl 3] := by simp [upto, List.range_succ]
theorem ordP_head {f : Int} {ln lo : Nat} {N : Nat → N2} {U : Nat → O3} {cl : Nat → Int} (HT : TreeP f ln lo N U) (h : OrdP cl 4) : (cl 0 :: [cl 1, cl 2, cl 3]).Nodup ∧ ∀ i, i < lo → (U i).k ∈ cl 0 :: [cl 1, cl 2, cl 3] := by
  have hp : (upto cl 4).Perm [0, 1, 2, 3] := by
    have h1 := (isOrd_iff cl 4).2 h
    unfold isOrd srt at h1
    have h2 := of_decide_eq_true h1
    have := (List.mergeSort_perm (upto cl 4) (fun x y => decide (x ≤ y))).symm
    rwa [h2] at this
  rw [upto_four] at hp
  refine ⟨hp.nodup_iff.2 (by decide), fun i hi => hp.mem_iff.2 ?_⟩
  have h1 := (tree_o HT hi).2.2
  simp
  omega
theorem totT_one (U : Nat → O3) (s : Nat → Int) (c : Int) (k : Nat) : totT U s c c k = sm (fun i => if (U i).k = c then s i else 0) k :=
  sm_congr k fun i _ => by
    by_cases h : (U i).k = c
    · rw [if_pos h, if_pos (by omega)]
    · rw [if_neg h, if_neg (by omega)]
theorem totT_up {f : Int} {ln lo : Nat} {N : Nat → N2} {U : Nat → O3} (HT : TreeP f ln lo N U) (s : Nat → Int) (c : Int) : totT U s 0 c lo = sm (fun i => if (U i).k ≤ c then s i else 0) lo :=
  sm_congr lo fun i hi => by
    have h1 := (tree_o HT hi).2.2
    by_cases h : (U i).k ≤ c
    · rw [if_pos h, if_pos (by omega)]
    · rw [if_neg h, if_neg (by omega)]

set_option maxRecDepth 100000 in
set_option maxHeartbeats 4000000 in
theorem lawfi_h (f : Int) (na oa qa pa : Option Addr) (ln cn lo co lq cq lc cc : Nat) (N : Nat → N2) (U : Nat → O3) (q cl : Nat → Int) (c : Int) (w : World) (hls : ln ≤ 1000000) (hlt : lo ≤ 1000000) (hlz : lc ≤ maxLen) (hlq : lq ≤ maxLen) (H : Hid (Tr7 w na oa ln lo N U)) (HQ : Hid (IntSl w qa lq q)) (HS : Hid (IntSl w pa lc cl)) (K : Hid KnownOk) (hq : ln ≤ 8 ∧ lo ≤ 10) (hq1 : ¬ 12 < lq) (hq2 : ¬ 6 < lc) (HR : Hid (TreeP f ln lo N U)) (HSP : Hid (SharesP lq lo q U)) (HP : Hid (OrdP cl lc)) (hfb : fromB 0 3 c = true) :
    Calls Tryz.prog 9 #[.agg #[.int .i64 f, .slice na ln cn, .slice oa lo co], .slice qa lq cq, .slice pa lc cc, .int .i64 c] w
      fun e w' => e = .returned (.bool true) ∧ Below w.heap.size w w' := by
  have hlz' := hlz
  have hlq' := hlq
  unfold maxLen at hlz' hlq'
  have hsh : decide (ln ≤ 8 ∧ lo ≤ 10) = true := decide_eq_true hq
  have hd1 : ¬ ((12 : Int) < (lq : Int)) := by omega
  have hd2 : ¬ ((6 : Int) < (lc : Int)) := by omega
  have hlo3 : lo ≤ maxLen := by unfold maxLen; omega
  have hl4 : lc = 4 := HP.out.1
  subst hl4
  have hq3 : lo = lq := HSP.out.len.symm
  subst hq3
  obtain ⟨A4, O4, hpa, hA4, hn4⟩ := HS.out.resolve_left (by omega)
  subst hpa
  have HF : Hid (∀ w2, Below (w.alloc (.cells #[.int .i64 f, .slice na ln cn, .slice oa lo co] 25)).heap.size (w.alloc (.cells #[.int .i64 f, .slice na ln cn, .slice oa lo co] 25)) w2 → w2.cell? ⟨A4, O4, none⟩ = some (.int .i64 (cl 0))) := Lib.hid fun w2 h => ((below_al h).cell (p := ⟨A4, O4, none⟩) hA4).trans (hn4 0 (by omega))
  clear hn4
  have BX := Lib.hid (fun (w1 : World) (hb : Below (w.alloc (.cells #[.int .i64 f, .slice na ln cn, .slice oa lo co] 25)).heap.size (w.alloc (.cells #[.int .i64 f, .slice na ln cn, .slice oa lo co] 25)) w1) => box7 hb)
  have HN : Hid (∀ w1, Below (w.alloc (.cells #[.int .i64 f, .slice na ln cn, .slice oa lo co] 25)).heap.size (w.alloc (.cells #[.int .i64 f, .slice na ln cn, .slice oa lo co] 25)) w1 → Hid (Tr7 w1 na oa ln lo N U)) := Lib.hid fun w1 h => Lib.hid (H.out.below (below_al h))
  have HM : Hid (∀ w1, Below (w.alloc (.cells #[.int .i64 f, .slice na ln cn, .slice oa lo co] 25)).heap.size (w.alloc (.cells #[.int .i64 f, .slice na ln cn, .slice oa lo co] 25)) w1 → Hid (IntSl w1 (some ⟨A4, O4, none⟩) 4 cl)) := Lib.hid fun w1 h => Lib.hid (HS.out.below (below_al h))
  have HMQ : Hid (∀ w1, Below (w.alloc (.cells #[.int .i64 f, .slice na ln cn, .slice oa lo co] 25)).heap.size (w.alloc (.cells #[.int .i64 f, .slice na ln cn, .slice oa lo co] 25)) w1 → Hid (IntSl w1 qa lo q)) := Lib.hid fun w1 h => Lib.hid (HQ.out.below (below_al h))
  have hb : Below (w.alloc (.cells #[.int .i64 f, .slice na ln cn, .slice oa lo co] 25)).heap.size (w.alloc (.cells #[.int .i64 f, .slice na ln cn, .slice oa lo co] 25)) (w.alloc (.cells #[.int .i64 f, .slice na ln cn, .slice oa lo co] 25)) := Below.refl _ _
  obtain ⟨x1, x2, x3, x4⟩ := BX.out _ hb
  have x5 := HF.out _ hb
  clear H HS HQ
  go_enter Tryz.func9, Tryz.ntmps9
  go_wp2_with (first
    | (go_at_call 13; refine (short_w _ _ _ _ _ _ _ _ (by unfold maxLen; omega) (by unfold maxLen; omega)).mono ?_; rw [hsh]; rintro e wl ⟨rfl, hv⟩; (try replace hbs := hbs.trans (hv.mono hbs.size)); (try replace hbt := hbt.trans (hv.mono hbt.size)); replace hb := hb.trans (hv.mono hb.size); clear x1 x2 x3 x4; obtain ⟨x1, x2, x3, x4⟩ := BX.out _ hb; clear x5; have x5 := HF.out _ hb)
    | (go_at_call 17; refine (tree_w _ _ _ _ _ _ _ N U _ hls hlt (HN.out _ hb)).mono ?_; rintro e wl ⟨⟨rb, rfl, hrb⟩, hv⟩; obtain rfl : rb = true := hrb.2 HR.out; clear hrb; (try replace hbs := hbs.trans (hv.mono hbs.size)); (try replace hbt := hbt.trans (hv.mono hbt.size)); replace hb := hb.trans (hv.mono hb.size); clear x1 x2 x3 x4; obtain ⟨x1, x2, x3, x4⟩ := BX.out _ hb; clear x5; have x5 := HF.out _ hb; clear x5; have x5 := HF.out _ hb)
    | (go_at_call_of 18 sb; refine (list_w _ _ _ _ _ _ _ _ _ _ N U t _ hlt hlo3 (HN.out _ hb) (Lib.hid (HSB.out.below hbs))).mono ?_; rintro e wl ⟨⟨rb, rfl, hrb⟩, hv⟩; obtain rfl : rb = true := hrb.2 (sharesP_of HVT.out); clear hrb; (try replace hbs := hbs.trans (hv.mono hbs.size)); (try replace hbt := hbt.trans (hv.mono hbt.size)); replace hb := hb.trans (hv.mono hb.size); clear x1 x2 x3 x4; obtain ⟨x1, x2, x3, x4⟩ := BX.out _ hb; clear x5; have x5 := HF.out _ hb)
    | (go_at_call_of 18 sd; refine (list_w _ _ _ _ _ _ _ _ _ _ N U u _ hlt hlo3 (HN.out _ hb) (Lib.hid (HSD.out.below hbt))).mono ?_; rintro e wl ⟨⟨rb, rfl, hrb⟩, hv⟩; obtain rfl : rb = true := hrb.2 (sharesP_of HVU.out); clear hrb; (try replace hbs := hbs.trans (hv.mono hbs.size)); (try replace hbt := hbt.trans (hv.mono hbt.size)); replace hb := hb.trans (hv.mono hb.size); clear x1 x2 x3 x4; obtain ⟨x1, x2, x3, x4⟩ := BX.out _ hb; clear x5; have x5 := HF.out _ hb)
    | (go_at_call 18; refine (list_w _ _ _ _ _ _ _ _ _ _ N U q _ hlt hlq (HN.out _ hb) (HMQ.out _ hb)).mono ?_; rintro e wl ⟨⟨rb, rfl, hrb⟩, hv⟩; obtain rfl : rb = true := hrb.2 HSP.out; clear hrb; (try replace hbs := hbs.trans (hv.mono hbs.size)); (try replace hbt := hbt.trans (hv.mono hbt.size)); replace hb := hb.trans (hv.mono hb.size); clear x1 x2 x3 x4; obtain ⟨x1, x2, x3, x4⟩ := BX.out _ hb; clear x5; have x5 := HF.out _ hb; clear x5; have x5 := HF.out _ hb)
    | (go_at_call 24; refine (order_w _ _ _ _ _ (by omega) (HM.out _ hb)).mono ?_; rintro e wl ⟨⟨rb, rfl, hrb⟩, hv⟩; obtain rfl : rb = true := hrb.2 HP.out; clear hrb; (try replace hbs := hbs.trans (hv.mono hbs.size)); (try replace hbt := hbt.trans (hv.mono hbt.size)); replace hb := hb.trans (hv.mono hb.size); clear x1 x2 x3 x4; obtain ⟨x1, x2, x3, x4⟩ := BX.out _ hb; clear x5; have x5 := HF.out _ hb; clear x5; have x5 := HF.out _ hb)
    | (go_at_call 37; refine (class_w c _).mono ?_; rw [hfb]; rintro e wl ⟨rfl, rfl⟩)
    | (go_at_call 20; refine (shares_w f na oa ln cn lo co N U _ HR (HN.out _ hb)).mono ?_; rintro e wl ⟨⟨sb, cb, t, rfl, hsb, hord⟩, hv⟩; (try replace hbs := hbs.trans (hv.mono hbs.size)); (try replace hbt := hbt.trans (hv.mono hbt.size)); replace hb := hb.trans (hv.mono hb.size); clear x1 x2 x3 x4; obtain ⟨x1, x2, x3, x4⟩ := BX.out _ hb; clear x5; have x5 := HF.out _ hb; have HORD := Lib.hid hord; have HVT := Lib.hid (hord.vd (vd_zero HR.out)); have HSB := Lib.hid hsb; have hbs := Below.refl wl.heap.size wl; clear hord hsb)
    | (go_at_call 21; refine (ordered_good f na oa _ ln cn lo co 4 cc N U cl _ (by omega) HR HP (HN.out _ hb) (HM.out _ hb)).mono ?_; rintro e wl ⟨⟨sd, cd, u, rfl, hsd, hordu⟩, hv⟩; (try replace hbs := hbs.trans (hv.mono hbs.size)); (try replace hbt := hbt.trans (hv.mono hbt.size)); replace hb := hb.trans (hv.mono hb.size); clear x1 x2 x3 x4; obtain ⟨x1, x2, x3, x4⟩ := BX.out _ hb; clear x5; have x5 := HF.out _ hb; have HORDU := Lib.hid hordu; have HVU := Lib.hid (hordu.vd (vd_zero HR.out)); have HSD := Lib.hid hsd; have hbt := Below.refl wl.heap.size wl; clear hordu hsd)
    | (go_at_call_of 19 sd; refine (rfits_w _ _ _ _ _ _ _ _ _ N U u _ HR (Lib.hid (sharesP_of HVU.out)) (HN.out _ hb) (Lib.hid (HSD.out.below hbt))).mono ?_; rintro e wl ⟨⟨rb, rfl, hrb⟩, hv⟩; obtain rfl : rb = true := hrb.2 HVU.out.fit; clear hrb; (try replace hbs := hbs.trans (hv.mono hbs.size)); (try replace hbt := hbt.trans (hv.mono hbt.size)); replace hb := hb.trans (hv.mono hb.size); clear x1 x2 x3 x4; obtain ⟨x1, x2, x3, x4⟩ := BX.out _ hb; clear x5; have x5 := HF.out _ hb))

  obtain ⟨wq, hwq⟩ : ∃ wq, wq = wl := ⟨_, rfl⟩
  subst hwq
  have BDq : Hid (∀ i, i < lo → 0 ≤ q i ∧ q i ≤ 200) := Lib.hid fun i hi => by have := shares_bd HR.out HSP.out hi; omega
  have BDt : Hid (∀ i, i < lo → 0 ≤ t i ∧ t i ≤ 200) := Lib.hid fun i hi => by have := shares_bd HR.out (sharesP_of HVT.out) hi; omega
  have BDu : Hid (∀ i, i < lo → 0 ≤ u i ∧ u i ≤ 200) := Lib.hid fun i hi => by have := shares_bd HR.out (sharesP_of HVU.out) hi; omega
  have hqlo := HR.out.lo2
  have HTQ : Hid (∀ w' (a b : Int), Below wq.heap.size wq w' → Calls Tryz.prog 36 #[.agg #[.int .i64 f, .slice na ln cn, .slice oa lo co], .slice qa lo cq, .int .i64 a, .int .i64 b] w' fun e w'' => e = .returned (.int .i64 (totT U q a b lo)) ∧ Below w'.heap.size w' w'') := Lib.hid fun w' a b h => total_w f na oa qa ln cn lo co cq N U q a b w' (by omega) (Lib.hid (fun i hi => BDq.out i hi)) (Lib.hid ((HN.out _ hb).out.below h)) (Lib.hid ((HMQ.out _ hb).out.below h))
  have HTT : Hid (∀ w' (a b : Int), Below wq.heap.size wq w' → Calls Tryz.prog 36 #[.agg #[.int .i64 f, .slice na ln cn, .slice oa lo co], .slice sb lo cb, .int .i64 a, .int .i64 b] w' fun e w'' => e = .returned (.int .i64 (totT U t a b lo)) ∧ Below w'.heap.size w' w'') := Lib.hid fun w' a b h => total_w f na oa sb ln cn lo co cb N U t a b w' (by omega) (Lib.hid (fun i hi => BDt.out i hi)) (Lib.hid ((HN.out _ hb).out.below h)) (Lib.hid ((HSB.out.below hbs).below h))
  have HTU : Hid (∀ w' (a b : Int), Below wq.heap.size wq w' → Calls Tryz.prog 36 #[.agg #[.int .i64 f, .slice na ln cn, .slice oa lo co], .slice sd lo cd, .int .i64 a, .int .i64 b] w' fun e w'' => e = .returned (.int .i64 (totT U u a b lo)) ∧ Below w'.heap.size w' w'') := Lib.hid fun w' a b h => total_w f na oa sd ln cn lo co cd N U u a b w' (by omega) (Lib.hid (fun i hi => BDu.out i hi)) (Lib.hid ((HN.out _ hb).out.below h)) (Lib.hid ((HSD.out.below hbt).below h))

  have HX : Hid (∀ w', Below wq.heap.size wq w' → w'.cell? ⟨w.heap.size, 0, none⟩ = some (.int .i64 f) ∧ w'.cell? ⟨w.heap.size, 1, none⟩ = some (.slice na ln cn) ∧ w'.cell? ⟨w.heap.size, 2, none⟩ = some (.slice oa lo co)) := Lib.hid fun w' h => by
    obtain ⟨z1, z2, z3, z4⟩ := BX.out w' (hb.trans (h.mono hb.size))
    exact ⟨z1, z2, z3⟩
  have hord4 := HORDU.out
  rw [upto_four] at hord4
  obtain ⟨hnd, hall⟩ := ordP_head HR.out HP.out
  have bdU : ∀ i, i < lo → 0 ≤ u i ∧ u i ≤ (U i).c := fun i hi => by have := shares_bd HR.out (sharesP_of HVU.out) hi; omega
  have bdT : ∀ i, i < lo → 0 ≤ t i ∧ t i ≤ (U i).c := fun i hi => by have := shares_bd HR.out (sharesP_of HVT.out) hi; omega
  have bdQ : ∀ i, i < lo → 0 ≤ q i ∧ q i ≤ (U i).c := fun i hi => by have := shares_bd HR.out HSP.out hi; omega
  have hA1 : ¬ (totT U u (cl 0) (cl 0) lo < totT U t (cl 0) (cl 0) lo) := by
    rw [totT_one, totT_one]
    have := head_p HR.out hord4 hnd hall bdT HVT.out.fit
    omega
  have hA2 : ¬ (totT U t 0 c lo < totT U u 0 c lo) := by
    rw [totT_up HR.out, totT_up HR.out]
    have := first_p HR.out HORD.out bdU HVU.out.fit c
    omega
  have HA3 : Hid (FitP f ln lo N U q → totT U q 0 c lo ≤ totT U t 0 c lo ∧ totT U q (cl 0) (cl 0) lo ≤ totT U u (cl 0) (cl 0) lo) := Lib.hid fun hf => by
    rw [totT_up HR.out, totT_up HR.out, totT_one, totT_one]
    exact ⟨first_p HR.out HORD.out bdQ hf c, head_p HR.out hord4 hnd hall bdQ hf⟩
  have hd3 : decide (totT U u (cl 0) (cl 0) lo < totT U t (cl 0) (cl 0) lo) = false := decide_eq_false hA1
  have hd4 : decide (totT U t 0 c lo < totT U u 0 c lo) = false := decide_eq_false hA2
  clear hord4 hnd hall bdU bdT bdQ hA1 hA2
  refine wp_region_calm (W := wq) (by kernel_rfl) (by kernel_rfl) (Below.refl _ _) ?_
  repeat (first
    | (refine calm_no (by rfl) ?_
       (try simp only [Act.put, List.setIfInBounds_toArray, List.set_cons_zero, List.set_cons_succ]))
    | (apply calm_yes
       focus rfl
       focus
         intro w' hw'
         obtain ⟨z1, z2, z3⟩ := HX.out w' hw'
         go_simp
         first
           | done
           | with_reducible rfl
           | ((go_at_call_of 36 sb; refine (HTT.out w' _ _ hw').mono ?_; rintro e w8 ⟨rfl, hb8⟩; exact ⟨rfl, hw'.trans (hb8.mono hw'.size)⟩))
           | ((go_at_call_of 36 sd; refine (HTU.out w' _ _ hw').mono ?_; rintro e w8 ⟨rfl, hb8⟩; exact ⟨rfl, hw'.trans (hb8.mono hw'.size)⟩))
           | ((go_at_call_of 36 qa; refine (HTQ.out w' _ _ hw').mono ?_; rintro e w8 ⟨rfl, hb8⟩; exact ⟨rfl, hw'.trans (hb8.mono hw'.size)⟩))
           | fail
       (try simp only [Act.put, List.setIfInBounds_toArray, List.set_cons_zero, List.set_cons_succ])))
  refine calm_nil ?_
  intro v1 hqv1
  have HBv1 := Lib.hid hqv1
  clear hqv1

  have hbv := hb.trans (HBv1.out.mono hb.size)
  have HN9 := HN.out _ hbv
  have HM9 := HMQ.out _ hbv
  have HBV := Lib.hid hbv
  obtain ⟨x1, x2, x3⟩ := HX.out v1 HBv1.out
  clear hb hbs hbt hbv HN HM HMQ BX x4 x5 hd3 hd4
  by_cases hf : FitP f ln lo N U q
  case neg =>
    have HF9 := Lib.hid hf
    clear hf
    go_wp2_with (first
      | (go_at_call 19; refine (rfits_w _ _ _ _ _ _ _ _ _ N U q _ HR HSP HN9 HM9).mono ?_; rintro e w9 ⟨⟨rb, rfl, hrb⟩, hv9⟩; obtain rfl : rb = false := (by cases rb <;> first | rfl | exact (HF9.out (hrb.1 rfl)).elim); clear hrb; have HV9 := Lib.hid hv9; clear hv9)
      | (go_at_call 14; refine (K.out _).mono ?_; rintro e w10 ⟨rfl, hv10⟩))
    go_ret
    exact ⟨rfl, below_al (HBV.out.trans ((HV9.out.trans (hv10.mono HV9.out.size)).mono HBV.out.size))⟩
  case pos =>
    have hA4 := HA3.out hf
    have hd5 : decide (totT U q 0 c lo ≤ totT U t 0 c lo) = true := decide_eq_true hA4.1
    have hd6 : decide (totT U q (cl 0) (cl 0) lo ≤ totT U u (cl 0) (cl 0) lo) = true := decide_eq_true hA4.2
    have HF9 := Lib.hid hf
    have HD := Lib.hid (And.intro hd5 hd6)
    clear hf hA4 hd5 hd6 HA3
    go_wp2_with (go_at_call 19; refine (rfits_w _ _ _ _ _ _ _ _ _ N U q _ HR HSP HN9 HM9).mono ?_; rintro e w9 ⟨⟨rb, rfl, hrb⟩, hv9⟩; obtain rfl : rb = true := hrb.2 HF9.out; clear hrb; have HV9 := Lib.hid hv9; clear hv9)
    have HQ9 := Lib.hid (HBv1.out.trans (HV9.out.mono HBv1.out.size))
    obtain ⟨hd5, hd6⟩ := HD.out
    refine wp_region_calm (W := w9) (by kernel_rfl) (by kernel_rfl) (Below.refl _ _) ?_
    repeat (first
      | (refine calm_no (by rfl) ?_
         (try simp only [Act.put, List.setIfInBounds_toArray, List.set_cons_zero, List.set_cons_succ]))
      | (apply calm_yes
         focus rfl
         focus
           intro w' hw'
           obtain ⟨z1, z2, z3⟩ := HX.out w' (HQ9.out.trans (hw'.mono HQ9.out.size))
           go_simp
           first
             | done
             | with_reducible rfl
             | ((go_at_call_of 36 sb; refine (HTT.out w' _ _ (HQ9.out.trans (hw'.mono HQ9.out.size))).mono ?_; rintro e w8 ⟨rfl, hb8⟩; exact ⟨rfl, hw'.trans (hb8.mono hw'.size)⟩))
             | ((go_at_call_of 36 sd; refine (HTU.out w' _ _ (HQ9.out.trans (hw'.mono HQ9.out.size))).mono ?_; rintro e w8 ⟨rfl, hb8⟩; exact ⟨rfl, hw'.trans (hb8.mono hw'.size)⟩))
             | ((go_at_call_of 36 qa; refine (HTQ.out w' _ _ (HQ9.out.trans (hw'.mono HQ9.out.size))).mono ?_; rintro e w8 ⟨rfl, hb8⟩; exact ⟨rfl, hw'.trans (hb8.mono hw'.size)⟩))
             | ((go_at_call 14; refine (K.out w').mono ?_; rintro e w8 ⟨rfl, hb8⟩; exact ⟨rfl, hw'.trans (hb8.mono hw'.size)⟩))
             | fail
         (try simp only [Act.put, List.setIfInBounds_toArray, List.set_cons_zero, List.set_cons_succ])))
    refine calm_nil ?_
    intro v2 hqv2
    have HBv2 := Lib.hid hqv2
    clear hqv2
    go_wp2
    go_ret
    exact ⟨rfl, below_al (HBV.out.trans ((HV9.out.trans (HBv2.out.mono HV9.out.size)).mono HBV.out.size))⟩
end Go.Kn

namespace Go.Kn
open Go Go.Proofs Go.RowKit

set_option maxHeartbeats 1000000 in
theorem lawfi_w (f : Int) (na oa qa pa : Option Addr) (ln cn lo co lq cq lc cc : Nat) (N : Nat → N2) (U : Nat → O3) (q cl : Nat → Int) (c : Int) (w : World) (hls : ln ≤ maxLen) (hlt : lo ≤ maxLen) (hlq : lq ≤ maxLen) (hlz : lc ≤ maxLen) (H : Tr7 w na oa ln lo N U) (HQ : IntSl w qa lq q) (HS : IntSl w pa lc cl) (K : KnownOk) :
    Calls Tryz.prog 9 #[.agg #[.int .i64 f, .slice na ln cn, .slice oa lo co], .slice qa lq cq, .slice pa lc cc, .int .i64 c] w
      fun e w' => e = .returned (.bool true) ∧ Below w.heap.size w w' := by
  by_cases hq : ln ≤ 8 ∧ lo ≤ 10
  case neg => exact lawfi_a f na oa qa pa ln cn lo co lq cq lc cc N U q cl c w hls hlt hlz hlq (Lib.hid H) (Lib.hid HQ) (Lib.hid HS) (Lib.hid K) hq
  by_cases hq1 : 12 < lq
  · exact lawfi_b f na oa qa pa ln cn lo co lq cq lc cc N U q cl c w (by omega) (by omega) hlz hlq (Lib.hid H) (Lib.hid HQ) (Lib.hid HS) (Lib.hid K) hq hq1
  by_cases hq2 : 6 < lc
  · exact lawfi_c f na oa qa pa ln cn lo co lq cq lc cc N U q cl c w (by omega) (by omega) hlz hlq (Lib.hid H) (Lib.hid HQ) (Lib.hid HS) (Lib.hid K) hq hq1 hq2
  by_cases HR : TreeP f ln lo N U
  case neg => exact lawfi_d f na oa qa pa ln cn lo co lq cq lc cc N U q cl c w (by omega) (by omega) hlz hlq (Lib.hid H) (Lib.hid HQ) (Lib.hid HS) (Lib.hid K) hq hq1 hq2 (Lib.hid HR)
  by_cases HSP : SharesP lq lo q U
  case neg => exact lawfi_e f na oa qa pa ln cn lo co lq cq lc cc N U q cl c w (by omega) (by omega) hlz hlq (Lib.hid H) (Lib.hid HQ) (Lib.hid HS) (Lib.hid K) hq hq1 hq2 (Lib.hid HR) (Lib.hid HSP)
  by_cases HP : OrdP cl lc
  case neg => exact lawfi_f f na oa qa pa ln cn lo co lq cq lc cc N U q cl c w (by omega) (by omega) hlz hlq (Lib.hid H) (Lib.hid HQ) (Lib.hid HS) (Lib.hid K) hq hq1 hq2 (Lib.hid HR) (Lib.hid HSP) (Lib.hid HP)
  cases hfb : fromB 0 3 c with
  | false => exact lawfi_g f na oa qa pa ln cn lo co lq cq lc cc N U q cl c w (by omega) (by omega) hlz hlq (Lib.hid H) (Lib.hid HQ) (Lib.hid HS) (Lib.hid K) hq hq1 hq2 (Lib.hid HR) (Lib.hid HSP) (Lib.hid HP) hfb
  | true => exact lawfi_h f na oa qa pa ln cn lo co lq cq lc cc N U q cl c w (by omega) (by omega) hlz hlq (Lib.hid H) (Lib.hid HQ) (Lib.hid HS) (Lib.hid K) hq hq1 hq2 (Lib.hid HR) (Lib.hid HSP) (Lib.hid HP) hfb
end Go.Kn
