/- Contracts of functions that the laws of this seat call, or the evaluator of closed calls and its runs. Conditions: as each theorem states them. -/
import Derived.Test.YtpfbfdcpibajoaaGreatDoorIY
set_option linter.unusedVariables false
set_option linter.unusedSimpArgs false
namespace Go.Kn
open Go Go.Proofs Go.RowKit

/-- whether a number is among the first of a list -/
def hasB (s : Nat → Int) (n : Int) : Nat → Bool
  | 0 => false
  | k + 1 => hasB s n k || decide (s k = n)
theorem hasB_iff {s : Nat → Int} {n : Int} : ∀ k, hasB s n k = true ↔ ∃ i, i < k ∧ s i = n
  | 0 => by simp [hasB]
  | k + 1 => by
    simp only [hasB, Bool.or_eq_true, decide_eq_true_eq, hasB_iff k]
    constructor
    · rintro (⟨i, h1, h2⟩ | h)
      · exact ⟨i, by omega, h2⟩
      · exact ⟨k, by omega, h⟩
    · rintro ⟨i, h1, h2⟩
      by_cases e : i = k
      · subst e; exact .inr h2
      · exact .inl ⟨i, by omega, h2⟩
theorem hasB_no {s : Nat → Int} {n : Int} {k : Nat} (h : hasB s n k = false) (hs : s k ≠ n) : hasB s n (k + 1) = false := by simp [hasB, h, hs]
theorem hasB_yes {s : Nat → Int} {n : Int} {m k : Nat} (hk : k < m) (hs : s k = n) : hasB s n m = true := (hasB_iff m).2 ⟨k, hk, hs⟩

set_option maxRecDepth 100000 in
set_option maxHeartbeats 2000000 in
theorem has_w (pa : Option Addr) (m c : Nat) (s : Nat → Int) (n : Int) (w : World) (hm : m ≤ 1000000) (HS : Hid (IntSl w pa m s)) :
    Calls Tryz.prog 36 #[.slice pa m c, .int .i64 n] w fun e w' => e = .returned (.bool (hasB s n m)) ∧ Below w.heap.size w w' := by
  go_enter Tryz.func36, Tryz.ntmps36
  go_wp2
  go_loopw [5] (fun ii wr => ∃ k : Nat, k ≤ m ∧ ii = .int .i64 (k : Int) ∧ hasB s n k = false ∧ Below w.heap.size w wr) (fun ii _ => m - (Go.RowKit.intOf ii).toNat)
  case atStart => exact ⟨0, Nat.zero_le _, rfl, rfl, Below.refl _ _⟩
  case round =>
    obtain ⟨k, hk, rfl, hno, hbr⟩ := hrel
    have HNO := Lib.hid hno
    have HBR := Lib.hid hbr
    clear hno hbr
    by_cases hlt : k < m
    · obtain ⟨A, O, rfl, hA, hN⟩ := HS.out.resolve_left (by omega)
      have y1 := (hN.below hA HBR.out) k hlt
      have n1 : (0 : Int) ≤ (k : Int) := by omega
      have n2 : (k : Int) < (m : Int) := by omega
      clear hN
      by_cases he : s k = n
      · have HE := Lib.hid (hasB_yes hlt he)
        go_wp2
        go_ret
        exact ⟨by rw [HE.out]; rfl, HBR.out⟩
      · have HE := Lib.hid (hasB_no HNO.out he)
        go_wp2
        go_roundw
        case rel => exact ⟨k + 1, by omega, by go_num, HE.out, HBR.out⟩
        case measure => simp [Go.RowKit.intOf]; omega
    · obtain rfl : k = m := by omega
      go_wp2
      go_ret
      exact ⟨by rw [HNO.out]; rfl, HBR.out⟩

theorem upL_up (N : Nat → N2) (k : Nat) : ∀ f n, upL (upN N k) f n = upL N f n
  | 0, 0 => rfl
  | 0, _ + 1 => rfl
  | _ + 1, 0 => rfl
  | f + 1, n + 1 => by
    show (n + 1) :: upL (upN N k) f (upN N k n).p.toNat = (n + 1) :: upL N f (N n).p.toNat
    rw [upN_p, upL_up N k f]
theorem path_up (N : Nat → N2) (k n : Nat) : path (upN N k) n = path N n := upL_up N k n n
theorem sumB_up (N : Nat → N2) (U : Nat → O3) (s : Nat → Int) (k m : Nat) : ∀ j, sumB (upN N k) U s m j = sumB N U s m j
  | 0 => rfl
  | j + 1 => by simp only [sumB, path_up]; rw [sumB_up N U s k m j]
theorem capN_up (f : Int) (N : Nat → N2) (k m : Nat) : capN f N m ≤ capN (upF f k) (upN N k) m := by
  cases m with
  | zero => simp only [capN, upF]; split <;> omega
  | succ j =>
    simp only [capN, upN]
    split
    · show (N j).c ≤ (N j).c + 1; omega
    · exact Int.le_refl _
theorem fit_up {f : Int} {ln lo : Nat} {N : Nat → N2} {U : Nat → O3} {s : Nat → Int} (h : FitP f ln lo N U s) (k : Nat) : FitP (upF f k) ln lo (upN N k) U s := fun m hm => by
  rw [sumB_up]; exact Int.le_trans (h m hm) (capN_up f N k m)
theorem upN_okS {f : Int} {ln lo : Nat} {N : Nat → N2} {U : Nat → O3} (H : TreeS f ln lo N U) {k : Nat} (hk : k ≤ ln) (hc : capN f N k < 200) : TreeS (upF f k) ln lo (upN N k) U := by
  have h := upN_ok H hk
  have hf := H.ff
  simp only [fromB, decide_eq_true_eq] at hf
  refine ⟨?_, H.l6, H.lo1, H.lo2, fun i hi => ?_, H.ok⟩
  · have := h.ff
    simp only [fromB, decide_eq_true_eq]
    unfold upF at *
    split
    · rename_i e; subst e; simp only [capN] at hc; omega
    · omega
  · have h2 := h.nk i hi
    have h3 := tree_ns H hi
    simp only [nodeB, fromB, Bool.and_eq_true, decide_eq_true_eq]
    refine ⟨h2.1, h2.2.1, ?_⟩
    unfold upN
    split
    · rename_i e
      show (N i).c + 1 ≤ 200
      subst e
      simp only [capN] at hc
      omega
    · omega
theorem tot_up {f : Int} {ln lo : Nat} {N : Nat → N2} {U : Nat → O3} {t : Nat → Int} {X : Nat → Nat → Int} (HT : TreeS f ln lo N U) (hx : WS f ln lo N U t X) {k : Nat} (hk : k ≤ ln) : totT U t 0 3 lo ≤ totT U (X k) 0 3 lo := by
  have hv := hx.own.vd (vd_zero HT.w)
  exact tot_le (upN_ok HT hk) (hx.ups k hk) hv.bd (fit_up hv.fit k)
theorem getD_el {L : List Nat} {j : Nat} (h : j < L.length) : L.getD j 0 = L[j] := by simp [List.getD, h]
theorem has_WL {t : Nat → Int} {X : Nat → Nat → Int} {i k ln m : Nat} (hk : k ≤ ln) (hm : m = (WL i t X (ln + 1)).length) : hasB (fun j => (((WL i t X (ln + 1)).getD j 0 : Nat) : Int)) (k : Int) m = decide (t i < X k i) := by
  have h1 := hasB_iff (s := fun j => (((WL i t X (ln + 1)).getD j 0 : Nat) : Int)) (n := (k : Int)) m
  have h2 := WL_mem (i := i) (t := t) (X := X) (n := k) (ln + 1)
  have h3 : (∃ j, j < m ∧ (((WL i t X (ln + 1)).getD j 0 : Nat) : Int) = (k : Int)) ↔ k ∈ WL i t X (ln + 1) := by
    constructor
    · rintro ⟨j, h, e⟩
      have hj : j < (WL i t X (ln + 1)).length := by omega
      have e2 : (WL i t X (ln + 1)).getD j 0 = k := by omega
      rw [← e2, getD_el hj]
      exact List.getElem_mem hj
    · intro h
      obtain ⟨j, hj, e⟩ := List.getElem_of_mem h
      exact ⟨j, by omega, by rw [getD_el hj, e]⟩
  rw [Bool.eq_iff_iff, h1, h3, h2, decide_eq_true_eq]
  exact ⟨fun h => h.2, fun h => ⟨by omega, h⟩⟩
end Go.Kn

namespace Go.Kn
open Go Go.Proofs Go.RowKit

set_option maxRecDepth 100000 in
set_option maxHeartbeats 4000000 in
theorem lawwd_a (f : Int) (na oa : Option Addr) (ln cn lo co : Nat) (N : Nat → N2) (U : Nat → O3) (z y : Int) (w : World) (hls : ln ≤ maxLen) (hlt : lo ≤ maxLen) (H : Hid (Tr7 w na oa ln lo N U)) (K : Hid KnownOk) (hq : ¬ (ln ≤ 8 ∧ lo ≤ 10)) :
    Calls Tryz.prog 7 #[.agg #[.int .i64 f, .slice na ln cn, .slice oa lo co], .int .i64 z, .int .i64 y] w
      fun e w' => e = .returned (.bool true) ∧ Below w.heap.size w w' := by
  have hsh : decide (ln ≤ 8 ∧ lo ≤ 10) = false := decide_eq_false hq
  have BX := Lib.hid (fun (w1 : World) (hb : Below (w.alloc (.cells #[.int .i64 f, .slice na ln cn, .slice oa lo co] 25)).heap.size (w.alloc (.cells #[.int .i64 f, .slice na ln cn, .slice oa lo co] 25)) w1) => box7 hb)
  have HN : Hid (∀ w1, Below (w.alloc (.cells #[.int .i64 f, .slice na ln cn, .slice oa lo co] 25)).heap.size (w.alloc (.cells #[.int .i64 f, .slice na ln cn, .slice oa lo co] 25)) w1 → Hid (Tr7 w1 na oa ln lo N U)) := Lib.hid fun w1 h => Lib.hid (H.out.below (below_al h))
  have hb : Below (w.alloc (.cells #[.int .i64 f, .slice na ln cn, .slice oa lo co] 25)).heap.size (w.alloc (.cells #[.int .i64 f, .slice na ln cn, .slice oa lo co] 25)) (w.alloc (.cells #[.int .i64 f, .slice na ln cn, .slice oa lo co] 25)) := Below.refl _ _
  obtain ⟨x1, x2, x3, x4⟩ := BX.out _ hb
  clear H
  go_enter Tryz.func7, Tryz.ntmps7
  go_wp2_with (first
    | (go_at_call 13; refine (short_w _ _ _ _ _ _ _ _ hls hlt).mono ?_; rw [hsh]; rintro e wl ⟨rfl, hv⟩; (try replace hbs := hbs.trans (hv.mono hbs.size)); (try replace hba := hba.trans (hv.mono hba.size)); (try replace hbc := hbc.trans (hv.mono hbc.size)); (try replace hbd := hbd.trans (hv.mono hbd.size)); replace hb := hb.trans (hv.mono hb.size); clear x1 x2 x3 x4; obtain ⟨x1, x2, x3, x4⟩ := BX.out _ hb)
    | (go_at_call 14; refine (K.out _).mono ?_; rintro e wl ⟨rfl, hv⟩; (try replace hbs := hbs.trans (hv.mono hbs.size)); (try replace hba := hba.trans (hv.mono hba.size)); (try replace hbc := hbc.trans (hv.mono hbc.size)); (try replace hbd := hbd.trans (hv.mono hbd.size)); replace hb := hb.trans (hv.mono hb.size); clear x1 x2 x3 x4; obtain ⟨x1, x2, x3, x4⟩ := BX.out _ hb))
  go_ret
  exact ⟨rfl, below_al hb⟩

set_option maxRecDepth 100000 in
set_option maxHeartbeats 4000000 in
theorem lawwd_b (f : Int) (na oa : Option Addr) (ln cn lo co : Nat) (N : Nat → N2) (U : Nat → O3) (z y : Int) (w : World) (hls : ln ≤ 1000000) (hlt : lo ≤ 1000000) (H : Hid (Tr7 w na oa ln lo N U)) (K : Hid KnownOk) (hq : ln ≤ 8 ∧ lo ≤ 10) (HR : Hid (¬ TreeS f ln lo N U))  :
    Calls Tryz.prog 7 #[.agg #[.int .i64 f, .slice na ln cn, .slice oa lo co], .int .i64 z, .int .i64 y] w
      fun e w' => e = .returned (.bool true) ∧ Below w.heap.size w w' := by
  have hsh : decide (ln ≤ 8 ∧ lo ≤ 10) = true := decide_eq_true hq
  have BX := Lib.hid (fun (w1 : World) (hb : Below (w.alloc (.cells #[.int .i64 f, .slice na ln cn, .slice oa lo co] 25)).heap.size (w.alloc (.cells #[.int .i64 f, .slice na ln cn, .slice oa lo co] 25)) w1) => box7 hb)
  have HN : Hid (∀ w1, Below (w.alloc (.cells #[.int .i64 f, .slice na ln cn, .slice oa lo co] 25)).heap.size (w.alloc (.cells #[.int .i64 f, .slice na ln cn, .slice oa lo co] 25)) w1 → Hid (Tr7 w1 na oa ln lo N U)) := Lib.hid fun w1 h => Lib.hid (H.out.below (below_al h))
  have hb : Below (w.alloc (.cells #[.int .i64 f, .slice na ln cn, .slice oa lo co] 25)).heap.size (w.alloc (.cells #[.int .i64 f, .slice na ln cn, .slice oa lo co] 25)) (w.alloc (.cells #[.int .i64 f, .slice na ln cn, .slice oa lo co] 25)) := Below.refl _ _
  obtain ⟨x1, x2, x3, x4⟩ := BX.out _ hb
  clear H
  go_enter Tryz.func7, Tryz.ntmps7
  go_wp2_with (first
    | (go_at_call 13; refine (short_w _ _ _ _ _ _ _ _ (by unfold maxLen; omega) (by unfold maxLen; omega)).mono ?_; rw [hsh]; rintro e wl ⟨rfl, hv⟩; (try replace hbs := hbs.trans (hv.mono hbs.size)); (try replace hba := hba.trans (hv.mono hba.size)); (try replace hbc := hbc.trans (hv.mono hbc.size)); (try replace hbd := hbd.trans (hv.mono hbd.size)); replace hb := hb.trans (hv.mono hb.size); clear x1 x2 x3 x4; obtain ⟨x1, x2, x3, x4⟩ := BX.out _ hb)
    | (go_at_call 17; refine (tree_w _ _ _ _ _ _ _ N U _ hls hlt (HN.out _ hb)).mono ?_; rintro e wl ⟨⟨rb, rfl, hrb⟩, hv⟩; obtain rfl : rb = false := (by cases rb <;> first | rfl | exact (HR.out (hrb.1 rfl)).elim); clear hrb; (try replace hbs := hbs.trans (hv.mono hbs.size)); (try replace hba := hba.trans (hv.mono hba.size)); (try replace hbc := hbc.trans (hv.mono hbc.size)); (try replace hbd := hbd.trans (hv.mono hbd.size)); replace hb := hb.trans (hv.mono hb.size); clear x1 x2 x3 x4; obtain ⟨x1, x2, x3, x4⟩ := BX.out _ hb)
    | (go_at_call 14; refine (K.out _).mono ?_; rintro e wl ⟨rfl, hv⟩; (try replace hbs := hbs.trans (hv.mono hbs.size)); (try replace hba := hba.trans (hv.mono hba.size)); (try replace hbc := hbc.trans (hv.mono hbc.size)); (try replace hbd := hbd.trans (hv.mono hbd.size)); replace hb := hb.trans (hv.mono hb.size); clear x1 x2 x3 x4; obtain ⟨x1, x2, x3, x4⟩ := BX.out _ hb))
  go_ret
  exact ⟨rfl, below_al hb⟩

set_option maxRecDepth 100000 in
set_option maxHeartbeats 4000000 in
theorem lawwd_c (f : Int) (na oa : Option Addr) (ln cn lo co : Nat) (N : Nat → N2) (U : Nat → O3) (z y : Int) (w : World) (hls : ln ≤ 1000000) (hlt : lo ≤ 1000000) (H : Hid (Tr7 w na oa ln lo N U)) (K : Hid KnownOk) (hq : ln ≤ 8 ∧ lo ≤ 10) (HR : Hid (TreeS f ln lo N U)) (HO : Hid (fromB 0 ((lo : Int) - 1) z = false)) :
    Calls Tryz.prog 7 #[.agg #[.int .i64 f, .slice na ln cn, .slice oa lo co], .int .i64 z, .int .i64 y] w
      fun e w' => e = .returned (.bool true) ∧ Below w.heap.size w w' := by
  have hsh : decide (ln ≤ 8 ∧ lo ≤ 10) = true := decide_eq_true hq
  have BX := Lib.hid (fun (w1 : World) (hb : Below (w.alloc (.cells #[.int .i64 f, .slice na ln cn, .slice oa lo co] 25)).heap.size (w.alloc (.cells #[.int .i64 f, .slice na ln cn, .slice oa lo co] 25)) w1) => box7 hb)
  have HN : Hid (∀ w1, Below (w.alloc (.cells #[.int .i64 f, .slice na ln cn, .slice oa lo co] 25)).heap.size (w.alloc (.cells #[.int .i64 f, .slice na ln cn, .slice oa lo co] 25)) w1 → Hid (Tr7 w1 na oa ln lo N U)) := Lib.hid fun w1 h => Lib.hid (H.out.below (below_al h))
  have hb : Below (w.alloc (.cells #[.int .i64 f, .slice na ln cn, .slice oa lo co] 25)).heap.size (w.alloc (.cells #[.int .i64 f, .slice na ln cn, .slice oa lo co] 25)) (w.alloc (.cells #[.int .i64 f, .slice na ln cn, .slice oa lo co] 25)) := Below.refl _ _
  obtain ⟨x1, x2, x3, x4⟩ := BX.out _ hb
  clear H
  go_enter Tryz.func7, Tryz.ntmps7
  go_wp2_with (first
    | (go_at_call 13; refine (short_w _ _ _ _ _ _ _ _ (by unfold maxLen; omega) (by unfold maxLen; omega)).mono ?_; rw [hsh]; rintro e wl ⟨rfl, hv⟩; (try replace hbs := hbs.trans (hv.mono hbs.size)); (try replace hba := hba.trans (hv.mono hba.size)); (try replace hbc := hbc.trans (hv.mono hbc.size)); (try replace hbd := hbd.trans (hv.mono hbd.size)); replace hb := hb.trans (hv.mono hb.size); clear x1 x2 x3 x4; obtain ⟨x1, x2, x3, x4⟩ := BX.out _ hb)
    | (go_at_call 17; refine (tree_w _ _ _ _ _ _ _ N U _ hls hlt (HN.out _ hb)).mono ?_; rintro e wl ⟨⟨rb, rfl, hrb⟩, hv⟩; obtain rfl : rb = true := hrb.2 HR.out; clear hrb; (try replace hbs := hbs.trans (hv.mono hbs.size)); (try replace hba := hba.trans (hv.mono hba.size)); (try replace hbc := hbc.trans (hv.mono hbc.size)); (try replace hbd := hbd.trans (hv.mono hbd.size)); replace hb := hb.trans (hv.mono hb.size); clear x1 x2 x3 x4; obtain ⟨x1, x2, x3, x4⟩ := BX.out _ hb)
    | (go_at_call 33; refine (outlet_w _ _ _ _ _ _ _ _ _ hlt).mono ?_; rw [HO.out]; rintro e wl ⟨rfl, hv⟩; (try replace hbs := hbs.trans (hv.mono hbs.size)); (try replace hba := hba.trans (hv.mono hba.size)); (try replace hbc := hbc.trans (hv.mono hbc.size)); (try replace hbd := hbd.trans (hv.mono hbd.size)); replace hb := hb.trans (hv.mono hb.size); clear x1 x2 x3 x4; obtain ⟨x1, x2, x3, x4⟩ := BX.out _ hb)
    | (go_at_call 14; refine (K.out _).mono ?_; rintro e wl ⟨rfl, hv⟩; (try replace hbs := hbs.trans (hv.mono hbs.size)); (try replace hba := hba.trans (hv.mono hba.size)); (try replace hbc := hbc.trans (hv.mono hbc.size)); (try replace hbd := hbd.trans (hv.mono hbd.size)); replace hb := hb.trans (hv.mono hb.size); clear x1 x2 x3 x4; obtain ⟨x1, x2, x3, x4⟩ := BX.out _ hb))
  go_ret
  exact ⟨rfl, below_al hb⟩

set_option maxRecDepth 100000 in
set_option maxHeartbeats 4000000 in
theorem lawwd_d (f : Int) (na oa : Option Addr) (ln cn lo co : Nat) (N : Nat → N2) (U : Nat → O3) (z y : Int) (w : World) (hls : ln ≤ 1000000) (hlt : lo ≤ 1000000) (H : Hid (Tr7 w na oa ln lo N U)) (K : Hid KnownOk) (hq : ln ≤ 8 ∧ lo ≤ 10) (HR : Hid (TreeS f ln lo N U)) (HO : Hid (fromB 0 ((lo : Int) - 1) z = true)) (HM : Hid (fromB 0 (ln : Int) y = false)) :
    Calls Tryz.prog 7 #[.agg #[.int .i64 f, .slice na ln cn, .slice oa lo co], .int .i64 z, .int .i64 y] w
      fun e w' => e = .returned (.bool true) ∧ Below w.heap.size w w' := by
  have hsh : decide (ln ≤ 8 ∧ lo ≤ 10) = true := decide_eq_true hq
  have BX := Lib.hid (fun (w1 : World) (hb : Below (w.alloc (.cells #[.int .i64 f, .slice na ln cn, .slice oa lo co] 25)).heap.size (w.alloc (.cells #[.int .i64 f, .slice na ln cn, .slice oa lo co] 25)) w1) => box7 hb)
  have HN : Hid (∀ w1, Below (w.alloc (.cells #[.int .i64 f, .slice na ln cn, .slice oa lo co] 25)).heap.size (w.alloc (.cells #[.int .i64 f, .slice na ln cn, .slice oa lo co] 25)) w1 → Hid (Tr7 w1 na oa ln lo N U)) := Lib.hid fun w1 h => Lib.hid (H.out.below (below_al h))
  have hb : Below (w.alloc (.cells #[.int .i64 f, .slice na ln cn, .slice oa lo co] 25)).heap.size (w.alloc (.cells #[.int .i64 f, .slice na ln cn, .slice oa lo co] 25)) (w.alloc (.cells #[.int .i64 f, .slice na ln cn, .slice oa lo co] 25)) := Below.refl _ _
  obtain ⟨x1, x2, x3, x4⟩ := BX.out _ hb
  clear H
  go_enter Tryz.func7, Tryz.ntmps7
  go_wp2_with (first
    | (go_at_call 13; refine (short_w _ _ _ _ _ _ _ _ (by unfold maxLen; omega) (by unfold maxLen; omega)).mono ?_; rw [hsh]; rintro e wl ⟨rfl, hv⟩; (try replace hbs := hbs.trans (hv.mono hbs.size)); (try replace hba := hba.trans (hv.mono hba.size)); (try replace hbc := hbc.trans (hv.mono hbc.size)); (try replace hbd := hbd.trans (hv.mono hbd.size)); replace hb := hb.trans (hv.mono hb.size); clear x1 x2 x3 x4; obtain ⟨x1, x2, x3, x4⟩ := BX.out _ hb)
    | (go_at_call 17; refine (tree_w _ _ _ _ _ _ _ N U _ hls hlt (HN.out _ hb)).mono ?_; rintro e wl ⟨⟨rb, rfl, hrb⟩, hv⟩; obtain rfl : rb = true := hrb.2 HR.out; clear hrb; (try replace hbs := hbs.trans (hv.mono hbs.size)); (try replace hba := hba.trans (hv.mono hba.size)); (try replace hbc := hbc.trans (hv.mono hbc.size)); (try replace hbd := hbd.trans (hv.mono hbd.size)); replace hb := hb.trans (hv.mono hb.size); clear x1 x2 x3 x4; obtain ⟨x1, x2, x3, x4⟩ := BX.out _ hb)
    | (go_at_call 33; refine (outlet_w _ _ _ _ _ _ _ _ _ hlt).mono ?_; rw [HO.out]; rintro e wl ⟨rfl, hv⟩; (try replace hbs := hbs.trans (hv.mono hbs.size)); (try replace hba := hba.trans (hv.mono hba.size)); (try replace hbc := hbc.trans (hv.mono hbc.size)); (try replace hbd := hbd.trans (hv.mono hbd.size)); replace hb := hb.trans (hv.mono hb.size); clear x1 x2 x3 x4; obtain ⟨x1, x2, x3, x4⟩ := BX.out _ hb)
    | (go_at_call 27; refine (node_w _ _ _ _ _ _ _ _ _).mono ?_; rw [HM.out]; rintro e wl ⟨rfl, hv⟩; (try replace hbs := hbs.trans (hv.mono hbs.size)); (try replace hba := hba.trans (hv.mono hba.size)); (try replace hbc := hbc.trans (hv.mono hbc.size)); (try replace hbd := hbd.trans (hv.mono hbd.size)); replace hb := hb.trans (hv.mono hb.size); clear x1 x2 x3 x4; obtain ⟨x1, x2, x3, x4⟩ := BX.out _ hb)
    | (go_at_call 14; refine (K.out _).mono ?_; rintro e wl ⟨rfl, hv⟩; (try replace hbs := hbs.trans (hv.mono hbs.size)); (try replace hba := hba.trans (hv.mono hba.size)); (try replace hbc := hbc.trans (hv.mono hbc.size)); (try replace hbd := hbd.trans (hv.mono hbd.size)); replace hb := hb.trans (hv.mono hb.size); clear x1 x2 x3 x4; obtain ⟨x1, x2, x3, x4⟩ := BX.out _ hb))
  go_ret
  exact ⟨rfl, below_al hb⟩

set_option maxRecDepth 100000 in
set_option maxHeartbeats 4000000 in
theorem lawwd_e (f : Int) (na oa : Option Addr) (ln cn lo co : Nat) (N : Nat → N2) (U : Nat → O3) (i k : Nat) (w : World) (hls : ln ≤ 1000000) (hlt : lo ≤ 1000000) (H : Hid (Tr7 w na oa ln lo N U)) (K : Hid KnownOk) (hq : ln ≤ 8 ∧ lo ≤ 10) (HR : Hid (TreeS f ln lo N U)) (hi : i < lo) (hk : k ≤ ln) (hc : (200 : Int) ≤ capN f N k) :
    Calls Tryz.prog 7 #[.agg #[.int .i64 f, .slice na ln cn, .slice oa lo co], .int .i64 (i : Int), .int .i64 (k : Int)] w
      fun e w' => e = .returned (.bool true) ∧ Below w.heap.size w w' := by
  have hsh : decide (ln ≤ 8 ∧ lo ≤ 10) = true := decide_eq_true hq
  have hoz : fromB 0 ((lo : Int) - 1) (i : Int) = true := by simp only [fromB, decide_eq_true_eq]; omega
  have hoy : fromB 0 (ln : Int) (k : Int) = true := by simp only [fromB, decide_eq_true_eq]; omega
  have HO := Lib.hid hoz
  have HM := Lib.hid hoy
  clear hoz hoy
  have BX := Lib.hid (fun (w1 : World) (hb : Below (w.alloc (.cells #[.int .i64 f, .slice na ln cn, .slice oa lo co] 25)).heap.size (w.alloc (.cells #[.int .i64 f, .slice na ln cn, .slice oa lo co] 25)) w1) => box7 hb)
  have HN : Hid (∀ w1, Below (w.alloc (.cells #[.int .i64 f, .slice na ln cn, .slice oa lo co] 25)).heap.size (w.alloc (.cells #[.int .i64 f, .slice na ln cn, .slice oa lo co] 25)) w1 → Hid (Tr7 w1 na oa ln lo N U)) := Lib.hid fun w1 h => Lib.hid (H.out.below (below_al h))
  have hb : Below (w.alloc (.cells #[.int .i64 f, .slice na ln cn, .slice oa lo co] 25)).heap.size (w.alloc (.cells #[.int .i64 f, .slice na ln cn, .slice oa lo co] 25)) (w.alloc (.cells #[.int .i64 f, .slice na ln cn, .slice oa lo co] 25)) := Below.refl _ _
  obtain ⟨x1, x2, x3, x4⟩ := BX.out _ hb
  clear H
  go_enter Tryz.func7, Tryz.ntmps7
  go_wp2_with (first
    | (go_at_call 13; refine (short_w _ _ _ _ _ _ _ _ (by unfold maxLen; omega) (by unfold maxLen; omega)).mono ?_; rw [hsh]; rintro e wl ⟨rfl, hv⟩; (try replace hbs := hbs.trans (hv.mono hbs.size)); (try replace hba := hba.trans (hv.mono hba.size)); (try replace hbc := hbc.trans (hv.mono hbc.size)); (try replace hbd := hbd.trans (hv.mono hbd.size)); replace hb := hb.trans (hv.mono hb.size); clear x1 x2 x3 x4; obtain ⟨x1, x2, x3, x4⟩ := BX.out _ hb)
    | (go_at_call 17; refine (tree_w _ _ _ _ _ _ _ N U _ hls hlt (HN.out _ hb)).mono ?_; rintro e wl ⟨⟨rb, rfl, hrb⟩, hv⟩; obtain rfl : rb = true := hrb.2 HR.out; clear hrb; (try replace hbs := hbs.trans (hv.mono hbs.size)); (try replace hba := hba.trans (hv.mono hba.size)); (try replace hbc := hbc.trans (hv.mono hbc.size)); (try replace hbd := hbd.trans (hv.mono hbd.size)); replace hb := hb.trans (hv.mono hb.size); clear x1 x2 x3 x4; obtain ⟨x1, x2, x3, x4⟩ := BX.out _ hb)
    | (go_at_call 33; refine (outlet_w _ _ _ _ _ _ _ _ _ hlt).mono ?_; rw [HO.out]; rintro e wl ⟨rfl, hv⟩; (try replace hbs := hbs.trans (hv.mono hbs.size)); (try replace hba := hba.trans (hv.mono hba.size)); (try replace hbc := hbc.trans (hv.mono hbc.size)); (try replace hbd := hbd.trans (hv.mono hbd.size)); replace hb := hb.trans (hv.mono hb.size); clear x1 x2 x3 x4; obtain ⟨x1, x2, x3, x4⟩ := BX.out _ hb)
    | (go_at_call 27; refine (node_w _ _ _ _ _ _ _ _ _).mono ?_; rw [HM.out]; rintro e wl ⟨rfl, hv⟩; (try replace hbs := hbs.trans (hv.mono hbs.size)); (try replace hba := hba.trans (hv.mono hba.size)); (try replace hbc := hbc.trans (hv.mono hbc.size)); (try replace hbd := hbd.trans (hv.mono hbd.size)); replace hb := hb.trans (hv.mono hb.size); clear x1 x2 x3 x4; obtain ⟨x1, x2, x3, x4⟩ := BX.out _ hb)
    | (go_at_call 28; refine (rcap_w f na oa ln cn lo co k N U _ hk (by omega) (HN.out _ hb)).mono ?_; rintro e wl ⟨rfl, hv⟩; (try replace hbs := hbs.trans (hv.mono hbs.size)); (try replace hba := hba.trans (hv.mono hba.size)); (try replace hbc := hbc.trans (hv.mono hbc.size)); (try replace hbd := hbd.trans (hv.mono hbd.size)); replace hb := hb.trans (hv.mono hb.size); clear x1 x2 x3 x4; obtain ⟨x1, x2, x3, x4⟩ := BX.out _ hb)
    | (go_at_call 14; refine (K.out _).mono ?_; rintro e wl ⟨rfl, hv⟩; (try replace hbs := hbs.trans (hv.mono hbs.size)); (try replace hba := hba.trans (hv.mono hba.size)); (try replace hbc := hbc.trans (hv.mono hbc.size)); (try replace hbd := hbd.trans (hv.mono hbd.size)); replace hb := hb.trans (hv.mono hb.size); clear x1 x2 x3 x4; obtain ⟨x1, x2, x3, x4⟩ := BX.out _ hb))
  go_ret
  exact ⟨rfl, below_al hb⟩

set_option maxRecDepth 100000 in
set_option maxHeartbeats 4000000 in
theorem lawwd_f (f : Int) (na oa : Option Addr) (ln cn lo co : Nat) (N : Nat → N2) (U : Nat → O3) (i k : Nat) (w : World) (hls : ln ≤ 1000000) (hlt : lo ≤ 1000000) (H : Hid (Tr7 w na oa ln lo N U)) (K : Hid KnownOk) (hq : ln ≤ 8 ∧ lo ≤ 10) (HR : Hid (TreeS f ln lo N U)) (hi : i < lo) (hk : k ≤ ln) (hc : ¬ (200 : Int) ≤ capN f N k) (t : Nat → Int) (X : Nat → Nat → Int) (HX : Hid (WS f ln lo N U t X)) (hg : t i < X k i) :
    Calls Tryz.prog 7 #[.agg #[.int .i64 f, .slice na ln cn, .slice oa lo co], .int .i64 (i : Int), .int .i64 (k : Int)] w
      fun e w' => e = .returned (.bool true) ∧ Below w.heap.size w w' := by
  have hsh : decide (ln ≤ 8 ∧ lo ≤ 10) = true := decide_eq_true hq
  have hoz : fromB 0 ((lo : Int) - 1) (i : Int) = true := by simp only [fromB, decide_eq_true_eq]; omega
  have hoy : fromB 0 (ln : Int) (k : Int) = true := by simp only [fromB, decide_eq_true_eq]; omega
  have HO := Lib.hid hoz
  have HM := Lib.hid hoy
  clear hoz hoy
  have hmx : Tryz.prog.follows .mixedOrders = true := by kernel_rfl
  have hcap : ¬ (200 : Int) ≤ capN f N k := hc
  have HRW : Hid (TreeS (upF f k) ln lo (upN N k) U) := Lib.hid (upN_okS HR.out hk (by omega))
  have HS1 : Hid (SharesP lo lo t U) := Lib.hid (sharesP_of (HX.out.own.vd (vd_zero HR.out.w)))
  have HS2 : Hid (SharesP lo lo (X k) U) := Lib.hid (sharesP_of ((HX.out.ups k hk).vd (vd_zero HRW.out.w)))
  have HT1 : Hid (∀ i, i < lo → 0 ≤ t i ∧ t i ≤ 200) := Lib.hid (shares200 HR.out.w HX.out.own)
  have HT2 : Hid (∀ i, i < lo → 0 ≤ X k i ∧ X k i ≤ 200) := Lib.hid (shares200 HRW.out.w (HX.out.ups k hk))
  have q1 := HR.out.l6
  have q2 := HR.out.lo2
  have HHG : Hid (decide (t i < X k i) = true) := Lib.hid (by simp [hg])
  have HG := Lib.hid hg
  clear hg
  have BX := Lib.hid (fun (w1 : World) (hb : Below (w.alloc (.cells #[.int .i64 f, .slice na ln cn, .slice oa lo co] 25)).heap.size (w.alloc (.cells #[.int .i64 f, .slice na ln cn, .slice oa lo co] 25)) w1) => box7 hb)
  have HN : Hid (∀ w1, Below (w.alloc (.cells #[.int .i64 f, .slice na ln cn, .slice oa lo co] 25)).heap.size (w.alloc (.cells #[.int .i64 f, .slice na ln cn, .slice oa lo co] 25)) w1 → Hid (Tr7 w1 na oa ln lo N U)) := Lib.hid fun w1 h => Lib.hid (H.out.below (below_al h))
  have hb : Below (w.alloc (.cells #[.int .i64 f, .slice na ln cn, .slice oa lo co] 25)).heap.size (w.alloc (.cells #[.int .i64 f, .slice na ln cn, .slice oa lo co] 25)) (w.alloc (.cells #[.int .i64 f, .slice na ln cn, .slice oa lo co] 25)) := Below.refl _ _
  obtain ⟨x1, x2, x3, x4⟩ := BX.out _ hb
  clear H
  go_enter Tryz.func7, Tryz.ntmps7
  go_wp2_with (first
    | (go_at_call 13; refine (short_w _ _ _ _ _ _ _ _ (by unfold maxLen; omega) (by unfold maxLen; omega)).mono ?_; rw [hsh]; rintro e wl ⟨rfl, hv⟩; (try replace hbs := hbs.trans (hv.mono hbs.size)); (try replace hba := hba.trans (hv.mono hba.size)); (try replace hbc := hbc.trans (hv.mono hbc.size)); (try replace hbd := hbd.trans (hv.mono hbd.size)); replace hb := hb.trans (hv.mono hb.size); clear x1 x2 x3 x4; obtain ⟨x1, x2, x3, x4⟩ := BX.out _ hb)
    | (go_at_call 17; refine (tree_w _ _ _ _ _ _ _ N U _ hls hlt (HN.out _ hb)).mono ?_; rintro e wl ⟨⟨rb, rfl, hrb⟩, hv⟩; obtain rfl : rb = true := hrb.2 HR.out; clear hrb; (try replace hbs := hbs.trans (hv.mono hbs.size)); (try replace hba := hba.trans (hv.mono hba.size)); (try replace hbc := hbc.trans (hv.mono hbc.size)); (try replace hbd := hbd.trans (hv.mono hbd.size)); replace hb := hb.trans (hv.mono hb.size); clear x1 x2 x3 x4; obtain ⟨x1, x2, x3, x4⟩ := BX.out _ hb)
    | (go_at_call 33; refine (outlet_w _ _ _ _ _ _ _ _ _ hlt).mono ?_; rw [HO.out]; rintro e wl ⟨rfl, hv⟩; (try replace hbs := hbs.trans (hv.mono hbs.size)); (try replace hba := hba.trans (hv.mono hba.size)); (try replace hbc := hbc.trans (hv.mono hbc.size)); (try replace hbd := hbd.trans (hv.mono hbd.size)); replace hb := hb.trans (hv.mono hb.size); clear x1 x2 x3 x4; obtain ⟨x1, x2, x3, x4⟩ := BX.out _ hb)
    | (go_at_call 27; refine (node_w _ _ _ _ _ _ _ _ _).mono ?_; rw [HM.out]; rintro e wl ⟨rfl, hv⟩; (try replace hbs := hbs.trans (hv.mono hbs.size)); (try replace hba := hba.trans (hv.mono hba.size)); (try replace hbc := hbc.trans (hv.mono hbc.size)); (try replace hbd := hbd.trans (hv.mono hbd.size)); replace hb := hb.trans (hv.mono hb.size); clear x1 x2 x3 x4; obtain ⟨x1, x2, x3, x4⟩ := BX.out _ hb)
    | (go_at_call 28; refine (rcap_w f na oa ln cn lo co k N U _ hk (by omega) (HN.out _ hb)).mono ?_; rintro e wl ⟨rfl, hv⟩; (try replace hbs := hbs.trans (hv.mono hbs.size)); (try replace hba := hba.trans (hv.mono hba.size)); (try replace hbc := hbc.trans (hv.mono hbc.size)); (try replace hbd := hbd.trans (hv.mono hbd.size)); replace hb := hb.trans (hv.mono hb.size); clear x1 x2 x3 x4; obtain ⟨x1, x2, x3, x4⟩ := BX.out _ hb)
    | (go_at_call 31; refine (widens_w f na oa ln cn lo co i N U t X _ hi HR (HN.out _ hb) HX).mono ?_; rintro e wl ⟨⟨v, m3, rfl, hm3, how⟩, hv⟩; (try replace hbs := hbs.trans (hv.mono hbs.size)); (try replace hba := hba.trans (hv.mono hba.size)); (try replace hbc := hbc.trans (hv.mono hbc.size)); (try replace hbd := hbd.trans (hv.mono hbd.size)); replace hb := hb.trans (hv.mono hb.size); clear x1 x2 x3 x4; obtain ⟨x1, x2, x3, x4⟩ := BX.out _ hb; obtain ⟨pw, cw, rfl, hcs⟩ := cutSl how; have hba := Below.refl wl.heap.size wl; have HM3 := Lib.hid hm3; have hm4 : ¬ (ln : Int) + 1 < (m3 : Int) := (by have := WL_len (i := i) (t := t) (X := X) (ln + 1); omega); have HWS : Hid (∀ w2, Below wl.heap.size wl w2 → IntSl w2 pw m3 (fun j => (((WL i t X (ln + 1)).getD j 0 : Nat) : Int))) := Lib.hid fun w2 h => (by have h3 := hcs.below h; exact h3); clear how hcs hm3)
    | (go_at_call_of 20 nb; refine (shares_w _ nb oa ln cb lo co (upN N k) U _ HRW HTR).mono ?_; rintro e wl ⟨⟨sb, cs2, t2, rfl, hsl, ho⟩, hv⟩; (try replace hbs := hbs.trans (hv.mono hbs.size)); (try replace hba := hba.trans (hv.mono hba.size)); (try replace hbc := hbc.trans (hv.mono hbc.size)); (try replace hbd := hbd.trans (hv.mono hbd.size)); replace hb := hb.trans (hv.mono hb.size); clear x1 x2 x3 x4; obtain ⟨x1, x2, x3, x4⟩ := BX.out _ hb; obtain rfl : t2 = X k := ho.det (HX.out.ups k hk); have hbc := Below.refl wl.heap.size wl; have HAS : Hid (∀ w2, Below wl.heap.size wl w2 → Hid (IntSl w2 sb lo (X k))) := Lib.hid fun w2 h => (by have h3 := hsl.below h; exact Lib.hid h3); clear hsl ho)
    | (go_at_call 20; refine (shares_w f na oa ln cn lo co N U _ HR (HN.out _ hb)).mono ?_; rintro e wl ⟨⟨sa, cs, t', rfl, hsl, ho⟩, hv⟩; (try replace hbs := hbs.trans (hv.mono hbs.size)); (try replace hba := hba.trans (hv.mono hba.size)); (try replace hbc := hbc.trans (hv.mono hbc.size)); (try replace hbd := hbd.trans (hv.mono hbd.size)); replace hb := hb.trans (hv.mono hb.size); clear x1 x2 x3 x4; obtain ⟨x1, x2, x3, x4⟩ := BX.out _ hb; obtain rfl : t' = t := ho.det HX.out.own; have hbs := Below.refl wl.heap.size wl; have HSS : Hid (∀ w2, Below wl.heap.size wl w2 → Hid (IntSl w2 sa lo t')) := Lib.hid fun w2 h => (by have h3 := hsl.below h; exact Lib.hid h3); clear hsl ho)
    | (go_at_call 35; refine (rwider_w f na oa ln cn lo co k N U _ hk HR (HN.out _ hb)).mono ?_; rintro e wl ⟨⟨nb, cb, rfl, htr⟩, hv⟩; (try replace hbs := hbs.trans (hv.mono hbs.size)); (try replace hba := hba.trans (hv.mono hba.size)); (try replace hbc := hbc.trans (hv.mono hbc.size)); (try replace hbd := hbd.trans (hv.mono hbd.size)); replace hb := hb.trans (hv.mono hb.size); clear x1 x2 x3 x4; obtain ⟨x1, x2, x3, x4⟩ := BX.out _ hb; have HTR := Lib.hid htr; clear htr)
    | (go_at_call_of 18 sa; refine (list_w f na oa sa ln cn lo co lo cs N U _ _ hlt (by unfold maxLen; omega) (HN.out _ hb) (HSS.out _ hbs)).mono ?_; rintro e wl ⟨⟨rb, rfl, hrb⟩, hv⟩; obtain rfl : rb = true := hrb.2 HS1.out; clear hrb; (try replace hbs := hbs.trans (hv.mono hbs.size)); (try replace hba := hba.trans (hv.mono hba.size)); (try replace hbc := hbc.trans (hv.mono hbc.size)); (try replace hbd := hbd.trans (hv.mono hbd.size)); replace hb := hb.trans (hv.mono hb.size); clear x1 x2 x3 x4; obtain ⟨x1, x2, x3, x4⟩ := BX.out _ hb)
    | (go_at_call_of 18 sb; refine (list_w f na oa sb ln cn lo co lo cs2 N U _ _ hlt (by unfold maxLen; omega) (HN.out _ hb) (HAS.out _ hbc)).mono ?_; rintro e wl ⟨⟨rb, rfl, hrb⟩, hv⟩; obtain rfl : rb = true := hrb.2 HS2.out; clear hrb; (try replace hbs := hbs.trans (hv.mono hbs.size)); (try replace hba := hba.trans (hv.mono hba.size)); (try replace hbc := hbc.trans (hv.mono hbc.size)); (try replace hbd := hbd.trans (hv.mono hbd.size)); replace hb := hb.trans (hv.mono hb.size); clear x1 x2 x3 x4; obtain ⟨x1, x2, x3, x4⟩ := BX.out _ hb))
  have HBL := Lib.hid hb
  have HBA := Lib.hid hba
  have HBS := Lib.hid hbs
  have HBC := Lib.hid hbc
  obtain ⟨A1, O1, rfl, hA1, hN1⟩ := (HSS.out _ hbs).out.resolve_left (by omega)
  obtain ⟨A2, O2, rfl, hA2, hN2⟩ := (HAS.out _ hbc).out.resolve_left (by omega)
  have HCE : Hid (∀ w2, Below wl.heap.size wl w2 → (w2.cell? ⟨w.heap.size, 0, none⟩ = some (.int .i64 f) ∧ w2.cell? ⟨w.heap.size, 1, none⟩ = some (.slice na ln cn) ∧ w2.cell? ⟨w.heap.size, 2, none⟩ = some (.slice oa lo co)) ∧ w2.cell? ⟨A1, O1 + i, none⟩ = some (.int .i64 (t' i)) ∧ w2.cell? ⟨A2, O2 + i, none⟩ = some (.int .i64 (X k i))) := Lib.hid fun w2 h => by
    obtain ⟨y1, y2, y3, _⟩ := BX.out _ (HBL.out.trans (h.mono HBL.out.size))
    exact ⟨⟨y1, y2, y3⟩, (hN1.below hA1 h) i hi, (hN2.below hA2 h) i hi⟩
  have HHA : Hid (∀ w2, Below wl.heap.size wl w2 → Calls Tryz.prog 36 #[.slice pw m3 cw, .int .i64 (k : Int)] w2 fun e w' => e = .returned (.bool true) ∧ Below wl.heap.size wl w') := Lib.hid fun w2 h => (has_w pw m3 cw _ (k : Int) w2 (by omega) (Lib.hid (HWS.out _ (HBA.out.trans (h.mono HBA.out.size))))).mono fun e w' ⟨he, hv⟩ => ⟨by rw [he, has_WL hk HM3.out, HHG.out], h.trans (hv.mono h.size)⟩
  obtain ⟨ta, hta⟩ : ∃ ta, totT U t' 0 3 lo = ta := ⟨_, rfl⟩
  obtain ⟨tb, htb⟩ : ∃ tb, totT U (X k) 0 3 lo = tb := ⟨_, rfl⟩
  have htt : ta ≤ tb := by rw [← hta, ← htb]; exact tot_up HR.out HX.out hk
  have HTO : Hid (∀ w2, Below wl.heap.size wl w2 → (Calls Tryz.prog 30 #[.agg #[.int .i64 f, .slice na ln cn, .slice oa lo co], .slice (some ⟨A1, O1, none⟩) lo cs, .int .i64 0, .int .i64 3] w2 fun e w' => e = .returned (.int .i64 ta) ∧ Below wl.heap.size wl w') ∧ (Calls Tryz.prog 30 #[.agg #[.int .i64 f, .slice na ln cn, .slice oa lo co], .slice (some ⟨A2, O2, none⟩) lo cs2, .int .i64 0, .int .i64 3] w2 fun e w' => e = .returned (.int .i64 tb) ∧ Below wl.heap.size wl w')) := Lib.hid fun w2 h => by
    have h2 := HBL.out.trans (h.mono HBL.out.size)
    exact ⟨(total_w f na oa _ ln cn lo co cs N U t' 0 3 w2 (by omega) HT1 (HN.out _ h2) (HSS.out _ (HBS.out.trans (h.mono HBS.out.size)))).mono fun e w' ⟨he, hv⟩ => ⟨by rw [he, hta], h.trans (hv.mono h.size)⟩, (total_w f na oa _ ln cn lo co cs2 N U (X k) 0 3 w2 (by omega) HT2 (HN.out _ h2) (HAS.out _ (HBC.out.trans (h.mono HBC.out.size)))).mono fun e w' ⟨he, hv⟩ => ⟨by rw [he, htb], h.trans (hv.mono h.size)⟩⟩
  have HKN : Hid (∀ w2, Below wl.heap.size wl w2 → Calls Tryz.prog 14 #[] w2 fun e w' => e = .returned (.bool true) ∧ Below wl.heap.size wl w') := Lib.hid fun w2 h => (K.out w2).mono fun e w' ⟨he, hv⟩ => ⟨he, h.trans (hv.mono h.size)⟩
  have n1 : (0 : Int) ≤ (i : Int) := by omega
  have n2 : (i : Int) < (lo : Int) := by omega
  have n3 : decide (t' i < X k i) = true := HHG.out
  have n4 : decide (ta ≤ tb) = true := decide_eq_true htt
  clear hN1 hN2 hb hba hbs hbc x1 x2 x3 x4 hta htb
  refine wp_region_calm (W := wl) hmx (by kernel_rfl) (Below.refl _ _) ?_
  repeat (first
    | (refine calm_no (by rfl) ?_
       (try simp only [Act.put, List.setIfInBounds_toArray, List.set_cons_zero, List.set_cons_succ]))
    | (apply calm_yes
       focus rfl
       focus
         intro w' hw'
         obtain ⟨⟨z1, z2, z3⟩, z4, z5⟩ := HCE.out w' hw'
         go_simp
         first
           | done
           | with_reducible rfl
           | (go_at_call 36; exact HHA.out w' hw')
           | (go_at_call_of 30 A1; exact (HTO.out w' hw').1)
           | (go_at_call_of 30 A2; exact (HTO.out w' hw').2)
           | (go_at_call 14; exact HKN.out w' hw')
           | fail
       (try simp only [Act.put, List.setIfInBounds_toArray, List.set_cons_zero, List.set_cons_succ])))
  refine calm_nil ?_
  intro w7 hqw7
  have HB7 := Lib.hid hqw7
  clear hqw7
  go_wp2
  go_ret
  exact ⟨rfl, below_al (HBL.out.trans (HB7.out.mono HBL.out.size))⟩

set_option maxRecDepth 100000 in
set_option maxHeartbeats 4000000 in
theorem lawwd_g (f : Int) (na oa : Option Addr) (ln cn lo co : Nat) (N : Nat → N2) (U : Nat → O3) (i k : Nat) (w : World) (hls : ln ≤ 1000000) (hlt : lo ≤ 1000000) (H : Hid (Tr7 w na oa ln lo N U)) (K : Hid KnownOk) (hq : ln ≤ 8 ∧ lo ≤ 10) (HR : Hid (TreeS f ln lo N U)) (hi : i < lo) (hk : k ≤ ln) (hc : ¬ (200 : Int) ≤ capN f N k) (t : Nat → Int) (X : Nat → Nat → Int) (HX : Hid (WS f ln lo N U t X)) (hg : ¬ t i < X k i) :
    Calls Tryz.prog 7 #[.agg #[.int .i64 f, .slice na ln cn, .slice oa lo co], .int .i64 (i : Int), .int .i64 (k : Int)] w
      fun e w' => e = .returned (.bool true) ∧ Below w.heap.size w w' := by
  have hsh : decide (ln ≤ 8 ∧ lo ≤ 10) = true := decide_eq_true hq
  have hoz : fromB 0 ((lo : Int) - 1) (i : Int) = true := by simp only [fromB, decide_eq_true_eq]; omega
  have hoy : fromB 0 (ln : Int) (k : Int) = true := by simp only [fromB, decide_eq_true_eq]; omega
  have HO := Lib.hid hoz
  have HM := Lib.hid hoy
  clear hoz hoy
  have hmx : Tryz.prog.follows .mixedOrders = true := by kernel_rfl
  have hcap : ¬ (200 : Int) ≤ capN f N k := hc
  have HRW : Hid (TreeS (upF f k) ln lo (upN N k) U) := Lib.hid (upN_okS HR.out hk (by omega))
  have HS1 : Hid (SharesP lo lo t U) := Lib.hid (sharesP_of (HX.out.own.vd (vd_zero HR.out.w)))
  have HS2 : Hid (SharesP lo lo (X k) U) := Lib.hid (sharesP_of ((HX.out.ups k hk).vd (vd_zero HRW.out.w)))
  have HT1 : Hid (∀ i, i < lo → 0 ≤ t i ∧ t i ≤ 200) := Lib.hid (shares200 HR.out.w HX.out.own)
  have HT2 : Hid (∀ i, i < lo → 0 ≤ X k i ∧ X k i ≤ 200) := Lib.hid (shares200 HRW.out.w (HX.out.ups k hk))
  have q1 := HR.out.l6
  have q2 := HR.out.lo2
  have HHG : Hid (decide (t i < X k i) = false) := Lib.hid (by simp [hg])
  have HG := Lib.hid hg
  clear hg
  have BX := Lib.hid (fun (w1 : World) (hb : Below (w.alloc (.cells #[.int .i64 f, .slice na ln cn, .slice oa lo co] 25)).heap.size (w.alloc (.cells #[.int .i64 f, .slice na ln cn, .slice oa lo co] 25)) w1) => box7 hb)
  have HN : Hid (∀ w1, Below (w.alloc (.cells #[.int .i64 f, .slice na ln cn, .slice oa lo co] 25)).heap.size (w.alloc (.cells #[.int .i64 f, .slice na ln cn, .slice oa lo co] 25)) w1 → Hid (Tr7 w1 na oa ln lo N U)) := Lib.hid fun w1 h => Lib.hid (H.out.below (below_al h))
  have hb : Below (w.alloc (.cells #[.int .i64 f, .slice na ln cn, .slice oa lo co] 25)).heap.size (w.alloc (.cells #[.int .i64 f, .slice na ln cn, .slice oa lo co] 25)) (w.alloc (.cells #[.int .i64 f, .slice na ln cn, .slice oa lo co] 25)) := Below.refl _ _
  obtain ⟨x1, x2, x3, x4⟩ := BX.out _ hb
  clear H
  go_enter Tryz.func7, Tryz.ntmps7
  go_wp2_with (first
    | (go_at_call 13; refine (short_w _ _ _ _ _ _ _ _ (by unfold maxLen; omega) (by unfold maxLen; omega)).mono ?_; rw [hsh]; rintro e wl ⟨rfl, hv⟩; (try replace hbs := hbs.trans (hv.mono hbs.size)); (try replace hba := hba.trans (hv.mono hba.size)); (try replace hbc := hbc.trans (hv.mono hbc.size)); (try replace hbd := hbd.trans (hv.mono hbd.size)); replace hb := hb.trans (hv.mono hb.size); clear x1 x2 x3 x4; obtain ⟨x1, x2, x3, x4⟩ := BX.out _ hb)
    | (go_at_call 17; refine (tree_w _ _ _ _ _ _ _ N U _ hls hlt (HN.out _ hb)).mono ?_; rintro e wl ⟨⟨rb, rfl, hrb⟩, hv⟩; obtain rfl : rb = true := hrb.2 HR.out; clear hrb; (try replace hbs := hbs.trans (hv.mono hbs.size)); (try replace hba := hba.trans (hv.mono hba.size)); (try replace hbc := hbc.trans (hv.mono hbc.size)); (try replace hbd := hbd.trans (hv.mono hbd.size)); replace hb := hb.trans (hv.mono hb.size); clear x1 x2 x3 x4; obtain ⟨x1, x2, x3, x4⟩ := BX.out _ hb)
    | (go_at_call 33; refine (outlet_w _ _ _ _ _ _ _ _ _ hlt).mono ?_; rw [HO.out]; rintro e wl ⟨rfl, hv⟩; (try replace hbs := hbs.trans (hv.mono hbs.size)); (try replace hba := hba.trans (hv.mono hba.size)); (try replace hbc := hbc.trans (hv.mono hbc.size)); (try replace hbd := hbd.trans (hv.mono hbd.size)); replace hb := hb.trans (hv.mono hb.size); clear x1 x2 x3 x4; obtain ⟨x1, x2, x3, x4⟩ := BX.out _ hb)
    | (go_at_call 27; refine (node_w _ _ _ _ _ _ _ _ _).mono ?_; rw [HM.out]; rintro e wl ⟨rfl, hv⟩; (try replace hbs := hbs.trans (hv.mono hbs.size)); (try replace hba := hba.trans (hv.mono hba.size)); (try replace hbc := hbc.trans (hv.mono hbc.size)); (try replace hbd := hbd.trans (hv.mono hbd.size)); replace hb := hb.trans (hv.mono hb.size); clear x1 x2 x3 x4; obtain ⟨x1, x2, x3, x4⟩ := BX.out _ hb)
    | (go_at_call 28; refine (rcap_w f na oa ln cn lo co k N U _ hk (by omega) (HN.out _ hb)).mono ?_; rintro e wl ⟨rfl, hv⟩; (try replace hbs := hbs.trans (hv.mono hbs.size)); (try replace hba := hba.trans (hv.mono hba.size)); (try replace hbc := hbc.trans (hv.mono hbc.size)); (try replace hbd := hbd.trans (hv.mono hbd.size)); replace hb := hb.trans (hv.mono hb.size); clear x1 x2 x3 x4; obtain ⟨x1, x2, x3, x4⟩ := BX.out _ hb)
    | (go_at_call 31; refine (widens_w f na oa ln cn lo co i N U t X _ hi HR (HN.out _ hb) HX).mono ?_; rintro e wl ⟨⟨v, m3, rfl, hm3, how⟩, hv⟩; (try replace hbs := hbs.trans (hv.mono hbs.size)); (try replace hba := hba.trans (hv.mono hba.size)); (try replace hbc := hbc.trans (hv.mono hbc.size)); (try replace hbd := hbd.trans (hv.mono hbd.size)); replace hb := hb.trans (hv.mono hb.size); clear x1 x2 x3 x4; obtain ⟨x1, x2, x3, x4⟩ := BX.out _ hb; obtain ⟨pw, cw, rfl, hcs⟩ := cutSl how; have hba := Below.refl wl.heap.size wl; have HM3 := Lib.hid hm3; have hm4 : ¬ (ln : Int) + 1 < (m3 : Int) := (by have := WL_len (i := i) (t := t) (X := X) (ln + 1); omega); have HWS : Hid (∀ w2, Below wl.heap.size wl w2 → IntSl w2 pw m3 (fun j => (((WL i t X (ln + 1)).getD j 0 : Nat) : Int))) := Lib.hid fun w2 h => (by have h3 := hcs.below h; exact h3); clear how hcs hm3)
    | (go_at_call_of 20 nb; refine (shares_w _ nb oa ln cb lo co (upN N k) U _ HRW HTR).mono ?_; rintro e wl ⟨⟨sb, cs2, t2, rfl, hsl, ho⟩, hv⟩; (try replace hbs := hbs.trans (hv.mono hbs.size)); (try replace hba := hba.trans (hv.mono hba.size)); (try replace hbc := hbc.trans (hv.mono hbc.size)); (try replace hbd := hbd.trans (hv.mono hbd.size)); replace hb := hb.trans (hv.mono hb.size); clear x1 x2 x3 x4; obtain ⟨x1, x2, x3, x4⟩ := BX.out _ hb; obtain rfl : t2 = X k := ho.det (HX.out.ups k hk); have hbc := Below.refl wl.heap.size wl; have HAS : Hid (∀ w2, Below wl.heap.size wl w2 → Hid (IntSl w2 sb lo (X k))) := Lib.hid fun w2 h => (by have h3 := hsl.below h; exact Lib.hid h3); clear hsl ho)
    | (go_at_call 20; refine (shares_w f na oa ln cn lo co N U _ HR (HN.out _ hb)).mono ?_; rintro e wl ⟨⟨sa, cs, t', rfl, hsl, ho⟩, hv⟩; (try replace hbs := hbs.trans (hv.mono hbs.size)); (try replace hba := hba.trans (hv.mono hba.size)); (try replace hbc := hbc.trans (hv.mono hbc.size)); (try replace hbd := hbd.trans (hv.mono hbd.size)); replace hb := hb.trans (hv.mono hb.size); clear x1 x2 x3 x4; obtain ⟨x1, x2, x3, x4⟩ := BX.out _ hb; obtain rfl : t' = t := ho.det HX.out.own; have hbs := Below.refl wl.heap.size wl; have HSS : Hid (∀ w2, Below wl.heap.size wl w2 → Hid (IntSl w2 sa lo t')) := Lib.hid fun w2 h => (by have h3 := hsl.below h; exact Lib.hid h3); clear hsl ho)
    | (go_at_call 35; refine (rwider_w f na oa ln cn lo co k N U _ hk HR (HN.out _ hb)).mono ?_; rintro e wl ⟨⟨nb, cb, rfl, htr⟩, hv⟩; (try replace hbs := hbs.trans (hv.mono hbs.size)); (try replace hba := hba.trans (hv.mono hba.size)); (try replace hbc := hbc.trans (hv.mono hbc.size)); (try replace hbd := hbd.trans (hv.mono hbd.size)); replace hb := hb.trans (hv.mono hb.size); clear x1 x2 x3 x4; obtain ⟨x1, x2, x3, x4⟩ := BX.out _ hb; have HTR := Lib.hid htr; clear htr)
    | (go_at_call_of 18 sa; refine (list_w f na oa sa ln cn lo co lo cs N U _ _ hlt (by unfold maxLen; omega) (HN.out _ hb) (HSS.out _ hbs)).mono ?_; rintro e wl ⟨⟨rb, rfl, hrb⟩, hv⟩; obtain rfl : rb = true := hrb.2 HS1.out; clear hrb; (try replace hbs := hbs.trans (hv.mono hbs.size)); (try replace hba := hba.trans (hv.mono hba.size)); (try replace hbc := hbc.trans (hv.mono hbc.size)); (try replace hbd := hbd.trans (hv.mono hbd.size)); replace hb := hb.trans (hv.mono hb.size); clear x1 x2 x3 x4; obtain ⟨x1, x2, x3, x4⟩ := BX.out _ hb)
    | (go_at_call_of 18 sb; refine (list_w f na oa sb ln cn lo co lo cs2 N U _ _ hlt (by unfold maxLen; omega) (HN.out _ hb) (HAS.out _ hbc)).mono ?_; rintro e wl ⟨⟨rb, rfl, hrb⟩, hv⟩; obtain rfl : rb = true := hrb.2 HS2.out; clear hrb; (try replace hbs := hbs.trans (hv.mono hbs.size)); (try replace hba := hba.trans (hv.mono hba.size)); (try replace hbc := hbc.trans (hv.mono hbc.size)); (try replace hbd := hbd.trans (hv.mono hbd.size)); replace hb := hb.trans (hv.mono hb.size); clear x1 x2 x3 x4; obtain ⟨x1, x2, x3, x4⟩ := BX.out _ hb))
  have HBL := Lib.hid hb
  have HBA := Lib.hid hba
  have HBS := Lib.hid hbs
  have HBC := Lib.hid hbc
  obtain ⟨A1, O1, rfl, hA1, hN1⟩ := (HSS.out _ hbs).out.resolve_left (by omega)
  obtain ⟨A2, O2, rfl, hA2, hN2⟩ := (HAS.out _ hbc).out.resolve_left (by omega)
  have HCE : Hid (∀ w2, Below wl.heap.size wl w2 → (w2.cell? ⟨w.heap.size, 0, none⟩ = some (.int .i64 f) ∧ w2.cell? ⟨w.heap.size, 1, none⟩ = some (.slice na ln cn) ∧ w2.cell? ⟨w.heap.size, 2, none⟩ = some (.slice oa lo co)) ∧ w2.cell? ⟨A1, O1 + i, none⟩ = some (.int .i64 (t' i)) ∧ w2.cell? ⟨A2, O2 + i, none⟩ = some (.int .i64 (X k i))) := Lib.hid fun w2 h => by
    obtain ⟨y1, y2, y3, _⟩ := BX.out _ (HBL.out.trans (h.mono HBL.out.size))
    exact ⟨⟨y1, y2, y3⟩, (hN1.below hA1 h) i hi, (hN2.below hA2 h) i hi⟩
  have HHA : Hid (∀ w2, Below wl.heap.size wl w2 → Calls Tryz.prog 36 #[.slice pw m3 cw, .int .i64 (k : Int)] w2 fun e w' => e = .returned (.bool false) ∧ Below wl.heap.size wl w') := Lib.hid fun w2 h => (has_w pw m3 cw _ (k : Int) w2 (by omega) (Lib.hid (HWS.out _ (HBA.out.trans (h.mono HBA.out.size))))).mono fun e w' ⟨he, hv⟩ => ⟨by rw [he, has_WL hk HM3.out, HHG.out], h.trans (hv.mono h.size)⟩
  obtain ⟨ta, hta⟩ : ∃ ta, totT U t' 0 3 lo = ta := ⟨_, rfl⟩
  obtain ⟨tb, htb⟩ : ∃ tb, totT U (X k) 0 3 lo = tb := ⟨_, rfl⟩
  have htt : ta ≤ tb := by rw [← hta, ← htb]; exact tot_up HR.out HX.out hk
  have HTO : Hid (∀ w2, Below wl.heap.size wl w2 → (Calls Tryz.prog 30 #[.agg #[.int .i64 f, .slice na ln cn, .slice oa lo co], .slice (some ⟨A1, O1, none⟩) lo cs, .int .i64 0, .int .i64 3] w2 fun e w' => e = .returned (.int .i64 ta) ∧ Below wl.heap.size wl w') ∧ (Calls Tryz.prog 30 #[.agg #[.int .i64 f, .slice na ln cn, .slice oa lo co], .slice (some ⟨A2, O2, none⟩) lo cs2, .int .i64 0, .int .i64 3] w2 fun e w' => e = .returned (.int .i64 tb) ∧ Below wl.heap.size wl w')) := Lib.hid fun w2 h => by
    have h2 := HBL.out.trans (h.mono HBL.out.size)
    exact ⟨(total_w f na oa _ ln cn lo co cs N U t' 0 3 w2 (by omega) HT1 (HN.out _ h2) (HSS.out _ (HBS.out.trans (h.mono HBS.out.size)))).mono fun e w' ⟨he, hv⟩ => ⟨by rw [he, hta], h.trans (hv.mono h.size)⟩, (total_w f na oa _ ln cn lo co cs2 N U (X k) 0 3 w2 (by omega) HT2 (HN.out _ h2) (HAS.out _ (HBC.out.trans (h.mono HBC.out.size)))).mono fun e w' ⟨he, hv⟩ => ⟨by rw [he, htb], h.trans (hv.mono h.size)⟩⟩
  have HKN : Hid (∀ w2, Below wl.heap.size wl w2 → Calls Tryz.prog 14 #[] w2 fun e w' => e = .returned (.bool true) ∧ Below wl.heap.size wl w') := Lib.hid fun w2 h => (K.out w2).mono fun e w' ⟨he, hv⟩ => ⟨he, h.trans (hv.mono h.size)⟩
  have n1 : (0 : Int) ≤ (i : Int) := by omega
  have n2 : (i : Int) < (lo : Int) := by omega
  have n3 : decide (t' i < X k i) = false := HHG.out
  have n4 : decide (ta ≤ tb) = true := decide_eq_true htt
  clear hN1 hN2 hb hba hbs hbc x1 x2 x3 x4 hta htb
  refine wp_region_calm (W := wl) hmx (by kernel_rfl) (Below.refl _ _) ?_
  repeat (first
    | (refine calm_no (by rfl) ?_
       (try simp only [Act.put, List.setIfInBounds_toArray, List.set_cons_zero, List.set_cons_succ]))
    | (apply calm_yes
       focus rfl
       focus
         intro w' hw'
         obtain ⟨⟨z1, z2, z3⟩, z4, z5⟩ := HCE.out w' hw'
         go_simp
         first
           | done
           | with_reducible rfl
           | (go_at_call 36; exact HHA.out w' hw')
           | (go_at_call_of 30 A1; exact (HTO.out w' hw').1)
           | (go_at_call_of 30 A2; exact (HTO.out w' hw').2)
           | (go_at_call 14; exact HKN.out w' hw')
           | fail
       (try simp only [Act.put, List.setIfInBounds_toArray, List.set_cons_zero, List.set_cons_succ])))
  refine calm_nil ?_
  intro w7 hqw7
  have HB7 := Lib.hid hqw7
  clear hqw7
  go_wp2
  go_ret
  exact ⟨rfl, below_al (HBL.out.trans (HB7.out.mono HBL.out.size))⟩

set_option maxHeartbeats 1000000 in
theorem lawwd_w (f : Int) (na oa : Option Addr) (ln cn lo co : Nat) (N : Nat → N2) (U : Nat → O3) (z y : Int) (w : World) (hls : ln ≤ maxLen) (hlt : lo ≤ maxLen) (H : Tr7 w na oa ln lo N U) (K : KnownOk) :
    Calls Tryz.prog 7 #[.agg #[.int .i64 f, .slice na ln cn, .slice oa lo co], .int .i64 z, .int .i64 y] w
      fun e w' => e = .returned (.bool true) ∧ Below w.heap.size w w' := by
  by_cases hq : ln ≤ 8 ∧ lo ≤ 10
  case neg => exact lawwd_a f na oa ln cn lo co N U z y w hls hlt (Lib.hid H) (Lib.hid K) hq
  by_cases HR : TreeS f ln lo N U
  case neg => exact lawwd_b f na oa ln cn lo co N U z y w (by omega) (by omega) (Lib.hid H) (Lib.hid K) hq (Lib.hid HR)
  have l1 : ln ≤ 1000000 := by omega
  have l2 : lo ≤ 1000000 := by omega
  cases ho : fromB 0 ((lo : Int) - 1) z with
  | false => exact lawwd_c f na oa ln cn lo co N U z y w l1 l2 (Lib.hid H) (Lib.hid K) hq (Lib.hid HR) (Lib.hid ho)
  | true =>
    cases hm : fromB 0 (ln : Int) y with
    | false => exact lawwd_d f na oa ln cn lo co N U z y w l1 l2 (Lib.hid H) (Lib.hid K) hq (Lib.hid HR) (Lib.hid ho) (Lib.hid hm)
    | true =>
      simp only [fromB, decide_eq_true_eq] at ho hm
      obtain ⟨i, rfl⟩ : ∃ i : Nat, z = (i : Int) := ⟨z.toNat, by omega⟩
      obtain ⟨k, rfl⟩ : ∃ k : Nat, y = (k : Int) := ⟨y.toNat, by omega⟩
      by_cases hc : (200 : Int) ≤ capN f N k
      · exact lawwd_e f na oa ln cn lo co N U i k w l1 l2 (Lib.hid H) (Lib.hid K) hq (Lib.hid HR) (by omega) (by omega) hc
      · obtain ⟨t, X, hx⟩ := ws_ex HR
        by_cases hg : t i < X k i
        · exact lawwd_f f na oa ln cn lo co N U i k w l1 l2 (Lib.hid H) (Lib.hid K) hq (Lib.hid HR) (by omega) (by omega) hc t X (Lib.hid hx) hg
        · exact lawwd_g f na oa ln cn lo co N U i k w l1 l2 (Lib.hid H) (Lib.hid K) hq (Lib.hid HR) (by omega) (by omega) hc t X (Lib.hid hx) hg
end Go.Kn
