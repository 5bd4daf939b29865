/- Contracts of functions that the laws of this seat call, or the evaluator of closed calls and its runs. Conditions: as each theorem states them. -/
import Derived.Test.YtpfbfdcpibajoaaGreatDoorHT
set_option linter.unusedVariables false
set_option linter.unusedSimpArgs false
/- Contracts of functions that the laws of this seat call, or the evaluator of closed calls and its runs. Conditions: as each theorem states them. -/
set_option linter.unusedVariables false
set_option linter.unusedSimpArgs false
namespace Go.Kn
open Go Go.Proofs Go.RowKit

theorem tr_box {w : World} {f : Int} {na oa : Option Addr} {ln cn lo co : Nat} {N : Nat → N2} {U : Nat → O3} (h : Tr7 w na oa ln lo N U) : Tr7 (w.alloc (.cells #[.int .i64 f, .slice na ln cn, .slice oa lo co] 25)) na oa ln lo N U := h.below ((Below.refl _ _).alloc (Nat.le_refl _) _)

set_option maxRecDepth 100000 in
set_option maxHeartbeats 1000000 in
theorem lawsOrder_w (w : World) : Calls Tryz.prog 118 #[] w fun e w' => (∃ pa cc, e = .returned (.slice pa 4 cc) ∧ IntSl w' pa 4 (fun i => ((i : Nat) : Int))) ∧ Below w.heap.size w w' := by
  obtain ⟨i0, hi0, hz0, hz1, hz2⟩ := info_parts info3'
  go_enter Tryz.func118, Tryz.ntmps118
  go_wp2
  go_loopw [0, 2] (fun v ii wr => ∃ k : Nat, k ≤ 4 ∧ ii = .int .i64 (k : Int) ∧ wr.ownsRow w.heap.size 3 1 v k ((List.range k).map iv) ∧ Below w.heap.size w wr) (fun _ ii _ => 4 - (intOf ii).toNat)
  case atStart => exact ⟨0, Nat.zero_le _, rfl, ⟨rfl, .inl ⟨rfl, rfl⟩⟩, Below.refl _ _⟩
  case round =>
    obtain ⟨k, hk, rfl, hown, hbw⟩ := hrel
    have HOW := Lib.hid hown
    have HBW := Lib.hid hbw
    by_cases hlt : k < 4
    · have n2 : (k : Int) < 4 := by omega
      clear hown hbw
      have hsz : w.heap.size ≤ wr.heap.size := HBW.out.size
      go_wp2_with (at_builtin; refine wpList_append_own_at _ rfl (.tmp 5) (.tmp 7) 26 rfl w.heap.size 3 i0 (.int .i64 0) 1 8 Tryz.underlying26 hi0 hz0 hz1 hz2 rfl (by decide) _ k _ rfl (HOW.out.alloc _) ⟨_, 0, none⟩ 1 1 [.int .i64 (k : Int)] rfl rfl (lies_any (by first | exact al_top rfl _ _ | exact al_top (by simp) _ _)) (by intro u hu; simp at hu; subst hu; rfl) (by unfold maxLen; omega) (by omega) (by simp; omega) ?_; intro v7 w7 hown7 hgrow7 _ hloc7)
      go_roundw
      case rel => exact ⟨k + 1, by omega, by go_num, by rw [List.range_succ, List.map_append]; exact hown7, (HBW.out.alloc hsz _).grown hgrow7 (by simp; omega) (fun r e => by have := own_ge HOW.out r e; omega)⟩
      case measure => simp [intOf]; omega
    · have hkl : k = 4 := by omega
      subst hkl
      obtain ⟨sa, cap, rfl, hl4, hsl⟩ := intSl_of_owns (xs := (List.range 4).map fun j => ((j : Nat) : Int)) hown
      clear hl4
      have HSL := Lib.hid hsl
      clear hown hbw hsl hlt hk HOW
      go_wp2
      go_ret
      refine ⟨⟨sa, cap, rfl, ?_⟩, HBW.out⟩
      rcases HSL.out with h | ⟨A, O, h1, h2, h3⟩
      · exact .inl h
      · refine .inr ⟨A, O, h1, h2, fun i hi => ?_⟩
        rw [h3 i hi]
        simp [List.getD, hi]

set_option maxRecDepth 100000 in
set_option maxHeartbeats 1000000 in
theorem ordered_w (f : Int) (na oa pa : Option Addr) (ln cn lo co lc cc : Nat) (N : Nat → N2) (U : Nat → O3) (cl : Nat → Int) (w : World) (HR : Hid (TreeP f ln lo N U)) (H : Hid (Tr7 w na oa ln lo N U)) (HO : Hid (IntSl w pa lc cl)) (hlc : lc ≤ 1000000) :
    Calls Tryz.prog 74 #[.agg #[.int .i64 f, .slice na ln cn, .slice oa lo co], .slice pa lc cc] w fun e w' =>
      (∃ sv SH FL cs cf t, e = .returned (.pointer (some ⟨sv, 0, none⟩)) ∧ SvS w' sv SH FL f na oa ln cn lo co cs cf N U t ∧ Ord f lo N U (fun _ => 0) (upto cl lc) t ∧ w.heap.size ≤ sv ∧ w.heap.size ≤ SH ∧ w.heap.size ≤ FL) ∧ Below w.heap.size w w' := by
  have q1 := HR.out.l6
  have q2 := HR.out.lo2
  have HU : Hid (∀ w2, Calls Tryz.prog 64 #[.agg #[.int .i64 f, .slice na ln cn, .slice oa lo co]] w2 fun e w' =>
      (∃ sv SH FL cs cf, e = .returned (.pointer (some ⟨sv, 0, none⟩)) ∧ SvAt w' sv SH FL f na oa ln cn lo co cs cf (fun _ => 0) (fun _ => 0) ∧ w2.heap.size ≤ sv ∧ w2.heap.size ≤ SH ∧ w2.heap.size ≤ FL) ∧ Below w2.heap.size w2 w') := Lib.hid fun w2 => unserved_w f na oa ln cn lo co w2 q1 q2
  obtain ⟨WA, hWA⟩ : ∃ WA, WA = w.alloc (.cells #[.int .i64 f, .slice na ln cn, .slice oa lo co] 25) := ⟨_, rfl⟩
  have hA : Below w.heap.size w WA := by rw [hWA]; exact (Below.refl _ _).alloc (Nat.le_refl _) _
  have hT : Tr7 WA na oa ln lo N U := H.out.below hA
  have hO : IntSl WA pa lc cl := HO.out.below hA
  have HA := Lib.hid hA
  have HT := Lib.hid hT
  have HOA := Lib.hid hO
  clear hA hT hO
  go_enter Tryz.func74, Tryz.ntmps74
  go_wp2_with (go_at_call 64; rw [← hWA]; refine (HU.out WA).mono ?_; rintro e w3 ⟨⟨sv, SH, FL, cs, cf, rfl, hsv, h4, h5, h6⟩, hb3⟩; have HSV := Lib.hid hsv; have H456 := Lib.hid (And.intro h4 (And.intro h5 h6)); have HB3 := Lib.hid hb3; clear hsv h4 h5 h6 hb3)
  clear hWA
  have HTR : Hid (Tre f na oa ln lo sv SH FL N U WA) := Lib.hid ⟨HR.out, HT.out, H456.out.1, H456.out.2.1, H456.out.2.2⟩
  go_loopw [12] (fun ii wr => ∃ k : Nat, k ≤ lc ∧ ii = .int .i64 (k : Int) ∧ Frx [SH, FL] w3 wr ∧ ∃ t, Ord f lo N U (fun _ => 0) (upto cl k) t ∧ SvS wr sv SH FL f na oa ln cn lo co cs cf N U t) (fun ii _ => lc - (intOf ii).toNat)
  case atStart => exact ⟨0, Nat.zero_le _, rfl, Frx.refl _ _, fun _ => 0, .nil _, svs_zero HSV.out⟩
  case round =>
    obtain ⟨k, hk, rfl, hfr, t, hord, hsv⟩ := hrel
    have HFR := Lib.hid hfr
    have HORD := Lib.hid hord
    have HSVK := Lib.hid hsv
    clear hfr hord hsv
    have hbw : Below WA.heap.size WA wr := HB3.out.trans (HFR.out.below HB3.out.size (by have := H456.out; simp; omega))
    by_cases hlt : k < lc
    · obtain ⟨A, O, rfl, hAl, hnum⟩ := HOA.out.resolve_left (by omega)
      have x1 := (hnum.below hAl hbw) k hlt
      have n1 : (0 : Int) ≤ (k : Int) := by omega
      have n2 : (k : Int) < (lc : Int) := by omega
      have HS := Lib.hid (serve_w f na oa ln cn lo co cs cf sv SH FL (cl k) N U t WA wr HTR hbw (Lib.hid (HORD.out.vd (vd_zero HR.out))) HSVK)
      clear hnum hbw
      go_wp2_with (go_at_call 122; refine HS.out.mono ?_; rintro e w5 ⟨rfl, hf5, t2, hser, hs5⟩; have HF5 := Lib.hid hf5; have HS5 := Lib.hid hs5; have HSE := Lib.hid hser; clear hf5 hs5 hser)
      go_roundw
      case rel => exact ⟨k + 1, by omega, by go_num, HFR.out.trans HF5.out, t2, by rw [upto_succ]; exact HORD.out.snoc HSE.out, HS5.out⟩
      case measure => simp [intOf]; omega
    · have hkl : lc = k := by omega
      subst hkl
      have HBW := Lib.hid hbw
      clear hbw
      go_wp2
      go_ret
      have hz := HA.out.size
      obtain ⟨h4, h5, h6⟩ := H456.out
      exact ⟨⟨sv, SH, FL, cs, cf, t, rfl, HSVK.out, HORD.out, by omega, by omega, by omega⟩, HA.out.trans (HBW.out.mono hz)⟩

theorem law4 : upto (fun i => ((i : Nat) : Int)) 4 = [0, 1, 2, 3] := by decide

set_option maxRecDepth 100000 in
set_option maxHeartbeats 2000000 in
theorem lawful_w (f : Int) (na oa : Option Addr) (ln cn lo co : Nat) (N : Nat → N2) (U : Nat → O3) (w : World) (HR : Hid (TreeP f ln lo N U)) (H : Hid (Tr7 w na oa ln lo N U)) :
    Calls Tryz.prog 72 #[.agg #[.int .i64 f, .slice na ln cn, .slice oa lo co]] w fun e w' =>
      (∃ sv SH FL cs cf t, e = .returned (.pointer (some ⟨sv, 0, none⟩)) ∧ SvS w' sv SH FL f na oa ln cn lo co cs cf N U t ∧ Ord f lo N U (fun _ => 0) [0, 1, 2, 3] t ∧ w.heap.size ≤ sv ∧ w.heap.size ≤ SH ∧ w.heap.size ≤ FL) ∧ Below w.heap.size w w' := by
  obtain ⟨WA, hWA⟩ : ∃ WA, WA = w.alloc (.cells #[.int .i64 f, .slice na ln cn, .slice oa lo co] 25) := ⟨_, rfl⟩
  have hA : Below w.heap.size w WA := by rw [hWA]; exact (Below.refl _ _).alloc (Nat.le_refl _) _
  have hT : Tr7 WA na oa ln lo N U := H.out.below hA
  have HX : Hid (∀ w2, Below WA.heap.size WA w2 → w2.cell? ⟨w.heap.size, 0, none⟩ = some (.int .i64 f) ∧ w2.cell? ⟨w.heap.size, 1, none⟩ = some (.slice na ln cn) ∧ w2.cell? ⟨w.heap.size, 2, none⟩ = some (.slice oa lo co)) := Lib.hid fun w2 h => by
    obtain ⟨c, _⟩ := bcell h
    have hz : WA.heap.size = w.heap.size + 1 := by rw [hWA]; simp
    exact ⟨(c _ _ (by omega)).trans (by rw [hWA]; simp), (c _ _ (by omega)).trans (by rw [hWA]; simp), (c _ _ (by omega)).trans (by rw [hWA]; simp)⟩
  have HA := Lib.hid hA
  have HT := Lib.hid hT
  have HO : Hid (∀ w2 pa cc, Below WA.heap.size WA w2 → IntSl w2 pa 4 (fun i => ((i : Nat) : Int)) → Calls Tryz.prog 74 #[.agg #[.int .i64 f, .slice na ln cn, .slice oa lo co], .slice pa 4 cc] w2 fun e w' =>
      (∃ sv SH FL cs cf t, e = .returned (.pointer (some ⟨sv, 0, none⟩)) ∧ SvS w' sv SH FL f na oa ln cn lo co cs cf N U t ∧ Ord f lo N U (fun _ => 0) [0, 1, 2, 3] t ∧ w.heap.size ≤ sv ∧ w.heap.size ≤ SH ∧ w.heap.size ≤ FL) ∧ Below w.heap.size w w') := Lib.hid fun w2 pa cc h hs => by
    refine (ordered_w f na oa pa ln cn lo co 4 cc N U (fun i => ((i : Nat) : Int)) w2 HR (Lib.hid (HT.out.below h)) (Lib.hid hs) (by decide)).mono ?_
    rintro e w' ⟨⟨sv, SH, FL, cs, cf, t, he, h1, h2, h3, h4, h5⟩, hb⟩
    have hz := h.size
    have hz2 := HA.out.size
    rw [law4] at h2
    exact ⟨⟨sv, SH, FL, cs, cf, t, he, h1, h2, by omega, by omega, by omega⟩, HA.out.trans ((h.trans (hb.mono hz)).mono hz2)⟩
  clear hA hT
  go_enter Tryz.func72, Tryz.ntmps72
  go_wp2
  rw [← hWA]
  clear hWA
  obtain ⟨x1, x2, x3⟩ := HX.out WA (Below.refl _ _)
  go_region_law ((first
    | (go_simp; go_at_call 118; refine (lawsOrder_w _).mono ?_; rintro e w4 ⟨⟨pa, cc, rfl, hsl⟩, hb4⟩; have HSL := Lib.hid hsl; have HB4 := Lib.hid hb4; obtain ⟨y1, y2, y3⟩ := HX.out w4 ((below_drew (Below.refl _ _)).trans hb4); clear hsl hb4)
    | (go_simp; go_at_call 74; refine (HO.out _ pa cc ((below_drew (Below.refl _ _)).trans HB4.out) HSL.out).mono ?_; rintro e w5 ⟨⟨sv, SH, FL, cs, cf, t, rfl, h1, h2, h3, h4, h5⟩, hb5⟩; have HR5 := Lib.hid (And.intro h1 (And.intro h2 (And.intro h3 (And.intro h4 (And.intro h5 hb5))))); clear h1 h2 h3 h4 h5 hb5)))
  all_goals
    go_wp2
    go_ret
    obtain ⟨h1, h2, h3, h4, h5, h6⟩ := HR5.out
    exact ⟨⟨sv, SH, FL, cs, cf, t, rfl, h1, h2, h3, h4, h5⟩, h6⟩
end Go.Kn

namespace Go.Kn
open Go Go.Proofs Go.RowKit

theorem sharesP_of {f : Int} {ln lo : Nat} {N : Nat → N2} {U : Nat → O3} {t : Nat → Int} (hv : Vd f ln lo N U t) : SharesP lo lo t U := ⟨rfl, fun i hi => by have := hv.bd i hi; simp only [fromB, decide_eq_true_eq]; exact this⟩
theorem intSl_of_svs {w : World} {sv SH FL : Nat} {f : Int} {na oa : Option Addr} {ln cn lo co cs cf : Nat} {N : Nat → N2} {U : Nat → O3} {t : Nat → Int} (h : SvS w sv SH FL f na oa ln cn lo co cs cf N U t) : IntSl w (some ⟨SH, 0, none⟩) lo t :=
  .inr ⟨SH, 0, rfl, h.at_.bh, fun i hi => by rw [Nat.zero_add]; exact (h.at_.sh i hi).1⟩

set_option maxRecDepth 100000 in
set_option maxHeartbeats 1000000 in
theorem shares_bad (f : Int) (na oa : Option Addr) (ln cn lo co : Nat) (N : Nat → N2) (U : Nat → O3) (w : World) (hls : ln ≤ 1000000) (hlt : lo ≤ 1000000) (H : Hid (Tr7 w na oa ln lo N U)) (HR : Hid (¬ TreeS f ln lo N U)) :
    Calls Tryz.prog 20 #[.agg #[.int .i64 f, .slice na ln cn, .slice oa lo co]] w fun e w' => e = .returned (.tuple #[.slice none 0 0, .int .i64 2]) ∧ Below w.heap.size w w' := by
  have hbW : Below w.heap.size w (w.alloc (.cells #[.int .i64 f, .slice na ln cn, .slice oa lo co] 25)) := (Below.refl _ _).alloc (Nat.le_refl _) _
  have HIT : Hid (Calls Tryz.prog 62 #[.agg #[.int .i64 f, .slice na ln cn, .slice oa lo co]] (w.alloc (.cells #[.int .i64 f, .slice na ln cn, .slice oa lo co] 25)) fun e w' => e = .returned (.bool false) ∧ Below w.heap.size w w') := Lib.hid ((isTree_w f na oa ln cn lo co N U _ hls hlt (Lib.hid (H.out.below hbW))).mono fun e w' ⟨⟨rb, he, hrb⟩, hb⟩ => ⟨by cases rb with | true => exact (HR.out (hrb.1 rfl)).elim | false => exact he, hbW.trans (hb.mono hbW.size)⟩)
  clear hbW
  go_enter Tryz.func20, Tryz.ntmps20
  go_wp2_with (go_at_call 62; refine HIT.out.mono ?_; rintro e w1 ⟨rfl, hb1⟩)
  refine bodyPost_ret (v := .tuple #[.slice none 0 0, .int .i64 2]) (by simp [results, Tryz.results20, go_sem]) rfl ⟨rfl, hb1⟩

set_option maxRecDepth 100000 in
set_option maxHeartbeats 1000000 in
theorem shares_w (f : Int) (na oa : Option Addr) (ln cn lo co : Nat) (N : Nat → N2) (U : Nat → O3) (w : World) (HR : Hid (TreeS f ln lo N U)) (H : Hid (Tr7 w na oa ln lo N U)) :
    Calls Tryz.prog 20 #[.agg #[.int .i64 f, .slice na ln cn, .slice oa lo co]] w fun e w' => (∃ sa cs t, e = .returned (.tuple #[.slice sa lo cs, .int .i64 0]) ∧ IntSl w' sa lo t ∧ Ord f lo N U (fun _ => 0) [0, 1, 2, 3] t) ∧ Below w.heap.size w w' := by
  have q1 := HR.out.l6
  have q2 := HR.out.lo2
  have hbW : Below w.heap.size w (w.alloc (.cells #[.int .i64 f, .slice na ln cn, .slice oa lo co] 25)) := (Below.refl _ _).alloc (Nat.le_refl _) _
  have BX := Lib.hid (fun (w1 : World) (hb : Below (w.alloc (.cells #[.int .i64 f, .slice na ln cn, .slice oa lo co] 25)).heap.size (w.alloc (.cells #[.int .i64 f, .slice na ln cn, .slice oa lo co] 25)) w1) => box7 hb)
  have HIT : Hid (Calls Tryz.prog 62 #[.agg #[.int .i64 f, .slice na ln cn, .slice oa lo co]] (w.alloc (.cells #[.int .i64 f, .slice na ln cn, .slice oa lo co] 25)) fun e w' => e = .returned (.bool true) ∧ Below (w.alloc (.cells #[.int .i64 f, .slice na ln cn, .slice oa lo co] 25)).heap.size (w.alloc (.cells #[.int .i64 f, .slice na ln cn, .slice oa lo co] 25)) w') := Lib.hid ((isTree_w f na oa ln cn lo co N U _ (by omega) (by omega) (Lib.hid (H.out.below hbW))).mono fun e w' ⟨⟨rb, he, hrb⟩, hb⟩ => ⟨by rw [he, hrb.2 HR.out], hb⟩)
  have HL : Hid (∀ w2, Below (w.alloc (.cells #[.int .i64 f, .slice na ln cn, .slice oa lo co] 25)).heap.size (w.alloc (.cells #[.int .i64 f, .slice na ln cn, .slice oa lo co] 25)) w2 → Calls Tryz.prog 72 #[.agg #[.int .i64 f, .slice na ln cn, .slice oa lo co]] w2 fun e w' =>
      (∃ sv SH FL cs cf t, e = .returned (.pointer (some ⟨sv, 0, none⟩)) ∧ SvS w' sv SH FL f na oa ln cn lo co cs cf N U t ∧ Ord f lo N U (fun _ => 0) [0, 1, 2, 3] t ∧ w2.heap.size ≤ sv ∧ w2.heap.size ≤ SH ∧ w2.heap.size ≤ FL) ∧ Below w2.heap.size w2 w') := Lib.hid fun w2 h => lawful_w f na oa ln cn lo co N U w2 (Lib.hid HR.out.w) (Lib.hid (H.out.below (below_al h)))
  clear hbW
  go_enter Tryz.func20, Tryz.ntmps20
  go_wp2_with (first
    | (go_at_call 62; refine HIT.out.mono ?_; rintro e w1 ⟨rfl, hb1⟩; obtain ⟨x1, x2, x3, x4⟩ := BX.out _ hb1)
    | (go_at_call 72; refine (HL.out _ hb1).mono ?_; rintro e w5 ⟨⟨sv, SH, FL, cs, cf, t, rfl, h1, h2, h3, h4, h5⟩, hb5⟩; have y3 := h1.at_.c3; have HR5 := Lib.hid (And.intro h1 (And.intro h2 hb5)); clear h1 h2 h3 h4 h5 hb5))
  obtain ⟨h1, h2, hb5⟩ := HR5.out
  refine bodyPost_ret (v := .tuple #[.slice (some ⟨SH, 0, none⟩) lo cs, .int .i64 0]) (by simp [results, Tryz.results20, go_sem]) rfl ⟨⟨_, _, t, rfl, intSl_of_svs h1, h2⟩, (below_al hb1).trans (hb5.mono (below_al hb1).size)⟩
end Go.Kn
