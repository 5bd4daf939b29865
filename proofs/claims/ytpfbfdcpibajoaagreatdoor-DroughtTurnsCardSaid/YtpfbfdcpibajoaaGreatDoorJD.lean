/- Contracts of functions that the laws of this seat call, or the evaluator of closed calls and its runs. Conditions: as each theorem states them. -/
import Derived.Test.YtpfbfdcpibajoaaGreatDoorJC
set_option linter.unusedVariables false
set_option linter.unusedSimpArgs false
namespace Go.Kn
open Go Go.Proofs Go.RowKit

theorem rk_set {U : Nat → O3} {s : Nat → Int} {k i : Nat} (hi : s k = (i : Int)) : updI (rk U s k) i (U i).c = rk U s (k + 1) := by
  funext j
  unfold updI
  by_cases h : j = i
  · subst h
    rw [if_pos rfl, rk_yes (hasB_yes (Nat.lt_succ_self k) hi)]
  · rw [if_neg h]
    have hne : s k ≠ (j : Int) := by omega
    have e : hasB s (j : Int) (k + 1) = hasB s (j : Int) k := by simp [hasB, hne]
    show (if hasB s (j : Int) k = true then _ else _) = (if hasB s (j : Int) (k + 1) = true then _ else _)
    rw [e]
theorem IntOwn.set {w : World} {base g n i : Nat} {s : Nat → Int} (h : IntOwn w base g n s) (hi : i < n) (x : Int) : IntOwn (w.setCell ⟨g, i, none⟩ (.int .i64 x)) base g n (updI s i x) :=
  ⟨h.lo, by simp only [World.size_setCell]; exact h.lt, h.at_.upd hi x, fun j hj => by simpa using h.fr j hj⟩
theorem IntOwn.below {w w1 : World} {base g n : Nat} {s : Nat → Int} (h : IntOwn w base g n s) (hb : Below w.heap.size w w1) : IntOwn w1 base g n s :=
  ⟨h.lo, Nat.lt_of_lt_of_le h.lt hb.size, h.at_.below h.lt hb, fun j hj => ((bcell hb).2 _ _ h.lt).trans (h.fr j hj)⟩

set_option maxRecDepth 100000 in
set_option maxHeartbeats 4000000 in
theorem running_w (f : Int) (na oa sa : Option Addr) (ln cn lo co n c5 : Nat) (N : Nat → N2) (U : Nat → O3) (s : Nat → Int) (w : World) (hlo : lo ≤ 1000) (hn : n ≤ 1000000) (H : Hid (Tr7 w na oa ln lo N U)) (HS : Hid (IntSl w sa n s)) (HL : Hid (∀ k, k < n → 0 ≤ s k ∧ s k < (lo : Int))) :
    Calls Tryz.prog 48 #[.agg #[.int .i64 f, .slice na ln cn, .slice oa lo co], .slice sa n c5] w fun e w' => (∃ g cap, e = .returned (.slice (some ⟨g, 0, none⟩) lo cap) ∧ IntOwn w' w.heap.size g lo (rk U s n)) ∧ Below w.heap.size w w' := by
  have hmx : Tryz.prog.follows .mixedOrders = true := by kernel_rfl
  have hm1 := fun w' => mk_w lo hlo w'
  obtain ⟨WA, hWA⟩ : ∃ WA, WA = (w.alloc (.cells #[.int .i64 f, .slice na ln cn, .slice oa lo co] 25)).alloc (.cells (zc lo) 3) := ⟨_, rfl⟩
  have hA : Below w.heap.size w WA := by rw [hWA]; exact ((Below.refl _ _).alloc (Nat.le_refl _) _).alloc (by simp) _
  have hzA : WA.heap.size = w.heap.size + 1 + 1 := by rw [hWA]; simp
  have HO0 : Hid (IntOwn WA (w.heap.size + 1) (w.heap.size + 1) lo (rk U s 0)) := Lib.hid (by
    rw [rk_zero, hWA]
    have hz : (w.alloc (.cells #[.int .i64 f, .slice na ln cn, .slice oa lo co] 25)).heap.size = w.heap.size + 1 := by simp
    have hc := fun i (hi : i < lo) => zc_cell (w.alloc (.cells #[.int .i64 f, .slice na ln cn, .slice oa lo co] 25)) hi
    rw [hz] at hc
    exact ⟨Nat.le_refl _, by simp, fun i hi => by rw [Nat.zero_add]; exact (hc i hi).1, fun i hi => (hc i hi).2⟩)
  have HX : Hid (∀ w2, Frx [w.heap.size + 1] WA w2 → w2.cell? ⟨w.heap.size, 0, none⟩ = some (.int .i64 f) ∧ w2.cell? ⟨w.heap.size, 1, none⟩ = some (.slice na ln cn) ∧ w2.cell? ⟨w.heap.size, 2, none⟩ = some (.slice oa lo co) ∧ Below w.heap.size w w2) := Lib.hid fun w2 h => by
    have h1 : w.heap.size < WA.heap.size := by omega
    exact ⟨(h.cell h1 (by simp)).trans (by rw [hWA]; simp), (h.cell h1 (by simp)).trans (by rw [hWA]; simp), (h.cell h1 (by simp)).trans (by rw [hWA]; simp), hA.trans (h.below (by omega) (by simp))⟩
  clear hA hzA
  go_enter Tryz.func48, Tryz.ntmps48
  go_wp2
  rw [← hWA]
  clear hWA hm1
  go_loopw [6] (fun kk wr => ∃ k : Nat, k ≤ n ∧ kk = .int .i64 (k : Int) ∧ Frx [w.heap.size + 1] WA wr ∧ IntOwn wr (w.heap.size + 1) (w.heap.size + 1) lo (rk U s k)) (fun kk _ => n - (Go.RowKit.intOf kk).toNat)
  case atStart => exact ⟨0, Nat.zero_le _, rfl, Frx.refl _ _, HO0.out⟩
  case round =>
    obtain ⟨k, hk, rfl, hfr, how⟩ := hrel
    have HFR := Lib.hid hfr
    have HOW := Lib.hid how
    clear hfr how
    obtain ⟨x1, x2, x3, hbw⟩ := HX.out _ HFR.out
    by_cases hlt : k < n
    · obtain ⟨A, O, rfl, hAl, hnum⟩ := HS.out.resolve_left (by omega)
      have hsk := HL.out k hlt
      obtain ⟨i, hi⟩ : ∃ i : Nat, s k = (i : Int) := ⟨(s k).toNat, by omega⟩
      have hil : i < lo := by omega
      obtain ⟨C, P, rfl, hC, hnC⟩ := H.out.ho.resolve_left (by omega)
      have HCE : Hid (∀ w2, Below wr.heap.size wr w2 → w2.cell? ⟨w.heap.size, 2, none⟩ = some (.slice (some ⟨C, P, none⟩) lo co) ∧ w2.cell? ⟨A, O + k, none⟩ = some (.int .i64 (i : Int)) ∧ w2.cell? ⟨C, P + i * 3 + 1, none⟩ = some (.int .i64 (U i).c)) := Lib.hid fun w2 h => by
        have h2 := hbw.trans (h.mono hbw.size)
        exact ⟨(h.cell (p := ⟨w.heap.size, 2, none⟩) (World.block_lt_of_cell? _ _ x3)).trans x3, by rw [← hi]; exact (h2.cell (p := ⟨A, O + k, none⟩) hAl).trans (hnum k hlt), (h2.cell (p := ⟨C, P + i * 3 + 1, none⟩) hC).trans (hnC i hil).2.1⟩
      have HRS := Lib.hid (rk_set (U := U) hi)
      have n1 : (0 : Int) ≤ (k : Int) := by omega
      have n2 : (k : Int) < (n : Int) := by omega
      have n3 : (0 : Int) ≤ (i : Int) := by omega
      have n4 : (i : Int) < (lo : Int) := by omega
      have HIL := Lib.hid hil
      clear hnum hnC hsk hi hbw x1 x2 x3
      go_wp2
      refine calm_last 15 (W := wr) hmx (by kernel_rfl) (Below.refl _ _) ?_
      repeat (first
        | (refine calm_no (by rfl) ?_
           (try simp only [Act.put, List.setIfInBounds_toArray, List.set_cons_zero, List.set_cons_succ]))
        | (apply calm_yes
           focus rfl
           focus
             intro w' hw'
             obtain ⟨z1, z2, z3⟩ := HCE.out w' hw'
             go_simp
             first
               | done
               | with_reducible rfl
               | fail
           (try simp only [Act.put, List.setIfInBounds_toArray, List.set_cons_zero, List.set_cons_succ])))
      refine calm_nil ?_
      intro w20 hqw20
      have HB20 := Lib.hid hqw20
      clear hqw20
      have HO2 := Lib.hid (HOW.out.below HB20.out)
      have y1 := HO2.out.at_ i HIL.out
      rw [Nat.zero_add] at y1
      have y2 := HO2.out.fr i HIL.out
      refine wpOp_last rfl rfl ?_
      go_simp
      go_wp2
      go_roundw
      case rel => exact ⟨k + 1, by omega, by go_num, (HFR.out.then_below (HB20.out.mono HFR.out.size)).trans (Frx.setCell _ _ _ _ _ (by simp)), by rw [← HRS.out]; exact HO2.out.set HIL.out _⟩
      case measure => simp [Go.RowKit.intOf]; omega
    · obtain rfl : k = n := by omega
      go_wp2
      go_ret
      exact ⟨⟨_, lo, rfl, ⟨by omega, HOW.out.lt, HOW.out.at_, HOW.out.fr⟩⟩, hbw⟩

open Classical in
theorem runD_iff {f : Int} {ln lo : Nat} {N : Nat → N2} {U : Nat → O3} {d : Dy} : runD f ln lo N U d = true ↔ FitP f ln lo N U (rk U d.s d.n) := by unfold runD; exact decide_eq_true_iff
theorem rk_sp {lo n : Nat} {U : Nat → O3} {s : Nat → Int} (HO : ∀ i, i < lo → 1 ≤ (U i).c) : SharesP lo lo (rk U s n) U := ⟨rfl, fun i hi => by
  have := HO i hi
  simp only [fromB, decide_eq_true_eq]
  cases h : hasB s (i : Int) n with
  | true => rw [rk_yes h]; omega
  | false => rw [rk_not h]; omega⟩

set_option maxRecDepth 100000 in
set_option maxHeartbeats 4000000 in
theorem rruns_w (f : Int) (na oa pa : Option Addr) (ln cn lo co lp cp : Nat) (N : Nat → N2) (U : Nat → O3) (D : Nat → Dy) (w : World) (hlp : lp ≤ 1000000) (HD : Hid (∀ d, d < lp → (D d).n ≤ 1000000 ∧ LsP lo (D d).n (D d).s)) (HP : Hid (PlSl w pa lp D)) (HR : Hid (TreeP f ln lo N U)) (H : Hid (Tr7 w na oa ln lo N U)) :
    Calls Tryz.prog 47 #[.agg #[.int .i64 f, .slice na ln cn, .slice oa lo co], .slice pa lp cp] w fun e w' => e = .returned (.bool (allN (fun d => runD f ln lo N U (D d)) lp)) ∧ Below w.heap.size w w' := by
  have q2 := HR.out.lo2
  have BX := Lib.hid (fun (w1 : World) (hb : Below (w.alloc (.cells #[.int .i64 f, .slice na ln cn, .slice oa lo co] 25)).heap.size (w.alloc (.cells #[.int .i64 f, .slice na ln cn, .slice oa lo co] 25)) w1) => box7 hb)
  obtain ⟨WA, hWA⟩ : ∃ WA, WA = w.alloc (.cells #[.int .i64 f, .slice na ln cn, .slice oa lo co] 25) := ⟨_, rfl⟩
  have hA : Below w.heap.size w WA := by rw [hWA]; exact (Below.refl _ _).alloc (Nat.le_refl _) _
  rw [← hWA] at BX
  have HPL : Hid (PlSl WA pa lp D) := Lib.hid (HP.out.below hA)
  have HTR : Hid (∀ w2, Below WA.heap.size WA w2 → Tr7 w2 na oa ln lo N U) := Lib.hid fun w2 h => H.out.below (hA.trans (h.mono hA.size))
  have HSP : Hid (∀ d, SharesP lo lo (rk U (D d).s (D d).n) U) := Lib.hid fun d => rk_sp fun i hi => (tree_o HR.out hi).2.1.1
  have HA := Lib.hid hA
  clear hA
  go_enter Tryz.func47, Tryz.ntmps47
  go_wp2
  rw [← hWA]
  clear hWA
  go_loopw [5] (fun dd wr => ∃ d : Nat, d ≤ lp ∧ dd = .int .i64 (d : Int) ∧ allN (fun d => runD f ln lo N U (D d)) d = true ∧ Below WA.heap.size WA wr) (fun dd _ => lp - (Go.RowKit.intOf dd).toNat)
  case atStart => exact ⟨0, Nat.zero_le _, rfl, rfl, Below.refl _ _⟩
  case round =>
    obtain ⟨d, hd, rfl, hal, hbr⟩ := hrel
    have HAL := Lib.hid hal
    have HBR := Lib.hid hbr
    clear hal hbr
    by_cases hlt : d < lp
    case neg =>
      obtain rfl : d = lp := by omega
      go_wp2
      go_ret
      exact ⟨by rw [HAL.out]; rfl, HA.out.trans (HBR.out.mono HA.out.size)⟩
    case pos =>
    obtain ⟨A, O, rfl, hAl, hN⟩ := HPL.out.resolve_left (by omega)
    have HPA : Hid (∀ w2, Below WA.heap.size WA w2 → w2.cell? ⟨A, O + d, none⟩ = some (.slice (D d).a (D d).n (D d).c) ∧ IntSl w2 (D d).a (D d).n (D d).s) := Lib.hid fun w2 h => hN.below hAl h d hlt
    have n1 : (0 : Int) ≤ (d : Int) := by omega
    have n2 : (d : Int) < (lp : Int) := by omega
    clear hN
    have HCE : Hid (∀ w2, Below wr.heap.size wr w2 → (w2.cell? ⟨w.heap.size, 0, none⟩ = some (.int .i64 f) ∧ w2.cell? ⟨w.heap.size, 1, none⟩ = some (.slice na ln cn) ∧ w2.cell? ⟨w.heap.size, 2, none⟩ = some (.slice oa lo co)) ∧ w2.cell? ⟨A, O + d, none⟩ = some (.slice (D d).a (D d).n (D d).c)) := Lib.hid fun w2 h => by
      have h2 := HBR.out.trans (h.mono HBR.out.size)
      obtain ⟨y1, y2, y3, _⟩ := BX.out _ h2
      exact ⟨⟨y1, y2, y3⟩, (HPA.out _ h2).1⟩
    have HRN : Hid (∀ w2, Below wr.heap.size wr w2 → Calls Tryz.prog 48 #[.agg #[.int .i64 f, .slice na ln cn, .slice oa lo co], .slice (D d).a (D d).n (D d).c] w2 fun e w' => (∃ g cap, e = .returned (.slice (some ⟨g, 0, none⟩) lo cap) ∧ IntOwn w' w2.heap.size g lo (rk U (D d).s (D d).n)) ∧ Below w2.heap.size w2 w') := Lib.hid fun w2 h => by
      have h2 := HBR.out.trans (h.mono HBR.out.size)
      exact running_w f na oa (D d).a ln cn lo co (D d).n (D d).c N U (D d).s w2 (by omega) (HD.out d hlt).1 (Lib.hid (HTR.out _ h2)) (Lib.hid (HPA.out _ h2).2) (Lib.hid (HD.out d hlt).2.ok)
    have HFT : Hid (∀ (g cap : Nat) w2, Below wr.heap.size wr w2 → IntOwn w2 wr.heap.size g lo (rk U (D d).s (D d).n) → Calls Tryz.prog 19 #[.agg #[.int .i64 f, .slice na ln cn, .slice oa lo co], .slice (some ⟨g, 0, none⟩) lo cap] w2 fun e w' => e = .returned (.bool (runD f ln lo N U (D d))) ∧ Below w2.heap.size w2 w') := Lib.hid fun g cap w2 h ho => by
      have h2 := HBR.out.trans (h.mono HBR.out.size)
      refine (rfits_w f na oa _ ln cn lo co cap N U _ w2 HR (Lib.hid (HSP.out d)) (Lib.hid (HTR.out _ h2)) (Lib.hid (.inr ⟨g, 0, rfl, ho.lt, ho.at_⟩))).mono ?_
      rintro e w' ⟨⟨rb, rfl, hrb⟩, hv⟩
      refine ⟨?_, hv⟩
      rw [show rb = runD f ln lo N U (D d) from Bool.eq_iff_iff.2 (hrb.trans runD_iff.symm)]
    cases hB : runD f ln lo N U (D d) with
    | true =>
      have HNX := Lib.hid (allN_next (B := fun d => runD f ln lo N U (D d)) HAL.out hB)
      rw [hB] at HFT
      clear hB
      obtain ⟨⟨x1, x2, x3⟩, x4⟩ := HCE.out wr (Below.refl _ _)
      go_wp2
      go_region_law ((first
        | (go_simp; go_at_call 48; refine (HRN.out _ (below_drew (Below.refl _ _))).mono ?_; rintro e w3 ⟨⟨g, cap, rfl, ho⟩, hv3⟩; have hb3 : Below wr.heap.size wr w3 := (below_drew (Below.refl _ _)).trans hv3; have HOW := Lib.hid ho; clear x1 x2 x3 x4 ho hv3; obtain ⟨⟨x1, x2, x3⟩, x4⟩ := HCE.out w3 hb3)
        | (go_simp; go_at_call 19; refine (HFT.out g cap _ hb3 HOW.out).mono ?_; rintro e w4 ⟨rfl, hv4⟩; have HB4 := Lib.hid (hb3.trans (hv4.mono hb3.size)); clear x1 x2 x3 x4 hv4)))
      all_goals
        go_wp2
        go_roundw
        case rel => exact ⟨d + 1, by omega, by go_num, HNX.out, HBR.out.trans (HB4.out.mono HBR.out.size)⟩
        case measure => simp [Go.RowKit.intOf]; omega
    | false =>
      have HNX := Lib.hid (allN_no (B := fun d => runD f ln lo N U (D d)) hlt hB)
      rw [hB] at HFT
      clear hB
      obtain ⟨⟨x1, x2, x3⟩, x4⟩ := HCE.out wr (Below.refl _ _)
      go_wp2
      go_region_law ((first
        | (go_simp; go_at_call 48; refine (HRN.out _ (below_drew (Below.refl _ _))).mono ?_; rintro e w3 ⟨⟨g, cap, rfl, ho⟩, hv3⟩; have hb3 : Below wr.heap.size wr w3 := (below_drew (Below.refl _ _)).trans hv3; have HOW := Lib.hid ho; clear x1 x2 x3 x4 ho hv3; obtain ⟨⟨x1, x2, x3⟩, x4⟩ := HCE.out w3 hb3)
        | (go_simp; go_at_call 19; refine (HFT.out g cap _ hb3 HOW.out).mono ?_; rintro e w4 ⟨rfl, hv4⟩; have HB4 := Lib.hid (hb3.trans (hv4.mono hb3.size)); clear x1 x2 x3 x4 hv4)))
      all_goals
        go_wp2
        go_ret
        exact ⟨by rw [HNX.out]; rfl, HA.out.trans ((HBR.out.trans (HB4.out.mono HBR.out.size)).mono HA.out.size)⟩
end Go.Kn

namespace Go.Kn
open Go Go.Proofs Go.RowKit

/-- who runs on a day -/
def dB (d : Dy) : Nat → Bool := fun j => hasB d.s (j : Int) d.n
/-- who runs when one rests and another one runs instead -/
def insB (b : Nat → Bool) (gone come : Int) : Nat → Bool := fun j => decide ((j : Int) = come) || (decide ((j : Int) ≠ gone) && b j)
open Classical in
/-- whether outlets can run together -/
noncomputable def runE (f : Int) (ln lo : Nat) (N : Nat → N2) (U : Nat → O3) (b : Nat → Bool) : Bool := decide (FitP f ln lo N U (runB U b))
open Classical in
theorem runE_iff {f : Int} {ln lo : Nat} {N : Nat → N2} {U : Nat → O3} {b : Nat → Bool} : runE f ln lo N U b = true ↔ FitP f ln lo N U (runB U b) := by unfold runE; exact decide_eq_true_iff
theorem runD_eq {f : Int} {ln lo : Nat} {N : Nat → N2} {U : Nat → O3} {d : Dy} : runD f ln lo N U d = runE f ln lo N U (dB d) := Bool.eq_iff_iff.2 (runD_iff.trans runE_iff.symm)

theorem hasB_upd {lo n i : Nat} {s : Nat → Int} {gone come : Int} (H : LsP lo n s) (hi : i < n) (hs : s i = gone) (hc : hasB s come n = false) (x : Int) : hasB (updI s i come) x n = (decide (x = come) || (decide (x ≠ gone) && hasB s x n)) := by
  have hnc : ∀ k, k < n → s k ≠ come := fun k hk e => by rw [hasB_yes hk e] at hc; cases hc
  rw [Bool.eq_iff_iff, hasB_iff]
  simp only [Bool.or_eq_true, Bool.and_eq_true, decide_eq_true_eq, hasB_iff]
  constructor
  · rintro ⟨k, hk, e⟩
    unfold updI at e
    by_cases hki : k = i
    · rw [if_pos hki] at e; exact .inl e.symm
    · rw [if_neg hki] at e
      refine .inr ⟨fun e2 => ?_, k, hk, e⟩
      rcases Nat.lt_trichotomy k i with h | h | h
      · exact H.nd k i h hi (by rw [e, e2, hs])
      · exact hki h
      · exact H.nd i k h hk (by rw [e, e2, hs])
  · rintro (e | ⟨h1, k, hk, e⟩)
    · exact ⟨i, hi, by unfold updI; rw [if_pos rfl, e]⟩
    · exact ⟨k, hk, by unfold updI; rw [if_neg (fun h => h1 (by rw [← e, h, hs]))]; exact e⟩
theorem ls_upd {lo n i : Nat} {s : Nat → Int} {come : Int} (H : LsP lo n s) (hi : i < n) (hc : hasB s come n = false) (h0 : 0 ≤ come ∧ come < (lo : Int)) : LsP lo n (updI s i come) := by
  have hnc : ∀ k, k < n → s k ≠ come := fun k hk e => by rw [hasB_yes hk e] at hc; cases hc
  refine ⟨fun k hk => ?_, fun a b hab hb => ?_⟩
  · unfold updI; split
    · exact h0
    · exact H.ok k hk
  · unfold updI
    by_cases h1 : a = i
    · rw [if_pos h1, if_neg (by omega)]; exact fun e => hnc b hb e.symm
    · rw [if_neg h1]
      by_cases h2 : b = i
      · rw [if_pos h2]; exact hnc a (by omega)
      · rw [if_neg h2]; exact H.nd a b hab hb
theorem runD_upd {f : Int} {ln lo n i : Nat} {N : Nat → N2} {U : Nat → O3} {s : Nat → Int} {gone come : Int} {a a2 : Option Addr} {c c2 : Nat} (H : LsP lo n s) (hi : i < n) (hs : s i = gone) (hc : hasB s come n = false) : runD f ln lo N U ⟨a, n, c, updI s i come⟩ = runE f ln lo N U (insB (dB ⟨a2, n, c2, s⟩) gone come) := by
  rw [runD_eq]
  congr 1
  funext j
  exact hasB_upd H hi hs hc (j : Int)

/-- an exchange -/
noncomputable def SwB (f : Int) (ln lo : Nat) (N : Nat → N2) (U : Nat → O3) (D : Nat → Dy) (one other : Int) (i j : Nat) : Bool :=
  ((hasB (D i).s one (D i).n && !hasB (D j).s one (D j).n) && (hasB (D j).s other (D j).n && !hasB (D i).s other (D i).n)) && 
    (runE f ln lo N U (insB (dB (D i)) one other) && runE f ln lo N U (insB (dB (D j)) other one))

/-- the first exchange, in the order of both days; or none -/
def SwR (P : Nat → Nat → Bool) (lp : Nat) (r1 r2 re : Int) (bad : Int) : Prop :=
  (re = 0 ∧ ∃ a b : Nat, r1 = (a : Int) ∧ r2 = (b : Int) ∧ a < lp ∧ b < lp ∧ P a b = true ∧ (∀ b', b' < b → P a b' = false) ∧ ∀ a' b', a' < a → b' < lp → P a' b' = false) ∨
  (re = bad ∧ r1 = 0 ∧ r2 = 0 ∧ ∀ a' b', a' < lp → b' < lp → P a' b' = false)
theorem SwR.some {P : Nat → Nat → Bool} {lp a b : Nat} {r1 r2 re bad : Int} (h : SwR P lp r1 r2 re bad) (ha : a < lp) (hb : b < lp) (hp : P a b = true) (h1 : ∀ b', b' < b → P a b' = false) (h2 : ∀ a' b', a' < a → b' < lp → P a' b' = false) : re = 0 ∧ r1 = (a : Int) ∧ r2 = (b : Int) := by
  rcases h with ⟨h0, c, d, e1, e2, c1, c2, c3, c4, c5⟩ | ⟨_, _, _, h3⟩
  · have hac : a = c := by
      rcases Nat.lt_trichotomy a c with h | h | h
      · rw [c5 a b h hb] at hp; cases hp
      · exact h
      · rw [h2 c d h c2] at c3; cases c3
    subst hac
    have hbd : b = d := by
      rcases Nat.lt_trichotomy b d with h | h | h
      · rw [c4 b h] at hp; cases hp
      · exact h
      · rw [h1 d h] at c3; cases c3
    subst hbd
    exact ⟨h0, e1, e2⟩
  · rw [h3 a b ha hb] at hp; cases hp
theorem SwR.none {P : Nat → Nat → Bool} {lp : Nat} {r1 r2 re bad : Int} (h : SwR P lp r1 r2 re bad) (h3 : ∀ a' b', a' < lp → b' < lp → P a' b' = false) : re = bad ∧ r1 = 0 ∧ r2 = 0 := by
  rcases h with ⟨_, c, d, _, _, c1, c2, c3, _⟩ | ⟨h0, h1, h2, _⟩
  · rw [h3 c d c1 c2] at c3; cases c3
  · exact ⟨h0, h1, h2⟩
open Classical in
theorem sw_cases (P : Nat → Nat → Bool) (lp : Nat) : (∃ a b, a < lp ∧ b < lp ∧ P a b = true ∧ (∀ b', b' < b → P a b' = false) ∧ ∀ a' b', a' < a → b' < lp → P a' b' = false) ∨ ∀ a' b', a' < lp → b' < lp → P a' b' = false := by
  by_cases h : ∃ a, a < lp ∧ ∃ b, b < lp ∧ P a b = true
  · left
    obtain ⟨a, h1, h2⟩ := h
    have key : ∀ k, k < lp → (∃ b, b < lp ∧ P k b = true) → ∃ a, a < lp ∧ (∃ b, b < lp ∧ P a b = true) ∧ ∀ a' b', a' < a → b' < lp → P a' b' = false := by
      intro k
      induction k using Nat.strongRecOn with
      | ind k ih =>
        intro hk hb
        by_cases h : ∃ j, j < k ∧ ∃ b, b < lp ∧ P j b = true
        · obtain ⟨j, hj, hjb⟩ := h
          exact ih j hj (by omega) hjb
        · refine ⟨k, hk, hb, fun a' b' h1 h2 => ?_⟩
          cases e : P a' b' with
          | false => rfl
          | true => exact absurd ⟨a', h1, b', h2, e⟩ h
    obtain ⟨a, ha, hb, hm⟩ := key a h1 h2
    have key2 : ∀ k, k < lp → P a k = true → ∃ b, b < lp ∧ P a b = true ∧ ∀ b', b' < b → P a b' = false := by
      intro k
      induction k using Nat.strongRecOn with
      | ind k ih =>
        intro hk hb
        by_cases h : ∃ j, j < k ∧ P a j = true
        · obtain ⟨j, hj, hjb⟩ := h
          exact ih j hj (by omega) hjb
        · refine ⟨k, hk, hb, fun b' h1 => ?_⟩
          cases e : P a b' with
          | false => rfl
          | true => exact absurd ⟨b', h1, e⟩ h
    obtain ⟨b0, hb0, hp0⟩ := hb
    obtain ⟨b, hb, hp, hmb⟩ := key2 b0 hb0 hp0
    exact ⟨a, b, ha, hb, hp, hmb, hm⟩
  · right
    intro a' b' h1 h2
    cases e : P a' b' with
    | false => rfl
    | true => exact absurd ⟨a', h1, b', h2, e⟩ h
end Go.Kn
