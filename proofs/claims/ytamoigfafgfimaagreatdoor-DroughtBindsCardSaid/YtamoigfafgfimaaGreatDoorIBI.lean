/- Contracts of functions that the laws of this seat call, or the evaluator of closed calls and its runs. Conditions: as each theorem states them. -/
import Derived.Test.YtamoigfafgfimaaGreatDoorIB
import Derived.Test.YtamoigfafgfimaaGreatDoorIO
import Derived.Test.YtamoigfafgfimaaGreatDoorIBL
set_option linter.unusedVariables false
set_option linter.unusedSimpArgs false
namespace Go.Kn
open Go Go.Proofs Go.RowKit

set_option maxRecDepth 100000 in
set_option maxHeartbeats 1000000 in
theorem rtight_w (f : Int) (na oa sa : Option Addr) (ln cn lo co cs m : Nat) (N : Nat → N2) (U : Nat → O3) (s : Nat → Int) (w : World) (hm : m ≤ ln) (HR : Hid (TreeP f ln lo N U)) (HSP : Hid (SharesP lo lo s U)) (H : Hid (Tr7 w na oa ln lo N U)) (HS : Hid (IntSl w sa lo s)) :
    Calls Tryz.prog 76 #[.agg #[.int .i64 f, .slice na ln cn, .slice oa lo co], .slice sa lo cs, .int .i64 (m : Int)] w fun e w' => e = .returned (.bool (decide (sumB N U s m lo = capN f N m))) ∧ Below w.heap.size w w' := by
  have q1 := HR.out.l6
  have q2 := HR.out.lo2
  have hmx : Tryz.prog.follows .mixedOrders = true := by kernel_rfl
  obtain ⟨WA, hWA⟩ : ∃ WA, WA = w.alloc (.cells #[.int .i64 f, .slice na ln cn, .slice oa lo co] 25) := ⟨_, rfl⟩
  have hA : Below w.heap.size w WA := by rw [hWA]; exact (Below.refl _ _).alloc (Nat.le_refl _) _
  have hzA : WA.heap.size = w.heap.size + 1 := by rw [hWA]; simp
  have HB : Hid (∀ w2, Below WA.heap.size WA w2 → w2.cell? ⟨w.heap.size, 0, none⟩ = some (.int .i64 f) ∧ w2.cell? ⟨w.heap.size, 1, none⟩ = some (.slice na ln cn) ∧ w2.cell? ⟨w.heap.size, 2, none⟩ = some (.slice oa lo co)) := Lib.hid fun w2 h => by
    obtain ⟨c, _⟩ := bcell h
    exact ⟨(c _ _ (by omega)).trans (by rw [hWA]; simp), (c _ _ (by omega)).trans (by rw [hWA]; simp), (c _ _ (by omega)).trans (by rw [hWA]; simp)⟩
  have HT : Hid (∀ w2, Below WA.heap.size WA w2 → Hid (Tr7 w2 na oa ln lo N U)) := Lib.hid fun w2 h => Lib.hid (H.out.below (hA.trans (h.mono hA.size)))
  have HSU : Hid (∀ w', Below WA.heap.size WA w' → Calls Tryz.prog 34 #[.agg #[.int .i64 f, .slice na ln cn, .slice oa lo co], .slice sa lo cs, .int .i64 (m : Int)] w' fun e w'' => e = .returned (.int .i64 (sumB N U s m lo)) ∧ Below WA.heap.size WA w'') := Lib.hid fun w' h =>
    (sum_w f na oa sa ln cn lo co cs m N U s w' HR HSP (HT.out _ h) (Lib.hid (HS.out.below (hA.trans (h.mono hA.size))))).mono fun e w'' ⟨he, hb3⟩ => ⟨he, h.trans (hb3.mono h.size)⟩
  have HCP : Hid (∀ w', Below WA.heap.size WA w' → Calls Tryz.prog 35 #[.agg #[.int .i64 f, .slice na ln cn, .slice oa lo co], .int .i64 (m : Int)] w' fun e w'' => e = .returned (.int .i64 (capN f N m)) ∧ Below WA.heap.size WA w'') := Lib.hid fun w' h =>
    (rcap_w f na oa ln cn lo co m N U w' hm (by omega) (HT.out _ h)).mono fun e w'' ⟨he, hb3⟩ => ⟨he, h.trans (hb3.mono h.size)⟩
  obtain ⟨sb, hsb⟩ : ∃ sb, sumB N U s m lo = sb := ⟨_, rfl⟩
  obtain ⟨cp, hcp⟩ : ∃ cp, capN f N m = cp := ⟨_, rfl⟩
  rw [hsb] at HSU ⊢
  rw [hcp] at HCP ⊢
  have HA := Lib.hid hA
  clear hsb hcp hA hzA
  obtain ⟨x1, x2, x3⟩ := HB.out WA (Below.refl _ _)
  go_enter Tryz.func76, Tryz.ntmps76
  go_wp2
  rw [← hWA]
  clear hWA
  refine wp_region_calm (W := WA) hmx (by kernel_rfl) (Below.refl _ _) ?_
  repeat (first
    | (refine calm_no (by rfl) ?_
       (try simp only [Act.put, List.setIfInBounds_toArray, List.set_cons_zero, List.set_cons_succ]))
    | (apply calm_yes
       focus rfl
       focus
         intro w' hw'
         obtain ⟨z1, z2, z3⟩ := HB.out w' hw'
         go_simp
         first
           | done
           | with_reducible rfl
           | (go_at_call 34; exact HSU.out w' hw')
           | (go_at_call 35; exact HCP.out w' hw')
           | fail
       (try simp only [Act.put, List.setIfInBounds_toArray, List.set_cons_zero, List.set_cons_succ])))
  refine calm_nil ?_
  intro w7 hqw7
  clear x1 x2 x3
  go_wp2
  go_ret
  exact ⟨by simp [BEq.beq], HA.out.trans (hqw7.mono HA.out.size)⟩

set_option maxRecDepth 100000 in
set_option maxHeartbeats 4000000 in
theorem rbinds_w (f : Int) (na oa : Option Addr) (ln cn lo co i m : Nat) (N : Nat → N2) (U : Nat → O3) (t : Nat → Int) (w : World) (hi : i < lo) (hm : m ≤ ln) (HR : Hid (TreeP f ln lo N U)) (H : Hid (Tr7 w na oa ln lo N U)) (HO : Hid (Ord f lo N U (fun _ => 0) [0, 1, 2, 3] t)) :
    Calls Tryz.prog 32 #[.agg #[.int .i64 f, .slice na ln cn, .slice oa lo co], .int .i64 (i : Int), .int .i64 (m : Int)] w fun e w' => (∃ rb : Bool, e = .returned (.bool rb) ∧ (rb = true ↔ BindP f lo N U t i m)) ∧ Below w.heap.size w w' := by
  have q1 := HR.out.l6
  have q2 := HR.out.lo2
  have hmx : Tryz.prog.follows .mixedOrders = true := by kernel_rfl
  obtain ⟨WA, hWA⟩ : ∃ WA, WA = w.alloc (.cells #[.int .i64 f, .slice na ln cn, .slice oa lo co] 25) := ⟨_, rfl⟩
  have hA : Below w.heap.size w WA := by rw [hWA]; exact (Below.refl _ _).alloc (Nat.le_refl _) _
  have hzA : WA.heap.size = w.heap.size + 1 := by rw [hWA]; simp
  have HB : Hid (∀ w2, Below WA.heap.size WA w2 → w2.cell? ⟨w.heap.size, 0, none⟩ = some (.int .i64 f) ∧ w2.cell? ⟨w.heap.size, 1, none⟩ = some (.slice na ln cn) ∧ w2.cell? ⟨w.heap.size, 2, none⟩ = some (.slice oa lo co)) := Lib.hid fun w2 h => by
    obtain ⟨c, _⟩ := bcell h
    exact ⟨(c _ _ (by omega)).trans (by rw [hWA]; simp), (c _ _ (by omega)).trans (by rw [hWA]; simp), (c _ _ (by omega)).trans (by rw [hWA]; simp)⟩
  have HT : Hid (∀ w2, Below WA.heap.size WA w2 → Hid (Tr7 w2 na oa ln lo N U)) := Lib.hid fun w2 h => Lib.hid (H.out.below (hA.trans (h.mono hA.size)))
  have hs := Lib.hid (shares200 HR.out HO.out)
  have HSP : Hid (SharesP lo lo t U) := Lib.hid (sharesP_of (HO.out.vd (vd_zero HR.out)))
  obtain ⟨C, P, hoa, hC, hn⟩ := H.out.ho.resolve_left (by omega)
  have HC : Hid (∀ w2 k, Below WA.heap.size WA w2 → k < lo → w2.cell? ⟨C, P + k * 3 + 2, none⟩ = some (.int .i64 (U k).k)) := Lib.hid fun w2 k h hk => ((hA.trans (h.mono hA.size)).cell (p := ⟨C, P + k * 3 + 2, none⟩) hC).trans (hn k hk).2.2
  have HBL : Hid (∀ k w', k < lo → Below WA.heap.size WA w' → Calls Tryz.prog 33 #[.agg #[.int .i64 f, .slice na ln cn, .slice oa lo co], .int .i64 ((k : Nat) : Int), .int .i64 (m : Int)] w' fun e w'' => e = .returned (.bool (decide (m ∈ path N (U k).n.toNat))) ∧ Below WA.heap.size WA w'') := Lib.hid fun k w' hk h =>
    (below_w f na oa ln cn lo co k m N U w' hk HR (HT.out _ h)).mono fun e w'' ⟨he, hb3⟩ => ⟨he, h.trans (hb3.mono h.size)⟩
  subst hoa
  have HA := Lib.hid hA
  have n1 : (0 : Int) ≤ (i : Int) := by omega
  have n2 : (i : Int) < (lo : Int) := by omega
  clear hn hA hzA
  obtain ⟨x1, x2, x3⟩ := HB.out WA (Below.refl _ _)
  go_enter Tryz.func32, Tryz.ntmps32
  go_wp2_with (go_at_call 24; rw [← hWA]; clear hWA; refine (rshares_w f na _ ln cn lo co N U _ HR (HT.out _ (Below.refl _ _))).mono ?_; rintro e w1 ⟨⟨sa, qc, t', rfl, hsl, ho⟩, hb1⟩; obtain rfl : t' = t := ho.det HO.out; obtain ⟨A, O, rfl, hA1, hnm⟩ := hsl.resolve_left (by omega); have HNM : Hid (∀ w2, Below w1.heap.size w1 w2 → IntSl w2 (some ⟨A, O, none⟩) lo t' ∧ ∀ k, k < lo → w2.cell? ⟨A, O + k, none⟩ = some (.int .i64 (t' k))) := Lib.hid (fun w2 h => ⟨.inr ⟨_, _, rfl, Nat.lt_of_lt_of_le hA1 h.size, hnm.below hA1 h⟩, hnm.below hA1 h⟩); have HB1 := Lib.hid hb1; clear ho hsl hnm hA1; clear x1 x2 x3; obtain ⟨x1, x2, x3⟩ := HB.out _ hb1; have x4 := HC.out _ i hb1 hi)
  have wr0 : wrap64 (t' i + 1) = t' i + 1 := by have := hs.out i hi; unfold wrap64; omega
  go_loopw [9] (fun ii wr => ∃ k : Nat, k ≤ lo ∧ ii = .int .i64 (k : Int) ∧ (∀ j, j < k → m ∈ path N (U j).n.toNat → ¬ (((U i).k < (U j).k ∧ 0 < t' j) ∨ ((U j).k = (U i).k ∧ t' i + 1 < t' j))) ∧ Below WA.heap.size WA wr ∧ Below w1.heap.size w1 wr) (fun ii _ => lo - (Go.RowKit.intOf ii).toNat)
  case atStart => exact ⟨0, Nat.zero_le _, rfl, fun j hj => by omega, HB1.out, Below.refl _ _⟩
  case round =>
    obtain ⟨k, hk, rfl, hno, hbw, hbw1⟩ := hrel
    have HNO := Lib.hid hno
    have HBW := Lib.hid hbw
    have HBW1 := Lib.hid hbw1
    clear hno x1 x2 x3 x4
    obtain ⟨x1, x2, x3⟩ := HB.out _ hbw
    by_cases hlt : k < lo
    case neg =>
      obtain rfl : lo = k := by omega
      have HTI : Hid (∀ w', Below wr.heap.size wr w' → Calls Tryz.prog 76 #[.agg #[.int .i64 f, .slice na ln cn, .slice (some ⟨C, P, none⟩) lo co], .slice (some ⟨A, O, none⟩) lo qc, .int .i64 (m : Int)] w' fun e w'' => e = .returned (.bool (decide (sumB N U t' m lo = capN f N m))) ∧ Below WA.heap.size WA w'') := Lib.hid fun w' h =>
        (rtight_w f na _ _ ln cn lo co qc m N U t' w' hm HR HSP (HT.out _ (HBW.out.trans (h.mono HBW.out.size))) (Lib.hid (HNM.out w' (HBW1.out.trans (h.mono HBW1.out.size))).1)).mono fun e w'' ⟨he, hb3⟩ => ⟨he, (HBW.out.trans (h.mono HBW.out.size)).trans (hb3.mono (HBW.out.trans (h.mono HBW.out.size)).size)⟩
      have HJ := Lib.hid ((below_w f na _ ln cn lo co i m N U wr hi HR (HT.out _ hbw)))
      clear hbw hbw1
      by_cases h1 : m ∈ path N (U i).n.toNat
      · have hd : decide (m ∈ path N (U i).n.toNat) = true := decide_eq_true h1
        rw [hd] at HJ
        have H1 := Lib.hid h1
        clear h1 hd
        go_wp2_with (first
          | (go_at_call 33; refine HJ.out.mono ?_; rintro e w3 ⟨rfl, hb3⟩; clear x1 x2 x3; obtain ⟨x1, x2, x3⟩ := HB.out _ (HBW.out.trans (hb3.mono HBW.out.size)))
          | (go_at_call 76; refine (HTI.out _ hb3).mono ?_; rintro e w4 ⟨rfl, hb4⟩))
        go_ret
        exact ⟨⟨_, rfl, ⟨fun h => ⟨H1.out, of_decide_eq_true h, HNO.out⟩, fun h => decide_eq_true h.2.1⟩⟩, HA.out.trans (hb4.mono HA.out.size)⟩
      · have hd : decide (m ∈ path N (U i).n.toNat) = false := decide_eq_false h1
        rw [hd] at HJ
        have H1 := Lib.hid h1
        clear h1 hd
        go_wp2_with (go_at_call 33; refine HJ.out.mono ?_; rintro e w3 ⟨rfl, hb3⟩; clear x1 x2 x3; obtain ⟨x1, x2, x3⟩ := HB.out _ (HBW.out.trans (hb3.mono HBW.out.size)))
        go_ret
        exact ⟨⟨false, rfl, no_iff fun h => H1.out h.1⟩, HA.out.trans ((HBW.out.trans (hb3.mono HBW.out.size)).mono HA.out.size)⟩
    case pos =>
      have n3 : (0 : Int) ≤ (k : Int) := by omega
      have n4 : (k : Int) < (lo : Int) := by omega
      have HJ0 : Hid (Calls Tryz.prog 33 #[.agg #[.int .i64 f, .slice na ln cn, .slice (some ⟨C, P, none⟩) lo co], .int .i64 (k : Int), .int .i64 (m : Int)] wr fun e w'' => (e = .returned (.bool (decide (m ∈ path N (U k).n.toNat))) ∧ Below wr.heap.size wr w'') ∧ Below WA.heap.size WA w'') := Lib.hid ((below_w f na _ ln cn lo co k m N U wr hlt HR (HT.out _ hbw)).mono fun e w'' ⟨he, hb3⟩ => ⟨⟨he, hb3⟩, hbw.trans (hb3.mono hbw.size)⟩)
      clear hbw hbw1
      by_cases hp : m ∈ path N (U k).n.toNat
      case neg =>
        have hd : decide (m ∈ path N (U k).n.toNat) = false := decide_eq_false hp
        rw [hd] at HJ0
        have HP := Lib.hid hp
        clear hp hd
        go_wp2_with (go_at_call 33; refine HJ0.out.mono ?_; rintro e w3 ⟨⟨rfl, hb3⟩, hb4⟩)
        go_roundw
        case rel => exact ⟨k + 1, by omega, by go_num, fun j hj hjm => by
          by_cases e : j = k
          · subst e; exact (HP.out hjm).elim
          · exact HNO.out j (by omega) hjm, hb4, HBW1.out.trans (hb3.mono HBW1.out.size)⟩
        case measure => simp [Go.RowKit.intOf]; omega
      case pos =>
        have hd : decide (m ∈ path N (U k).n.toNat) = true := decide_eq_true hp
        rw [hd] at HJ0
        have HP := Lib.hid hp
        clear hp hd
        by_cases h1 : (U i).k < (U k).k
        · have d3 : ((U k).k == (U i).k) = false := by simp; omega
          have d1 : decide ((U i).k < (U k).k) = true := decide_eq_true h1
          by_cases h2 : 0 < t' k
          · have HTK : Hid ((((U i).k < (U k).k ∧ 0 < t' k) ∨ ((U k).k = (U i).k ∧ t' i + 1 < t' k))) := Lib.hid (.inl ⟨h1, h2⟩)
            have d2 : decide (0 < t' k) = true := decide_eq_true h2
            clear h1 h2
            go_wp2_with (go_at_call 33; refine HJ0.out.mono ?_; rintro e w3 ⟨⟨rfl, hbr⟩, hb3⟩; have HBR := Lib.hid (HBW1.out.trans (hbr.mono HBW1.out.size)); clear hbr; clear x1 x2 x3; obtain ⟨x1, x2, x3⟩ := HB.out _ hb3; have y1 := HC.out _ k hb3 hlt; have HB3 := Lib.hid hb3; have y2 := (HNM.out w3 HBR.out).2 k hlt; have y3 := (HNM.out w3 HBR.out).2 i hi)
            clear hb3
            go_quiet (fail)
            go_wp2
            go_ret
            exact ⟨⟨false, rfl, no_iff fun h => h.2.2 k hlt HP.out HTK.out⟩, HA.out.trans ((below_drewM HB3.out _).mono HA.out.size)⟩
          · have HTK : Hid (¬ (((U i).k < (U k).k ∧ 0 < t' k) ∨ ((U k).k = (U i).k ∧ t' i + 1 < t' k))) := Lib.hid (fun h => h.elim (fun h => h2 h.2) (fun h => by omega))
            have d2 : decide (0 < t' k) = false := decide_eq_false h2
            clear h1 h2
            go_wp2_with (go_at_call 33; refine HJ0.out.mono ?_; rintro e w3 ⟨⟨rfl, hbr⟩, hb3⟩; have HBR := Lib.hid (HBW1.out.trans (hbr.mono HBW1.out.size)); clear hbr; clear x1 x2 x3; obtain ⟨x1, x2, x3⟩ := HB.out _ hb3; have y1 := HC.out _ k hb3 hlt; have HB3 := Lib.hid hb3; have y2 := (HNM.out w3 HBR.out).2 k hlt; have y3 := (HNM.out w3 HBR.out).2 i hi)
            clear hb3
            go_quiet (fail)
            go_wp2
            go_roundw
            case rel => exact ⟨k + 1, by omega, by go_num, fun j hj hjm => by
              by_cases e : j = k
              · subst e; exact HTK.out
              · exact HNO.out j (by omega) hjm, below_drewM HB3.out _, below_drewM HBR.out _⟩
            case measure => simp [Go.RowKit.intOf]; omega
        · have d1 : decide ((U i).k < (U k).k) = false := decide_eq_false h1
          by_cases h3 : (U k).k = (U i).k
          · have d3 : ((U k).k == (U i).k) = true := by simp; exact h3
            by_cases h4 : t' i + 1 < t' k
            · have HTK : Hid ((((U i).k < (U k).k ∧ 0 < t' k) ∨ ((U k).k = (U i).k ∧ t' i + 1 < t' k))) := Lib.hid (.inr ⟨h3, h4⟩)
              have d4 : decide (t' i + 1 < t' k) = true := decide_eq_true h4
              clear h1 h3 h4
              go_wp2_with (go_at_call 33; refine HJ0.out.mono ?_; rintro e w3 ⟨⟨rfl, hbr⟩, hb3⟩; have HBR := Lib.hid (HBW1.out.trans (hbr.mono HBW1.out.size)); clear hbr; clear x1 x2 x3; obtain ⟨x1, x2, x3⟩ := HB.out _ hb3; have y1 := HC.out _ k hb3 hlt; have HB3 := Lib.hid hb3; have y2 := (HNM.out w3 HBR.out).2 k hlt; have y3 := (HNM.out w3 HBR.out).2 i hi)
              clear hb3
              go_quiet (fail)
              go_wp2
              go_ret
              exact ⟨⟨false, rfl, no_iff fun h => h.2.2 k hlt HP.out HTK.out⟩, HA.out.trans ((below_drewM HB3.out _).mono HA.out.size)⟩
            · have HTK : Hid (¬ (((U i).k < (U k).k ∧ 0 < t' k) ∨ ((U k).k = (U i).k ∧ t' i + 1 < t' k))) := Lib.hid (fun h => h.elim (fun h => h1 h.1) (fun h => h4 h.2))
              have d4 : decide (t' i + 1 < t' k) = false := decide_eq_false h4
              clear h1 h3 h4
              go_wp2_with (go_at_call 33; refine HJ0.out.mono ?_; rintro e w3 ⟨⟨rfl, hbr⟩, hb3⟩; have HBR := Lib.hid (HBW1.out.trans (hbr.mono HBW1.out.size)); clear hbr; clear x1 x2 x3; obtain ⟨x1, x2, x3⟩ := HB.out _ hb3; have y1 := HC.out _ k hb3 hlt; have HB3 := Lib.hid hb3; have y2 := (HNM.out w3 HBR.out).2 k hlt; have y3 := (HNM.out w3 HBR.out).2 i hi)
              clear hb3
              go_quiet (fail)
              go_wp2
              go_roundw
              case rel => exact ⟨k + 1, by omega, by go_num, fun j hj hjm => by
                by_cases e : j = k
                · subst e; exact HTK.out
                · exact HNO.out j (by omega) hjm, below_drewM HB3.out _, below_drewM HBR.out _⟩
              case measure => simp [Go.RowKit.intOf]; omega
          · have HTK : Hid (¬ (((U i).k < (U k).k ∧ 0 < t' k) ∨ ((U k).k = (U i).k ∧ t' i + 1 < t' k))) := Lib.hid (fun h => h.elim (fun h => h1 h.1) (fun h => h3 h.1))
            have d3 : ((U k).k == (U i).k) = false := by simp; omega
            clear h1 h3
            go_wp2_with (go_at_call 33; refine HJ0.out.mono ?_; rintro e w3 ⟨⟨rfl, hbr⟩, hb3⟩; have HBR := Lib.hid (HBW1.out.trans (hbr.mono HBW1.out.size)); clear hbr; clear x1 x2 x3; obtain ⟨x1, x2, x3⟩ := HB.out _ hb3; have y1 := HC.out _ k hb3 hlt; have HB3 := Lib.hid hb3; have y2 := (HNM.out w3 HBR.out).2 k hlt; have y3 := (HNM.out w3 HBR.out).2 i hi)
            clear hb3
            go_quiet (fail)
            go_wp2
            go_roundw
            case rel => exact ⟨k + 1, by omega, by go_num, fun j hj hjm => by
              by_cases e : j = k
              · subst e; exact HTK.out
              · exact HNO.out j (by omega) hjm, below_drewM HB3.out _, below_drewM HBR.out _⟩
            case measure => simp [Go.RowKit.intOf]; omega
end Go.Kn

namespace Go.Kn
open Go Go.Proofs Go.RowKit

set_option maxRecDepth 100000 in
set_option maxHeartbeats 4000000 in
theorem rwhy_w (f : Int) (na oa : Option Addr) (ln cn lo co i : Nat) (N : Nat → N2) (U : Nat → O3) (t : Nat → Int) (w : World) (hi : i < lo) (HR : Hid (TreeP f ln lo N U)) (H : Hid (Tr7 w na oa ln lo N U)) (HO : Hid (Ord f lo N U (fun _ => 0) [0, 1, 2, 3] t)) :
    Calls Tryz.prog 30 #[.agg #[.int .i64 f, .slice na ln cn, .slice oa lo co], .int .i64 (i : Int)] w fun e w' =>
      ((e = .returned (.tuple #[.int .i64 0, .bool false]) ∧ t i = (U i).c) ∨ (t i ≠ (U i).c ∧ ∃ n : Nat, e = .returned (.tuple #[.int .i64 (n : Int), .bool true]) ∧ n ≤ ln ∧ BindP f lo N U t i n ∧ ∀ m, m < n → ¬ BindP f lo N U t i m)) ∧ Below w.heap.size w w' := by
  have q1 := HR.out.l6
  have q2 := HR.out.lo2
  obtain ⟨WA, hWA⟩ : ∃ WA, WA = w.alloc (.cells #[.int .i64 f, .slice na ln cn, .slice oa lo co] 25) := ⟨_, rfl⟩
  have hA : Below w.heap.size w WA := by rw [hWA]; exact (Below.refl _ _).alloc (Nat.le_refl _) _
  have hzA : WA.heap.size = w.heap.size + 1 := by rw [hWA]; simp
  have HB : Hid (∀ w2, Below WA.heap.size WA w2 → w2.cell? ⟨w.heap.size, 0, none⟩ = some (.int .i64 f) ∧ w2.cell? ⟨w.heap.size, 1, none⟩ = some (.slice na ln cn) ∧ w2.cell? ⟨w.heap.size, 2, none⟩ = some (.slice oa lo co)) := Lib.hid fun w2 h => by
    obtain ⟨c, _⟩ := bcell h
    exact ⟨(c _ _ (by omega)).trans (by rw [hWA]; simp), (c _ _ (by omega)).trans (by rw [hWA]; simp), (c _ _ (by omega)).trans (by rw [hWA]; simp)⟩
  have HT : Hid (∀ w2, Below WA.heap.size WA w2 → Hid (Tr7 w2 na oa ln lo N U)) := Lib.hid fun w2 h => Lib.hid (H.out.below (hA.trans (h.mono hA.size)))
  obtain ⟨C, P, hoa, hC, hn⟩ := H.out.ho.resolve_left (by omega)
  have HC : Hid (∀ w2, Below WA.heap.size WA w2 → w2.cell? ⟨C, P + i * 3 + 1, none⟩ = some (.int .i64 (U i).c)) := Lib.hid fun w2 h => ((hA.trans (h.mono hA.size)).cell (p := ⟨C, P + i * 3 + 1, none⟩) hC).trans (hn i hi).2.1
  have HSH : Hid (∀ w2, Below WA.heap.size WA w2 → Calls Tryz.prog 24 #[.agg #[.int .i64 f, .slice na ln cn, .slice oa lo co]] w2 fun e w' =>
      (∃ A O cs, e = .returned (.slice (some ⟨A, O, none⟩) lo cs) ∧ w'.cell? ⟨A, O + i, none⟩ = some (.int .i64 (t i))) ∧ Below WA.heap.size WA w') := Lib.hid fun w2 h => by
    refine (rshares_w f na oa ln cn lo co N U w2 HR (HT.out _ h)).mono ?_
    rintro e w' ⟨⟨sa, cs, t', he, hs, ho⟩, hb⟩
    obtain rfl : t' = t := ho.det HO.out
    obtain ⟨A, O, rfl, hA2, hnm⟩ := hs.resolve_left (by omega)
    exact ⟨⟨A, O, cs, he, hnm i hi⟩, h.trans (hb.mono h.size)⟩
  have HBI : Hid (∀ k w2, k ≤ ln → Below WA.heap.size WA w2 → Calls Tryz.prog 32 #[.agg #[.int .i64 f, .slice na ln cn, .slice oa lo co], .int .i64 (i : Int), .int .i64 ((k : Nat) : Int)] w2 fun e w' => (∃ rb : Bool, e = .returned (.bool rb) ∧ (rb = true ↔ BindP f lo N U t i k)) ∧ Below WA.heap.size WA w') := Lib.hid fun k w2 hk h =>
    (rbinds_w f na oa ln cn lo co i k N U t w2 hi hk HR (HT.out _ h) HO).mono fun e w' ⟨he, hb⟩ => ⟨he, h.trans (hb.mono h.size)⟩
  have HEX := Lib.hid (bind_ex HR.out HO.out hi)
  subst hoa
  have HA := Lib.hid hA
  have n1 : (0 : Int) ≤ (i : Int) := by omega
  have n2 : (i : Int) < (lo : Int) := by omega
  clear hn hA hzA
  obtain ⟨x1, x2, x3⟩ := HB.out WA (Below.refl _ _)
  have x4 := HC.out WA (Below.refl _ _)
  by_cases he : t i = (U i).c
  case pos =>
    have d5 : (t i == (U i).c) = true := by simp; exact he
    have HE := Lib.hid he
    clear he
    go_enter Tryz.func30, Tryz.ntmps30
    go_wp2
    rw [← hWA]
    clear hWA
    go_region_law ((first
      | (go_simp; go_at_call 24; refine (HSH.out _ (by first | exact Below.refl _ _ | exact below_drew (Below.refl _ _))).mono ?_; rintro e w4 ⟨⟨A, O, cs, rfl, y1⟩, hb4⟩; have HB4 := Lib.hid hb4; clear x1 x2 x3 x4 hb4; obtain ⟨x1, x2, x3⟩ := HB.out _ HB4.out; have x4 := HC.out _ HB4.out)))
    all_goals
      go_wp2
      refine bodyPost_ret (v := .tuple #[.int .i64 0, .bool false]) (by simp [results, Tryz.results30, go_sem]) rfl ?_
      exact ⟨.inl ⟨rfl, HE.out⟩, HA.out.trans (HB4.out.mono HA.out.size)⟩
  case neg =>
    have d5 : (t i == (U i).c) = false := by simp; exact he
    have HE := Lib.hid he
    clear he
    go_enter Tryz.func30, Tryz.ntmps30
    go_wp2
    rw [← hWA]
    clear hWA
    go_region_law ((first
      | (go_simp; go_at_call 24; refine (HSH.out _ (by first | exact Below.refl _ _ | exact below_drew (Below.refl _ _))).mono ?_; rintro e w4 ⟨⟨A, O, cs, rfl, y1⟩, hb4⟩; have HB4 := Lib.hid hb4; clear x1 x2 x3 x4 hb4; obtain ⟨x1, x2, x3⟩ := HB.out _ HB4.out; have x4 := HC.out _ HB4.out)))
    all_goals
      have d6 : ¬ t i = (U i).c := HE.out
      go_wp2
      clear x1 x2 x3 x4 y1 d5 d6
      go_loopw [6] (fun ii wr => ∃ k : Nat, k ≤ ln + 1 ∧ ii = .int .i64 (k : Int) ∧ (∀ m, m < k → ¬ BindP f lo N U t i m) ∧ Below WA.heap.size WA wr) (fun ii _ => ln + 1 - (Go.RowKit.intOf ii).toNat)
      case atStart => exact ⟨0, Nat.zero_le _, rfl, fun j hj => by omega, HB4.out⟩
      case round =>
        obtain ⟨k, hk, rfl, hno, hbw⟩ := hrel
        have HNO := Lib.hid hno
        have HBW := Lib.hid hbw
        clear hno hbw
        obtain ⟨x1, x2, x3⟩ := HB.out _ HBW.out
        by_cases hlt : k < ln + 1
        · have n3 : (k : Int) ≤ (ln : Int) := by omega
          go_wp2_with (go_at_call 32; refine (HBI.out k _ (by omega) HBW.out).mono ?_; rintro e w9 ⟨⟨rb, rfl, hrb⟩, hb9⟩; have HRB := Lib.hid hrb; clear hrb; have HB9 := Lib.hid hb9; clear hb9; cases hrv : rb <;> (have HRV := Lib.hid hrv; clear hrv))
          · go_roundw
            case rel => exact ⟨k + 1, by omega, by go_num, fun m hm hp => by
              by_cases e : m = k
              · subst e; have := HRB.out.2 hp; rw [HRV.out] at this; cases this
              · exact HNO.out m (by omega) hp, HB9.out⟩
            case measure => simp [Go.RowKit.intOf]; omega
          · refine bodyPost_ret (v := .tuple #[.int .i64 (k : Int), .bool true]) (by simp [results, Tryz.results30, go_sem]) rfl ⟨.inr ⟨HE.out, k, rfl, by omega, HRB.out.1 HRV.out, HNO.out⟩, HA.out.trans (HB9.out.mono HA.out.size)⟩
        · exact absurd (HEX.out HE.out) (fun ⟨m, hm, hp⟩ => HNO.out m (by omega) hp)
end Go.Kn

namespace Go.Kn
open Go Go.Proofs Go.RowKit

set_option maxRecDepth 100000 in
set_option maxHeartbeats 2000000 in
theorem dbinds_bad1 (f : Int) (na oa : Option Addr) (ln cn lo co : Nat) (N : Nat → N2) (U : Nat → O3) (z y : Int) (w : World) (hls : ln ≤ 1000000) (hlt : lo ≤ 1000000) (H : Hid (Tr7 w na oa ln lo N U)) (HR : Hid (¬ TreeP f ln lo N U)) :
    Calls Tryz.prog 27 #[.agg #[.int .i64 f, .slice na ln cn, .slice oa lo co], .int .i64 z, .int .i64 y] w fun e w' => e = .returned (.tuple #[.bool false, .int .i64 2]) ∧ Below w.heap.size w w' := by
  have BX := Lib.hid (fun (w1 : World) (hb : Below (w.alloc (.cells #[.int .i64 f, .slice na ln cn, .slice oa lo co] 25)).heap.size (w.alloc (.cells #[.int .i64 f, .slice na ln cn, .slice oa lo co] 25)) w1) => box7 hb)
  have HN : Hid (∀ w1, Below (w.alloc (.cells #[.int .i64 f, .slice na ln cn, .slice oa lo co] 25)).heap.size (w.alloc (.cells #[.int .i64 f, .slice na ln cn, .slice oa lo co] 25)) w1 → Hid (Tr7 w1 na oa ln lo N U)) := Lib.hid fun w1 h => Lib.hid (H.out.below (below_al h))
  have hb : Below (w.alloc (.cells #[.int .i64 f, .slice na ln cn, .slice oa lo co] 25)).heap.size (w.alloc (.cells #[.int .i64 f, .slice na ln cn, .slice oa lo co] 25)) (w.alloc (.cells #[.int .i64 f, .slice na ln cn, .slice oa lo co] 25)) := Below.refl _ _
  obtain ⟨x1, x2, x3, x4⟩ := BX.out _ hb
  clear H
  go_enter Tryz.func27, Tryz.ntmps27
  go_wp2_with (first
    | (go_at_call 61; refine (isTree_w f na oa ln cn lo co N U _ hls hlt (HN.out _ hb)).mono ?_; rintro e wl ⟨⟨rb, rfl, hrb⟩, hv⟩; obtain rfl : rb = false := (by cases rb <;> first | rfl | exact (HR.out (hrb.1 rfl)).elim); clear hrb; (try replace hbs := hbs.trans (hv.mono hbs.size)); replace hb := hb.trans (hv.mono hb.size); clear x1 x2 x3 x4; obtain ⟨x1, x2, x3, x4⟩ := BX.out _ hb))
  refine bodyPost_ret (v := .tuple #[.bool false, .int .i64 2]) (by simp [results, Tryz.results27, go_sem]) rfl ⟨rfl, below_al hb⟩

set_option maxRecDepth 100000 in
set_option maxHeartbeats 2000000 in
theorem dbinds_bad2 (f : Int) (na oa : Option Addr) (ln cn lo co : Nat) (N : Nat → N2) (U : Nat → O3) (z y : Int) (w : World) (hls : ln ≤ 1000000) (hlt : lo ≤ 1000000) (H : Hid (Tr7 w na oa ln lo N U)) (HR : Hid (TreeP f ln lo N U)) (HO : Hid (fromB 0 ((lo : Int) - 1) z = false)) :
    Calls Tryz.prog 27 #[.agg #[.int .i64 f, .slice na ln cn, .slice oa lo co], .int .i64 z, .int .i64 y] w fun e w' => e = .returned (.tuple #[.bool false, .int .i64 2]) ∧ Below w.heap.size w w' := by
  have BX := Lib.hid (fun (w1 : World) (hb : Below (w.alloc (.cells #[.int .i64 f, .slice na ln cn, .slice oa lo co] 25)).heap.size (w.alloc (.cells #[.int .i64 f, .slice na ln cn, .slice oa lo co] 25)) w1) => box7 hb)
  have HN : Hid (∀ w1, Below (w.alloc (.cells #[.int .i64 f, .slice na ln cn, .slice oa lo co] 25)).heap.size (w.alloc (.cells #[.int .i64 f, .slice na ln cn, .slice oa lo co] 25)) w1 → Hid (Tr7 w1 na oa ln lo N U)) := Lib.hid fun w1 h => Lib.hid (H.out.below (below_al h))
  have hb : Below (w.alloc (.cells #[.int .i64 f, .slice na ln cn, .slice oa lo co] 25)).heap.size (w.alloc (.cells #[.int .i64 f, .slice na ln cn, .slice oa lo co] 25)) (w.alloc (.cells #[.int .i64 f, .slice na ln cn, .slice oa lo co] 25)) := Below.refl _ _
  obtain ⟨x1, x2, x3, x4⟩ := BX.out _ hb
  clear H
  go_enter Tryz.func27, Tryz.ntmps27
  go_wp2_with (first
    | (go_at_call 61; refine (isTree_w f na oa ln cn lo co N U _ hls hlt (HN.out _ hb)).mono ?_; rintro e wl ⟨⟨rb, rfl, hrb⟩, hv⟩; obtain rfl : rb = true := hrb.2 HR.out; clear hrb; (try replace hbs := hbs.trans (hv.mono hbs.size)); replace hb := hb.trans (hv.mono hb.size); clear x1 x2 x3 x4; obtain ⟨x1, x2, x3, x4⟩ := BX.out _ hb)
    | (go_at_call 72; refine (isOutlet_w f _ na oa ln cn lo co _ hlt).mono ?_; rw [HO.out]; rintro e wl ⟨rfl, hv⟩; (try replace hbs := hbs.trans (hv.mono hbs.size)); replace hb := hb.trans (hv.mono hb.size); clear x1 x2 x3 x4; obtain ⟨x1, x2, x3, x4⟩ := BX.out _ hb))
  refine bodyPost_ret (v := .tuple #[.bool false, .int .i64 2]) (by simp [results, Tryz.results27, go_sem]) rfl ⟨rfl, below_al hb⟩

set_option maxRecDepth 100000 in
set_option maxHeartbeats 2000000 in
theorem dbinds_bad3 (f : Int) (na oa : Option Addr) (ln cn lo co : Nat) (N : Nat → N2) (U : Nat → O3) (z y : Int) (w : World) (hls : ln ≤ 1000000) (hlt : lo ≤ 1000000) (H : Hid (Tr7 w na oa ln lo N U)) (HR : Hid (TreeP f ln lo N U)) (HO : Hid (fromB 0 ((lo : Int) - 1) z = true)) (HM : Hid (fromB 0 (ln : Int) y = false)) :
    Calls Tryz.prog 27 #[.agg #[.int .i64 f, .slice na ln cn, .slice oa lo co], .int .i64 z, .int .i64 y] w fun e w' => e = .returned (.tuple #[.bool false, .int .i64 2]) ∧ Below w.heap.size w w' := by
  have BX := Lib.hid (fun (w1 : World) (hb : Below (w.alloc (.cells #[.int .i64 f, .slice na ln cn, .slice oa lo co] 25)).heap.size (w.alloc (.cells #[.int .i64 f, .slice na ln cn, .slice oa lo co] 25)) w1) => box7 hb)
  have HN : Hid (∀ w1, Below (w.alloc (.cells #[.int .i64 f, .slice na ln cn, .slice oa lo co] 25)).heap.size (w.alloc (.cells #[.int .i64 f, .slice na ln cn, .slice oa lo co] 25)) w1 → Hid (Tr7 w1 na oa ln lo N U)) := Lib.hid fun w1 h => Lib.hid (H.out.below (below_al h))
  have hb : Below (w.alloc (.cells #[.int .i64 f, .slice na ln cn, .slice oa lo co] 25)).heap.size (w.alloc (.cells #[.int .i64 f, .slice na ln cn, .slice oa lo co] 25)) (w.alloc (.cells #[.int .i64 f, .slice na ln cn, .slice oa lo co] 25)) := Below.refl _ _
  obtain ⟨x1, x2, x3, x4⟩ := BX.out _ hb
  clear H
  go_enter Tryz.func27, Tryz.ntmps27
  go_wp2_with (first
    | (go_at_call 61; refine (isTree_w f na oa ln cn lo co N U _ hls hlt (HN.out _ hb)).mono ?_; rintro e wl ⟨⟨rb, rfl, hrb⟩, hv⟩; obtain rfl : rb = true := hrb.2 HR.out; clear hrb; (try replace hbs := hbs.trans (hv.mono hbs.size)); replace hb := hb.trans (hv.mono hb.size); clear x1 x2 x3 x4; obtain ⟨x1, x2, x3, x4⟩ := BX.out _ hb)
    | (go_at_call 72; refine (isOutlet_w f _ na oa ln cn lo co _ hlt).mono ?_; rw [HO.out]; rintro e wl ⟨rfl, hv⟩; (try replace hbs := hbs.trans (hv.mono hbs.size)); replace hb := hb.trans (hv.mono hb.size); clear x1 x2 x3 x4; obtain ⟨x1, x2, x3, x4⟩ := BX.out _ hb)
    | (go_at_call 73; refine (isNode_w f _ na oa ln cn lo co _).mono ?_; rw [HM.out]; rintro e wl ⟨rfl, hv⟩; (try replace hbs := hbs.trans (hv.mono hbs.size)); replace hb := hb.trans (hv.mono hb.size); clear x1 x2 x3 x4; obtain ⟨x1, x2, x3, x4⟩ := BX.out _ hb))
  refine bodyPost_ret (v := .tuple #[.bool false, .int .i64 2]) (by simp [results, Tryz.results27, go_sem]) rfl ⟨rfl, below_al hb⟩

set_option maxRecDepth 100000 in
set_option maxHeartbeats 2000000 in
theorem dwhy_bad1 (f : Int) (na oa : Option Addr) (ln cn lo co : Nat) (N : Nat → N2) (U : Nat → O3) (z : Int) (w : World) (hls : ln ≤ 1000000) (hlt : lo ≤ 1000000) (H : Hid (Tr7 w na oa ln lo N U)) (HR : Hid (¬ TreeP f ln lo N U)) :
    Calls Tryz.prog 28 #[.agg #[.int .i64 f, .slice na ln cn, .slice oa lo co], .int .i64 z] w fun e w' => e = .returned (.tuple #[.int .i64 0, .int .i64 2]) ∧ Below w.heap.size w w' := by
  have BX := Lib.hid (fun (w1 : World) (hb : Below (w.alloc (.cells #[.int .i64 f, .slice na ln cn, .slice oa lo co] 25)).heap.size (w.alloc (.cells #[.int .i64 f, .slice na ln cn, .slice oa lo co] 25)) w1) => box7 hb)
  have HN : Hid (∀ w1, Below (w.alloc (.cells #[.int .i64 f, .slice na ln cn, .slice oa lo co] 25)).heap.size (w.alloc (.cells #[.int .i64 f, .slice na ln cn, .slice oa lo co] 25)) w1 → Hid (Tr7 w1 na oa ln lo N U)) := Lib.hid fun w1 h => Lib.hid (H.out.below (below_al h))
  have hb : Below (w.alloc (.cells #[.int .i64 f, .slice na ln cn, .slice oa lo co] 25)).heap.size (w.alloc (.cells #[.int .i64 f, .slice na ln cn, .slice oa lo co] 25)) (w.alloc (.cells #[.int .i64 f, .slice na ln cn, .slice oa lo co] 25)) := Below.refl _ _
  obtain ⟨x1, x2, x3, x4⟩ := BX.out _ hb
  clear H
  go_enter Tryz.func28, Tryz.ntmps28
  go_wp2_with (first
    | (go_at_call 61; refine (isTree_w f na oa ln cn lo co N U _ hls hlt (HN.out _ hb)).mono ?_; rintro e wl ⟨⟨rb, rfl, hrb⟩, hv⟩; obtain rfl : rb = false := (by cases rb <;> first | rfl | exact (HR.out (hrb.1 rfl)).elim); clear hrb; (try replace hbs := hbs.trans (hv.mono hbs.size)); replace hb := hb.trans (hv.mono hb.size); clear x1 x2 x3 x4; obtain ⟨x1, x2, x3, x4⟩ := BX.out _ hb))
  refine bodyPost_ret (v := .tuple #[.int .i64 0, .int .i64 2]) (by simp [results, Tryz.results28, go_sem]) rfl ⟨rfl, below_al hb⟩

set_option maxRecDepth 100000 in
set_option maxHeartbeats 2000000 in
theorem dwhy_bad2 (f : Int) (na oa : Option Addr) (ln cn lo co : Nat) (N : Nat → N2) (U : Nat → O3) (z : Int) (w : World) (hls : ln ≤ 1000000) (hlt : lo ≤ 1000000) (H : Hid (Tr7 w na oa ln lo N U)) (HR : Hid (TreeP f ln lo N U)) (HO : Hid (fromB 0 ((lo : Int) - 1) z = false)) :
    Calls Tryz.prog 28 #[.agg #[.int .i64 f, .slice na ln cn, .slice oa lo co], .int .i64 z] w fun e w' => e = .returned (.tuple #[.int .i64 0, .int .i64 2]) ∧ Below w.heap.size w w' := by
  have BX := Lib.hid (fun (w1 : World) (hb : Below (w.alloc (.cells #[.int .i64 f, .slice na ln cn, .slice oa lo co] 25)).heap.size (w.alloc (.cells #[.int .i64 f, .slice na ln cn, .slice oa lo co] 25)) w1) => box7 hb)
  have HN : Hid (∀ w1, Below (w.alloc (.cells #[.int .i64 f, .slice na ln cn, .slice oa lo co] 25)).heap.size (w.alloc (.cells #[.int .i64 f, .slice na ln cn, .slice oa lo co] 25)) w1 → Hid (Tr7 w1 na oa ln lo N U)) := Lib.hid fun w1 h => Lib.hid (H.out.below (below_al h))
  have hb : Below (w.alloc (.cells #[.int .i64 f, .slice na ln cn, .slice oa lo co] 25)).heap.size (w.alloc (.cells #[.int .i64 f, .slice na ln cn, .slice oa lo co] 25)) (w.alloc (.cells #[.int .i64 f, .slice na ln cn, .slice oa lo co] 25)) := Below.refl _ _
  obtain ⟨x1, x2, x3, x4⟩ := BX.out _ hb
  clear H
  go_enter Tryz.func28, Tryz.ntmps28
  go_wp2_with (first
    | (go_at_call 61; refine (isTree_w f na oa ln cn lo co N U _ hls hlt (HN.out _ hb)).mono ?_; rintro e wl ⟨⟨rb, rfl, hrb⟩, hv⟩; obtain rfl : rb = true := hrb.2 HR.out; clear hrb; (try replace hbs := hbs.trans (hv.mono hbs.size)); replace hb := hb.trans (hv.mono hb.size); clear x1 x2 x3 x4; obtain ⟨x1, x2, x3, x4⟩ := BX.out _ hb)
    | (go_at_call 72; refine (isOutlet_w f _ na oa ln cn lo co _ hlt).mono ?_; rw [HO.out]; rintro e wl ⟨rfl, hv⟩; (try replace hbs := hbs.trans (hv.mono hbs.size)); replace hb := hb.trans (hv.mono hb.size); clear x1 x2 x3 x4; obtain ⟨x1, x2, x3, x4⟩ := BX.out _ hb))
  refine bodyPost_ret (v := .tuple #[.int .i64 0, .int .i64 2]) (by simp [results, Tryz.results28, go_sem]) rfl ⟨rfl, below_al hb⟩

set_option maxRecDepth 100000 in
set_option maxHeartbeats 4000000 in
theorem lawbi_a (f : Int) (na oa : Option Addr) (ln cn lo co : Nat) (N : Nat → N2) (U : Nat → O3) (z y : Int) (w : World) (hls : ln ≤ maxLen) (hlt : lo ≤ maxLen) (H : Hid (Tr7 w na oa ln lo N U)) (K : Hid KnownOk) (hq : ¬ (ln ≤ 8 ∧ lo ≤ 10)) :
    Calls Tryz.prog 5 #[.agg #[.int .i64 f, .slice na ln cn, .slice oa lo co], .int .i64 z, .int .i64 y] w
      fun e w' => e = .returned (.bool true) ∧ Below w.heap.size w w' := by
  have hsh : decide (ln ≤ 8 ∧ lo ≤ 10) = false := decide_eq_false hq
  have BX := Lib.hid (fun (w1 : World) (hb : Below (w.alloc (.cells #[.int .i64 f, .slice na ln cn, .slice oa lo co] 25)).heap.size (w.alloc (.cells #[.int .i64 f, .slice na ln cn, .slice oa lo co] 25)) w1) => box7 hb)
  have HN : Hid (∀ w1, Below (w.alloc (.cells #[.int .i64 f, .slice na ln cn, .slice oa lo co] 25)).heap.size (w.alloc (.cells #[.int .i64 f, .slice na ln cn, .slice oa lo co] 25)) w1 → Hid (Tr7 w1 na oa ln lo N U)) := Lib.hid fun w1 h => Lib.hid (H.out.below (below_al h))
  have hb : Below (w.alloc (.cells #[.int .i64 f, .slice na ln cn, .slice oa lo co] 25)).heap.size (w.alloc (.cells #[.int .i64 f, .slice na ln cn, .slice oa lo co] 25)) (w.alloc (.cells #[.int .i64 f, .slice na ln cn, .slice oa lo co] 25)) := Below.refl _ _
  obtain ⟨x1, x2, x3, x4⟩ := BX.out _ hb
  clear H
  go_enter Tryz.func5, Tryz.ntmps5
  go_wp2_with (first
    | (go_at_call 14; refine (short_w _ _ _ _ _ _ _ _ hls hlt).mono ?_; rw [hsh]; rintro e wl ⟨rfl, hv⟩; (try replace hbs := hbs.trans (hv.mono hbs.size)); replace hb := hb.trans (hv.mono hb.size); clear x1 x2 x3 x4; obtain ⟨x1, x2, x3, x4⟩ := BX.out _ hb)
    | (go_at_call 15; refine (K.out _).mono ?_; rintro e wl ⟨rfl, hv⟩; (try replace hbs := hbs.trans (hv.mono hbs.size)); replace hb := hb.trans (hv.mono hb.size); clear x1 x2 x3 x4; obtain ⟨x1, x2, x3, x4⟩ := BX.out _ hb))
  go_ret
  exact ⟨rfl, below_al hb⟩

set_option maxRecDepth 100000 in
set_option maxHeartbeats 4000000 in
theorem lawbi_b (f : Int) (na oa : Option Addr) (ln cn lo co : Nat) (N : Nat → N2) (U : Nat → O3) (z y : Int) (w : World) (hls : ln ≤ 1000000) (hlt : lo ≤ 1000000) (H : Hid (Tr7 w na oa ln lo N U)) (K : Hid KnownOk) (hq : ln ≤ 8 ∧ lo ≤ 10) (HR : Hid (¬ TreeP f ln lo N U)) :
    Calls Tryz.prog 5 #[.agg #[.int .i64 f, .slice na ln cn, .slice oa lo co], .int .i64 z, .int .i64 y] w
      fun e w' => e = .returned (.bool true) ∧ Below w.heap.size w w' := by
  have hsh : decide (ln ≤ 8 ∧ lo ≤ 10) = true := decide_eq_true hq
  have BX := Lib.hid (fun (w1 : World) (hb : Below (w.alloc (.cells #[.int .i64 f, .slice na ln cn, .slice oa lo co] 25)).heap.size (w.alloc (.cells #[.int .i64 f, .slice na ln cn, .slice oa lo co] 25)) w1) => box7 hb)
  have HN : Hid (∀ w1, Below (w.alloc (.cells #[.int .i64 f, .slice na ln cn, .slice oa lo co] 25)).heap.size (w.alloc (.cells #[.int .i64 f, .slice na ln cn, .slice oa lo co] 25)) w1 → Hid (Tr7 w1 na oa ln lo N U)) := Lib.hid fun w1 h => Lib.hid (H.out.below (below_al h))
  have hb : Below (w.alloc (.cells #[.int .i64 f, .slice na ln cn, .slice oa lo co] 25)).heap.size (w.alloc (.cells #[.int .i64 f, .slice na ln cn, .slice oa lo co] 25)) (w.alloc (.cells #[.int .i64 f, .slice na ln cn, .slice oa lo co] 25)) := Below.refl _ _
  obtain ⟨x1, x2, x3, x4⟩ := BX.out _ hb
  clear H
  go_enter Tryz.func5, Tryz.ntmps5
  go_wp2_with (first
    | (go_at_call 14; refine (short_w _ _ _ _ _ _ _ _ (by unfold maxLen; omega) (by unfold maxLen; omega)).mono ?_; rw [hsh]; rintro e wl ⟨rfl, hv⟩; (try replace hbs := hbs.trans (hv.mono hbs.size)); replace hb := hb.trans (hv.mono hb.size); clear x1 x2 x3 x4; obtain ⟨x1, x2, x3, x4⟩ := BX.out _ hb)
    | (go_at_call 27; refine (dbinds_bad1 f na oa ln cn lo co N U z y _ hls hlt (HN.out _ hb) HR).mono ?_; rintro e wl ⟨rfl, hv⟩; (try replace hbs := hbs.trans (hv.mono hbs.size)); replace hb := hb.trans (hv.mono hb.size); clear x1 x2 x3 x4; obtain ⟨x1, x2, x3, x4⟩ := BX.out _ hb)
    | (go_at_call 28; refine (dwhy_bad1 f na oa ln cn lo co N U z _ hls hlt (HN.out _ hb) HR).mono ?_; rintro e wl ⟨rfl, hv⟩; (try replace hbs := hbs.trans (hv.mono hbs.size)); replace hb := hb.trans (hv.mono hb.size); clear x1 x2 x3 x4; obtain ⟨x1, x2, x3, x4⟩ := BX.out _ hb)
    | (go_at_call 18; refine (tree_w _ _ _ _ _ _ _ N U _ hls hlt (HN.out _ hb)).mono ?_; rintro e wl ⟨⟨rb, rfl, hrb⟩, hv⟩; obtain rfl : rb = false := (by cases rb <;> first | rfl | exact (HR.out (hrb.1 rfl)).elim); clear hrb; (try replace hbs := hbs.trans (hv.mono hbs.size)); replace hb := hb.trans (hv.mono hb.size); clear x1 x2 x3 x4; obtain ⟨x1, x2, x3, x4⟩ := BX.out _ hb)
    | (go_at_call 15; refine (K.out _).mono ?_; rintro e wl ⟨rfl, hv⟩; (try replace hbs := hbs.trans (hv.mono hbs.size)); replace hb := hb.trans (hv.mono hb.size); clear x1 x2 x3 x4; obtain ⟨x1, x2, x3, x4⟩ := BX.out _ hb))
  go_ret
  exact ⟨rfl, below_al hb⟩

set_option maxRecDepth 100000 in
set_option maxHeartbeats 4000000 in
theorem lawbi_c (f : Int) (na oa : Option Addr) (ln cn lo co : Nat) (N : Nat → N2) (U : Nat → O3) (z y : Int) (w : World) (hls : ln ≤ 1000000) (hlt : lo ≤ 1000000) (H : Hid (Tr7 w na oa ln lo N U)) (K : Hid KnownOk) (hq : ln ≤ 8 ∧ lo ≤ 10) (HR : Hid (TreeP f ln lo N U)) (HO : Hid (fromB 0 ((lo : Int) - 1) z = false)) :
    Calls Tryz.prog 5 #[.agg #[.int .i64 f, .slice na ln cn, .slice oa lo co], .int .i64 z, .int .i64 y] w
      fun e w' => e = .returned (.bool true) ∧ Below w.heap.size w w' := by
  have hsh : decide (ln ≤ 8 ∧ lo ≤ 10) = true := decide_eq_true hq
  have BX := Lib.hid (fun (w1 : World) (hb : Below (w.alloc (.cells #[.int .i64 f, .slice na ln cn, .slice oa lo co] 25)).heap.size (w.alloc (.cells #[.int .i64 f, .slice na ln cn, .slice oa lo co] 25)) w1) => box7 hb)
  have HN : Hid (∀ w1, Below (w.alloc (.cells #[.int .i64 f, .slice na ln cn, .slice oa lo co] 25)).heap.size (w.alloc (.cells #[.int .i64 f, .slice na ln cn, .slice oa lo co] 25)) w1 → Hid (Tr7 w1 na oa ln lo N U)) := Lib.hid fun w1 h => Lib.hid (H.out.below (below_al h))
  have hb : Below (w.alloc (.cells #[.int .i64 f, .slice na ln cn, .slice oa lo co] 25)).heap.size (w.alloc (.cells #[.int .i64 f, .slice na ln cn, .slice oa lo co] 25)) (w.alloc (.cells #[.int .i64 f, .slice na ln cn, .slice oa lo co] 25)) := Below.refl _ _
  obtain ⟨x1, x2, x3, x4⟩ := BX.out _ hb
  clear H
  go_enter Tryz.func5, Tryz.ntmps5
  go_wp2_with (first
    | (go_at_call 14; refine (short_w _ _ _ _ _ _ _ _ (by unfold maxLen; omega) (by unfold maxLen; omega)).mono ?_; rw [hsh]; rintro e wl ⟨rfl, hv⟩; (try replace hbs := hbs.trans (hv.mono hbs.size)); replace hb := hb.trans (hv.mono hb.size); clear x1 x2 x3 x4; obtain ⟨x1, x2, x3, x4⟩ := BX.out _ hb)
    | (go_at_call 27; refine (dbinds_bad2 f na oa ln cn lo co N U z y _ hls hlt (HN.out _ hb) HR HO).mono ?_; rintro e wl ⟨rfl, hv⟩; (try replace hbs := hbs.trans (hv.mono hbs.size)); replace hb := hb.trans (hv.mono hb.size); clear x1 x2 x3 x4; obtain ⟨x1, x2, x3, x4⟩ := BX.out _ hb)
    | (go_at_call 28; refine (dwhy_bad2 f na oa ln cn lo co N U z _ hls hlt (HN.out _ hb) HR HO).mono ?_; rintro e wl ⟨rfl, hv⟩; (try replace hbs := hbs.trans (hv.mono hbs.size)); replace hb := hb.trans (hv.mono hb.size); clear x1 x2 x3 x4; obtain ⟨x1, x2, x3, x4⟩ := BX.out _ hb)
    | (go_at_call 18; refine (tree_w _ _ _ _ _ _ _ N U _ hls hlt (HN.out _ hb)).mono ?_; rintro e wl ⟨⟨rb, rfl, hrb⟩, hv⟩; obtain rfl : rb = true := hrb.2 HR.out; clear hrb; (try replace hbs := hbs.trans (hv.mono hbs.size)); replace hb := hb.trans (hv.mono hb.size); clear x1 x2 x3 x4; obtain ⟨x1, x2, x3, x4⟩ := BX.out _ hb)
    | (go_at_call 29; refine (outlet_w _ _ _ _ _ _ _ _ _ hlt).mono ?_; rw [HO.out]; rintro e wl ⟨rfl, hv⟩; (try replace hbs := hbs.trans (hv.mono hbs.size)); replace hb := hb.trans (hv.mono hb.size); clear x1 x2 x3 x4; obtain ⟨x1, x2, x3, x4⟩ := BX.out _ hb)
    | (go_at_call 15; refine (K.out _).mono ?_; rintro e wl ⟨rfl, hv⟩; (try replace hbs := hbs.trans (hv.mono hbs.size)); replace hb := hb.trans (hv.mono hb.size); clear x1 x2 x3 x4; obtain ⟨x1, x2, x3, x4⟩ := BX.out _ hb))
  go_ret
  exact ⟨rfl, below_al hb⟩

theorem rwhy_5 {f : Int} {ln lo : Nat} {N : Nat → N2} {U : Nat → O3} {t : Nat → Int} {i : Nat} {e : Ending} (h : (e = .returned (.tuple #[.int .i64 0, .bool false]) ∧ t i = (U i).c) ∨ (t i ≠ (U i).c ∧ ∃ n : Nat, e = .returned (.tuple #[.int .i64 (n : Int), .bool true]) ∧ n ≤ ln ∧ BindP f lo N U t i n ∧ ∀ m, m < n → ¬ BindP f lo N U t i m)) (he : t i = (U i).c) : e = .returned (.tuple #[.int .i64 0, .bool false]) := by
  rcases h with ⟨h1, _⟩ | ⟨h2, _⟩
  · exact h1
  · exact (h2 he).elim
theorem rwhy_0 {f : Int} {ln lo : Nat} {N : Nat → N2} {U : Nat → O3} {t : Nat → Int} {i n : Nat} {e : Ending} (h : (e = .returned (.tuple #[.int .i64 0, .bool false]) ∧ t i = (U i).c) ∨ (t i ≠ (U i).c ∧ ∃ n : Nat, e = .returned (.tuple #[.int .i64 (n : Int), .bool true]) ∧ n ≤ ln ∧ BindP f lo N U t i n ∧ ∀ m, m < n → ¬ BindP f lo N U t i m)) (he : t i ≠ (U i).c) (hp : BindP f lo N U t i n) (hl : ∀ m, m < n → ¬ BindP f lo N U t i m) : e = .returned (.tuple #[.int .i64 (n : Int), .bool true]) := by
  rcases h with ⟨_, h2⟩ | ⟨_, k, h3, h4, h5, h6⟩
  · exact (he h2).elim
  · rcases Nat.lt_trichotomy n k with e | e | e
    · exact absurd hp (h6 n e)
    · rw [h3, e]
    · exact absurd h5 (hl k e)

set_option maxRecDepth 100000 in
set_option maxHeartbeats 4000000 in
theorem lawbi_d (f : Int) (na oa : Option Addr) (ln cn lo co : Nat) (N : Nat → N2) (U : Nat → O3) (i : Nat) (y : Int) (w : World) (hls : ln ≤ 1000000) (hlt : lo ≤ 1000000) (H : Hid (Tr7 w na oa ln lo N U)) (K : Hid KnownOk) (hq : ln ≤ 8 ∧ lo ≤ 10) (HR : Hid (TreeP f ln lo N U)) (hi : i < lo) (t : Nat → Int) (HT : Hid (Ord f lo N U (fun _ => 0) [0, 1, 2, 3] t)) (HE : Hid (t i = (U i).c)) (HM : Hid (fromB 0 (ln : Int) y = false)) :
    Calls Tryz.prog 5 #[.agg #[.int .i64 f, .slice na ln cn, .slice oa lo co], .int .i64 (i : Int), .int .i64 y] w
      fun e w' => e = .returned (.bool true) ∧ Below w.heap.size w w' := by
  have hsh : decide (ln ≤ 8 ∧ lo ≤ 10) = true := decide_eq_true hq
  have hoz : fromB 0 ((lo : Int) - 1) (i : Int) = true := by simp only [fromB, decide_eq_true_eq]; omega
  have HO := Lib.hid hoz
  have n1 : (0 : Int) ≤ (i : Int) := by omega
  have n2 : (i : Int) < (lo : Int) := by omega
  clear hoz
  have BX := Lib.hid (fun (w1 : World) (hb : Below (w.alloc (.cells #[.int .i64 f, .slice na ln cn, .slice oa lo co] 25)).heap.size (w.alloc (.cells #[.int .i64 f, .slice na ln cn, .slice oa lo co] 25)) w1) => box7 hb)
  have HN : Hid (∀ w1, Below (w.alloc (.cells #[.int .i64 f, .slice na ln cn, .slice oa lo co] 25)).heap.size (w.alloc (.cells #[.int .i64 f, .slice na ln cn, .slice oa lo co] 25)) w1 → Hid (Tr7 w1 na oa ln lo N U)) := Lib.hid fun w1 h => Lib.hid (H.out.below (below_al h))
  have hb : Below (w.alloc (.cells #[.int .i64 f, .slice na ln cn, .slice oa lo co] 25)).heap.size (w.alloc (.cells #[.int .i64 f, .slice na ln cn, .slice oa lo co] 25)) (w.alloc (.cells #[.int .i64 f, .slice na ln cn, .slice oa lo co] 25)) := Below.refl _ _
  obtain ⟨x1, x2, x3, x4⟩ := BX.out _ hb
  clear H
  go_enter Tryz.func5, Tryz.ntmps5
  go_wp2_with (first
    | (go_at_call 14; refine (short_w _ _ _ _ _ _ _ _ (by unfold maxLen; omega) (by unfold maxLen; omega)).mono ?_; rw [hsh]; rintro e wl ⟨rfl, hv⟩; (try replace hbs := hbs.trans (hv.mono hbs.size)); replace hb := hb.trans (hv.mono hb.size); clear x1 x2 x3 x4; obtain ⟨x1, x2, x3, x4⟩ := BX.out _ hb)
    | (go_at_call 27; refine (dbinds_bad3 f na oa ln cn lo co N U (i : Int) y _ hls hlt (HN.out _ hb) HR HO HM).mono ?_; rintro e wl ⟨rfl, hv⟩; (try replace hbs := hbs.trans (hv.mono hbs.size)); replace hb := hb.trans (hv.mono hb.size); clear x1 x2 x3 x4; obtain ⟨x1, x2, x3, x4⟩ := BX.out _ hb)
    | (go_at_call 28; refine (dwhy_w f na oa ln cn lo co i N U t _ hi HR (HN.out _ hb) HT).mono ?_; rintro e wl ⟨⟨rn, re, rfl, hwr⟩, hv⟩; (try replace hbs := hbs.trans (hv.mono hbs.size)); replace hb := hb.trans (hv.mono hb.size); clear x1 x2 x3 x4; obtain ⟨x1, x2, x3, x4⟩ := BX.out _ hb; obtain ⟨rfl, rfl⟩ := whyR_5 hwr HE.out; clear hwr)
    | (go_at_call 18; refine (tree_w _ _ _ _ _ _ _ N U _ hls hlt (HN.out _ hb)).mono ?_; rintro e wl ⟨⟨rb, rfl, hrb⟩, hv⟩; obtain rfl : rb = true := hrb.2 HR.out; clear hrb; (try replace hbs := hbs.trans (hv.mono hbs.size)); replace hb := hb.trans (hv.mono hb.size); clear x1 x2 x3 x4; obtain ⟨x1, x2, x3, x4⟩ := BX.out _ hb)
    | (go_at_call 29; refine (outlet_w _ _ _ _ _ _ _ _ _ hlt).mono ?_; rw [HO.out]; rintro e wl ⟨rfl, hv⟩; (try replace hbs := hbs.trans (hv.mono hbs.size)); replace hb := hb.trans (hv.mono hb.size); clear x1 x2 x3 x4; obtain ⟨x1, x2, x3, x4⟩ := BX.out _ hb)
    | (go_at_call 30; refine (rwhy_w f na oa ln cn lo co i N U t _ hi HR (HN.out _ hb) HT).mono ?_; rintro e wl ⟨hwr, hv⟩; obtain rfl := rwhy_5 hwr HE.out; clear hwr; (try replace hbs := hbs.trans (hv.mono hbs.size)); replace hb := hb.trans (hv.mono hb.size); clear x1 x2 x3 x4; obtain ⟨x1, x2, x3, x4⟩ := BX.out _ hb)
    | (go_at_call 31; refine (node_w _ _ _ _ _ _ _ _ _).mono ?_; rw [HM.out]; rintro e wl ⟨rfl, hv⟩; (try replace hbs := hbs.trans (hv.mono hbs.size)); replace hb := hb.trans (hv.mono hb.size); clear x1 x2 x3 x4; obtain ⟨x1, x2, x3, x4⟩ := BX.out _ hb)
    | (go_at_call 15; refine (K.out _).mono ?_; rintro e wl ⟨rfl, hv⟩; (try replace hbs := hbs.trans (hv.mono hbs.size)); replace hb := hb.trans (hv.mono hb.size); clear x1 x2 x3 x4; obtain ⟨x1, x2, x3, x4⟩ := BX.out _ hb))
  go_ret
  exact ⟨rfl, below_al hb⟩

set_option maxRecDepth 100000 in
set_option maxHeartbeats 4000000 in
theorem lawbi_e (f : Int) (na oa : Option Addr) (ln cn lo co : Nat) (N : Nat → N2) (U : Nat → O3) (i : Nat) (y : Int) (w : World) (hls : ln ≤ 1000000) (hlt : lo ≤ 1000000) (H : Hid (Tr7 w na oa ln lo N U)) (K : Hid KnownOk) (hq : ln ≤ 8 ∧ lo ≤ 10) (HR : Hid (TreeP f ln lo N U)) (hi : i < lo) (t : Nat → Int) (HT : Hid (Ord f lo N U (fun _ => 0) [0, 1, 2, 3] t)) (HE : Hid (t i ≠ (U i).c)) (n : Nat) (_hnl : n ≤ ln) (HPn : Hid (BindP f lo N U t i n)) (HLn : Hid (∀ m, m < n → ¬ BindP f lo N U t i m)) (HM : Hid (fromB 0 (ln : Int) y = false)) :
    Calls Tryz.prog 5 #[.agg #[.int .i64 f, .slice na ln cn, .slice oa lo co], .int .i64 (i : Int), .int .i64 y] w
      fun e w' => e = .returned (.bool true) ∧ Below w.heap.size w w' := by
  have hsh : decide (ln ≤ 8 ∧ lo ≤ 10) = true := decide_eq_true hq
  have hoz : fromB 0 ((lo : Int) - 1) (i : Int) = true := by simp only [fromB, decide_eq_true_eq]; omega
  have HO := Lib.hid hoz
  have n1 : (0 : Int) ≤ (i : Int) := by omega
  have n2 : (i : Int) < (lo : Int) := by omega
  clear hoz
  have BX := Lib.hid (fun (w1 : World) (hb : Below (w.alloc (.cells #[.int .i64 f, .slice na ln cn, .slice oa lo co] 25)).heap.size (w.alloc (.cells #[.int .i64 f, .slice na ln cn, .slice oa lo co] 25)) w1) => box7 hb)
  have HN : Hid (∀ w1, Below (w.alloc (.cells #[.int .i64 f, .slice na ln cn, .slice oa lo co] 25)).heap.size (w.alloc (.cells #[.int .i64 f, .slice na ln cn, .slice oa lo co] 25)) w1 → Hid (Tr7 w1 na oa ln lo N U)) := Lib.hid fun w1 h => Lib.hid (H.out.below (below_al h))
  have hb : Below (w.alloc (.cells #[.int .i64 f, .slice na ln cn, .slice oa lo co] 25)).heap.size (w.alloc (.cells #[.int .i64 f, .slice na ln cn, .slice oa lo co] 25)) (w.alloc (.cells #[.int .i64 f, .slice na ln cn, .slice oa lo co] 25)) := Below.refl _ _
  obtain ⟨x1, x2, x3, x4⟩ := BX.out _ hb
  clear H
  go_enter Tryz.func5, Tryz.ntmps5
  go_wp2_with (first
    | (go_at_call 14; refine (short_w _ _ _ _ _ _ _ _ (by unfold maxLen; omega) (by unfold maxLen; omega)).mono ?_; rw [hsh]; rintro e wl ⟨rfl, hv⟩; (try replace hbs := hbs.trans (hv.mono hbs.size)); replace hb := hb.trans (hv.mono hb.size); clear x1 x2 x3 x4; obtain ⟨x1, x2, x3, x4⟩ := BX.out _ hb)
    | (go_at_call 27; refine (dbinds_bad3 f na oa ln cn lo co N U (i : Int) y _ hls hlt (HN.out _ hb) HR HO HM).mono ?_; rintro e wl ⟨rfl, hv⟩; (try replace hbs := hbs.trans (hv.mono hbs.size)); replace hb := hb.trans (hv.mono hb.size); clear x1 x2 x3 x4; obtain ⟨x1, x2, x3, x4⟩ := BX.out _ hb)
    | (go_at_call 28; refine (dwhy_w f na oa ln cn lo co i N U t _ hi HR (HN.out _ hb) HT).mono ?_; rintro e wl ⟨⟨rn, re, rfl, hwr⟩, hv⟩; (try replace hbs := hbs.trans (hv.mono hbs.size)); replace hb := hb.trans (hv.mono hb.size); clear x1 x2 x3 x4; obtain ⟨x1, x2, x3, x4⟩ := BX.out _ hb; obtain ⟨rfl, rfl⟩ := whyR_0 hwr HE.out HPn.out HLn.out; clear hwr)
    | (go_at_call 18; refine (tree_w _ _ _ _ _ _ _ N U _ hls hlt (HN.out _ hb)).mono ?_; rintro e wl ⟨⟨rb, rfl, hrb⟩, hv⟩; obtain rfl : rb = true := hrb.2 HR.out; clear hrb; (try replace hbs := hbs.trans (hv.mono hbs.size)); replace hb := hb.trans (hv.mono hb.size); clear x1 x2 x3 x4; obtain ⟨x1, x2, x3, x4⟩ := BX.out _ hb)
    | (go_at_call 29; refine (outlet_w _ _ _ _ _ _ _ _ _ hlt).mono ?_; rw [HO.out]; rintro e wl ⟨rfl, hv⟩; (try replace hbs := hbs.trans (hv.mono hbs.size)); replace hb := hb.trans (hv.mono hb.size); clear x1 x2 x3 x4; obtain ⟨x1, x2, x3, x4⟩ := BX.out _ hb)
    | (go_at_call 30; refine (rwhy_w f na oa ln cn lo co i N U t _ hi HR (HN.out _ hb) HT).mono ?_; rintro e wl ⟨hwr, hv⟩; obtain rfl := rwhy_0 hwr HE.out HPn.out HLn.out; clear hwr; (try replace hbs := hbs.trans (hv.mono hbs.size)); replace hb := hb.trans (hv.mono hb.size); clear x1 x2 x3 x4; obtain ⟨x1, x2, x3, x4⟩ := BX.out _ hb)
    | (go_at_call 31; refine (node_w _ _ _ _ _ _ _ _ _).mono ?_; rw [HM.out]; rintro e wl ⟨rfl, hv⟩; (try replace hbs := hbs.trans (hv.mono hbs.size)); replace hb := hb.trans (hv.mono hb.size); clear x1 x2 x3 x4; obtain ⟨x1, x2, x3, x4⟩ := BX.out _ hb)
    | (go_at_call 15; refine (K.out _).mono ?_; rintro e wl ⟨rfl, hv⟩; (try replace hbs := hbs.trans (hv.mono hbs.size)); replace hb := hb.trans (hv.mono hb.size); clear x1 x2 x3 x4; obtain ⟨x1, x2, x3, x4⟩ := BX.out _ hb))
  go_ret
  exact ⟨rfl, below_al hb⟩
end Go.Kn

namespace Go.Kn
open Go Go.Proofs Go.RowKit

set_option maxRecDepth 100000 in
set_option maxHeartbeats 4000000 in
theorem lawbi_f (f : Int) (na oa : Option Addr) (ln cn lo co : Nat) (N : Nat → N2) (U : Nat → O3) (i m : Nat) (w : World) (hls : ln ≤ 1000000) (hlt : lo ≤ 1000000) (H : Hid (Tr7 w na oa ln lo N U)) (K : Hid KnownOk) (hq : ln ≤ 8 ∧ lo ≤ 10) (HR : Hid (TreeP f ln lo N U)) (hi : i < lo) (t : Nat → Int) (HT : Hid (Ord f lo N U (fun _ => 0) [0, 1, 2, 3] t)) (hm : m ≤ ln) (HE : Hid (t i = (U i).c)) (HB : Hid (¬ BindP f lo N U t i m)) :
    Calls Tryz.prog 5 #[.agg #[.int .i64 f, .slice na ln cn, .slice oa lo co], .int .i64 (i : Int), .int .i64 (m : Int)] w
      fun e w' => e = .returned (.bool true) ∧ Below w.heap.size w w' := by
  have hsh : decide (ln ≤ 8 ∧ lo ≤ 10) = true := decide_eq_true hq
  have hoz : fromB 0 ((lo : Int) - 1) (i : Int) = true := by simp only [fromB, decide_eq_true_eq]; omega
  have HO := Lib.hid hoz
  have n1 : (0 : Int) ≤ (i : Int) := by omega
  have n2 : (i : Int) < (lo : Int) := by omega
  clear hoz
  have hoy : fromB 0 (ln : Int) (m : Int) = true := by simp only [fromB, decide_eq_true_eq]; omega
  have HM := Lib.hid hoy
  clear hoy
  have BX := Lib.hid (fun (w1 : World) (hb : Below (w.alloc (.cells #[.int .i64 f, .slice na ln cn, .slice oa lo co] 25)).heap.size (w.alloc (.cells #[.int .i64 f, .slice na ln cn, .slice oa lo co] 25)) w1) => box7 hb)
  have HN : Hid (∀ w1, Below (w.alloc (.cells #[.int .i64 f, .slice na ln cn, .slice oa lo co] 25)).heap.size (w.alloc (.cells #[.int .i64 f, .slice na ln cn, .slice oa lo co] 25)) w1 → Hid (Tr7 w1 na oa ln lo N U)) := Lib.hid fun w1 h => Lib.hid (H.out.below (below_al h))
  have hb : Below (w.alloc (.cells #[.int .i64 f, .slice na ln cn, .slice oa lo co] 25)).heap.size (w.alloc (.cells #[.int .i64 f, .slice na ln cn, .slice oa lo co] 25)) (w.alloc (.cells #[.int .i64 f, .slice na ln cn, .slice oa lo co] 25)) := Below.refl _ _
  obtain ⟨x1, x2, x3, x4⟩ := BX.out _ hb
  clear H
  go_enter Tryz.func5, Tryz.ntmps5
  go_wp2_with (first
    | (go_at_call 14; refine (short_w _ _ _ _ _ _ _ _ (by unfold maxLen; omega) (by unfold maxLen; omega)).mono ?_; rw [hsh]; rintro e wl ⟨rfl, hv⟩; (try replace hbs := hbs.trans (hv.mono hbs.size)); replace hb := hb.trans (hv.mono hb.size); clear x1 x2 x3 x4; obtain ⟨x1, x2, x3, x4⟩ := BX.out _ hb)
    | (go_at_call_of 27 m; refine (dbinds_w f na oa ln cn lo co i m N U t _ hi hm HR (HN.out _ hb) HT).mono ?_; rintro e wl ⟨⟨rb, rfl, hrb⟩, hv⟩; obtain rfl : rb = false := (by cases rb <;> first | rfl | exact (HB.out (hrb.1 rfl)).elim); clear hrb; (try replace hbs := hbs.trans (hv.mono hbs.size)); replace hb := hb.trans (hv.mono hb.size); clear x1 x2 x3 x4; obtain ⟨x1, x2, x3, x4⟩ := BX.out _ hb)
    | (go_at_call 28; refine (dwhy_w f na oa ln cn lo co i N U t _ hi HR (HN.out _ hb) HT).mono ?_; rintro e wl ⟨⟨rn, re, rfl, hwr⟩, hv⟩; (try replace hbs := hbs.trans (hv.mono hbs.size)); replace hb := hb.trans (hv.mono hb.size); clear x1 x2 x3 x4; obtain ⟨x1, x2, x3, x4⟩ := BX.out _ hb; obtain ⟨rfl, rfl⟩ := whyR_5 hwr HE.out; clear hwr)
    | (go_at_call 18; refine (tree_w _ _ _ _ _ _ _ N U _ hls hlt (HN.out _ hb)).mono ?_; rintro e wl ⟨⟨rb, rfl, hrb⟩, hv⟩; obtain rfl : rb = true := hrb.2 HR.out; clear hrb; (try replace hbs := hbs.trans (hv.mono hbs.size)); replace hb := hb.trans (hv.mono hb.size); clear x1 x2 x3 x4; obtain ⟨x1, x2, x3, x4⟩ := BX.out _ hb)
    | (go_at_call 29; refine (outlet_w _ _ _ _ _ _ _ _ _ hlt).mono ?_; rw [HO.out]; rintro e wl ⟨rfl, hv⟩; (try replace hbs := hbs.trans (hv.mono hbs.size)); replace hb := hb.trans (hv.mono hb.size); clear x1 x2 x3 x4; obtain ⟨x1, x2, x3, x4⟩ := BX.out _ hb)
    | (go_at_call 30; refine (rwhy_w f na oa ln cn lo co i N U t _ hi HR (HN.out _ hb) HT).mono ?_; rintro e wl ⟨hwr, hv⟩; obtain rfl := rwhy_5 hwr HE.out; clear hwr; (try replace hbs := hbs.trans (hv.mono hbs.size)); replace hb := hb.trans (hv.mono hb.size); clear x1 x2 x3 x4; obtain ⟨x1, x2, x3, x4⟩ := BX.out _ hb)
    | (go_at_call 31; refine (node_w _ _ _ _ _ _ _ _ _).mono ?_; rw [HM.out]; rintro e wl ⟨rfl, hv⟩; (try replace hbs := hbs.trans (hv.mono hbs.size)); replace hb := hb.trans (hv.mono hb.size); clear x1 x2 x3 x4; obtain ⟨x1, x2, x3, x4⟩ := BX.out _ hb)
    | (go_at_call 32; refine (rbinds_w f na oa ln cn lo co i m N U t _ hi hm HR (HN.out _ hb) HT).mono ?_; rintro e wl ⟨⟨rb, rfl, hrb⟩, hv⟩; obtain rfl : rb = false := (by cases rb <;> first | rfl | exact (HB.out (hrb.1 rfl)).elim); clear hrb; (try replace hbs := hbs.trans (hv.mono hbs.size)); replace hb := hb.trans (hv.mono hb.size); clear x1 x2 x3 x4; obtain ⟨x1, x2, x3, x4⟩ := BX.out _ hb)
    | (go_at_call 15; refine (K.out _).mono ?_; rintro e wl ⟨rfl, hv⟩; (try replace hbs := hbs.trans (hv.mono hbs.size)); replace hb := hb.trans (hv.mono hb.size); clear x1 x2 x3 x4; obtain ⟨x1, x2, x3, x4⟩ := BX.out _ hb))
  go_ret
  exact ⟨rfl, below_al hb⟩

set_option maxRecDepth 100000 in
set_option maxHeartbeats 4000000 in
theorem lawbi_g (f : Int) (na oa : Option Addr) (ln cn lo co : Nat) (N : Nat → N2) (U : Nat → O3) (i m : Nat) (w : World) (hls : ln ≤ 1000000) (hlt : lo ≤ 1000000) (H : Hid (Tr7 w na oa ln lo N U)) (K : Hid KnownOk) (hq : ln ≤ 8 ∧ lo ≤ 10) (HR : Hid (TreeP f ln lo N U)) (hi : i < lo) (t : Nat → Int) (HT : Hid (Ord f lo N U (fun _ => 0) [0, 1, 2, 3] t)) (hm : m ≤ ln) (HE : Hid (t i = (U i).c)) (HB : Hid (BindP f lo N U t i m)) :
    Calls Tryz.prog 5 #[.agg #[.int .i64 f, .slice na ln cn, .slice oa lo co], .int .i64 (i : Int), .int .i64 (m : Int)] w
      fun e w' => e = .returned (.bool true) ∧ Below w.heap.size w w' := by
  have hsh : decide (ln ≤ 8 ∧ lo ≤ 10) = true := decide_eq_true hq
  have hoz : fromB 0 ((lo : Int) - 1) (i : Int) = true := by simp only [fromB, decide_eq_true_eq]; omega
  have HO := Lib.hid hoz
  have n1 : (0 : Int) ≤ (i : Int) := by omega
  have n2 : (i : Int) < (lo : Int) := by omega
  clear hoz
  have hoy : fromB 0 (ln : Int) (m : Int) = true := by simp only [fromB, decide_eq_true_eq]; omega
  have HM := Lib.hid hoy
  clear hoy
  have BX := Lib.hid (fun (w1 : World) (hb : Below (w.alloc (.cells #[.int .i64 f, .slice na ln cn, .slice oa lo co] 25)).heap.size (w.alloc (.cells #[.int .i64 f, .slice na ln cn, .slice oa lo co] 25)) w1) => box7 hb)
  have HN : Hid (∀ w1, Below (w.alloc (.cells #[.int .i64 f, .slice na ln cn, .slice oa lo co] 25)).heap.size (w.alloc (.cells #[.int .i64 f, .slice na ln cn, .slice oa lo co] 25)) w1 → Hid (Tr7 w1 na oa ln lo N U)) := Lib.hid fun w1 h => Lib.hid (H.out.below (below_al h))
  have hb : Below (w.alloc (.cells #[.int .i64 f, .slice na ln cn, .slice oa lo co] 25)).heap.size (w.alloc (.cells #[.int .i64 f, .slice na ln cn, .slice oa lo co] 25)) (w.alloc (.cells #[.int .i64 f, .slice na ln cn, .slice oa lo co] 25)) := Below.refl _ _
  obtain ⟨x1, x2, x3, x4⟩ := BX.out _ hb
  clear H
  go_enter Tryz.func5, Tryz.ntmps5
  go_wp2_with (first
    | (go_at_call 14; refine (short_w _ _ _ _ _ _ _ _ (by unfold maxLen; omega) (by unfold maxLen; omega)).mono ?_; rw [hsh]; rintro e wl ⟨rfl, hv⟩; (try replace hbs := hbs.trans (hv.mono hbs.size)); replace hb := hb.trans (hv.mono hb.size); clear x1 x2 x3 x4; obtain ⟨x1, x2, x3, x4⟩ := BX.out _ hb)
    | (go_at_call_of 27 m; refine (dbinds_w f na oa ln cn lo co i m N U t _ hi hm HR (HN.out _ hb) HT).mono ?_; rintro e wl ⟨⟨rb, rfl, hrb⟩, hv⟩; obtain rfl : rb = true := hrb.2 HB.out; clear hrb; (try replace hbs := hbs.trans (hv.mono hbs.size)); replace hb := hb.trans (hv.mono hb.size); clear x1 x2 x3 x4; obtain ⟨x1, x2, x3, x4⟩ := BX.out _ hb)
    | (go_at_call 28; refine (dwhy_w f na oa ln cn lo co i N U t _ hi HR (HN.out _ hb) HT).mono ?_; rintro e wl ⟨⟨rn, re, rfl, hwr⟩, hv⟩; (try replace hbs := hbs.trans (hv.mono hbs.size)); replace hb := hb.trans (hv.mono hb.size); clear x1 x2 x3 x4; obtain ⟨x1, x2, x3, x4⟩ := BX.out _ hb; obtain ⟨rfl, rfl⟩ := whyR_5 hwr HE.out; clear hwr)
    | (go_at_call 18; refine (tree_w _ _ _ _ _ _ _ N U _ hls hlt (HN.out _ hb)).mono ?_; rintro e wl ⟨⟨rb, rfl, hrb⟩, hv⟩; obtain rfl : rb = true := hrb.2 HR.out; clear hrb; (try replace hbs := hbs.trans (hv.mono hbs.size)); replace hb := hb.trans (hv.mono hb.size); clear x1 x2 x3 x4; obtain ⟨x1, x2, x3, x4⟩ := BX.out _ hb)
    | (go_at_call 29; refine (outlet_w _ _ _ _ _ _ _ _ _ hlt).mono ?_; rw [HO.out]; rintro e wl ⟨rfl, hv⟩; (try replace hbs := hbs.trans (hv.mono hbs.size)); replace hb := hb.trans (hv.mono hb.size); clear x1 x2 x3 x4; obtain ⟨x1, x2, x3, x4⟩ := BX.out _ hb)
    | (go_at_call 30; refine (rwhy_w f na oa ln cn lo co i N U t _ hi HR (HN.out _ hb) HT).mono ?_; rintro e wl ⟨hwr, hv⟩; obtain rfl := rwhy_5 hwr HE.out; clear hwr; (try replace hbs := hbs.trans (hv.mono hbs.size)); replace hb := hb.trans (hv.mono hb.size); clear x1 x2 x3 x4; obtain ⟨x1, x2, x3, x4⟩ := BX.out _ hb)
    | (go_at_call 31; refine (node_w _ _ _ _ _ _ _ _ _).mono ?_; rw [HM.out]; rintro e wl ⟨rfl, hv⟩; (try replace hbs := hbs.trans (hv.mono hbs.size)); replace hb := hb.trans (hv.mono hb.size); clear x1 x2 x3 x4; obtain ⟨x1, x2, x3, x4⟩ := BX.out _ hb)
    | (go_at_call 32; refine (rbinds_w f na oa ln cn lo co i m N U t _ hi hm HR (HN.out _ hb) HT).mono ?_; rintro e wl ⟨⟨rb, rfl, hrb⟩, hv⟩; obtain rfl : rb = true := hrb.2 HB.out; clear hrb; (try replace hbs := hbs.trans (hv.mono hbs.size)); replace hb := hb.trans (hv.mono hb.size); clear x1 x2 x3 x4; obtain ⟨x1, x2, x3, x4⟩ := BX.out _ hb)
    | (go_at_call 15; refine (K.out _).mono ?_; rintro e wl ⟨rfl, hv⟩; (try replace hbs := hbs.trans (hv.mono hbs.size)); replace hb := hb.trans (hv.mono hb.size); clear x1 x2 x3 x4; obtain ⟨x1, x2, x3, x4⟩ := BX.out _ hb))
  go_ret
  exact ⟨rfl, below_al hb⟩

set_option maxRecDepth 100000 in
set_option maxHeartbeats 4000000 in
theorem lawbi_h (f : Int) (na oa : Option Addr) (ln cn lo co : Nat) (N : Nat → N2) (U : Nat → O3) (i m : Nat) (w : World) (hls : ln ≤ 1000000) (hlt : lo ≤ 1000000) (H : Hid (Tr7 w na oa ln lo N U)) (K : Hid KnownOk) (hq : ln ≤ 8 ∧ lo ≤ 10) (HR : Hid (TreeP f ln lo N U)) (hi : i < lo) (t : Nat → Int) (HT : Hid (Ord f lo N U (fun _ => 0) [0, 1, 2, 3] t)) (hm : m ≤ ln) (HE : Hid (t i ≠ (U i).c)) (n : Nat) (_hnl : n ≤ ln) (HPn : Hid (BindP f lo N U t i n)) (HLn : Hid (∀ m, m < n → ¬ BindP f lo N U t i m)) (HB : Hid (¬ BindP f lo N U t i m)) :
    Calls Tryz.prog 5 #[.agg #[.int .i64 f, .slice na ln cn, .slice oa lo co], .int .i64 (i : Int), .int .i64 (m : Int)] w
      fun e w' => e = .returned (.bool true) ∧ Below w.heap.size w w' := by
  have hsh : decide (ln ≤ 8 ∧ lo ≤ 10) = true := decide_eq_true hq
  have hoz : fromB 0 ((lo : Int) - 1) (i : Int) = true := by simp only [fromB, decide_eq_true_eq]; omega
  have HO := Lib.hid hoz
  have n1 : (0 : Int) ≤ (i : Int) := by omega
  have n2 : (i : Int) < (lo : Int) := by omega
  clear hoz
  have hoy : fromB 0 (ln : Int) (m : Int) = true := by simp only [fromB, decide_eq_true_eq]; omega
  have HM := Lib.hid hoy
  clear hoy
  have BX := Lib.hid (fun (w1 : World) (hb : Below (w.alloc (.cells #[.int .i64 f, .slice na ln cn, .slice oa lo co] 25)).heap.size (w.alloc (.cells #[.int .i64 f, .slice na ln cn, .slice oa lo co] 25)) w1) => box7 hb)
  have HN : Hid (∀ w1, Below (w.alloc (.cells #[.int .i64 f, .slice na ln cn, .slice oa lo co] 25)).heap.size (w.alloc (.cells #[.int .i64 f, .slice na ln cn, .slice oa lo co] 25)) w1 → Hid (Tr7 w1 na oa ln lo N U)) := Lib.hid fun w1 h => Lib.hid (H.out.below (below_al h))
  have hb : Below (w.alloc (.cells #[.int .i64 f, .slice na ln cn, .slice oa lo co] 25)).heap.size (w.alloc (.cells #[.int .i64 f, .slice na ln cn, .slice oa lo co] 25)) (w.alloc (.cells #[.int .i64 f, .slice na ln cn, .slice oa lo co] 25)) := Below.refl _ _
  obtain ⟨x1, x2, x3, x4⟩ := BX.out _ hb
  clear H
  go_enter Tryz.func5, Tryz.ntmps5
  go_wp2_with (first
    | (go_at_call 14; refine (short_w _ _ _ _ _ _ _ _ (by unfold maxLen; omega) (by unfold maxLen; omega)).mono ?_; rw [hsh]; rintro e wl ⟨rfl, hv⟩; (try replace hbs := hbs.trans (hv.mono hbs.size)); replace hb := hb.trans (hv.mono hb.size); clear x1 x2 x3 x4; obtain ⟨x1, x2, x3, x4⟩ := BX.out _ hb)
    | (go_at_call_of 27 m; refine (dbinds_w f na oa ln cn lo co i m N U t _ hi hm HR (HN.out _ hb) HT).mono ?_; rintro e wl ⟨⟨rb, rfl, hrb⟩, hv⟩; obtain rfl : rb = false := (by cases rb <;> first | rfl | exact (HB.out (hrb.1 rfl)).elim); clear hrb; (try replace hbs := hbs.trans (hv.mono hbs.size)); replace hb := hb.trans (hv.mono hb.size); clear x1 x2 x3 x4; obtain ⟨x1, x2, x3, x4⟩ := BX.out _ hb)
    | (go_at_call 28; refine (dwhy_w f na oa ln cn lo co i N U t _ hi HR (HN.out _ hb) HT).mono ?_; rintro e wl ⟨⟨rn, re, rfl, hwr⟩, hv⟩; (try replace hbs := hbs.trans (hv.mono hbs.size)); replace hb := hb.trans (hv.mono hb.size); clear x1 x2 x3 x4; obtain ⟨x1, x2, x3, x4⟩ := BX.out _ hb; obtain ⟨rfl, rfl⟩ := whyR_0 hwr HE.out HPn.out HLn.out; clear hwr)
    | (go_at_call 18; refine (tree_w _ _ _ _ _ _ _ N U _ hls hlt (HN.out _ hb)).mono ?_; rintro e wl ⟨⟨rb, rfl, hrb⟩, hv⟩; obtain rfl : rb = true := hrb.2 HR.out; clear hrb; (try replace hbs := hbs.trans (hv.mono hbs.size)); replace hb := hb.trans (hv.mono hb.size); clear x1 x2 x3 x4; obtain ⟨x1, x2, x3, x4⟩ := BX.out _ hb)
    | (go_at_call 29; refine (outlet_w _ _ _ _ _ _ _ _ _ hlt).mono ?_; rw [HO.out]; rintro e wl ⟨rfl, hv⟩; (try replace hbs := hbs.trans (hv.mono hbs.size)); replace hb := hb.trans (hv.mono hb.size); clear x1 x2 x3 x4; obtain ⟨x1, x2, x3, x4⟩ := BX.out _ hb)
    | (go_at_call 30; refine (rwhy_w f na oa ln cn lo co i N U t _ hi HR (HN.out _ hb) HT).mono ?_; rintro e wl ⟨hwr, hv⟩; obtain rfl := rwhy_0 hwr HE.out HPn.out HLn.out; clear hwr; (try replace hbs := hbs.trans (hv.mono hbs.size)); replace hb := hb.trans (hv.mono hb.size); clear x1 x2 x3 x4; obtain ⟨x1, x2, x3, x4⟩ := BX.out _ hb)
    | (go_at_call 31; refine (node_w _ _ _ _ _ _ _ _ _).mono ?_; rw [HM.out]; rintro e wl ⟨rfl, hv⟩; (try replace hbs := hbs.trans (hv.mono hbs.size)); replace hb := hb.trans (hv.mono hb.size); clear x1 x2 x3 x4; obtain ⟨x1, x2, x3, x4⟩ := BX.out _ hb)
    | (go_at_call 32; refine (rbinds_w f na oa ln cn lo co i m N U t _ hi hm HR (HN.out _ hb) HT).mono ?_; rintro e wl ⟨⟨rb, rfl, hrb⟩, hv⟩; obtain rfl : rb = false := (by cases rb <;> first | rfl | exact (HB.out (hrb.1 rfl)).elim); clear hrb; (try replace hbs := hbs.trans (hv.mono hbs.size)); replace hb := hb.trans (hv.mono hb.size); clear x1 x2 x3 x4; obtain ⟨x1, x2, x3, x4⟩ := BX.out _ hb)
    | (go_at_call 15; refine (K.out _).mono ?_; rintro e wl ⟨rfl, hv⟩; (try replace hbs := hbs.trans (hv.mono hbs.size)); replace hb := hb.trans (hv.mono hb.size); clear x1 x2 x3 x4; obtain ⟨x1, x2, x3, x4⟩ := BX.out _ hb))
  go_ret
  exact ⟨rfl, below_al hb⟩

set_option maxRecDepth 100000 in
set_option maxHeartbeats 4000000 in
theorem lawbi_i (f : Int) (na oa : Option Addr) (ln cn lo co : Nat) (N : Nat → N2) (U : Nat → O3) (i m : Nat) (w : World) (hls : ln ≤ 1000000) (hlt : lo ≤ 1000000) (H : Hid (Tr7 w na oa ln lo N U)) (K : Hid KnownOk) (hq : ln ≤ 8 ∧ lo ≤ 10) (HR : Hid (TreeP f ln lo N U)) (hi : i < lo) (t : Nat → Int) (HT : Hid (Ord f lo N U (fun _ => 0) [0, 1, 2, 3] t)) (hm : m ≤ ln) (HE : Hid (t i ≠ (U i).c)) (n : Nat) (_hnl : n ≤ ln) (HPn : Hid (BindP f lo N U t i n)) (HLn : Hid (∀ m, m < n → ¬ BindP f lo N U t i m)) (HB : Hid (BindP f lo N U t i m)) :
    Calls Tryz.prog 5 #[.agg #[.int .i64 f, .slice na ln cn, .slice oa lo co], .int .i64 (i : Int), .int .i64 (m : Int)] w
      fun e w' => e = .returned (.bool true) ∧ Below w.heap.size w w' := by
  have hsh : decide (ln ≤ 8 ∧ lo ≤ 10) = true := decide_eq_true hq
  have hoz : fromB 0 ((lo : Int) - 1) (i : Int) = true := by simp only [fromB, decide_eq_true_eq]; omega
  have HO := Lib.hid hoz
  have n1 : (0 : Int) ≤ (i : Int) := by omega
  have n2 : (i : Int) < (lo : Int) := by omega
  clear hoz
  have hoy : fromB 0 (ln : Int) (m : Int) = true := by simp only [fromB, decide_eq_true_eq]; omega
  have HM := Lib.hid hoy
  clear hoy
  have BX := Lib.hid (fun (w1 : World) (hb : Below (w.alloc (.cells #[.int .i64 f, .slice na ln cn, .slice oa lo co] 25)).heap.size (w.alloc (.cells #[.int .i64 f, .slice na ln cn, .slice oa lo co] 25)) w1) => box7 hb)
  have HN : Hid (∀ w1, Below (w.alloc (.cells #[.int .i64 f, .slice na ln cn, .slice oa lo co] 25)).heap.size (w.alloc (.cells #[.int .i64 f, .slice na ln cn, .slice oa lo co] 25)) w1 → Hid (Tr7 w1 na oa ln lo N U)) := Lib.hid fun w1 h => Lib.hid (H.out.below (below_al h))
  have hb : Below (w.alloc (.cells #[.int .i64 f, .slice na ln cn, .slice oa lo co] 25)).heap.size (w.alloc (.cells #[.int .i64 f, .slice na ln cn, .slice oa lo co] 25)) (w.alloc (.cells #[.int .i64 f, .slice na ln cn, .slice oa lo co] 25)) := Below.refl _ _
  obtain ⟨x1, x2, x3, x4⟩ := BX.out _ hb
  clear H
  go_enter Tryz.func5, Tryz.ntmps5
  go_wp2_with (first
    | (go_at_call 14; refine (short_w _ _ _ _ _ _ _ _ (by unfold maxLen; omega) (by unfold maxLen; omega)).mono ?_; rw [hsh]; rintro e wl ⟨rfl, hv⟩; (try replace hbs := hbs.trans (hv.mono hbs.size)); replace hb := hb.trans (hv.mono hb.size); clear x1 x2 x3 x4; obtain ⟨x1, x2, x3, x4⟩ := BX.out _ hb)
    | (go_at_call_of 27 m; refine (dbinds_w f na oa ln cn lo co i m N U t _ hi hm HR (HN.out _ hb) HT).mono ?_; rintro e wl ⟨⟨rb, rfl, hrb⟩, hv⟩; obtain rfl : rb = true := hrb.2 HB.out; clear hrb; (try replace hbs := hbs.trans (hv.mono hbs.size)); replace hb := hb.trans (hv.mono hb.size); clear x1 x2 x3 x4; obtain ⟨x1, x2, x3, x4⟩ := BX.out _ hb)
    | (go_at_call 28; refine (dwhy_w f na oa ln cn lo co i N U t _ hi HR (HN.out _ hb) HT).mono ?_; rintro e wl ⟨⟨rn, re, rfl, hwr⟩, hv⟩; (try replace hbs := hbs.trans (hv.mono hbs.size)); replace hb := hb.trans (hv.mono hb.size); clear x1 x2 x3 x4; obtain ⟨x1, x2, x3, x4⟩ := BX.out _ hb; obtain ⟨rfl, rfl⟩ := whyR_0 hwr HE.out HPn.out HLn.out; clear hwr)
    | (go_at_call 18; refine (tree_w _ _ _ _ _ _ _ N U _ hls hlt (HN.out _ hb)).mono ?_; rintro e wl ⟨⟨rb, rfl, hrb⟩, hv⟩; obtain rfl : rb = true := hrb.2 HR.out; clear hrb; (try replace hbs := hbs.trans (hv.mono hbs.size)); replace hb := hb.trans (hv.mono hb.size); clear x1 x2 x3 x4; obtain ⟨x1, x2, x3, x4⟩ := BX.out _ hb)
    | (go_at_call 29; refine (outlet_w _ _ _ _ _ _ _ _ _ hlt).mono ?_; rw [HO.out]; rintro e wl ⟨rfl, hv⟩; (try replace hbs := hbs.trans (hv.mono hbs.size)); replace hb := hb.trans (hv.mono hb.size); clear x1 x2 x3 x4; obtain ⟨x1, x2, x3, x4⟩ := BX.out _ hb)
    | (go_at_call 30; refine (rwhy_w f na oa ln cn lo co i N U t _ hi HR (HN.out _ hb) HT).mono ?_; rintro e wl ⟨hwr, hv⟩; obtain rfl := rwhy_0 hwr HE.out HPn.out HLn.out; clear hwr; (try replace hbs := hbs.trans (hv.mono hbs.size)); replace hb := hb.trans (hv.mono hb.size); clear x1 x2 x3 x4; obtain ⟨x1, x2, x3, x4⟩ := BX.out _ hb)
    | (go_at_call 31; refine (node_w _ _ _ _ _ _ _ _ _).mono ?_; rw [HM.out]; rintro e wl ⟨rfl, hv⟩; (try replace hbs := hbs.trans (hv.mono hbs.size)); replace hb := hb.trans (hv.mono hb.size); clear x1 x2 x3 x4; obtain ⟨x1, x2, x3, x4⟩ := BX.out _ hb)
    | (go_at_call 32; refine (rbinds_w f na oa ln cn lo co i m N U t _ hi hm HR (HN.out _ hb) HT).mono ?_; rintro e wl ⟨⟨rb, rfl, hrb⟩, hv⟩; obtain rfl : rb = true := hrb.2 HB.out; clear hrb; (try replace hbs := hbs.trans (hv.mono hbs.size)); replace hb := hb.trans (hv.mono hb.size); clear x1 x2 x3 x4; obtain ⟨x1, x2, x3, x4⟩ := BX.out _ hb)
    | (go_at_call 15; refine (K.out _).mono ?_; rintro e wl ⟨rfl, hv⟩; (try replace hbs := hbs.trans (hv.mono hbs.size)); replace hb := hb.trans (hv.mono hb.size); clear x1 x2 x3 x4; obtain ⟨x1, x2, x3, x4⟩ := BX.out _ hb))
  go_ret
  exact ⟨rfl, below_al hb⟩
end Go.Kn

namespace Go.Kn
open Go Go.Proofs Go.RowKit

set_option maxHeartbeats 1000000 in
theorem lawbi_w (f : Int) (na oa : Option Addr) (ln cn lo co : Nat) (N : Nat → N2) (U : Nat → O3) (z y : Int) (w : World) (hls : ln ≤ maxLen) (hlt : lo ≤ maxLen) (H : Tr7 w na oa ln lo N U) (K : KnownOk) :
    Calls Tryz.prog 5 #[.agg #[.int .i64 f, .slice na ln cn, .slice oa lo co], .int .i64 z, .int .i64 y] w
      fun e w' => e = .returned (.bool true) ∧ Below w.heap.size w w' := by
  by_cases hq : ln ≤ 8 ∧ lo ≤ 10
  case neg => exact lawbi_a f na oa ln cn lo co N U z y w hls hlt (Lib.hid H) (Lib.hid K) hq
  by_cases HR : TreeP f ln lo N U
  case neg => exact lawbi_b f na oa ln cn lo co N U z y w (by omega) (by omega) (Lib.hid H) (Lib.hid K) hq (Lib.hid HR)
  have l1 : ln ≤ 1000000 := by omega
  have l2 : lo ≤ 1000000 := by omega
  cases ho : fromB 0 ((lo : Int) - 1) z with
  | false => exact lawbi_c f na oa ln cn lo co N U z y w l1 l2 (Lib.hid H) (Lib.hid K) hq (Lib.hid HR) (Lib.hid ho)
  | true =>
    obtain ⟨i, rfl, hi⟩ := outlet_nat ho
    obtain ⟨t, ht⟩ := ord_ex (f := f) (ln := ln) (lo := lo) (N := N) (U := U) [0, 1, 2, 3] (fun _ => 0) (vd_zero HR)
    cases hy : fromB 0 (ln : Int) y with
    | false =>
      by_cases he : t i = (U i).c
      · exact lawbi_d f na oa ln cn lo co N U i y w l1 l2 (Lib.hid H) (Lib.hid K) hq (Lib.hid HR) hi t (Lib.hid ht) (Lib.hid he) (Lib.hid hy)
      · obtain ⟨n, hn, hp, hl⟩ := least_of (fun n => BindP f lo N U t i n) (bind_ex HR ht hi he)
        exact lawbi_e f na oa ln cn lo co N U i y w l1 l2 (Lib.hid H) (Lib.hid K) hq (Lib.hid HR) hi t (Lib.hid ht) (Lib.hid he) n hn (Lib.hid hp) (Lib.hid hl) (Lib.hid hy)
    | true =>
      obtain ⟨m, rfl, hm⟩ : ∃ m : Nat, y = (m : Int) ∧ m ≤ ln := by
        simp only [fromB, decide_eq_true_eq] at hy
        exact ⟨y.toNat, by omega, by omega⟩
      by_cases he : t i = (U i).c
      · by_cases hb : BindP f lo N U t i m
        · exact lawbi_g f na oa ln cn lo co N U i m w l1 l2 (Lib.hid H) (Lib.hid K) hq (Lib.hid HR) hi t (Lib.hid ht) hm (Lib.hid he) (Lib.hid hb)
        · exact lawbi_f f na oa ln cn lo co N U i m w l1 l2 (Lib.hid H) (Lib.hid K) hq (Lib.hid HR) hi t (Lib.hid ht) hm (Lib.hid he) (Lib.hid hb)
      · obtain ⟨n, hn, hp, hl⟩ := least_of (fun n => BindP f lo N U t i n) (bind_ex HR ht hi he)
        by_cases hb : BindP f lo N U t i m
        · exact lawbi_i f na oa ln cn lo co N U i m w l1 l2 (Lib.hid H) (Lib.hid K) hq (Lib.hid HR) hi t (Lib.hid ht) hm (Lib.hid he) n hn (Lib.hid hp) (Lib.hid hl) (Lib.hid hb)
        · exact lawbi_h f na oa ln cn lo co N U i m w l1 l2 (Lib.hid H) (Lib.hid K) hq (Lib.hid HR) hi t (Lib.hid ht) hm (Lib.hid he) n hn (Lib.hid hp) (Lib.hid hl) (Lib.hid hb)
end Go.Kn
