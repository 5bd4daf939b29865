/- Contracts of functions that the laws of this seat call, or the evaluator of closed calls and its runs. Conditions: as each theorem states them. -/
import Derived.Test.YtamoigfafgfimaaGreatDoorIW
import Derived.Test.YtamoigfafgfimaaGreatDoorIWA
set_option linter.unusedVariables false
set_option linter.unusedSimpArgs false
namespace Go.Kn
open Go Go.Proofs Go.RowKit

set_option maxRecDepth 100000 in
set_option maxHeartbeats 4000000 in
theorem lawwh_f (f : Int) (na oa qa : Option Addr) (ln cn lo co lq cq : Nat) (N : Nat → N2) (U : Nat → O3) (q : Nat → Int) (w : World) (hls : ln ≤ 1000000) (hlt : lo ≤ 1000000) (hlq : lq ≤ maxLen) (H : Hid (Tr7 w na oa ln lo N U)) (HQ : Hid (IntSl w qa lq q)) (K : Hid KnownOk) (hq : ln ≤ 8 ∧ lo ≤ 10) (hq1 : ¬ 12 < lq) (HR : Hid (TreeP f ln lo N U)) (HP : Hid (SharesP lq lo q U)) (t : Nat → Int) (HT : Hid (Ord f lo N U (fun _ => 0) [0, 1, 2, 3] t)) (HF : Hid (¬ FitP f ln lo N U q)) :
    Calls Tryz.prog 7 #[.agg #[.int .i64 f, .slice na ln cn, .slice oa lo co], .slice qa lq cq] w
      fun e w' => e = .returned (.bool true) ∧ Below w.heap.size w w' := by
  have hlq' := hlq
  unfold maxLen at hlq'
  have hsh : decide (ln ≤ 8 ∧ lo ≤ 10) = true := decide_eq_true hq
  have hd1 : ¬ ((12 : Int) < (lq : Int)) := by omega
  have q1 := HR.out.l6
  have q2 := HR.out.lo2
  have q3 := HR.out.lo1
  obtain rfl : lq = lo := HP.out.len
  have hmx : Tryz.prog.follows .mixedOrders = true := by kernel_rfl
  have HSP : Hid (SharesP lq lq t U) := Lib.hid (sharesP_of (HT.out.vd (vd_zero HR.out)))
  have hlo3 : lq ≤ maxLen := by unfold maxLen; omega
  have BX := Lib.hid (fun (w1 : World) (hb : Below (w.alloc (.cells #[.int .i64 f, .slice na ln cn, .slice oa lq co] 25)).heap.size (w.alloc (.cells #[.int .i64 f, .slice na ln cn, .slice oa lq co] 25)) w1) => box7 hb)
  have HN : Hid (∀ w1, Below (w.alloc (.cells #[.int .i64 f, .slice na ln cn, .slice oa lq co] 25)).heap.size (w.alloc (.cells #[.int .i64 f, .slice na ln cn, .slice oa lq co] 25)) w1 → Hid (Tr7 w1 na oa ln lq N U)) := Lib.hid fun w1 h => Lib.hid (H.out.below (below_al h))
  have HMQ : Hid (∀ w1, Below (w.alloc (.cells #[.int .i64 f, .slice na ln cn, .slice oa lq co] 25)).heap.size (w.alloc (.cells #[.int .i64 f, .slice na ln cn, .slice oa lq co] 25)) w1 → Hid (IntSl w1 qa lq q)) := Lib.hid fun w1 h => Lib.hid (HQ.out.below (below_al h))
  have hb : Below (w.alloc (.cells #[.int .i64 f, .slice na ln cn, .slice oa lq co] 25)).heap.size (w.alloc (.cells #[.int .i64 f, .slice na ln cn, .slice oa lq co] 25)) (w.alloc (.cells #[.int .i64 f, .slice na ln cn, .slice oa lq co] 25)) := Below.refl _ _
  obtain ⟨x1, x2, x3, x4⟩ := BX.out _ hb
  obtain ⟨C, P, hoa, hC, hn⟩ := H.out.ho.resolve_left (by omega)
  have HCL : Hid (∀ w2, Below (w.alloc (.cells #[.int .i64 f, .slice na ln cn, .slice oa lq co] 25)).heap.size (w.alloc (.cells #[.int .i64 f, .slice na ln cn, .slice oa lq co] 25)) w2 → ∀ i, i < lq → w2.cell? ⟨C, P + i * 3 + 1, none⟩ = some (.int .i64 (U i).c)) := Lib.hid fun w2 h i hi => ((below_al h).cell (p := ⟨C, P + i * 3 + 1, none⟩) hC).trans (hn i hi).2.1
  subst hoa
  clear H HQ hn
  go_enter Tryz.func7, Tryz.ntmps7
  go_wp2_with (first
    | (go_at_call 14; refine (short_w _ _ _ _ _ _ _ _ (by unfold maxLen; omega) (by unfold maxLen; omega)).mono ?_; rw [hsh]; rintro e wl ⟨rfl, hv⟩; (try replace hbs := hbs.trans (hv.mono hbs.size)); replace hb := hb.trans (hv.mono hb.size); clear x1 x2 x3 x4; obtain ⟨x1, x2, x3, x4⟩ := BX.out _ hb)
    | (go_at_call 18; refine (tree_w _ _ _ _ _ _ _ N U _ hls hlt (HN.out _ hb)).mono ?_; rintro e wl ⟨⟨rb, rfl, hrb⟩, hv⟩; obtain rfl : rb = true := hrb.2 HR.out; clear hrb; (try replace hbs := hbs.trans (hv.mono hbs.size)); replace hb := hb.trans (hv.mono hb.size); clear x1 x2 x3 x4; obtain ⟨x1, x2, x3, x4⟩ := BX.out _ hb)
    | (go_at_call_of 19 sb; refine (list_w _ _ _ _ _ _ _ _ _ _ N U t' _ hlt hlo3 (HN.out _ hb) (Lib.hid (HSB.out.below hbs))).mono ?_; rintro e wl ⟨⟨rb, rfl, hrb⟩, hv⟩; obtain rfl : rb = true := hrb.2 HSP.out; clear hrb; (try replace hbc := hbc.trans (hv.mono hbc.size)); (try replace hbs := hbs.trans (hv.mono hbs.size)); replace hb := hb.trans (hv.mono hb.size); clear x1 x2 x3 x4; obtain ⟨x1, x2, x3, x4⟩ := BX.out _ hb)
    | (go_at_call 19; refine (list_w _ _ _ _ _ _ _ _ _ _ N U q _ hlt hlq (HN.out _ hb) (HMQ.out _ hb)).mono ?_; rintro e wl ⟨⟨rb, rfl, hrb⟩, hv⟩; obtain rfl : rb = true := hrb.2 HP.out; clear hrb; (try replace hbs := hbs.trans (hv.mono hbs.size)); replace hb := hb.trans (hv.mono hb.size); clear x1 x2 x3 x4; obtain ⟨x1, x2, x3, x4⟩ := BX.out _ hb)
    | (go_at_call 21; refine (shares_w f na (some ⟨C, P, none⟩) ln cn lq co N U _ HR (HN.out _ hb)).mono ?_; rintro e wl ⟨⟨sb, cb, t', rfl, hsb, ho⟩, hv⟩; (try replace hbs := hbs.trans (hv.mono hbs.size)); replace hb := hb.trans (hv.mono hb.size); clear x1 x2 x3 x4; obtain ⟨x1, x2, x3, x4⟩ := BX.out _ hb; obtain rfl : t' = t := ho.det HT.out; have HSB := Lib.hid hsb; have hbs := Below.refl wl.heap.size wl; clear ho hsb)
    | (go_at_call 36; refine (cut_w2 f na (some ⟨C, P, none⟩) ln cn lq co N U t' _ HR (HN.out _ hb) HT).mono ?_; rintro e wl ⟨⟨pc, m, cc, cl, rfl, hcs, hc⟩, hv⟩; (try replace hbs := hbs.trans (hv.mono hbs.size)); replace hb := hb.trans (hv.mono hb.size); clear x1 x2 x3 x4; obtain ⟨x1, x2, x3, x4⟩ := BX.out _ hb; have HCS := Lib.hid hcs; have hbc := Below.refl wl.heap.size wl; have HC := Lib.hid hc; clear hcs hc; have hm9 := HC.out.le; have hdm : ¬ ((ln : Int) + 1 < (m : Int)) := by omega))
  obtain ⟨wq, hwq⟩ : ∃ wq, wq = wl := ⟨_, rfl⟩
  subst hwq
  have HBQ := Lib.hid hb
  have HBS := Lib.hid hbs
  have HBC := Lib.hid hbc
  have HQ : Hid (∀ w', Below wq.heap.size wq w' → (w'.cell? ⟨w.heap.size, 0, none⟩ = some (.int .i64 f) ∧ w'.cell? ⟨w.heap.size, 1, none⟩ = some (.slice na ln cn) ∧ w'.cell? ⟨w.heap.size, 2, none⟩ = some (.slice (some ⟨C, P, none⟩) lq co)) ∧ IntSl w' pc m (fun i => ((cl i : Nat) : Int)) ∧ (∀ i, i < lq → w'.cell? ⟨C, P + i * 3 + 1, none⟩ = some (.int .i64 (U i).c)) ∧ Hid (Tr7 w' na (some ⟨C, P, none⟩) ln lq N U)) := Lib.hid fun w' h => by
    have h2 := HBQ.out.trans (h.mono HBQ.out.size)
    obtain ⟨z1, z2, z3, _⟩ := BX.out w' h2
    exact ⟨⟨z1, z2, z3⟩, HCS.out.below (HBC.out.trans (h.mono HBC.out.size)), HCL.out w' h2, HN.out w' h2⟩
  have HPV : Hid (∀ w', Below wq.heap.size wq w' → Calls Tryz.prog 37 #[.agg #[.int .i64 f, .slice na ln cn, .slice (some ⟨C, P, none⟩) lq co], .slice sb lq cb, .int .i64 0, .int .i64 3] w' fun e w'' => e = .returned (.int .i64 (totT U t' 0 3 lq)) ∧ Below w'.heap.size w' w'') := Lib.hid fun w' h =>
    total_w f na _ sb ln cn lq co cb N U t' 0 3 w' (by omega) (Lib.hid (shares200 HR.out HT.out)) (HQ.out _ h).2.2.2 (Lib.hid (HSB.out.below (HBS.out.trans (h.mono HBS.out.size))))
  clear hb hbs hbc x1 x2 x3 x4
  go_loopw [9, 10] (fun nv ii wr => ∃ k : Nat, k ≤ m ∧ ii = .int .i64 (k : Int) ∧ nv = .int .i64 (sm (fun i => capN f N (cl i)) k) ∧ Below wq.heap.size wq wr) (fun _ ii _ => m - (Go.RowKit.intOf ii).toNat)
  case atStart => exact ⟨0, Nat.zero_le _, rfl, rfl, Below.refl _ _⟩
  case round =>
    obtain ⟨k, hk, rfl, rfl, hbr⟩ := hrel
    have HBR := Lib.hid hbr
    clear hbr
    by_cases hlt : k < m
    · obtain ⟨A, O, hpc, hA, hnum⟩ := (HQ.out wr HBR.out).2.1.resolve_left (by omega)
      subst hpc
      have HR1 : Hid (∀ w', Below wr.heap.size wr w' → (w'.cell? ⟨w.heap.size, 0, none⟩ = some (.int .i64 f) ∧ w'.cell? ⟨w.heap.size, 1, none⟩ = some (.slice na ln cn) ∧ w'.cell? ⟨w.heap.size, 2, none⟩ = some (.slice (some ⟨C, P, none⟩) lq co)) ∧ (∀ i, i < m → w'.cell? ⟨A, O + i, none⟩ = some (.int .i64 ((cl i : Nat) : Int))) ∧ Hid (Tr7 w' na (some ⟨C, P, none⟩) ln lq N U)) := Lib.hid fun w' h => by
        obtain ⟨h1, h2, _, h4⟩ := HQ.out w' (HBR.out.trans (h.mono HBR.out.size))
        exact ⟨h1, fun i hi => intSl_cells h2 hi, h4⟩
      have hcl := HC.out.ok k hlt
      have hfb : fromB 0 (ln : Int) ((cl k : Nat) : Int) = true := by simp only [fromB, decide_eq_true_eq]; omega
      have HND : Hid (∀ w', Below wr.heap.size wr w' → Calls Tryz.prog 31 #[.agg #[.int .i64 f, .slice na ln cn, .slice (some ⟨C, P, none⟩) lq co], .int .i64 ((cl k : Nat) : Int)] w' fun e w'' => e = .returned (.bool true) ∧ Below wr.heap.size wr w'') := Lib.hid fun w' h =>
        (node_w f _ na _ ln cn lq co w').mono fun e w'' ⟨he, hb3⟩ => ⟨by rw [he, hfb], h.trans (hb3.mono h.size)⟩
      have HCP : Hid (∀ w', Below wr.heap.size wr w' → Calls Tryz.prog 35 #[.agg #[.int .i64 f, .slice na ln cn, .slice (some ⟨C, P, none⟩) lq co], .int .i64 ((cl k : Nat) : Int)] w' fun e w'' => e = .returned (.int .i64 (capN f N (cl k))) ∧ Below wr.heap.size wr w'') := Lib.hid fun w' h =>
        (rcap_w f na _ ln cn lq co (cl k) N U w' hcl hls (HR1.out w' h).2.2).mono fun e w'' ⟨he, hb3⟩ => ⟨he, h.trans (hb3.mono h.size)⟩
      have bd1 := sm_bd (g := fun i => capN f N (cl i)) (b := 200) k (fun i hi => capN_200 HR.out (HC.out.ok i (by omega)))
      have bd2 := capN_200 HR.out hcl
      have hsu : sm (fun i => capN f N (cl i)) (k + 1) = sm (fun i => capN f N (cl i)) k + capN f N (cl k) := rfl
      have HSU := Lib.hid hsu
      obtain ⟨s0, hs0⟩ : ∃ s0, sm (fun i => capN f N (cl i)) k = s0 := ⟨_, rfl⟩
      obtain ⟨cp, hcp⟩ : ∃ cp, capN f N (cl k) = cp := ⟨_, rfl⟩
      have HS0 := Lib.hid hs0
      have HCP0 := Lib.hid hcp
      rw [hs0] at bd1
      rw [hcp] at bd2 HCP
      have wr1 : wrap64 (s0 + cp) = s0 + cp := by unfold wrap64; omega
      have WR1 : Hid (IntKind.i64.wrap (s0 + cp) = s0 + cp) := Lib.hid (wrapI wr1)
      have WR2 := Lib.hid wr1
      rw [hs0]
      have n1 : (k : Int) < (m : Int) := by omega
      have n2 : (0 : Int) ≤ (k : Int) := by omega
      clear hsu hs0 hcp hfb
      obtain ⟨⟨x1, x2, x3⟩, y1, _⟩ := HR1.out wr (Below.refl _ _)
      have hck := y1 k hlt
      by_cases hk0 : k = 0
      · have n3 : decide (0 < k) = false := decide_eq_false (by omega)
        have HOBT := Lib.hid (fun w' hw' => (HR1.out w' hw').2.1 k hlt)
        have N3 := Lib.hid n3
        clear y1 hck hk0 n3
        go_wp2
        have n3 := N3.out
        refine wp_region_calm (W := wr) hmx (by kernel_rfl) (Below.refl _ _) ?_
        repeat (first
          | (refine calm_no (by rfl) ?_
             (try simp only [Act.put, List.setIfInBounds_toArray, List.set_cons_zero, List.set_cons_succ]))
          | (apply calm_yes
             focus rfl
             focus
               intro w' hw'
               obtain ⟨⟨z1, z2, z3⟩, _⟩ := HR1.out w' hw'; have z4 := HOBT.out w' hw'
               go_simp
               first
                 | done
                 | with_reducible rfl
                 | (go_at_call 31; exact HND.out w' hw')
                 | fail
             (try simp only [Act.put, List.setIfInBounds_toArray, List.set_cons_zero, List.set_cons_succ])))
        refine calm_nil ?_
        intro w7 hqw7
        have HB7 := Lib.hid hqw7
        clear hqw7 n3
        obtain ⟨⟨x1, x2, x3⟩, _⟩ := HR1.out w7 HB7.out
        go_wp2
        clear x1 x2 x3
        refine wp_region_calm (W := wr) hmx (by kernel_rfl) HB7.out ?_
        repeat (first
          | (refine calm_no (by rfl) ?_
             (try simp only [Act.put, List.setIfInBounds_toArray, List.set_cons_zero, List.set_cons_succ]))
          | (apply calm_yes
             focus rfl
             focus
               intro w' hw'
               obtain ⟨⟨z1, z2, z3⟩, _⟩ := HR1.out w' hw'; have z4 := HOBT.out w' hw'
               go_simp
               first
                 | done
                 | with_reducible rfl
                 | (go_at_call 35; exact HCP.out w' hw')
                 | fail
             (try simp only [Act.put, List.setIfInBounds_toArray, List.set_cons_zero, List.set_cons_succ])))
        refine calm_nil ?_
        intro w8 hqw8
        have HB8 := Lib.hid hqw8
        clear hqw8
        go_wp2
        go_roundw
        case rel => exact ⟨k + 1, by omega, by go_num, by rw [HSU.out, HS0.out, HCP0.out]; first | done | exact congrArg _ WR1.out | exact congrArg _ WR2.out, HBR.out.trans (HB8.out.mono HBR.out.size)⟩
        case measure => simp [Go.RowKit.intOf]; omega
      · obtain ⟨j, hj⟩ : ∃ j, k = j + 1 := ⟨k - 1, by omega⟩
        have hjm : j < m := by omega
        have hup : decide (cl k ≤ cl j) = false := decide_eq_false (by
          have := HC.out.up j (by omega)
          rw [hj]
          omega)
        have HOBT := Lib.hid (fun w' hw' => And.intro ((HR1.out w' hw').2.1 k hlt) ((HR1.out w' hw').2.1 j hjm))
        have n3 : decide (0 < k) = true := decide_eq_true (by omega)
        have n4 : (0 : Int) ≤ (j : Int) := by omega
        have n5 : (j : Int) < (m : Int) := by omega
        have n8 : (k : Int) - 1 = (j : Int) := by omega
        have wr2 : wrap64 (j : Int) = (j : Int) := by unfold wrap64; omega
        have wr3 : IntKind.i64.wrap (j : Int) = (j : Int) := wrapI wr2
        have N3 := Lib.hid (And.intro n3 (And.intro hup (And.intro n4 (And.intro n5 (And.intro n8 (And.intro wr2 wr3))))))
        clear y1 hck hk0 hj hjm n3 hup n4 n5 n8 wr2 wr3
        go_wp2
        obtain ⟨n3, hup, n4, n5, n8, wr2, wr3⟩ := N3.out
        refine wp_region_calm (W := wr) hmx (by kernel_rfl) (Below.refl _ _) ?_
        repeat (first
          | (refine calm_no (by rfl) ?_
             (try simp only [Act.put, List.setIfInBounds_toArray, List.set_cons_zero, List.set_cons_succ]))
          | (apply calm_yes
             focus rfl
             focus
               intro w' hw'
               obtain ⟨⟨z1, z2, z3⟩, _⟩ := HR1.out w' hw'; obtain ⟨z4, z5⟩ := HOBT.out w' hw'
               go_simp
               first
                 | done
                 | with_reducible rfl
                 | (go_at_call 31; exact HND.out w' hw')
                 | fail
             (try simp only [Act.put, List.setIfInBounds_toArray, List.set_cons_zero, List.set_cons_succ])))
        refine calm_nil ?_
        intro w7 hqw7
        have HB7 := Lib.hid hqw7
        clear hqw7 n3 hup n4 n5 n8 wr2 wr3
        obtain ⟨⟨x1, x2, x3⟩, _⟩ := HR1.out w7 HB7.out
        go_wp2
        clear x1 x2 x3
        refine wp_region_calm (W := wr) hmx (by kernel_rfl) HB7.out ?_
        repeat (first
          | (refine calm_no (by rfl) ?_
             (try simp only [Act.put, List.setIfInBounds_toArray, List.set_cons_zero, List.set_cons_succ]))
          | (apply calm_yes
             focus rfl
             focus
               intro w' hw'
               obtain ⟨⟨z1, z2, z3⟩, _⟩ := HR1.out w' hw'; obtain ⟨z4, z5⟩ := HOBT.out w' hw'
               go_simp
               first
                 | done
                 | with_reducible rfl
                 | (go_at_call 35; exact HCP.out w' hw')
                 | fail
             (try simp only [Act.put, List.setIfInBounds_toArray, List.set_cons_zero, List.set_cons_succ])))
        refine calm_nil ?_
        intro w8 hqw8
        have HB8 := Lib.hid hqw8
        clear hqw8
        go_wp2
        go_roundw
        case rel => exact ⟨k + 1, by omega, by go_num, by rw [HSU.out, HS0.out, HCP0.out]; first | done | exact congrArg _ WR1.out | exact congrArg _ WR2.out, HBR.out.trans (HB8.out.mono HBR.out.size)⟩
        case measure => simp [Go.RowKit.intOf]; omega
    · obtain rfl : k = m := by omega
      have n1 : ¬ (k : Int) < (k : Int) := by omega
      have HS1 := Lib.hid (sm_bd (g := fun i => capN f N (cl i)) (b := 200) k (fun i hi => capN_200 HR.out (HC.out.ok i hi)))
      have HSUM := Lib.hid HC.out.sum
      obtain ⟨s1, hs1⟩ : ∃ s1, sm (fun i => capN f N (cl i)) k = s1 := ⟨_, rfl⟩
      rw [hs1] at HS1 HSUM ⊢
      clear hs1
      go_wp2
      clear n1
      go_loopw [9, 11] (fun nv ii wr => ∃ i : Nat, i ≤ lq ∧ ii = .int .i64 (i : Int) ∧ nv = .int .i64 (s1 + sm (fun i => if sm (fun j => if cl j ∈ path N (U i).n.toNat then (1 : Int) else 0) k = 0 then (U i).c else 0) i) ∧ Below wq.heap.size wq wr) (fun _ ii _ => lq - (Go.RowKit.intOf ii).toNat)
      case atStart => exact ⟨0, Nat.zero_le _, rfl, by simp [sm], HBR.out⟩
      case round =>
        obtain ⟨i, hi, rfl, rfl, hbr⟩ := hrel
        have HBR2 := Lib.hid hbr
        clear hbr
        by_cases hlt2 : i < lq
        · have n2 : (i : Int) < (lq : Int) := by omega
          have n3 : (0 : Int) ≤ (i : Int) := by omega
          obtain ⟨⟨x1, x2, x3⟩, _, hcc, _⟩ := HQ.out wr HBR2.out
          clear hcc
          go_wp2
          clear x1 x2 x3
          go_loopw [12, 13] (fun mv jj wr2 => ∃ j : Nat, j ≤ k ∧ jj = .int .i64 (j : Int) ∧ mv = .int .i64 (sm (fun j => if cl j ∈ path N (U i).n.toNat then (1 : Int) else 0) j) ∧ Below wq.heap.size wq wr2) (fun _ jj _ => k - (Go.RowKit.intOf jj).toNat)
          case atStart => exact ⟨0, Nat.zero_le _, rfl, rfl, HBR2.out⟩
          case round =>
            obtain ⟨j, hj, rfl, rfl, hbr⟩ := hrel
            have HBR3 := Lib.hid hbr
            clear hbr
            by_cases hlt3 : j < k
            · obtain ⟨A, O, hpc, hA, hnum⟩ := (HQ.out wr HBR3.out).2.1.resolve_left (by omega)
              subst hpc
              have HR3 : Hid (∀ w', Below wr.heap.size wr w' → (w'.cell? ⟨w.heap.size, 0, none⟩ = some (.int .i64 f) ∧ w'.cell? ⟨w.heap.size, 1, none⟩ = some (.slice na ln cn) ∧ w'.cell? ⟨w.heap.size, 2, none⟩ = some (.slice (some ⟨C, P, none⟩) lq co)) ∧ w'.cell? ⟨A, O + j, none⟩ = some (.int .i64 ((cl j : Nat) : Int)) ∧ Hid (Tr7 w' na (some ⟨C, P, none⟩) ln lq N U)) := Lib.hid fun w' h => by
                obtain ⟨h1, h2, _, h4⟩ := HQ.out w' (HBR3.out.trans (h.mono HBR3.out.size))
                exact ⟨h1, intSl_cells h2 hlt3, h4⟩
              have HBL : Hid (∀ w', Below wr.heap.size wr w' → Calls Tryz.prog 33 #[.agg #[.int .i64 f, .slice na ln cn, .slice (some ⟨C, P, none⟩) lq co], .int .i64 (i : Int), .int .i64 ((cl j : Nat) : Int)] w' fun e w'' => e = .returned (.bool (decide (cl j ∈ path N (U i).n.toNat))) ∧ Below wr.heap.size wr w'') := Lib.hid fun w' h =>
                (below_w f na _ ln cn lq co i (cl j) N U w' hlt2 HR (HR3.out w' h).2.2).mono fun e w'' ⟨he, hb3⟩ => ⟨he, h.trans (hb3.mono h.size)⟩
              have hj9 : j ≤ 9 := by omega
              have bd1 := sm_bd (g := fun j => if cl j ∈ path N (U i).n.toNat then (1 : Int) else 0) (b := 1) j (fun x _ => by split <;> decide)
              have m1 : (j : Int) < (k : Int) := by omega
              have m2 : (0 : Int) ≤ (j : Int) := by omega
              by_cases hp : cl j ∈ path N (U i).n.toNat
              · have hsu : sm (fun j => if cl j ∈ path N (U i).n.toNat then (1 : Int) else 0) (j + 1) = sm (fun j => if cl j ∈ path N (U i).n.toNat then (1 : Int) else 0) j + 1 := by simp only [sm]; rw [if_pos hp]
                have HSU := Lib.hid hsu
                rw [decide_eq_true hp] at HBL
                obtain ⟨s2, hs2⟩ : ∃ s2, sm (fun j => if cl j ∈ path N (U i).n.toNat then (1 : Int) else 0) j = s2 := ⟨_, rfl⟩
                have HS2 := Lib.hid hs2
                rw [hs2] at bd1 ⊢
                have wr1 : wrap64 (s2 + 1) = s2 + 1 := by unfold wrap64; omega
                have WR1 : Hid (IntKind.i64.wrap (s2 + 1) = s2 + 1) := Lib.hid (wrapI wr1)
                have WR2 := Lib.hid wr1
                clear hsu hs2 hp bd1 hj9 hA hnum
                go_wp2
                refine wp_region_calm (W := wr) hmx (by kernel_rfl) (Below.refl _ _) ?_
                repeat (first
                  | (refine calm_no (by rfl) ?_
                     (try simp only [Act.put, List.setIfInBounds_toArray, List.set_cons_zero, List.set_cons_succ]))
                  | (apply calm_yes
                     focus rfl
                     focus
                       intro w' hw'
                       obtain ⟨⟨z1, z2, z3⟩, z4, _⟩ := HR3.out w' hw'
                       go_simp
                       first
                         | done
                         | with_reducible rfl
                         | (go_at_call 33; exact HBL.out w' hw')
                         | fail
                     (try simp only [Act.put, List.setIfInBounds_toArray, List.set_cons_zero, List.set_cons_succ])))
                refine calm_nil ?_
                intro w7 hqw7
                have HB7 := Lib.hid hqw7
                clear hqw7
                go_wp2
                go_roundw
                case rel => exact ⟨j + 1, by omega, by go_num, by rw [HSU.out, HS2.out]; first | done | exact congrArg _ WR1.out | exact congrArg _ WR2.out, HBR3.out.trans (HB7.out.mono HBR3.out.size)⟩
                case measure => simp [Go.RowKit.intOf]; omega
              · have hsu : sm (fun j => if cl j ∈ path N (U i).n.toNat then (1 : Int) else 0) (j + 1) = sm (fun j => if cl j ∈ path N (U i).n.toNat then (1 : Int) else 0) j := by simp only [sm]; rw [if_neg hp, Int.add_zero]
                have HSU := Lib.hid hsu
                rw [decide_eq_false hp] at HBL
                clear hsu hp bd1 hj9 hA hnum
                go_wp2
                refine wp_region_calm (W := wr) hmx (by kernel_rfl) (Below.refl _ _) ?_
                repeat (first
                  | (refine calm_no (by rfl) ?_
                     (try simp only [Act.put, List.setIfInBounds_toArray, List.set_cons_zero, List.set_cons_succ]))
                  | (apply calm_yes
                     focus rfl
                     focus
                       intro w' hw'
                       obtain ⟨⟨z1, z2, z3⟩, z4, _⟩ := HR3.out w' hw'
                       go_simp
                       first
                         | done
                         | with_reducible rfl
                         | (go_at_call 33; exact HBL.out w' hw')
                         | fail
                     (try simp only [Act.put, List.setIfInBounds_toArray, List.set_cons_zero, List.set_cons_succ])))
                refine calm_nil ?_
                intro w7 hqw7
                have HB7 := Lib.hid hqw7
                clear hqw7
                go_wp2
                go_roundw
                case rel => exact ⟨j + 1, by omega, by go_num, by rw [HSU.out], HBR3.out.trans (HB7.out.mono HBR3.out.size)⟩
                case measure => simp [Go.RowKit.intOf]; omega
            · obtain rfl : j = k := by omega
              have m1 : ¬ (j : Int) < (j : Int) := by omega
              have HTE := Lib.hid (show sm (fun i => if sm (fun j => if cl j ∈ path N (U i).n.toNat then (1 : Int) else 0) j = 0 then (U i).c else 0) (i + 1) = sm (fun i => if sm (fun j => if cl j ∈ path N (U i).n.toNat then (1 : Int) else 0) j = 0 then (U i).c else 0) i + (if sm (fun j => if cl j ∈ path N (U i).n.toNat then (1 : Int) else 0) j = 0 then (U i).c else 0) from rfl)
              have bd3 := sm_bd (g := fun i => if sm (fun j => if cl j ∈ path N (U i).n.toNat then (1 : Int) else 0) j = 0 then (U i).c else 0) (b := 200) i (fun x hx => by have := (tree_o HR.out (show x < lq by omega)).2.1; split <;> omega)
              have hoc := (tree_o HR.out hlt2).2.1
              have bs1 := HS1.out
              have hj9 : j ≤ 9 := by omega
              obtain ⟨s3, hs3⟩ : ∃ s3, sm (fun i => if sm (fun j => if cl j ∈ path N (U i).n.toNat then (1 : Int) else 0) j = 0 then (U i).c else 0) i = s3 := ⟨_, rfl⟩
              rw [hs3] at HTE bd3 ⊢
              have wr1 : wrap64 (s1 + s3 + (U i).c) = s1 + s3 + (U i).c := by unfold wrap64; omega
              have WR1 : Hid (IntKind.i64.wrap (s1 + s3 + (U i).c) = s1 + s3 + (U i).c) := Lib.hid (wrapI wr1)
              have WR2 := Lib.hid wr1
              obtain ⟨⟨x1, x2, x3⟩, _, hcc, _⟩ := HQ.out wr HBR3.out
              have x5 := hcc i hlt2
              clear hcc hs3 bd3 bs1 hoc hj9
              rcases HC.out.one i hlt2 with h | h
              · rw [h] at HTE ⊢
                clear h
                go_wp2
                go_roundw
                case rel => exact ⟨i + 1, by omega, by go_num, by rw [HTE.out, if_pos rfl, ← Int.add_assoc]; first | done | exact congrArg _ WR1.out | exact congrArg _ WR2.out, HBR3.out⟩
                case measure => simp [Go.RowKit.intOf]; omega
              · rw [h] at HTE ⊢
                clear h
                go_wp2
                go_roundw
                case rel => exact ⟨i + 1, by omega, by go_num, by rw [HTE.out, if_neg (by decide), Int.add_zero], HBR3.out⟩
                case measure => simp [Go.RowKit.intOf]; omega
        · obtain rfl : i = lq := by omega
          have m1 : ¬ (i : Int) < (i : Int) := by omega
          have hval : s1 + sm (fun i => if sm (fun j => if cl j ∈ path N (U i).n.toNat then (1 : Int) else 0) k = 0 then (U i).c else 0) i = totT U t' 0 3 i := by rw [totT_all HR.out, HSUM.out]
          have hle : Hid (FitP f ln i N U q → totT U q 0 3 i ≤ totT U t' 0 3 i) := Lib.hid fun hf => tot_le HR.out HT.out (fun x hx => by have := HP.out.sok x hx; simp only [fromB, decide_eq_true_eq] at this; exact this) hf
          have hqb : Hid (∀ x, x < i → 0 ≤ q x ∧ q x ≤ 200) := Lib.hid fun x hx => by have := HP.out.sok x hx; simp only [fromB, decide_eq_true_eq] at this; have h2 := (tree_o HR.out hx).2.1; omega
          rw [hval]
          obtain ⟨tt, htt⟩ : ∃ tt, totT U t' 0 3 i = tt := ⟨_, rfl⟩
          obtain ⟨tq, htq⟩ : ∃ tq, totT U q 0 3 i = tq := ⟨_, rfl⟩
          rw [htt] at HPV hle ⊢
          rw [htq] at hle
          have HTQ := Lib.hid htq
          have hbz := HBR2.out
          have hb := HBQ.out.trans (hbz.mono HBQ.out.size)
          obtain ⟨x1, x2, x3, x4⟩ := BX.out _ hb
          clear hval htt htq
          go_wp2_with (first
            | (go_at_call_of 37 sb; refine (HPV.out _ hbz).mono ?_; rintro e wl ⟨rfl, hv⟩; replace hbz := hbz.trans (hv.mono hbz.size); (try replace hbs := hbs.trans (hv.mono hbs.size)); replace hb := hb.trans (hv.mono hb.size); clear x1 x2 x3 x4; obtain ⟨x1, x2, x3, x4⟩ := BX.out _ hb)
            | (go_at_call_of 37 qa; refine (total_w f na _ qa ln cn i co cq N U q 0 3 _ (by omega) hqb (HQ.out _ hbz).2.2.2 (HMQ.out _ hb)).mono ?_; rw [HTQ.out]; rintro e wl ⟨rfl, hv⟩; replace hbz := hbz.trans (hv.mono hbz.size); (try replace hbs := hbs.trans (hv.mono hbs.size)); replace hb := hb.trans (hv.mono hb.size); clear x1 x2 x3 x4; obtain ⟨x1, x2, x3, x4⟩ := BX.out _ hb)
            | (go_at_call 20; refine (rfits_w f na _ qa ln cn i co cq N U q _ HR HP (HQ.out _ hbz).2.2.2 (HMQ.out _ hb)).mono ?_; rintro e wl ⟨⟨rb, rfl, hrb⟩, hv⟩; obtain rfl : rb = false := (by cases rb <;> first | rfl | exact (HF.out (hrb.1 rfl)).elim); clear hrb; replace hbz := hbz.trans (hv.mono hbz.size); (try replace hbs := hbs.trans (hv.mono hbs.size)); replace hb := hb.trans (hv.mono hb.size); clear x1 x2 x3 x4; obtain ⟨x1, x2, x3, x4⟩ := BX.out _ hb)
            | (go_at_call 15; refine (K.out _).mono ?_; rintro e wl ⟨rfl, hv⟩; replace hbz := hbz.trans (hv.mono hbz.size); (try replace hbs := hbs.trans (hv.mono hbs.size)); replace hb := hb.trans (hv.mono hb.size); clear x1 x2 x3 x4; obtain ⟨x1, x2, x3, x4⟩ := BX.out _ hb))
          go_ret
          exact ⟨rfl, below_al hb⟩
end Go.Kn

namespace Go.Kn
open Go Go.Proofs Go.RowKit

set_option maxHeartbeats 1000000 in
theorem lawwh_w (f : Int) (na oa qa : Option Addr) (ln cn lo co lq cq : Nat) (N : Nat → N2) (U : Nat → O3) (q : Nat → Int) (w : World) (hls : ln ≤ maxLen) (hlt : lo ≤ maxLen) (hlq : lq ≤ maxLen) (H : Tr7 w na oa ln lo N U) (HQ : IntSl w qa lq q) (K : KnownOk) :
    Calls Tryz.prog 7 #[.agg #[.int .i64 f, .slice na ln cn, .slice oa lo co], .slice qa lq cq] w
      fun e w' => e = .returned (.bool true) ∧ Below w.heap.size w w' := by
  by_cases hq : ln ≤ 8 ∧ lo ≤ 10
  case neg => exact lawwh_a f na oa qa ln cn lo co lq cq N U q w hls hlt hlq (Lib.hid H) (Lib.hid HQ) (Lib.hid K) hq
  have l1 : ln ≤ 1000000 := by omega
  have l2 : lo ≤ 1000000 := by omega
  by_cases hq1 : 12 < lq
  case pos => exact lawwh_b f na oa qa ln cn lo co lq cq N U q w l1 l2 hlq (Lib.hid H) (Lib.hid HQ) (Lib.hid K) hq hq1
  by_cases HR : TreeP f ln lo N U
  case neg => exact lawwh_c f na oa qa ln cn lo co lq cq N U q w l1 l2 hlq (Lib.hid H) (Lib.hid HQ) (Lib.hid K) hq hq1 (Lib.hid HR)
  by_cases HP : SharesP lq lo q U
  case neg => exact lawwh_d f na oa qa ln cn lo co lq cq N U q w l1 l2 hlq (Lib.hid H) (Lib.hid HQ) (Lib.hid K) hq hq1 (Lib.hid HR) (Lib.hid HP)
  obtain ⟨t, ht⟩ := ord_ex (f := f) (ln := ln) (lo := lo) (N := N) (U := U) [0, 1, 2, 3] (fun _ => 0) (vd_zero HR)
  by_cases HF : FitP f ln lo N U q
  · exact lawwh_e f na oa qa ln cn lo co lq cq N U q w l1 l2 hlq (Lib.hid H) (Lib.hid HQ) (Lib.hid K) hq hq1 (Lib.hid HR) (Lib.hid HP) t (Lib.hid ht) (Lib.hid (by obtain rfl := HP.len; exact HF))
  · exact lawwh_f f na oa qa ln cn lo co lq cq N U q w l1 l2 hlq (Lib.hid H) (Lib.hid HQ) (Lib.hid K) hq hq1 (Lib.hid HR) (Lib.hid HP) t (Lib.hid ht) (Lib.hid (by obtain rfl := HP.len; exact HF))
end Go.Kn
