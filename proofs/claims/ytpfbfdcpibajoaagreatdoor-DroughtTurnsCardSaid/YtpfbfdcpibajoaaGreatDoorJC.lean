/- Contracts of functions that the laws of this seat call, or the evaluator of closed calls and its runs. Conditions: as each theorem states them. -/
import Derived.Test.YtpfbfdcpibajoaaGreatDoorJB
set_option linter.unusedVariables false
set_option linter.unusedSimpArgs false
namespace Go.Kn
open Go Go.Proofs Go.RowKit

theorem frm_zero {lo : Nat} {s : Nat → Int} : fromB (frm s 0) ((lo : Int) - 1) (s 0) = fromB 0 ((lo : Int) - 1) (s 0) := rfl
theorem frm_succ {lo : Nat} {s : Nat → Int} {j : Nat} (hd : dayB lo s (j + 1) = true) : fromB (frm s (j + 1)) ((lo : Int) - 1) (s (j + 1)) = (fromB 0 ((lo : Int) - 1) (s (j + 1)) && !decide (s (j + 1) ≤ s j)) := by
  have h1 := (dayB_ls hd).ok j (Nat.lt_succ_self j)
  simp only [frm, fromB]
  by_cases a : s j + 1 ≤ s (j + 1)
  · have b : ¬ s (j + 1) ≤ s j := by omega
    have c : 0 ≤ s (j + 1) := by omega
    simp [a, b, c]
  · have b : s (j + 1) ≤ s j := by omega
    simp [a, b]

set_option maxRecDepth 100000 in
set_option maxHeartbeats 4000000 in
theorem rplan_w (f : Int) (na oa pa : Option Addr) (ln cn lo co lp cp : Nat) (D : Nat → Dy) (w : World) (hlo : lo ≤ 1000000) (hlp : lp ≤ 1000000) (HD : Hid (∀ d, d < lp → (D d).n ≤ 1000000)) (HP : Hid (PlSl w pa lp D)) :
    Calls Tryz.prog 46 #[.agg #[.int .i64 f, .slice na ln cn, .slice oa lo co], .slice pa lp cp] w fun e w' => e = .returned (.bool (decide (lp ≤ 10) && allN (fun d => dayB lo (D d).s (D d).n) lp)) ∧ Below w.heap.size w w' := by
  have hmx : Tryz.prog.follows .mixedOrders = true := by kernel_rfl
  have BX := Lib.hid (fun (w1 : World) (hb : Below (w.alloc (.cells #[.int .i64 f, .slice na ln cn, .slice oa lo co] 25)).heap.size (w.alloc (.cells #[.int .i64 f, .slice na ln cn, .slice oa lo co] 25)) w1) => box7 hb)
  obtain ⟨WA, hWA⟩ : ∃ WA, WA = w.alloc (.cells #[.int .i64 f, .slice na ln cn, .slice oa lo co] 25) := ⟨_, rfl⟩
  have hA : Below w.heap.size w WA := by rw [hWA]; exact (Below.refl _ _).alloc (Nat.le_refl _) _
  rw [← hWA] at BX
  have HPL : Hid (PlSl WA pa lp D) := Lib.hid (HP.out.below hA)
  have HA := Lib.hid hA
  clear hA
  go_enter Tryz.func46, Tryz.ntmps46
  go_wp2
  rw [← hWA]
  clear hWA
  go_loopw [5] (fun dd wr => ∃ d : Nat, d ≤ lp ∧ dd = .int .i64 (d : Int) ∧ allN (fun d => dayB lo (D d).s (D d).n) d = true ∧ Below WA.heap.size WA wr) (fun dd _ => lp - (Go.RowKit.intOf dd).toNat)
  case atStart => exact ⟨0, Nat.zero_le _, rfl, rfl, Below.refl _ _⟩
  case round =>
    obtain ⟨d, hd, rfl, hal, hbr⟩ := hrel
    have HAL := Lib.hid hal
    have HBR := Lib.hid hbr
    clear hal hbr
    by_cases hlt : d < lp
    case neg =>
      obtain rfl : d = lp := by omega
      by_cases h10 : d ≤ 10
      · have n1 : (d : Int) ≤ 10 := by omega
        have H10 := Lib.hid h10
        clear h10
        go_wp2
        go_ret
        exact ⟨by rw [decide_eq_true H10.out, HAL.out]; simp [n1], HA.out.trans (HBR.out.mono HA.out.size)⟩
      · have n1 : ¬ (d : Int) ≤ 10 := by omega
        have H10 := Lib.hid h10
        clear h10
        go_wp2
        go_ret
        exact ⟨by rw [decide_eq_false H10.out, Bool.false_and]; simp [n1], HA.out.trans (HBR.out.mono HA.out.size)⟩
    case pos =>
    obtain ⟨A, O, rfl, hAl, hN⟩ := HPL.out.resolve_left (by omega)
    have HPA : Hid (∀ w2, Below WA.heap.size WA w2 → w2.cell? ⟨A, O + d, none⟩ = some (.slice (D d).a (D d).n (D d).c) ∧ IntSl w2 (D d).a (D d).n (D d).s) := Lib.hid fun w2 h => hN.below hAl h d hlt
    have hn0 := HD.out d hlt
    clear hN
    obtain ⟨⟨a, n, c, s⟩, hdy⟩ : ∃ dy, D d = dy := ⟨_, rfl⟩
    rw [hdy] at HPA hn0
    dsimp only at HPA hn0
    have HDY := Lib.hid hdy
    clear hdy
    have n1 : (0 : Int) ≤ (d : Int) := by omega
    have n2 : (d : Int) < (lp : Int) := by omega
    obtain ⟨w0, hw0⟩ : ∃ w0, w0 = wr := ⟨_, rfl⟩
    subst hw0
    go_wp2
    go_loopw [6] (fun kk wr => ∃ k : Nat, k ≤ n ∧ kk = .int .i64 (k : Int) ∧ dayB lo s k = true ∧ Below w0.heap.size w0 wr) (fun kk _ => n - (Go.RowKit.intOf kk).toNat)
    case atStart => exact ⟨0, Nat.zero_le _, rfl, rfl, Below.refl _ _⟩
    case round =>
      obtain ⟨k, hk, rfl, hdb, hbr2⟩ := hrel
      have HDB := Lib.hid hdb
      have HB2 := Lib.hid hbr2
      clear hdb hbr2
      have HBW := Lib.hid (HBR.out.trans (HB2.out.mono HBR.out.size))
      have z0 := (HPA.out _ HBW.out).1
      by_cases hlk : k < n
      case neg =>
        obtain rfl : k = n := by omega
        have HNX := Lib.hid (allN_next (B := fun d => dayB lo (D d).s (D d).n) HAL.out (by rw [HDY.out]; exact HDB.out))
        go_wp2
        refine ⟨⟨d + 1, by omega, by go_num, HNX.out, HBW.out⟩, by simp [Go.RowKit.intOf]; omega⟩
      case pos =>
      obtain ⟨G, Q, rfl, hG, _⟩ := (HPA.out _ HBW.out).2.resolve_left (by omega)
      have HNU : Hid (∀ w2, Below wr.heap.size wr w2 → NumAt w2 G Q n s ∧ w2.cell? ⟨A, O + d, none⟩ = some (.slice (some ⟨G, Q, none⟩) n c) ∧ w2.cell? ⟨w.heap.size, 0, none⟩ = some (.int .i64 f) ∧ w2.cell? ⟨w.heap.size, 1, none⟩ = some (.slice na ln cn) ∧ w2.cell? ⟨w.heap.size, 2, none⟩ = some (.slice oa lo co)) := Lib.hid fun w2 h => by
        have h2 := HBW.out.trans (h.mono HBW.out.size)
        obtain ⟨y1, y2, y3, _⟩ := BX.out _ h2
        obtain ⟨p1, p2⟩ := HPA.out _ h2
        obtain ⟨G', Q', e, _, hn⟩ := p2.resolve_left (by omega)
        cases e
        exact ⟨hn, p1, y1, y2, y3⟩
      have n3 : (0 : Int) ≤ (k : Int) := by omega
      have n4 : (k : Int) < (n : Int) := by omega
      have HOU : Hid (∀ w2, Below wr.heap.size wr w2 → Calls Tryz.prog 33 #[.agg #[.int .i64 f, .slice na ln cn, .slice oa lo co], .int .i64 (s k)] w2 fun e w' => e = .returned (.bool (fromB 0 ((lo : Int) - 1) (s k))) ∧ Below wr.heap.size wr w') := Lib.hid fun w2 h => (outlet_w f (s k) na oa ln cn lo co w2 hlo).mono fun e w' ⟨he, hv⟩ => ⟨he, h.trans (hv.mono h.size)⟩
      clear hG z0
      cases hf : fromB 0 ((lo : Int) - 1) (s k) with
      | false =>
        rw [hf] at HOU
        have HNO : Hid (allN (fun d => dayB lo (D d).s (D d).n) lp = false) := Lib.hid (allN_no hlt (by rw [HDY.out]; refine dayB_no hlk ?_; cases k with | zero => exact hf | succ j => rw [frm_succ HDB.out, hf]; rfl))
        have HKS := Lib.hid (fun w2 (h : Below wr.heap.size wr w2) => ((HNU.out w2 h).1 k hlk))
        clear hf
        obtain ⟨z0, z00⟩ := And.intro (HNU.out _ (Below.refl _ _)).2.1 trivial
        go_wp2
        clear z0
        refine wp_region_calm (W := wr) hmx (by kernel_rfl) (Below.refl _ _) ?_
        repeat (first
          | (refine calm_no (by rfl) ?_
             (try simp only [Act.put, List.setIfInBounds_toArray, List.set_cons_zero, List.set_cons_succ]))
          | (apply calm_yes
             focus rfl
             focus
               intro w' hw'
               obtain ⟨_, z1, z2, z3, z4⟩ := HNU.out w' hw'; have z5 := HKS.out w' hw'
               go_simp
               first
                 | done
                 | with_reducible rfl
                 | (go_at_call 33; exact HOU.out w' hw')
                 | fail
             (try simp only [Act.put, List.setIfInBounds_toArray, List.set_cons_zero, List.set_cons_succ])))
        refine calm_nil ?_
        intro w7 hqw7
        have HB7 := Lib.hid hqw7
        clear hqw7
        go_wp2
        go_ret
        exact ⟨by rw [HNO.out, Bool.and_false]; rfl, HA.out.trans ((HBW.out.trans (HB7.out.mono HBW.out.size)).mono HA.out.size)⟩
      | true =>
        rw [hf] at HOU
        have HF := Lib.hid hf
        clear hf
        by_cases hk0 : k = 0
        · have HNX := Lib.hid (dayB_next HDB.out (by subst hk0; rw [frm_zero]; exact HF.out))
          have HKS := Lib.hid (fun w2 (h : Below wr.heap.size wr w2) => ((HNU.out w2 h).1 k hlk))
          have n5 : decide (0 < k) = false := decide_eq_false (by omega)
          clear hk0
          have z0 := (HNU.out _ (Below.refl _ _)).2.1
          go_wp2
          clear z0
          refine wp_region_calm (W := wr) hmx (by kernel_rfl) (Below.refl _ _) ?_
          repeat (first
            | (refine calm_no (by rfl) ?_
               (try simp only [Act.put, List.setIfInBounds_toArray, List.set_cons_zero, List.set_cons_succ]))
            | (apply calm_yes
               focus rfl
               focus
                 intro w' hw'
                 obtain ⟨_, z1, z2, z3, z4⟩ := HNU.out w' hw'; have z5 := HKS.out w' hw'
                 go_simp
                 first
                   | done
                   | with_reducible rfl
                   | (go_at_call 33; exact HOU.out w' hw')
                   | fail
               (try simp only [Act.put, List.setIfInBounds_toArray, List.set_cons_zero, List.set_cons_succ])))
          refine calm_nil ?_
          intro w7 hqw7
          have HB7 := Lib.hid hqw7
          clear hqw7
          go_wp2
          go_roundw
          case rel => exact ⟨k + 1, by omega, by go_num, HNX.out, HB2.out.trans (HB7.out.mono HB2.out.size)⟩
          case measure => simp [Go.RowKit.intOf]; omega
        · obtain ⟨j, hj⟩ : ∃ j, k = j + 1 := ⟨k - 1, by omega⟩
          have hjn : j < n := by omega
          have HJ := Lib.hid hj
          have n6 : (0 : Int) ≤ (j : Int) := by omega
          have n7 : (j : Int) < (n : Int) := by omega
          have n5 : decide (0 < k) = true := decide_eq_true (by omega)
          have HKS := Lib.hid (fun w2 (h : Below wr.heap.size wr w2) => And.intro ((HNU.out w2 h).1 k hlk) ((HNU.out w2 h).1 j hjn))
          have wj : IntKind.i64.wrap ((k : Int) - 1) = (j : Int) := by rw [IntKind.wrap_i64]; omega
          have hfs : fromB (frm s k) ((lo : Int) - 1) (s k) = (fromB 0 ((lo : Int) - 1) (s k) && !decide (s k ≤ s j)) := by have h := HDB.out; rw [hj] at h ⊢; exact frm_succ h
          have HFS := Lib.hid hfs
          clear hfs hj hk0
          have z0 := (HNU.out _ (Below.refl _ _)).2.1
          cases hc : decide (s k ≤ s j) with
          | true =>
            have HNO : Hid (allN (fun d => dayB lo (D d).s (D d).n) lp = false) := Lib.hid (allN_no hlt (by rw [HDY.out]; exact dayB_no hlk (by rw [HFS.out, HF.out, hc]; rfl)))
            go_wp2
            clear z0
            refine wp_region_calm (W := wr) hmx (by kernel_rfl) (Below.refl _ _) ?_
            repeat (first
              | (refine calm_no (by rfl) ?_
                 (try simp only [Act.put, List.setIfInBounds_toArray, List.set_cons_zero, List.set_cons_succ]))
              | (apply calm_yes
                 focus rfl
                 focus
                   intro w' hw'
                   obtain ⟨_, z1, z2, z3, z4⟩ := HNU.out w' hw'; obtain ⟨z5, z6⟩ := HKS.out w' hw'
                   go_simp
                   first
                     | done
                     | with_reducible rfl
                     | (go_at_call 33; exact HOU.out w' hw')
                     | fail
                 (try simp only [Act.put, List.setIfInBounds_toArray, List.set_cons_zero, List.set_cons_succ])))
            refine calm_nil ?_
            intro w7 hqw7
            have HB7 := Lib.hid hqw7
            clear hqw7
            go_wp2
            go_ret
            exact ⟨by rw [HNO.out, Bool.and_false]; rfl, HA.out.trans ((HBW.out.trans (HB7.out.mono HBW.out.size)).mono HA.out.size)⟩
          | false =>
            have HNX := Lib.hid (dayB_next HDB.out (by rw [HFS.out, HF.out, hc]; rfl))
            go_wp2
            clear z0
            refine wp_region_calm (W := wr) hmx (by kernel_rfl) (Below.refl _ _) ?_
            repeat (first
              | (refine calm_no (by rfl) ?_
                 (try simp only [Act.put, List.setIfInBounds_toArray, List.set_cons_zero, List.set_cons_succ]))
              | (apply calm_yes
                 focus rfl
                 focus
                   intro w' hw'
                   obtain ⟨_, z1, z2, z3, z4⟩ := HNU.out w' hw'; obtain ⟨z5, z6⟩ := HKS.out w' hw'
                   go_simp
                   first
                     | done
                     | with_reducible rfl
                     | (go_at_call 33; exact HOU.out w' hw')
                     | fail
                 (try simp only [Act.put, List.setIfInBounds_toArray, List.set_cons_zero, List.set_cons_succ])))
            refine calm_nil ?_
            intro w7 hqw7
            have HB7 := Lib.hid hqw7
            clear hqw7
            go_wp2
            go_roundw
            case rel => exact ⟨k + 1, by omega, by go_num, HNX.out, HB2.out.trans (HB7.out.mono HB2.out.size)⟩
            case measure => simp [Go.RowKit.intOf]; omega
end Go.Kn
