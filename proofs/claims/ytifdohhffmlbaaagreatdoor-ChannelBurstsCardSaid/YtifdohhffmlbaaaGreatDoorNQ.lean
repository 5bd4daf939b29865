/- Walks of the functions of layer 2 that ChannelBursts calls, and the law itself (a part of it). Conditions: as each theorem states them. -/
import Derived.Test.YtifdohhffmlbaaaGreatDoorNP
set_option linter.unusedVariables false
set_option linter.unusedSimpArgs false
namespace Go.Kn
open Go Go.Proofs Go.RowKit

set_option maxRecDepth 100000 in
set_option maxHeartbeats 4000000 in
theorem rbursts_w (il ih : Int) (C P cp A O ll cl : Nat) (p : Nat → Sp2) (l : Nat → Int) (C2 P2 lk ck : Nat) (c : Nat → Cl3) (D F cq : Nat) (s : Nat → Int) (w : World) (H : Hid (SipAt w C P (ll + 1) A O ll il ih p l)) (hC2 : C2 < w.heap.size) (HC : Hid (ClAt w C2 P2 lk c)) (hk2 : lk ≤ 4) (hD : D < w.heap.size) (HD : Hid (NumAt w D F ll s)) (hQ : Hid (ChoP lk ll ll s)) :
    Calls Tryz.prog 52 #[.agg #[.int .i64 il, .int .i64 ih, .slice (some ⟨C, P, none⟩) (ll + 1) cp, .slice (some ⟨A, O, none⟩) ll cl], .slice (some ⟨C2, P2, none⟩) lk ck, .slice (some ⟨D, F, none⟩) ll cq] w
      fun e w' => (∃ v n, e = .returned v ∧ w'.ownsRow w.heap.size 3 1 v n ((pick (burB (prOf il ih p) c s) ll).map (Value.int .i64))) ∧ Below w.heap.size w w' := by
  have BX := Lib.hid (fun (w1 : World) (hb : Below (w.alloc (.cells #[.int .i64 il, .int .i64 ih, .slice (some ⟨C, P, none⟩) (ll + 1) cp, .slice (some ⟨A, O, none⟩) ll cl] 70)).heap.size (w.alloc (.cells #[.int .i64 il, .int .i64 ih, .slice (some ⟨C, P, none⟩) (ll + 1) cp, .slice (some ⟨A, O, none⟩) ll cl] 70)) w1) => bcell4 hb)
  have HL : Hid (∀ w1, Below (w.alloc (.cells #[.int .i64 il, .int .i64 ih, .slice (some ⟨C, P, none⟩) (ll + 1) cp, .slice (some ⟨A, O, none⟩) ll cl] 70)).heap.size (w.alloc (.cells #[.int .i64 il, .int .i64 ih, .slice (some ⟨C, P, none⟩) (ll + 1) cp, .slice (some ⟨A, O, none⟩) ll cl] 70)) w1 → SipAt w1 C P (ll + 1) A O ll il ih p l ∧ ClAt w1 C2 P2 lk c ∧ NumAt w1 D F ll s) := Lib.hid fun w1 h => ⟨H.out.below (below_al h), HC.out.below hC2 (below_al h), HD.out.below hD (below_al h)⟩
  have q1 := H.out.lp1
  have q2 := H.out.lp2
  obtain ⟨i0, hi, hz0, hz1, hz22⟩ := info_parts info3'
  go_enter Tryz.func52, Tryz.ntmps52
  go_wp2_with (go_at_call 45; refine (rpress2_w _ _ _ _ _ _ _ _ _ p l _ (Lib.hid (HL.out _ (Below.refl _ _)).1)).mono ?_; rintro e w4 ⟨⟨G, cap, rfl, hG1, hG2, hG3⟩, hb14⟩; have HG := Lib.hid hG3; clear hG3; obtain ⟨x0, x1, x2, x3, x4⟩ := BX.out _ hb14)
  have hwz : w.heap.size < w4.heap.size := x4
  have FX : Hid (∀ w', Below w4.heap.size w4 w' → ClAt w' C2 P2 lk c ∧ NumAt w' D F ll s ∧ SpAt w' G 0 ll (prOf il ih p)) := Lib.hid fun w' h => by
    have hh := hb14.trans (h.mono hb14.size)
    exact ⟨(HL.out _ hh).2.1, (HL.out _ hh).2.2, HG.out.below hG2 h⟩
  have hB14 : Below w.heap.size w w4 := below_al hb14
  clear x0 x1 x2 x3 x4 hb14 BX HL HG
  go_loopw [8, 9] (fun v i wr => ∃ (k n : Nat), k ≤ ll ∧ i = .int .i64 k ∧ wr.ownsRow w4.heap.size 3 1 v n ((pick (burB (prOf il ih p) c s) k).map (Value.int .i64)) ∧ Below w4.heap.size w4 wr) (fun _ i _ => ll - (intOf i).toNat)
  case atStart => exact ⟨0, 0, Nat.zero_le _, rfl, World.ownsRow_nil _ _ _ _, Below.refl _ _⟩
  case round =>
    obtain ⟨k, n, hk, rfl, hown, hbw⟩ := hrel
    have hnl : n ≤ k := by
      have h1 := hown.1
      have h2 := pick_len (burB (prOf il ih p) c s) k
      simp at h1; omega
    have HOWN := Lib.hid hown
    clear hown
    by_cases hlt : k < ll
    · obtain ⟨z1, z2, z3⟩ := FX.out _ hbw
      have hq := hQ.out.ok k hlt
      simp only [fromB, decide_eq_true_eq] at hq
      obtain ⟨j, hj⟩ : ∃ j : Nat, s k = (j : Int) := ⟨(s k).toNat, by omega⟩
      have hjn : (s k).toNat = j := by omega
      obtain ⟨y0, y1⟩ := z3 k hlt
      simp only [Nat.zero_add] at y0 y1
      have y2 := z2 k hlt
      rw [hj] at y2
      obtain ⟨y3, y4, y5⟩ := z1 j (by omega)
      clear z1 z2 z3
      have n1 : (0 : Int) ≤ (k : Int) := by omega
      have n2 : (k : Int) < (ll : Int) := by omega
      have n3 : (0 : Int) ≤ (j : Int) := by omega
      have n4 : (j : Int) < (lk : Int) := by omega
      have hz6 := hbw.size
      cases hv : burB (prOf il ih p) c s k
      · have hd := hv
        simp only [burB, hjn] at hd
        go_wp2
        go_quiet (fail)
        go_wp2
        go_roundw
        case rel => exact ⟨k + 1, n, by omega, by go_num, by rw [pick_f hv]; exact owns_below HOWN.out (below_drewM (Below.refl _ _) _), below_drewM hbw _⟩
        case measure => simp [intOf]; omega
      · have hd := hv
        simp only [burB, hjn] at hd
        go_wp2
        go_quiet (fail)
        go_wp2_with (at_builtin; refine wpList_append_own _ rfl _ _ 22 rfl w4.heap.size 3 i0 (.int .i64 0) 1 8 Tryz.underlying22 hi hz0 hz1 hz22 rfl (by decide) _ n _ rfl ((owns_below HOWN.out (below_drewM (Below.refl _ _) _)).alloc _) ⟨_, 0, none⟩ 1 1 [.int .i64 (k : Int)] rfl rfl (one_lies _ _) (by intro u hu; simp at hu; subst hu; rfl) (by unfold maxLen; omega) (by omega) (by simp; omega) ?_; intro v' w6 hown6 hgrow6 _)
        go_roundw
        case rel => exact ⟨k + 1, n + 1, by omega, by go_num, by rw [pick_t hv]; simpa using hown6, ((below_drewM hbw _).alloc (by simp; omega) _).grown hgrow6 (by simp; omega) (fun r e => own_ge HOWN.out r e)⟩
        case measure => simp [intOf]; omega
    · obtain rfl : k = ll := by omega
      go_wp2
      go_ret
      exact ⟨⟨_, n, rfl, own_base HOWN.out (by omega)⟩, hB14.trans (hbw.mono (by omega))⟩

set_option maxRecDepth 100000 in
set_option maxHeartbeats 4000000 in
theorem pburF1 (il ih : Int) (pa la ka sq : Option Addr) (lp cp ll cl lk ck lq cq : Nat) (p : Nat → Sp2) (l : Nat → Int) (c : Nat → Cl3) (s : Nat → Int) (w : World) (hlp : lp ≤ 1000000) (hll : ll ≤ 1000000) (hlk : lk ≤ 1000000) (hlq : lq ≤ maxLen) (H : Hid (AnySip w pa la lp ll p l)) (HC : Hid (ClSl w ka lk c)) (HS : Hid (IntSl w sq lq s))
    (HR : Hid (¬ SipP il ih lp ll p l)) :
    Calls Tryz.prog 49 #[.agg #[.int .i64 il, .int .i64 ih, .slice pa lp cp, .slice la ll cl], .slice ka lk ck, .slice sq lq cq] w
      fun e w' => e = .returned (.tuple #[.slice none 0 0, .int .i64 2]) ∧ Below w.heap.size w w' := by
  have BX := Lib.hid (fun (w1 : World) (hb : Below (w.alloc (.cells #[.int .i64 il, .int .i64 ih, .slice pa lp cp, .slice la ll cl] 70)).heap.size (w.alloc (.cells #[.int .i64 il, .int .i64 ih, .slice pa lp cp, .slice la ll cl] 70)) w1) => bcell4 hb)
  have HL : Hid (∀ w1, Below (w.alloc (.cells #[.int .i64 il, .int .i64 ih, .slice pa lp cp, .slice la ll cl] 70)).heap.size (w.alloc (.cells #[.int .i64 il, .int .i64 ih, .slice pa lp cp, .slice la ll cl] 70)) w1 → AnySip w1 pa la lp ll p l ∧ ClSl w1 ka lk c ∧ IntSl w1 sq lq s) := Lib.hid fun w1 h => ⟨H.out.below (below_al h), HC.out.below (below_al h), HS.out.below (below_al h)⟩
  go_enter Tryz.func49, Tryz.ntmps49
  go_wp2_with (first
    | (go_at_call 79; refine (isSiphon_w _ _ _ _ _ _ _ _ p l _ (by omega) (by omega) (Lib.hid (HL.out _ (Below.refl _ _)).1)).mono ?_; rintro e w1 ⟨⟨rb, rfl, hrb⟩, hb1⟩; obtain rfl : rb = false := (by cases rb <;> first | rfl | exact (HR.out (hrb.1 rfl)).elim); clear hrb; obtain ⟨x0, x1, x2, x3, x4⟩ := BX.out _ hb1))
  exact bodyPost_ret (v := .tuple #[.slice none 0 0, .int .i64 2]) (by simp [results, Tryz.results49, go_sem]) rfl ⟨rfl, below_al hb1⟩

set_option maxRecDepth 100000 in
set_option maxHeartbeats 4000000 in
theorem pburF2 (il ih : Int) (pa la ka sq : Option Addr) (lp cp ll cl lk ck lq cq : Nat) (p : Nat → Sp2) (l : Nat → Int) (c : Nat → Cl3) (s : Nat → Int) (w : World) (hlp : lp ≤ 1000000) (hll : ll ≤ 1000000) (hlk : lk ≤ 1000000) (hlq : lq ≤ maxLen) (H : Hid (AnySip w pa la lp ll p l)) (HC : Hid (ClSl w ka lk c)) (HS : Hid (IntSl w sq lq s))
    (HR : Hid (SipP il ih lp ll p l)) (HK : Hid (¬ ClsP lk c)) :
    Calls Tryz.prog 49 #[.agg #[.int .i64 il, .int .i64 ih, .slice pa lp cp, .slice la ll cl], .slice ka lk ck, .slice sq lq cq] w
      fun e w' => e = .returned (.tuple #[.slice none 0 0, .int .i64 2]) ∧ Below w.heap.size w w' := by
  have BX := Lib.hid (fun (w1 : World) (hb : Below (w.alloc (.cells #[.int .i64 il, .int .i64 ih, .slice pa lp cp, .slice la ll cl] 70)).heap.size (w.alloc (.cells #[.int .i64 il, .int .i64 ih, .slice pa lp cp, .slice la ll cl] 70)) w1) => bcell4 hb)
  have HL : Hid (∀ w1, Below (w.alloc (.cells #[.int .i64 il, .int .i64 ih, .slice pa lp cp, .slice la ll cl] 70)).heap.size (w.alloc (.cells #[.int .i64 il, .int .i64 ih, .slice pa lp cp, .slice la ll cl] 70)) w1 → AnySip w1 pa la lp ll p l ∧ ClSl w1 ka lk c ∧ IntSl w1 sq lq s) := Lib.hid fun w1 h => ⟨H.out.below (below_al h), HC.out.below (below_al h), HS.out.below (below_al h)⟩
  go_enter Tryz.func49, Tryz.ntmps49
  go_wp2_with (first
    | (go_at_call 79; refine (isSiphon_w _ _ _ _ _ _ _ _ p l _ (by omega) (by omega) (Lib.hid (HL.out _ (Below.refl _ _)).1)).mono ?_; rintro e w1 ⟨⟨rb, rfl, hrb⟩, hb1⟩; obtain rfl : rb = true := hrb.2 HR.out; clear hrb; obtain ⟨x0, x1, x2, x3, x4⟩ := BX.out _ hb1)
    | (go_at_call 82; refine (areCl_w _ _ _ c _ (by omega) (Lib.hid (HL.out _ hb1).2.1)).mono ?_; rintro e w2 ⟨⟨rb, rfl, hrb⟩, hb2⟩; obtain rfl : rb = false := (by cases rb <;> first | rfl | exact (HK.out (hrb.1 rfl)).elim); clear hrb; have hb12 := hb1.trans (hb2.mono hb1.size); clear x0 x1 x2 x3 x4; obtain ⟨x0, x1, x2, x3, x4⟩ := BX.out _ hb12))
  exact bodyPost_ret (v := .tuple #[.slice none 0 0, .int .i64 2]) (by simp [results, Tryz.results49, go_sem]) rfl ⟨rfl, below_al hb12⟩

set_option maxRecDepth 100000 in
set_option maxHeartbeats 4000000 in
theorem pburF3 (il ih : Int) (pa la ka sq : Option Addr) (lp cp ll cl lk ck lq cq : Nat) (p : Nat → Sp2) (l : Nat → Int) (c : Nat → Cl3) (s : Nat → Int) (w : World) (hlp : lp ≤ 1000000) (hll : ll ≤ 1000000) (hlk : lk ≤ 1000000) (hlq : lq ≤ maxLen) (H : Hid (AnySip w pa la lp ll p l)) (HC : Hid (ClSl w ka lk c)) (HS : Hid (IntSl w sq lq s))
    (HR : Hid (SipP il ih lp ll p l)) (HK : Hid (ClsP lk c)) (HQ : Hid (¬ ChoP lk ll lq s)) :
    Calls Tryz.prog 49 #[.agg #[.int .i64 il, .int .i64 ih, .slice pa lp cp, .slice la ll cl], .slice ka lk ck, .slice sq lq cq] w
      fun e w' => e = .returned (.tuple #[.slice none 0 0, .int .i64 2]) ∧ Below w.heap.size w w' := by
  have BX := Lib.hid (fun (w1 : World) (hb : Below (w.alloc (.cells #[.int .i64 il, .int .i64 ih, .slice pa lp cp, .slice la ll cl] 70)).heap.size (w.alloc (.cells #[.int .i64 il, .int .i64 ih, .slice pa lp cp, .slice la ll cl] 70)) w1) => bcell4 hb)
  have HL : Hid (∀ w1, Below (w.alloc (.cells #[.int .i64 il, .int .i64 ih, .slice pa lp cp, .slice la ll cl] 70)).heap.size (w.alloc (.cells #[.int .i64 il, .int .i64 ih, .slice pa lp cp, .slice la ll cl] 70)) w1 → AnySip w1 pa la lp ll p l ∧ ClSl w1 ka lk c ∧ IntSl w1 sq lq s) := Lib.hid fun w1 h => ⟨H.out.below (below_al h), HC.out.below (below_al h), HS.out.below (below_al h)⟩
  go_enter Tryz.func49, Tryz.ntmps49
  go_wp2_with (first
    | (go_at_call 79; refine (isSiphon_w _ _ _ _ _ _ _ _ p l _ (by omega) (by omega) (Lib.hid (HL.out _ (Below.refl _ _)).1)).mono ?_; rintro e w1 ⟨⟨rb, rfl, hrb⟩, hb1⟩; obtain rfl : rb = true := hrb.2 HR.out; clear hrb; obtain ⟨x0, x1, x2, x3, x4⟩ := BX.out _ hb1)
    | (go_at_call 82; refine (areCl_w _ _ _ c _ (by omega) (Lib.hid (HL.out _ hb1).2.1)).mono ?_; rintro e w2 ⟨⟨rb, rfl, hrb⟩, hb2⟩; obtain rfl : rb = true := hrb.2 HK.out; clear hrb; have hb12 := hb1.trans (hb2.mono hb1.size); clear x0 x1 x2 x3 x4; obtain ⟨x0, x1, x2, x3, x4⟩ := BX.out _ hb12)
    | (go_at_call 83; refine (isChoice_w _ _ _ _ _ _ _ _ _ _ _ _ s _ ⟨by have := HR.out.lp1; have := HR.out.lpe; omega, by omega⟩ (by omega) hlq (Lib.hid (HL.out _ hb12).2.2)).mono ?_; rintro e w3 ⟨⟨rb, rfl, hrb⟩, hb3⟩; obtain rfl : rb = false := (by cases rb <;> first | rfl | exact (HQ.out (hrb.1 rfl)).elim); clear hrb; have hb13 := hb12.trans (hb3.mono hb12.size)))
  exact bodyPost_ret (v := .tuple #[.slice none 0 0, .int .i64 2]) (by simp [results, Tryz.results49, go_sem]) rfl ⟨rfl, below_al hb13⟩
end Go.Kn
