/- Contracts of functions that the laws of this seat call, or the evaluator of closed calls and its runs. Conditions: as each theorem states them. -/
import Derived.Test.YtddlghdglknloaaGreatDoorL0
set_option linter.unusedVariables false
set_option linter.unusedSimpArgs false
namespace Go.Kn
open Go Go.Proofs Go.RowKit

def ListsC (m : Nat) : Prop := ∀ (sa : Option Addr) (n sc : Nat) (l : List Nat) (w : World), l.length = n → n ≤ 7 → n ≤ sc → Hid (IntSl w sa n (lgI l)) →
    Calls Tryz.prog 124 #[.slice sa n sc, .int .i64 (m : Int)] w fun e w' => (∃ oo cc E, e = .returned (.slice oo (lsL m l).length cc) ∧ PlSl w' oo (lsL m l).length E ∧ LsE E (lsL m l) ∧ FarE E (lsL m l).length w.heap.size ∧ ∀ b o, oo = some ⟨b, o, none⟩ → w.heap.size ≤ b) ∧ Below w.heap.size w w'

theorem lists_zero : ListsC 0 := by
  intro sa n sc l w hl hn hc HS
  go_enter Tryz.func124, Tryz.ntmps124
  go_wp2
  go_ret
  refine ⟨⟨some ⟨w.heap.size, 0, none⟩, 1, fun _ => ⟨none, 0, 0, lgI []⟩, rfl, .inr ⟨w.heap.size, 0, rfl, by simp, fun d hd => ?_⟩, fun x hx => ?_, fun x hx h0 => absurd rfl h0, fun b o e => by cases e; exact Nat.le_refl _⟩, (Below.refl _ _).alloc (Nat.le_refl _) _⟩
  · obtain rfl : d = 0 := by simp [lsL] at hd; exact hd
    exact ⟨by simp, .inl rfl⟩
  · obtain rfl : x = 0 := by simp [lsL] at hx; exact hx
    exact ⟨rfl, rfl⟩

set_option maxRecDepth 100000 in
set_option maxHeartbeats 8000000 in
theorem lists_succ (m : Nat) (hm : m ≤ 6) (IH : Hid (ListsC m)) : ListsC (m + 1) := by
  intro sa n sc l w hl hn hc HS
  have q0 : (((m + 1 : Nat) : Int) == 0) = false := by rw [beq_eq_false_iff_ne]; omega
  obtain ⟨M, hM⟩ : ∃ M : Nat, M = m + 1 := ⟨_, rfl⟩
  rw [← hM] at q0 ⊢
  have HL := Lib.hid hl
  have HMM := Lib.hid hM
  have HSL : Hid (∀ w2, Below w.heap.size w w2 → IntSl w2 sa n (lgI l)) := Lib.hid fun w2 h => HS.out.below h
  have hM1 : 1 ≤ M := by omega
  have hM7 : M ≤ 7 := by omega
  clear hl HS hM
  go_enter Tryz.func124, Tryz.ntmps124
  go_wp2
  go_loopw [5, 6] (fun v ii wr => ∃ (i : Nat) (E : Nat → Dy), i ≤ n - m ∧ ii = .int .i64 (i : Int) ∧ OutSl wr w.heap.size v (lsP m l i).length E ∧ LsE E (lsP m l i) ∧ FarE E (lsP m l i).length w.heap.size ∧ Below w.heap.size w wr) (fun _ ii _ => n - (Go.RowKit.intOf ii).toNat)
  case atStart => exact ⟨0, fun _ => ⟨none, 0, 0, fun _ => 0⟩, Nat.zero_le _, rfl, ⟨⟨rfl, .inl ⟨rfl, rfl⟩⟩, fun x hx => by simp [lsP] at hx, fun x hx => by simp [lsP] at hx⟩, fun x hx => by simp [lsP] at hx, fun x hx => by simp [lsP] at hx, Below.refl _ _⟩
  case round =>
    obtain ⟨i, E, hi, rfl, hout, hls, hfar, hbr⟩ := hrel
    have HOUT := Lib.hid hout
    have HLS := Lib.hid hls
    have HFAR := Lib.hid hfar
    have HBR := Lib.hid hbr
    clear hout hls hfar hbr
    by_cases hlt : i < n - m
    case pos =>
      obtain ⟨A, O, rfl, hA, hN⟩ := (HSL.out _ HBR.out).resolve_left (by omega)
      have n1 : (0 : Int) ≤ (i : Int) := by omega
      have n2 : (i : Int) + (M : Int) ≤ (n : Int) := by have := HMM.out; omega
      have n3 : i + 1 ≤ n := by omega
      have HIH : Hid (Calls Tryz.prog 124 #[.slice (if sc = i + 1 then some ⟨A, O, none⟩ else some ⟨A, O + (i + 1), none⟩) (n - (i + 1)) (sc - (i + 1)), .int .i64 ((M : Int) - 1)] wr fun e w' => (∃ oo cc E, e = .returned (.slice oo (lsL m (l.drop (i + 1))).length cc) ∧ PlSl w' oo (lsL m (l.drop (i + 1))).length E ∧ LsE E (lsL m (l.drop (i + 1))) ∧ FarE E (lsL m (l.drop (i + 1))).length wr.heap.size ∧ ∀ b o, oo = some ⟨b, o, none⟩ → wr.heap.size ≤ b) ∧ Below wr.heap.size wr w') := Lib.hid (by
        have e1 : (M : Int) - 1 = (m : Int) := by have := HMM.out; omega
        rw [e1]
        refine IH.out _ _ _ _ _ (by rw [List.length_drop, HL.out]) (by omega) (by omega) (Lib.hid ?_)
        by_cases h0 : n - (i + 1) = 0
        · exact .inl h0
        · rw [if_neg (by omega)]
          refine .inr ⟨A, O + (i + 1), rfl, hA, fun j hj => ?_⟩
          have h1 := hN (i + 1 + j) (by omega)
          have e2 : lgI (l.drop (i + 1)) j = lgI l (i + 1 + j) := by simp [lgI]
          rw [e2]
          have e3 : O + (i + 1) + j = O + (i + 1 + j) := by omega
          rw [e3]; exact h1)
      have hil : i < l.length := by have := HL.out; omega
      have HLI : Hid (lgI l i = ((l.getD i 0 : Nat) : Int)) := Lib.hid rfl
      obtain ⟨x, hx⟩ : ∃ x, l.getD i 0 = x := ⟨_, rfl⟩
      have HX := Lib.hid hx
      rw [hx] at HLI
      obtain ⟨Q, hQ⟩ : ∃ Q, lsL m (l.drop (i + 1)) = Q := ⟨_, rfl⟩
      have HQ := Lib.hid hQ
      have HQL : Hid (∀ K ∈ Q, K.length = m) := Lib.hid fun K hK => ((lsL_iff m _ K).1 (by rw [hQ]; exact hK)).2
      have HNX : Hid (∀ k, k < Q.length → (lsF m l i).take (k + 1) = (lsF m l i).take k ++ [x :: Q.getD k []]) := Lib.hid fun k hk => by
        have := lsF_next (m := m) (l := l) (i := i) (k := k) (by rw [hQ]; exact hk)
        rw [hQ, hx] at this; exact this
      have HFL : Hid ((lsF m l i).length = Q.length) := Lib.hid (by rw [lsF_len, hQ])
      rw [hQ] at HIH
      have HPB : Hid ((lsP m l i).length + Q.length ≤ 128) := Lib.hid (by
        have h1 := lsL_len (m + 1) l
        rw [lsL_succ, HL.out] at h1
        have h2 := lsP_len (m := m) (l := l) (show i + 1 ≤ n - m by omega)
        rw [lsP_succ, List.length_append, HFL.out] at h2
        have h3 : 2 ^ n ≤ 2 ^ 7 := Nat.pow_le_pow_right (by decide) hn
        have h4 : (lsP m l (n - m)).length = ((List.range (n - m)).flatMap (lsF m l)).length := rfl
        omega)
      have HPS : Hid (lsP m l (i + 1) = lsP m l i ++ lsF m l i) := Lib.hid (lsP_succ m l i)
      obtain ⟨P, hP⟩ : ∃ P, lsP m l i = P := ⟨_, rfl⟩
      rw [hP] at HOUT HLS HFAR HPB HPS
      obtain ⟨FF, hFF⟩ : ∃ F, lsF m l i = F := ⟨_, rfl⟩
      rw [hFF] at HNX HFL HPS
      have HWR := Lib.hid (Below.refl wr.heap.size wr)
      obtain ⟨w9, hw9⟩ : ∃ w9, w9 = wr := ⟨_, rfl⟩
      subst hw9
      clear hx hQ hP hFF
      go_wp2_with (go_at_call 124; refine HIH.out.mono ?_; rintro e w5 ⟨⟨oo, cc, E2, rfl, hpl, hls2, hfar2, hoo⟩, hv⟩; have HV := Lib.hid hv; have HPL := Lib.hid hpl; have HL2 := Lib.hid hls2; have HF2 := Lib.hid hfar2; have HOO := Lib.hid hoo; clear hv hpl hls2 hfar2 hoo HIH; generalize (if sc = i + 1 then some (⟨A, O, none⟩ : Addr) else some ⟨A, O + (i + 1), none⟩) = ad9)
      go_loopw [5, 8] (fun v ii wr => ∃ (k : Nat) (E3 : Nat → Dy), k ≤ Q.length ∧ ii = .int .i64 (k : Int) ∧ OutSl wr w.heap.size v (P ++ FF.take k).length E3 ∧ LsE E3 (P ++ FF.take k) ∧ FarE E3 (P ++ FF.take k).length w.heap.size ∧ RestOk wr v oo Q.length E2 ∧ Below w.heap.size w wr) (fun _ ii _ => Q.length - (Go.RowKit.intOf ii).toNat)
      case atStart =>
        refine ⟨0, E, Nat.zero_le _, rfl, ?_, ?_, ?_, ⟨HPL.out, fun h0 b o e => own_lt HOUT.out.own (HOO.out b o e), fun x hx h0 b o e => own_lt HOUT.out.own (HF2.out x hx h0 b o e)⟩, HBR.out.trans (HV.out.mono HBR.out.size)⟩
        · simpa using HOUT.out.below HV.out
        · simpa using HLS.out
        · simpa using HFAR.out
      case round =>
        obtain ⟨k, E3, hk, rfl, hout, hls, hfar, hrest, hbr⟩ := hrel
        have HO3 := Lib.hid hout
        have HL3 := Lib.hid hls
        have HF3 := Lib.hid hfar
        have HR3 := Lib.hid hrest
        have HB3 := Lib.hid hbr
        clear hout hls hfar hrest hbr
        by_cases hlk : k < Q.length
        case pos =>
          have HK1 : Hid (k + 1 ≤ Q.length) := Lib.hid hlk
          have hk128 : k ≤ 1000 := by have := HPB.out; omega
          obtain ⟨RA, RO, rfl, hRA, hRP⟩ := HR3.out.pl.resolve_left (by omega)
          obtain ⟨z1, z2⟩ := hRP k hlk
          have y1 := (HSL.out _ HB3.out).resolve_left (by omega)
          obtain ⟨A', O', e', hA', hN'⟩ := y1
          cases e'
          have y1 := hN' i (by omega)
          obtain ⟨hE1, hE2⟩ := HL2.out k hlk
          have HKL : Hid ((Q.getD k []).length = m) := Lib.hid (HQL.out _ (by simp [hlk]))
          have HNK := Lib.hid (HNX.out k hlk)
          obtain ⟨K, hK⟩ : ∃ K, Q.getD k [] = K := ⟨_, rfl⟩
          rw [hK] at hE1 hE2 HKL HNK
          obtain ⟨ka, hka⟩ : ∃ v, (E2 k).a = v := ⟨_, rfl⟩
          obtain ⟨kc, hkc⟩ : ∃ v, (E2 k).c = v := ⟨_, rfl⟩
          obtain ⟨q, hq⟩ : ∃ v, (E2 k).n = v := ⟨_, rfl⟩
          rw [hq] at hE1
          rw [hka, hkc, hq] at z1
          rw [hka, hq, hE2] at z2
          have HQ1 : Hid (K.length = q) := Lib.hid hE1.symm
          have hq7 : q ≤ 7 := by have := HKL.out; have := HQ1.out; omega
          have HZ2 : Hid (∀ w2, Below wr.heap.size wr w2 → IntSl w2 ka q (lgI K)) := Lib.hid fun w2 h => z2.below h
          have HO4 : Hid (∀ w2, Below wr.heap.size wr w2 → OutSl w2 w.heap.size u5 (P ++ FF.take k).length E3) := Lib.hid fun w2 h => HO3.out.below h
          have HDB : (P ++ FF.take k).length ≤ 2000 := by
            have h1 := List.length_take_le k FF
            have h2 := HPB.out
            have h3 := HFL.out
            simp only [List.length_append]; omega
          have HD9 := Lib.hid HDB
          rw [HLI.out] at y1
          have hal : Below wr.heap.size wr (wr.alloc (.cells #[.int .i64 (x : Int)] 3)) := (Below.refl _ _).alloc (Nat.le_refl _) _
          have z3 := (hal.cell (p := ⟨RA, RO + k, none⟩) (World.block_lt_of_cell? _ _ z1)).trans z1
          have n5 : (0 : Int) ≤ (k : Int) := by omega
          have n6 : (k : Int) < (Q.length : Int) := by omega
          have n7 : (i : Int) < (n : Int) := by omega
          clear hN hN' hA' hRP hRA hK hka hkc hq hE1 hE2 z2 HDB
          have HAL := Lib.hid hal
          clear hal
          go_wp2
          go_region_law ((first
            | (refine step_app_of rfl (.tmp 38) (.tmp 42) 26 rfl rfl rfl (app_head (base := wr.heap.size) (K := K) HQ1.out (by omega) (by simp) (by first | exact own_lit (Nat.le_refl _) _ _ | exact (own_lit (Nat.le_refl _) _ _)) (HZ2.out _ (by first | exact (below_drew (Below.refl _ _)).alloc (by simp) _ | exact below_drew ((Below.refl _ _).alloc (Nat.le_refl _) _)))) ?_; rintro v6 w6 ⟨s7, c7, rfl, hi6, hge6, hg6⟩; have hb6 : Below wr.heap.size wr w6 := (below_drew HAL.out).grown hg6 (by simp) (fun r e => by cases e; exact Nat.le_refl _))
            | (refine step_app_of rfl (.tmp 33) (.tmp 44) 71 rfl rfl rfl (out_push ⟨s7, 1 + q, c7, lgI (x :: K)⟩ (HO4.out _ (hb6.alloc hb6.size _)) HD9.out (by have := HB3.out.size; have := hb6.size; simp; omega) (by first | exact al_top rfl _ _ | exact al_top (by simp) _ _) (hi6.below ((Below.refl _ _).alloc (Nat.le_refl _) _)) (fun _ b o e => own_lt HO3.out.own (hge6 b o e))) ?_; rintro v7 w7 ⟨ho7, hg7, hat7⟩)))
          all_goals
            have hb8 := hb6.alloc hb6.size (.cells #[.slice s7 (1 + q) c7] 26)
            have HB8 := Lib.hid ((HB3.out.trans (hb8.mono HB3.out.size)).grown hg7 (by have := HB3.out.size; have := hb6.size; simp; omega) (fun r e => own_ge HO3.out.own r e))
            have HR8 := Lib.hid ((HR3.out.below hb8).grown hg7 hat7)
            have HO8 := Lib.hid ho7
            have HAP : Hid (P ++ FF.take (k + 1) = (P ++ FF.take k) ++ [x :: K]) := Lib.hid (by rw [HNK.out, List.append_assoc])
            have HLN : Hid ((P ++ FF.take (k + 1)).length = (P ++ FF.take k).length + 1) := Lib.hid (by rw [HAP.out, List.length_append]; rfl)
            have HL8 := Lib.hid (HL3.out.push (L := x :: K) (a := s7) (n := 1 + q) (c := c7) (by simp [HQ1.out]; omega))
            have HF8 := Lib.hid (HF3.out.push (y := ⟨s7, 1 + q, c7, lgI (x :: K)⟩) (fun _ b o e => Nat.le_trans HB3.out.size (hge6 b o e)))
            clear ho7 hg7 hat7 hi6 hge6 hg6 hb6 hb8 z1 z3 y1
            go_wp2
            go_roundw
            case rel =>
              refine ⟨k + 1, cons1 E3 (P ++ FF.take k).length ⟨s7, 1 + q, c7, lgI (x :: K)⟩, HK1.out, by go_num, ?_, ?_, ?_, HR8.out, HB8.out⟩
              · rw [HLN.out]; exact HO8.out
              · rw [HAP.out]; exact HL8.out
              · rw [HLN.out]; exact HF8.out
            case measure => have := HK1.out; simp [Go.RowKit.intOf]; omega
        case neg =>
          obtain rfl : k = Q.length := by omega
          have HTA : Hid (P ++ FF.take Q.length = lsP m l (i + 1)) := Lib.hid (by rw [HPS.out, ← HFL.out, List.take_length])
          rw [HTA.out] at HO3 HL3 HF3
          go_wp2
          go_roundw
          case rel => exact ⟨i + 1, E3, by omega, by go_num, HO3.out, HL3.out, HF3.out, HB3.out⟩
          case measure => simp [Go.RowKit.intOf]; omega
    case neg =>
      have n2 : ¬ ((i : Int) + (M : Int) ≤ (n : Int)) := by have := HMM.out; omega
      have hin : i = n - m := by omega
      have HTA : Hid (lsP m l i = lsL M l) := Lib.hid (by rw [HMM.out, lsL_succ, HL.out, hin]; rfl)
      rw [HTA.out] at HOUT HLS HFAR
      obtain ⟨oo, cc, rfl, hpl⟩ := HOUT.out.plan
      have HPL := Lib.hid hpl
      clear hpl hin
      go_wp2
      go_ret
      exact ⟨⟨oo, ⟨cc, rfl⟩, E, HPL.out, HLS.out, HFAR.out, fun b o e => by subst e; exact own_ge HOUT.out.own b rfl⟩, HBR.out⟩
end Go.Kn
namespace Go.Kn
theorem lists_all : ∀ m, m ≤ 7 → ListsC m
  | 0, _ => lists_zero
  | m + 1, h => lists_succ m (by omega) (Go.Lib.hid (lists_all m (by omega)))
end Go.Kn
