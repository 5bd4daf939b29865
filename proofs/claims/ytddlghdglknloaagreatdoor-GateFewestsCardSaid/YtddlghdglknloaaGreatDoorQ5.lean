/- Contracts of functions that the laws of this seat call, or the evaluator of closed calls and its runs. Conditions: as each theorem states them. -/
import Derived.Test.YtddlghdglknloaaGreatDoorQ4
import Derived.Shelf.RegionOpen
set_option linter.unusedVariables false
set_option linter.unusedSimpArgs false
namespace Go.Kn
open Go Go.Proofs Go.RowKit

theorem clsB_op {lc : Nat} {C : Nat → C8} {op op' : Nat → Bool} {t : Nat → Int} {n : Nat} (h : EqO lc C op op') (ht : gatsB lc C t n = true) : clsB op t n = clsB op' t n := by
  unfold clsB
  refine allN_congr n fun i hi => ?_
  have := gatsB_inc ht i hi
  rw [h (t i).toNat (by omega) this.2.2.2]
theorem clsB_any {lc : Nat} {C : Nat → C8} {s t : Nat → Int} {m n : Nat} (hs : gatsB lc C s m = true) (ht : gatsB lc C t n = true) : clsB (opnF s m) t n = allN (fun i => !anyB s (t i) m) n := by
  unfold clsB
  refine allN_congr n fun i hi => ?_
  have := gatsB_inc ht i hi
  rw [opnF_any hs _ m (Nat.le_refl _), show (((t i).toNat : Nat) : Int) = t i by omega]

set_option maxRecDepth 100000 in
set_option maxHeartbeats 4000000 in
theorem rclear_w (pa ca sa ta : Option Addr) (lp cp lc cc m sc n tc : Nat) (P : Nat → P8) (C : Nat → C8) (s t : Nat → Int) (w : World) (HP : Hid (NetP lp P lc C)) (HG : Hid (gatsB lc C s m = true)) (HG2 : Hid (gatsB lc C t n = true)) (hm : m ≤ 1000) (hn : n ≤ 1000) (H : Hid (Ne8 w pa ca lp lc P C)) (HO : Hid (IntSl w sa m s)) (HT : Hid (IntSl w ta n t)) :
    Calls Tryz.prog 86 #[.agg #[.slice pa lp cp, .slice ca lc cc], .slice sa m sc, .slice ta n tc] w fun e w' => e = .returned (.bool (clsB (opnF s m) t n && fedV lp P lc C (opnF s m) false)) ∧ Below w.heap.size w w' := by
  obtain ⟨W0, hW0⟩ : ∃ W0, W0 = w.alloc (.cells #[.slice pa lp cp, .slice ca lc cc] 25) := ⟨_, rfl⟩
  have hA : Below w.heap.size w W0 := by rw [hW0]; exact (Below.refl _ _).alloc (Nat.le_refl _) _
  have HF : Hid (∀ w2, Below W0.heap.size W0 w2 → w2.cell? ⟨w.heap.size, 0, none⟩ = some (.slice pa lp cp) ∧ w2.cell? ⟨w.heap.size, 1, none⟩ = some (.slice ca lc cc)) := Lib.hid fun w2 h => by
    rw [hW0] at h
    exact ⟨(box_cells h).1, (box_cells h).2.1⟩
  have HN : Hid (∀ w2, Below W0.heap.size W0 w2 → Hid (Ne8 w2 pa ca lp lc P C)) := Lib.hid fun w2 h => Lib.hid (H.out.below (hA.trans (h.mono hA.size)))
  have HOS : Hid (∀ w2, Below W0.heap.size W0 w2 → Hid (IntSl w2 sa m s)) := Lib.hid fun w2 h => Lib.hid (HO.out.below (hA.trans (h.mono hA.size)))
  have HTS : Hid (∀ w2, Below W0.heap.size W0 w2 → IntSl w2 ta n t) := Lib.hid fun w2 h => HT.out.below (hA.trans (h.mono hA.size))
  have HLI : Hid (∀ (x : Int) w2, Below W0.heap.size W0 w2 → Calls Tryz.prog 40 #[.slice sa m sc, .int .i64 x] w2 fun e w' => e = .returned (.bool (anyB s x m)) ∧ w2 = w') := Lib.hid fun x w2 h => rlisted_w sa m sc s x w2 (by omega) (HOS.out _ h)
  have HSU : Hid (∀ w2, Below W0.heap.size W0 w2 → Calls Tryz.prog 35 #[.agg #[.slice pa lp cp, .slice ca lc cc], .slice sa m sc] w2 fun r w' => r = .returned (.bool (fedV lp P lc C (opnF s m) false)) ∧ Below w2.heap.size w2 w') := Lib.hid fun w2 h => rsurely_w pa ca sa lp cp lc cc m sc P C s w2 HP HG hm (HN.out _ h) (HOS.out _ h)
  have HCB : Hid (clsB (opnF s m) t n = allN (fun i => !anyB s (t i) m) n) := Lib.hid (clsB_any HG.out HG2.out)
  rw [HCB.out]
  obtain ⟨b, hb⟩ : ∃ b, fedV lp P lc C (opnF s m) false = b := ⟨_, rfl⟩
  rw [hb] at HSU ⊢
  have HA := Lib.hid hA
  obtain ⟨g0, g1⟩ := HF.out _ (Below.refl _ _)
  clear hA H HO HT hb
  go_enter Tryz.func86, Tryz.ntmps86
  go_wp2
  rw [← hW0]
  clear hW0
  go_loopw [7] (fun ii wr => ∃ k : Nat, k ≤ n ∧ ii = .int .i64 (k : Int) ∧ allN (fun i => !anyB s (t i) m) k = true ∧ Below W0.heap.size W0 wr) (fun ii _ => n - (Go.RowKit.intOf ii).toNat)
  case atStart => exact ⟨0, Nat.zero_le _, rfl, rfl, Below.refl _ _⟩
  case round =>
    obtain ⟨k, hk, rfl, hal, hbr⟩ := hrel
    have HAL := Lib.hid hal
    have HBR := Lib.hid hbr
    clear hal g0 g1
    obtain ⟨g0, g1⟩ := HF.out _ hbr
    clear hbr
    by_cases hlt : k < n
    case pos =>
      obtain ⟨A, O, rfl, hA1, hN1⟩ := (HTS.out _ HBR.out).resolve_left (by omega)
      have y1 := hN1 k hlt
      have n1 : (0 : Int) ≤ (k : Int) := by omega
      have n2 : (k : Int) < (n : Int) := by omega
      have HLK := Lib.hid (HLI.out (t k))
      have HNO : Hid (anyB s (t k) m = true → allN (fun i => !anyB s (t i) m) n = false) := Lib.hid fun h => allN_no hlt (by simp [h])
      have HYE : Hid (anyB s (t k) m = false → allN (fun i => !anyB s (t i) m) (k + 1) = true) := Lib.hid fun h => allN_next HAL.out (by simp [h])
      obtain ⟨x, hx⟩ : ∃ x, t k = x := ⟨_, rfl⟩
      rw [hx] at y1 HLK HNO HYE
      obtain ⟨c, hc⟩ : ∃ c, anyB s x m = c := ⟨_, rfl⟩
      rw [hc] at HLK HNO HYE
      clear hN1 hx hc
      cases c with
      | true =>
        have HN2 := Lib.hid (HNO.out rfl)
        go_wp2_with (go_at_call 40; refine (HLK.out _ HBR.out).mono ?_; rintro e w5 ⟨rfl, rfl⟩)
        go_ret
        exact ⟨by rw [HN2.out]; rfl, HA.out.trans (HBR.out.mono HA.out.size)⟩
      | false =>
        have HN2 := Lib.hid (HYE.out rfl)
        go_wp2_with (go_at_call 40; refine (HLK.out _ HBR.out).mono ?_; rintro e w5 ⟨rfl, rfl⟩)
        go_roundw
        case rel => exact ⟨k + 1, by omega, by go_num, HN2.out, HBR.out⟩
        case measure => simp [Go.RowKit.intOf]; omega
    case neg =>
      obtain rfl : k = n := by omega
      go_wp2_with (go_at_call 35; refine (HSU.out _ HBR.out).mono ?_; rintro e w5 ⟨rfl, hv⟩)
      go_ret
      exact ⟨by rw [HAL.out]; rfl, HA.out.trans ((HBR.out.trans (hv.mono HBR.out.size)).mono HA.out.size)⟩

set_option maxRecDepth 100000 in
set_option maxHeartbeats 4000000 in
theorem rfewest_w (pa ca : Option Addr) (lp cp lc cc : Nat) (P : Nat → P8) (C : Nat → C8) (w : World) (HP : Hid (NetP lp P lc C)) (H : Hid (Ne8 w pa ca lp lc P C)) :
    Calls Tryz.prog 41 #[.agg #[.slice pa lp cp, .slice ca lc cc]] w fun e w' => (∃ v, e = .returned (.tuple #[v, .bool (fewL lp P lc C).isSome]) ∧ CutAt w' v (fewL lp P lc C)) ∧ Below w.heap.size w w' := by
  have hc10 := HP.out.c10
  obtain ⟨W0, hW0⟩ : ∃ W0, W0 = w.alloc (.cells #[.slice pa lp cp, .slice ca lc cc] 25) := ⟨_, rfl⟩
  have hA : Below w.heap.size w W0 := by rw [hW0]; exact (Below.refl _ _).alloc (Nat.le_refl _) _
  have HF : Hid (∀ w2, Below W0.heap.size W0 w2 → w2.cell? ⟨w.heap.size, 0, none⟩ = some (.slice pa lp cp) ∧ w2.cell? ⟨w.heap.size, 1, none⟩ = some (.slice ca lc cc)) := Lib.hid fun w2 h => by
    rw [hW0] at h
    exact ⟨(box_cells h).1, (box_cells h).2.1⟩
  have HN : Hid (∀ w2, Below W0.heap.size W0 w2 → Hid (Ne8 w2 pa ca lp lc P C)) := Lib.hid fun w2 h => Lib.hid (H.out.below (hA.trans (h.mono hA.size)))
  have HG : Hid (∀ w2, Below W0.heap.size W0 w2 → Calls Tryz.prog 85 #[.agg #[.slice pa lp cp, .slice ca lc cc]] w2 fun r w' => (∃ sa sc, r = .returned (.slice sa (gatL C lc).length sc) ∧ (gatL C lc).length ≤ sc ∧ IntSl w' sa (gatL C lc).length (lgI (gatL C lc))) ∧ Below w2.heap.size w2 w') := Lib.hid fun w2 h => rgates_w pa ca lp cp lc cc P C w2 (by omega) (HN.out _ h)
  have HGL : (gatL C lc).length ≤ 7 := by rw [gatL_len]; exact HP.out.g7
  have HSO : Hid (∀ na nc w2, (gatL C lc).length ≤ nc → IntSl w2 na (gatL C lc).length (lgI (gatL C lc)) → Calls Tryz.prog 75 #[.slice na (gatL C lc).length nc] w2 fun e w' => (∃ oo cc E, e = .returned (.slice oo (shL (gatL C lc)).length cc) ∧ PlSl w' oo (shL (gatL C lc)).length E ∧ LsE E (shL (gatL C lc))) ∧ Below w2.heap.size w2 w') :=
    Lib.hid fun na nc w2 h1 h2 => shortest_w na (gatL C lc).length nc (gatL C lc) w2 rfl HGL h1 (Lib.hid h2)
  have HSH : Hid (∀ (L : List Nat) la qc w2, L.length ≤ 7 → L.Sublist (gatL C lc) → Below W0.heap.size W0 w2 → IntSl w2 la L.length (lgI L) → Calls Tryz.prog 35 #[.agg #[.slice pa lp cp, .slice ca lc cc], .slice la L.length qc] w2 fun e w' => e = .returned (.bool (fedV lp P lc C (opnF (lgI L) L.length) false)) ∧ Below w2.heap.size w2 w') :=
    Lib.hid fun L la qc w2 hL hy h hs => rsurely_w pa ca la lp cp lc cc L.length qc P C (lgI L) w2 HP (Lib.hid (sub_ok hy)) (by omega) (HN.out _ h) (Lib.hid hs)
  have HMEM : Hid (∀ L ∈ shL (gatL C lc), L.length ≤ 7 ∧ L.Sublist (gatL C lc)) := Lib.hid fun L hL => by
    have h1 := shL_iff.1 hL
    exact ⟨by have := h1.length_le; omega, h1⟩
  have HCL : Hid (fewL lp P lc C = (shL (gatL C lc)).find? fun L => fedV lp P lc C (opnF (lgI L) L.length) false) := Lib.hid (bestF_shL _ _)
  have HSZ : Hid ((shL (gatL C lc)).length ≤ 2000) := Lib.hid (by
    have h1 := shP_len (l := gatL C lc) HGL ((gatL C lc).length + 1) (by omega)
    have h2 : shP (gatL C lc) ((gatL C lc).length + 1) = shL (gatL C lc) := by unfold shP shL; rfl
    rw [h2] at h1; omega)
  have HA := Lib.hid hA
  obtain ⟨f0, f1⟩ := HF.out _ (Below.refl _ _)
  rw [hW0] at f0 f1
  obtain ⟨gl, hgl⟩ : ∃ l, gatL C lc = l := ⟨_, rfl⟩
  rw [hgl] at HG HSO HSH HMEM HCL HSZ
  obtain ⟨Ls, hLs⟩ : ∃ Ls, shL gl = Ls := ⟨_, rfl⟩
  rw [hLs] at HSO HMEM HCL HSZ
  obtain ⟨gn, hgn⟩ : ∃ n, gl.length = n := ⟨_, rfl⟩
  rw [hgn] at HG HSO
  obtain ⟨cu, hcu⟩ : ∃ cu, fewL lp P lc C = cu := ⟨_, rfl⟩
  rw [hcu] at HCL ⊢
  clear hA H hgl hLs hgn hcu HGL
  go_enter Tryz.func41, Tryz.ntmps41
  go_wp2_with (first
    | (go_at_call 85; rw [← hW0]; refine (HG.out _ (Below.refl _ _)).mono ?_; rintro e w5 ⟨⟨na, nc, rfl, hnc, hns⟩, hv⟩; have HSO1 := Lib.hid (HSO.out na nc w5 hnc hns); have HV5 := Lib.hid hv; clear hv hns hW0 f0 f1)
    | (go_at_call 75; refine HSO1.out.mono ?_; rintro e w6 ⟨⟨oo, oc, E, rfl, hpl, hls⟩, hv⟩; have HPL := Lib.hid hpl; have HLS := Lib.hid hls; have HV6 := Lib.hid (HV5.out.trans (hv.mono HV5.out.size)); clear hv hpl hls))
  go_loopw [5] (fun ii wr => ∃ k : Nat, k ≤ Ls.length ∧ ii = .int .i64 (k : Int) ∧ (Ls.take k).all (fun L => !fedV lp P lc C (opnF (lgI L) L.length) false) = true ∧ Below w6.heap.size w6 wr) (fun ii _ => Ls.length - (Go.RowKit.intOf ii).toNat)
  case atStart => exact ⟨0, Nat.zero_le _, rfl, by simp, Below.refl _ _⟩
  case round =>
    obtain ⟨k, hk, rfl, hal, hbr⟩ := hrel
    have HAL := Lib.hid hal
    have HBR := Lib.hid hbr
    have hsz := HSZ.out
    clear hal hbr
    by_cases hlt : k < Ls.length
    case pos =>
      obtain ⟨A, O, rfl, hA, hp⟩ := (HPL.out.below HBR.out).resolve_left (by omega)
      obtain ⟨z1, z2⟩ := hp k hlt
      obtain ⟨hE1, hE2⟩ := HLS.out k hlt
      have hKm : Ls.getD k [] ∈ Ls := by simp [hlt]
      obtain ⟨hK1, hK2⟩ := HMEM.out _ hKm
      have HNX : Hid (fedV lp P lc C (opnF (lgI (Ls.getD k [])) (Ls.getD k []).length) false = true → cu = some (Ls.getD k [])) := Lib.hid fun h => HCL.out.trans (find_first (p := fun L => fedV lp P lc C (opnF (lgI L) L.length) false) hlt HAL.out h)
      have HNO : Hid (fedV lp P lc C (opnF (lgI (Ls.getD k [])) (Ls.getD k []).length) false = false → (Ls.take (k + 1)).all (fun L => !fedV lp P lc C (opnF (lgI L) L.length) false) = true) := Lib.hid fun h => all_next (d := []) hlt HAL.out (by simp only [h]; rfl)
      obtain ⟨K, hK⟩ : ∃ K, Ls.getD k [] = K := ⟨_, rfl⟩
      rw [hK] at hE1 hE2 hK1 hK2 HNX HNO
      obtain ⟨ka, hka⟩ : ∃ v, (E k).a = v := ⟨_, rfl⟩
      obtain ⟨kc, hkc⟩ : ∃ v, (E k).c = v := ⟨_, rfl⟩
      rw [hE1, hka, hkc] at z1
      rw [hE1, hE2, hka] at z2
      have HKS : Hid (∀ w2, Below wr.heap.size wr w2 → IntSl w2 ka K.length (lgI K)) := Lib.hid fun w2 h => z2.below h
      have HB0 : Hid (∀ w2, Below wr.heap.size wr w2 → Below W0.heap.size W0 w2) := Lib.hid fun w2 h => HV6.out.trans ((HBR.out.trans (h.mono HBR.out.size)).mono HV6.out.size)
      have HSC : Hid (∀ w2, Below wr.heap.size wr w2 → Calls Tryz.prog 35 #[.agg #[.slice pa lp cp, .slice ca lc cc], .slice ka K.length kc] w2 fun e w' => e = .returned (.bool (fedV lp P lc C (opnF (lgI K) K.length) false)) ∧ Below wr.heap.size wr w') :=
        Lib.hid fun w2 h => (HSH.out K ka kc w2 hK1 hK2 (HB0.out w2 h) (HKS.out w2 h)).mono fun e w' ⟨he, hv⟩ => ⟨he, h.trans (hv.mono h.size)⟩
      have HX : Hid (∀ w2, Below wr.heap.size wr w2 → w2.cell? ⟨w.heap.size, 0, none⟩ = some (.slice pa lp cp) ∧ w2.cell? ⟨w.heap.size, 1, none⟩ = some (.slice ca lc cc) ∧ w2.cell? ⟨A, O + k, none⟩ = some (.slice ka K.length kc)) := Lib.hid fun w2 h => ⟨(HF.out _ (HB0.out w2 h)).1, (HF.out _ (HB0.out w2 h)).2, ((bcell h).1 _ _ hA).trans z1⟩
      have hmx : Tryz.prog.follows .mixedOrders = true := by kernel_rfl
      obtain ⟨S, hS⟩ : ∃ S, fedV lp P lc C (opnF (lgI K) K.length) false = S := ⟨_, rfl⟩
      obtain ⟨q, hq⟩ : ∃ q, K.length = q := ⟨_, rfl⟩
      rw [hS] at HSC HNX HNO
      rw [hq] at HSC HX HKS
      have HQ := Lib.hid hq
      have n1 : (0 : Int) ≤ (k : Int) := by omega
      have n2 : (k : Int) < (Ls.length : Int) := by omega
      clear hp hK hka hkc hE1 hE2 z1 z2 hA hKm hS hq
      cases S with
      | true =>
          have HCU := Lib.hid (HNX.out rfl)
          go_wp2
          refine wp_region_calm (W := wr) hmx (by kernel_rfl) (Below.refl _ _) ?_
          repeat (first
            | (refine calm_no (by rfl) ?_
               (try simp only [Act.put, List.setIfInBounds_toArray, List.set_cons_zero, List.set_cons_succ]))
            | (apply calm_yes
               focus rfl
               focus
                 intro w' hw'
                 obtain ⟨z1, z2, z3⟩ := HX.out w' hw'
                 go_simp
                 first
                   | done
                   | with_reducible rfl
                   | (go_at_call 35; exact HSC.out w' hw')
                   | fail
               (try simp only [Act.put, List.setIfInBounds_toArray, List.set_cons_zero, List.set_cons_succ])))
          refine calm_nil ?_
          intro w7 hqw7
          have HQ7 := Lib.hid hqw7
          have HB7 := Lib.hid (HB0.out w7 hqw7)
          clear hqw7
          obtain ⟨_, _, z3⟩ := HX.out w7 HQ7.out
          go_wp2
          refine bodyPost_ret (v := .tuple #[.slice ka q kc, .bool true]) (by simp [results, Tryz.results41, go_sem]) rfl ⟨⟨_, by rw [HCU.out]; rfl, ?_⟩, HA.out.trans (HB7.out.mono HA.out.size)⟩
          rw [HCU.out]
          exact ⟨ka, kc, by rw [HQ.out], by rw [HQ.out]; exact HKS.out w7 HQ7.out⟩
      | false =>
          have HCU := Lib.hid (HNO.out rfl)
          go_wp2
          refine wp_region_calm (W := wr) hmx (by kernel_rfl) (Below.refl _ _) ?_
          repeat (first
            | (refine calm_no (by rfl) ?_
               (try simp only [Act.put, List.setIfInBounds_toArray, List.set_cons_zero, List.set_cons_succ]))
            | (apply calm_yes
               focus rfl
               focus
                 intro w' hw'
                 obtain ⟨z1, z2, z3⟩ := HX.out w' hw'
                 go_simp
                 first
                   | done
                   | with_reducible rfl
                   | (go_at_call 35; exact HSC.out w' hw')
                   | fail
               (try simp only [Act.put, List.setIfInBounds_toArray, List.set_cons_zero, List.set_cons_succ])))
          refine calm_nil ?_
          intro w7 hqw7
          have HQ7 := Lib.hid hqw7
          have HB7 := Lib.hid (HB0.out w7 hqw7)
          clear hqw7
          go_wp2
          go_roundw
          case rel => exact ⟨k + 1, by omega, by go_num, HCU.out, HBR.out.trans (HQ7.out.mono HBR.out.size)⟩
          case measure => simp [Go.RowKit.intOf]; omega
    case neg =>
      obtain rfl : k = Ls.length := by omega
      have HCU : Hid (cu = none) := Lib.hid (by rw [HCL.out]; exact find_none (by have := HAL.out; rw [List.take_length] at this; exact this))
      have n2 : ¬ ((Ls.length : Int) < (Ls.length : Int)) := by omega
      go_wp2
      refine bodyPost_ret (v := .tuple #[.slice none 0 0, .bool false]) (by simp [results, Tryz.results41, go_sem]) rfl ⟨⟨_, by rw [HCU.out]; rfl, by rw [HCU.out]; rfl⟩, HA.out.trans ((HV6.out.trans (HBR.out.mono HV6.out.size)).mono HA.out.size)⟩
end Go.Kn

namespace Go.Kn
open Go Go.Proofs Go.RowKit

set_option maxRecDepth 100000 in
set_option maxHeartbeats 4000000 in
theorem rmoves_w (pa ca sa ta : Option Addr) (lp cp lc cc m sc n tc : Nat) (P : Nat → P8) (C : Nat → C8) (s t : Nat → Int) (w : World) (HP : Hid (NetP lp P lc C)) (HG1 : Hid (gatsB lc C s m = true)) (HG2 : Hid (gatsB lc C t n = true)) (hm : m ≤ 1000) (hn : n ≤ 1000) (H : Hid (Ne8 w pa ca lp lc P C)) (HO : Hid (IntSl w sa m s)) (HT : Hid (IntSl w ta n t)) :
    Calls Tryz.prog 42 #[.agg #[.slice pa lp cp, .slice ca lc cc], .slice sa m sc, .slice ta n tc] w fun e w' => (∃ v, e = .returned (.tuple #[v, .bool (movM lp P lc C s m t n).isSome]) ∧ CutAt w' v (movM lp P lc C s m t n)) ∧ Below w.heap.size w w' := by
  have hc10 := HP.out.c10
  obtain ⟨W0, hW0⟩ : ∃ W0, W0 = w.alloc (.cells #[.slice pa lp cp, .slice ca lc cc] 25) := ⟨_, rfl⟩
  have hA : Below w.heap.size w W0 := by rw [hW0]; exact (Below.refl _ _).alloc (Nat.le_refl _) _
  have HF : Hid (∀ w2, Below W0.heap.size W0 w2 → w2.cell? ⟨w.heap.size, 0, none⟩ = some (.slice pa lp cp) ∧ w2.cell? ⟨w.heap.size, 1, none⟩ = some (.slice ca lc cc)) := Lib.hid fun w2 h => by
    rw [hW0] at h
    exact ⟨(box_cells h).1, (box_cells h).2.1⟩
  have HN : Hid (∀ w2, Below W0.heap.size W0 w2 → Hid (Ne8 w2 pa ca lp lc P C)) := Lib.hid fun w2 h => Lib.hid (H.out.below (hA.trans (h.mono hA.size)))
  have HG : Hid (∀ w2, Below W0.heap.size W0 w2 → Calls Tryz.prog 85 #[.agg #[.slice pa lp cp, .slice ca lc cc]] w2 fun r w' => (∃ sa sc, r = .returned (.slice sa (gatL C lc).length sc) ∧ (gatL C lc).length ≤ sc ∧ IntSl w' sa (gatL C lc).length (lgI (gatL C lc))) ∧ Below w2.heap.size w2 w') := Lib.hid fun w2 h => rgates_w pa ca lp cp lc cc P C w2 (by omega) (HN.out _ h)
  have HGL : (gatL C lc).length ≤ 7 := by rw [gatL_len]; exact HP.out.g7
  have HSO : Hid (∀ na nc w2, (gatL C lc).length ≤ nc → IntSl w2 na (gatL C lc).length (lgI (gatL C lc)) → Calls Tryz.prog 75 #[.slice na (gatL C lc).length nc] w2 fun e w' => (∃ oo cc E, e = .returned (.slice oo (shL (gatL C lc)).length cc) ∧ PlSl w' oo (shL (gatL C lc)).length E ∧ LsE E (shL (gatL C lc))) ∧ Below w2.heap.size w2 w') :=
    Lib.hid fun na nc w2 h1 h2 => shortest_w na (gatL C lc).length nc (gatL C lc) w2 rfl HGL h1 (Lib.hid h2)
  have HOS : Hid (∀ w2, Below W0.heap.size W0 w2 → Hid (IntSl w2 sa m s)) := Lib.hid fun w2 h => Lib.hid (HO.out.below (hA.trans (h.mono hA.size)))
  have HTS : Hid (∀ w2, Below W0.heap.size W0 w2 → Hid (IntSl w2 ta n t)) := Lib.hid fun w2 h => Lib.hid (HT.out.below (hA.trans (h.mono hA.size)))
  have HMV : Hid (∀ (L : List Nat) la qc w2, L.length ≤ 7 → Below W0.heap.size W0 w2 → IntSl w2 la L.length (lgI L) → Calls Tryz.prog 39 #[.agg #[.slice pa lp cp, .slice ca lc cc], .slice sa m sc, .slice la L.length qc] w2 fun r w' => (∃ ra rc, r = .returned (.slice ra (movL s m (lgI L) L.length lc).length rc) ∧ IntSl w' ra (movL s m (lgI L) L.length lc).length (lgI (movL s m (lgI L) L.length lc))) ∧ Below w2.heap.size w2 w') :=
    Lib.hid fun L la qc w2 hL h hs => rmoved_w pa ca sa la lp cp lc cc m sc L.length qc s (lgI L) w2 (by omega) (by omega) (by omega) (HOS.out _ h) (Lib.hid hs)
  have HCE : Hid (∀ (L : List Nat) ra rc w2, L.Sublist (gatL C lc) → Below W0.heap.size W0 w2 → IntSl w2 ra (movL s m (lgI L) L.length lc).length (lgI (movL s m (lgI L) L.length lc)) → Calls Tryz.prog 86 #[.agg #[.slice pa lp cp, .slice ca lc cc], .slice ra (movL s m (lgI L) L.length lc).length rc, .slice ta n tc] w2 fun e w' => e = .returned (.bool (movB lp P lc C s m t n L)) ∧ Below w2.heap.size w2 w') :=
    Lib.hid fun L ra rc w2 hy h hs => by
      have h1 := rclear_w pa ca ra ta lp cp lc cc (movL s m (lgI L) L.length lc).length rc n tc P C (lgI (movL s m (lgI L) L.length lc)) t w2 HP (Lib.hid (mov_ok HG1.out (sub_ok hy))) HG2 (by have := movL_le (s := s) (t := lgI L) (m := m) (n := L.length) lc; omega) hn (HN.out _ h) (Lib.hid hs) (HTS.out _ h)
      have he := mov_op HG1.out (sub_ok hy)
      rw [clsB_op he HG2.out, fedV_op he] at h1
      exact h1
  have HMEM : Hid (∀ L ∈ shL (gatL C lc), L.length ≤ 7 ∧ L.Sublist (gatL C lc)) := Lib.hid fun L hL => by
    have h1 := shL_iff.1 hL
    exact ⟨by have := h1.length_le; omega, h1⟩
  have HCL : Hid (movM lp P lc C s m t n = (shL (gatL C lc)).find? fun L => movB lp P lc C s m t n L) := Lib.hid (bestF_shL _ _)
  have HSZ : Hid ((shL (gatL C lc)).length ≤ 2000) := Lib.hid (by
    have h1 := shP_len (l := gatL C lc) HGL ((gatL C lc).length + 1) (by omega)
    have h2 : shP (gatL C lc) ((gatL C lc).length + 1) = shL (gatL C lc) := by unfold shP shL; rfl
    rw [h2] at h1; omega)
  have HA := Lib.hid hA
  obtain ⟨f0, f1⟩ := HF.out _ (Below.refl _ _)
  rw [hW0] at f0 f1
  obtain ⟨gl, hgl⟩ : ∃ l, gatL C lc = l := ⟨_, rfl⟩
  rw [hgl] at HG HSO HCE HMEM HCL HSZ
  obtain ⟨Ls, hLs⟩ : ∃ Ls, shL gl = Ls := ⟨_, rfl⟩
  rw [hLs] at HSO HMEM HCL HSZ
  obtain ⟨gn, hgn⟩ : ∃ n, gl.length = n := ⟨_, rfl⟩
  rw [hgn] at HG HSO
  obtain ⟨cu, hcu⟩ : ∃ cu, movM lp P lc C s m t n = cu := ⟨_, rfl⟩
  rw [hcu] at HCL ⊢
  clear hA H HO HT hgl hLs hgn hcu HGL
  go_enter Tryz.func42, Tryz.ntmps42
  go_wp2_with (first
    | (go_at_call 85; rw [← hW0]; refine (HG.out _ (Below.refl _ _)).mono ?_; rintro e w5 ⟨⟨na, nc, rfl, hnc, hns⟩, hv⟩; have HSO1 := Lib.hid (HSO.out na nc w5 hnc hns); have HV5 := Lib.hid hv; clear hv hns hW0 f0 f1)
    | (go_at_call 75; refine HSO1.out.mono ?_; rintro e w6 ⟨⟨oo, oc, E, rfl, hpl, hls⟩, hv⟩; have HPL := Lib.hid hpl; have HLS := Lib.hid hls; have HV6 := Lib.hid (HV5.out.trans (hv.mono HV5.out.size)); clear hv hpl hls))
  go_loopw [9] (fun ii wr => ∃ k : Nat, k ≤ Ls.length ∧ ii = .int .i64 (k : Int) ∧ (Ls.take k).all (fun L => !movB lp P lc C s m t n L) = true ∧ Below w6.heap.size w6 wr) (fun ii _ => Ls.length - (Go.RowKit.intOf ii).toNat)
  case atStart => exact ⟨0, Nat.zero_le _, rfl, by simp, Below.refl _ _⟩
  case round =>
    obtain ⟨k, hk, rfl, hal, hbr⟩ := hrel
    have HAL := Lib.hid hal
    have HBR := Lib.hid hbr
    have hsz := HSZ.out
    clear hal hbr
    by_cases hlt : k < Ls.length
    case pos =>
      obtain ⟨A, O, rfl, hA, hp⟩ := (HPL.out.below HBR.out).resolve_left (by omega)
      obtain ⟨z1, z2⟩ := hp k hlt
      obtain ⟨hE1, hE2⟩ := HLS.out k hlt
      have hKm : Ls.getD k [] ∈ Ls := by simp [hlt]
      obtain ⟨hK1, hK2⟩ := HMEM.out _ hKm
      have HNX : Hid (movB lp P lc C s m t n (Ls.getD k []) = true → cu = some (Ls.getD k [])) := Lib.hid fun h => HCL.out.trans (find_first (p := fun L => movB lp P lc C s m t n L) hlt HAL.out h)
      have HNO : Hid (movB lp P lc C s m t n (Ls.getD k []) = false → (Ls.take (k + 1)).all (fun L => !movB lp P lc C s m t n L) = true) := Lib.hid fun h => all_next (d := []) hlt HAL.out (by simp only [h]; rfl)
      obtain ⟨K, hK⟩ : ∃ K, Ls.getD k [] = K := ⟨_, rfl⟩
      rw [hK] at hE1 hE2 hK1 hK2 HNX HNO
      obtain ⟨ka, hka⟩ : ∃ v, (E k).a = v := ⟨_, rfl⟩
      obtain ⟨kc, hkc⟩ : ∃ v, (E k).c = v := ⟨_, rfl⟩
      rw [hE1, hka, hkc] at z1
      rw [hE1, hE2, hka] at z2
      have HKS : Hid (∀ w2, Below wr.heap.size wr w2 → IntSl w2 ka K.length (lgI K)) := Lib.hid fun w2 h => z2.below h
      have HB0 : Hid (∀ w2, Below wr.heap.size wr w2 → Below W0.heap.size W0 w2) := Lib.hid fun w2 h => HV6.out.trans ((HBR.out.trans (h.mono HBR.out.size)).mono HV6.out.size)
      have HC39 : Hid (∀ w2, Below wr.heap.size wr w2 → Calls Tryz.prog 39 #[.agg #[.slice pa lp cp, .slice ca lc cc], .slice sa m sc, .slice ka K.length kc] w2 fun r w' => (∃ ra rc, r = .returned (.slice ra (movL s m (lgI K) K.length lc).length rc) ∧ IntSl w' ra (movL s m (lgI K) K.length lc).length (lgI (movL s m (lgI K) K.length lc))) ∧ Below wr.heap.size wr w') :=
        Lib.hid fun w2 h => (HMV.out K ka kc w2 hK1 (HB0.out w2 h) (HKS.out w2 h)).mono fun e w' ⟨he, hv⟩ => ⟨he, h.trans (hv.mono h.size)⟩
      have HC86 : Hid (∀ ra rc w2, Below wr.heap.size wr w2 → IntSl w2 ra (movL s m (lgI K) K.length lc).length (lgI (movL s m (lgI K) K.length lc)) → Calls Tryz.prog 86 #[.agg #[.slice pa lp cp, .slice ca lc cc], .slice ra (movL s m (lgI K) K.length lc).length rc, .slice ta n tc] w2 fun e w' => e = .returned (.bool (movB lp P lc C s m t n K)) ∧ Below wr.heap.size wr w') :=
        Lib.hid fun ra rc w2 h hs => (HCE.out K ra rc w2 hK2 (HB0.out w2 h) hs).mono fun e w' ⟨he, hv⟩ => ⟨he, h.trans (hv.mono h.size)⟩
      have HX : Hid (∀ w2, Below wr.heap.size wr w2 → w2.cell? ⟨w.heap.size, 0, none⟩ = some (.slice pa lp cp) ∧ w2.cell? ⟨w.heap.size, 1, none⟩ = some (.slice ca lc cc) ∧ w2.cell? ⟨A, O + k, none⟩ = some (.slice ka K.length kc)) := Lib.hid fun w2 h => ⟨(HF.out _ (HB0.out w2 h)).1, (HF.out _ (HB0.out w2 h)).2, ((bcell h).1 _ _ hA).trans z1⟩
      have hmx : Tryz.prog.follows .mixedOrders = true := by kernel_rfl
      obtain ⟨S, hS⟩ : ∃ S, movB lp P lc C s m t n K = S := ⟨_, rfl⟩
      obtain ⟨q, hq⟩ : ∃ q, K.length = q := ⟨_, rfl⟩
      obtain ⟨mv, hmv⟩ : ∃ mv, movL s m (lgI K) K.length lc = mv := ⟨_, rfl⟩
      rw [hmv] at HC39 HC86
      obtain ⟨mn, hmn⟩ : ∃ n, mv.length = n := ⟨_, rfl⟩
      rw [hmn] at HC39 HC86
      rw [hS] at HC86 HNX HNO
      rw [hq] at HC39 HX HKS
      obtain ⟨z1', z2', z3'⟩ := HX.out wr (Below.refl _ _)
      have HVD := Lib.hid (below_drew (Below.refl wr.heap.size wr))
      have HQ := Lib.hid hq
      have n1 : (0 : Int) ≤ (k : Int) := by omega
      have n2 : (k : Int) < (Ls.length : Int) := by omega
      clear hp hK hka hkc hE1 hE2 z1 z2 hA hKm hS hq hmv hmn
      cases S with
      | true =>
          have HCU := Lib.hid (HNX.out rfl)
          go_wp2
          go_region_law ((first
            | (go_simp; go_at_call 39; refine (HC39.out _ HVD.out).mono ?_; rintro e w3 ⟨⟨ra, rc, rfl, hsl⟩, hv⟩; have HM3 := Lib.hid (HC86.out ra rc w3 hv hsl); clear hsl z1' z2' z3'; obtain ⟨z1', z2', z3'⟩ := HX.out w3 hv; have HV3 := Lib.hid hv; clear hv)
            | (go_simp; go_at_call 86; refine HM3.out.mono ?_; rintro e w7 ⟨rfl, hv⟩; have HQ7 := Lib.hid hv; clear hv z1' z2' z3'; obtain ⟨z1', z2', z3'⟩ := HX.out w7 HQ7.out)))
          all_goals
            have HB7 := Lib.hid (HB0.out w7 HQ7.out)
            go_wp2
            refine bodyPost_ret (v := .tuple #[.slice ka q kc, .bool true]) (by simp [results, Tryz.results42, go_sem]) rfl ⟨⟨_, by rw [HCU.out]; rfl, ?_⟩, HA.out.trans (HB7.out.mono HA.out.size)⟩
            rw [HCU.out]
            exact ⟨ka, kc, by rw [HQ.out], by rw [HQ.out]; exact HKS.out w7 HQ7.out⟩
      | false =>
          have HCU := Lib.hid (HNO.out rfl)
          go_wp2
          go_region_law ((first
            | (go_simp; go_at_call 39; refine (HC39.out _ HVD.out).mono ?_; rintro e w3 ⟨⟨ra, rc, rfl, hsl⟩, hv⟩; have HM3 := Lib.hid (HC86.out ra rc w3 hv hsl); clear hsl z1' z2' z3'; obtain ⟨z1', z2', z3'⟩ := HX.out w3 hv; have HV3 := Lib.hid hv; clear hv)
            | (go_simp; go_at_call 86; refine HM3.out.mono ?_; rintro e w7 ⟨rfl, hv⟩; have HQ7 := Lib.hid hv; clear hv z1' z2' z3'; obtain ⟨z1', z2', z3'⟩ := HX.out w7 HQ7.out)))
          all_goals
            go_wp2
            go_roundw
            case rel => exact ⟨k + 1, by omega, by go_num, HCU.out, HBR.out.trans (HQ7.out.mono HBR.out.size)⟩
            case measure => simp [Go.RowKit.intOf]; omega
    case neg =>
      obtain rfl : k = Ls.length := by omega
      have HCU : Hid (cu = none) := Lib.hid (by rw [HCL.out]; exact find_none (by have := HAL.out; rw [List.take_length] at this; exact this))
      have n2 : ¬ ((Ls.length : Int) < (Ls.length : Int)) := by omega
      go_wp2
      refine bodyPost_ret (v := .tuple #[.slice none 0 0, .bool false]) (by simp [results, Tryz.results42, go_sem]) rfl ⟨⟨_, by rw [HCU.out]; rfl, by rw [HCU.out]; rfl⟩, HA.out.trans ((HV6.out.trans (HBR.out.mono HV6.out.size)).mono HA.out.size)⟩
end Go.Kn
