/- Contracts of functions that the laws of this seat call, or the evaluator of closed calls and its runs. Conditions: as each theorem states them. -/
import Derived.Test.YtddlghdglknloaaGreatDoorP1
set_option linter.unusedVariables false
set_option linter.unusedSimpArgs false
namespace Go.Kn
open Go Go.Proofs Go.RowKit

set_option maxRecDepth 100000 in
set_option maxHeartbeats 4000000 in
theorem rmoved_w (pa ca sa ta : Option Addr) (lp cp lc cc m sc n tc : Nat) (s t : Nat → Int) (w : World) (hlc : lc ≤ 1000) (hm : m ≤ 1000000) (hn : n ≤ 1000000) (H1 : Hid (IntSl w sa m s)) (H2 : Hid (IntSl w ta n t)) :
    Calls Tryz.prog 39 #[.agg #[.slice pa lp cp, .slice ca lc cc], .slice sa m sc, .slice ta n tc] w fun r w' => (∃ ra rc, r = .returned (.slice ra (movL s m t n lc).length rc) ∧ IntSl w' ra (movL s m t n lc).length (lgI (movL s m t n lc))) ∧ Below w.heap.size w w' := by
  obtain ⟨i0, hi0, hz0, hz1, hz2⟩ := info_parts info3'
  obtain ⟨W0, hW0⟩ : ∃ W0, W0 = w.alloc (.cells #[.slice pa lp cp, .slice ca lc cc] 25) := ⟨_, rfl⟩
  have hA : Below w.heap.size w W0 := by rw [hW0]; exact (Below.refl _ _).alloc (Nat.le_refl _) _
  have HF : Hid (∀ w2, Below W0.heap.size W0 w2 → w2.cell? ⟨w.heap.size, 0, none⟩ = some (.slice pa lp cp) ∧ w2.cell? ⟨w.heap.size, 1, none⟩ = some (.slice ca lc cc)) := Lib.hid fun w2 h => by
    rw [hW0] at h
    exact ⟨(box_cells h).1, (box_cells h).2.1⟩
  have HL1 : Hid (∀ (k : Nat) w2, Below W0.heap.size W0 w2 → Calls Tryz.prog 40 #[.slice sa m sc, .int .i64 (k : Int)] w2 fun e w' => e = .returned (.bool (anyB s (k : Int) m)) ∧ w2 = w') := Lib.hid fun k w2 h => rlisted_w sa m sc s (k : Int) w2 hm (Lib.hid (H1.out.below (hA.trans (h.mono hA.size))))
  have HL2 : Hid (∀ (k : Nat) w2, Below W0.heap.size W0 w2 → Calls Tryz.prog 40 #[.slice ta n tc, .int .i64 (k : Int)] w2 fun e w' => e = .returned (.bool (anyB t (k : Int) n)) ∧ w2 = w') := Lib.hid fun k w2 h => rlisted_w ta n tc t (k : Int) w2 hn (Lib.hid (H2.out.below (hA.trans (h.mono hA.size))))
  have HA := Lib.hid hA
  have HV : Hid (Below W0.heap.size W0 W0) := Lib.hid (Below.refl _ _)
  obtain ⟨g0, g1⟩ := HF.out _ (Below.refl _ _)
  rw [hW0] at g0 g1
  clear hA H1 H2
  go_enter Tryz.func39, Tryz.ntmps39
  go_wp2
  rw [← hW0]
  clear hW0 g0 g1
  go_loopw [7, 8] (fun v ii wr => ∃ k : Nat, k ≤ lc ∧ ii = .int .i64 (k : Int) ∧ wr.ownsRow W0.heap.size 3 1 v (movL s m t n k).length ((movL s m t n k).map iv1) ∧ Below W0.heap.size W0 wr) (fun _ ii _ => lc - (Go.RowKit.intOf ii).toNat)
  case atStart => exact ⟨0, Nat.zero_le _, rfl, ⟨rfl, .inl ⟨rfl, rfl⟩⟩, Below.refl _ _⟩
  case round =>
    obtain ⟨k, hk, rfl, hown, hbr⟩ := hrel
    have HOW := Lib.hid hown
    have HBR := Lib.hid hbr
    obtain ⟨g0, g1⟩ := HF.out _ hbr
    clear hown hbr
    by_cases hlt : k < lc
    case pos =>
      have n1 : (0 : Int) ≤ (k : Int) := by omega
      have n2 : (k : Int) < (lc : Int) := by omega
      have hle := movL_le (s := s) (t := t) (m := m) (n := n) k
      have HY := Lib.hid (movL_yes (s := s) (t := t) (m := m) (n := n) (k := k))
      have HNO := Lib.hid (movL_no (s := s) (t := t) (m := m) (n := n) (k := k))
      obtain ⟨q, hq⟩ : ∃ q, (movL s m t n k).length = q := ⟨_, rfl⟩
      rw [hq] at HOW hle
      have HQ := Lib.hid hq
      have HC1 := Lib.hid (HL1.out k)
      have HC2 := Lib.hid (HL2.out k)
      obtain ⟨b1, hb1⟩ : ∃ b, anyB s (k : Int) m = b := ⟨_, rfl⟩
      obtain ⟨b2, hb2⟩ : ∃ b, anyB t (k : Int) n = b := ⟨_, rfl⟩
      rw [hb1] at HC1 HY HNO
      rw [hb2] at HC2 HY HNO
      have M1 := Lib.hid True.intro
      clear hq hb1 hb2
      cases b1 <;> cases b2
      · have HNX := Lib.hid (HNO.out rfl)
        go_wp2_with (first
          | (go_at_call 40; have hB := M1.out; clear hB M1; refine (HC1.out _ HBR.out).mono ?_; rintro e w5 ⟨rfl, rfl⟩)
          | (go_at_call 40; refine (HC2.out _ HBR.out).mono ?_; rintro e w5 ⟨rfl, rfl⟩))
        go_roundw
        case rel => exact ⟨k + 1, by omega, by go_num, by rw [HNX.out, HQ.out]; exact HOW.out, HBR.out⟩
        case measure => simp [Go.RowKit.intOf]; omega
      · have HNX := Lib.hid (HY.out rfl)
        go_wp2_with (first
          | (go_at_call 40; have hB := M1.out; clear hB M1; refine (HC1.out _ HBR.out).mono ?_; rintro e w5 ⟨rfl, rfl⟩)
          | (go_at_call 40; refine (HC2.out _ HBR.out).mono ?_; rintro e w5 ⟨rfl, rfl⟩)
          | (at_builtin; refine wpList_append_own_at _ rfl (.tmp 23) (.tmp 25) 26 rfl W0.heap.size 3 i0 (.int .i64 0) 1 8 Tryz.underlying26 hi0 hz0 hz1 hz2 rfl (by decide) _ q _ rfl (HOW.out.alloc _) ⟨_, 0, none⟩ 1 1 [.int .i64 (k : Int)] rfl rfl (lies_any (by first | exact al_top rfl _ _ | exact al_top (by simp) _ _)) (by intro u hu; simp at hu; subst hu; rfl) (by unfold maxLen; omega) (by omega) (by have := HBR.out.size; simp at this ⊢; omega) ?_; intro v7 w7' hown7 hgrow7 _ hloc7))
        go_roundw
        case rel => exact ⟨k + 1, by omega, by go_num, by rw [HNX.out, List.length_append, HQ.out, List.map_append]; exact hown7, (HBR.out.alloc HBR.out.size _).grown hgrow7 (by have := HBR.out.size; simp at this ⊢; omega) (fun r e => own_ge HOW.out r e)⟩
        case measure => simp [Go.RowKit.intOf]; omega
      · have HNX := Lib.hid (HY.out rfl)
        go_wp2_with (first
          | (go_at_call 40; have hB := M1.out; clear hB M1; refine (HC1.out _ HBR.out).mono ?_; rintro e w5 ⟨rfl, rfl⟩)
          | (go_at_call 40; refine (HC2.out _ HBR.out).mono ?_; rintro e w5 ⟨rfl, rfl⟩)
          | (at_builtin; refine wpList_append_own_at _ rfl (.tmp 23) (.tmp 25) 26 rfl W0.heap.size 3 i0 (.int .i64 0) 1 8 Tryz.underlying26 hi0 hz0 hz1 hz2 rfl (by decide) _ q _ rfl (HOW.out.alloc _) ⟨_, 0, none⟩ 1 1 [.int .i64 (k : Int)] rfl rfl (lies_any (by first | exact al_top rfl _ _ | exact al_top (by simp) _ _)) (by intro u hu; simp at hu; subst hu; rfl) (by unfold maxLen; omega) (by omega) (by have := HBR.out.size; simp at this ⊢; omega) ?_; intro v7 w7' hown7 hgrow7 _ hloc7))
        go_roundw
        case rel => exact ⟨k + 1, by omega, by go_num, by rw [HNX.out, List.length_append, HQ.out, List.map_append]; exact hown7, (HBR.out.alloc HBR.out.size _).grown hgrow7 (by have := HBR.out.size; simp at this ⊢; omega) (fun r e => own_ge HOW.out r e)⟩
        case measure => simp [Go.RowKit.intOf]; omega
      · have HNX := Lib.hid (HNO.out rfl)
        go_wp2_with (first
          | (go_at_call 40; have hB := M1.out; clear hB M1; refine (HC1.out _ HBR.out).mono ?_; rintro e w5 ⟨rfl, rfl⟩)
          | (go_at_call 40; refine (HC2.out _ HBR.out).mono ?_; rintro e w5 ⟨rfl, rfl⟩))
        go_roundw
        case rel => exact ⟨k + 1, by omega, by go_num, by rw [HNX.out, HQ.out]; exact HOW.out, HBR.out⟩
        case measure => simp [Go.RowKit.intOf]; omega
    case neg =>
      obtain rfl : k = lc := by omega
      obtain ⟨ra, rc, rfl, h1, h2⟩ := own_any HOW.out
      go_wp2
      go_ret
      exact ⟨⟨ra, rc, rfl, h2⟩, HA.out.trans (HBR.out.mono HA.out.size)⟩

/-- the positions of the reference in which all gates but some are open -/
def rstL (lc : Nat) (C : Nat → C8) (s : Nat → Int) (m : Nat) : List Nat := movL (lgI (gatL C lc)) (gatL C lc).length s m lc

set_option maxRecDepth 100000 in
set_option maxHeartbeats 4000000 in
theorem rrest_w (pa ca sa : Option Addr) (lp cp lc cc m sc : Nat) (P : Nat → P8) (C : Nat → C8) (s : Nat → Int) (w : World) (hlc : lc ≤ 1000) (hm : m ≤ 1000000) (H : Hid (Ne8 w pa ca lp lc P C)) (HO : Hid (IntSl w sa m s)) :
    Calls Tryz.prog 92 #[.agg #[.slice pa lp cp, .slice ca lc cc], .slice sa m sc] w fun r w' => (∃ ra rc, r = .returned (.slice ra (rstL lc C s m).length rc) ∧ IntSl w' ra (rstL lc C s m).length (lgI (rstL lc C s m))) ∧ Below w.heap.size w w' := by
  obtain ⟨W0, hW0⟩ : ∃ W0, W0 = w.alloc (.cells #[.slice pa lp cp, .slice ca lc cc] 25) := ⟨_, rfl⟩
  have hA : Below w.heap.size w W0 := by rw [hW0]; exact (Below.refl _ _).alloc (Nat.le_refl _) _
  have HF : Hid (∀ w2, Below W0.heap.size W0 w2 → w2.cell? ⟨w.heap.size, 0, none⟩ = some (.slice pa lp cp) ∧ w2.cell? ⟨w.heap.size, 1, none⟩ = some (.slice ca lc cc)) := Lib.hid fun w2 h => by
    rw [hW0] at h
    exact ⟨(box_cells h).1, (box_cells h).2.1⟩
  have HN : Hid (∀ w2, Below W0.heap.size W0 w2 → Hid (Ne8 w2 pa ca lp lc P C)) := Lib.hid fun w2 h => Lib.hid (H.out.below (hA.trans (h.mono hA.size)))
  have HOS : Hid (∀ w2, Below W0.heap.size W0 w2 → Hid (IntSl w2 sa m s)) := Lib.hid fun w2 h => Lib.hid (HO.out.below (hA.trans (h.mono hA.size)))
  have HG : Hid (∀ w2, Below W0.heap.size W0 w2 → Calls Tryz.prog 85 #[.agg #[.slice pa lp cp, .slice ca lc cc]] w2 fun r w' => (∃ sa sc, r = .returned (.slice sa (gatL C lc).length sc) ∧ (gatL C lc).length ≤ sc ∧ IntSl w' sa (gatL C lc).length (lgI (gatL C lc))) ∧ Below w2.heap.size w2 w') := Lib.hid fun w2 h => rgates_w pa ca lp cp lc cc P C w2 hlc (HN.out _ h)
  have HM : Hid (∀ ga gc w2, IntSl w2 ga (gatL C lc).length (lgI (gatL C lc)) → Below W0.heap.size W0 w2 → Calls Tryz.prog 39 #[.agg #[.slice pa lp cp, .slice ca lc cc], .slice ga (gatL C lc).length gc, .slice sa m sc] w2 fun r w' => (∃ ra rc, r = .returned (.slice ra (rstL lc C s m).length rc) ∧ IntSl w' ra (rstL lc C s m).length (lgI (rstL lc C s m))) ∧ Below w2.heap.size w2 w') := Lib.hid fun ga gc w2 h1 h => rmoved_w pa ca ga sa lp cp lc cc (gatL C lc).length gc m sc (lgI (gatL C lc)) s w2 hlc (by have := gatL_le (C := C) lc; omega) hm (Lib.hid h1) (HOS.out _ h)
  obtain ⟨gl, hgl⟩ : ∃ l, gatL C lc = l := ⟨_, rfl⟩
  obtain ⟨rl, hrl⟩ : ∃ l, rstL lc C s m = l := ⟨_, rfl⟩
  rw [hgl] at HG HM
  rw [hrl] at HM ⊢
  obtain ⟨gn, hgn⟩ : ∃ n, gl.length = n := ⟨_, rfl⟩
  rw [hgn] at HG HM
  have HA := Lib.hid hA
  have HV : Hid (Below W0.heap.size W0 W0) := Lib.hid (Below.refl _ _)
  have HV1 := Lib.hid (below_drew HV.out)
  obtain ⟨g0, g1⟩ := HF.out _ (Below.refl _ _)
  clear hA H HO hgl hrl hgn
  go_enter Tryz.func92, Tryz.ntmps92
  go_wp2
  rw [← hW0]
  clear hW0
  go_region_law ((first
    | (go_simp; go_at_call 85; refine (HG.out _ HV1.out).mono ?_; rintro e w3 ⟨⟨ga, gc, rfl, hgc, hsl⟩, hv⟩; replace HV := Lib.hid (HV1.out.trans (hv.mono HV1.out.size)); have HM3 := Lib.hid (HM.out ga gc w3 hsl HV.out); clear hv hsl g0 g1; obtain ⟨g0, g1⟩ := HF.out _ HV.out)
    | (go_simp; go_at_call 39; refine HM3.out.mono ?_; rintro e w4 ⟨⟨ra, rc, rfl, hsl⟩, hv⟩; replace HV := Lib.hid (HV.out.trans (hv.mono HV.out.size)); have HSL := Lib.hid hsl; clear hv hsl g0 g1; obtain ⟨g0, g1⟩ := HF.out _ HV.out)))
  all_goals
    go_wp2
    go_ret
    exact ⟨⟨ra, rc, rfl, HSL.out⟩, HA.out.trans (HV.out.mono HA.out.size)⟩

set_option maxRecDepth 100000 in
set_option maxHeartbeats 4000000 in
theorem rcan_w (pa ca sa : Option Addr) (lp cp lc cc m sc : Nat) (P : Nat → P8) (C : Nat → C8) (s : Nat → Int) (w : World) (HP : Hid (NetP lp P lc C)) (HG : Hid (gatsB lc C s m = true)) (hm : m ≤ 1000) (H : Hid (Ne8 w pa ca lp lc P C)) (HO : Hid (IntSl w sa m s)) :
    Calls Tryz.prog 91 #[.agg #[.slice pa lp cp, .slice ca lc cc], .slice sa m sc] w fun r w' => r = .returned (.bool (fedV lp P lc C (emF lc C s m) false)) ∧ Below w.heap.size w w' := by
  have hc10 := HP.out.c10
  obtain ⟨W0, hW0⟩ : ∃ W0, W0 = w.alloc (.cells #[.slice pa lp cp, .slice ca lc cc] 25) := ⟨_, rfl⟩
  have hA : Below w.heap.size w W0 := by rw [hW0]; exact (Below.refl _ _).alloc (Nat.le_refl _) _
  have HF : Hid (∀ w2, Below W0.heap.size W0 w2 → w2.cell? ⟨w.heap.size, 0, none⟩ = some (.slice pa lp cp) ∧ w2.cell? ⟨w.heap.size, 1, none⟩ = some (.slice ca lc cc)) := Lib.hid fun w2 h => by
    rw [hW0] at h
    exact ⟨(box_cells h).1, (box_cells h).2.1⟩
  have HN : Hid (∀ w2, Below W0.heap.size W0 w2 → Hid (Ne8 w2 pa ca lp lc P C)) := Lib.hid fun w2 h => Lib.hid (H.out.below (hA.trans (h.mono hA.size)))
  have HOS : Hid (∀ w2, Below W0.heap.size W0 w2 → Hid (IntSl w2 sa m s)) := Lib.hid fun w2 h => Lib.hid (HO.out.below (hA.trans (h.mono hA.size)))
  have HR : Hid (∀ w2, Below W0.heap.size W0 w2 → Calls Tryz.prog 92 #[.agg #[.slice pa lp cp, .slice ca lc cc], .slice sa m sc] w2 fun r w' => (∃ ra rc, r = .returned (.slice ra (rstL lc C s m).length rc) ∧ IntSl w' ra (rstL lc C s m).length (lgI (rstL lc C s m))) ∧ Below w2.heap.size w2 w') := Lib.hid fun w2 h => rrest_w pa ca sa lp cp lc cc m sc P C s w2 (by omega) (by omega) (HN.out _ h) (HOS.out _ h)
  have HS : Hid (∀ ra rc w2, IntSl w2 ra (rstL lc C s m).length (lgI (rstL lc C s m)) → Below W0.heap.size W0 w2 → Calls Tryz.prog 35 #[.agg #[.slice pa lp cp, .slice ca lc cc], .slice ra (rstL lc C s m).length rc] w2 fun r w' => r = .returned (.bool (fedV lp P lc C (emF lc C s m) false)) ∧ Below w2.heap.size w2 w') := Lib.hid fun ra rc w2 h1 h => by
    have h2 := rsurely_w pa ca ra lp cp lc cc (rstL lc C s m).length rc P C (lgI (rstL lc C s m)) w2 HP (Lib.hid (mov_ok gatL_ok HG.out)) (by have := movL_le (s := lgI (gatL C lc)) (m := (gatL C lc).length) (t := s) (n := m) lc; unfold rstL; omega) (HN.out _ h) (Lib.hid h1)
    rw [show fedV lp P lc C (opnF (lgI (rstL lc C s m)) (rstL lc C s m).length) false = fedV lp P lc C (emF lc C s m) false from fedV_op (rest_op HG.out)] at h2
    exact h2
  obtain ⟨rl, hrl⟩ : ∃ l, rstL lc C s m = l := ⟨_, rfl⟩
  obtain ⟨b, hb⟩ : ∃ b, fedV lp P lc C (emF lc C s m) false = b := ⟨_, rfl⟩
  rw [hrl] at HR HS
  rw [hb] at HS ⊢
  obtain ⟨gn, hgn⟩ : ∃ n, rl.length = n := ⟨_, rfl⟩
  rw [hgn] at HR HS
  have HA := Lib.hid hA
  have HV : Hid (Below W0.heap.size W0 W0) := Lib.hid (Below.refl _ _)
  have HV1 := Lib.hid (below_drew HV.out)
  obtain ⟨g0, g1⟩ := HF.out _ (Below.refl _ _)
  clear hA H HO hrl hb hgn
  go_enter Tryz.func91, Tryz.ntmps91
  go_wp2
  rw [← hW0]
  clear hW0
  go_region_law ((first
    | (go_simp; go_at_call 92; refine (HR.out _ HV1.out).mono ?_; rintro e w3 ⟨⟨ra, rc, rfl, hsl⟩, hv⟩; replace HV := Lib.hid (HV1.out.trans (hv.mono HV1.out.size)); have HM3 := Lib.hid (HS.out ra rc w3 hsl HV.out); clear hv hsl g0 g1; obtain ⟨g0, g1⟩ := HF.out _ HV.out)
    | (go_simp; go_at_call 35; refine HM3.out.mono ?_; rintro e w4 ⟨rfl, hv⟩; replace HV := Lib.hid (HV.out.trans (hv.mono HV.out.size)); clear hv g0 g1; obtain ⟨g0, g1⟩ := HF.out _ HV.out)))
  all_goals
    go_wp2
    go_ret
    exact ⟨rfl, HA.out.trans (HV.out.mono HA.out.size)⟩

set_option maxRecDepth 100000 in
set_option maxHeartbeats 4000000 in
theorem rproof_w (pa ca sa : Option Addr) (lp cp lc cc m sc : Nat) (P : Nat → P8) (C : Nat → C8) (s : Nat → Int) (w : World) (HP : Hid (NetP lp P lc C)) (HG : Hid (gatsB lc C s m = true)) (hm : m ≤ 1000) (H : Hid (Ne8 w pa ca lp lc P C)) (HO : Hid (IntSl w sa m s)) :
    Calls Tryz.prog 46 #[.agg #[.slice pa lp cp, .slice ca lc cc], .slice sa m sc] w fun e w' => (∃ v, e = .returned (.tuple #[v, .bool (cutL lp P lc C (emF lc C s m) false).isSome]) ∧ CutAt w' v (cutL lp P lc C (emF lc C s m) false)) ∧ Below w.heap.size w w' := by
  have hc10 := HP.out.c10
  obtain ⟨W0, hW0⟩ : ∃ W0, W0 = w.alloc (.cells #[.slice pa lp cp, .slice ca lc cc] 25) := ⟨_, rfl⟩
  have hA : Below w.heap.size w W0 := by rw [hW0]; exact (Below.refl _ _).alloc (Nat.le_refl _) _
  have HF : Hid (∀ w2, Below W0.heap.size W0 w2 → w2.cell? ⟨w.heap.size, 0, none⟩ = some (.slice pa lp cp) ∧ w2.cell? ⟨w.heap.size, 1, none⟩ = some (.slice ca lc cc)) := Lib.hid fun w2 h => by
    rw [hW0] at h
    exact ⟨(box_cells h).1, (box_cells h).2.1⟩
  have HN : Hid (∀ w2, Below W0.heap.size W0 w2 → Hid (Ne8 w2 pa ca lp lc P C)) := Lib.hid fun w2 h => Lib.hid (H.out.below (hA.trans (h.mono hA.size)))
  have HOS : Hid (∀ w2, Below W0.heap.size W0 w2 → Hid (IntSl w2 sa m s)) := Lib.hid fun w2 h => Lib.hid (HO.out.below (hA.trans (h.mono hA.size)))
  have HR : Hid (∀ w2, Below W0.heap.size W0 w2 → Calls Tryz.prog 92 #[.agg #[.slice pa lp cp, .slice ca lc cc], .slice sa m sc] w2 fun r w' => (∃ ra rc, r = .returned (.slice ra (rstL lc C s m).length rc) ∧ IntSl w' ra (rstL lc C s m).length (lgI (rstL lc C s m))) ∧ Below w2.heap.size w2 w') := Lib.hid fun w2 h => rrest_w pa ca sa lp cp lc cc m sc P C s w2 (by omega) (by omega) (HN.out _ h) (HOS.out _ h)
  have HS : Hid (∀ ra rc w2, IntSl w2 ra (rstL lc C s m).length (lgI (rstL lc C s m)) → Below W0.heap.size W0 w2 → Calls Tryz.prog 33 #[.agg #[.slice pa lp cp, .slice ca lc cc], .slice ra (rstL lc C s m).length rc, .bool false] w2 fun e w' => (∃ v, e = .returned (.tuple #[v, .bool (cutL lp P lc C (emF lc C s m) false).isSome]) ∧ CutAt w' v (cutL lp P lc C (emF lc C s m) false)) ∧ Below w2.heap.size w2 w') := Lib.hid fun ra rc w2 h1 h => by
    have h2 := rcut_w pa ca ra lp cp lc cc (rstL lc C s m).length rc P C (lgI (rstL lc C s m)) false w2 HP (Lib.hid (mov_ok gatL_ok HG.out)) (by have := movL_le (s := lgI (gatL C lc)) (m := (gatL C lc).length) (t := s) (n := m) lc; unfold rstL; omega) (HN.out _ h) (Lib.hid h1)
    rw [show cutL lp P lc C (opnF (lgI (rstL lc C s m)) (rstL lc C s m).length) false = cutL lp P lc C (emF lc C s m) false from cutL_op (rest_op HG.out)] at h2
    exact h2
  obtain ⟨rl, hrl⟩ : ∃ l, rstL lc C s m = l := ⟨_, rfl⟩
  obtain ⟨cu, hcu⟩ : ∃ b, cutL lp P lc C (emF lc C s m) false = b := ⟨_, rfl⟩
  rw [hrl] at HR HS
  rw [hcu] at HS ⊢
  obtain ⟨gn, hgn⟩ : ∃ n, rl.length = n := ⟨_, rfl⟩
  rw [hgn] at HR HS
  have HA := Lib.hid hA
  have HV : Hid (Below W0.heap.size W0 W0) := Lib.hid (Below.refl _ _)
  have HV1 := Lib.hid (below_drew HV.out)
  obtain ⟨g0, g1⟩ := HF.out _ (Below.refl _ _)
  clear hA H HO hrl hcu hgn
  go_enter Tryz.func46, Tryz.ntmps46
  go_wp2
  rw [← hW0]
  clear hW0
  go_region_law ((first
    | (go_simp; go_at_call 92; refine (HR.out _ HV1.out).mono ?_; rintro e w3 ⟨⟨ra, rc, rfl, hsl⟩, hv⟩; replace HV := Lib.hid (HV1.out.trans (hv.mono HV1.out.size)); have HM3 := Lib.hid (HS.out ra rc w3 hsl HV.out); clear hv hsl g0 g1; obtain ⟨g0, g1⟩ := HF.out _ HV.out)
    | (go_simp; go_at_call 33; refine HM3.out.mono ?_; rintro e w4 ⟨⟨v, rfl, hc⟩, hv⟩; replace HV := Lib.hid (HV.out.trans (hv.mono HV.out.size)); have HC := Lib.hid hc; clear hv hc g0 g1; obtain ⟨g0, g1⟩ := HF.out _ HV.out)))
  all_goals
    go_wp2
    exact bodyPost_ret (v := .tuple #[v, .bool cu.isSome]) (by simp [results, Tryz.results46, go_sem]) rfl ⟨⟨v, rfl, HC.out⟩, HA.out.trans (HV.out.mono HA.out.size)⟩
end Go.Kn
