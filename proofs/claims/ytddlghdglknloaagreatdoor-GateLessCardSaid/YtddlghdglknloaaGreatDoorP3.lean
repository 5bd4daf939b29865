/- Contracts of functions that the laws of this seat call, or the evaluator of closed calls and its runs. Conditions: as each theorem states them. -/
import Derived.Test.YtddlghdglknloaaGreatDoorP2
set_option linter.unusedVariables false
set_option linter.unusedSimpArgs false
namespace Go.Kn
open Go Go.Proofs Go.RowKit

/-- the positions of the reference in which all gates but some are open -/
def rstL (lc : Nat) (C : Nat → C8) (s : Nat → Int) (m : Nat) : List Nat := movL (lgI (gatL C lc)) (gatL C lc).length s m lc

set_option maxRecDepth 100000 in
set_option maxHeartbeats 4000000 in
theorem rrest_w (pa ca sa : Option Addr) (lp cp lc cc m sc : Nat) (P : Nat → P8) (C : Nat → C8) (s : Nat → Int) (w : World) (hlc : lc ≤ 1000) (hm : m ≤ 1000000) (H : Hid (Ne8 w pa ca lp lc P C)) (HO : Hid (IntSl w sa m s)) :
    Calls Tryz.prog 92 #[.agg #[.slice pa lp cp, .slice ca lc cc], .slice sa m sc] w fun r w' => (∃ ra rc, r = .returned (.slice ra (rstL lc C s m).length rc) ∧ IntSl w' ra (rstL lc C s m).length (lgI (rstL lc C s m))) ∧ Below w.heap.size w w' := by
  obtain ⟨W0, hW0⟩ : ∃ W0, W0 = w.alloc (.cells #[.slice pa lp cp, .slice ca lc cc] 25) := ⟨_, rfl⟩
  have hA : Below w.heap.size w W0 := by rw [hW0]; exact (Below.refl _ _).alloc (Nat.le_refl _) _
  have HF : Hid (∀ w2, Below W0.heap.size W0 w2 → w2.cell? ⟨w.heap.size, 0, none⟩ = some (.slice pa lp cp) ∧ w2.cell? ⟨w.heap.size, 1, none⟩ = some (.slice ca lc cc)) := Lib.hid fun w2 h => by
    rw [hW0] at h
    exact ⟨(box_cells h).1, (box_cells h).2.1⟩
  have HN : Hid (∀ w2, Below W0.heap.size W0 w2 → Hid (Ne8 w2 pa ca lp lc P C)) := Lib.hid fun w2 h => Lib.hid (H.out.below (hA.trans (h.mono hA.size)))
  have HOS : Hid (∀ w2, Below W0.heap.size W0 w2 → Hid (IntSl w2 sa m s)) := Lib.hid fun w2 h => Lib.hid (HO.out.below (hA.trans (h.mono hA.size)))
  have HG : Hid (∀ w2, Below W0.heap.size W0 w2 → Calls Tryz.prog 85 #[.agg #[.slice pa lp cp, .slice ca lc cc]] w2 fun r w' => (∃ sa sc, r = .returned (.slice sa (gatL C lc).length sc) ∧ (gatL C lc).length ≤ sc ∧ IntSl w' sa (gatL C lc).length (lgI (gatL C lc))) ∧ Below w2.heap.size w2 w') := Lib.hid fun w2 h => rgates_w pa ca lp cp lc cc P C w2 hlc (HN.out _ h)
  have HM : Hid (∀ ga gc w2, IntSl w2 ga (gatL C lc).length (lgI (gatL C lc)) → Below W0.heap.size W0 w2 → Calls Tryz.prog 39 #[.agg #[.slice pa lp cp, .slice ca lc cc], .slice ga (gatL C lc).length gc, .slice sa m sc] w2 fun r w' => (∃ ra rc, r = .returned (.slice ra (rstL lc C s m).length rc) ∧ IntSl w' ra (rstL lc C s m).length (lgI (rstL lc C s m))) ∧ Below w2.heap.size w2 w') := Lib.hid fun ga gc w2 h1 h => rmoved_w pa ca ga sa lp cp lc cc (gatL C lc).length gc m sc (lgI (gatL C lc)) s w2 hlc (by have := gatL_le (C := C) lc; omega) hm (Lib.hid h1) (HOS.out _ h)
  obtain ⟨gl, hgl⟩ : ∃ l, gatL C lc = l := ⟨_, rfl⟩
  obtain ⟨rl, hrl⟩ : ∃ l, rstL lc C s m = l := ⟨_, rfl⟩
  rw [hgl] at HG HM
  rw [hrl] at HM ⊢
  obtain ⟨gn, hgn⟩ : ∃ n, gl.length = n := ⟨_, rfl⟩
  rw [hgn] at HG HM
  have HA := Lib.hid hA
  have HV : Hid (Below W0.heap.size W0 W0) := Lib.hid (Below.refl _ _)
  have HV1 := Lib.hid (below_drew HV.out)
  obtain ⟨g0, g1⟩ := HF.out _ (Below.refl _ _)
  clear hA H HO hgl hrl hgn
  go_enter Tryz.func92, Tryz.ntmps92
  go_wp2
  rw [← hW0]
  clear hW0
  go_region_law ((first
    | (go_simp; go_at_call 85; refine (HG.out _ HV1.out).mono ?_; rintro e w3 ⟨⟨ga, gc, rfl, hgc, hsl⟩, hv⟩; replace HV := Lib.hid (HV1.out.trans (hv.mono HV1.out.size)); have HM3 := Lib.hid (HM.out ga gc w3 hsl HV.out); clear hv hsl g0 g1; obtain ⟨g0, g1⟩ := HF.out _ HV.out)
    | (go_simp; go_at_call 39; refine HM3.out.mono ?_; rintro e w4 ⟨⟨ra, rc, rfl, hsl⟩, hv⟩; replace HV := Lib.hid (HV.out.trans (hv.mono HV.out.size)); have HSL := Lib.hid hsl; clear hv hsl g0 g1; obtain ⟨g0, g1⟩ := HF.out _ HV.out)))
  all_goals
    go_wp2
    go_ret
    exact ⟨⟨ra, rc, rfl, HSL.out⟩, HA.out.trans (HV.out.mono HA.out.size)⟩

set_option maxRecDepth 100000 in
set_option maxHeartbeats 4000000 in
theorem rcan_w (pa ca sa : Option Addr) (lp cp lc cc m sc : Nat) (P : Nat → P8) (C : Nat → C8) (s : Nat → Int) (w : World) (HP : Hid (NetP lp P lc C)) (HG : Hid (gatsB lc C s m = true)) (hm : m ≤ 1000) (H : Hid (Ne8 w pa ca lp lc P C)) (HO : Hid (IntSl w sa m s)) :
    Calls Tryz.prog 91 #[.agg #[.slice pa lp cp, .slice ca lc cc], .slice sa m sc] w fun r w' => r = .returned (.bool (fedV lp P lc C (emF lc C s m) false)) ∧ Below w.heap.size w w' := by
  have hc10 := HP.out.c10
  obtain ⟨W0, hW0⟩ : ∃ W0, W0 = w.alloc (.cells #[.slice pa lp cp, .slice ca lc cc] 25) := ⟨_, rfl⟩
  have hA : Below w.heap.size w W0 := by rw [hW0]; exact (Below.refl _ _).alloc (Nat.le_refl _) _
  have HF : Hid (∀ w2, Below W0.heap.size W0 w2 → w2.cell? ⟨w.heap.size, 0, none⟩ = some (.slice pa lp cp) ∧ w2.cell? ⟨w.heap.size, 1, none⟩ = some (.slice ca lc cc)) := Lib.hid fun w2 h => by
    rw [hW0] at h
    exact ⟨(box_cells h).1, (box_cells h).2.1⟩
  have HN : Hid (∀ w2, Below W0.heap.size W0 w2 → Hid (Ne8 w2 pa ca lp lc P C)) := Lib.hid fun w2 h => Lib.hid (H.out.below (hA.trans (h.mono hA.size)))
  have HOS : Hid (∀ w2, Below W0.heap.size W0 w2 → Hid (IntSl w2 sa m s)) := Lib.hid fun w2 h => Lib.hid (HO.out.below (hA.trans (h.mono hA.size)))
  have HR : Hid (∀ w2, Below W0.heap.size W0 w2 → Calls Tryz.prog 92 #[.agg #[.slice pa lp cp, .slice ca lc cc], .slice sa m sc] w2 fun r w' => (∃ ra rc, r = .returned (.slice ra (rstL lc C s m).length rc) ∧ IntSl w' ra (rstL lc C s m).length (lgI (rstL lc C s m))) ∧ Below w2.heap.size w2 w') := Lib.hid fun w2 h => rrest_w pa ca sa lp cp lc cc m sc P C s w2 (by omega) (by omega) (HN.out _ h) (HOS.out _ h)
  have HS : Hid (∀ ra rc w2, IntSl w2 ra (rstL lc C s m).length (lgI (rstL lc C s m)) → Below W0.heap.size W0 w2 → Calls Tryz.prog 35 #[.agg #[.slice pa lp cp, .slice ca lc cc], .slice ra (rstL lc C s m).length rc] w2 fun r w' => r = .returned (.bool (fedV lp P lc C (emF lc C s m) false)) ∧ Below w2.heap.size w2 w') := Lib.hid fun ra rc w2 h1 h => by
    have h2 := rsurely_w pa ca ra lp cp lc cc (rstL lc C s m).length rc P C (lgI (rstL lc C s m)) w2 HP (Lib.hid (mov_ok gatL_ok HG.out)) (by have := movL_le (s := lgI (gatL C lc)) (m := (gatL C lc).length) (t := s) (n := m) lc; unfold rstL; omega) (HN.out _ h) (Lib.hid h1)
    rw [show fedV lp P lc C (opnF (lgI (rstL lc C s m)) (rstL lc C s m).length) false = fedV lp P lc C (emF lc C s m) false from fedV_op (rest_op HG.out)] at h2
    exact h2
  obtain ⟨rl, hrl⟩ : ∃ l, rstL lc C s m = l := ⟨_, rfl⟩
  obtain ⟨b, hb⟩ : ∃ b, fedV lp P lc C (emF lc C s m) false = b := ⟨_, rfl⟩
  rw [hrl] at HR HS
  rw [hb] at HS ⊢
  obtain ⟨gn, hgn⟩ : ∃ n, rl.length = n := ⟨_, rfl⟩
  rw [hgn] at HR HS
  have HA := Lib.hid hA
  have HV : Hid (Below W0.heap.size W0 W0) := Lib.hid (Below.refl _ _)
  have HV1 := Lib.hid (below_drew HV.out)
  obtain ⟨g0, g1⟩ := HF.out _ (Below.refl _ _)
  clear hA H HO hrl hb hgn
  go_enter Tryz.func91, Tryz.ntmps91
  go_wp2
  rw [← hW0]
  clear hW0
  go_region_law ((first
    | (go_simp; go_at_call 92; refine (HR.out _ HV1.out).mono ?_; rintro e w3 ⟨⟨ra, rc, rfl, hsl⟩, hv⟩; replace HV := Lib.hid (HV1.out.trans (hv.mono HV1.out.size)); have HM3 := Lib.hid (HS.out ra rc w3 hsl HV.out); clear hv hsl g0 g1; obtain ⟨g0, g1⟩ := HF.out _ HV.out)
    | (go_simp; go_at_call 35; refine HM3.out.mono ?_; rintro e w4 ⟨rfl, hv⟩; replace HV := Lib.hid (HV.out.trans (hv.mono HV.out.size)); clear hv g0 g1; obtain ⟨g0, g1⟩ := HF.out _ HV.out)))
  all_goals
    go_wp2
    go_ret
    exact ⟨rfl, HA.out.trans (HV.out.mono HA.out.size)⟩

set_option maxRecDepth 100000 in
set_option maxHeartbeats 4000000 in
theorem rproof_w (pa ca sa : Option Addr) (lp cp lc cc m sc : Nat) (P : Nat → P8) (C : Nat → C8) (s : Nat → Int) (w : World) (HP : Hid (NetP lp P lc C)) (HG : Hid (gatsB lc C s m = true)) (hm : m ≤ 1000) (H : Hid (Ne8 w pa ca lp lc P C)) (HO : Hid (IntSl w sa m s)) :
    Calls Tryz.prog 46 #[.agg #[.slice pa lp cp, .slice ca lc cc], .slice sa m sc] w fun e w' => (∃ v, e = .returned (.tuple #[v, .bool (cutL lp P lc C (emF lc C s m) false).isSome]) ∧ CutAt w' v (cutL lp P lc C (emF lc C s m) false)) ∧ Below w.heap.size w w' := by
  have hc10 := HP.out.c10
  obtain ⟨W0, hW0⟩ : ∃ W0, W0 = w.alloc (.cells #[.slice pa lp cp, .slice ca lc cc] 25) := ⟨_, rfl⟩
  have hA : Below w.heap.size w W0 := by rw [hW0]; exact (Below.refl _ _).alloc (Nat.le_refl _) _
  have HF : Hid (∀ w2, Below W0.heap.size W0 w2 → w2.cell? ⟨w.heap.size, 0, none⟩ = some (.slice pa lp cp) ∧ w2.cell? ⟨w.heap.size, 1, none⟩ = some (.slice ca lc cc)) := Lib.hid fun w2 h => by
    rw [hW0] at h
    exact ⟨(box_cells h).1, (box_cells h).2.1⟩
  have HN : Hid (∀ w2, Below W0.heap.size W0 w2 → Hid (Ne8 w2 pa ca lp lc P C)) := Lib.hid fun w2 h => Lib.hid (H.out.below (hA.trans (h.mono hA.size)))
  have HOS : Hid (∀ w2, Below W0.heap.size W0 w2 → Hid (IntSl w2 sa m s)) := Lib.hid fun w2 h => Lib.hid (HO.out.below (hA.trans (h.mono hA.size)))
  have HR : Hid (∀ w2, Below W0.heap.size W0 w2 → Calls Tryz.prog 92 #[.agg #[.slice pa lp cp, .slice ca lc cc], .slice sa m sc] w2 fun r w' => (∃ ra rc, r = .returned (.slice ra (rstL lc C s m).length rc) ∧ IntSl w' ra (rstL lc C s m).length (lgI (rstL lc C s m))) ∧ Below w2.heap.size w2 w') := Lib.hid fun w2 h => rrest_w pa ca sa lp cp lc cc m sc P C s w2 (by omega) (by omega) (HN.out _ h) (HOS.out _ h)
  have HS : Hid (∀ ra rc w2, IntSl w2 ra (rstL lc C s m).length (lgI (rstL lc C s m)) → Below W0.heap.size W0 w2 → Calls Tryz.prog 33 #[.agg #[.slice pa lp cp, .slice ca lc cc], .slice ra (rstL lc C s m).length rc, .bool false] w2 fun e w' => (∃ v, e = .returned (.tuple #[v, .bool (cutL lp P lc C (emF lc C s m) false).isSome]) ∧ CutAt w' v (cutL lp P lc C (emF lc C s m) false)) ∧ Below w2.heap.size w2 w') := Lib.hid fun ra rc w2 h1 h => by
    have h2 := rcut_w pa ca ra lp cp lc cc (rstL lc C s m).length rc P C (lgI (rstL lc C s m)) false w2 HP (Lib.hid (mov_ok gatL_ok HG.out)) (by have := movL_le (s := lgI (gatL C lc)) (m := (gatL C lc).length) (t := s) (n := m) lc; unfold rstL; omega) (HN.out _ h) (Lib.hid h1)
    rw [show cutL lp P lc C (opnF (lgI (rstL lc C s m)) (rstL lc C s m).length) false = cutL lp P lc C (emF lc C s m) false from cutL_op (rest_op HG.out)] at h2
    exact h2
  obtain ⟨rl, hrl⟩ : ∃ l, rstL lc C s m = l := ⟨_, rfl⟩
  obtain ⟨cu, hcu⟩ : ∃ b, cutL lp P lc C (emF lc C s m) false = b := ⟨_, rfl⟩
  rw [hrl] at HR HS
  rw [hcu] at HS ⊢
  obtain ⟨gn, hgn⟩ : ∃ n, rl.length = n := ⟨_, rfl⟩
  rw [hgn] at HR HS
  have HA := Lib.hid hA
  have HV : Hid (Below W0.heap.size W0 W0) := Lib.hid (Below.refl _ _)
  have HV1 := Lib.hid (below_drew HV.out)
  obtain ⟨g0, g1⟩ := HF.out _ (Below.refl _ _)
  clear hA H HO hrl hcu hgn
  go_enter Tryz.func46, Tryz.ntmps46
  go_wp2
  rw [← hW0]
  clear hW0
  go_region_law ((first
    | (go_simp; go_at_call 92; refine (HR.out _ HV1.out).mono ?_; rintro e w3 ⟨⟨ra, rc, rfl, hsl⟩, hv⟩; replace HV := Lib.hid (HV1.out.trans (hv.mono HV1.out.size)); have HM3 := Lib.hid (HS.out ra rc w3 hsl HV.out); clear hv hsl g0 g1; obtain ⟨g0, g1⟩ := HF.out _ HV.out)
    | (go_simp; go_at_call 33; refine HM3.out.mono ?_; rintro e w4 ⟨⟨v, rfl, hc⟩, hv⟩; replace HV := Lib.hid (HV.out.trans (hv.mono HV.out.size)); have HC := Lib.hid hc; clear hv hc g0 g1; obtain ⟨g0, g1⟩ := HF.out _ HV.out)))
  all_goals
    go_wp2
    exact bodyPost_ret (v := .tuple #[v, .bool cu.isSome]) (by simp [results, Tryz.results46, go_sem]) rfl ⟨⟨v, rfl, HC.out⟩, HA.out.trans (HV.out.mono HA.out.size)⟩
end Go.Kn
