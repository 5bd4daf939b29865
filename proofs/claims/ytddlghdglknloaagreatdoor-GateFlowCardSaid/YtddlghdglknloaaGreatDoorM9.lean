/- Contracts of functions that the laws of this seat call, or the evaluator of closed calls and its runs. Conditions: as each theorem states them. -/
import Derived.Test.YtddlghdglknloaaGreatDoorM8
import Derived.Test.YtddlghdglknloaaGreatDoorKN
import Derived.Test.YtddlghdglknloaaGreatDoorL9
import Derived.Shelf.RegionOpen
import Derived.Deep.AppendLies
set_option linter.unusedVariables false
set_option linter.unusedSimpArgs false
namespace Go.Kn
open Go Go.Proofs Go.RowKit

set_option maxRecDepth 100000 in
set_option maxHeartbeats 6000000 in
theorem lawfl_w (pa ca : Option Addr) (lp cp lc cc : Nat) (P : Nat → P8) (C : Nat → C8) (sa fa ga : Option Addr) (m sc r fc q gc : Nat) (s f u : Nat → Int) (w : World) (H : Hid (Ne8 w pa ca lp lc P C)) (HO : Hid (IntSl w sa m s)) (hml : m ≤ maxLen) (HU : Hid (IntSl w fa r f)) (hrl : r ≤ maxLen) (HQ : Hid (IntSl w ga q u)) (hql : q ≤ maxLen) (K : Hid KnownOk) (hpw : Hid (Pw w)) :
    Calls Tryz.prog 4 #[.agg #[.slice pa lp cp, .slice ca lc cc], .slice sa m sc, .slice fa r fc, .slice ga q gc] w fun e w' => e = .returned (.bool true) ∧ Below w.heap.size w w' := by
  obtain ⟨W0, hW0⟩ : ∃ W0, W0 = w.alloc (.cells #[.slice pa lp cp, .slice ca lc cc] 25) := ⟨_, rfl⟩
  have hA : Below w.heap.size w W0 := by rw [hW0]; exact (Below.refl _ _).alloc (Nat.le_refl _) _
  have HF : Hid (∀ w2, Below W0.heap.size W0 w2 → w2.cell? ⟨w.heap.size, 0, none⟩ = some (.slice pa lp cp) ∧ w2.cell? ⟨w.heap.size, 1, none⟩ = some (.slice ca lc cc)) := Lib.hid fun w2 h => by
    rw [hW0] at h
    exact ⟨(box_cells h).1, (box_cells h).2.1⟩
  have HN : Hid (∀ w2, Below W0.heap.size W0 w2 → Hid (Ne8 w2 pa ca lp lc P C)) := Lib.hid fun w2 h => Lib.hid (H.out.below (hA.trans (h.mono hA.size)))
  have HOS : Hid (∀ w2, Below W0.heap.size W0 w2 → Hid (IntSl w2 sa m s)) := Lib.hid fun w2 h => Lib.hid (HO.out.below (hA.trans (h.mono hA.size)))
  have HUS : Hid (∀ w2, Below W0.heap.size W0 w2 → Hid (IntSl w2 fa r f)) := Lib.hid fun w2 h => Lib.hid (HU.out.below (hA.trans (h.mono hA.size)))
  have HQS : Hid (∀ w2, Below W0.heap.size W0 w2 → Hid (IntSl w2 ga q u)) := Lib.hid fun w2 h => Lib.hid (HQ.out.below (hA.trans (h.mono hA.size)))
  have HKN : Hid (∀ w2, Below W0.heap.size W0 w2 → Calls Tryz.prog 16 #[] w2 fun e w' => e = .returned (.bool true) ∧ Below w2.heap.size w2 w') := Lib.hid fun w2 h => K.out w2 (hpw.out.on (hA.trans (h.mono hA.size)))
  have HSH : Hid (∀ w2, Below W0.heap.size W0 w2 → Calls Tryz.prog 15 #[.agg #[.slice pa lp cp, .slice ca lc cc]] w2 fun e w' => e = .returned (.bool (decide (lp ≤ 9 ∧ lc ≤ 13))) ∧ Below w2.heap.size w2 w') := Lib.hid fun w2 h => short_w pa ca lp cp lc cc w2
  have HRI : Hid (∀ w2, Below W0.heap.size W0 w2 → Calls Tryz.prog 22 #[.agg #[.slice pa lp cp, .slice ca lc cc], .slice sa m sc] w2 fun e w' => e = .returned (.bool (rgB lp P lc C s m)) ∧ Below w2.heap.size w2 w') := Lib.hid fun w2 h => right_b pa ca sa lp cp lc cc m sc P C s w2 hml (HN.out _ h) (HOS.out _ h)
  have HA := Lib.hid hA
  have HV : Hid (Below W0.heap.size W0 W0) := Lib.hid (Below.refl _ _)
  obtain ⟨g0, g1⟩ := HF.out _ (Below.refl _ _)
  rw [hW0] at g0 g1
  clear hA H HO HU HQ
  cases hrb : rgB lp P lc C s m with
  | false =>
    rw [hrb] at HRI
    clear hrb
    go_enter Tryz.func4, Tryz.ntmps4
    go_wp2_with (first
      | (go_at_call 22; (try rw [← hW0]); refine (HRI.out _ HV.out).mono ?_; rintro e w5 ⟨rfl, hv⟩; (try clear hW0); replace HV := Lib.hid (HV.out.trans (hv.mono HV.out.size)); clear hv g0 g1; obtain ⟨g0, g1⟩ := HF.out _ HV.out)
      | (go_at_call 16; (try rw [← hW0]); refine (HKN.out _ HV.out).mono ?_; rintro e w5 ⟨rfl, hv⟩; (try clear hW0); replace HV := Lib.hid (HV.out.trans (hv.mono HV.out.size)); clear hv g0 g1; obtain ⟨g0, g1⟩ := HF.out _ HV.out))
    go_ret
    exact ⟨rfl, HA.out.trans (HV.out.mono HA.out.size)⟩
  | true =>
    rw [hrb] at HRI
    obtain ⟨hs1, hs2, hm, hnv, hgs⟩ := rgB_t hrb
    clear hrb
    have HG := Lib.hid hgs
    have HP := Lib.hid (netV_iff.1 hnv)
    clear hnv hgs
    by_cases hr : r ≤ 13
    case neg =>
      have n2 : (13 : Int) < (r : Int) := by omega
      go_enter Tryz.func4, Tryz.ntmps4
      go_wp2_with (first
        | (go_at_call 22; (try rw [← hW0]); refine (HRI.out _ HV.out).mono ?_; rintro e w5 ⟨rfl, hv⟩; (try clear hW0); replace HV := Lib.hid (HV.out.trans (hv.mono HV.out.size)); clear hv g0 g1; obtain ⟨g0, g1⟩ := HF.out _ HV.out)
        | (go_at_call 16; (try rw [← hW0]); refine (HKN.out _ HV.out).mono ?_; rintro e w5 ⟨rfl, hv⟩; (try clear hW0); replace HV := Lib.hid (HV.out.trans (hv.mono HV.out.size)); clear hv g0 g1; obtain ⟨g0, g1⟩ := HF.out _ HV.out))
      go_ret
      exact ⟨rfl, HA.out.trans (HV.out.mono HA.out.size)⟩
    case pos =>
      have n2 : ¬ (13 : Int) < (r : Int) := by omega
      have HFL : Hid (∀ w2, Below W0.heap.size W0 w2 → Calls Tryz.prog 20 #[.agg #[.slice pa lp cp, .slice ca lc cc], .slice fa r fc] w2 fun e w' => e = .returned (.bool (flowB lc f r)) ∧ Below w2.heap.size w2 w') := Lib.hid fun w2 h => (rflows_w pa ca fa lp cp lc cc r fc f w2 (by omega) (HUS.out _ h))
      cases hfl : flowB lc f r with
      | false =>
        rw [hfl] at HFL
        clear hfl
        go_enter Tryz.func4, Tryz.ntmps4
        go_wp2_with (first
          | (go_at_call 22; (try rw [← hW0]); refine (HRI.out _ HV.out).mono ?_; rintro e w5 ⟨rfl, hv⟩; (try clear hW0); replace HV := Lib.hid (HV.out.trans (hv.mono HV.out.size)); clear hv g0 g1; obtain ⟨g0, g1⟩ := HF.out _ HV.out)
          | (go_at_call 20; (try rw [← hW0]); refine (HFL.out _ HV.out).mono ?_; rintro e w5 ⟨rfl, hv⟩; (try clear hW0); replace HV := Lib.hid (HV.out.trans (hv.mono HV.out.size)); clear hv g0 g1; obtain ⟨g0, g1⟩ := HF.out _ HV.out)
          | (go_at_call 16; (try rw [← hW0]); refine (HKN.out _ HV.out).mono ?_; rintro e w5 ⟨rfl, hv⟩; (try clear hW0); replace HV := Lib.hid (HV.out.trans (hv.mono HV.out.size)); clear hv g0 g1; obtain ⟨g0, g1⟩ := HF.out _ HV.out))
        go_ret
        exact ⟨rfl, HA.out.trans (HV.out.mono HA.out.size)⟩
      | true =>
        rw [hfl] at HFL
        by_cases hql : q = lp
        case neg =>
          have n3 : ((q : Int) == (lp : Int)) = false := by rw [beq_eq_false_iff_ne]; omega
          have n4 : ((q : Int) != (lp : Int)) = true := by rw [bne, n3]; rfl
          clear hfl hql
          go_enter Tryz.func4, Tryz.ntmps4
          go_wp2_with (first
            | (go_at_call 22; (try rw [← hW0]); refine (HRI.out _ HV.out).mono ?_; rintro e w5 ⟨rfl, hv⟩; (try clear hW0); replace HV := Lib.hid (HV.out.trans (hv.mono HV.out.size)); clear hv g0 g1; obtain ⟨g0, g1⟩ := HF.out _ HV.out)
            | (go_at_call 20; (try rw [← hW0]); refine (HFL.out _ HV.out).mono ?_; rintro e w5 ⟨rfl, hv⟩; (try clear hW0); replace HV := Lib.hid (HV.out.trans (hv.mono HV.out.size)); clear hv g0 g1; obtain ⟨g0, g1⟩ := HF.out _ HV.out)
            | (go_at_call 16; (try rw [← hW0]); refine (HKN.out _ HV.out).mono ?_; rintro e w5 ⟨rfl, hv⟩; (try clear hW0); replace HV := Lib.hid (HV.out.trans (hv.mono HV.out.size)); clear hv g0 g1; obtain ⟨g0, g1⟩ := HF.out _ HV.out))
          go_ret
          exact ⟨rfl, HA.out.trans (HV.out.mono HA.out.size)⟩
        case pos =>
          subst hql
          obtain ⟨hrl, hfb⟩ := flowB_iff.1 hfl
          have hl7 := HP.out.l7
          have hl1 := HP.out.l1
          have HFB := Lib.hid hfb
          have HFLB := Lib.hid hfl
          have HRL := Lib.hid hrl
          clear hfb hfl hrl
          obtain ⟨i0, hi0, hz0, hz1, hz2⟩ := info_parts info37
          go_enter Tryz.func4, Tryz.ntmps4
          go_wp2_with (first
            | (go_at_call 22; (try rw [← hW0]); refine (HRI.out _ HV.out).mono ?_; rintro e w5 ⟨rfl, hv⟩; (try clear hW0); replace HV := Lib.hid (HV.out.trans (hv.mono HV.out.size)); clear hv g0 g1; obtain ⟨g0, g1⟩ := HF.out _ HV.out)
            | (go_at_call 20; (try rw [← hW0]); refine (HFL.out _ HV.out).mono ?_; rintro e w5 ⟨rfl, hv⟩; (try clear hW0); replace HV := Lib.hid (HV.out.trans (hv.mono HV.out.size)); clear hv g0 g1; obtain ⟨g0, g1⟩ := HF.out _ HV.out))
          have HW5 := Lib.hid HV
          obtain ⟨W1, hW1⟩ : ∃ W1, W1 = w5.alloc (.cells #[.slice none 0 0, .slice ca lc cc] 25) := ⟨_, rfl⟩
          have hb1 : Below w5.heap.size w5 W1 := by rw [hW1]; exact (Below.refl _ _).alloc (Nat.le_refl _) _
          have hz1' : W1.heap.size = w5.heap.size + 1 := by rw [hW1]; simp
          have b0 : W1.cell? ⟨w5.heap.size, 0, none⟩ = some (.slice none 0 0) := by rw [hW1]; exact al_get rfl rfl
          have b1 : W1.cell? ⟨w5.heap.size, 1, none⟩ = some (.slice ca lc cc) := by rw [hW1]; exact al_get rfl rfl
          have b2 : W1.frozen? ⟨w5.heap.size, 0, none⟩ = false := by rw [hW1]; exact al_froz rfl
          have HZ1 := Lib.hid hz1'
          rw [← hW1]
          clear hW1 hz1' g0 g1
          go_loopw [10] (fun ii wr => ∃ k : Nat, k ≤ q ∧ ii = .int .i64 (k : Int) ∧ (∃ v, wr.cell? ⟨w5.heap.size, 0, none⟩ = some v ∧ wr.ownsRow W1.heap.size 37 3 v k (ptCells (sprP P u) k)) ∧ wr.cell? ⟨w5.heap.size, 1, none⟩ = some (.slice ca lc cc) ∧ wr.frozen? ⟨w5.heap.size, 0, none⟩ = false ∧ (∀ i, i < k → (P i).lo ≤ u i ∧ u i ≤ (P i).hi) ∧ Below w5.heap.size w5 wr ∧ W1.heap.size ≤ wr.heap.size) (fun ii _ => q - (Go.RowKit.intOf ii).toNat)
          case atStart => exact ⟨0, Nat.zero_le _, rfl, ⟨_, b0, ⟨by simp [ptCells], .inl ⟨rfl, rfl⟩⟩⟩, b1, b2, fun i hi => by omega, hb1, Nat.le_refl _⟩
          case round =>
            obtain ⟨k, hk, rfl, ⟨v, y0, hown⟩, y1, y2, hub, hbr, hzr⟩ := hrel
            have HUB := Lib.hid hub
            have HBR := Lib.hid hbr
            have HZR := Lib.hid hzr
            have hB0 : Below W0.heap.size W0 wr := HV.out.trans (hbr.mono HV.out.size)
            have HB0 := Lib.hid hB0
            clear hub hbr hb1 b0 b1 b2
            obtain ⟨g0, g1⟩ := HF.out _ hB0
            by_cases hlt : k < q
            case pos =>
              obtain ⟨va, vc, rfl⟩ := own_form hown
              have HOWN := Lib.hid hown
              obtain ⟨PA, PO, rfl, hPA, hPN⟩ := (HN.out _ hB0).out.hp.resolve_left (by omega)
              obtain ⟨GA, GO, rfl, hGA, hGN⟩ := (HQS.out _ hB0).out.resolve_left (by omega)
              obtain ⟨p0, p1, p2⟩ := hPN k hlt
              have s0 := hGN k hlt
              obtain ⟨⟨lo, hi, nd⟩, hpk⟩ : ∃ p, P k = p := ⟨_, rfl⟩
              obtain ⟨x, hx⟩ : ∃ x, u k = x := ⟨_, rfl⟩
              have HSN : Hid (ptCells (sprP P u) (k + 1) = ptCells (sprP P u) k ++ [.int .i64 x, .int .i64 x, .int .i64 nd]) := Lib.hid (by rw [ptCells_snoc, ← hx]; simp only [sprP, hpk])
              have HUK : Hid (lo ≤ x → x ≤ hi → ∀ i, i < k + 1 → (P i).lo ≤ u i ∧ u i ≤ (P i).hi) := Lib.hid fun h1 h2 i hi => by
                by_cases e : i = k
                · subst e; rw [hpk, hx]; exact ⟨h1, h2⟩
                · exact HUB.out i (by omega)
              rw [hpk] at p0 p1 p2
              rw [hx] at s0
              dsimp only at p0 p1 p2
              have n5 : (0 : Int) ≤ (k : Int) := by omega
              have n6 : (k : Int) < (q : Int) := by omega
              obtain ⟨W2, hW2⟩ : ∃ W2, W2 = wr.alloc (.cells #[.int .i64 lo, .int .i64 hi, .int .i64 nd] 37) := ⟨_, rfl⟩
              have hb2 : Below wr.heap.size wr W2 := by rw [hW2]; exact (Below.refl _ _).alloc (Nat.le_refl _) _
              have hz2' : W2.heap.size = wr.heap.size + 1 := by rw [hW2]; simp
              have r0 : W2.cell? ⟨wr.heap.size, 0, none⟩ = some (.int .i64 lo) := by rw [hW2]; exact al_get rfl rfl
              have r1 : W2.cell? ⟨wr.heap.size, 1, none⟩ = some (.int .i64 hi) := by rw [hW2]; exact al_get rfl rfl
              have r2 : W2.cell? ⟨wr.heap.size, 2, none⟩ = some (.int .i64 nd) := by rw [hW2]; exact al_get rfl rfl
              have r3 : W2.cell? ⟨GA, GO + k, none⟩ = some (.int .i64 x) := ((bcell hb2).1 _ _ hGA).trans s0
              have hz1 := HZ1.out
              have r4 : W2.cell? ⟨w5.heap.size, 0, none⟩ = some (.slice va k vc) := ((bcell hb2).1 _ _ (by omega)).trans y0
              have r5 : W2.cell? ⟨w5.heap.size, 1, none⟩ = some (.slice ca lc cc) := ((bcell hb2).1 _ _ (by omega)).trans y1
              have r6 : W2.frozen? ⟨w5.heap.size, 0, none⟩ = false := ((bcell hb2).2 _ _ (by omega)).trans y2
              have HO2 := Lib.hid (owns_below hown hb2)
              have HB2 := Lib.hid (HB0.out.trans (hb2.mono HB0.out.size))
              have HBW := Lib.hid (HBR.out.trans (hb2.mono HBR.out.size))
              clear hPN hGN hpk hx hown hzr hz1 y0 y1 y2
              by_cases hx1 : x < lo
              case pos =>
                go_wp2
                rw [← hW2]
                clear hW2 hb2 hz2' g0 g1 p0 p1 p2 s0
                go_quiet (fail)
                go_wp2_with (go_at_call 16; refine (HKN.out _ (below_drewM HB2.out _)).mono ?_; rintro e w9 ⟨rfl, hv9⟩)
                go_ret
                exact ⟨rfl, HA.out.trans (((below_drewM HB2.out _).trans (hv9.mono (below_drewM HB2.out _).size)).mono HA.out.size)⟩
              case neg =>
              by_cases hx2 : hi < x
              case pos =>
                go_wp2
                rw [← hW2]
                clear hW2 hb2 hz2' g0 g1 p0 p1 p2 s0
                go_quiet (fail)
                go_wp2_with (go_at_call 16; refine (HKN.out _ (below_drewM HB2.out _)).mono ?_; rintro e w9 ⟨rfl, hv9⟩)
                go_ret
                exact ⟨rfl, HA.out.trans (((below_drewM HB2.out _).trans (hv9.mono (below_drewM HB2.out _).size)).mono HA.out.size)⟩
              case neg =>
                go_wp2
                rw [← hW2]
                clear hW2 hb2 g0 g1 p0 p1 p2 s0
                go_quiet (fail)
                go_wp2
                have HOD : Hid (∀ n, (W2.drewN n).ownsRow W1.heap.size 37 3 (.slice va k vc) k (ptCells (sprP P u) k)) := Lib.hid fun n => HO2.out
                have HBE : Hid (∀ n, Below W1.heap.size W2 (W2.drewN n)) := Lib.hid fun n => below_drewM (Below.refl _ _) n
                have HZW : Hid (W1.heap.size ≤ W2.heap.size) := Lib.hid (by have := HZR.out; omega)
                have HLT5 : Hid (w5.heap.size < W1.heap.size) := Lib.hid (by have := HZ1.out; omega)
                have hne1 : w5.heap.size ≠ W2.heap.size := by have := HLT5.out; have := HZW.out; omega
                have hne2 : W2.heap.size ≠ w5.heap.size := fun h => hne1 h.symm
                have r7 : ∀ n o, ((W2.drewN n).alloc o).cell? ⟨w5.heap.size, 0, none⟩ = some (.slice va k vc) := fun n o => (World.cell?_alloc_lt _ _ ⟨w5.heap.size, 0, none⟩ (by have := HLT5.out; have := HZW.out; show w5.heap.size < W2.heap.size; omega)).trans r4
                clear hz2'
                go_region_law
                  ((first
                    | (refine step_append_lies _ rfl (.tmp 78) (.tmp 91) 22 rfl W1.heap.size 37 i0 _ 3 24 Tryz.underlying22 hi0 hz0 hz1 hz2 rfl (by decide) _ k _ rfl (by first | exact ((HOD.out _).alloc _).drew | exact (HOD.out _).drew.alloc _ | exact ((HOD.out _).alloc _)) ⟨_, 0, none⟩ 1 1 [.int .i64 x, .int .i64 x, .int .i64 nd] rfl rfl (lies3 ⟨by first | exact al_get rfl rfl | (simp only [World.cell?_drew]; exact al_get rfl rfl), by first | exact al_get rfl rfl | (simp only [World.cell?_drew]; exact al_get rfl rfl), by first | exact al_get rfl rfl | (simp only [World.cell?_drew]; exact al_get rfl rfl)⟩) (by intro y hy; simp at hy; rcases hy with rfl | rfl | rfl <;> rfl) (by decide) (by unfold maxLen; omega) (by omega) (by have := HZW.out; simp; omega) _ rfl ?_; intro g6 cap6 w6 hown6 hgrow6 hat6 hlt6; have hb6 : Below W1.heap.size W2 w6 := Below.grown (by repeat (first | exact HBE.out _ | refine Below.alloc ?_ (by have := HZW.out; simp; omega) _ | refine Below.drew ?_)) hgrow6 (by have := HZW.out; simp; omega) (fun r e => own_ge (HOD.out 0) r e); have u3 := (hb6.cell (p := ⟨w5.heap.size, 0, none⟩) HLT5.out).trans r4; have u4 := (hb6.frozen (p := ⟨w5.heap.size, 0, none⟩) HLT5.out).trans r6)))
                all_goals
                  clear hat6 hgrow6
                  go_wp2
                  go_roundw
                  case rel =>
                    refine ⟨k + 1, by omega, by go_num, ⟨_, World.cell?_setCell_same' _ _ _ (by rw [u3]; rfl), ?_⟩, (World.cell?_setCell_other _ _ _ _ (by simp)).trans ((hb6.cell (p := ⟨w5.heap.size, 1, none⟩) HLT5.out).trans r5), by simpa using u4, HUK.out (by omega) (by omega), RowKit.Below.setCell (p := ⟨w5.heap.size, 0, none⟩) (HBW.out.trans (hb6.mono (by have := HLT5.out; omega))) (Nat.le_refl _) _, by have := hb6.size; have := HZW.out; simp; omega⟩
                    rw [HSN.out]
                    have := ownsRow_setCell_below (a := ⟨w5.heap.size, 0, none⟩) hown6 HLT5.out (.slice (some ⟨g6, 0, none⟩) (k + 1) cap6)
                    simpa using this
                  case measure => simp [Go.RowKit.intOf]; omega
            case neg =>
              obtain rfl : k = q := by omega
              obtain ⟨xg, xc, rfl, q1, q2, q3, _⟩ := pt_owned hown (by omega)
              have hHC := (HN.out _ hB0).out.hc
              have hNX : Ne8 wr (some ⟨xg, 0, none⟩) ca k lc (sprP P u) C := ⟨.inr ⟨xg, 0, rfl, q2, ptAt_of q3⟩, hHC⟩
              have hz1 := HZ1.out
              have HF5 : Hid (∀ w2, Below wr.heap.size wr w2 → w2.cell? ⟨w.heap.size, 0, none⟩ = some (.slice pa k cp) ∧ w2.cell? ⟨w.heap.size, 1, none⟩ = some (.slice ca lc cc) ∧ w2.cell? ⟨w5.heap.size, 0, none⟩ = some (.slice (some ⟨xg, 0, none⟩) k xc) ∧ w2.cell? ⟨w5.heap.size, 1, none⟩ = some (.slice ca lc cc)) := Lib.hid fun w2 h => by
                obtain ⟨a0, a1⟩ := HF.out _ (hB0.trans (h.mono hB0.size))
                exact ⟨a0, a1, ((bcell h).1 _ _ (by omega)).trans y0, ((bcell h).1 _ _ (by omega)).trans y1⟩
              have HUP : Hid (∀ w2, Below wr.heap.size wr w2 → Below W0.heap.size W0 w2) := Lib.hid fun w2 h => hB0.trans (h.mono hB0.size)
              have HNX : Hid (∀ w2, Below wr.heap.size wr w2 → Hid (Ne8 w2 (some ⟨xg, 0, none⟩) ca k lc (sprP P u) C)) := Lib.hid fun w2 h => Lib.hid (hNX.below h)
              have hsw := spr_word (C := C) (lc := lc) (op := opnF s m) HUB.out
              have HPX := Lib.hid (HP.out.spr HUB.out)
              have HV5 : Hid (Below wr.heap.size wr wr) := Lib.hid (Below.refl _ _)
              obtain ⟨g2, g3⟩ : wr.cell? ⟨w5.heap.size, 0, none⟩ = some (.slice (some ⟨xg, 0, none⟩) k xc) ∧ wr.cell? ⟨w5.heap.size, 1, none⟩ = some (.slice ca lc cc) := ⟨y0, y1⟩
              have M1 := Lib.hid True.intro
              clear q1 q2 q3 hHC hNX y0 y1 y2 hown hzr hz1
              have HK5 : Hid (∀ w2, Below wr.heap.size wr w2 → Calls Tryz.prog 16 #[] w2 fun e w' => e = .returned (.bool true) ∧ Below w2.heap.size w2 w') := Lib.hid fun w2 h => HKN.out w2 (HUP.out w2 h)
              have HFE : Hid (∀ w2, Below wr.heap.size wr w2 → Calls Tryz.prog 17 #[.agg #[.slice pa k cp, .slice ca lc cc], .slice sa m sc, .slice fa r fc] w2 fun e w' => e = .returned (.tuple #[.bool (fbV k P lc C (opnF s m) f), .int .i64 0]) ∧ Below w2.heap.size w2 w') := Lib.hid fun w2 h => by
                have h1 := feeds_w pa ca sa fa k cp lc cc m sc r fc P C s f w2 (by omega) (by omega) (by omega) (by omega) (HN.out _ (HUP.out _ h)) (HOS.out _ (HUP.out _ h)) (HUS.out _ (HUP.out _ h))
                have hq : fdQ k P lc C s m f r = true := by unfold fdQ; rw [netV_iff.2 HP.out, HG.out, HFLB.out]; rfl
                rw [hq] at h1
                simpa only [if_true, Bool.true_and] using h1
              have HFD : Hid (∀ w2, Below wr.heap.size wr w2 → Calls Tryz.prog 23 #[.agg #[.slice pa k cp, .slice ca lc cc], .slice sa m sc] w2 fun e w' => e = .returned (.tuple #[.int .i64 (wordV k P lc C (opnF s m)), .int .i64 0]) ∧ Below w2.heap.size w2 w') := Lib.hid fun w2 h => fedq_w pa ca sa k cp lc cc m sc P C s _ w2 HP.out HG.out rfl (by omega) (HN.out _ (HUP.out _ h)) (HOS.out _ (HUP.out _ h))
              have HCU : Hid (∀ w2, Below wr.heap.size wr w2 → Calls Tryz.prog 24 #[.agg #[.slice pa k cp, .slice ca lc cc], .slice sa m sc] w2 fun e w' => (∃ v, e = .returned (.tuple #[v, .int .i64 (if fedV k P lc C (opnF s m) false then 5 else 0)])) ∧ Below w2.heap.size w2 w') := Lib.hid fun w2 h => (cut_ok pa ca sa k cp lc cc m sc P C s w2 HP.out HG.out (by omega) (HN.out _ (HUP.out _ h)) (HOS.out _ (HUP.out _ h))).mono fun e w' ⟨⟨v, he, _⟩, hv⟩ => ⟨⟨v, by rw [he, cutL_fed]; cases fedV k P lc C (opnF s m) false <;> rfl⟩, hv⟩
              have HFX : Hid (∀ w2, Below wr.heap.size wr w2 → Calls Tryz.prog 23 #[.agg #[.slice (some ⟨xg, 0, none⟩) k xc, .slice ca lc cc], .slice sa m sc] w2 fun e w' => e = .returned (.tuple #[.int .i64 (wordV k (sprP P u) lc C (opnF s m)), .int .i64 0]) ∧ Below w2.heap.size w2 w') := Lib.hid fun w2 h => fedq_w (some ⟨xg, 0, none⟩) ca sa k xc lc cc m sc (sprP P u) C s _ w2 HPX.out HG.out rfl (by omega) (HNX.out _ h) (HOS.out _ (HUP.out _ h))
              obtain ⟨e1, e2, e3⟩ := hsw
              have hw : wordV k P lc C (opnF s m) = if fedV k P lc C (opnF s m) false then 3 else if fedV k P lc C (opnF s m) true then 2 else 1 := rfl
              have hff : fbV k P lc C (opnF s m) f = true → fedV k P lc C (opnF s m) false = true := feeds_fed HP.out (fun i hi => (HFB.out i (by have := HRL.out; omega)).1)
              obtain ⟨w1, hw1⟩ : ∃ v, wordV k P lc C (opnF s m) = v := ⟨_, rfl⟩
              obtain ⟨w2, hw2⟩ : ∃ v, wordV k (sprP P u) lc C (opnF s m) = v := ⟨_, rfl⟩
              obtain ⟨b1, hb1'⟩ : ∃ b, fedV k P lc C (opnF s m) false = b := ⟨_, rfl⟩
              obtain ⟨b2, hb2'⟩ : ∃ b, fbV k P lc C (opnF s m) f = b := ⟨_, rfl⟩
              obtain ⟨b3, hb3'⟩ : ∃ b, fedV k P lc C (opnF s m) true = b := ⟨_, rfl⟩
              rw [hw1] at HFD e2 e3 hw
              rw [hw2] at HFX e1 e2 e3
              rw [hb1'] at HCU hff hw
              rw [hb2'] at HFE hff
              rw [hb3'] at hw
              clear hw1 hw2 hb1' hb2' hb3'
              have hleaf : (w1 = 3 ∧ w2 = 3 ∧ b1 = true) ∨ (b1 = false ∧ b2 = false ∧ ((w1 = 1 ∧ w2 = 1) ∨ (w1 = 2 ∧ w2 = 1) ∨ (w1 = 2 ∧ w2 = 3))) := by
                cases b1 with
                | true => simp at hw; exact .inl ⟨hw, e2 hw, rfl⟩
                | false =>
                  have h2 : b2 = false := by cases b2 with
                    | false => rfl
                    | true => exact absurd (hff rfl) (by simp)
                  cases b3 with
                  | true => simp at hw; rcases e1 with h | h; exact .inr ⟨rfl, h2, .inr (.inr ⟨hw, h⟩)⟩; exact .inr ⟨rfl, h2, .inr (.inl ⟨hw, h⟩)⟩
                  | false => simp at hw; exact .inr ⟨rfl, h2, .inl ⟨hw, e3 hw⟩⟩
              clear hw hff e1 e2 e3
              rcases hleaf with ⟨rfl, rfl, rfl⟩ | ⟨rfl, rfl, ⟨rfl, rfl⟩ | ⟨rfl, rfl⟩ | ⟨rfl, rfl⟩⟩
              case inl =>
                simp only [if_true] at HCU
                cases b2
                all_goals
                  go_wp2_with (first
                    | (go_at_call 17; refine (HFE.out _ HV5.out).mono ?_; rintro e w5 ⟨rfl, hv⟩; replace HV5 := Lib.hid (HV5.out.trans (hv.mono HV5.out.size)); clear hv g0 g1 g2 g3; obtain ⟨g0, g1, g2, g3⟩ := HF5.out _ HV5.out)
                    | (go_at_call 23; have hB := M1.out; clear hB M1; refine (HFD.out _ HV5.out).mono ?_; rintro e w5 ⟨rfl, hv⟩; replace HV5 := Lib.hid (HV5.out.trans (hv.mono HV5.out.size)); clear hv g0 g1 g2 g3; obtain ⟨g0, g1, g2, g3⟩ := HF5.out _ HV5.out)
                    | (go_at_call 24; refine (HCU.out _ HV5.out).mono ?_; rintro e w5 ⟨⟨v, rfl⟩, hv⟩; replace HV5 := Lib.hid (HV5.out.trans (hv.mono HV5.out.size)); clear hv g0 g1 g2 g3; obtain ⟨g0, g1, g2, g3⟩ := HF5.out _ HV5.out)
                    | (go_at_call 23; refine (HFX.out _ HV5.out).mono ?_; rintro e w5 ⟨rfl, hv⟩; replace HV5 := Lib.hid (HV5.out.trans (hv.mono HV5.out.size)); clear hv g0 g1 g2 g3; obtain ⟨g0, g1, g2, g3⟩ := HF5.out _ HV5.out)
                    | (go_at_call 16; refine (HK5.out _ HV5.out).mono ?_; rintro e w5 ⟨rfl, hv⟩; replace HV5 := Lib.hid (HV5.out.trans (hv.mono HV5.out.size)); clear hv g0 g1 g2 g3; obtain ⟨g0, g1, g2, g3⟩ := HF5.out _ HV5.out))
                  go_ret
                  exact ⟨rfl, HA.out.trans ((HUP.out _ HV5.out).mono HA.out.size)⟩
              all_goals
                simp only [Bool.false_eq_true, if_false] at HCU
                go_wp2_with (first
                  | (go_at_call 17; refine (HFE.out _ HV5.out).mono ?_; rintro e w5 ⟨rfl, hv⟩; replace HV5 := Lib.hid (HV5.out.trans (hv.mono HV5.out.size)); clear hv g0 g1 g2 g3; obtain ⟨g0, g1, g2, g3⟩ := HF5.out _ HV5.out)
                  | (go_at_call 23; have hB := M1.out; clear hB M1; refine (HFD.out _ HV5.out).mono ?_; rintro e w5 ⟨rfl, hv⟩; replace HV5 := Lib.hid (HV5.out.trans (hv.mono HV5.out.size)); clear hv g0 g1 g2 g3; obtain ⟨g0, g1, g2, g3⟩ := HF5.out _ HV5.out)
                  | (go_at_call 24; refine (HCU.out _ HV5.out).mono ?_; rintro e w5 ⟨⟨v, rfl⟩, hv⟩; replace HV5 := Lib.hid (HV5.out.trans (hv.mono HV5.out.size)); clear hv g0 g1 g2 g3; obtain ⟨g0, g1, g2, g3⟩ := HF5.out _ HV5.out)
                  | (go_at_call 23; refine (HFX.out _ HV5.out).mono ?_; rintro e w5 ⟨rfl, hv⟩; replace HV5 := Lib.hid (HV5.out.trans (hv.mono HV5.out.size)); clear hv g0 g1 g2 g3; obtain ⟨g0, g1, g2, g3⟩ := HF5.out _ HV5.out)
                  | (go_at_call 16; refine (HK5.out _ HV5.out).mono ?_; rintro e w5 ⟨rfl, hv⟩; replace HV5 := Lib.hid (HV5.out.trans (hv.mono HV5.out.size)); clear hv g0 g1 g2 g3; obtain ⟨g0, g1, g2, g3⟩ := HF5.out _ HV5.out))
                go_ret
                exact ⟨rfl, HA.out.trans ((HUP.out _ HV5.out).mono HA.out.size)⟩
end Go.Kn
