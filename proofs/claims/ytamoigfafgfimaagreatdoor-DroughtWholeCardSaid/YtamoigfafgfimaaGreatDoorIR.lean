/- Contracts of functions that the laws of this seat call, or the evaluator of closed calls and its runs. Conditions: as each theorem states them. -/
import Derived.Test.YtamoigfafgfimaaGreatDoorIS
import Derived.Test.YtamoigfafgfimaaGreatDoorHX
set_option linter.unusedVariables false
set_option linter.unusedSimpArgs false
namespace Go.Kn
open Go Go.Proofs Go.RowKit

/-- a list of ints whose array lies behind a mark -/
def IntSn (n0 : Nat) (w : World) (sa : Option Addr) (ls : Nat) (s : Nat → Int) : Prop := IntSl w sa ls s ∧ ∀ a, sa = some a → n0 ≤ a.block
theorem IntSn.below {n0 : Nat} {w w1 : World} {sa : Option Addr} {ls : Nat} {s : Nat → Int} (h : IntSn n0 w sa ls s) (hb : Below w.heap.size w w1) : IntSn n0 w1 sa ls s := ⟨h.1.below hb, h.2⟩
theorem IntSn.less {n0 n1 : Nat} {w : World} {sa : Option Addr} {ls : Nat} {s : Nat → Int} (h : IntSn n0 w sa ls s) (hn : n1 ≤ n0) : IntSn n1 w sa ls s := ⟨h.1, fun a ha => Nat.le_trans hn (h.2 a ha)⟩

set_option maxRecDepth 100000 in
set_option maxHeartbeats 1000000 in
theorem more_f (sa : Option Addr) (lo cs i : Nat) (s : Nat → Int) (w : World) (hi : i < lo) (hlo : lo ≤ 1000) (hs : -1000 ≤ s i ∧ s i ≤ 1000) (H : Hid (IntSl w sa lo s)) :
    Calls Tryz.prog 71 #[.slice sa lo cs, .int .i64 (i : Int), .int .i64 1] w fun e w' => (∃ G cap, e = .returned (.slice (some ⟨G, 0, none⟩) lo cap) ∧ IntSn w.heap.size w' (some ⟨G, 0, none⟩) lo (put s i 1)) ∧ Below w.heap.size w w' := by
  obtain ⟨i0, hi0, hz0, hz1, hz2⟩ := info_parts info3'
  obtain ⟨A, O, rfl, hA, hn⟩ := H.out.resolve_left (by omega)
  have HNUM := Lib.hid hn
  have n1 : (0 : Int) ≤ (i : Int) := by omega
  have n2 : (i : Int) < (lo : Int) := by omega
  have wr1 : wrap64 (s i + 1) = s i + 1 := by unfold wrap64; omega
  clear hn
  obtain ⟨L, hL⟩ : ∃ L, L = (List.range lo).map (fun j => Value.int .i64 (s j)) := ⟨_, rfl⟩
  have hl0 : L.length = lo * 1 := by rw [hL]; simp
  have hcells : ∀ (j : Nat) (u : Value), L[j]? = some u → w.cell? ((⟨A, O, none⟩ : Addr).add j) = some u := fun j u hu => by
    rw [hL] at hu
    have hj : j < lo := by have := (List.getElem?_eq_some_iff.1 hu).1; simpa using this
    have e : u = .int .i64 (s j) := by simpa [hj] using hu.symm
    subst e
    rw [show ((⟨A, O, none⟩ : Addr).add j) = ⟨A, O + j, none⟩ from by unfold Addr.add; split <;> simp_all]
    exact HNUM.out j hj
  have hone : ∀ u ∈ L, u.oneCell' = true := fun u hu => by
    rw [hL] at hu
    obtain ⟨j, _, rfl⟩ := List.mem_map.1 hu
    rfl
  have HL := Lib.hid hL
  have HL0 := Lib.hid hl0
  have HCE := Lib.hid hcells
  have HON := Lib.hid hone
  clear hL hl0 hcells hone
  go_enter Tryz.func71, Tryz.ntmps71
  go_wp2_with (at_builtin; refine wpList_append_own_at _ rfl (.const (.slice none 0 0)) (.tmp 8) 26 rfl w.heap.size 3 i0 (.int .i64 0) 1 8 Tryz.underlying26 hi0 hz0 hz1 hz2 rfl (by decide) _ 0 [] rfl ⟨rfl, .inl ⟨rfl, rfl⟩⟩ ⟨A, O, none⟩ lo cs L rfl HL0.out HCE.out HON.out (by unfold maxLen; omega) (by omega) (by simp) ?_; intro v7 w7 hown7 hgrow7 _ hloc7; obtain ⟨g, cap, rfl, hg1, hg2, hcl, hfz⟩ := ownRead hown7 (by omega); have hb7 : Below w.heap.size w w7 := (Below.refl _ _).grown hgrow7 (Nat.le_refl _) (fun r e => by simp [Act.eval, Value.ownBlock] at e); have z1 : w7.cell? ⟨g, i, none⟩ = some (.int .i64 (s i)) := hcl i _ (by rw [HL.out]; simp [hi]); have z2 := hfz i; have HB7 := Lib.hid hb7; have HCL := Lib.hid hcl; have HFZ := Lib.hid hfz; have HG := Lib.hid (And.intro hg1 hg2); clear hown7 hgrow7 hloc7 hb7 hcl hfz hg1 hg2)
  go_ret
  refine ⟨⟨g, cap, rfl, .inr ⟨g, 0, rfl, by simpa [World.setCell] using HG.out.2, fun j hj => ?_⟩, fun a ha => by cases ha; exact HG.out.1⟩, HB7.out.setCell HG.out.1 _⟩
  rw [Nat.zero_add]
  by_cases e : j = i
  · subst e; rw [put_same]; exact World.cell?_setCell_same' _ _ _ (by rw [z1]; rfl)
  · rw [put_other e, World.cell?_setCell_other _ _ _ _ (by intro e2; injection e2; omega)]
    exact HCL.out j _ (by rw [HL.out]; simp [hj])

set_option maxRecDepth 100000 in
set_option maxHeartbeats 4000000 in
theorem rordered_f (f : Int) (na oa pa : Option Addr) (ln cn lo co lc cc : Nat) (N : Nat → N2) (U : Nat → O3) (cl : Nat → Int) (w : World) (HR : Hid (TreeP f ln lo N U)) (H : Hid (Tr7 w na oa ln lo N U)) (HO : Hid (IntSl w pa lc cl)) (hlc : lc ≤ 1000000) :
    Calls Tryz.prog 26 #[.agg #[.int .i64 f, .slice na ln cn, .slice oa lo co], .slice pa lc cc] w fun e w' =>
      (∃ sa cs t, e = .returned (.slice sa lo cs) ∧ IntSn w.heap.size w' sa lo t ∧ Ord f lo N U (fun _ => 0) (upto cl lc) t) ∧ Below w.heap.size w w' := by
  have q1 := HR.out.l6
  have q2 := HR.out.lo2
  have q3 := HR.out.lo1
  have hm1 := fun w' => mk_w lo (by omega) w'
  obtain ⟨C, P, hoa, hC, hnC⟩ := H.out.ho.resolve_left (by omega)
  subst hoa
  obtain ⟨WA, hWA⟩ : ∃ WA, WA = w.alloc (.cells #[.int .i64 f, .slice na ln cn, .slice (some ⟨C, P, none⟩) lo co] 25) := ⟨_, rfl⟩
  have hA : Below w.heap.size w WA := by rw [hWA]; exact (Below.refl _ _).alloc (Nat.le_refl _) _
  have HX : Hid (∀ w2, Below WA.heap.size WA w2 → w2.cell? ⟨w.heap.size, 0, none⟩ = some (.int .i64 f) ∧ w2.cell? ⟨w.heap.size, 1, none⟩ = some (.slice na ln cn) ∧ w2.cell? ⟨w.heap.size, 2, none⟩ = some (.slice (some ⟨C, P, none⟩) lo co)) := Lib.hid fun w2 h => by
    obtain ⟨c, _⟩ := bcell h
    have hz : WA.heap.size = w.heap.size + 1 := by rw [hWA]; simp
    exact ⟨(c _ _ (by omega)).trans (by rw [hWA]; simp), (c _ _ (by omega)).trans (by rw [hWA]; simp), (c _ _ (by omega)).trans (by rw [hWA]; simp)⟩
  have hzA : WA.heap.size = w.heap.size + 1 := by rw [hWA]; simp
  have HZA := Lib.hid hzA
  have HTW : Hid (∀ w', Below WA.heap.size WA w' → Below w.heap.size w w') := Lib.hid fun w' h => hA.trans (h.mono hA.size)
  have HC : Hid (∀ w' j, Below WA.heap.size WA w' → j < lo → w'.cell? ⟨C, P + j * 3 + 2, none⟩ = some (.int .i64 (U j).k) ∧ w'.cell? ⟨C, P + j * 3 + 1, none⟩ = some (.int .i64 (U j).c)) := Lib.hid fun w' j h hj =>
    ⟨((HTW.out w' h).cell (p := ⟨C, P + j * 3 + 2, none⟩) hC).trans (hnC j hj).2.2, ((HTW.out w' h).cell (p := ⟨C, P + j * 3 + 1, none⟩) hC).trans (hnC j hj).2.1⟩
  clear hnC hA hzA
  go_enter Tryz.func26, Tryz.ntmps26
  go_wp2
  rw [← hWA]
  have hz0 : IntSl (WA.alloc (.cells (zc lo) 3)) (some ⟨w.heap.size + 1, 0, none⟩) lo (fun _ => 0) := by
    rw [← HZA.out]
    exact .inr ⟨_, 0, rfl, by simp, fun i hi => by rw [Nat.zero_add]; exact (zc_cell WA hi).1⟩
  have HZ0 := Lib.hid hz0
  clear hWA hz0
  go_loopw [5, 6] (fun v ii wr => ∃ (k : Nat) (sa : Option Addr) (cs : Nat) (t : Nat → Int), k ≤ lc ∧ ii = .int .i64 (k : Int) ∧ v = .slice sa lo cs ∧ IntSn w.heap.size wr sa lo t ∧ Ord f lo N U (fun _ => 0) (upto cl k) t ∧ Below WA.heap.size WA wr) (fun _ ii _ => lc - (Go.RowKit.intOf ii).toNat)
  case atStart => exact ⟨0, _, _, _, Nat.zero_le _, rfl, rfl, ⟨HZ0.out, fun a ha => by cases ha; exact Nat.le_succ _⟩, .nil _, (Below.refl _ _).alloc (Nat.le_refl _) _⟩
  case round =>
    obtain ⟨k, sa, cs, t, hk, rfl, rfl, hsl, hord, hbr⟩ := hrel
    have HSL := Lib.hid hsl
    have HORD := Lib.hid hord
    have HBR := Lib.hid hbr
    clear hsl hord hbr
    by_cases hlt : k < lc
    case neg =>
      have hkl : lc = k := by omega
      subst hkl
      go_wp2
      go_ret
      exact ⟨⟨sa, cs, t, rfl, HSL.out, HORD.out⟩, HTW.out _ HBR.out⟩
    case pos =>
      have n2 : (k : Int) < (lc : Int) := by omega
      have n1 : (0 : Int) ≤ (k : Int) := by omega
      obtain ⟨A, O, hpa, hAl, hnum⟩ := HO.out.resolve_left (by omega)
      subst hpa
      have HK : Hid (∀ w', Below WA.heap.size WA w' → w'.cell? ⟨A, O + k, none⟩ = some (.int .i64 (cl k))) := Lib.hid fun w' h => ((HTW.out w' h).cell (p := ⟨A, O + k, none⟩) hAl).trans (hnum k hlt)
      have HVT := Lib.hid (HORD.out.vd (vd_zero HR.out))
      clear hnum
      go_wp2
      go_loopg [5, 7] ((gap lo U t).toNat + 1) (fun n v mv wz => ∃ (sb : Option Addr) (cb : Nat) (t' : Nat → Int) (b : Bool), v = .slice sb lo cb ∧ mv = .bool b ∧ IntSn w.heap.size wz sb lo t' ∧ Vd f ln lo N U t' ∧ Wd f lo N U (cl k) t t' b ∧ Below WA.heap.size WA wz ∧ gap lo U t' + (if b = true then 1 else 0) ≤ n)
      case atStart =>
        refine ⟨sa, cs, t, true, rfl, rfl, HSL.out, HVT.out, Wd.start _ _, HBR.out, ?_⟩
        have := gap_nonneg HVT.out
        simp
        omega
      case round =>
        obtain ⟨sb, cb, t', b, rfl, rfl, hsl, hvd, hwd, hbz, hgp⟩ := hrel
        have HSLb := Lib.hid hsl
        have HVD := Lib.hid hvd
        have HWD := Lib.hid hwd
        have HBZ := Lib.hid hbz
        have HGP := Lib.hid hgp
        clear hsl hvd hwd hbz hgp
        cases b with
        | false =>
          go_wp2
          go_roundw
          case rel => exact ⟨k + 1, sb, cb, t', by omega, by go_num, rfl, HSLb.out, by rw [upto_succ]; exact HORD.out.snoc (HWD.out.no rfl), HBZ.out⟩
          case measure => simp [Go.RowKit.intOf]; omega
        | true =>
          obtain ⟨wm, hwm⟩ : ∃ wm, wm = wr := ⟨_, rfl⟩
          subst hwm
          go_wp2
          go_loopw [5, 7, 8] (fun v mv jj wy => ∃ (j : Nat) (sd : Option Addr) (cd : Nat), j ≤ lo ∧ jj = .int .i64 (j : Int) ∧ v = .slice sd lo cd ∧ mv = .bool (decide (0 < (passS f lo N U t' (clsK U (cl k) j)).2.length)) ∧ IntSn w.heap.size wy sd lo (passS f lo N U t' (clsK U (cl k) j)).1 ∧ Below WA.heap.size WA wy) (fun _ _ jj _ => lo - (Go.RowKit.intOf jj).toNat)
          case atStart => exact ⟨0, sb, cb, Nat.zero_le _, rfl, rfl, rfl, HSLb.out, HBZ.out⟩
          case round =>
            obtain ⟨j, sd, cd, hj, rfl, rfl, rfl, hsd, hby⟩ := hrel
            have HSD := Lib.hid hsd
            have HBY := Lib.hid hby
            clear hsd hby
            obtain ⟨wy, hwy⟩ : ∃ wy, wy = wr := ⟨_, rfl⟩
            subst hwy
            obtain ⟨x1, x2, x3⟩ := HX.out wy HBY.out
            by_cases hjl : j < lo
            case neg =>
              have hjl2 : lo = j := by omega
              subst hjl2
              have HST := Lib.hid (HWD.out.step)
              have HGA := Lib.hid (gap_pass (f := f) (lo := lo) (N := N) (U := U) (classL lo U (cl k)) t' (fun i hi => (classL_mem.1 hi).1))
              have HVP := Lib.hid (pass_vd (f := f) (N := N) (l := classL lo U (cl k)) (fun i hi => (classL_mem.1 hi).1) HVD.out)
              go_wp2
              go_roundg ((gap lo U (passS f lo N U t' (classL lo U (cl k))).1).toNat + (if 0 < (passS f lo N U t' (classL lo U (cl k))).2.length then 1 else 0))
              case measure =>
                have h1 := HGA.out
                have h2 := HGP.out
                have h3 := gap_nonneg HVP.out
                simp at h2
                split <;> omega
              case rel =>
                refine ⟨sd, cd, (passS f lo N U t' (classL lo U (cl k))).1, decide (0 < (passS f lo N U t' (classL lo U (cl k))).2.length), rfl, rfl, HSD.out, HVP.out, HST.out, HBY.out, ?_⟩
                have h3 := gap_nonneg HVP.out
                by_cases e : 0 < (passS f lo N U t' (classL lo U (cl k))).2.length
                · rw [if_pos (by simpa using e), if_pos e]; omega
                · rw [if_neg (by simpa using e), if_neg e]; omega
            case pos =>
              have n3 : (j : Int) < (lo : Int) := by omega
              have n4 : (0 : Int) ≤ (j : Int) := by omega
              have HCJ : Hid (∀ w', Below WA.heap.size WA w' → w'.cell? ⟨w.heap.size, 2, none⟩ = some (.slice (some ⟨C, P, none⟩) lo co) ∧ w'.cell? ⟨A, O + k, none⟩ = some (.int .i64 (cl k)) ∧ w'.cell? ⟨C, P + j * 3 + 2, none⟩ = some (.int .i64 (U j).k) ∧ w'.cell? ⟨C, P + j * 3 + 1, none⟩ = some (.int .i64 (U j).c)) := Lib.hid fun w' h =>
                ⟨(HX.out w' h).2.2, HK.out w' h, (HC.out w' j h hjl).1, (HC.out w' j h hjl).2⟩
              have hvr : Vd f ln lo N U (passS f lo N U t' (clsK U (cl k) j)).1 := pass_vd (fun i hi => by simp [clsK] at hi; omega) HVD.out
              have hsn := pass_snoc (f := f) (lo := lo) (N := N) (U := U) (i := j) (clsK U (cl k) j) t'
              obtain ⟨r, hr⟩ : ∃ r, passS f lo N U t' (clsK U (cl k) j) = r := ⟨_, rfl⟩
              rw [hr] at HSD hvr hsn ⊢
              obtain ⟨G2, O2, hsd, hG2, hn2⟩ := HSD.out.1.resolve_left (by omega)
              subst hsd
              have HSJ : Hid (∀ w', Below wy.heap.size wy w' → w'.cell? ⟨G2, O2 + j, none⟩ = some (.int .i64 (r.1 j))) := Lib.hid fun w' h => (h.cell (p := ⟨G2, O2 + j, none⟩) hG2).trans (hn2 j hjl)
              have HQ : Hid (∀ w', Below wy.heap.size wy w' → w'.cell? ⟨w.heap.size, 2, none⟩ = some (.slice (some ⟨C, P, none⟩) lo co) ∧ w'.cell? ⟨A, O + k, none⟩ = some (.int .i64 (cl k)) ∧ w'.cell? ⟨C, P + j * 3 + 2, none⟩ = some (.int .i64 (U j).k) ∧ w'.cell? ⟨C, P + j * 3 + 1, none⟩ = some (.int .i64 (U j).c) ∧ w'.cell? ⟨G2, O2 + j, none⟩ = some (.int .i64 (r.1 j))) := Lib.hid fun w' h => by
                obtain ⟨y1, y2, y3, y4⟩ := HCJ.out w' (HBY.out.trans (h.mono HBY.out.size))
                exact ⟨y1, y2, y3, y4, HSJ.out w' h⟩
              have HVR := Lib.hid hvr
              have HSN := Lib.hid hsn
              have HRR := Lib.hid hr
              clear hvr hsn hr hn2
              by_cases hcl : (U j).k = cl k
              case neg =>
                have d1 : ((U j).k == cl k) = false := by simpa using hcl
                have HCL := Lib.hid hcl
                clear hcl
                go_wp2
                refine wp_region_calm (W := wy) (by kernel_rfl) (by kernel_rfl) (Below.refl _ _) ?_
                repeat (first
                  | (refine calm_no (by rfl) ?_
                     (try simp only [Act.put, List.setIfInBounds_toArray, List.set_cons_zero, List.set_cons_succ]))
                  | (apply calm_yes
                     focus rfl
                     focus
                       intro w' hw'
                       obtain ⟨z1, z2, z3, z4, z5⟩ := HQ.out w' (hw')
                       go_simp
                       first
                         | done
                         | with_reducible rfl
                         | fail
                     (try simp only [Act.put, List.setIfInBounds_toArray, List.set_cons_zero, List.set_cons_succ])))
                refine calm_nil ?_
                intro v1 hqv1
                have HBv1 := Lib.hid hqv1
                clear hqv1
                go_wp2
                go_roundw
                case rel => exact ⟨j + 1, _, _, by omega, by go_num, rfl, by rw [clsK_no HCL.out, HRR.out], by rw [clsK_no HCL.out, HRR.out]; exact HSD.out.below HBv1.out, HBY.out.trans (HBv1.out.mono HBY.out.size)⟩
                case measure => simp [Go.RowKit.intOf]; omega
              case pos =>
                have d1 : ((U j).k == cl k) = true := by simpa using hcl
                have HCL := Lib.hid hcl
                clear hcl
                by_cases hcm : r.1 j < (U j).c
                case neg =>
                  have d2 : decide (r.1 j < (U j).c) = false := decide_eq_false hcm
                  have HNO : Hid (¬ OkP f lo N U r.1 j 1) := Lib.hid fun ho => by have := ho.1; omega
                  clear hcm
                  go_wp2
                  refine wp_region_calm (W := wy) (by kernel_rfl) (by kernel_rfl) (Below.refl _ _) ?_
                  repeat (first
                    | (refine calm_no (by rfl) ?_
                       (try simp only [Act.put, List.setIfInBounds_toArray, List.set_cons_zero, List.set_cons_succ]))
                    | (apply calm_yes
                       focus rfl
                       focus
                         intro w' hw'
                         obtain ⟨z1, z2, z3, z4, z5⟩ := HQ.out w' (hw')
                         go_simp
                         first
                           | done
                           | with_reducible rfl
                           | fail
                       (try simp only [Act.put, List.setIfInBounds_toArray, List.set_cons_zero, List.set_cons_succ])))
                  refine calm_nil ?_
                  intro v1 hqv1
                  have HBv1 := Lib.hid hqv1
                  clear hqv1
                  go_wp2
                  go_roundw
                  case rel =>
                    have e : passS f lo N U t' (clsK U (cl k) (j + 1)) = r := by rw [clsK_yes HCL.out, HSN.out, if_neg HNO.out]
                    exact ⟨j + 1, _, _, by omega, by go_num, rfl, by rw [e], by rw [e]; exact HSD.out.below HBv1.out, HBY.out.trans (HBv1.out.mono HBY.out.size)⟩
                  case measure => simp [Go.RowKit.intOf]; omega
                case pos =>
                  have d2 : decide (r.1 j < (U j).c) = true := decide_eq_true hcm
                  have HCM := Lib.hid hcm
                  have hbd := HVR.out.bd j hjl
                  have hcd := (tree_o HR.out hjl).2.1
                  clear hcm
                  go_wp2
                  refine wp_region_calm (W := wy) (by kernel_rfl) (by kernel_rfl) (Below.refl _ _) ?_
                  repeat (first
                    | (refine calm_no (by rfl) ?_
                       (try simp only [Act.put, List.setIfInBounds_toArray, List.set_cons_zero, List.set_cons_succ]))
                    | (apply calm_yes
                       focus rfl
                       focus
                         intro w' hw'
                         obtain ⟨z1, z2, z3, z4, z5⟩ := HQ.out w' (hw')
                         go_simp
                         first
                           | done
                           | with_reducible rfl
                           | fail
                       (try simp only [Act.put, List.setIfInBounds_toArray, List.set_cons_zero, List.set_cons_succ])))
                  refine calm_nil ?_
                  intro v1 hqv1
                  have HBv1 := Lib.hid hqv1
                  clear hqv1
                  have HB1 := Lib.hid (HBY.out.trans (HBv1.out.mono HBY.out.size))
                  obtain ⟨y1, y2, y3⟩ := HX.out v1 HB1.out
                  have HMO := Lib.hid (more_f (some ⟨G2, O2, none⟩) lo cd j r.1 v1 hjl (by omega) (by omega) (Lib.hid (HSD.out.1.below HBv1.out)))
                  have HSP : Hid (SharesP lo lo (put r.1 j 1) U) := Lib.hid ⟨rfl, fun i hi => by
                    have h1 := HVR.out.bd i hi
                    simp only [fromB, decide_eq_true_eq]
                    by_cases e : i = j
                    · subst e; rw [put_same]; have := HCM.out; omega
                    · rw [put_other e]; exact h1⟩
                  have HOK := Lib.hid (okP_iff (c := 1) HR.out HVR.out hjl)
                  clear x1 x2 x3 hbd hcd d1 d2
                  go_wp2_with (first
                    | (go_at_call 71; refine HMO.out.mono ?_; rintro e w5 ⟨⟨G3, c3, rfl, hs3⟩, hb5⟩; have HS3 := Lib.hid (hs3.less (Nat.le_trans (by omega) (HTW.out _ HB1.out).size) : IntSn w.heap.size w5 _ lo _); have HB5 := Lib.hid hb5; have HB15 := Lib.hid (HB1.out.trans (hb5.mono HB1.out.size)); obtain ⟨u1, u2, u3⟩ := HX.out w5 HB15.out; clear hs3 hb5)
                    | (go_at_call 20; refine (rfits_w f na (some ⟨C, P, none⟩) (some ⟨G3, 0, none⟩) ln cn lo co c3 N U (put r.1 j 1) w5 HR HSP (Lib.hid (H.out.below (HTW.out _ HB15.out))) (Lib.hid HS3.out.1)).mono ?_; rintro e w6 ⟨⟨rb, rfl, hrb⟩, hb6⟩; have HRB := Lib.hid hrb; have HB6 := Lib.hid hb6; clear hrb hb6; cases hrbv : rb))
                  · have HRV := Lib.hid hrbv
                    clear hrbv
                    go_wp2
                    go_roundw
                    case rel =>
                      have e : passS f lo N U t' (clsK U (cl k) (j + 1)) = r := by
                        rw [clsK_yes HCL.out, HSN.out, if_neg]
                        intro ho
                        have := HRB.out.2 (HOK.out.1 ho).2
                        rw [HRV.out] at this
                        cases this
                      exact ⟨j + 1, _, _, by omega, by go_num, rfl, by rw [e], by rw [e]; exact ((HSD.out.below HBv1.out).below HB5.out).below HB6.out, HB15.out.trans (HB6.out.mono HB15.out.size)⟩
                    case measure => simp [Go.RowKit.intOf]; omega
                  · have HRV := Lib.hid hrbv
                    clear hrbv
                    go_wp2
                    go_roundw
                    case rel =>
                      have e : passS f lo N U t' (clsK U (cl k) (j + 1)) = (put r.1 j 1, r.2 ++ [j]) := by
                        rw [clsK_yes HCL.out, HSN.out, if_pos (HOK.out.2 ⟨by have := HCM.out; omega, HRB.out.1 HRV.out⟩)]
                      exact ⟨j + 1, _, _, by omega, by go_num, rfl, by rw [e]; simp, by rw [e]; exact HS3.out.below HB6.out, HB15.out.trans (HB6.out.mono HB15.out.size)⟩
                    case measure => simp [Go.RowKit.intOf]; omega

set_option maxRecDepth 100000 in
set_option maxHeartbeats 1000000 in
theorem rshares_f (f : Int) (na oa : Option Addr) (ln cn lo co : Nat) (N : Nat → N2) (U : Nat → O3) (w : World) (HR : Hid (TreeP f ln lo N U)) (H : Hid (Tr7 w na oa ln lo N U)) :
    Calls Tryz.prog 24 #[.agg #[.int .i64 f, .slice na ln cn, .slice oa lo co]] w fun e w' =>
      (∃ sa cs t, e = .returned (.slice sa lo cs) ∧ IntSn w.heap.size w' sa lo t ∧ Ord f lo N U (fun _ => 0) [0, 1, 2, 3] t) ∧ Below w.heap.size w w' := by
  obtain ⟨WA, hWA⟩ : ∃ WA, WA = w.alloc (.cells #[.int .i64 f, .slice na ln cn, .slice oa lo co] 25) := ⟨_, rfl⟩
  have hA : Below w.heap.size w WA := by rw [hWA]; exact (Below.refl _ _).alloc (Nat.le_refl _) _
  have hB : Below w.heap.size w (WA.alloc (.cells #[.int .i64 0, .int .i64 1, .int .i64 2, .int .i64 3] 3)) := hA.alloc hA.size _
  have hI : IntSl (WA.alloc (.cells #[.int .i64 0, .int .i64 1, .int .i64 2, .int .i64 3] 3)) (some ⟨WA.heap.size, 0, none⟩) 4 (fun i => ((i : Nat) : Int)) := .inr ⟨_, 0, rfl, by simp, fun i hi => by
    match i, hi with
    | 0, _ => simp
    | 1, _ => simp
    | 2, _ => simp
    | 3, _ => simp⟩
  have HO : Hid (∀ cc, Calls Tryz.prog 26 #[.agg #[.int .i64 f, .slice na ln cn, .slice oa lo co], .slice (some ⟨WA.heap.size, 0, none⟩) 4 cc] (WA.alloc (.cells #[.int .i64 0, .int .i64 1, .int .i64 2, .int .i64 3] 3)) fun e w' =>
      (∃ sa cs t, e = .returned (.slice sa lo cs) ∧ IntSn w.heap.size w' sa lo t ∧ Ord f lo N U (fun _ => 0) [0, 1, 2, 3] t) ∧ Below w.heap.size w w') := Lib.hid fun cc => by
    refine (rordered_f f na oa _ ln cn lo co 4 cc N U _ _ HR (Lib.hid (H.out.below hB)) (Lib.hid hI) (by decide)).mono ?_
    rintro e w' ⟨⟨sa, cs, t, he, h1, h2⟩, hb⟩
    rw [law4] at h2
    exact ⟨⟨sa, cs, t, he, ⟨h1.1, fun a ha => Nat.le_trans hB.size (h1.2 a ha)⟩, h2⟩, hB.trans (hb.mono hB.size)⟩
  have hz : WA.heap.size = w.heap.size + 1 := by rw [hWA]; simp
  rw [hz] at HO
  rw [hWA] at HO
  clear hWA hA hB hI hz
  go_enter Tryz.func24, Tryz.ntmps24
  go_wp2_with (go_at_call 26; refine (HO.out _).mono ?_; rintro e w2 ⟨⟨sa, cs, t, rfl, hs, ho⟩, hb⟩; have HS := Lib.hid hs; have HORD := Lib.hid ho; have HB := Lib.hid hb; clear hs ho hb)
  go_ret
  exact ⟨⟨_, _, _, rfl, HS.out, HORD.out⟩, HB.out⟩

end Go.Kn

namespace Go.Kn
open Go Go.Proofs Go.RowKit

set_option maxRecDepth 100000 in
set_option maxHeartbeats 1000000 in
theorem sameSpans_w (v1 v2 : Value) (n : Nat) (x y : Nat → Int) (w : World) (hn : n ≤ maxLen) (H1 : Hid (SpSl w v1 n x y)) (H2 : Hid (SpSl w v2 n x y)) :
    Calls Tryz.prog 44 #[v1, v2] w fun e w' => e = .returned (.bool true) ∧ Below w.heap.size w w' := by
  unfold maxLen at hn
  obtain ⟨a1, c1, rfl, h1⟩ := H1.out
  obtain ⟨a2, c2, rfl, h2⟩ := H2.out
  have G1 := Lib.hid h1
  have G2 := Lib.hid h2
  clear h1 h2 H1 H2
  go_enter Tryz.func44, Tryz.ntmps44
  go_wp2
  go_loopw [5] (fun i wr => ∃ k : Nat, k ≤ n ∧ i = .int .i64 k ∧ Below w.heap.size w wr) (fun i _ => n - (Go.RowKit.intOf i).toNat)
  case atStart => exact ⟨0, Nat.zero_le _, rfl, Below.refl _ _⟩
  case round =>
    obtain ⟨k, hk, rfl, hbw⟩ := hrel
    by_cases hlt : k < n
    · obtain ⟨A, O, rfl, hA, h1⟩ := G1.out.resolve_left (by omega)
      obtain ⟨B, U, rfl, hB, h2⟩ := G2.out.resolve_left (by omega)
      have y0 := (hbw.cell (p := ⟨A, O + k * 2, none⟩) hA).trans (h1 k hlt).1
      have y1 := (hbw.cell (p := ⟨A, O + k * 2 + 1, none⟩) hA).trans (h1 k hlt).2
      have y2 := (hbw.cell (p := ⟨B, U + k * 2, none⟩) hB).trans (h2 k hlt).1
      have y3 := (hbw.cell (p := ⟨B, U + k * 2 + 1, none⟩) hB).trans (h2 k hlt).2
      clear h1 h2
      have n1 : (0 : Int) ≤ (k : Int) := by omega
      have n2 : (k : Int) < (n : Int) := by omega
      go_wp2
      go_quiet (fail)
      go_wp2
      go_roundw
      case rel => exact ⟨k + 1, by omega, by go_num, below_drewM hbw _⟩
      case measure => simp [Go.RowKit.intOf]; omega
    · go_wp2
      go_ret
      exact ⟨rfl, hbw⟩

/-- a row of spans of one's own -/
structure OS (W wr : World) (g lo : Nat) (x y : Nat → Int) : Prop where
  hb : Below W.heap.size W wr
  hg : W.heap.size ≤ g
  hs : g < wr.heap.size
  c : ∀ i, i < lo → wr.cell? ⟨g, i * 2, none⟩ = some (.int .i64 (x i)) ∧ wr.cell? ⟨g, i * 2 + 1, none⟩ = some (.int .i64 (y i))
  f : ∀ o, wr.frozen? ⟨g, o, none⟩ = false
theorem OS.below {W wr w1 : World} {g lo : Nat} {x y : Nat → Int} (h : OS W wr g lo x y) (hb : Below wr.heap.size wr w1) : OS W w1 g lo x y := by
  obtain ⟨c, f⟩ := bcell hb
  exact ⟨h.hb.trans (hb.mono h.hb.size), h.hg, Nat.lt_of_lt_of_le h.hs hb.size, fun i hi => ⟨(c _ _ h.hs).trans (h.c i hi).1, (c _ _ h.hs).trans (h.c i hi).2⟩, fun o => (f _ _ h.hs).trans (h.f o)⟩
/-- one number changed -/
def upd (y : Nat → Int) (k : Nat) (v : Int) : Nat → Int := fun i => if i = k then v else y i
theorem OS.set {W wr : World} {g lo k : Nat} {x y : Nat → Int} (h : OS W wr g lo x y) (hk : k < lo) (b : Int) : OS W ((wr.setCell ⟨g, k * 2, none⟩ (.int .i64 (x k))).setCell ⟨g, k * 2 + 1, none⟩ (.int .i64 b)) g lo x (upd y k b) := by
  have hne : (⟨g, k * 2, none⟩ : Addr) ≠ ⟨g, k * 2 + 1, none⟩ := by intro e; injection e; omega
  refine ⟨(h.hb.setCell (by simpa using h.hg) _).setCell (by simpa using h.hg) _, h.hg, by simpa using h.hs, fun i hi => ⟨?_, ?_⟩, fun o => by rw [World.frozen?_setCell, World.frozen?_setCell]; exact h.f o⟩
  · rw [World.cell?_setCell_other _ _ _ _ (by intro e; injection e; omega)]
    by_cases e : i = k
    · subst e; exact World.cell?_setCell_same _ _ _ (h.c i hi).1
    · rw [World.cell?_setCell_other _ _ _ _ (by intro e2; injection e2; omega)]; exact (h.c i hi).1
  · by_cases e : i = k
    · subst e
      have : upd y i b i = b := if_pos rfl
      rw [this]
      exact World.cell?_setCell_same _ _ _ ((World.cell?_setCell_other _ _ _ _ hne).trans (h.c i hi).2)
    · have : upd y k b i = y i := if_neg e
      rw [this, World.cell?_setCell_other _ _ _ _ (by intro e2; injection e2; omega), World.cell?_setCell_other _ _ _ _ (by intro e2; injection e2; omega)]
      exact (h.c i hi).2
theorem os_of_owns {W wr : World} {n : Nat} {v : Value} {x y : Nat → Int} (hb : Below W.heap.size W wr) (h : wr.ownsRow W.heap.size 61 2 v n (flat x y n)) (h0 : n ≠ 0) : ∃ g cap, v = .slice (some ⟨g, 0, none⟩) n cap ∧ OS W wr g n x y := by
  rcases h.2 with ⟨e, e2⟩ | ⟨g, cap, cur, e, hbb, hg, hn, hc, hs, hx⟩
  · exact (h0 e2).elim
  · subst e
    refine ⟨g, cap, rfl, hb, hbb, (Array.getElem?_eq_some_iff.1 hg).1, fun i hi => ?_, fun o => h.frozenAt o⟩
    have hl := flat_len x y n
    obtain ⟨h1, h2⟩ := flat_at x y n i hi
    exact ⟨(h.cellAt _ (by omega)).trans h1, (h.cellAt _ (by omega)).trans h2⟩
end Go.Kn

namespace Go.Kn
open Go Go.Proofs Go.RowKit

theorem OS.up {W V wr : World} {g lo : Nat} {x y : Nat → Int} (h : OS V wr g lo x y) (hb : Below W.heap.size W V) : OS W wr g lo x y :=
  ⟨hb.trans (h.hb.mono hb.size), Nat.le_trans hb.size h.hg, h.hs, h.c, h.f⟩
def mix (t s : Nat → Int) (k : Nat) : Nat → Int := fun i => if i < k then t i else s i
theorem mix_zero (t s : Nat → Int) : mix t s 0 = s := by funext i; simp [mix]
theorem mix_at (t s : Nat → Int) (k : Nat) : mix t s k k = s k := by simp [mix]
theorem mix_upd (t s : Nat → Int) (k : Nat) : upd (mix t s k) k (t k) = mix t s (k + 1) := by
  funext i
  unfold upd mix
  by_cases e : i = k
  · subst e; simp
  · by_cases h : i < k
    · rw [if_neg e, if_pos h, if_pos (by omega)]
    · rw [if_neg e, if_neg h, if_neg (by omega)]
theorem OS.congr {W wr : World} {g lo : Nat} {x y z : Nat → Int} (h : OS W wr g lo x y) (e : ∀ i, i < lo → y i = z i) : OS W wr g lo x z :=
  ⟨h.hb, h.hg, h.hs, fun i hi => ⟨(h.c i hi).1, by rw [← e i hi]; exact (h.c i hi).2⟩, h.f⟩

/-- what the reference has collected up to an inflow -/
def OutR (WA wr : World) (lw n : Int) (lo : Nat) (N : Nat → N2) (U : Nat → O3) (v : Value) : Prop :=
  (n = lw ∧ v = .slice none 0 0) ∨ (lw < n ∧ ∃ g cap x t, v = .slice (some ⟨g, 0, none⟩) lo cap ∧ OS WA wr g lo x t ∧ Ord lw lo N U (fun _ => 0) [0, 1, 2, 3] x ∧ Ord (n - 1) lo N U (fun _ => 0) [0, 1, 2, 3] t)

set_option maxRecDepth 100000 in
set_option maxHeartbeats 4000000 in
theorem rspans_w (f lw hg : Int) (na oa : Option Addr) (ln cn lo co : Nat) (N : Nat → N2) (U : Nat → O3) (w : World) (HR : Hid (TreeP f ln lo N U)) (H : Hid (Tr7 w na oa ln lo N U)) (hl : 0 ≤ lw) (hh : hg ≤ 200) (hle : lw ≤ hg) :
    Calls Tryz.prog 45 #[.agg #[.int .i64 f, .slice na ln cn, .slice oa lo co], .int .i64 lw, .int .i64 hg] w fun e w' => (∃ v, e = .returned v ∧ SpRes w' lw hg lo N U v) ∧ Below w.heap.size w w' := by
  have q1 := HR.out.l6
  have q2 := HR.out.lo2
  have q3 := HR.out.lo1
  obtain ⟨j0, hj, hj0, hj1, hj2⟩ := info_parts info61
  obtain ⟨WA, hWA⟩ : ∃ WA, WA = w.alloc (.cells #[.int .i64 f, .slice na ln cn, .slice oa lo co] 25) := ⟨_, rfl⟩
  have hA : Below w.heap.size w WA := by rw [hWA]; exact (Below.refl _ _).alloc (Nat.le_refl _) _
  have hzA : WA.heap.size = w.heap.size + 1 := by rw [hWA]; simp
  have HX : Hid (∀ w2, Below WA.heap.size WA w2 → w2.cell? ⟨w.heap.size, 0, none⟩ = some (.int .i64 f) ∧ w2.cell? ⟨w.heap.size, 1, none⟩ = some (.slice na ln cn) ∧ w2.cell? ⟨w.heap.size, 2, none⟩ = some (.slice oa lo co)) := Lib.hid fun w2 h => by
    obtain ⟨c, _⟩ := bcell h
    exact ⟨(c _ _ (by omega)).trans (by rw [hWA]; simp), (c _ _ (by omega)).trans (by rw [hWA]; simp), (c _ _ (by omega)).trans (by rw [hWA]; simp)⟩
  have HSH : Hid (∀ g w2, 0 ≤ g → g ≤ 200 → Below WA.heap.size WA w2 → Calls Tryz.prog 24 #[.agg #[.int .i64 g, .slice na ln cn, .slice oa lo co]] w2 fun e w' =>
      (∃ A O cs t, e = .returned (.slice (some ⟨A, O, none⟩) lo cs) ∧ w2.heap.size ≤ A ∧ A < w'.heap.size ∧ NumAt w' A O lo t ∧ Ord g lo N U (fun _ => 0) [0, 1, 2, 3] t) ∧ Below w2.heap.size w2 w') := Lib.hid fun g w2 h0 h1 h => by
    refine (rshares_f g na oa ln cn lo co N U w2 (Lib.hid (tree_with HR.out h0 h1)) (Lib.hid (H.out.below (hA.trans (h.mono hA.size))))).mono ?_
    rintro e w' ⟨⟨sa, cs, t, he, hs, ho⟩, hb⟩
    obtain ⟨A, O, rfl, hA2, hn⟩ := hs.1.resolve_left (by omega)
    exact ⟨⟨A, O, cs, t, he, hs.2 _ rfl, hA2, hn, ho⟩, hb⟩
  have HTW : Hid (∀ n : Int, 0 ≤ n → n ≤ 200 → TreeP n ln lo N U) := Lib.hid fun n h0 h1 => tree_with HR.out h0 h1
  have HA := Lib.hid hA
  clear hA hzA
  go_enter Tryz.func45, Tryz.ntmps45
  go_wp2
  rw [← hWA]
  clear hWA
  go_loopw [7, 8] (fun v nn wr => ∃ n : Int, lw ≤ n ∧ n ≤ hg + 1 ∧ nn = .int .i64 n ∧ Below WA.heap.size WA wr ∧ OutR WA wr lw n lo N U v) (fun _ nn _ => (hg + 1 - Go.RowKit.intOf nn).toNat)
  case atStart => exact ⟨lw, by omega, by omega, rfl, Below.refl _ _, .inl ⟨rfl, rfl⟩⟩
  case round =>
    obtain ⟨n, hn1, hn2, rfl, hbr, hout⟩ := hrel
    have HBR := Lib.hid hbr
    have HOUT := Lib.hid hout
    obtain ⟨x1, x2, x3⟩ := HX.out _ hbr
    clear hbr hout
    by_cases hn : n ≤ hg
    case neg =>
      obtain rfl : n = hg + 1 := by omega
      obtain ⟨_, g, cap, x, t, rfl, hos, hox, hot⟩ := HOUT.out.resolve_left (by omega)
      have HR1 : Hid (SpRes wr lw hg lo N U (.slice (some ⟨g, 0, none⟩) lo cap)) := Lib.hid ⟨x, t, ⟨_, _, rfl, .inr ⟨g, 0, rfl, hos.hs, fun i hi => by rw [Nat.zero_add]; exact hos.c i hi⟩⟩, hox, by rw [show hg = hg + 1 - 1 by omega]; exact hot⟩
      clear hos hox hot x1 x2 x3
      go_wp2
      go_ret
      exact ⟨⟨_, rfl, HR1.out⟩, HA.out.trans (HBR.out.mono HA.out.size)⟩
    case pos =>
      by_cases e : n = lw
      · subst e
        obtain ⟨_, rfl⟩ := HOUT.out.resolve_right (by omega)
        go_wp2_with (first
          | (go_at_call 43; refine (with_w _ _ _ _ _ _ _ _ _).mono ?_; rintro e w3 ⟨rfl, hv3⟩; have HB3 := Lib.hid (HBR.out.trans (hv3.mono HBR.out.size)); clear hv3)
          | (go_at_call 24; refine (HSH.out n w3 (by omega) (by omega) HB3.out).mono ?_; rintro e w4 ⟨⟨A, O, cs, t, rfl, hA1, hA2, hnm, hot⟩, hb4⟩; have HB4 := Lib.hid (HB3.out.trans (hb4.mono HB3.out.size)); have HNM := Lib.hid hnm; have HOT := Lib.hid hot; clear hnm hot hb4))
        obtain ⟨wm, hwm⟩ : ∃ wm, wm = w4 := ⟨_, rfl⟩
        subst hwm
        go_loopw [7, 10] (fun v ii wz => ∃ k : Nat, k ≤ lo ∧ ii = .int .i64 (k : Int) ∧ wz.ownsRow wm.heap.size 61 2 v k (flat t t k) ∧ Below wm.heap.size wm wz) (fun _ ii _ => lo - (Go.RowKit.intOf ii).toNat)
        case atStart => exact ⟨0, Nat.zero_le _, rfl, ⟨rfl, .inl ⟨rfl, rfl⟩⟩, Below.refl _ _⟩
        case round =>
          obtain ⟨k, hk, rfl, hown, hbw⟩ := hrel
          have HOW := Lib.hid hown
          have HBW := Lib.hid hbw
          have hsw := hbw.size
          by_cases hlt : k < lo
          · have y1 := (HNM.out.below hA2 hbw) k hlt
            have n1 : (0 : Int) ≤ (k : Int) := by omega
            have n2 : (k : Int) < (lo : Int) := by omega
            obtain ⟨q, hq⟩ : ∃ q, flat t t k = q := ⟨_, rfl⟩
            have HQ : Hid (flat t t (k + 1) = q ++ [.int .i64 (t k), .int .i64 (t k)]) := Lib.hid (by rw [← hq]; rfl)
            rw [hq] at HOW
            clear hq hown hbw
            go_wp2
            go_region_law ((first
              | (refine step_append_lies _ rfl (.tmp 30) (.tmp 40) 56 rfl wm.heap.size 61 j0 _ 2 16 Tryz.underlying56 hj hj0 hj1 hj2 rfl (by decide) _ k _ rfl (by first | exact (HOW.out.drew.alloc _) | exact ((HOW.out.alloc _).alloc _).drew | exact ((HOW.out.alloc _).alloc _)) ⟨_, 0, none⟩ 1 1 [.int .i64 (t k), .int .i64 (t k)] rfl rfl (lies_two ⟨by simp, by simp⟩) (by intro u hu; simp at hu; rcases hu with rfl | rfl <;> rfl) (by decide) (by unfold maxLen; omega) (by omega) (by simp; omega) _ rfl ?_; intro g6 cap6 w6 hown6 hgrow6 hat6 hlt6; have hb6 : Below wm.heap.size wm w6 := Below.grown (((below_drew HBW.out).alloc (by exact hsw) _)) hgrow6 (by simp; omega) (fun r e => own_ge HOW.out r e))))
            all_goals
              go_wp2
              go_roundw
              case rel => exact ⟨k + 1, by omega, by go_num, by rw [HQ.out]; exact hown6, hb6⟩
              case measure => simp [Go.RowKit.intOf]; omega
          · have hkl : k = lo := by omega
            subst hkl
            obtain ⟨g, cap, rfl, hos⟩ := os_of_owns hbw hown (by omega)
            have HOS := Lib.hid (hos.up HB4.out)
            clear hos hown hbw HOW
            go_wp2
            go_roundw
            case rel => exact ⟨n + 1, by omega, by omega, by go_num, HOS.out.hb, .inr ⟨by omega, g, cap, t, t, rfl, HOS.out, HOT.out, by rw [show n + 1 - 1 = n by omega]; exact HOT.out⟩⟩
            case measure => simp [Go.RowKit.intOf]; omega
      · obtain ⟨hlt, g, cap, x, s, rfl, hos, hox, hos2⟩ := HOUT.out.resolve_left (by omega)
        have HOS := Lib.hid hos
        have HOX := Lib.hid hox
        have HO2 := Lib.hid hos2
        clear hos hox hos2
        go_wp2_with (first
          | (go_at_call 43; refine (with_w _ _ _ _ _ _ _ _ _).mono ?_; rintro e w3 ⟨rfl, hv3⟩; have HB3 := Lib.hid (HBR.out.trans (hv3.mono HBR.out.size)); have HOS3 := Lib.hid (HOS.out.below hv3); clear hv3)
          | (go_at_call 24; refine (HSH.out n w3 (by omega) (by omega) HB3.out).mono ?_; rintro e w4 ⟨⟨A, O, cs, t, rfl, hA1, hA2, hnm, hot⟩, hb4⟩; have HB4 := Lib.hid (HB3.out.trans (hb4.mono HB3.out.size)); have HOS4 := Lib.hid (HOS3.out.below hb4); have HNM := Lib.hid hnm; have HOT := Lib.hid hot; clear hnm hot hb4))
        obtain ⟨wm, hwm⟩ : ∃ wm, wm = w4 := ⟨_, rfl⟩
        subst hwm
        have m1 := fun k => mono_p (HTW.out lw (by omega) (by omega)) (show lw ≤ n by omega) HOX.out HOT.out k
        have m2 := fun k => mono_p (HTW.out (n - 1) (by omega) (by omega)) (show n - 1 ≤ n by omega) HO2.out HOT.out k
        have hgA : g ≠ A := by have := HOS3.out.hs; omega
        have HM := Lib.hid (And.intro m1 m2)
        clear m1 m2
        go_loopw [7, 10] (fun v ii wz => ∃ k : Nat, k ≤ lo ∧ v = .slice (some ⟨g, 0, none⟩) lo cap ∧ ii = .int .i64 (k : Int) ∧ OS WA wz g lo x (mix t s k) ∧ NumAt wz A O lo t ∧ A < wz.heap.size) (fun _ ii _ => lo - (Go.RowKit.intOf ii).toNat)
        case atStart => exact ⟨0, Nat.zero_le _, rfl, rfl, by rw [mix_zero]; exact HOS4.out, HNM.out, hA2⟩
        case round =>
          obtain ⟨k, hk, rfl, rfl, hoz, hnz, hAz⟩ := hrel
          have HOZ := Lib.hid hoz
          have HNZ := Lib.hid hnz
          have HAZ := Lib.hid hAz
          clear hoz hnz hAz
          by_cases hlt : k < lo
          · have n1 : (0 : Int) ≤ (k : Int) := by omega
            have n2 : (k : Int) < (lo : Int) := by omega
            have e1 := HM.out.1 k
            have e2 := HM.out.2 k
            have hge := HOZ.out.hs
            have HC : Hid (∀ w', Below wr.heap.size wr w' → w'.cell? ⟨g, k * 2, none⟩ = some (.int .i64 (x k)) ∧ w'.cell? ⟨g, k * 2 + 1, none⟩ = some (.int .i64 (s k)) ∧ w'.cell? ⟨A, O + k, none⟩ = some (.int .i64 (t k)) ∧ w'.frozen? ⟨g, k * 2, none⟩ = false ∧ w'.frozen? ⟨g, k * 2 + 1, none⟩ = false) := Lib.hid fun w' h => by
              have h1 := HOZ.out.below h
              have h2 := h1.c k hlt
              rw [mix_at] at h2
              exact ⟨h2.1, h2.2, (HNZ.out.below HAZ.out h) k hlt, h1.f _, h1.f _⟩
            have hd : ¬ n = lw := e
            obtain ⟨z1, z2, z3, z4, z5⟩ := HC.out wr (Below.refl _ _)
            have hmx : Tryz.prog.follows .mixedOrders = true := by kernel_rfl
            go_wp2
            refine calm_last 24 (W := wr) hmx (by kernel_rfl) (Below.refl _ _) ?_
            repeat (first
              | (refine calm_no (by rfl) ?_
                 (try simp only [Act.put, List.setIfInBounds_toArray, List.set_cons_zero, List.set_cons_succ]))
              | (apply calm_yes
                 focus rfl
                 focus
                   intro w' hw'
                   obtain ⟨z1, z2, z3, z4, z5⟩ := HC.out w' hw'
                   go_simp
                   first
                     | done
                     | with_reducible rfl
                     | fail
                 (try simp only [Act.put, List.setIfInBounds_toArray, List.set_cons_zero, List.set_cons_succ])))
            refine calm_nil ?_
            intro w7 hb7
            have HB7 := Lib.hid hb7
            clear z1 z2 z3 z4 z5
            obtain ⟨z1, z2, z3, z4, z5⟩ := HC.out w7 hb7
            refine wpOp_last rfl rfl ?_
            go_simp
            rw [Int.min_eq_left e1, Int.max_eq_right e2]
            go_wp2
            go_roundw
            case rel =>
              have hz := HOZ.out.below HB7.out
              have hst := hz.set hlt (t k)
              rw [mix_upd] at hst
              refine ⟨k + 1, by omega, rfl, by go_num, hst, fun i hi => ?_, by simp; exact Nat.lt_of_lt_of_le HAZ.out HB7.out.size⟩
              rw [World.cell?_setCell_far _ _ _ _ hgA, World.cell?_setCell_far _ _ _ _ hgA]
              exact (HNZ.out.below HAZ.out HB7.out) i hi
            case measure => simp [Go.RowKit.intOf]; omega
          · have hkl : k = lo := by omega
            subst hkl
            have HOS5 : Hid (OS WA wr g k x t) := Lib.hid (HOZ.out.congr fun i hi => by simp [mix, hi])
            go_wp2
            go_roundw
            case rel => exact ⟨n + 1, by omega, by omega, by go_num, HOS5.out.hb, .inr ⟨by omega, g, cap, x, t, rfl, HOS5.out, HOX.out, by rw [show n + 1 - 1 = n by omega]; exact HOT.out⟩⟩
            case measure => simp [Go.RowKit.intOf]; omega
end Go.Kn
