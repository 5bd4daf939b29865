/- Contracts of functions that the laws of this seat call, or the evaluator of closed calls and its runs. Conditions: as each theorem states them. -/
import Derived.Test.YtpfbfdcpibajoaaGreatDoorHO
set_option linter.unusedVariables false
set_option linter.unusedSimpArgs false
/- Contracts of functions that the laws of this seat call, or the evaluator of closed calls and its runs. Conditions: as each theorem states them. -/
set_option linter.unusedVariables false
set_option linter.unusedSimpArgs false
namespace Go.Kn
open Go Go.Proofs Go.RowKit

theorem ownRead {W : World} {base n : Nat} {v : Value} {xs : List Value} (h : W.ownsRow base 3 1 v (0 + n) ([] ++ xs)) (h0 : 0 < n) :
    ∃ g cap, v = .slice (some ⟨g, 0, none⟩) n cap ∧ base ≤ g ∧ g < W.heap.size ∧ (∀ (j : Nat) (x : Value), xs[j]? = some x → W.cell? ⟨g, j, none⟩ = some x) ∧ ∀ j : Nat, W.frozen? ⟨g, j, none⟩ = false := by
  rw [Nat.zero_add, List.nil_append] at h
  rcases h.2 with ⟨_, h2⟩ | ⟨g, cap, cur, h1, h2, h3, h4, h5, h6, h7⟩
  · omega
  · refine ⟨g, cap, h1, h2, (Array.getElem?_eq_some_iff.1 h3).1, fun j x hx => ?_, fun j => by simp [World.frozen?, h3]⟩
    rw [← h7, List.getElem?_take] at hx
    split at hx
    · simp only [Array.getElem?_toList] at hx
      simp [World.cell?, h3, hx]
    · cases hx

set_option maxRecDepth 100000 in
set_option maxHeartbeats 1000000 in
theorem more_w (sa : Option Addr) (lo cs i : Nat) (s : Nat → Int) (w : World) (hi : i < lo) (hlo : lo ≤ 1000) (hs : -1000 ≤ s i ∧ s i ≤ 1000) (H : Hid (IntSl w sa lo s)) :
    Calls Tryz.prog 75 #[.slice sa lo cs, .int .i64 (i : Int), .int .i64 1] w fun e w' => (∃ G cap, e = .returned (.slice (some ⟨G, 0, none⟩) lo cap) ∧ IntSl w' (some ⟨G, 0, none⟩) lo (put s i 1)) ∧ Below w.heap.size w w' := by
  obtain ⟨i0, hi0, hz0, hz1, hz2⟩ := info_parts info3'
  obtain ⟨A, O, rfl, hA, hn⟩ := H.out.resolve_left (by omega)
  have HNUM := Lib.hid hn
  have n1 : (0 : Int) ≤ (i : Int) := by omega
  have n2 : (i : Int) < (lo : Int) := by omega
  have wr1 : wrap64 (s i + 1) = s i + 1 := by unfold wrap64; omega
  clear hn
  obtain ⟨L, hL⟩ : ∃ L, L = (List.range lo).map (fun j => Value.int .i64 (s j)) := ⟨_, rfl⟩
  have hl0 : L.length = lo * 1 := by rw [hL]; simp
  have hcells : ∀ (j : Nat) (u : Value), L[j]? = some u → w.cell? ((⟨A, O, none⟩ : Addr).add j) = some u := fun j u hu => by
    rw [hL] at hu
    have hj : j < lo := by have := (List.getElem?_eq_some_iff.1 hu).1; simpa using this
    have e : u = .int .i64 (s j) := by simpa [hj] using hu.symm
    subst e
    rw [show ((⟨A, O, none⟩ : Addr).add j) = ⟨A, O + j, none⟩ from by unfold Addr.add; split <;> simp_all]
    exact HNUM.out j hj
  have hone : ∀ u ∈ L, u.oneCell' = true := fun u hu => by
    rw [hL] at hu
    obtain ⟨j, _, rfl⟩ := List.mem_map.1 hu
    rfl
  have HL := Lib.hid hL
  have HL0 := Lib.hid hl0
  have HCE := Lib.hid hcells
  have HON := Lib.hid hone
  clear hL hl0 hcells hone
  go_enter Tryz.func75, Tryz.ntmps75
  go_wp2_with (at_builtin; refine wpList_append_own_at _ rfl (.const (.slice none 0 0)) (.tmp 8) 26 rfl w.heap.size 3 i0 (.int .i64 0) 1 8 Tryz.underlying26 hi0 hz0 hz1 hz2 rfl (by decide) _ 0 [] rfl ⟨rfl, .inl ⟨rfl, rfl⟩⟩ ⟨A, O, none⟩ lo cs L rfl HL0.out HCE.out HON.out (by unfold maxLen; omega) (by omega) (by simp) ?_; intro v7 w7 hown7 hgrow7 _ hloc7; obtain ⟨g, cap, rfl, hg1, hg2, hcl, hfz⟩ := ownRead hown7 (by omega); have hb7 : Below w.heap.size w w7 := (Below.refl _ _).grown hgrow7 (Nat.le_refl _) (fun r e => by simp [Act.eval, Value.ownBlock] at e); have z1 : w7.cell? ⟨g, i, none⟩ = some (.int .i64 (s i)) := hcl i _ (by rw [HL.out]; simp [hi]); have z2 := hfz i; have HB7 := Lib.hid hb7; have HCL := Lib.hid hcl; have HFZ := Lib.hid hfz; have HG := Lib.hid (And.intro hg1 hg2); clear hown7 hgrow7 hloc7 hb7 hcl hfz hg1 hg2)
  go_ret
  refine ⟨⟨g, cap, rfl, .inr ⟨g, 0, rfl, by simpa [World.setCell] using HG.out.2, fun j hj => ?_⟩⟩, HB7.out.setCell HG.out.1 _⟩
  rw [Nat.zero_add]
  by_cases e : j = i
  · subst e; rw [put_same]; exact World.cell?_setCell_same' _ _ _ (by rw [z1]; rfl)
  · rw [put_other e, World.cell?_setCell_other _ _ _ _ (by intro e2; injection e2; omega)]
    exact HCL.out j _ (by rw [HL.out]; simp [hj])
end Go.Kn

namespace Go.Kn
open Go Go.Proofs Go.RowKit

section
variable {f : Int} {ln lo : Nat} {N : Nat → N2} {U : Nat → O3}
theorem pass_none : ∀ (l : List Nat) (s : Nat → Int), (passS f lo N U s l).2 = [] → (passS f lo N U s l).1 = s
  | [], s, _ => rfl
  | i :: l, s, h => by
    by_cases ho : OkP f lo N U s i 1
    · rw [pass_yes ho] at h; cases h
    · rw [pass_no ho] at h ⊢; exact pass_none l s h
/-- while passes go on over the whole class -/
structure Wd (f : Int) (lo : Nat) (N : Nat → N2) (U : Nat → O3) (c : Int) (t t' : Nat → Int) (b : Bool) : Prop where
  yes : b = true → ∃ p : Nat → Bool, (∀ i ∈ classL lo U c, p i = false → ¬ OkP f lo N U t' i 1) ∧ ∀ x, Served f lo N U t' ((classL lo U c).filter p) x → Served f lo N U t (classL lo U c) x
  no : b = false → Served f lo N U t (classL lo U c) t'
theorem Wd.start (c : Int) (t : Nat → Int) : Wd f lo N U c t t true :=
  ⟨fun _ => ⟨fun _ => true, ⟨fun i hi h => absurd h (by simp), fun x h => by rw [List.filter_eq_self.2 (fun _ _ => rfl)] at h; exact h⟩⟩, fun h => by cases h⟩
theorem Wd.step {c : Int} {t t' : Nat → Int} (h : Wd f lo N U c t t' true) : Wd f lo N U c t (passS f lo N U t' (classL lo U c)).1 (decide (0 < (passS f lo N U t' (classL lo U c)).2.length)) := by
  obtain ⟨p, hp1, hp2⟩ := h.yes rfl
  have hlt : ∀ i ∈ classL lo U c, i < lo := fun i hi => (classL_mem.1 hi).1
  have e := pass_skip p (classL lo U c) t' hlt hp1
  refine ⟨fun hb => ?_, fun hb => ?_⟩
  · have hpos : 0 < (passS f lo N U t' (classL lo U c)).2.length := by simpa using hb
    refine ⟨fun i => decide (i ∈ (passS f lo N U t' (classL lo U c)).2), fun i hi hn => pass_blocked _ _ hlt i hi (by simpa using hn), fun x hx => ?_⟩
    rw [sub_filter (pass_sub _ _) (classL_nodup c)] at hx
    refine hp2 x (.next _ _ _ (fun e2 => ?_) (by rw [← e]; exact hx))
    rw [e2] at e
    rw [e] at hpos
    simp [passS] at hpos
  · have hnil : (passS f lo N U t' (classL lo U c)).2 = [] := by
      have : ¬ 0 < (passS f lo N U t' (classL lo U c)).2.length := by simpa using hb
      exact List.length_eq_zero_iff.1 (by omega)
    have h1 := pass_none _ _ hnil
    rw [h1]
    refine hp2 t' ?_
    by_cases e2 : (classL lo U c).filter p = []
    · rw [e2]; exact .done _
    · refine .next _ _ _ e2 ?_
      rw [← e, hnil, h1]; exact .done _
end

set_option maxRecDepth 100000 in
set_option maxHeartbeats 4000000 in
theorem rordered_w (f : Int) (na oa pa : Option Addr) (ln cn lo co lc cc : Nat) (N : Nat → N2) (U : Nat → O3) (cl : Nat → Int) (w : World) (HR : Hid (TreeP f ln lo N U)) (H : Hid (Tr7 w na oa ln lo N U)) (HO : Hid (IntSl w pa lc cl)) (hlc : lc ≤ 1000000) :
    Calls Tryz.prog 25 #[.agg #[.int .i64 f, .slice na ln cn, .slice oa lo co], .slice pa lc cc] w fun e w' =>
      (∃ sa cs t, e = .returned (.slice sa lo cs) ∧ IntSl w' sa lo t ∧ Ord f lo N U (fun _ => 0) (upto cl lc) t) ∧ Below w.heap.size w w' := by
  have q1 := HR.out.l6
  have q2 := HR.out.lo2
  have q3 := HR.out.lo1
  have hm1 := fun w' => mk_w lo (by omega) w'
  obtain ⟨C, P, hoa, hC, hnC⟩ := H.out.ho.resolve_left (by omega)
  subst hoa
  obtain ⟨WA, hWA⟩ : ∃ WA, WA = w.alloc (.cells #[.int .i64 f, .slice na ln cn, .slice (some ⟨C, P, none⟩) lo co] 25) := ⟨_, rfl⟩
  have hA : Below w.heap.size w WA := by rw [hWA]; exact (Below.refl _ _).alloc (Nat.le_refl _) _
  have HX : Hid (∀ w2, Below WA.heap.size WA w2 → w2.cell? ⟨w.heap.size, 0, none⟩ = some (.int .i64 f) ∧ w2.cell? ⟨w.heap.size, 1, none⟩ = some (.slice na ln cn) ∧ w2.cell? ⟨w.heap.size, 2, none⟩ = some (.slice (some ⟨C, P, none⟩) lo co)) := Lib.hid fun w2 h => by
    obtain ⟨c, _⟩ := bcell h
    have hz : WA.heap.size = w.heap.size + 1 := by rw [hWA]; simp
    exact ⟨(c _ _ (by omega)).trans (by rw [hWA]; simp), (c _ _ (by omega)).trans (by rw [hWA]; simp), (c _ _ (by omega)).trans (by rw [hWA]; simp)⟩
  have hzA : WA.heap.size = w.heap.size + 1 := by rw [hWA]; simp
  have HZA := Lib.hid hzA
  have HTW : Hid (∀ w', Below WA.heap.size WA w' → Below w.heap.size w w') := Lib.hid fun w' h => hA.trans (h.mono hA.size)
  have HC : Hid (∀ w' j, Below WA.heap.size WA w' → j < lo → w'.cell? ⟨C, P + j * 3 + 2, none⟩ = some (.int .i64 (U j).k) ∧ w'.cell? ⟨C, P + j * 3 + 1, none⟩ = some (.int .i64 (U j).c)) := Lib.hid fun w' j h hj =>
    ⟨((HTW.out w' h).cell (p := ⟨C, P + j * 3 + 2, none⟩) hC).trans (hnC j hj).2.2, ((HTW.out w' h).cell (p := ⟨C, P + j * 3 + 1, none⟩) hC).trans (hnC j hj).2.1⟩
  clear hnC hA hzA
  go_enter Tryz.func25, Tryz.ntmps25
  go_wp2
  rw [← hWA]
  have hz0 : IntSl (WA.alloc (.cells (zc lo) 3)) (some ⟨w.heap.size + 1, 0, none⟩) lo (fun _ => 0) := by
    rw [← HZA.out]
    exact .inr ⟨_, 0, rfl, by simp, fun i hi => by rw [Nat.zero_add]; exact (zc_cell WA hi).1⟩
  have HZ0 := Lib.hid hz0
  clear hWA hz0
  go_loopw [5, 6] (fun v ii wr => ∃ (k : Nat) (sa : Option Addr) (cs : Nat) (t : Nat → Int), k ≤ lc ∧ ii = .int .i64 (k : Int) ∧ v = .slice sa lo cs ∧ IntSl wr sa lo t ∧ Ord f lo N U (fun _ => 0) (upto cl k) t ∧ Below WA.heap.size WA wr) (fun _ ii _ => lc - (intOf ii).toNat)
  case atStart => exact ⟨0, _, _, _, Nat.zero_le _, rfl, rfl, HZ0.out, .nil _, (Below.refl _ _).alloc (Nat.le_refl _) _⟩
  case round =>
    obtain ⟨k, sa, cs, t, hk, rfl, rfl, hsl, hord, hbr⟩ := hrel
    have HSL := Lib.hid hsl
    have HORD := Lib.hid hord
    have HBR := Lib.hid hbr
    clear hsl hord hbr
    by_cases hlt : k < lc
    case neg =>
      have hkl : lc = k := by omega
      subst hkl
      go_wp2
      go_ret
      exact ⟨⟨sa, cs, t, rfl, HSL.out, HORD.out⟩, HTW.out _ HBR.out⟩
    case pos =>
      have n2 : (k : Int) < (lc : Int) := by omega
      have n1 : (0 : Int) ≤ (k : Int) := by omega
      obtain ⟨A, O, hpa, hAl, hnum⟩ := HO.out.resolve_left (by omega)
      subst hpa
      have HK : Hid (∀ w', Below WA.heap.size WA w' → w'.cell? ⟨A, O + k, none⟩ = some (.int .i64 (cl k))) := Lib.hid fun w' h => ((HTW.out w' h).cell (p := ⟨A, O + k, none⟩) hAl).trans (hnum k hlt)
      have HVT := Lib.hid (HORD.out.vd (vd_zero HR.out))
      clear hnum
      go_wp2
      go_loopg [5, 7] ((gap lo U t).toNat + 1) (fun n v mv wz => ∃ (sb : Option Addr) (cb : Nat) (t' : Nat → Int) (b : Bool), v = .slice sb lo cb ∧ mv = .bool b ∧ IntSl wz sb lo t' ∧ Vd f ln lo N U t' ∧ Wd f lo N U (cl k) t t' b ∧ Below WA.heap.size WA wz ∧ gap lo U t' + (if b = true then 1 else 0) ≤ n)
      case atStart =>
        refine ⟨sa, cs, t, true, rfl, rfl, HSL.out, HVT.out, Wd.start _ _, HBR.out, ?_⟩
        have := gap_nonneg HVT.out
        simp
        omega
      case round =>
        obtain ⟨sb, cb, t', b, rfl, rfl, hsl, hvd, hwd, hbz, hgp⟩ := hrel
        have HSLb := Lib.hid hsl
        have HVD := Lib.hid hvd
        have HWD := Lib.hid hwd
        have HBZ := Lib.hid hbz
        have HGP := Lib.hid hgp
        clear hsl hvd hwd hbz hgp
        cases b with
        | false =>
          go_wp2
          go_roundw
          case rel => exact ⟨k + 1, sb, cb, t', by omega, by go_num, rfl, HSLb.out, by rw [upto_succ]; exact HORD.out.snoc (HWD.out.no rfl), HBZ.out⟩
          case measure => simp [intOf]; omega
        | true =>
          obtain ⟨wm, hwm⟩ : ∃ wm, wm = wr := ⟨_, rfl⟩
          subst hwm
          go_wp2
          go_loopw [5, 7, 8] (fun v mv jj wy => ∃ (j : Nat) (sd : Option Addr) (cd : Nat), j ≤ lo ∧ jj = .int .i64 (j : Int) ∧ v = .slice sd lo cd ∧ mv = .bool (decide (0 < (passS f lo N U t' (clsK U (cl k) j)).2.length)) ∧ IntSl wy sd lo (passS f lo N U t' (clsK U (cl k) j)).1 ∧ Below WA.heap.size WA wy) (fun _ _ jj _ => lo - (intOf jj).toNat)
          case atStart => exact ⟨0, sb, cb, Nat.zero_le _, rfl, rfl, rfl, HSLb.out, HBZ.out⟩
          case round =>
            obtain ⟨j, sd, cd, hj, rfl, rfl, rfl, hsd, hby⟩ := hrel
            have HSD := Lib.hid hsd
            have HBY := Lib.hid hby
            clear hsd hby
            obtain ⟨wy, hwy⟩ : ∃ wy, wy = wr := ⟨_, rfl⟩
            subst hwy
            obtain ⟨x1, x2, x3⟩ := HX.out wy HBY.out
            by_cases hjl : j < lo
            case neg =>
              have hjl2 : lo = j := by omega
              subst hjl2
              have HST := Lib.hid (HWD.out.step)
              have HGA := Lib.hid (gap_pass (f := f) (lo := lo) (N := N) (U := U) (classL lo U (cl k)) t' (fun i hi => (classL_mem.1 hi).1))
              have HVP := Lib.hid (pass_vd (f := f) (N := N) (l := classL lo U (cl k)) (fun i hi => (classL_mem.1 hi).1) HVD.out)
              go_wp2
              go_roundg ((gap lo U (passS f lo N U t' (classL lo U (cl k))).1).toNat + (if 0 < (passS f lo N U t' (classL lo U (cl k))).2.length then 1 else 0))
              case measure =>
                have h1 := HGA.out
                have h2 := HGP.out
                have h3 := gap_nonneg HVP.out
                simp at h2
                split <;> omega
              case rel =>
                refine ⟨sd, cd, (passS f lo N U t' (classL lo U (cl k))).1, decide (0 < (passS f lo N U t' (classL lo U (cl k))).2.length), rfl, rfl, HSD.out, HVP.out, HST.out, HBY.out, ?_⟩
                have h3 := gap_nonneg HVP.out
                by_cases e : 0 < (passS f lo N U t' (classL lo U (cl k))).2.length
                · rw [if_pos (by simpa using e), if_pos e]; omega
                · rw [if_neg (by simpa using e), if_neg e]; omega
            case pos =>
              have n3 : (j : Int) < (lo : Int) := by omega
              have n4 : (0 : Int) ≤ (j : Int) := by omega
              have HCJ : Hid (∀ w', Below WA.heap.size WA w' → w'.cell? ⟨w.heap.size, 2, none⟩ = some (.slice (some ⟨C, P, none⟩) lo co) ∧ w'.cell? ⟨A, O + k, none⟩ = some (.int .i64 (cl k)) ∧ w'.cell? ⟨C, P + j * 3 + 2, none⟩ = some (.int .i64 (U j).k) ∧ w'.cell? ⟨C, P + j * 3 + 1, none⟩ = some (.int .i64 (U j).c)) := Lib.hid fun w' h =>
                ⟨(HX.out w' h).2.2, HK.out w' h, (HC.out w' j h hjl).1, (HC.out w' j h hjl).2⟩
              have hvr : Vd f ln lo N U (passS f lo N U t' (clsK U (cl k) j)).1 := pass_vd (fun i hi => by simp [clsK] at hi; omega) HVD.out
              have hsn := pass_snoc (f := f) (lo := lo) (N := N) (U := U) (i := j) (clsK U (cl k) j) t'
              obtain ⟨r, hr⟩ : ∃ r, passS f lo N U t' (clsK U (cl k) j) = r := ⟨_, rfl⟩
              rw [hr] at HSD hvr hsn ⊢
              obtain ⟨G2, O2, hsd, hG2, hn2⟩ := HSD.out.resolve_left (by omega)
              subst hsd
              have HSJ : Hid (∀ w', Below wy.heap.size wy w' → w'.cell? ⟨G2, O2 + j, none⟩ = some (.int .i64 (r.1 j))) := Lib.hid fun w' h => (h.cell (p := ⟨G2, O2 + j, none⟩) hG2).trans (hn2 j hjl)
              have HQ : Hid (∀ w', Below wy.heap.size wy w' → w'.cell? ⟨w.heap.size, 2, none⟩ = some (.slice (some ⟨C, P, none⟩) lo co) ∧ w'.cell? ⟨A, O + k, none⟩ = some (.int .i64 (cl k)) ∧ w'.cell? ⟨C, P + j * 3 + 2, none⟩ = some (.int .i64 (U j).k) ∧ w'.cell? ⟨C, P + j * 3 + 1, none⟩ = some (.int .i64 (U j).c) ∧ w'.cell? ⟨G2, O2 + j, none⟩ = some (.int .i64 (r.1 j))) := Lib.hid fun w' h => by
                obtain ⟨y1, y2, y3, y4⟩ := HCJ.out w' (HBY.out.trans (h.mono HBY.out.size))
                exact ⟨y1, y2, y3, y4, HSJ.out w' h⟩
              have HVR := Lib.hid hvr
              have HSN := Lib.hid hsn
              have HRR := Lib.hid hr
              clear hvr hsn hr hn2
              by_cases hcl : (U j).k = cl k
              case neg =>
                have d1 : ((U j).k == cl k) = false := by simpa using hcl
                have HCL := Lib.hid hcl
                clear hcl
                go_wp2
                refine wp_region_calm (W := wy) (by kernel_rfl) (by kernel_rfl) (Below.refl _ _) ?_
                repeat (first
                  | (refine calm_no (by rfl) ?_
                     (try simp only [Act.put, List.setIfInBounds_toArray, List.set_cons_zero, List.set_cons_succ]))
                  | (apply calm_yes
                     focus rfl
                     focus
                       intro w' hw'
                       obtain ⟨z1, z2, z3, z4, z5⟩ := HQ.out w' (hw')
                       go_simp
                       first
                         | done
                         | with_reducible rfl
                         | fail
                     (try simp only [Act.put, List.setIfInBounds_toArray, List.set_cons_zero, List.set_cons_succ])))
                refine calm_nil ?_
                intro v1 hqv1
                have HBv1 := Lib.hid hqv1
                clear hqv1
                go_wp2
                go_roundw
                case rel => exact ⟨j + 1, _, _, by omega, by go_num, rfl, by rw [clsK_no HCL.out, HRR.out], by rw [clsK_no HCL.out, HRR.out]; exact HSD.out.below HBv1.out, HBY.out.trans (HBv1.out.mono HBY.out.size)⟩
                case measure => simp [intOf]; omega
              case pos =>
                have d1 : ((U j).k == cl k) = true := by simpa using hcl
                have HCL := Lib.hid hcl
                clear hcl
                by_cases hcm : r.1 j < (U j).c
                case neg =>
                  have d2 : decide (r.1 j < (U j).c) = false := decide_eq_false hcm
                  have HNO : Hid (¬ OkP f lo N U r.1 j 1) := Lib.hid fun ho => by have := ho.1; omega
                  clear hcm
                  go_wp2
                  refine wp_region_calm (W := wy) (by kernel_rfl) (by kernel_rfl) (Below.refl _ _) ?_
                  repeat (first
                    | (refine calm_no (by rfl) ?_
                       (try simp only [Act.put, List.setIfInBounds_toArray, List.set_cons_zero, List.set_cons_succ]))
                    | (apply calm_yes
                       focus rfl
                       focus
                         intro w' hw'
                         obtain ⟨z1, z2, z3, z4, z5⟩ := HQ.out w' (hw')
                         go_simp
                         first
                           | done
                           | with_reducible rfl
                           | fail
                       (try simp only [Act.put, List.setIfInBounds_toArray, List.set_cons_zero, List.set_cons_succ])))
                  refine calm_nil ?_
                  intro v1 hqv1
                  have HBv1 := Lib.hid hqv1
                  clear hqv1
                  go_wp2
                  go_roundw
                  case rel =>
                    have e : passS f lo N U t' (clsK U (cl k) (j + 1)) = r := by rw [clsK_yes HCL.out, HSN.out, if_neg HNO.out]
                    exact ⟨j + 1, _, _, by omega, by go_num, rfl, by rw [e], by rw [e]; exact HSD.out.below HBv1.out, HBY.out.trans (HBv1.out.mono HBY.out.size)⟩
                  case measure => simp [intOf]; omega
                case pos =>
                  have d2 : decide (r.1 j < (U j).c) = true := decide_eq_true hcm
                  have HCM := Lib.hid hcm
                  have hbd := HVR.out.bd j hjl
                  have hcd := (tree_o HR.out hjl).2.1
                  clear hcm
                  go_wp2
                  refine wp_region_calm (W := wy) (by kernel_rfl) (by kernel_rfl) (Below.refl _ _) ?_
                  repeat (first
                    | (refine calm_no (by rfl) ?_
                       (try simp only [Act.put, List.setIfInBounds_toArray, List.set_cons_zero, List.set_cons_succ]))
                    | (apply calm_yes
                       focus rfl
                       focus
                         intro w' hw'
                         obtain ⟨z1, z2, z3, z4, z5⟩ := HQ.out w' (hw')
                         go_simp
                         first
                           | done
                           | with_reducible rfl
                           | fail
                       (try simp only [Act.put, List.setIfInBounds_toArray, List.set_cons_zero, List.set_cons_succ])))
                  refine calm_nil ?_
                  intro v1 hqv1
                  have HBv1 := Lib.hid hqv1
                  clear hqv1
                  have HB1 := Lib.hid (HBY.out.trans (HBv1.out.mono HBY.out.size))
                  obtain ⟨y1, y2, y3⟩ := HX.out v1 HB1.out
                  have HMO := Lib.hid (more_w (some ⟨G2, O2, none⟩) lo cd j r.1 v1 hjl (by omega) (by omega) (Lib.hid (HSD.out.below HBv1.out)))
                  have HSP : Hid (SharesP lo lo (put r.1 j 1) U) := Lib.hid ⟨rfl, fun i hi => by
                    have h1 := HVR.out.bd i hi
                    simp only [fromB, decide_eq_true_eq]
                    by_cases e : i = j
                    · subst e; rw [put_same]; have := HCM.out; omega
                    · rw [put_other e]; exact h1⟩
                  have HOK := Lib.hid (okP_iff (c := 1) HR.out HVR.out hjl)
                  clear x1 x2 x3 hbd hcd d1 d2
                  go_wp2_with (first
                    | (go_at_call 75; refine HMO.out.mono ?_; rintro e w5 ⟨⟨G3, c3, rfl, hs3⟩, hb5⟩; have HS3 := Lib.hid hs3; have HB5 := Lib.hid hb5; have HB15 := Lib.hid (HB1.out.trans (hb5.mono HB1.out.size)); obtain ⟨u1, u2, u3⟩ := HX.out w5 HB15.out; clear hs3 hb5)
                    | (go_at_call 19; refine (rfits_w f na (some ⟨C, P, none⟩) (some ⟨G3, 0, none⟩) ln cn lo co c3 N U (put r.1 j 1) w5 HR HSP (Lib.hid (H.out.below (HTW.out _ HB15.out))) HS3).mono ?_; rintro e w6 ⟨⟨rb, rfl, hrb⟩, hb6⟩; have HRB := Lib.hid hrb; have HB6 := Lib.hid hb6; clear hrb hb6; cases hrbv : rb))
                  · have HRV := Lib.hid hrbv
                    clear hrbv
                    go_wp2
                    go_roundw
                    case rel =>
                      have e : passS f lo N U t' (clsK U (cl k) (j + 1)) = r := by
                        rw [clsK_yes HCL.out, HSN.out, if_neg]
                        intro ho
                        have := HRB.out.2 (HOK.out.1 ho).2
                        rw [HRV.out] at this
                        cases this
                      exact ⟨j + 1, _, _, by omega, by go_num, rfl, by rw [e], by rw [e]; exact ((HSD.out.below HBv1.out).below HB5.out).below HB6.out, HB15.out.trans (HB6.out.mono HB15.out.size)⟩
                    case measure => simp [intOf]; omega
                  · have HRV := Lib.hid hrbv
                    clear hrbv
                    go_wp2
                    go_roundw
                    case rel =>
                      have e : passS f lo N U t' (clsK U (cl k) (j + 1)) = (put r.1 j 1, r.2 ++ [j]) := by
                        rw [clsK_yes HCL.out, HSN.out, if_pos (HOK.out.2 ⟨by have := HCM.out; omega, HRB.out.1 HRV.out⟩)]
                      exact ⟨j + 1, _, _, by omega, by go_num, rfl, by rw [e]; simp, by rw [e]; exact HS3.out.below HB6.out, HB15.out.trans (HB6.out.mono HB15.out.size)⟩
                    case measure => simp [intOf]; omega
end Go.Kn
