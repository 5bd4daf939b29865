/- Contracts of functions that the laws of this seat call, or the evaluator of closed calls and its runs. Conditions: as each theorem states them. -/
import Derived.Test.YtpfbfdcpibajoaaGreatDoorHD
import Derived.Test.YtpfbfdcpibajoaaGreatDoorHP
import Derived.Lib.AppendIntMem
set_option linter.unusedVariables false
set_option linter.unusedSimpArgs false
/- Contracts of functions that the laws of this seat call, or the evaluator of closed calls and its runs. Conditions: as each theorem states them. -/
set_option linter.unusedVariables false
set_option linter.unusedSimpArgs false
namespace Go.Kn
open Go Go.Proofs Go.RowKit

def iv (j : Nat) : Value := .int .i64 ((j : Nat) : Int)

theorem owns_frx {X : List Nat} {A B : World} {base e size n : Nat} {v : Value} {xs : List Value} (h : A.ownsRow base e size v n xs) (hf : Frx X A B) (hX : ∀ x ∈ X, x < base) : B.ownsRow base e size v n xs := by
  refine ⟨h.1, ?_⟩
  rcases h.2 with h2 | ⟨g, cap, cur, h1, h2, h3, h4⟩
  · exact .inl h2
  · exact .inr ⟨g, cap, cur, h1, h2, (hf.block g (Array.getElem?_eq_some_iff.1 h3).1 (fun e => by have := hX g e; omega)).trans h3, h4⟩

/-- how many cups are not given out yet -/
def gap (lo : Nat) (U : Nat → O3) (s : Nat → Int) : Int := sm (fun i => (U i).c - s i) lo
theorem gap_put {lo : Nat} {U : Nat → O3} {s : Nat → Int} {i : Nat} (hi : i < lo) : gap lo U (put s i 1) = gap lo U s - 1 := by
  have key : ∀ k, sm (fun j => (U j).c - put s i 1 j) k = sm (fun j => (U j).c - s j) k - (if i < k then 1 else 0) := by
    intro k
    induction k with
    | zero => simp [sm]
    | succ k ih =>
      simp only [sm, ih]
      by_cases e : k = i
      · subst e; rw [put_same]; simp; omega
      · rw [put_other e]
        by_cases h : i < k
        · simp [h, show i < k + 1 by omega]; omega
        · simp [h, show ¬ i < k + 1 by omega]
  unfold gap
  rw [key, if_pos hi]
theorem gap_pass {f : Int} {lo : Nat} {N : Nat → N2} {U : Nat → O3} : ∀ (l : List Nat) (s : Nat → Int), (∀ i ∈ l, i < lo) → gap lo U (passS f lo N U s l).1 + (passS f lo N U s l).2.length = gap lo U s
  | [], s, _ => by simp [passS]
  | i :: l, s, h => by
    by_cases ho : OkP f lo N U s i 1
    · rw [pass_yes ho]
      have := gap_pass (f := f) (N := N) (U := U) l (put s i 1) (fun j hj => h j (List.mem_cons_of_mem _ hj))
      rw [gap_put (h i List.mem_cons_self)] at this
      simp only [List.length_cons]
      omega
    · rw [pass_no ho]; exact gap_pass l s (fun j hj => h j (List.mem_cons_of_mem _ hj))
theorem gap_nonneg {f : Int} {ln lo : Nat} {N : Nat → N2} {U : Nat → O3} {s : Nat → Int} (hv : Vd f ln lo N U s) : 0 ≤ gap lo U s := by
  have := sm_le (g := fun _ => 0) (h := fun i => (U i).c - s i) lo (fun i hi => by have := hv.bd i hi; omega)
  rw [sm_zero lo (fun _ _ => rfl)] at this
  exact this

/-- the outlets of a class among the first ones -/
def clsK (U : Nat → O3) (c : Int) (k : Nat) : List Nat := (List.range k).filter (fun i => decide ((U i).k = c))
theorem clsK_yes {U : Nat → O3} {c : Int} {k : Nat} (h : (U k).k = c) : clsK U c (k + 1) = clsK U c k ++ [k] := by simp [clsK, List.range_succ, h]
theorem clsK_no {U : Nat → O3} {c : Int} {k : Nat} (h : ¬ (U k).k = c) : clsK U c (k + 1) = clsK U c k := by simp [clsK, List.range_succ, h]
theorem clsK_len (U : Nat → O3) (c : Int) (k : Nat) : (clsK U c k).length ≤ k := Nat.le_trans (List.length_filter_le _ _) (by simp)

theorem SvS.belowN {w w1 : World} {n sv SH FL : Nat} {f : Int} {na oa : Option Addr} {ln cn lo co cs cf : Nat} {N : Nat → N2} {U : Nat → O3} {s : Nat → Int} (h : SvS w sv SH FL f na oa ln cn lo co cs cf N U s) (hb : Below n w w1) (h1 : sv < n) (h2 : SH < n) (h3 : FL < n) : SvS w1 sv SH FL f na oa ln cn lo co cs cf N U s := by
  have h := h.at_
  have hs := hb.size
  have c1 : ∀ b o, b < n → w1.cell? ⟨b, o, none⟩ = w.cell? ⟨b, o, none⟩ := fun b o h => hb.cell (p := ⟨b, o, none⟩) h
  have c2 : ∀ b o, b < n → w1.frozen? ⟨b, o, none⟩ = w.frozen? ⟨b, o, none⟩ := fun b o h => hb.frozen (p := ⟨b, o, none⟩) h
  exact ⟨(c1 _ _ h1).trans h.c0, (c1 _ _ h1).trans h.c1, (c1 _ _ h1).trans h.c2, (c1 _ _ h1).trans h.c3, (c1 _ _ h1).trans h.c4, fun j hj => ⟨(c1 _ _ h2).trans (h.sh j hj).1, (c2 _ _ h2).trans (h.sh j hj).2⟩, fun j hj => ⟨(c1 _ _ h3).trans (h.fw j hj).1, (c2 _ _ h3).trans (h.fw j hj).2⟩, by have := h.bs; omega, by have := h.bh; omega, by have := h.bf; omega, h.e1, h.e2, h.e3⟩

set_option maxRecDepth 100000 in
set_option maxHeartbeats 4000000 in
theorem serve_w (f : Int) (na oa : Option Addr) (ln cn lo co cs cf sv SH FL : Nat) (c : Int) (N : Nat → N2) (U : Nat → O3) (s : Nat → Int) (w0 W : World) (T : Hid (Tre f na oa ln lo sv SH FL N U w0)) (hb : Below w0.heap.size w0 W)
    (hv : Hid (Vd f ln lo N U s)) (H : Hid (SvS W sv SH FL f na oa ln cn lo co cs cf N U s)) :
    Calls Tryz.prog 122 #[.pointer (some ⟨sv, 0, none⟩), .int .i64 c] W fun e W' => e = .returned (.tuple #[]) ∧ Frx [SH, FL] W W' ∧ ∃ t, Served f lo N U s (classL lo U c) t ∧ SvS W' sv SH FL f na oa ln cn lo co cs cf N U t := by
  have hmf : ∀ (fn : Fn) (first cap : Array Value) (w : World), (Instr.makeFunc fn first cap).run Tryz.prog w = .ok (.func fn first cap) w := fun _ _ _ _ => rfl
  have q1 := T.out.HR.l6
  have q2 := T.out.HR.lo2
  obtain ⟨i0, hi0, hz0, hz1, hz2⟩ := info_parts info3'
  obtain ⟨C, P, hoa, hC, hcells⟩ := T.out.HT.ho.resolve_left (by have := T.out.HR.lo1; omega)
  subst hoa
  obtain ⟨WA, hWA⟩ : ∃ WA, WA = W.alloc (.cells #[.pointer (some ⟨sv, 0, none⟩)] 90) := ⟨_, rfl⟩
  have hA : Below W.heap.size W WA := by rw [hWA]; exact (Below.refl _ _).alloc (Nat.le_refl _) _
  have hzA : WA.heap.size = W.heap.size + 1 := by rw [hWA]; simp
  have hbA : Boxed WA W.heap.size 90 (.pointer (some ⟨sv, 0, none⟩)) := by rw [hWA]; exact Boxed.new W 90 _
  have hb0A : Below w0.heap.size w0 WA := hb.trans (hA.mono hb.size)
  have SA := H.out.below hA
  have HX : Hid (∀ w', Frx [SH, FL] WA w' → w'.cell? ⟨W.heap.size, 0, none⟩ = some (.pointer (some ⟨sv, 0, none⟩)) ∧ Below w0.heap.size w0 w') := Lib.hid fun w' h => by
    have := H.out.at_.bh
    have := H.out.at_.bf
    exact ⟨(h.cell (by omega) (by simp; omega)).trans hbA.cell, hb0A.trans (h.below hb0A.size (by have := T.out.h2; have := T.out.h3; simp; omega))⟩
  have HO : Hid (∀ w' k, Below w0.heap.size w0 w' → k < lo → w'.cell? ⟨C, P + k * 3 + 2, none⟩ = some (.int .i64 (U k).k)) := Lib.hid fun w' k h hk => (h.cell (p := ⟨C, P + k * 3 + 2, none⟩) hC).trans (hcells k hk).2.2
  have HSA := Lib.hid SA
  have HA := Lib.hid hA
  have HZA := Lib.hid hzA
  have HBD : Hid (SH < W.heap.size ∧ FL < W.heap.size ∧ sv < W.heap.size) := Lib.hid ⟨H.out.at_.bh, H.out.at_.bf, H.out.at_.bs⟩
  clear hcells hA hbA hb0A SA hb
  go_enter Tryz.func122, Tryz.ntmps122
  have x1 : (W.alloc (.cells #[.pointer (some ⟨sv, 0, none⟩)] 90)).cell? ⟨sv, 2, none⟩ = some (.slice (some ⟨C, P, none⟩) lo co) := by rw [← hWA]; exact HSA.out.at_.c2
  go_wp2
  rw [← hWA]
  clear x1 hWA hzA
  go_loopw [5, 17] (fun v ii wr => ∃ k : Nat, k ≤ lo ∧ ii = .int .i64 (k : Int) ∧ wr.ownsRow (W.heap.size + 1) 3 1 v (clsK U c k).length ((clsK U c k).map iv) ∧ Below (W.heap.size + 1) WA wr) (fun _ ii _ => lo - (intOf ii).toNat)
  case atStart => exact ⟨0, Nat.zero_le _, rfl, ⟨rfl, .inl ⟨rfl, rfl⟩⟩, Below.refl _ _⟩
  case round =>
    obtain ⟨k, hk, rfl, hown, hbw⟩ := hrel
    have hbA : Below WA.heap.size WA wr := by rw [HZA.out]; exact hbw
    obtain ⟨x0, hb0⟩ := HX.out wr (Frx.of_below hbA)
    have x1 := (HSA.out.below hbA).at_.c2
    have HOW := Lib.hid hown
    have HBW := Lib.hid hbw
    by_cases hlt : k < lo
    · have x2 := HO.out wr k hb0 hlt
      have n1 : (0 : Int) ≤ (k : Int) := by omega
      have n2 : (k : Int) < (lo : Int) := by omega
      have hl := clsK_len U c k
      obtain ⟨m, hm⟩ : ∃ m, (clsK U c k).length = m := ⟨_, rfl⟩
      rw [hm] at HOW hl
      have HM := Lib.hid hm
      clear hown hbw hbA hb0 hm
      have hsz : W.heap.size + 1 ≤ wr.heap.size := by have := HBW.out.size; have := HZA.out; omega
      by_cases hcl : (U k).k = c
      · have hd : ((U k).k == c) = true := by simpa using hcl
        have HCL := Lib.hid hcl
        clear hcl
        go_wp2_with (at_builtin; refine wpList_append_own_at _ rfl (.tmp 31) (.tmp 33) 26 rfl (W.heap.size + 1) 3 i0 (.int .i64 0) 1 8 Tryz.underlying26 hi0 hz0 hz1 hz2 rfl (by decide) _ m _ rfl (HOW.out.alloc _) ⟨_, 0, none⟩ 1 1 [.int .i64 (k : Int)] rfl rfl (lies_any (by first | exact al_top rfl _ _ | exact al_top (by simp) _ _)) (by intro u hu; simp at hu; subst hu; rfl) (by unfold maxLen; omega) (by omega) (by simp; omega) ?_; intro v7 w7 hown7 hgrow7 _ hloc7)
        go_roundw
        case rel => exact ⟨k + 1, by omega, by go_num, by rw [clsK_yes HCL.out, List.length_append, List.map_append, HM.out]; exact hown7, (HBW.out.alloc hsz _).grown hgrow7 (by simp; omega) (fun r e => by have := own_ge HOW.out r e; omega)⟩
        case measure => simp [intOf]; omega
      · have hd : ((U k).k == c) = false := by simpa using hcl
        have HCL := Lib.hid hcl
        clear hcl
        go_wp2
        go_roundw
        case rel => exact ⟨k + 1, by omega, by go_num, by rw [clsK_no HCL.out, HM.out]; exact HOW.out, HBW.out⟩
        case measure => simp [intOf]; omega
    · clear hown hbw hb0 x0 x1
      have hkl : lo = k := by omega
      subst hkl
      go_wp2
      go_loopg [5] ((gap lo U s).toNat + (clsK U c lo).length) (fun n v wq => ∃ (s' : Nat → Int) (L : List Nat), wq.ownsRow (W.heap.size + 1) 3 1 v L.length (L.map iv) ∧ Frx [SH, FL] WA wq ∧ SvS wq sv SH FL f na (some ⟨C, P, none⟩) ln cn lo co cs cf N U s' ∧ Vd f ln lo N U s' ∧ (∀ i ∈ L, i < lo) ∧ (∀ t, Served f lo N U s' L t → Served f lo N U s (classL lo U c) t) ∧ gap lo U s' + L.length ≤ n ∧ L.length ≤ 8)
      case atStart =>
        have hbA : Below WA.heap.size WA wr := by rw [HZA.out]; exact HBW.out
        refine ⟨s, clsK U c lo, HOW.out, Frx.of_below hbA, HSA.out.below hbA, hv.out, fun i hi => ?_, fun t h => h, ?_⟩
        · simp [clsK] at hi; exact hi.1
        · have := gap_nonneg hv.out
          exact ⟨by omega, Nat.le_trans (clsK_len U c lo) q2⟩
      case round =>
        obtain ⟨s', L, hoL, hfr, hsv, hvd, hlt', hser, hgap, hl8⟩ := hrel
        have HOL := Lib.hid hoL
        have HFR := Lib.hid hfr
        have HSV := Lib.hid hsv
        have HVD := Lib.hid hvd
        have HLT := Lib.hid hlt'
        have HSER := Lib.hid hser
        have HGAP := Lib.hid hgap
        by_cases hL : L = []
        · obtain ⟨sa, cap, hv5, _, _⟩ := intSl_of_owns (xs := []) (by rw [hL] at hoL; exact hoL)
          subst hv5
          have HL := Lib.hid hL
          clear hoL hfr hsv hvd hlt' hser hgap hL
          go_wp2
          go_end0
          have hfA := (Frx.of_below (X := [SH, FL]) HA.out).trans HFR.out
          have hS := HSER.out s' (by rw [HL.out]; exact .done _)
          exact ⟨rfl, hfA, s', hS, HSV.out⟩
        · obtain ⟨m, hm⟩ : ∃ m, L.length = m := ⟨_, rfl⟩
          have hm0 : m ≠ 0 := fun e => hL (List.length_eq_zero_iff.1 (by rw [hm]; exact e))
          rw [hm] at hoL
          obtain ⟨G, cap, hv5, hcap, hG1, hG2, hcl⟩ := vals_of_owns hoL hm0
          have hm1 : (0 : Int) < (m : Int) := by omega
          have hm2 : 0 < m := by omega
          have hm8 : m ≤ 8 := by omega
          have HM := Lib.hid hm
          have HCL := Lib.hid hcl
          have HNE := Lib.hid hL
          have HG := Lib.hid (And.intro hG1 hG2)
          have HM0 := Lib.hid hm0
          clear hoL hfr hsv hvd hlt' hser hgap hm hL hcl hG1 hG2 hcap hm0
          subst hv5
          obtain ⟨wm, hwm⟩ : ∃ wm, wm = wr := ⟨_, rfl⟩
          subst hwm
          go_wp2
          go_loopw [7, 41] (fun g ii wz => ∃ k : Nat, k ≤ m ∧ ii = .int .i64 (k : Int) ∧ wz.ownsRow wm.heap.size 3 1 g (passS f lo N U s' (L.take k)).2.length ((passS f lo N U s' (L.take k)).2.map iv) ∧ Frx [SH, FL] wm wz ∧ SvS wz sv SH FL f na (some ⟨C, P, none⟩) ln cn lo co cs cf N U (passS f lo N U s' (L.take k)).1) (fun _ ii _ => m - (intOf ii).toNat)
          case atStart => exact ⟨0, Nat.zero_le _, rfl, ⟨rfl, .inl ⟨rfl, rfl⟩⟩, Frx.refl _ _, HSV.out⟩
          case round =>
            obtain ⟨k, hk, rfl, hog, hfz, hsz⟩ := hrel
            have HOG := Lib.hid hog
            have HFZ := Lib.hid hfz
            have HSZ := Lib.hid hsz
            clear hog hfz hsz
            by_cases hkm : k < m
            · obtain ⟨x, hx⟩ : ∃ x, L[k]? = some x := ⟨L[k]'(by rw [HM.out]; exact hkm), by simp⟩
              have hbd := HBD.out
              have hgg := HG.out
              have hfm := HFR.out.size
              have hza := HZA.out
              have hcx : wr.cell? ⟨G, k, none⟩ = some (.int .i64 (x : Int)) := (HFZ.out.cell hgg.2 (by simp; omega)).trans (HCL.out k (iv x) (by rw [List.getElem?_map, hx]; rfl))
              have htk : L.take (k + 1) = L.take k ++ [x] := by rw [List.take_add_one, hx]; rfl
              have hxl : x < lo := HLT.out x (List.mem_of_getElem? hx)
              have hsub : ∀ i ∈ L.take k, i < lo := fun i hi => HLT.out i (List.mem_of_mem_take hi)
              obtain ⟨x0, hb0⟩ := HX.out wr (HFR.out.trans HFZ.out)
              have HRA := Lib.hid (raise_w f na (some ⟨C, P, none⟩) ln cn lo co cs cf sv SH FL x W.heap.size N U (passS f lo N U s' (L.take k)).1 w0 wr T hb0 hxl (Lib.hid (pass_vd hsub HVD.out)) HSZ x0)
              have hsn := pass_snoc (f := f) (lo := lo) (N := N) (U := U) (i := x) (L.take k) s'
              rw [← htk] at hsn
              have hlen : (passS f lo N U s' (L.take k)).2.length ≤ 8 := by
                have h1 := (pass_sub (f := f) (lo := lo) (N := N) (U := U) (L.take k) s').length_le
                have h2 := gap_nonneg HVD.out
                have h3 := HGAP.out
                have h4 : (L.take k).length ≤ k := by simp; omega
                have h5 := hl8
                have h6 := HM.out
                omega
              obtain ⟨r, hr⟩ : ∃ r, passS f lo N U s' (L.take k) = r := ⟨_, rfl⟩
              rw [hr] at HOG HSZ HRA hsn hlen
              obtain ⟨gl, hgl⟩ : ∃ gl, r.2.length = gl := ⟨_, rfl⟩
              rw [hgl] at HOG hlen
              have HGL := Lib.hid hgl
              have HSN := Lib.hid hsn
              have n1 : (0 : Int) ≤ (k : Int) := by omega
              have n2 : (k : Int) < (m : Int) := by omega
              have HSM : Hid (SH < wm.heap.size ∧ FL < wm.heap.size) := Lib.hid ⟨by omega, by omega⟩
              clear hsn hgl hr hsub hxl htk hx hb0 hbd hgg hfm hza
              go_wp2_with (first
                | (go_at_call 150; refine HRA.out.mono ?_; rintro e w9 ⟨hf9, hcase⟩; have HF9 := Lib.hid hf9; clear hf9; rcases hcase with ⟨rfl, ho, hs⟩ | ⟨rfl, ho, hs⟩ <;> (have HO9 := Lib.hid ho; have HS9 := Lib.hid hs; clear ho hs))
                | (at_builtin; refine wpList_append_own_at _ rfl (.tmp 48) (.tmp 50) 26 rfl wm.heap.size 3 i0 (.int .i64 0) 1 8 Tryz.underlying26 hi0 hz0 hz1 hz2 rfl (by decide) _ gl _ rfl ((owns_frx HOG.out HF9.out (by have := HSM.out; simp; omega)).alloc _) ⟨_, 0, none⟩ 1 1 [.int .i64 (x : Int)] rfl rfl (lies_any (by first | exact al_top rfl _ _ | exact al_top (by simp) _ _)) (by intro u hu; simp at hu; subst hu; rfl) (by unfold maxLen; omega) (by omega) (by have e1 := HFZ.out.size; have e2 := HF9.out.size; simp; omega) ?_; intro v7 w7 hown7 hgrow7 _ hloc7))
              · go_roundw
                case rel =>
                  have e1 := HFZ.out.size
                  have e2 := HF9.out.size
                  have hp : passS f lo N U s' (L.take (k + 1)) = (put r.1 x 1, r.2 ++ [x]) := by rw [HSN.out, if_pos HO9.out]
                  refine ⟨k + 1, by omega, by go_num, ?_, ?_, ?_⟩
                  · rw [hp]; simp only [List.length_append, List.map_append, HGL.out]; exact hown7
                  · refine (HFZ.out.trans HF9.out).then_below ?_
                    exact (((Below.refl _ _).alloc (by omega) _).grown hgrow7 (by simp; omega) (fun r e => by have := own_ge HOG.out r e; omega))
                  · rw [hp]
                    have hbw9 : Below wm.heap.size w9 w7 := ((Below.refl _ _).alloc (by omega) _).grown hgrow7 (by simp; omega) (fun r e => by have := own_ge HOG.out r e; omega)
                    have hsm := HSM.out
                    have hsv := T.out
                    exact SvS.belowN HS9.out hbw9 (by have := HBD.out; have := HFR.out.size; have := HZA.out; omega) hsm.1 hsm.2
                case measure => simp [intOf]; omega
              · go_roundw
                case rel =>
                  have hp : passS f lo N U s' (L.take (k + 1)) = r := by rw [HSN.out, if_neg HO9.out]
                  refine ⟨k + 1, by omega, by go_num, ?_, HFZ.out.trans HF9.out, ?_⟩
                  · rw [hp, HGL.out]; exact owns_frx HOG.out HF9.out (by have := HSM.out; simp; omega)
                  · rw [hp]; exact HS9.out
                case measure => simp [intOf]; omega
            · obtain rfl : k = m := by omega
              have htk : L.take k = L := by rw [← HM.out]; exact List.take_length
              rw [htk] at HOG HSZ
              go_wp2
              go_roundg ((gap lo U s').toNat)
              case measure =>
                have h2 := gap_nonneg HVD.out
                have h3 := HGAP.out
                have h4 := HM.out
                have h5 := HM0.out
                omega
              case rel =>
                have h2 := gap_nonneg HVD.out
                have hgp := gap_pass (f := f) (lo := lo) (N := N) (U := U) L s' HLT.out
                have hbd := HBD.out
                have hgg := HG.out
                have hfm := HFR.out.size
                have hza := HZA.out
                refine ⟨(passS f lo N U s' L).1, (passS f lo N U s' L).2, own_base HOG.out (by omega), HFR.out.trans HFZ.out, HSZ.out, pass_vd HLT.out HVD.out, fun i hi => HLT.out i ((pass_sub L s').subset hi), fun t h => HSER.out t (.next _ _ _ HNE.out h), by omega, Nat.le_trans (pass_sub L s').length_le hl8⟩
end Go.Kn
