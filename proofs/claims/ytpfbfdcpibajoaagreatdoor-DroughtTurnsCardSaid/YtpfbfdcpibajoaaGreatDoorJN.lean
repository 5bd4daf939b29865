/- Contracts of functions that the laws of this seat call, or the evaluator of closed calls and its runs. Conditions: as each theorem states them. -/
import Derived.Test.YtpfbfdcpibajoaaGreatDoorJM
set_option linter.unusedVariables false
set_option linter.unusedSimpArgs false
namespace Go.Kn
open Go Go.Proofs Go.RowKit

/-- on how many days each outlet ran -/
noncomputable def ranF (f : Int) (lo : Nat) (N : Nat → N2) (U : Nat → O3) : Nat → Nat → Int
  | 0 => fun _ => 0
  | d + 1 => fun i => ranF f lo N U d i + (if i ∈ dayL f lo N U (ranF f lo N U d) then 1 else 0)
/-- a day of the plan of turns -/
noncomputable def turnD (f : Int) (lo : Nat) (N : Nat → N2) (U : Nat → O3) (d : Nat) : List Nat := dayL f lo N U (ranF f lo N U d)
theorem ranF_bd (f : Int) (lo : Nat) (N : Nat → N2) (U : Nat → O3) : ∀ (d i : Nat), 0 ≤ ranF f lo N U d i ∧ ranF f lo N U d i ≤ (d : Int)
  | 0, i => by simp [ranF]
  | d + 1, i => by
    have := ranF_bd f lo N U d i
    simp only [ranF]
    split <;> omega
theorem dayL_lt {f : Int} {lo : Nat} {N : Nat → N2} {U : Nat → O3} {r : Nat → Int} {y : Nat} (h : y ∈ dayL f lo N U r) : y < lo := List.mem_range.1 (List.mem_filter.1 h).1
theorem dayL_nd {f : Int} {lo : Nat} {N : Nat → N2} {U : Nat → O3} {r : Nat → Int} : (dayL f lo N U r).Nodup := List.Nodup.sublist List.filter_sublist List.nodup_range
theorem dayL_len {f : Int} {lo : Nat} {N : Nat → N2} {U : Nat → O3} {r : Nat → Int} : (dayL f lo N U r).length ≤ lo := by
  have := List.length_filter_le (fun i => getB (grd f lo N U (ordL U r lo)).2 i) (List.range lo)
  simpa [dayL] using this
def ranK (s : Nat → Int) (l : List Nat) : Nat → Int := fun i => s i + (if i ∈ l then 1 else 0)
theorem ranK_next {s : Nat → Int} {l : List Nat} {i : Nat} (h : i ∉ l) (j : Nat) : updI (ranK s l) i (ranK s l i + 1) j = ranK s (l ++ [i]) j := by
  unfold updI ranK
  by_cases e : j = i
  · subst e; rw [if_pos rfl, if_neg h, if_pos (by simp)]; omega
  · rw [if_neg e]
    by_cases hj : j ∈ l
    · rw [if_pos hj, if_pos (by simp [hj])]
    · rw [if_neg hj, if_neg (by simp [hj, e])]
theorem IntSl.frx {w w1 : World} {X : List Nat} {a : Option Addr} {n : Nat} {s : Nat → Int} (h : IntSl w a n s) (hf : Frx X w w1) (hs : n ≠ 0 → ∀ b o, a = some ⟨b, o, none⟩ → b ∉ X) : IntSl w1 a n s := by
  by_cases h0 : n = 0
  · exact .inl h0
  · obtain ⟨A, O, rfl, hA, hn⟩ := h.resolve_left h0
    exact .inr ⟨A, O, rfl, Nat.lt_of_lt_of_le hA hf.size, fun i hi => (hf.cell hA (hs h0 A O rfl)).trans (hn i hi)⟩
theorem OutSl.frx {w w1 : World} {X : List Nat} {base d : Nat} {v : Value} {E : Nat → Dy} (h : OutSl w base v d E) (hf : Frx X w w1) (h1 : ∀ x ∈ X, x < base) (h2 : ∀ x, x < d → (E x).n ≠ 0 → ∀ b o, (E x).a = some ⟨b, o, none⟩ → b ∉ X) : OutSl w1 base v d E :=
  ⟨owns_frx h.own hf h1, fun x hx => (h.day x hx).frx hf (h2 x hx), h.sep⟩
/-- the days of a plan of turns -/
structure TurE (f : Int) (lo : Nat) (N : Nat → N2) (U : Nat → O3) (d B : Nat) (E : Nat → Dy) : Prop where
  n : ∀ x, x < d → (E x).n = (turnD f lo N U x).length
  s : ∀ x, x < d → (E x).s = lgI (turnD f lo N U x)
  far : ∀ x, x < d → (E x).n ≠ 0 → ∀ b o, (E x).a = some ⟨b, o, none⟩ → B ≤ b
theorem TurE.push {f : Int} {lo : Nat} {N : Nat → N2} {U : Nat → O3} {d B : Nat} {E : Nat → Dy} {y : Dy} (h : TurE f lo N U d B E) (h1 : y.n = (turnD f lo N U d).length) (h2 : y.s = lgI (turnD f lo N U d)) (h3 : y.n ≠ 0 → ∀ b o, y.a = some ⟨b, o, none⟩ → B ≤ b) : TurE f lo N U (d + 1) B (cons1 E d y) := by
  refine ⟨fun x hx => ?_, fun x hx => ?_, fun x hx => ?_⟩ <;> (by_cases e : x = d)
  · subst e; rw [cons1_new]; exact h1
  · rw [cons1_old (by omega)]; exact h.n x (by omega)
  · subst e; rw [cons1_new]; exact h2
  · rw [cons1_old (by omega)]; exact h.s x (by omega)
  · subst e; rw [cons1_new]; exact h3
  · rw [cons1_old (by omega)]; exact h.far x (by omega)
end Go.Kn

namespace Go.Kn
open Go Go.Proofs Go.RowKit

set_option maxRecDepth 100000 in
set_option maxHeartbeats 4000000 in
theorem turns_w (f : Int) (na oa : Option Addr) (ln cn lo co days : Nat) (N : Nat → N2) (U : Nat → O3) (w : World) (hdy : days ≤ 10) (HR : Hid (TreeS f ln lo N U)) (H : Hid (Tr7 w na oa ln lo N U)) :
    Calls Tryz.prog 42 #[.agg #[.int .i64 f, .slice na ln cn, .slice oa lo co], .int .i64 (days : Int)] w fun e w' => (∃ oo cc E, e = .returned (.tuple #[.slice oo days cc, .int .i64 0]) ∧ PlSl w' oo days E ∧ TurE f lo N U days w.heap.size E ∧ days ≤ cc) ∧ Below w.heap.size w w' := by
  obtain ⟨i0, hi0, hz0, hz1, hz2⟩ := info_parts info26
  have q1 := HR.out.l6
  have q2 := HR.out.lo2
  have hm1 := fun w' => mk_w lo (by omega) w'
  have BX := Lib.hid (fun (w1 : World) (hb : Below (w.alloc (.cells #[.int .i64 f, .slice na ln cn, .slice oa lo co] 25)).heap.size (w.alloc (.cells #[.int .i64 f, .slice na ln cn, .slice oa lo co] 25)) w1) => box7 hb)
  have HN : Hid (∀ w1, Below (w.alloc (.cells #[.int .i64 f, .slice na ln cn, .slice oa lo co] 25)).heap.size (w.alloc (.cells #[.int .i64 f, .slice na ln cn, .slice oa lo co] 25)) w1 → Hid (Tr7 w1 na oa ln lo N U)) := Lib.hid fun w1 h => Lib.hid (H.out.below (below_al h))
  have hb : Below (w.alloc (.cells #[.int .i64 f, .slice na ln cn, .slice oa lo co] 25)).heap.size (w.alloc (.cells #[.int .i64 f, .slice na ln cn, .slice oa lo co] 25)) (w.alloc (.cells #[.int .i64 f, .slice na ln cn, .slice oa lo co] 25)) := Below.refl _ _
  obtain ⟨x1, x2, x3, x4⟩ := BX.out _ hb
  have hfr : fromB 0 10 (days : Int) = true := by simp only [fromB, decide_eq_true_eq]; omega
  have HFR := Lib.hid hfr
  clear H hfr
  go_enter Tryz.func42, Tryz.ntmps42
  go_wp2_with (first
    | (go_at_call 62; refine (isTree_w f na oa ln cn lo co N U _ (by omega) (by omega) (HN.out _ hb)).mono ?_; rintro e wl ⟨⟨rb, rfl, hrb⟩, hv⟩; obtain rfl : rb = true := hrb.2 HR.out; clear hrb; replace hb := hb.trans (hv.mono hb.size); clear x1 x2 x3 x4; obtain ⟨x1, x2, x3, x4⟩ := BX.out _ hb)
    | (go_at_call 91; refine (isFrom_w _ _ _ _).mono ?_; rw [HFR.out]; rintro e w5 ⟨rfl, rfl⟩))
  obtain ⟨W1, hW1⟩ : ∃ W1, W1 = wl.alloc (.cells (zc lo) 3) := ⟨_, rfl⟩
  have hb1 : Below wl.heap.size wl W1 := by rw [hW1]; exact (Below.refl _ _).alloc (Nat.le_refl _) _
  have hz1' : W1.heap.size = wl.heap.size + 1 := by rw [hW1]; simp
  have HO0 : Hid (IntOwn W1 wl.heap.size wl.heap.size lo (ranF f lo N U 0)) := Lib.hid (by
    rw [hW1]
    have hc := fun i (hi : i < lo) => zc_cell wl hi
    exact ⟨Nat.le_refl _, by simp, fun i hi => by rw [Nat.zero_add]; exact (hc i hi).1, fun i hi => (hc i hi).2⟩)
  have HBL := Lib.hid hb
  have HB1 := Lib.hid hb1
  have HZ1 := Lib.hid hz1'
  have hwl := x4
  rw [← hW1]
  clear hW1 hb hb1 hz1' x1 x2 x3 x4 hm1
  go_loopw [7, 24] (fun v ii wr => ∃ (d : Nat) (E : Nat → Dy), d ≤ days ∧ ii = .int .i64 (d : Int) ∧ OutSl wr W1.heap.size v d E ∧ TurE f lo N U d W1.heap.size E ∧ IntOwn wr wl.heap.size wl.heap.size lo (ranF f lo N U d) ∧ Below wl.heap.size wl wr ∧ W1.heap.size ≤ wr.heap.size) (fun _ ii _ => days - (Go.RowKit.intOf ii).toNat)
  case atStart => exact ⟨0, fun _ => ⟨none, 0, 0, fun _ => 0⟩, Nat.zero_le _, rfl, ⟨⟨rfl, .inl ⟨rfl, rfl⟩⟩, fun x hx => by omega, fun x hx => by omega⟩, ⟨fun x hx => by omega, fun x hx => by omega, fun x hx => by omega⟩, HO0.out, HB1.out, Nat.le_refl _⟩
  case round =>
    obtain ⟨d, E, hd, rfl, hout, htu, how, hbr, hws⟩ := hrel
    have HOUT := Lib.hid hout
    have HTU := Lib.hid htu
    have HOW := Lib.hid how
    have HBR := Lib.hid hbr
    obtain ⟨w9, hw9⟩ : ∃ w9, w9 = wr := ⟨_, rfl⟩
    subst hw9
    have HBA : Hid (∀ w2, Below w9.heap.size w9 w2 → Below (w.alloc (.cells #[.int .i64 f, .slice na ln cn, .slice oa lo co] 25)).heap.size (w.alloc (.cells #[.int .i64 f, .slice na ln cn, .slice oa lo co] 25)) w2) := Lib.hid fun w2 h => by
      have h1 := HBR.out.trans (h.mono HBR.out.size)
      exact HBL.out.trans (h1.mono HBL.out.size)
    obtain ⟨x1, x2, x3, x4⟩ := BX.out _ (HBA.out w9 (Below.refl _ _))
    have hz9 := hbr.size
    clear hout htu how hbr
    by_cases hlt : d < days
    · have n1 : (0 : Int) ≤ (d : Int) := by omega
      have n2 : (d : Int) < (days : Int) := by omega
      have HND := Lib.hid (nextDay_w f na oa (some ⟨wl.heap.size, 0, none⟩) ln cn lo co lo N U (ranF f lo N U d) w9 (Lib.hid HR.out.w) (HN.out _ (HBA.out w9 (Below.refl _ _))) (Lib.hid (.inr ⟨wl.heap.size, 0, rfl, HOW.out.lt, HOW.out.at_⟩)))
      go_wp2_with (go_at_call 92; refine HND.out.mono ?_; rintro e w5 ⟨⟨v8, rfl, how8⟩, hv5⟩; obtain ⟨sa, cc, rfl, hsl, hge⟩ := dayNew how8; have HSL := Lib.hid hsl; have HGE := Lib.hid hge; have HV5 := Lib.hid hv5; clear how8 hsl hge hv5 x1 x2 x3 x4)
      obtain ⟨l, hl⟩ : ∃ l, dayL f lo N U (ranF f lo N U d) = l := ⟨_, rfl⟩
      have HLT : Hid (∀ y ∈ l, y < lo) := Lib.hid fun y hy => dayL_lt (by rw [hl]; exact hy)
      have HDN : Hid l.Nodup := Lib.hid (by rw [← hl]; exact dayL_nd)
      have hl8 : l.length ≤ 8 := by rw [← hl]; have := dayL_len (f := f) (lo := lo) (N := N) (U := U) (r := ranF f lo N U d); omega
      have HLL := Lib.hid hl
      rw [hl] at HSL ⊢
      obtain ⟨m, hm⟩ : ∃ m, l.length = m := ⟨_, rfl⟩
      rw [hm] at HSL hl8 ⊢
      have HM := Lib.hid hm
      clear hl hm
      go_loopw [31] (fun ii wr => ∃ k : Nat, k ≤ m ∧ ii = .int .i64 (k : Int) ∧ Frx [wl.heap.size] w5 wr ∧ IntOwn wr wl.heap.size wl.heap.size lo (ranK (ranF f lo N U d) (l.take k))) (fun ii _ => m - (Go.RowKit.intOf ii).toNat)
      case atStart => exact ⟨0, Nat.zero_le _, rfl, Frx.refl _ _, (HOW.out.below HV5.out).congr fun i _ => by simp [ranK]⟩
      case round =>
        obtain ⟨k, hk, rfl, hf, how⟩ := hrel
        have HF := Lib.hid hf
        have HO := Lib.hid how
        clear hf how
        by_cases hlt2 : k < m
        · have hkl : k < l.length := by have := HM.out; omega
          obtain ⟨i, hi⟩ : ∃ i, l[k] = i := ⟨_, rfl⟩
          have hil : i < lo := HLT.out i (by rw [← hi]; exact List.getElem_mem _)
          have HNK : Hid (i ∉ l.take k) := Lib.hid (by rw [← hi]; exact take_new HDN.out hkl)
          have HTK : Hid (l.take (k + 1) = l.take k ++ [i]) := Lib.hid (by rw [List.take_add_one, List.getElem?_eq_getElem hkl, hi]; rfl)
          obtain ⟨A, O, rfl, hA5, hN5⟩ := HSL.out.resolve_left (by omega)
          have hAB := HGE.out A O rfl
          have z5 := HV5.out.size
          have y1 : wr.cell? ⟨A, O + k, none⟩ = some (.int .i64 (i : Int)) := by
            rw [HF.out.cell hA5 (by have := HZ1.out; simp; omega), hN5 k hlt2]
            simp [hkl, hi]
          have y2 := HO.out.at_ i hil
          have y3 := HO.out.fr i hil
          rw [Nat.zero_add] at y2
          have hbd : 0 ≤ ranK (ranF f lo N U d) (l.take k) i ∧ ranK (ranF f lo N U d) (l.take k) i ≤ 20 := by
            have := ranF_bd f lo N U d i
            unfold ranK
            split <;> omega
          obtain ⟨z, hz⟩ : ∃ z, ranK (ranF f lo N U d) (l.take k) i = z := ⟨_, rfl⟩
          have HZZ := Lib.hid hz
          rw [hz] at y2 hbd
          have n3 : (0 : Int) ≤ (k : Int) := by omega
          have n4 : (k : Int) < (m : Int) := by omega
          have n5 : (0 : Int) ≤ (i : Int) := by omega
          have n6 : (i : Int) < (lo : Int) := by omega
          have wr1 : IntKind.i64.wrap (z + 1) = z + 1 := by rw [IntKind.wrap_i64]; omega
          clear hz hi hA5 hN5 hAB
          go_wp2
          go_roundw
          case rel =>
            refine ⟨k + 1, by omega, by go_num, HF.out.trans (Frx.setCell [wl.heap.size] _ _ i _ (by simp)), ?_⟩
            refine (HO.out.set hil _).congr fun j _ => ?_
            rw [HTK.out, ← ranK_next HNK.out, HZZ.out]
          case measure => simp [Go.RowKit.intOf]; omega
        · obtain rfl : k = m := by omega
          have HTA : Hid (l.take k = l) := Lib.hid (by rw [← HM.out]; exact List.take_length)
          have z5 := HV5.out.size
          have z1 := HZ1.out
          have zr := HF.out.size
          have hfar : ∀ x, x < d → (E x).n ≠ 0 → ∀ b o, (E x).a = some ⟨b, o, none⟩ → b ∉ [wl.heap.size] := fun x hx h0 b o e => by have := HTU.out.far x hx h0 b o e; simp; omega
          have HOUT2 : Hid (OutSl wr W1.heap.size u7 d E) := Lib.hid ((HOUT.out.below HV5.out).frx HF.out (by simp; omega) hfar)
          have HSL2 : Hid (IntSl wr sa k (lgI l)) := Lib.hid (IntSl.frx HSL.out HF.out (fun h0 b o e => by have := HGE.out b o e; simp; omega))
          have HAL : Below wr.heap.size wr (wr.alloc (.cells #[.slice sa k cc] 26)) := (Below.refl _ _).alloc (Nat.le_refl _) _
          have HAL2 := Lib.hid HAL
          clear hfar HAL
          go_wp2_with (at_builtin; refine wpList_append_own_at _ rfl (.tmp 42) (.tmp 44) 59 rfl W1.heap.size 26 i0 (.slice none 0 0) 1 24 Tryz.underlying59 hi0 hz0 hz1 hz2 rfl (by decide) _ d _ rfl (HOUT2.out.own.alloc _) ⟨_, 0, none⟩ 1 1 [.slice sa k cc] rfl rfl (lies_any (by first | exact al_top rfl _ _ | exact al_top (by simp) _ _)) (by intro u hu; simp at hu; subst hu; rfl) (by unfold maxLen; omega) (by omega) (by simp; omega) ?_; intro v7 w7 hown7 hgrow7 _ hloc7)
          have hg2 : wl.heap.size ≠ W1.heap.size := by omega
          go_roundw
          case rel =>
            refine ⟨d + 1, cons1 E d ⟨sa, k, cc, lgI l⟩, by omega, by go_num, (HOUT2.out.below HAL2.out).push hgrow7 hown7 hloc7 (HSL2.out.below HAL2.out) (fun h0 b o e => own_lt HOUT.out.own (by have := HGE.out b o e; omega)), HTU.out.push (by unfold turnD; rw [HLL.out, HM.out]) (by unfold turnD; rw [HLL.out]) (fun h0 b o e => by have := HGE.out b o e; omega), ?_, ?_, by have := hgrow7.size; simp at this; omega⟩
            · have h1 : IntOwn wr wl.heap.size wl.heap.size lo (ranF f lo N U (d + 1)) := HO.out.congr fun i _ => by rw [HTA.out, ← HLL.out]; rfl
              exact grown_own (h1.below HAL2.out) hgrow7 (fun e => by have := own_ge HOUT2.out.own _ e; omega)
            · have h1 : Below wl.heap.size wl wr := (HBR.out.trans (HV5.out.mono HBR.out.size)).trans (HF.out.below (by have := HBR.out.size; omega) (by simp))
              exact (h1.alloc h1.size _).grown hgrow7 (by have := h1.size; simp; omega) (fun r e => by have := own_ge HOUT2.out.own r e; omega)
          case measure => simp [Go.RowKit.intOf]; omega
    · obtain rfl : d = days := by omega
      obtain ⟨oo, cc, rfl, hpl⟩ := HOUT.out.plan
      have hcc : d ≤ cc := by
        rcases HOUT.out.own.2 with ⟨h1, h2⟩ | ⟨g, cap, cur, h1, _, _, h4, _⟩
        · omega
        · injection h1 with _ _ e; omega
      have HPL := Lib.hid hpl
      clear hpl
      go_wp2
      refine bodyPost_ret (v := .tuple #[.slice oo d cc, .int .i64 0]) (by simp [results, Tryz.results42, go_sem]) rfl ⟨⟨oo, cc, E, rfl, HPL.out, ⟨HTU.out.n, HTU.out.s, fun x hx h0 b o e => ?_⟩, hcc⟩, below_al (HBA.out _ (Below.refl _ _))⟩
      have := HTU.out.far x hx h0 b o e
      have := HZ1.out
      omega
end Go.Kn

namespace Go.Kn
open Go Go.Proofs Go.RowKit

theorem snoc_ind {P : List Nat → Prop} (h0 : P []) (h1 : ∀ l i, P l → P (l ++ [i])) (l : List Nat) : P l := by
  have : ∀ l : List Nat, P l.reverse := fun l => by
    induction l with
    | nil => exact h0
    | cons x l ih => rw [List.reverse_cons]; exact h1 _ _ ih
  rw [← List.reverse_reverse l]; exact this _
theorem getB_none {y : Nat} : ∀ {L : List (Nat × Bool)}, y ∉ L.map Prod.fst → getB L y = false
  | [], _ => rfl
  | p :: L, h => by
    simp only [List.map_cons, List.mem_cons, not_or] at h
    rw [getB, if_neg (fun e => h.1 e.symm)]; exact getB_none h.2
theorem getB_key {y : Nat} {L : List (Nat × Bool)} (h : getB L y = true) : y ∈ L.map Prod.fst := by
  by_cases hm : y ∈ L.map Prod.fst
  · exact hm
  · rw [getB_none hm] at h; cases h
theorem getB_snoc {i : Nat} {b : Bool} {y : Nat} : ∀ {L : List (Nat × Bool)}, i ∉ L.map Prod.fst → getB (L ++ [(i, b)]) y = if y = i then b else getB L y
  | [], _ => by
    simp only [List.nil_append, getB]
    by_cases e : i = y
    · rw [if_pos e, if_pos e.symm]
    · rw [if_neg e, if_neg (fun h => e h.symm)]
  | p :: L, h => by
    simp only [List.map_cons, List.mem_cons, not_or] at h
    rw [List.cons_append, getB, getB, getB_snoc h.2]
    by_cases e : p.1 = y
    · rw [if_pos e, if_pos e, if_neg (fun h2 => h.1 (e.trans h2).symm)]
    · rw [if_neg e, if_neg e]

section
variable {f : Int} {ln lo : Nat} {N : Nat → N2} {U : Nat → O3}
theorem fit_congr {s t : Nat → Int} (h : ∀ j, j < lo → s j = t j) (hf : FitP f ln lo N U s) : FitP f ln lo N U t := fun m hm => by
  rw [← sumB_congr (N := N) (U := U) (s := s) (t := t) lo fun i hi _ => h i hi]; exact hf m hm
theorem fit_mono {s t : Nat → Int} (h : ∀ j, j < lo → t j ≤ s j) (hf : FitP f ln lo N U s) : FitP f ln lo N U t := fun m hm =>
  Int.le_trans (sumB_mono (N := N) (U := U) (m := m) lo fun i hi _ => h i hi) (hf m hm)
theorem run_mono (HT : TreeP f ln lo N U) {b c : Nat → Bool} (h : ∀ j, j < lo → b j = true → c j = true) (hf : FitP f ln lo N U (runB U c)) : FitP f ln lo N U (runB U b) :=
  fit_mono (fun j hj => by
    have := (tree_o HT hj).2.1
    unfold runB
    cases hb : b j with
    | true => rw [h j hj hb]; exact Int.le_refl _
    | false => simp; split <;> omega) hf
theorem grd_ok {l : List Nat} {i : Nat} (ho : OkP f lo N U (grd f lo N U l).1 i (U i).c) : grd f lo N U (l ++ [i]) = (put (grd f lo N U l).1 i (U i).c, (grd f lo N U l).2 ++ [(i, true)]) := by rw [grd_snoc]; unfold stp; rw [if_pos ho]
theorem grd_no {l : List Nat} {i : Nat} (ho : ¬ OkP f lo N U (grd f lo N U l).1 i (U i).c) : grd f lo N U (l ++ [i]) = ((grd f lo N U l).1, (grd f lo N U l).2 ++ [(i, false)]) := by rw [grd_snoc]; unfold stp; rw [if_neg ho]
theorem grd_inv (HT : TreeP f ln lo N U) (l : List Nat) : l.Nodup → (∀ y ∈ l, y < lo) → (∀ j, (grd f lo N U l).1 j = runB U (getB (grd f lo N U l).2) j) ∧ Vd f ln lo N U (grd f lo N U l).1 := by
  refine snoc_ind (P := fun l => l.Nodup → (∀ y ∈ l, y < lo) → (∀ j, (grd f lo N U l).1 j = runB U (getB (grd f lo N U l).2) j) ∧ Vd f ln lo N U (grd f lo N U l).1) ?_ ?_ l
  · intro _ _
    exact ⟨fun j => by simp [grd, runB, getB], vd_zero HT⟩
  · intro l i ih hn hl
    have hnl : l.Nodup := (List.nodup_append.1 hn).1
    have hil : i ∉ l := fun h => (List.nodup_append.1 hn).2.2 i h i (by simp) rfl
    obtain ⟨h1, h2⟩ := ih hnl fun y hy => hl y (List.mem_append_left _ hy)
    have hik : i ∉ (grd f lo N U l).2.map Prod.fst := by rw [grd_fst]; exact hil
    have hi := hl i (by simp)
    have hc := (tree_o HT hi).2.1
    by_cases ho : OkP f lo N U (grd f lo N U l).1 i (U i).c
    · rw [grd_ok ho]
      refine ⟨fun j => ?_, h2.put hi (by omega) ho⟩
      by_cases e : j = i
      · subst e
        show put _ j _ j = _
        rw [put_same, h1 j]
        unfold runB
        rw [getB_snoc hik, if_pos rfl, getB_none hik]
        simp
      · show put _ i _ j = _
        rw [put_other e, h1 j]
        unfold runB
        rw [getB_snoc hik, if_neg e]
    · rw [grd_no ho]
      refine ⟨fun j => ?_, h2⟩
      show (grd f lo N U l).1 j = _
      rw [h1 j]
      unfold runB
      rw [getB_snoc hik]
      by_cases e : j = i
      · subst e; rw [if_pos rfl, getB_none hik]
      · rw [if_neg e]
theorem grd_keep {l1 : List Nat} {y : Nat} (hy : getB (grd f lo N U l1).2 y = true) (l2 : List Nat) : (l1 ++ l2).Nodup → getB (grd f lo N U (l1 ++ l2)).2 y = true := by
  refine snoc_ind (P := fun l2 => (l1 ++ l2).Nodup → getB (grd f lo N U (l1 ++ l2)).2 y = true) ?_ ?_ l2
  · intro _; rw [List.append_nil]; exact hy
  · intro l i ih hn
    rw [← List.append_assoc] at hn ⊢
    have hnl : (l1 ++ l).Nodup := (List.nodup_append.1 hn).1
    have hil : i ∉ l1 ++ l := fun h => (List.nodup_append.1 hn).2.2 i h i (by simp) rfl
    have h := ih hnl
    have hk := getB_key h
    rw [grd_fst] at hk
    have hne : y ≠ i := fun e => hil (e ▸ hk)
    have hik : i ∉ (grd f lo N U (l1 ++ l)).2.map Prod.fst := by rw [grd_fst]; exact hil
    by_cases ho : OkP f lo N U (grd f lo N U (l1 ++ l)).1 i (U i).c
    · rw [grd_ok ho, getB_snoc hik, if_neg hne]; exact h
    · rw [grd_no ho, getB_snoc hik, if_neg hne]; exact h
theorem selL_mem (lt : Nat → Nat → Bool) : ∀ (k : Nat) (l : List Nat), l.length = k → ∀ y ∈ l, y ∈ selL lt k l
  | 0, l, h, y, hy => by rw [List.eq_nil_of_length_eq_zero h] at hy; cases hy
  | k + 1, [], h, y, hy => by cases hy
  | k + 1, x :: xs, h, y, hy => by
    rw [selL]
    by_cases e : y = bestL lt x xs
    · rw [e]; exact List.mem_cons_self
    · refine List.mem_cons_of_mem _ (selL_mem lt k _ ?_ y ((List.mem_erase_of_ne e).2 hy))
      rw [List.length_erase_of_mem (bestL_mem lt xs x)]
      simp at h ⊢; omega
theorem ordL_mem {r : Nat → Int} {y : Nat} (h : y < lo) : y ∈ ordL U r lo := selL_mem _ _ _ (by simp) y (List.mem_range.2 h)
theorem day_mem {r : Nat → Int} {y : Nat} : y ∈ dayL f lo N U r ↔ y < lo ∧ getB (grd f lo N U (ordL U r lo)).2 y = true := by
  unfold dayL; rw [List.mem_filter, List.mem_range]
/-- those who run on a day can -/
theorem day_fit (HT : TreeP f ln lo N U) (r : Nat → Int) : FitP f ln lo N U (runB U fun j => decide (j ∈ dayL f lo N U r)) := by
  obtain ⟨h1, h2⟩ := grd_inv (f := f) (ln := ln) HT (ordL U r lo) ordL_nd fun y hy => ordL_lt hy
  refine fit_congr (fun j hj => ?_) h2.fit
  rw [h1 j]
  unfold runB
  congr 1
  simp only [decide_eq_true_eq, eq_iff_iff]
  rw [day_mem]
  exact ⟨fun h => ⟨hj, h⟩, fun h => h.2⟩
theorem ord_split {r : Nat → Int} {y : Nat} (h : y < lo) : ∃ l1 l2, ordL U r lo = l1 ++ y :: l2 := List.append_of_mem (ordL_mem h)
/-- and no other one with them -/
theorem day_max (HT : TreeP f ln lo N U) (r : Nat → Int) {o : Nat} (ho : o < lo) (hn : o ∉ dayL f lo N U r) : ¬ FitP f ln lo N U (runB U fun j => decide (j ∈ dayL f lo N U r) || decide (j = o)) := by
  intro hf
  obtain ⟨l1, l2, hs⟩ := ord_split (U := U) (r := r) ho
  have hnd : (l1 ++ o :: l2).Nodup := by rw [← hs]; exact ordL_nd
  have h1 : l1.Nodup := (List.nodup_append.1 hnd).1
  have hol : o ∉ l1 := fun h => (List.nodup_append.1 hnd).2.2 o h o List.mem_cons_self rfl
  have hlt : ∀ y ∈ l1, y < lo := fun y hy => ordL_lt (U := U) (r := r) (by rw [hs]; exact List.mem_append_left _ hy)
  obtain ⟨g1, g2⟩ := grd_inv (f := f) (ln := ln) HT l1 h1 hlt
  have hik : o ∉ (grd f lo N U l1).2.map Prod.fst := by rw [grd_fst]; exact hol
  have hkeep : ∀ y, getB (grd f lo N U l1).2 y = true → getB (grd f lo N U (ordL U r lo)).2 y = true := fun y hy => by rw [hs]; exact grd_keep hy _ hnd
  have hok : ¬ OkP f lo N U (grd f lo N U l1).1 o (U o).c := fun h => by
    apply hn
    rw [day_mem]
    refine ⟨ho, ?_⟩
    rw [hs, show l1 ++ o :: l2 = (l1 ++ [o]) ++ l2 by simp]
    exact grd_keep (by rw [grd_ok h, getB_snoc hik, if_pos rfl]) l2 (by simpa using hnd)
  apply hok
  rw [okP_iff HT g2 ho]
  have h0 : (grd f lo N U l1).1 o = 0 := by rw [g1 o]; unfold runB; rw [getB_none hik]; rfl
  refine ⟨by rw [h0]; omega, fit_mono (fun j hj => ?_) hf⟩
  have hcj := (tree_o HT hj).2.1
  by_cases e : j = o
  · subst e; rw [put_same, h0]; unfold runB; simp
  · rw [put_other e, g1 j]
    unfold runB
    cases hb : getB (grd f lo N U l1).2 j with
    | true =>
      have : j ∈ dayL f lo N U r := day_mem.2 ⟨hj, hkeep j hb⟩
      simp [this]
    | false => simp only [Bool.false_eq_true, if_false]; split <;> omega
end
end Go.Kn

namespace Go.Kn
open Go Go.Proofs Go.RowKit

section
variable {f : Int} {ln lo : Nat} {N : Nat → N2} {U : Nat → O3}
/-- an outlet that can run alone -/
def aloneP (f : Int) (ln lo : Nat) (N : Nat → N2) (U : Nat → O3) (o : Nat) : Prop := FitP f ln lo N U (runB U fun j => decide (j = o))
theorem bestL_min (U : Nat → O3) (r : Nat → Int) : ∀ (l : List Nat) (x y : Nat), y ∈ x :: l → r (bestL (befI U r) x l) ≤ r y
  | [], x, y, h => by
    simp at h; subst h; exact Int.le_refl _
  | z :: l, x, y, h => by
    have h1 := bestL_min U r l (if befI U r z x then z else x)
    show r (bestL (befI U r) (if befI U r z x then z else x) l) ≤ r y
    have hb := h1 _ List.mem_cons_self
    have hc : r (if befI U r z x then z else x) ≤ r x ∧ r (if befI U r z x then z else x) ≤ r z := by
      cases hz : befI U r z x with
      | true =>
        rw [if_pos rfl]
        simp only [befI, Bool.or_eq_true, Bool.and_eq_true, decide_eq_true_eq] at hz
        constructor <;> omega
      | false =>
        rw [if_neg (by decide)]
        simp only [befI, Bool.or_eq_false_iff, decide_eq_false_iff_not] at hz
        constructor <;> omega
    rcases List.mem_cons.1 h with e | h
    · subst e; omega
    · rcases List.mem_cons.1 h with e | h
      · subst e; omega
      · exact h1 y (List.mem_cons_of_mem _ h)
theorem selL_sorted (U : Nat → O3) (r : Nat → Int) : ∀ (k : Nat) (l : List Nat), (selL (befI U r) k l).Pairwise (fun x y => r x ≤ r y)
  | 0, _ => by simp [selL]
  | _ + 1, [] => by simp [selL]
  | k + 1, x :: xs => by
    rw [selL, List.pairwise_cons]
    exact ⟨fun y hy => bestL_min U r xs x y (List.mem_of_mem_erase (selL_sub _ _ _ _ hy)), selL_sorted U r k _⟩
theorem first_split (P : Nat → Prop) : ∀ (l : List Nat), (∃ y ∈ l, P y) → ∃ l1 a l2, l = l1 ++ a :: l2 ∧ P a ∧ ∀ y ∈ l1, ¬ P y
  | [], h => by obtain ⟨y, hy, _⟩ := h; cases hy
  | x :: l, h => by
    by_cases hx : P x
    · exact ⟨[], x, l, rfl, hx, fun y hy => by cases hy⟩
    · obtain ⟨y, hy, hp⟩ := h
      rcases List.mem_cons.1 hy with e | hy
      · subst e; exact absurd hp hx
      · obtain ⟨l1, a, l2, e, ha, hn⟩ := first_split P l ⟨y, hy, hp⟩
        exact ⟨x :: l1, a, l2, by rw [e]; rfl, ha, fun z hz => by
          rcases List.mem_cons.1 hz with e | hz
          · subst e; exact hx
          · exact hn z hz⟩
/-- who runs can run alone -/
theorem ran_alone (HT : TreeP f ln lo N U) {l : List Nat} (hn : l.Nodup) (hl : ∀ y ∈ l, y < lo) {y : Nat} (hy : getB (grd f lo N U l).2 y = true) : aloneP f ln lo N U y := by
  obtain ⟨g1, g2⟩ := grd_inv (f := f) (ln := ln) HT l hn hl
  refine run_mono HT (c := getB (grd f lo N U l).2) (fun j _ hj => ?_) (fit_congr (fun j _ => g1 j) g2.fit)
  have := of_decide_eq_true hj
  subst this; exact hy
theorem day_alone (HT : TreeP f ln lo N U) {r : Nat → Int} {y : Nat} (hy : y ∈ dayL f lo N U r) : aloneP f ln lo N U y :=
  ran_alone HT ordL_nd (fun y hy => ordL_lt hy) (day_mem.1 hy).2
/-- of those who can run alone the first one in the order runs; none ran on fewer days -/
theorem first_runs (HT : TreeP f ln lo N U) (r : Nat → Int) {o : Nat} (ho : o < lo) (ha : aloneP f ln lo N U o) : ∃ a, a < lo ∧ aloneP f ln lo N U a ∧ a ∈ dayL f lo N U r ∧ ∀ y, y < lo → aloneP f ln lo N U y → r a ≤ r y := by
  obtain ⟨l1, a, l2, hs, hpa, hno⟩ := first_split (aloneP f ln lo N U) (ordL U r lo) ⟨o, ordL_mem ho, ha⟩
  have hnd : (l1 ++ a :: l2).Nodup := by rw [← hs]; exact ordL_nd
  have h1 : l1.Nodup := (List.nodup_append.1 hnd).1
  have hal : a ∉ l1 := fun h => (List.nodup_append.1 hnd).2.2 a h a List.mem_cons_self rfl
  have hlt : ∀ y ∈ l1, y < lo := fun y hy => ordL_lt (U := U) (r := r) (by rw [hs]; exact List.mem_append_left _ hy)
  have hao : a < lo := ordL_lt (U := U) (r := r) (by rw [hs]; simp)
  obtain ⟨g1, g2⟩ := grd_inv (f := f) (ln := ln) HT l1 h1 hlt
  have hik : a ∉ (grd f lo N U l1).2.map Prod.fst := by rw [grd_fst]; exact hal
  have hz : ∀ j, (grd f lo N U l1).1 j = 0 := fun j => by
    rw [g1 j]
    unfold runB
    cases hb : getB (grd f lo N U l1).2 j with
    | false => rfl
    | true =>
      have hk := getB_key hb
      rw [grd_fst] at hk
      exact absurd (ran_alone HT h1 hlt hb) (hno j hk)
  have hok : OkP f lo N U (grd f lo N U l1).1 a (U a).c := by
    rw [okP_iff HT g2 hao]
    refine ⟨by rw [hz]; omega, fit_congr (fun j _ => ?_) hpa⟩
    by_cases e : j = a
    · subst e; rw [put_same, hz]; simp [runB]
    · rw [put_other e, hz]; simp [runB, e]
  refine ⟨a, hao, hpa, day_mem.2 ⟨hao, ?_⟩, fun y hy hya => ?_⟩
  · rw [hs, show l1 ++ a :: l2 = (l1 ++ [a]) ++ l2 by simp]
    exact grd_keep (by rw [grd_ok hok, getB_snoc hik, if_pos rfl]) l2 (by simpa using hnd)
  · have hp := selL_sorted U r lo (List.range lo)
    rw [show selL (befI U r) lo (List.range lo) = l1 ++ a :: l2 from hs] at hp
    have hym : y ∈ l1 ++ a :: l2 := by rw [← hs]; exact ordL_mem hy
    rcases List.mem_append.1 hym with h | h
    · exact absurd hya (hno y h)
    · rcases List.mem_cons.1 h with e | h
      · subst e; exact Int.le_refl _
      · exact (List.pairwise_cons.1 (List.pairwise_append.1 hp).2.1).1 y h

/-! each gets its days -/
def sumI (g : Nat → Int) : Nat → Int
  | 0 => 0
  | k + 1 => sumI g k + g k
theorem sumI_le {g h : Nat → Int} : ∀ k, (∀ i, i < k → g i ≤ h i) → sumI g k ≤ sumI h k
  | 0, _ => Int.le_refl _
  | k + 1, hh => by
    have h1 := sumI_le k fun i hi => hh i (by omega)
    have h2 := hh k (by omega)
    simp only [sumI]; omega
theorem sumI_lt {g h : Nat → Int} {a : Nat} (ha1 : g a + 1 ≤ h a) : ∀ k, a < k → (∀ i, i < k → g i ≤ h i) → sumI g k + 1 ≤ sumI h k
  | 0, h, _ => by omega
  | k + 1, hk, hh => by
    simp only [sumI]
    by_cases e : a = k
    · subst e
      have h1 := sumI_le a fun i hi => hh i (by omega)
      omega
    · have h1 := sumI_lt ha1 k (by omega) fun i hi => hh i (by omega)
      have h2 := hh k (by omega)
      omega
theorem sumI_const (c : Int) : ∀ k : Nat, sumI (fun _ => c) k = c * (k : Int)
  | 0 => by simp [sumI]
  | k + 1 => by simp only [sumI]; rw [sumI_const c k]; push_cast; rw [Int.mul_add]; omega
open Classical in
/-- the days counted up to k of those who can run alone -/
noncomputable def cap (f : Int) (ln lo : Nat) (N : Nat → N2) (U : Nat → O3) (k : Int) (d : Nat) : Nat → Int := fun i => if aloneP f ln lo N U i then min (ranF f lo N U d i) k else 0
theorem ranF_step (d i : Nat) : ranF f lo N U (d + 1) i = ranF f lo N U d i + (if i ∈ dayL f lo N U (ranF f lo N U d) then 1 else 0) := rfl
theorem cap_mono (k : Int) (d i : Nat) : cap f ln lo N U k d i ≤ cap f ln lo N U k (d + 1) i := by
  unfold cap
  split
  · rw [ranF_step]; split <;> omega
  · exact Int.le_refl _
theorem cap_sum (HT : TreeP f ln lo N U) (k : Int) (hk : 0 ≤ k) : ∀ d : Nat, (∃ i, i < lo ∧ aloneP f ln lo N U i ∧ ranF f lo N U d i < k) → (d : Int) ≤ sumI (cap f ln lo N U k d) lo
  | 0, _ => by
    have : sumI (fun _ => (0 : Int)) lo ≤ sumI (cap f ln lo N U k 0) lo := sumI_le lo fun i _ => by
      unfold cap
      split
      · simp only [ranF]; omega
      · exact Int.le_refl _
    rw [sumI_const] at this
    simpa using this
  | d + 1, ⟨i, hi, ha, hr⟩ => by
    have hs := ranF_step (f := f) (lo := lo) (N := N) (U := U) d i
    have hri : ranF f lo N U d i < k := by
      rw [hs] at hr
      split at hr <;> omega
    have ih := cap_sum HT k hk d ⟨i, hi, ha, hri⟩
    obtain ⟨a, hao, haa, had, hmin⟩ := first_runs HT (ranF f lo N U d) hi ha
    have h1 := hmin i hi ha
    have h2 := sumI_lt (g := cap f ln lo N U k d) (h := cap f ln lo N U k (d + 1)) (a := a) (by
      unfold cap
      rw [if_pos haa, if_pos haa, ranF_step, if_pos had]
      omega) lo hao (fun j _ => cap_mono k d j)
    push_cast
    omega
/-- the theorem of turns -/
theorem fair (HT : TreeP f ln lo N U) {o : Nat} (ho : o < lo) (ha : aloneP f ln lo N U o) (d : Nat) (k : Int) (hk : 0 ≤ k) (hkd : k * (lo : Int) ≤ (d : Int)) : k ≤ ranF f lo N U d o := by
  by_cases h : k ≤ ranF f lo N U d o
  · exact h
  exfalso
  have h1 := cap_sum HT k hk d ⟨o, ho, ha, by omega⟩
  have h2 := sumI_lt (g := cap f ln lo N U k d) (h := fun _ => k) (a := o) (by unfold cap; rw [if_pos ha]; omega) lo ho (fun j _ => by
    unfold cap
    split
    · omega
    · exact hk)
  rw [sumI_const] at h2
  omega
theorem never (HT : TreeP f ln lo N U) {o : Nat} (ha : ¬ aloneP f ln lo N U o) : ∀ d, ranF f lo N U d o = 0
  | 0 => rfl
  | d + 1 => by
    rw [ranF_step, never HT ha d, if_neg (fun h => ha (day_alone HT h))]; rfl
/-- how many days of the plan -/
theorem hasB_lgI {l : List Nat} {x : Nat} : hasB (lgI l) (x : Int) l.length = decide (x ∈ l) := by
  rw [Bool.eq_iff_iff, hasB_iff, decide_eq_true_eq]
  constructor
  · rintro ⟨i, hi, e⟩
    rw [lgI_get hi] at e
    rw [← Int.ofNat.inj e]; exact List.getElem_mem _
  · intro h
    obtain ⟨i, hi, e⟩ := List.getElem_of_mem h
    exact ⟨i, hi, by rw [lgI_get hi, e]⟩
theorem turE_has {d B : Nat} {E : Nat → Dy} (h : TurE f lo N U d B E) {x o : Nat} (hx : x < d) : hasB (E x).s (o : Int) (E x).n = decide (o ∈ turnD f lo N U x) := by
  rw [h.n x hx, h.s x hx, hasB_lgI]
theorem turE_days {d B : Nat} {E : Nat → Dy} (h : TurE f lo N U d B E) (o : Nat) : ∀ k, k ≤ d → cntB (dys E (o : Int)) k = ranF f lo N U k o
  | 0, _ => rfl
  | k + 1, hk => by
    show cntB (dys E (o : Int)) k + b2i (dys E (o : Int) k) = _
    rw [turE_days h o k (by omega), ranF_step]
    have : dys E (o : Int) k = decide (o ∈ turnD f lo N U k) := turE_has h (by omega)
    rw [this]
    unfold turnD b2i
    by_cases hm : o ∈ dayL f lo N U (ranF f lo N U k)
    · simp [hm]
    · simp [hm]
end
end Go.Kn
