/- Contracts of functions that the laws of this seat call, or the evaluator of closed calls and its runs. Conditions: as each theorem states them. -/
import Derived.Test.YtddlghdglknloaaGreatDoorP3
import Derived.Lib.SliceRun
import Derived.Test.YtddlghdglknloaaGreatDoorM4
set_option linter.unusedVariables false
set_option linter.unusedSimpArgs false
namespace Go.Kn
open Go Go.Proofs Go.RowKit

theorem IntOwn.setCells {base g k : Nat} {s : Nat → Int} : ∀ (vs : List Value) (o : Nat) (w : World), IntOwn w base g k s → k ≤ o → IntOwn (w.setCells g o vs) base g k s
  | [], _, _, h, _ => h
  | v :: vs, o, w, h, hk => by
    refine IntOwn.setCells vs (o + 1) _ ⟨h.lo, by simpa using h.lt, fun i hi => ?_, fun i hi => by simpa using h.fr i hi⟩ (by omega)
    exact (World.cell?_setCell_other _ _ _ _ (by simp <;> omega)).trans (h.at_ i hi)
theorem below_cells {B g : Nat} (hb : B ≤ g) : ∀ (vs : List Value) (o : Nat) (a w : World), Below B a w → Below B a (w.setCells g o vs)
  | [], _, _, _, h => h
  | v :: vs, o, a, w, h => below_cells hb vs (o + 1) a _ (RowKit.Below.setCell (p := ⟨g, o, none⟩) h hb _)
theorem filter_take_succ {p : Nat → Bool} {l : List Nat} {j : Nat} (hj : j < l.length) : (l.take (j + 1)).filter p = (l.take j).filter p ++ (if p l[j] then [l[j]] else []) := by
  rw [List.take_add_one, List.getElem?_eq_getElem hj, Option.toList_some, List.filter_append]
  congr 1
  cases h : p l[j] <;> simp [h]
theorem lgI_snoc {L : List Nat} {v x : Nat} : lgI (L ++ [v]) x = if x < L.length then lgI L x else if x = L.length then (v : Int) else 0 := by
  unfold lgI
  simp only [List.getD_eq_getElem?_getD]
  by_cases h : x < L.length
  · rw [if_pos h, List.getElem?_append_left h]
  · rw [if_neg h, List.getElem?_append_right (by omega)]
    by_cases h2 : x = L.length
    · subst h2; simp
    · rw [if_neg h2, List.getElem?_eq_none (by simp; omega)]; simp

set_option maxRecDepth 100000 in
set_option maxHeartbeats 2000000 in
/-- slices.IndexFunc with a literal of gate.Vital: the first element of which it is so -/
theorem idx89_w (p : Nat → Bool) (g n c base : Nat) (l : List Nat) (cap : Value) (w : World) (hl : l.length = n) (hn2 : n ≤ 1000) (HN : Hid (NumAt w g 0 n (lgI l))) (hg : g < w.heap.size) (hgb : base ≤ w.heap.size)
    (HG : Hid (∀ (d : Nat) (hd : d < l.length) w2, Below w.heap.size w w2 → Calls Tryz.prog 89 #[.int .i64 ((l[d] : Nat) : Int), cap] w2 fun e w' => e = .returned (.bool (p l[d])) ∧ Below w2.heap.size w2 w')) :
    Calls Tryz.prog 129 #[.slice (some ⟨g, 0, none⟩) n c, .func (.func 89) #[] #[cap]] w fun e w' => (∃ r : Int, e = .returned (.int .i64 r) ∧ ((r = -1 ∧ l.filter (fun x => !p x) = l) ∨ ∃ i : Nat, r = (i : Int) ∧ i < n ∧ (l.take i).filter (fun x => !p x) = l.take i ∧ ∃ h : i < l.length, p l[i] = true)) ∧ Below w.heap.size w w' := by
  have HL := Lib.hid hl
  clear hl
  go_enter Tryz.func129, Tryz.ntmps129
  go_wp2
  go_loopw [8] (fun ii wr => ∃ k : Nat, k ≤ n ∧ ii = .int .i64 (k : Int) ∧ (l.take k).filter (fun x => !p x) = l.take k ∧ Below w.heap.size w wr) (fun ii _ => n - (Go.RowKit.intOf ii).toNat)
  case atStart => exact ⟨0, Nat.zero_le _, rfl, by simp, Below.refl _ _⟩
  case round =>
    obtain ⟨k, hk, rfl, hf, hbr⟩ := hrel
    have HFI := Lib.hid hf
    have HBR := Lib.hid hbr
    clear hf hbr
    by_cases hlt : k < n
    · have hkl : k < l.length := by rw [HL.out]; exact hlt
      have n1 : (0 : Int) ≤ (k : Int) := by omega
      have n2 : (k : Int) < (n : Int) := by omega
      have y1 := (HN.out.below hg HBR.out) k hlt
      rw [lgI_get hkl, Nat.zero_add] at y1
      have HGK := Lib.hid (HG.out k hkl wr HBR.out)
      have HST : Hid ((l.take (k + 1)).filter (fun x => !p x) = (l.take k).filter (fun x => !p x) ++ (if !p l[k] then [l[k]] else [])) := Lib.hid (filter_take_succ hkl)
      have HTK : Hid (l.take (k + 1) = l.take k ++ [l[k]]) := Lib.hid (by rw [List.take_add_one, List.getElem?_eq_getElem hkl, Option.toList_some])
      obtain ⟨v, hv⟩ : ∃ v, l[k] = v := ⟨_, rfl⟩
      have HV := Lib.hid hv
      rw [hv] at y1 HGK HST HTK
      clear hv
      cases hp : p v with
      | true =>
        rw [hp] at HGK
        have HPV := Lib.hid hp
        clear hp
        go_wp2_with (go_at_call 89; refine HGK.out.mono ?_; rintro e w5 ⟨rfl, hv5⟩)
        go_ret
        exact ⟨⟨_, rfl, .inr ⟨k, rfl, hlt, HFI.out, by have := HL.out; omega, by rw [HV.out]; exact HPV.out⟩⟩, HBR.out.trans (hv5.mono HBR.out.size)⟩
      | false =>
        rw [hp] at HGK HST
        clear hp
        go_wp2_with (go_at_call 89; refine HGK.out.mono ?_; rintro e w5 ⟨rfl, hv5⟩)
        go_roundw
        case rel => exact ⟨k + 1, by omega, by go_num, by rw [HST.out, HTK.out, HFI.out]; simp, HBR.out.trans (hv5.mono HBR.out.size)⟩
        case measure => simp [Go.RowKit.intOf]; omega
    · obtain rfl : k = n := by omega
      go_wp2
      go_ret
      exact ⟨⟨_, rfl, .inl ⟨rfl, by have := HFI.out; rwa [List.take_of_length_le (by have := HL.out; omega)] at this⟩⟩, HBR.out⟩

/-- what the array holds while elements are taken out: the first i are those that stay, those from j on are as they were -/
def DelS (p : Nat → Bool) (l : List Nat) (i j : Nat) (f : Nat → Int) : Prop := i = ((l.take j).filter fun x => !p x).length ∧ (∀ x, x < i → f x = lgI ((l.take j).filter fun x => !p x) x) ∧ ∀ x, j ≤ x → f x = lgI l x
theorem DelS.keep {p : Nat → Bool} {l : List Nat} {i j : Nat} {f : Nat → Int} (h : DelS p l i j f) (hj : j < l.length) (hp : p l[j] = false) (hij : i ≤ j) : DelS p l (i + 1) (j + 1) (updI f i ((l[j] : Nat) : Int)) := by
  obtain ⟨h1, h2, h3⟩ := h
  unfold DelS
  rw [filter_take_succ hj]
  simp only [hp, Bool.not_false, if_true]
  refine ⟨by simp [h1], fun x hx => ?_, fun x hx => ?_⟩
  · unfold updI
    rw [lgI_snoc, ← h1]
    by_cases e : x = i
    · subst e; simp
    · rw [if_neg e, if_pos (by omega)]; exact h2 x (by omega)
  · unfold updI
    rw [if_neg (by omega)]
    exact h3 x (by omega)
theorem DelS.drop {p : Nat → Bool} {l : List Nat} {i j : Nat} {f : Nat → Int} (h : DelS p l i j f) (hj : j < l.length) (hp : p l[j] = true) : DelS p l i (j + 1) f := by
  obtain ⟨h1, h2, h3⟩ := h
  unfold DelS
  rw [filter_take_succ hj]
  simp only [hp, Bool.not_true, Bool.false_eq_true, if_false, List.append_nil]
  exact ⟨h1, h2, fun x hx => h3 x (by omega)⟩

set_option maxRecDepth 100000 in
set_option maxHeartbeats 4000000 in
/-- slices.DeleteFunc with a literal of gate.Vital -/
theorem del89_w (p : Nat → Bool) (g n c base : Nat) (l : List Nat) (cap : Value) (w : World) (hl : l.length = n) (hn2 : n ≤ 1000) (hnc : n ≤ c) (HO : Hid (IntOwn w base g n (lgI l))) (hgb : base ≤ w.heap.size)
    (HG : Hid (∀ (d : Nat) (hd : d < l.length) w2, Below base w w2 → Calls Tryz.prog 89 #[.int .i64 ((l[d] : Nat) : Int), cap] w2 fun e w' => e = .returned (.bool (p l[d])) ∧ Below w2.heap.size w2 w')) :
    Calls Tryz.prog 88 #[.slice (some ⟨g, 0, none⟩) n c, .func (.func 89) #[] #[cap]] w fun e w' => (∃ k, e = .returned (.slice (some ⟨g, 0, none⟩) k c) ∧ k = (l.filter fun x => !p x).length ∧ IntSl w' (some ⟨g, 0, none⟩) k (lgI (l.filter fun x => !p x))) ∧ Below base w w' := by
  have HIX := Lib.hid (idx89_w p g n c base l cap w hl hn2 (Lib.hid HO.out.at_) HO.out.lt hgb (Lib.hid fun d hd w2 h => HG.out d hd w2 (h.mono hgb)))
  have HL := Lib.hid hl
  clear hl
  go_enter Tryz.func88, Tryz.ntmps88
  go_wp2_with (go_at_call 129; refine HIX.out.mono ?_; rintro e w5 ⟨⟨r, rfl, hr⟩, hv⟩; have HV5 := Lib.hid (hv.mono hgb); have HO5 := Lib.hid (HO.out.below hv); clear hv; rcases hr with ⟨rfl, hfl⟩ | ⟨i, hri, hi, hfl, hil, hpi⟩ <;> (try (have HRI := Lib.hid hri; have n0 : (r == -1) = false := (by rw [beq_eq_false_iff_ne]; omega); have wr0 : IntKind.i64.wrap (r + 1) = r + 1 := (by rw [IntKind.wrap_i64]; omega); clear hri)))
  · go_wp2
    go_ret
    exact ⟨⟨n, rfl, by rw [hfl]; exact HL.out.symm, by rw [hfl]; exact HO5.out.sl⟩, HV5.out⟩
  · have HD0 : Hid (DelS p l i (i + 1) (lgI l)) := Lib.hid (by
      have h0 : DelS p l i i (lgI l) := by
        refine ⟨by rw [hfl, List.length_take]; omega, fun x hx => ?_, fun x _ => rfl⟩
        rw [hfl]
        unfold lgI
        simp only [List.getD_eq_getElem?_getD]
        rw [List.getElem?_take, if_pos hx]
      exact h0.drop hil hpi)
    have hz5 : base ≤ w5.heap.size := by have := HV5.out.size; omega
    have HZ5 := Lib.hid hz5
    clear hfl hpi hil hz5
    go_wp2
    clear n0
    go_loopw [5, 6] (fun u v wr => ∃ a j : Nat, j ≤ n ∧ a < j ∧ u = .int .i64 (a : Int) ∧ v = .int .i64 (j : Int) ∧ (∃ f, IntOwn wr base g n f ∧ DelS p l a j f) ∧ Below base w wr ∧ base ≤ wr.heap.size) (fun _ v _ => n - (Go.RowKit.intOf v).toNat)
    case atStart => exact ⟨i, i + 1, by omega, by omega, by rw [HRI.out], by rw [HRI.out]; rfl, ⟨_, HO5.out, HD0.out⟩, HV5.out, HZ5.out⟩
    case round =>
      obtain ⟨a, j, hj, haj, rfl, rfl, ⟨f, ho, hd⟩, hbr, hzr⟩ := hrel
      have HOR := Lib.hid ho
      have HDR := Lib.hid hd
      have HBR := Lib.hid hbr
      have HZR := Lib.hid hzr
      have hl0 := HL.out
      clear ho hd hbr hzr
      by_cases hlt : j < n
      · have m1 : (0 : Int) ≤ (j : Int) := by omega
        have m2 : (j : Int) < (n : Int) := by omega
        have m3 : (0 : Int) ≤ (a : Int) := by omega
        have m4 : (a : Int) < (n : Int) := by omega
        have han : a < n := by omega
        have y1 := HOR.out.at_ j hlt
        rw [HDR.out.2.2 j (Nat.le_refl _), lgI_get (by omega), Nat.zero_add] at y1
        have HGJ := Lib.hid (HG.out j (by omega) wr HBR.out)
        have HKP : Hid (p l[j] = false → DelS p l (a + 1) (j + 1) (updI f a ((l[j] : Nat) : Int))) := Lib.hid fun h => HDR.out.keep (by omega) h (by omega)
        have HDP : Hid (p l[j] = true → DelS p l a (j + 1) f) := Lib.hid fun h => HDR.out.drop (by omega) h
        obtain ⟨v, hv⟩ : ∃ v, l[j] = v := ⟨_, rfl⟩
        rw [hv] at y1 HGJ HKP HDP
        clear hv hl0
        cases hp : p v with
        | true =>
          have HD2 := Lib.hid (HDP.out hp)
          rw [hp] at HGJ
          clear hp HKP HDP
          go_wp2_with (go_at_call 89; refine HGJ.out.mono ?_; rintro e w6 ⟨rfl, hv6⟩)
          go_roundw
          case rel => exact ⟨a, j + 1, by omega, by omega, by first | rfl | trivial, by go_num, ⟨f, HOR.out.below hv6, HD2.out⟩, HBR.out.trans (hv6.mono HZR.out), by have := hv6.size; have := HZR.out; omega⟩
          case measure => simp [Go.RowKit.intOf]; omega
        | false =>
          have HD2 := Lib.hid (HKP.out hp)
          rw [hp] at HGJ
          clear hp HKP HDP
          go_wp2_with (go_at_call 89; refine HGJ.out.mono ?_; rintro e w6 ⟨rfl, hv6⟩; have HO6 := Lib.hid (HOR.out.below hv6); have HV6 := Lib.hid hv6; clear hv6 y1; have y2 := HO6.out.fr a han; have y3 := HO6.out.at_ a han; rw [Nat.zero_add] at y3)
          go_roundw
          case rel => exact ⟨a + 1, j + 1, by omega, by omega, by go_num, by go_num, ⟨_, HO6.out.set han _, HD2.out⟩, RowKit.Below.setCell (p := ⟨g, a, none⟩) (HBR.out.trans (HV6.out.mono HZR.out)) HO6.out.lo _, by have := HV6.out.size; have := HZR.out; simp; omega⟩
          case measure => simp [Go.RowKit.intOf]; omega
      · obtain rfl : j = n := by omega
        have m1 : ¬ (j : Int) < (j : Int) := by omega
        have m3 : (0 : Int) ≤ (a : Int) := by omega
        have m4 : (a : Int) ≤ (j : Int) := by omega
        have m5 : ¬ c = a := by omega
        have m6 : (a : Int) ≤ (c : Int) := by omega
        have m7 : (j : Int) ≤ (c : Int) := by omega
        obtain ⟨d1, d2, d3⟩ := HDR.out
        rw [List.take_of_length_le (by omega)] at d1 d2
        have HD1 := Lib.hid d1
        have HD2 := Lib.hid d2
        clear d1 d2 d3 hl0
        have hcl : ∀ ty, (Builtin.clear_ #[26] ty #[.slice (some ⟨g, a, none⟩) (j - a) (c - a)]).run Tryz.prog wr = .ok (.tuple #[]) (wr.setCells g a (List.replicate (j - a) (.int .i64 0))) := fun ty => by
          exact Lib.run_clear_slice wr 26 3 ty (.int .i64 0) Tryz.underlying26 (fun w => by rfl) rfl rfl g a (j - a) (c - a) (by omega) (fun x hx => by have := HOR.out.at_ (a + x) (by omega); rw [Nat.zero_add] at this; rw [this]; rfl) (fun x hx => HOR.out.fr (a + x) (by omega))
        have HX := Lib.hid (show IntOwn (wr.setCells g a (List.replicate (j - a) (.int .i64 0))) base g a (lgI (l.filter fun x => !p x)) from
          IntOwn.setCells _ _ _ ((HOR.out.less (Nat.le_of_lt haj)).congr fun x hx => HD2.out x hx) (Nat.le_refl _))
        have HBX := Lib.hid (below_cells HOR.out.lo (List.replicate (j - a) (.int .i64 0)) a w wr HBR.out)
        go_wp2
        go_ret
        exact ⟨⟨a, rfl, HD1.out, HX.out.sl⟩, HBX.out⟩
end Go.Kn

namespace Go.Kn
open Go Go.Proofs Go.RowKit

set_option maxRecDepth 100000 in
set_option maxHeartbeats 2000000 in
theorem proof_bad (pa ca sa : Option Addr) (lp cp lc cc m sc : Nat) (P : Nat → P8) (C : Nat → C8) (s : Nat → Int) (w : World) (hlp : lp ≤ 1000000) (hlc : lc ≤ 1000000) (hm : m ≤ 1000000) (H : Hid (Ne8 w pa ca lp lc P C)) (HO : Hid (IntSl w sa m s)) (hq : fedQ lp P lc C s m = false) :
    Calls Tryz.prog 43 #[.agg #[.slice pa lp cp, .slice ca lc cc], .slice sa m sc] w fun e w' => e = .returned (.tuple #[.slice none 0 0, .int .i64 2]) ∧ Below w.heap.size w w' := by
  obtain ⟨W0, hW0⟩ : ∃ W0, W0 = w.alloc (.cells #[.slice pa lp cp, .slice ca lc cc] 25) := ⟨_, rfl⟩
  have hA : Below w.heap.size w W0 := by rw [hW0]; exact (Below.refl _ _).alloc (Nat.le_refl _) _
  have HF : Hid (∀ w2, Below W0.heap.size W0 w2 → w2.cell? ⟨w.heap.size, 0, none⟩ = some (.slice pa lp cp) ∧ w2.cell? ⟨w.heap.size, 1, none⟩ = some (.slice ca lc cc)) := Lib.hid fun w2 h => by
    rw [hW0] at h
    exact ⟨(box_cells h).1, (box_cells h).2.1⟩
  have HN : Hid (∀ w2, Below W0.heap.size W0 w2 → Hid (Ne8 w2 pa ca lp lc P C)) := Lib.hid fun w2 h => Lib.hid (H.out.below (hA.trans (h.mono hA.size)))
  have HOS : Hid (∀ w2, Below W0.heap.size W0 w2 → Hid (IntSl w2 sa m s)) := Lib.hid fun w2 h => Lib.hid (HO.out.below (hA.trans (h.mono hA.size)))
  have H1 : Hid (Calls Tryz.prog 56 #[.agg #[.slice pa lp cp, .slice ca lc cc]] W0 fun e w' => e = .returned (.bool (netV lp P lc C)) ∧ Below W0.heap.size W0 w') := Lib.hid (isNet_w pa ca lp cp lc cc P C W0 hlp hlc (HN.out _ (Below.refl _ _)))
  have H2 : Hid (∀ w2, Below W0.heap.size W0 w2 → Calls Tryz.prog 57 #[.agg #[.slice pa lp cp, .slice ca lc cc], .slice sa m sc] w2 fun e w' => e = .returned (.bool (gatsB lc C s m)) ∧ Below w2.heap.size w2 w') := Lib.hid fun w2 h => areGates_w pa ca sa lp cp lc cc m sc P C s w2 hlc hm (HN.out _ h) (HOS.out _ h)
  have HA := Lib.hid hA
  obtain ⟨f0, f1⟩ := HF.out _ (Below.refl _ _)
  rw [hW0] at f0 f1
  unfold fedQ at hq
  obtain ⟨q1, hq1⟩ : ∃ q, netV lp P lc C = q := ⟨_, rfl⟩
  obtain ⟨q2, hq2⟩ : ∃ q, gatsB lc C s m = q := ⟨_, rfl⟩
  rw [hq1] at H1 hq
  rw [hq2] at H2 hq
  clear hA H HO hq1 hq2
  cases q1 with
  | false =>
    clear hq
    go_enter Tryz.func43, Tryz.ntmps43
    go_wp2_with (go_at_call 56; rw [← hW0]; refine H1.out.mono ?_; rintro e w5 ⟨rfl, hv⟩)
    exact bodyPost_ret (v := .tuple #[.slice none 0 0, .int .i64 2]) (by simp [results, Tryz.results43, go_sem]) rfl ⟨rfl, HA.out.trans (hv.mono HA.out.size)⟩
  | true =>
    obtain rfl : q2 = false := by simpa using hq
    clear hq
    go_enter Tryz.func43, Tryz.ntmps43
    go_wp2_with (first
      | (go_at_call 56; rw [← hW0]; refine H1.out.mono ?_; rintro e w5 ⟨rfl, hv⟩; clear hW0 f0 f1; have HV5 := Lib.hid hv; obtain ⟨g0, g1⟩ := HF.out _ hv; clear hv)
      | (go_at_call 57; refine (H2.out _ HV5.out).mono ?_; rintro e w6 ⟨rfl, hv⟩; have HV6 := Lib.hid (HV5.out.trans (hv.mono HV5.out.size)); clear hv))
    exact bodyPost_ret (v := .tuple #[.slice none 0 0, .int .i64 2]) (by simp [results, Tryz.results43, go_sem]) rfl ⟨rfl, HA.out.trans (HV6.out.mono HA.out.size)⟩

set_option maxRecDepth 100000 in
set_option maxHeartbeats 4000000 in
/-- gate.Proof where all is as defined -/
theorem proof_ok (pa ca sa : Option Addr) (lp cp lc cc m sc : Nat) (P : Nat → P8) (C : Nat → C8) (s : Nat → Int) (w : World) (HP : NetP lp P lc C) (HG : gatsB lc C s m = true) (hm : m ≤ 1000000) (H : Hid (Ne8 w pa ca lp lc P C)) (HO : Hid (IntSl w sa m s)) :
    Calls Tryz.prog 43 #[.agg #[.slice pa lp cp, .slice ca lc cc], .slice sa m sc] w fun e w' => (∃ v, e = .returned (.tuple #[v, .int .i64 (if (cutL lp P lc C (emF lc C s m) false).isSome then 0 else 5)]) ∧ CutAt w' v (cutL lp P lc C (emF lc C s m) false)) ∧ Below w.heap.size w w' := by
  have hl7 := HP.l7
  have hc10 := HP.c10
  obtain ⟨W0, hW0⟩ : ∃ W0, W0 = w.alloc (.cells #[.slice pa lp cp, .slice ca lc cc] 25) := ⟨_, rfl⟩
  have hA : Below w.heap.size w W0 := by rw [hW0]; exact (Below.refl _ _).alloc (Nat.le_refl _) _
  have HF : Hid (∀ w2, Below W0.heap.size W0 w2 → w2.cell? ⟨w.heap.size, 0, none⟩ = some (.slice pa lp cp) ∧ w2.cell? ⟨w.heap.size, 1, none⟩ = some (.slice ca lc cc)) := Lib.hid fun w2 h => by
    rw [hW0] at h
    exact ⟨(box_cells h).1, (box_cells h).2.1⟩
  have HN : Hid (∀ w2, Below W0.heap.size W0 w2 → Hid (Ne8 w2 pa ca lp lc P C)) := Lib.hid fun w2 h => Lib.hid (H.out.below (hA.trans (h.mono hA.size)))
  have HOS : Hid (∀ w2, Below W0.heap.size W0 w2 → Hid (IntSl w2 sa m s)) := Lib.hid fun w2 h => Lib.hid (HO.out.below (hA.trans (h.mono hA.size)))
  have H1 : Hid (Calls Tryz.prog 56 #[.agg #[.slice pa lp cp, .slice ca lc cc]] W0 fun e w' => e = .returned (.bool true) ∧ Below W0.heap.size W0 w') := Lib.hid (by
    have h1 := isNet_w pa ca lp cp lc cc P C W0 (by omega) (by omega) (HN.out _ (Below.refl _ _))
    rw [netV_iff.2 HP] at h1; exact h1)
  have H2 : Hid (∀ w2, Below W0.heap.size W0 w2 → Calls Tryz.prog 57 #[.agg #[.slice pa lp cp, .slice ca lc cc], .slice sa m sc] w2 fun e w' => e = .returned (.bool true) ∧ Below w2.heap.size w2 w') := Lib.hid fun w2 h => by
    have h1 := areGates_w pa ca sa lp cp lc cc m sc P C s w2 (by omega) hm (HN.out _ h) (HOS.out _ h)
    rw [HG] at h1; exact h1
  have HOB : Hid (∀ i, i < m → 0 ≤ s i ∧ s i < 10) := Lib.hid fun i hi => by have := gatsB_inc HG i hi; omega
  have H4 : Hid (∀ w2, Below W0.heap.size W0 w2 → Calls Tryz.prog 87 #[.agg #[.slice pa lp cp, .slice ca lc cc], .slice sa m sc] w2 fun e w' => e = .returned (.agg (opC pa ca lp cp lc cc (emF lc C s m))) ∧ Below w2.heap.size w2 w') := Lib.hid fun w2 h => emptied_w pa ca sa lp cp lc cc m sc P C s w2 hc10 hm HOB (HN.out _ h) (HOS.out _ h)
  have H5 : Hid (∀ w2, Below W0.heap.size W0 w2 → Calls Tryz.prog 66 #[.agg (opC pa ca lp cp lc cc (emF lc C s m))] w2 fun e w' => (∃ v, e = .returned (.tuple #[v, .bool (cutL lp P lc C (emF lc C s m) false).isSome]) ∧ CutAt w' v (cutL lp P lc C (emF lc C s m) false)) ∧ Below w2.heap.size w2 w') := Lib.hid fun w2 h => firstCut_w pa ca lp cp lc cc P C (emF lc C s m) w2 (Lib.hid HP.b) (HN.out _ h)
  have HA := Lib.hid hA
  obtain ⟨f0, f1⟩ := HF.out _ (Below.refl _ _)
  rw [hW0] at f0 f1
  obtain ⟨op, hop⟩ : ∃ op, emF lc C s m = op := ⟨_, rfl⟩
  rw [hop] at H4 H5 ⊢
  obtain ⟨cu, hcu⟩ : ∃ cu, cutL lp P lc C op false = cu := ⟨_, rfl⟩
  rw [hcu] at H5 ⊢
  simp only [opC] at H4 H5
  clear hA H HO hop hcu HG HP
  have HOR : Hid (∀ v w, Calls Tryz.prog 65 #[v, .bool cu.isSome] w fun e w' => e = .returned (.tuple #[if cu.isSome then v else .slice none 0 0, .int .i64 (if cu.isSome then 0 else 5)]) ∧ w' = w) := Lib.hid fun v w => orNone_w v cu.isSome w
  cases cu with
  | none =>
    simp only [Option.isSome_none, Bool.false_eq_true, if_false] at H5 HOR ⊢
    go_enter Tryz.func43, Tryz.ntmps43
    go_wp2_with (first
      | (go_at_call 56; rw [← hW0]; refine H1.out.mono ?_; rintro e w5 ⟨rfl, hv⟩; clear hW0 f0 f1; have HV5 := Lib.hid hv; obtain ⟨g0, g1⟩ := HF.out _ hv; clear hv)
      | (go_at_call 57; refine (H2.out _ HV5.out).mono ?_; rintro e w6 ⟨rfl, hv⟩; have HV6 := Lib.hid (HV5.out.trans (hv.mono HV5.out.size)); clear hv g0 g1; obtain ⟨g0, g1⟩ := HF.out _ HV6.out)
      | (go_at_call 87; refine (H4.out _ HV6.out).mono ?_; rintro e w8 ⟨rfl, hv⟩; have HV8 := Lib.hid (HV6.out.trans (hv.mono HV6.out.size)); clear hv g0 g1)
      | (go_at_call 66; refine (H5.out _ HV8.out).mono ?_; rintro e w9 ⟨⟨v, rfl, hc⟩, hv⟩; have HC9 := Lib.hid hc; have HV9 := Lib.hid (HV8.out.trans (hv.mono HV8.out.size)); clear hc hv)
      | (go_at_call 65; refine (HOR.out v w9).mono ?_; rintro e w10 ⟨rfl, rfl⟩))
    exact bodyPost_ret (v := .tuple #[.slice none 0 0, .int .i64 5]) (by simp [results, Tryz.results43, go_sem]) rfl ⟨⟨_, rfl, rfl⟩, HA.out.trans (HV9.out.mono HA.out.size)⟩
  | some L =>
    simp only [Option.isSome_some, if_true] at H5 HOR ⊢
    go_enter Tryz.func43, Tryz.ntmps43
    go_wp2_with (first
      | (go_at_call 56; rw [← hW0]; refine H1.out.mono ?_; rintro e w5 ⟨rfl, hv⟩; clear hW0 f0 f1; have HV5 := Lib.hid hv; obtain ⟨g0, g1⟩ := HF.out _ hv; clear hv)
      | (go_at_call 57; refine (H2.out _ HV5.out).mono ?_; rintro e w6 ⟨rfl, hv⟩; have HV6 := Lib.hid (HV5.out.trans (hv.mono HV5.out.size)); clear hv g0 g1; obtain ⟨g0, g1⟩ := HF.out _ HV6.out)
      | (go_at_call 87; refine (H4.out _ HV6.out).mono ?_; rintro e w8 ⟨rfl, hv⟩; have HV8 := Lib.hid (HV6.out.trans (hv.mono HV6.out.size)); clear hv g0 g1)
      | (go_at_call 66; refine (H5.out _ HV8.out).mono ?_; rintro e w9 ⟨⟨v, rfl, hc⟩, hv⟩; have HC9 := Lib.hid hc; have HV9 := Lib.hid (HV8.out.trans (hv.mono HV8.out.size)); clear hc hv)
      | (go_at_call 65; refine (HOR.out v w9).mono ?_; rintro e w10 ⟨rfl, rfl⟩))
    exact bodyPost_ret (v := .tuple #[v, .int .i64 0]) (by simp [results, Tryz.results43, go_sem]) rfl ⟨⟨_, rfl, HC9.out⟩, HA.out.trans (HV9.out.mono HA.out.size)⟩

theorem one_sl {w w1 : World} {x : Nat} {T : TypeId} (hb : Below (w.alloc (.cells #[.int .i64 (x : Int)] T)).heap.size (w.alloc (.cells #[.int .i64 (x : Int)] T)) w1) : IntSl w1 (some ⟨w.heap.size, 0, none⟩) 1 (lgI [x]) := by
  refine .inr ⟨w.heap.size, 0, rfl, by have := hb.size; simp at this; omega, fun i hi => ?_⟩
  obtain rfl : i = 0 := by omega
  exact ((bcell hb).1 _ _ (by simp)).trans (al_top rfl _ _)
theorem one_gate {lc : Nat} {C : Nat → C8} {x : Nat} (h : x < lc) (hg : (C x).ga = true) : gatsB lc C (lgI [x]) 1 = true := gats_list (L := [x]) (by simp) fun y hy => by simp at hy; subst hy; exact ⟨h, hg⟩
/-- whether a channel can be emptied -/
def canV (lp : Nat) (P : Nat → P8) (lc : Nat) (C : Nat → C8) (x : Nat) : Bool := fedV lp P lc C (emF lc C (lgI [x]) 1) false

set_option maxRecDepth 100000 in
set_option maxHeartbeats 4000000 in
theorem canBe_w (pa ca sa : Option Addr) (lp cp lc cc m sc : Nat) (P : Nat → P8) (C : Nat → C8) (s : Nat → Int) (w : World) (HP : Hid (NetP lp P lc C)) (HB : Hid (∀ i, i < m → 0 ≤ s i ∧ s i < 10)) (hm : m ≤ 1000000) (H : Hid (Ne8 w pa ca lp lc P C)) (HO : Hid (IntSl w sa m s)) :
    Calls Tryz.prog 90 #[.agg #[.slice pa lp cp, .slice ca lc cc], .slice sa m sc] w fun e w' => e = .returned (.bool (fedV lp P lc C (emF lc C s m) false)) ∧ Below w.heap.size w w' := by
  have hc10 := HP.out.c10
  obtain ⟨W0, hW0⟩ : ∃ W0, W0 = w.alloc (.cells #[.slice pa lp cp, .slice ca lc cc] 25) := ⟨_, rfl⟩
  have hA : Below w.heap.size w W0 := by rw [hW0]; exact (Below.refl _ _).alloc (Nat.le_refl _) _
  have HF : Hid (∀ w2, Below W0.heap.size W0 w2 → w2.cell? ⟨w.heap.size, 0, none⟩ = some (.slice pa lp cp) ∧ w2.cell? ⟨w.heap.size, 1, none⟩ = some (.slice ca lc cc)) := Lib.hid fun w2 h => by
    rw [hW0] at h
    exact ⟨(box_cells h).1, (box_cells h).2.1⟩
  have HN : Hid (∀ w2, Below W0.heap.size W0 w2 → Hid (Ne8 w2 pa ca lp lc P C)) := Lib.hid fun w2 h => Lib.hid (H.out.below (hA.trans (h.mono hA.size)))
  have H4 : Hid (∀ w2, Below W0.heap.size W0 w2 → Calls Tryz.prog 87 #[.agg #[.slice pa lp cp, .slice ca lc cc], .slice sa m sc] w2 fun e w' => e = .returned (.agg (opC pa ca lp cp lc cc (emF lc C s m))) ∧ Below w2.heap.size w2 w') := Lib.hid fun w2 h => emptied_w pa ca sa lp cp lc cc m sc P C s w2 hc10 hm HB (HN.out _ h) (Lib.hid (HO.out.below (hA.trans (h.mono hA.size))))
  have H5 : Hid (∀ w2, Below W0.heap.size W0 w2 → Calls Tryz.prog 64 #[.agg (opC pa ca lp cp lc cc (emF lc C s m)), .int .i64 0] w2 fun e w' => e = .returned (.bool (fedV lp P lc C (emF lc C s m) false)) ∧ Below w2.heap.size w2 w') := Lib.hid fun w2 h => isFed_w pa ca lp cp lc cc P C (emF lc C s m) false w2 (Lib.hid HP.out.b) (HN.out _ h)
  have HA := Lib.hid hA
  obtain ⟨g0, g1⟩ := HF.out _ (Below.refl _ _)
  rw [hW0] at g0 g1
  obtain ⟨op, hop⟩ : ∃ op, emF lc C s m = op := ⟨_, rfl⟩
  rw [hop] at H4 H5 ⊢
  obtain ⟨b, hb⟩ : ∃ b, fedV lp P lc C op false = b := ⟨_, rfl⟩
  rw [hb] at H5 ⊢
  simp only [opC] at H4 H5
  clear hA H HO hop hb
  go_enter Tryz.func90, Tryz.ntmps90
  go_wp2_with (first
    | (go_at_call 87; rw [← hW0]; refine (H4.out _ (Below.refl _ _)).mono ?_; rintro e w5 ⟨rfl, hv⟩; clear hW0 g0 g1; have HV5 := Lib.hid hv; clear hv)
    | (go_at_call 64; refine (H5.out _ HV5.out).mono ?_; rintro e w6 ⟨rfl, hv⟩; have HV6 := Lib.hid (HV5.out.trans (hv.mono HV5.out.size)); clear hv))
  go_ret
  exact ⟨rfl, HA.out.trans (HV6.out.mono HA.out.size)⟩

set_option maxRecDepth 100000 in
set_option maxHeartbeats 4000000 in
theorem vital1_w (pa ca : Option Addr) (lp cp lc cc x xb : Nat) (P : Nat → P8) (C : Nat → C8) (w : World) (HP : Hid (NetP lp P lc C)) (hx : x < lc) (H : Hid (Ne8 w pa ca lp lc P C)) (h0 : w.cell? ⟨xb, 0, none⟩ = some (.slice pa lp cp)) (h1 : w.cell? ⟨xb, 1, none⟩ = some (.slice ca lc cc)) :
    Calls Tryz.prog 89 #[.int .i64 (x : Int), .pointer (some ⟨xb, 0, none⟩)] w fun e w' => e = .returned (.bool (canV lp P lc C x)) ∧ Below w.heap.size w w' := by
  have hc10 := HP.out.c10
  obtain ⟨W1, hW1⟩ : ∃ W1, W1 = w.alloc (.cells #[.int .i64 (x : Int)] 3) := ⟨_, rfl⟩
  have hb : Below w.heap.size w W1 := by rw [hW1]; exact (Below.refl _ _).alloc (Nat.le_refl _) _
  have HC : Hid (Calls Tryz.prog 90 #[.agg #[.slice pa lp cp, .slice ca lc cc], .slice (some ⟨w.heap.size, 0, none⟩) 1 1] W1 fun e w' => e = .returned (.bool (canV lp P lc C x)) ∧ Below W1.heap.size W1 w') := Lib.hid (canBe_w pa ca (some ⟨w.heap.size, 0, none⟩) lp cp lc cc 1 1 P C (lgI [x]) W1 HP (Lib.hid fun i hi => by
    obtain rfl : i = 0 := by omega
    have : lgI [x] 0 = (x : Int) := rfl
    omega) (by omega) (Lib.hid (H.out.below hb)) (Lib.hid (by rw [hW1]; exact one_sl (Below.refl _ _))))
  have HB := Lib.hid hb
  obtain ⟨b, hcb⟩ : ∃ b, canV lp P lc C x = b := ⟨_, rfl⟩
  rw [hcb] at HC ⊢
  clear hb H hcb
  go_enter Tryz.func89, Tryz.ntmps89
  go_wp2_with (go_at_call 90; rw [← hW1]; refine HC.out.mono ?_; rintro e w5 ⟨rfl, hv⟩)
  go_ret
  exact ⟨rfl, HB.out.trans (hv.mono HB.out.size)⟩

/-- the channels that cannot be emptied -/
def vitL (lp : Nat) (P : Nat → P8) (lc : Nat) (C : Nat → C8) : List Nat := (gatL C lc).filter fun x => !canV lp P lc C x

set_option maxRecDepth 100000 in
set_option maxHeartbeats 4000000 in
/-- slices.DeleteFunc of a list that is empty -/
theorem del0_w (a : Option Addr) (c : Nat) (cap : Value) (w : World) : Calls Tryz.prog 88 #[.slice a 0 c, .func (.func 89) #[] #[cap]] w fun e w' => e = .returned (.slice a 0 c) ∧ w = w' := by
  have HIX : Hid (Calls Tryz.prog 129 #[.slice a 0 c, .func (.func 89) #[] #[cap]] w fun e w' => e = .returned (.int .i64 (-1)) ∧ w = w') := Lib.hid (by
    go_enter Tryz.func129, Tryz.ntmps129
    go_wp2
    go_loopw [8] (fun ii wr => ii = .int .i64 0 ∧ wr = w) (fun ii _ => 0)
    case atStart => exact ⟨rfl, rfl⟩
    case round =>
      obtain ⟨rfl, rfl⟩ := hrel
      go_wp2
      go_ret
      exact ⟨rfl, rfl⟩)
  go_enter Tryz.func88, Tryz.ntmps88
  go_wp2_with (go_at_call 129; refine HIX.out.mono ?_; rintro e w5 ⟨rfl, rfl⟩)
  go_ret
  exact ⟨rfl, rfl⟩

set_option maxRecDepth 100000 in
set_option maxHeartbeats 4000000 in
theorem vital_w (pa ca : Option Addr) (lp cp lc cc : Nat) (P : Nat → P8) (C : Nat → C8) (w : World) (HP : Hid (NetP lp P lc C)) (H : Hid (Ne8 w pa ca lp lc P C)) :
    Calls Tryz.prog 44 #[.agg #[.slice pa lp cp, .slice ca lc cc]] w fun e w' => (∃ sa sc, e = .returned (.tuple #[.slice sa (vitL lp P lc C).length sc, .int .i64 0]) ∧ IntSl w' sa (vitL lp P lc C).length (lgI (vitL lp P lc C))) ∧ Below w.heap.size w w' := by
  have hc10 := HP.out.c10
  have hl7 := HP.out.l7
  have hmf : ∀ (fn : Fn) (first cap : Array Value) (w : World), (Instr.makeFunc fn first cap).run Tryz.prog w = .ok (.func fn first cap) w := fun _ _ _ _ => rfl
  obtain ⟨W0, hW0⟩ : ∃ W0, W0 = w.alloc (.cells #[.slice pa lp cp, .slice ca lc cc] 25) := ⟨_, rfl⟩
  have hA : Below w.heap.size w W0 := by rw [hW0]; exact (Below.refl _ _).alloc (Nat.le_refl _) _
  have HF : Hid (∀ w2, Below W0.heap.size W0 w2 → w2.cell? ⟨w.heap.size, 0, none⟩ = some (.slice pa lp cp) ∧ w2.cell? ⟨w.heap.size, 1, none⟩ = some (.slice ca lc cc)) := Lib.hid fun w2 h => by
    rw [hW0] at h
    exact ⟨(box_cells h).1, (box_cells h).2.1⟩
  have HN : Hid (∀ w2, Below W0.heap.size W0 w2 → Hid (Ne8 w2 pa ca lp lc P C)) := Lib.hid fun w2 h => Lib.hid (H.out.below (hA.trans (h.mono hA.size)))
  have H1 : Hid (∀ w2, Below W0.heap.size W0 w2 → Calls Tryz.prog 56 #[.agg #[.slice pa lp cp, .slice ca lc cc]] w2 fun e w' => e = .returned (.bool true) ∧ Below w2.heap.size w2 w') := Lib.hid fun w2 h => by
    have h1 := isNet_w pa ca lp cp lc cc P C w2 (by omega) (by omega) (HN.out _ h)
    rw [netV_iff.2 HP.out] at h1; exact h1
  have HG : Hid (∀ w2, Below W0.heap.size W0 w2 → Calls Tryz.prog 79 #[.agg #[.slice pa lp cp, .slice ca lc cc]] w2 fun e w' => (∃ v, e = .returned v ∧ w'.ownsRow w2.heap.size 3 1 v (gatL C lc).length ((gatL C lc).map iv1)) ∧ Below w2.heap.size w2 w') := Lib.hid fun w2 h => gatesOf_w pa ca lp cp lc cc P C w2 (by omega) (HN.out _ h)
  have HD : Hid (∀ v w2 w3, Below W0.heap.size W0 w2 → w3.ownsRow w2.heap.size 3 1 v (gatL C lc).length ((gatL C lc).map iv1) → Below w2.heap.size w2 w3 → Calls Tryz.prog 88 #[v, .func (.func 89) #[] #[.pointer (some ⟨w.heap.size, 0, none⟩)]] w3 fun e w' => (∃ sa sc, e = .returned (.slice sa (vitL lp P lc C).length sc) ∧ IntSl w' sa (vitL lp P lc C).length (lgI (vitL lp P lc C))) ∧ Below W0.heap.size W0 w') := Lib.hid fun v w2 w3 h ho hb => by
    have h3 := h.trans (hb.mono h.size)
    have hle := gatL_le (C := C) lc
    rcases Nat.eq_zero_or_pos (gatL C lc).length with h0 | h0
    · obtain ⟨sa, cap, rfl, _, _⟩ := own_any ho
      rw [h0]
      have hv0 : vitL lp P lc C = [] := by unfold vitL; rw [List.length_eq_zero_iff.1 h0]; rfl
      refine (del0_w sa cap _ w3).mono ?_
      rintro e w' ⟨rfl, rfl⟩
      exact ⟨⟨sa, cap, by rw [hv0]; rfl, .inl (by rw [hv0]; rfl)⟩, h3⟩
    · obtain ⟨g, cap, rfl, hcap, hio⟩ := ownOf ho h0
      refine (del89_w (canV lp P lc C) g (gatL C lc).length cap w2.heap.size (gatL C lc) (.pointer (some ⟨w.heap.size, 0, none⟩)) w3 rfl (by omega) hcap (Lib.hid hio) hb.size (Lib.hid fun d hd w4 h4 => ?_)).mono ?_
      · have h5 := h3.trans (h4.mono h.size)
        obtain ⟨c0, c1⟩ := HF.out _ h5
        exact vital1_w pa ca lp cp lc cc (gatL C lc)[d] w.heap.size P C w4 HP (gatL_mem.1 (List.getElem_mem hd)).1 (HN.out _ h5) c0 c1
      · rintro e w' ⟨⟨k, rfl, rfl, hs⟩, hb2⟩
        exact ⟨⟨_, cap, rfl, hs⟩, h3.trans (hb2.mono h.size)⟩
  have HA := Lib.hid hA
  obtain ⟨g0, g1⟩ := HF.out _ (Below.refl _ _)
  rw [hW0] at g0 g1
  obtain ⟨vl, hvl⟩ : ∃ l, vitL lp P lc C = l := ⟨_, rfl⟩
  rw [hvl] at HD ⊢
  obtain ⟨vn, hvn⟩ : ∃ n, vl.length = n := ⟨_, rfl⟩
  rw [hvn] at HD ⊢
  obtain ⟨gn, hgn⟩ : ∃ n, (gatL C lc).length = n := ⟨_, rfl⟩
  rw [hgn] at HD HG
  clear hA H hvl hvn hgn
  go_enter Tryz.func44, Tryz.ntmps44
  go_wp2_with (first
    | (go_at_call 56; rw [← hW0]; refine (H1.out _ (Below.refl _ _)).mono ?_; rintro e w5 ⟨rfl, hv⟩; clear hW0 g0 g1; have HV5 := Lib.hid hv; obtain ⟨g0, g1⟩ := HF.out _ hv; clear hv)
    | (go_at_call 79; refine (HG.out _ HV5.out).mono ?_; rintro e w6 ⟨⟨v, rfl, ho⟩, hv⟩; have HD6 := Lib.hid (HD.out v w5 w6 HV5.out ho hv); clear ho hv g0 g1)
    | (go_at_call 88; refine HD6.out.mono ?_; rintro e w7 ⟨⟨sa, sc, rfl, hs⟩, hv⟩))
  exact bodyPost_ret (v := .tuple #[.slice sa vn sc, .int .i64 0]) (by simp [results, Tryz.results44, go_sem]) rfl ⟨⟨sa, sc, rfl, hs⟩, HA.out.trans (hv.mono HA.out.size)⟩

set_option maxRecDepth 100000 in
set_option maxHeartbeats 2000000 in
theorem vital_bad (pa ca : Option Addr) (lp cp lc cc : Nat) (P : Nat → P8) (C : Nat → C8) (w : World) (hlp : lp ≤ 1000000) (hlc : lc ≤ 1000000) (hq : netV lp P lc C = false) (H : Hid (Ne8 w pa ca lp lc P C)) :
    Calls Tryz.prog 44 #[.agg #[.slice pa lp cp, .slice ca lc cc]] w fun e w' => e = .returned (.tuple #[.slice none 0 0, .int .i64 2]) ∧ Below w.heap.size w w' := by
  have hA : Below w.heap.size w (w.alloc (.cells #[.slice pa lp cp, .slice ca lc cc] 25)) := (Below.refl _ _).alloc (Nat.le_refl _) _
  have HC := Lib.hid (isNet_w pa ca lp cp lc cc P C (w.alloc (.cells #[.slice pa lp cp, .slice ca lc cc] 25)) hlp hlc (Lib.hid (H.out.below hA)))
  rw [hq] at HC
  clear hA H hq
  go_enter Tryz.func44, Tryz.ntmps44
  go_wp2_with (go_at_call 56; refine HC.out.mono ?_; rintro e w5 ⟨rfl, hv⟩)
  exact bodyPost_ret (v := .tuple #[.slice none 0 0, .int .i64 2]) (by simp [results, Tryz.results44, go_sem]) rfl ⟨rfl, below_al hv⟩
end Go.Kn
