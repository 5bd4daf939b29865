/- Contracts of functions that the laws of this seat call, or the evaluator of closed calls and its runs. Conditions: as each theorem states them. -/
import Derived.Test.YtddlghdglknloaaGreatDoorP2
import Derived.Lib.SliceRun
set_option linter.unusedVariables false
set_option linter.unusedSimpArgs false
namespace Go.Kn
open Go Go.Proofs Go.RowKit

theorem IntOwn.setCells {base g k : Nat} {s : Nat → Int} : ∀ (vs : List Value) (o : Nat) (w : World), IntOwn w base g k s → k ≤ o → IntOwn (w.setCells g o vs) base g k s
  | [], _, _, h, _ => h
  | v :: vs, o, w, h, hk => by
    refine IntOwn.setCells vs (o + 1) _ ⟨h.lo, by simpa using h.lt, fun i hi => ?_, fun i hi => by simpa using h.fr i hi⟩ (by omega)
    exact (World.cell?_setCell_other _ _ _ _ (by simp <;> omega)).trans (h.at_ i hi)
theorem below_cells {B g : Nat} (hb : B ≤ g) : ∀ (vs : List Value) (o : Nat) (a w : World), Below B a w → Below B a (w.setCells g o vs)
  | [], _, _, _, h => h
  | v :: vs, o, a, w, h => below_cells hb vs (o + 1) a _ (RowKit.Below.setCell (p := ⟨g, o, none⟩) h hb _)
theorem filter_take_succ {p : Nat → Bool} {l : List Nat} {j : Nat} (hj : j < l.length) : (l.take (j + 1)).filter p = (l.take j).filter p ++ (if p l[j] then [l[j]] else []) := by
  rw [List.take_add_one, List.getElem?_eq_getElem hj, Option.toList_some, List.filter_append]
  congr 1
  cases h : p l[j] <;> simp [h]
theorem lgI_snoc {L : List Nat} {v x : Nat} : lgI (L ++ [v]) x = if x < L.length then lgI L x else if x = L.length then (v : Int) else 0 := by
  unfold lgI
  simp only [List.getD_eq_getElem?_getD]
  by_cases h : x < L.length
  · rw [if_pos h, List.getElem?_append_left h]
  · rw [if_neg h, List.getElem?_append_right (by omega)]
    by_cases h2 : x = L.length
    · subst h2; simp
    · rw [if_neg h2, List.getElem?_eq_none (by simp; omega)]; simp

set_option maxRecDepth 100000 in
set_option maxHeartbeats 2000000 in
/-- slices.IndexFunc with a literal of gate.Vital: the first element of which it is so -/
theorem idx89_w (p : Nat → Bool) (g n c base : Nat) (l : List Nat) (cap : Value) (w : World) (hl : l.length = n) (hn2 : n ≤ 1000) (HN : Hid (NumAt w g 0 n (lgI l))) (hg : g < w.heap.size) (hgb : base ≤ w.heap.size)
    (HG : Hid (∀ (d : Nat) (hd : d < l.length) w2, Below w.heap.size w w2 → Calls Tryz.prog 89 #[.int .i64 ((l[d] : Nat) : Int), cap] w2 fun e w' => e = .returned (.bool (p l[d])) ∧ Below w2.heap.size w2 w')) :
    Calls Tryz.prog 129 #[.slice (some ⟨g, 0, none⟩) n c, .func (.func 89) #[] #[cap]] w fun e w' => (∃ r : Int, e = .returned (.int .i64 r) ∧ ((r = -1 ∧ l.filter (fun x => !p x) = l) ∨ ∃ i : Nat, r = (i : Int) ∧ i < n ∧ (l.take i).filter (fun x => !p x) = l.take i ∧ ∃ h : i < l.length, p l[i] = true)) ∧ Below w.heap.size w w' := by
  have HL := Lib.hid hl
  clear hl
  go_enter Tryz.func129, Tryz.ntmps129
  go_wp2
  go_loopw [8] (fun ii wr => ∃ k : Nat, k ≤ n ∧ ii = .int .i64 (k : Int) ∧ (l.take k).filter (fun x => !p x) = l.take k ∧ Below w.heap.size w wr) (fun ii _ => n - (Go.RowKit.intOf ii).toNat)
  case atStart => exact ⟨0, Nat.zero_le _, rfl, by simp, Below.refl _ _⟩
  case round =>
    obtain ⟨k, hk, rfl, hf, hbr⟩ := hrel
    have HFI := Lib.hid hf
    have HBR := Lib.hid hbr
    clear hf hbr
    by_cases hlt : k < n
    · have hkl : k < l.length := by rw [HL.out]; exact hlt
      have n1 : (0 : Int) ≤ (k : Int) := by omega
      have n2 : (k : Int) < (n : Int) := by omega
      have y1 := (HN.out.below hg HBR.out) k hlt
      rw [lgI_get hkl, Nat.zero_add] at y1
      have HGK := Lib.hid (HG.out k hkl wr HBR.out)
      have HST : Hid ((l.take (k + 1)).filter (fun x => !p x) = (l.take k).filter (fun x => !p x) ++ (if !p l[k] then [l[k]] else [])) := Lib.hid (filter_take_succ hkl)
      have HTK : Hid (l.take (k + 1) = l.take k ++ [l[k]]) := Lib.hid (by rw [List.take_add_one, List.getElem?_eq_getElem hkl, Option.toList_some])
      obtain ⟨v, hv⟩ : ∃ v, l[k] = v := ⟨_, rfl⟩
      have HV := Lib.hid hv
      rw [hv] at y1 HGK HST HTK
      clear hv
      cases hp : p v with
      | true =>
        rw [hp] at HGK
        have HPV := Lib.hid hp
        clear hp
        go_wp2_with (go_at_call 89; refine HGK.out.mono ?_; rintro e w5 ⟨rfl, hv5⟩)
        go_ret
        exact ⟨⟨_, rfl, .inr ⟨k, rfl, hlt, HFI.out, by have := HL.out; omega, by rw [HV.out]; exact HPV.out⟩⟩, HBR.out.trans (hv5.mono HBR.out.size)⟩
      | false =>
        rw [hp] at HGK HST
        clear hp
        go_wp2_with (go_at_call 89; refine HGK.out.mono ?_; rintro e w5 ⟨rfl, hv5⟩)
        go_roundw
        case rel => exact ⟨k + 1, by omega, by go_num, by rw [HST.out, HTK.out, HFI.out]; simp, HBR.out.trans (hv5.mono HBR.out.size)⟩
        case measure => simp [Go.RowKit.intOf]; omega
    · obtain rfl : k = n := by omega
      go_wp2
      go_ret
      exact ⟨⟨_, rfl, .inl ⟨rfl, by have := HFI.out; rwa [List.take_of_length_le (by have := HL.out; omega)] at this⟩⟩, HBR.out⟩

/-- what the array holds while elements are taken out: the first i are those that stay, those from j on are as they were -/
def DelS (p : Nat → Bool) (l : List Nat) (i j : Nat) (f : Nat → Int) : Prop := i = ((l.take j).filter fun x => !p x).length ∧ (∀ x, x < i → f x = lgI ((l.take j).filter fun x => !p x) x) ∧ ∀ x, j ≤ x → f x = lgI l x
theorem DelS.keep {p : Nat → Bool} {l : List Nat} {i j : Nat} {f : Nat → Int} (h : DelS p l i j f) (hj : j < l.length) (hp : p l[j] = false) (hij : i ≤ j) : DelS p l (i + 1) (j + 1) (updI f i ((l[j] : Nat) : Int)) := by
  obtain ⟨h1, h2, h3⟩ := h
  unfold DelS
  rw [filter_take_succ hj]
  simp only [hp, Bool.not_false, if_true]
  refine ⟨by simp [h1], fun x hx => ?_, fun x hx => ?_⟩
  · unfold updI
    rw [lgI_snoc, ← h1]
    by_cases e : x = i
    · subst e; simp
    · rw [if_neg e, if_pos (by omega)]; exact h2 x (by omega)
  · unfold updI
    rw [if_neg (by omega)]
    exact h3 x (by omega)
theorem DelS.drop {p : Nat → Bool} {l : List Nat} {i j : Nat} {f : Nat → Int} (h : DelS p l i j f) (hj : j < l.length) (hp : p l[j] = true) : DelS p l i (j + 1) f := by
  obtain ⟨h1, h2, h3⟩ := h
  unfold DelS
  rw [filter_take_succ hj]
  simp only [hp, Bool.not_true, Bool.false_eq_true, if_false, List.append_nil]
  exact ⟨h1, h2, fun x hx => h3 x (by omega)⟩

set_option maxRecDepth 100000 in
set_option maxHeartbeats 4000000 in
/-- slices.DeleteFunc with a literal of gate.Vital -/
theorem del89_w (p : Nat → Bool) (g n c base : Nat) (l : List Nat) (cap : Value) (w : World) (hl : l.length = n) (hn2 : n ≤ 1000) (hnc : n ≤ c) (HO : Hid (IntOwn w base g n (lgI l))) (hgb : base ≤ w.heap.size)
    (HG : Hid (∀ (d : Nat) (hd : d < l.length) w2, Below base w w2 → Calls Tryz.prog 89 #[.int .i64 ((l[d] : Nat) : Int), cap] w2 fun e w' => e = .returned (.bool (p l[d])) ∧ Below w2.heap.size w2 w')) :
    Calls Tryz.prog 88 #[.slice (some ⟨g, 0, none⟩) n c, .func (.func 89) #[] #[cap]] w fun e w' => (∃ k, e = .returned (.slice (some ⟨g, 0, none⟩) k c) ∧ k = (l.filter fun x => !p x).length ∧ IntSl w' (some ⟨g, 0, none⟩) k (lgI (l.filter fun x => !p x))) ∧ Below base w w' := by
  have HIX := Lib.hid (idx89_w p g n c base l cap w hl hn2 (Lib.hid HO.out.at_) HO.out.lt hgb (Lib.hid fun d hd w2 h => HG.out d hd w2 (h.mono hgb)))
  have HL := Lib.hid hl
  clear hl
  go_enter Tryz.func88, Tryz.ntmps88
  go_wp2_with (go_at_call 129; refine HIX.out.mono ?_; rintro e w5 ⟨⟨r, rfl, hr⟩, hv⟩; have HV5 := Lib.hid (hv.mono hgb); have HO5 := Lib.hid (HO.out.below hv); clear hv; rcases hr with ⟨rfl, hfl⟩ | ⟨i, hri, hi, hfl, hil, hpi⟩ <;> (try (have HRI := Lib.hid hri; have n0 : (r == -1) = false := (by rw [beq_eq_false_iff_ne]; omega); have wr0 : IntKind.i64.wrap (r + 1) = r + 1 := (by rw [IntKind.wrap_i64]; omega); clear hri)))
  · go_wp2
    go_ret
    exact ⟨⟨n, rfl, by rw [hfl]; exact HL.out.symm, by rw [hfl]; exact HO5.out.sl⟩, HV5.out⟩
  · have HD0 : Hid (DelS p l i (i + 1) (lgI l)) := Lib.hid (by
      have h0 : DelS p l i i (lgI l) := by
        refine ⟨by rw [hfl, List.length_take]; omega, fun x hx => ?_, fun x _ => rfl⟩
        rw [hfl]
        unfold lgI
        simp only [List.getD_eq_getElem?_getD]
        rw [List.getElem?_take, if_pos hx]
      exact h0.drop hil hpi)
    have hz5 : base ≤ w5.heap.size := by have := HV5.out.size; omega
    have HZ5 := Lib.hid hz5
    clear hfl hpi hil hz5
    go_wp2
    clear n0
    go_loopw [5, 6] (fun u v wr => ∃ a j : Nat, j ≤ n ∧ a < j ∧ u = .int .i64 (a : Int) ∧ v = .int .i64 (j : Int) ∧ (∃ f, IntOwn wr base g n f ∧ DelS p l a j f) ∧ Below base w wr ∧ base ≤ wr.heap.size) (fun _ v _ => n - (Go.RowKit.intOf v).toNat)
    case atStart => exact ⟨i, i + 1, by omega, by omega, by rw [HRI.out], by rw [HRI.out]; rfl, ⟨_, HO5.out, HD0.out⟩, HV5.out, HZ5.out⟩
    case round =>
      obtain ⟨a, j, hj, haj, rfl, rfl, ⟨f, ho, hd⟩, hbr, hzr⟩ := hrel
      have HOR := Lib.hid ho
      have HDR := Lib.hid hd
      have HBR := Lib.hid hbr
      have HZR := Lib.hid hzr
      have hl0 := HL.out
      clear ho hd hbr hzr
      by_cases hlt : j < n
      · have m1 : (0 : Int) ≤ (j : Int) := by omega
        have m2 : (j : Int) < (n : Int) := by omega
        have m3 : (0 : Int) ≤ (a : Int) := by omega
        have m4 : (a : Int) < (n : Int) := by omega
        have han : a < n := by omega
        have y1 := HOR.out.at_ j hlt
        rw [HDR.out.2.2 j (Nat.le_refl _), lgI_get (by omega), Nat.zero_add] at y1
        have HGJ := Lib.hid (HG.out j (by omega) wr HBR.out)
        have HKP : Hid (p l[j] = false → DelS p l (a + 1) (j + 1) (updI f a ((l[j] : Nat) : Int))) := Lib.hid fun h => HDR.out.keep (by omega) h (by omega)
        have HDP : Hid (p l[j] = true → DelS p l a (j + 1) f) := Lib.hid fun h => HDR.out.drop (by omega) h
        obtain ⟨v, hv⟩ : ∃ v, l[j] = v := ⟨_, rfl⟩
        rw [hv] at y1 HGJ HKP HDP
        clear hv hl0
        cases hp : p v with
        | true =>
          have HD2 := Lib.hid (HDP.out hp)
          rw [hp] at HGJ
          clear hp HKP HDP
          go_wp2_with (go_at_call 89; refine HGJ.out.mono ?_; rintro e w6 ⟨rfl, hv6⟩)
          go_roundw
          case rel => exact ⟨a, j + 1, by omega, by omega, by first | rfl | trivial, by go_num, ⟨f, HOR.out.below hv6, HD2.out⟩, HBR.out.trans (hv6.mono HZR.out), by have := hv6.size; have := HZR.out; omega⟩
          case measure => simp [Go.RowKit.intOf]; omega
        | false =>
          have HD2 := Lib.hid (HKP.out hp)
          rw [hp] at HGJ
          clear hp HKP HDP
          go_wp2_with (go_at_call 89; refine HGJ.out.mono ?_; rintro e w6 ⟨rfl, hv6⟩; have HO6 := Lib.hid (HOR.out.below hv6); have HV6 := Lib.hid hv6; clear hv6 y1; have y2 := HO6.out.fr a han; have y3 := HO6.out.at_ a han; rw [Nat.zero_add] at y3)
          go_roundw
          case rel => exact ⟨a + 1, j + 1, by omega, by omega, by go_num, by go_num, ⟨_, HO6.out.set han _, HD2.out⟩, RowKit.Below.setCell (p := ⟨g, a, none⟩) (HBR.out.trans (HV6.out.mono HZR.out)) HO6.out.lo _, by have := HV6.out.size; have := HZR.out; simp; omega⟩
          case measure => simp [Go.RowKit.intOf]; omega
      · obtain rfl : j = n := by omega
        have m1 : ¬ (j : Int) < (j : Int) := by omega
        have m3 : (0 : Int) ≤ (a : Int) := by omega
        have m4 : (a : Int) ≤ (j : Int) := by omega
        have m5 : ¬ c = a := by omega
        have m6 : (a : Int) ≤ (c : Int) := by omega
        have m7 : (j : Int) ≤ (c : Int) := by omega
        obtain ⟨d1, d2, d3⟩ := HDR.out
        rw [List.take_of_length_le (by omega)] at d1 d2
        have HD1 := Lib.hid d1
        have HD2 := Lib.hid d2
        clear d1 d2 d3 hl0
        have hcl : ∀ ty, (Builtin.clear_ #[26] ty #[.slice (some ⟨g, a, none⟩) (j - a) (c - a)]).run Tryz.prog wr = .ok (.tuple #[]) (wr.setCells g a (List.replicate (j - a) (.int .i64 0))) := fun ty => by
          exact Lib.run_clear_slice wr 26 3 ty (.int .i64 0) Tryz.underlying26 (fun w => by rfl) rfl rfl g a (j - a) (c - a) (by omega) (fun x hx => by have := HOR.out.at_ (a + x) (by omega); rw [Nat.zero_add] at this; rw [this]; rfl) (fun x hx => HOR.out.fr (a + x) (by omega))
        have HX := Lib.hid (show IntOwn (wr.setCells g a (List.replicate (j - a) (.int .i64 0))) base g a (lgI (l.filter fun x => !p x)) from
          IntOwn.setCells _ _ _ ((HOR.out.less (Nat.le_of_lt haj)).congr fun x hx => HD2.out x hx) (Nat.le_refl _))
        have HBX := Lib.hid (below_cells HOR.out.lo (List.replicate (j - a) (.int .i64 0)) a w wr HBR.out)
        go_wp2
        go_ret
        exact ⟨⟨a, rfl, HD1.out, HX.out.sl⟩, HBX.out⟩
end Go.Kn
