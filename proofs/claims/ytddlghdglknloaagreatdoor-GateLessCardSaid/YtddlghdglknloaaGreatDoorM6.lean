/- Contracts of functions that the laws of this seat call, or the evaluator of closed calls and its runs. Conditions: as each theorem states them. -/
import Derived.Test.YtddlghdglknloaaGreatDoorM2
set_option linter.unusedVariables false
set_option linter.unusedSimpArgs false
namespace Go.Kn
open Go Go.Proofs Go.RowKit

/-! the order of lists -/
def befL : List Nat → List Nat → Bool
  | _, [] => false
  | [], _ :: _ => true
  | x :: a, y :: b => if x = y then befL a b else decide (x < y)
theorem befL_irr : ∀ a, befL a a = false
  | [] => rfl
  | x :: a => by simp [befL, befL_irr a]
theorem befL_asym : ∀ (a b : List Nat), befL a b = true → befL b a = false
  | _, [], h => by simp [befL] at h
  | [], _ :: _, _ => rfl
  | x :: a, y :: b, h => by
    simp only [befL] at h ⊢
    by_cases e : x = y
    · subst e; simp only [if_true] at h ⊢; exact befL_asym a b h
    · rw [if_neg e] at h
      rw [if_neg (fun h2 => e h2.symm)]
      simp at h ⊢; omega
theorem lsL_sorted : ∀ (l : List Nat) (m : Nat), l.Pairwise (· < ·) → (lsL m l).Pairwise (fun a b => befL a b = true)
  | l, 0, _ => by simp [lsL]
  | [], m + 1, _ => by simp [lsL]
  | x :: t, m + 1, h => by
    rw [lsL_cons, List.pairwise_append]
    obtain ⟨h1, h2⟩ := List.pairwise_cons.1 h
    refine ⟨?_, lsL_sorted t (m + 1) h2, ?_⟩
    · rw [List.pairwise_map]
      exact (lsL_sorted t m h2).imp fun hab => by simpa [befL] using hab
    · intro a ha b hb
      obtain ⟨a', _, rfl⟩ := List.mem_map.1 ha
      obtain ⟨h3, h4⟩ := (lsL_iff (m + 1) t b).1 hb
      cases b with
      | nil => simp at h4
      | cons y b =>
        have hy : y ∈ t := h3.subset List.mem_cons_self
        have := h1 y hy
        simp only [befL]
        rw [if_neg (by omega)]
        simpa using this
theorem find_sorted {p : List Nat → Bool} {x : List Nat} : ∀ (Ls : List (List Nat)), Ls.Pairwise (fun a b => befL a b = true) → Ls.find? p = some x → ∀ y ∈ Ls, p y = true → befL y x = false
  | [], _, h, _, _, _ => by cases h
  | z :: Ls, hs, h, y, hy, hp => by
    obtain ⟨h1, h2⟩ := List.pairwise_cons.1 hs
    rw [List.find?_cons] at h
    cases hz : p z with
    | true =>
      rw [hz] at h
      cases h
      rcases List.mem_cons.1 hy with rfl | hy
      · exact befL_irr _
      · exact befL_asym _ _ (h1 y hy)
    | false =>
      rw [hz] at h
      rcases List.mem_cons.1 hy with rfl | hy
      · rw [hz] at hp; cases hp
      · exact find_sorted Ls h2 h y hy hp
/-- the first of the shortest lists: no other one is shorter, nor before it -/
theorem best_first {p : List Nat → Bool} {l : List Nat} (hl : l.Pairwise (· < ·)) {x : List Nat} (h : bestF p (allLs l) = some x) : p x = true ∧ x.Sublist l ∧ ∀ y, y.Sublist l → p y = true → x.length ≤ y.length ∧ (y.length = x.length → befL y x = false) := by
  obtain ⟨h1, h2, h3⟩ := (bestF_is p (allLs l)).2 x h
  refine ⟨h1, allLs_iff.1 (List.mem_of_find?_eq_some h3), fun y hy hp => ⟨h2 y (allLs_iff.2 hy) hp, fun he => ?_⟩⟩
  have h4 : (lsL x.length l).find? p = some x := by
    rw [← allLs_filter, List.find?_filter, ← h3]
    congr 1; funext y; rw [Bool.and_comm]; simp
  exact find_sorted _ (lsL_sorted l x.length hl) h4 y ((lsL_iff _ _ _).2 ⟨hy, he⟩) hp
theorem best_none {p : List Nat → Bool} {l : List Nat} (h : bestF p (allLs l) = none) : ∀ y, y.Sublist l → p y = false := fun y hy => (bestF_is p (allLs l)).1 h y (allLs_iff.2 hy)
theorem sub_range' : ∀ (k a : Nat) (l : List Nat), l.Pairwise (· < ·) → (∀ x ∈ l, a ≤ x ∧ x < a + k) → l.Sublist (List.range' a k)
  | _, _, [], _, _ => List.nil_sublist _
  | 0, a, x :: l, _, h => by have := h x List.mem_cons_self; omega
  | k + 1, a, x :: l, hs, h => by
    obtain ⟨h1, h2⟩ := List.pairwise_cons.1 hs
    have hx := h x List.mem_cons_self
    rw [List.range'_succ]
    by_cases e : x = a
    · subst e
      exact List.Sublist.cons_cons _ (sub_range' k _ l h2 fun y hy => by have := h1 y hy; have := h y (List.mem_cons_of_mem _ hy); omega)
    · refine List.Sublist.cons _ (sub_range' k _ (x :: l) hs fun y hy => ?_)
      rcases List.mem_cons.1 hy with rfl | hy
      · omega
      · have := h1 y hy; have := h y (List.mem_cons_of_mem _ hy); omega
theorem sub_range {n : Nat} {l : List Nat} (hs : l.Pairwise (· < ·)) (h : ∀ x ∈ l, x < n) : l.Sublist (List.range n) := by
  rw [List.range_eq_range']
  exact sub_range' n 0 l hs fun x hx => ⟨Nat.zero_le _, by have := h x hx; omega⟩
theorem range_inc (n : Nat) : (List.range n).Pairwise (· < ·) := List.pairwise_lt_range

/-! a list of ints that is one of numbers -/
def lstN (t : Nat → Int) (n : Nat) : List Nat := (List.range n).map fun i => (t i).toNat
theorem lstN_len {t : Nat → Int} {n : Nat} : (lstN t n).length = n := by simp [lstN]
theorem lstN_at {t : Nat → Int} {n : Nat} (h0 : ∀ i, i < n → 0 ≤ t i) {i : Nat} (hi : i < n) : lgI (lstN t n) i = t i := by
  have := h0 i hi
  simp only [lgI, lstN]
  rw [List.getD_eq_getElem?_getD]
  simp [hi]; omega
theorem lstN_mem {t : Nat → Int} {n : Nat} {x : Nat} : x ∈ lstN t n ↔ ∃ i, i < n ∧ (t i).toNat = x := by simp [lstN]
theorem lstN_inc {t : Nat → Int} {n : Nat} (h0 : ∀ i, i < n → 0 ≤ t i) (hi : ∀ i j, i < j → j < n → t i < t j) : (lstN t n).Pairwise (· < ·) := by
  unfold lstN
  rw [List.pairwise_map]
  refine (List.Pairwise.and_mem.1 (List.pairwise_lt_range (n := n))).imp fun {a b} h => ?_
  obtain ⟨h1, h2, h3⟩ := h
  have := hi a b h3 (List.mem_range.1 h2)
  have := h0 a (List.mem_range.1 h1)
  omega
theorem intSl_congr {w : World} {a : Option Addr} {n : Nat} {s t : Nat → Int} (h : IntSl w a n s) (he : ∀ i, i < n → s i = t i) : IntSl w a n t := by
  rcases h with h | ⟨A, O, h1, h2, h3⟩
  · exact .inl h
  · exact .inr ⟨A, O, h1, h2, fun i hi => by rw [← he i hi]; exact h3 i hi⟩
theorem intSl_lst {w : World} {a : Option Addr} {n : Nat} {t : Nat → Int} (h : IntSl w a n t) (h0 : ∀ i, i < n → 0 ≤ t i) : IntSl w a n (lgI (lstN t n)) := intSl_congr h fun i hi => (lstN_at h0 hi).symm

/-! flows that feed a network leave no cut -/
theorem sumL_ind {v x : Int} : ∀ {L : List Nat}, L.Nodup → sumL (fun i => if (i : Int) = x then v else 0) L = if memI L x then v else 0
  | [], _ => by simp [sumL, memI]
  | y :: L, hn => by
    obtain ⟨h1, h2⟩ := List.nodup_cons.1 hn
    have ih := sumL_ind (v := v) (x := x) h2
    simp only [sumL, ih]
    by_cases e : (y : Int) = x
    · have h3 : memI L x = false := by
        rw [← e, memI_nat]; simpa using h1
      have h4 : memI (y :: L) x = true := by rw [← e, memI_nat]; simp
      rw [h3, h4, if_pos e]; simp
    · have h4 : memI (y :: L) x = memI L x := by simp [memI, e]
      rw [h4, if_neg e]; omega
theorem sumL_add (g h : Nat → Int) : ∀ L : List Nat, sumL (fun i => g i + h i) L = sumL g L + sumL h L
  | [] => by simp [sumL]
  | x :: L => by simp only [sumL, sumL_add g h L]; omega
theorem sumL_congr {g h : Nat → Int} : ∀ {L : List Nat}, (∀ x ∈ L, g x = h x) → sumL g L = sumL h L
  | [], _ => rfl
  | x :: L, he => by simp only [sumL]; rw [he x List.mem_cons_self, sumL_congr fun y hy => he y (List.mem_cons_of_mem _ hy)]
theorem sumL_nonneg {g : Nat → Int} : ∀ {L : List Nat}, (∀ x ∈ L, 0 ≤ g x) → 0 ≤ sumL g L
  | [], _ => by simp [sumL]
  | x :: L, h => by
    have h1 := h x List.mem_cons_self
    have h2 := sumL_nonneg fun y hy => h y (List.mem_cons_of_mem _ hy)
    simp only [sumL]; omega
theorem sumN_le {g h : Nat → Int} : ∀ {k : Nat}, (∀ i, i < k → g i ≤ h i) → sumN g k ≤ sumN h k
  | 0, _ => by simp [sumN]
  | k + 1, hh => by
    have h1 := hh k (by omega)
    have h2 := sumN_le (k := k) fun i hi => hh i (by omega)
    simp only [sumN]; omega
theorem acc_step {lp : Nat} {P : Nat → P8} {lc : Nat} {C : Nat → C8} (h : NetP lp P lc C) {f : Nat → Int} {L : List Nat} (hn : L.Nodup) {k : Nat} (hk : k < lc) (h0 : 0 ≤ f k) : sumL (accF P C f (k + 1)) L ≤ sumL (accF P C f k) L + (if inV C L k then f k else 0) := by
  have hc := h.c hk
  have e : ∀ x ∈ L, accF P C f (k + 1) x = accF P C f k x + ((if (x : Int) = (C k).to then f k else 0) + (if (x : Int) = (C k).fr then -f k else 0)) := fun x _ => by
    simp only [accF, updI]
    split <;> split <;> split <;> split <;> first | omega | (subst_vars; omega) | (try split) <;> omega
  rw [sumL_congr e, sumL_add, sumL_add, sumL_ind hn, sumL_ind hn]
  unfold inV
  cases memI L (C k).to <;> cases memI L (C k).fr <;> simp <;> omega
theorem acc_le {lp : Nat} {P : Nat → P8} {lc : Nat} {C : Nat → C8} (h : NetP lp P lc C) {f : Nat → Int} {L : List Nat} (hn : L.Nodup) (h0 : ∀ i, i < lc → 0 ≤ f i) : ∀ k, k ≤ lc → sumL (accF P C f k) L ≤ sumL (leftV P false) L + sumN (fun k => if inV C L k then f k else 0) k
  | 0, _ => by simp [accF, sumN]
  | k + 1, hk => by
    have h1 := acc_step h hn (show k < lc by omega) (h0 k (by omega))
    have h2 := acc_le h hn h0 k (by omega)
    simp only [sumN]; omega
/-- flows that feed a network: no list of points is a cut -/
theorem feeds_fed {lp : Nat} {P : Nat → P8} {lc : Nat} {C : Nat → C8} {op : Nat → Bool} {f : Nat → Int} (h : NetP lp P lc C) (h0 : ∀ i, i < lc → 0 ≤ f i) (hf : fbV lp P lc C op f = true) : fedV lp P lc C op false = true := by
  rw [fed_iff]
  intro L hL
  have hs := allLs_iff.1 hL
  have hn : L.Nodup := hs.nodup List.nodup_range
  simp only [fbV, Bool.and_eq_true, allN_iff, decide_eq_true_eq] at hf
  have h1 := acc_le h hn h0 lc (Nat.le_refl _)
  have h2 : 0 ≤ sumL (accF P C f lc) L := sumL_nonneg fun x hx => hf.2 x (List.mem_range.1 (hs.subset hx))
  have h3 : sumN (fun k => if inV C L k then f k else 0) lc ≤ sumN (fun k => if inV C L k then carV C op k else 0) lc := sumN_le fun i hi => by
    split
    · exact hf.1 i hi
    · exact Int.le_refl _
  unfold spareV
  omega
theorem cut_fed {lp : Nat} {P : Nat → P8} {lc : Nat} {C : Nat → C8} {op : Nat → Bool} : cutL lp P lc C op false = none ↔ fedV lp P lc C op false = true := by
  have := cutL_fed (lp := lp) (P := P) (lc := lc) (C := C) (op := op) (hi := false)
  cases h : cutL lp P lc C op false with
  | none => rw [h] at this; simpa using this
  | some L => rw [h] at this; simpa using this
end Go.Kn

namespace Go.Kn
open Go Go.Proofs Go.RowKit

/-- all numbers are taken for gates -/
def allG : Nat → C8 := fun _ => ⟨0, 0, 0, true⟩
theorem gatB_all {lp : Nat} {x : Int} : gatB lp allG x = fromB 0 ((lp : Int) - 1) x := by simp [gatB, allG]
theorem inc_list {lc : Nat} {C : Nat → C8} {s : Nat → Int} {m : Nat} (h : gatsB lc C s m = true) : (lstN s m).Pairwise (· < ·) := lstN_inc (fun i hi => (gatsB_inc h i hi).2.1) fun i j hij hj => gatsB_lt h i j hij hj
theorem pts_sub {lp : Nat} {s : Nat → Int} {m : Nat} (h : gatsB lp allG s m = true) : (lstN s m).Sublist (List.range lp) := sub_range (inc_list h) fun x hx => by
  obtain ⟨i, hi, rfl⟩ := lstN_mem.1 hx
  have := gatsB_inc h i hi
  omega
theorem gatsB_of {lc : Nat} {C : Nat → C8} {s : Nat → Int} : ∀ {m : Nat}, (∀ i, i < m → gatB lc C (s i) = true) → (∀ i, i + 1 < m → s i < s (i + 1)) → gatsB lc C s m = true
  | 0, _, _ => rfl
  | k + 1, h1, h2 => by
    have ih := gatsB_of (m := k) (fun i hi => h1 i (by omega)) (fun i hi => h2 i (by omega))
    have h3 := h1 k (by omega)
    have h4 : 0 ≤ s k := (gatB_bd h3).1
    simp only [gatsB, ih, h3, Bool.and_true, Bool.true_and, Bool.not_eq_true', decide_eq_false_iff_not]
    cases k with
    | zero => simpa [frm8] using h4
    | succ j => have := h2 j (by omega); simp only [frm8]; omega
/-- points of a list of points -/
theorem sub_pts {lp : Nat} {L : List Nat} (h : L.Sublist (List.range lp)) : gatsB lp allG (lgI L) L.length = true := by
  have hp : L.Pairwise (· < ·) := (range_inc lp).sublist h
  refine gatsB_of (fun i hi => ?_) fun i hi => ?_
  · rw [gatB_all, lgI_get hi]
    have := List.mem_range.1 (h.subset (List.getElem_mem hi))
    simp [fromB]; omega
  · rw [lgI_get (by omega), lgI_get hi]
    have := List.pairwise_iff_getElem.1 hp i (i + 1) (by omega) hi (by omega)
    omega

set_option maxRecDepth 100000 in
set_option maxHeartbeats 4000000 in
theorem rpoints_w (pa ca sa : Option Addr) (lp cp lc cc m sc : Nat) (P : Nat → P8) (C : Nat → C8) (s : Nat → Int) (w : World) (hlp : lp ≤ 1000000) (hm : m ≤ 1000000) (H : Hid (Ne8 w pa ca lp lc P C)) (HS : Hid (IntSl w sa m s)) :
    Calls Tryz.prog 25 #[.agg #[.slice pa lp cp, .slice ca lc cc], .slice sa m sc] w fun e w' => e = .returned (.bool (gatsB lp allG s m)) ∧ Below w.heap.size w w' := by
  obtain ⟨W0, hW0⟩ : ∃ W0, W0 = w.alloc (.cells #[.slice pa lp cp, .slice ca lc cc] 25) := ⟨_, rfl⟩
  have hA : Below w.heap.size w W0 := by rw [hW0]; exact (Below.refl _ _).alloc (Nat.le_refl _) _
  have HF : Hid (∀ w2, Below W0.heap.size W0 w2 → w2.cell? ⟨w.heap.size, 0, none⟩ = some (.slice pa lp cp) ∧ w2.cell? ⟨w.heap.size, 1, none⟩ = some (.slice ca lc cc)) := Lib.hid fun w2 h => by
    rw [hW0] at h
    exact ⟨(box_cells h).1, (box_cells h).2.1⟩
  have HSL : Hid (∀ w2, Below W0.heap.size W0 w2 → IntSl w2 sa m s) := Lib.hid fun w2 h => HS.out.below (hA.trans (h.mono hA.size))
  have HG : Hid (∀ x w2, Below W0.heap.size W0 w2 → Calls Tryz.prog 28 #[.agg #[.slice pa lp cp, .slice ca lc cc], .int .i64 x] w2 fun e w' => e = .returned (.bool (gatB lp allG x)) ∧ Below w2.heap.size w2 w') :=
    Lib.hid fun x w2 h => (by rw [gatB_all]; exact rpoint_w pa ca lp cp lc cc x w2 hlp)
  have HA := Lib.hid hA
  clear hA H HS
  have hmx : Tryz.prog.follows .mixedOrders = true := by kernel_rfl
  go_enter Tryz.func25, Tryz.ntmps25
  go_wp2
  rw [← hW0]
  clear hW0
  go_loopw [5] (fun ii wr => ∃ k : Nat, k ≤ m ∧ ii = .int .i64 (k : Int) ∧ gatsB lp allG s k = true ∧ Below W0.heap.size W0 wr) (fun ii _ => m - (Go.RowKit.intOf ii).toNat)
  case atStart => exact ⟨0, Nat.zero_le _, rfl, rfl, Below.refl _ _⟩
  case round =>
    obtain ⟨k, hk, rfl, hg, hbr⟩ := hrel
    have HG0 := Lib.hid hg
    have HBR := Lib.hid hbr
    clear hg hbr
    by_cases hlt : k < m
    case pos =>
      obtain ⟨A, O, rfl, hA, hN⟩ := (HSL.out _ HBR.out).resolve_left (by omega)
      have y1 := hN k hlt
      have hy0 := hN (k - 1) (by omega)
      obtain ⟨f0, f1⟩ := HF.out _ HBR.out
      have n1 : (0 : Int) ≤ (k : Int) := by omega
      have n2 : (k : Int) < (m : Int) := by omega
      have HST : Hid (gatsB lp allG s (k + 1) = (!decide (s k < frm8 s k) && gatB lp allG (s k))) := Lib.hid (by simp [gatsB, HG0.out])
      have HBD : Hid (gatB lp allG (s k) = true → 0 ≤ s k ∧ s k < lp) := Lib.hid gatB_bd
      have HNO : Hid (gatsB lp allG s (k + 1) = false → gatsB lp allG s m = false) := Lib.hid (gatsB_no hlt)
      have HFK : Hid (k ≠ 0 → frm8 s k = s (k - 1) + 1) := Lib.hid fun h => by
        obtain ⟨j, rfl⟩ := Nat.exists_eq_succ_of_ne_zero h
        rfl
      have HF0 : Hid (k = 0 → frm8 s k = 0) := Lib.hid fun h => by subst h; rfl
      have hyA : A < wr.heap.size := hA
      obtain ⟨v, hv⟩ : ∃ v, s k = v := ⟨_, rfl⟩
      obtain ⟨u, hu⟩ : ∃ u, s (k - 1) = u := ⟨_, rfl⟩
      obtain ⟨f, hf⟩ : ∃ f, frm8 s k = f := ⟨_, rfl⟩
      rw [hv] at y1 HST HBD
      rw [hf] at HST HFK HF0
      rw [hu] at hy0 HFK
      have HGX : Hid (∀ w2, Below wr.heap.size wr w2 → Calls Tryz.prog 28 #[.agg #[.slice pa lp cp, .slice ca lc cc], .int .i64 v] w2 fun e w' => e = .returned (.bool (gatB lp allG v)) ∧ Below wr.heap.size wr w') := Lib.hid fun w2 h => (HG.out v w2 (HBR.out.trans (h.mono HBR.out.size))).mono fun e w' ⟨he, hv⟩ => ⟨he, h.trans (hv.mono h.size)⟩
      have HX : Hid (∀ w2, Below wr.heap.size wr w2 → w2.cell? ⟨w.heap.size, 0, none⟩ = some (.slice pa lp cp) ∧ w2.cell? ⟨w.heap.size, 1, none⟩ = some (.slice ca lc cc) ∧ w2.cell? ⟨A, O + k, none⟩ = some (.int .i64 v) ∧ w2.cell? ⟨A, O + (k - 1), none⟩ = some (.int .i64 u)) := Lib.hid fun w2 h => ⟨(HF.out _ (HBR.out.trans (h.mono HBR.out.size))).1, (HF.out _ (HBR.out.trans (h.mono HBR.out.size))).2, ((bcell h).1 _ _ hA).trans y1, ((bcell h).1 _ _ hA).trans hy0⟩
      clear hN hv hf hu hA f0 f1 y1 hy0
      cases hgb : gatB lp allG v with
      | false =>
        have HD2 := Lib.hid (HNO.out (by rw [HST.out, hgb, Bool.and_false]))
        have n5 : (1 : Int) = 1 := rfl
        have n8 := n5
        rw [hgb] at HGX
        clear hgb
        go_wp2
        refine wp_region_calm (W := wr) hmx (by kernel_rfl) (Below.refl _ _) ?_
        repeat (first
          | (refine calm_no (by rfl) ?_
             (try simp only [Act.put, List.setIfInBounds_toArray, List.set_cons_zero, List.set_cons_succ]))
          | (apply calm_yes
             focus rfl
             focus
               intro w' hw'
               obtain ⟨z1, z2, z3, z4⟩ := HX.out w' hw'
               try simp only [Nat.add_zero, Nat.zero_sub] at z3 z4
               go_simp
               first
                 | done
                 | (rw [n5]; with_reducible rfl)
                 | (rw [n8]; with_reducible rfl)
                 | with_reducible rfl
                 | (go_at_call 28; exact HGX.out w' hw')
                 | fail
             (try simp only [Act.put, List.setIfInBounds_toArray, List.set_cons_zero, List.set_cons_succ])
             (try rw [n5])
             (try rw [n8])))
        refine calm_nil ?_
        intro w7 hqw7
        have HB7 := Lib.hid (HBR.out.trans (hqw7.mono HBR.out.size))
        clear hqw7
        go_wp2
        go_ret
        exact ⟨by rw [HD2.out]; rfl, HA.out.trans (HB7.out.mono HA.out.size)⟩
      | true =>
        obtain ⟨b0, b1⟩ := HBD.out hgb
        rw [hgb] at HGX HST
        simp only [Bool.and_true] at HST
        clear hgb
        by_cases h0 : k = 0
        · have hfe := HF0.out h0
          subst h0
          have HD2 : Hid (gatsB lp allG s (0 + 1) = true) := Lib.hid (by rw [HST.out, hfe]; simp; omega)
          have n5 : decide ((0 : Int) < ((0 : Nat) : Int)) = false := by decide
          have n8 := n5
          clear hfe
          go_wp2
          refine wp_region_calm (W := wr) hmx (by kernel_rfl) (Below.refl _ _) ?_
          repeat (first
            | (refine calm_no (by rfl) ?_
               (try simp only [Act.put, List.setIfInBounds_toArray, List.set_cons_zero, List.set_cons_succ]))
            | (apply calm_yes
               focus rfl
               focus
                 intro w' hw'
                 obtain ⟨z1, z2, z3, z4⟩ := HX.out w' hw'
                 try simp only [Nat.add_zero, Nat.zero_sub] at z3 z4
                 go_simp
                 first
                   | done
                   | (rw [n5]; with_reducible rfl)
                   | (rw [n8]; with_reducible rfl)
                   | with_reducible rfl
                   | (go_at_call 28; exact HGX.out w' hw')
                   | fail
               (try simp only [Act.put, List.setIfInBounds_toArray, List.set_cons_zero, List.set_cons_succ])
               (try rw [n5])
               (try rw [n8])))
          refine calm_nil ?_
          intro w7 hqw7
          have HB7 := Lib.hid (HBR.out.trans (hqw7.mono HBR.out.size))
          clear hqw7
          go_wp2
          go_roundw
          case rel => exact ⟨0 + 1, by omega, by go_num, HD2.out, HB7.out⟩
          case measure => simp [Go.RowKit.intOf]; omega
        · have hfe := HFK.out h0
          have hk1 : (k : Int) - 1 = ((k - 1 : Nat) : Int) := by omega
          have n5 : decide (0 < k) = true := decide_eq_true (by omega)
          obtain ⟨q, hq⟩ : ∃ q, k - 1 = q := ⟨_, rfl⟩
          have n6 : (0 : Int) ≤ (q : Int) := by omega
          have n7 : (q : Int) < (m : Int) := by omega
          have hwr : IntKind.i64.wrap ((k : Int) - 1) = (q : Int) := by rw [IntKind.wrap_i64]; omega
          rw [hq] at HX
          clear hq hk1
          by_cases hle : v ≤ u
          · have HD2 := Lib.hid (HNO.out (by rw [HST.out, hfe]; simp; omega))
            have n8 : decide (v ≤ u) = true := decide_eq_true hle
            go_wp2
            refine wp_region_calm (W := wr) hmx (by kernel_rfl) (Below.refl _ _) ?_
            repeat (first
              | (refine calm_no (by rfl) ?_
                 (try simp only [Act.put, List.setIfInBounds_toArray, List.set_cons_zero, List.set_cons_succ]))
              | (apply calm_yes
                 focus rfl
                 focus
                   intro w' hw'
                   obtain ⟨z1, z2, z3, z4⟩ := HX.out w' hw'
                   try simp only [Nat.add_zero, Nat.zero_sub] at z3 z4
                   go_simp
                   first
                     | done
                     | (rw [n5]; with_reducible rfl)
                     | (rw [n8]; with_reducible rfl)
                     | with_reducible rfl
                     | (go_at_call 28; exact HGX.out w' hw')
                     | fail
                 (try simp only [Act.put, List.setIfInBounds_toArray, List.set_cons_zero, List.set_cons_succ])
                 (try rw [n5])
                 (try rw [hwr])
                 (try rw [n8])))
            refine calm_nil ?_
            intro w7 hqw7
            have HB7 := Lib.hid (HBR.out.trans (hqw7.mono HBR.out.size))
            clear hqw7
            go_wp2
            go_ret
            exact ⟨by rw [HD2.out]; rfl, HA.out.trans (HB7.out.mono HA.out.size)⟩
          · have HD2 : Hid (gatsB lp allG s (k + 1) = true) := Lib.hid (by rw [HST.out, hfe]; simp; omega)
            have n8 : decide (v ≤ u) = false := decide_eq_false hle
            go_wp2
            refine wp_region_calm (W := wr) hmx (by kernel_rfl) (Below.refl _ _) ?_
            repeat (first
              | (refine calm_no (by rfl) ?_
                 (try simp only [Act.put, List.setIfInBounds_toArray, List.set_cons_zero, List.set_cons_succ]))
              | (apply calm_yes
                 focus rfl
                 focus
                   intro w' hw'
                   obtain ⟨z1, z2, z3, z4⟩ := HX.out w' hw'
                   try simp only [Nat.add_zero, Nat.zero_sub] at z3 z4
                   go_simp
                   first
                     | done
                     | (rw [n5]; with_reducible rfl)
                     | (rw [n8]; with_reducible rfl)
                     | with_reducible rfl
                     | (go_at_call 28; exact HGX.out w' hw')
                     | fail
                 (try simp only [Act.put, List.setIfInBounds_toArray, List.set_cons_zero, List.set_cons_succ])
                 (try rw [n5])
                 (try rw [hwr])
                 (try rw [n8])))
            refine calm_nil ?_
            intro w7 hqw7
            have HB7 := Lib.hid (HBR.out.trans (hqw7.mono HBR.out.size))
            clear hqw7
            go_wp2
            go_roundw
            case rel => exact ⟨k + 1, by omega, by go_num, HD2.out, HB7.out⟩
            case measure => simp [Go.RowKit.intOf]; omega
    case neg =>
      obtain rfl : k = m := by omega
      go_wp2
      go_ret
      exact ⟨by rw [HG0.out]; rfl, HA.out.trans (HBR.out.mono HA.out.size)⟩
end Go.Kn
