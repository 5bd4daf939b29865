/- Walks of functions of layer 2 (contracts that the laws of this seat use). Conditions: as each theorem states them. -/

set_option linter.unusedVariables false
set_option linter.unusedSimpArgs false
namespace Go.Kn

/-- years for stretches with these last years, one for each -/
def Fit : List Int → List Int → Prop
  | [], [] => True
  | d :: ls, y :: ys => 0 ≤ y ∧ y ≤ d ∧ Fit ls ys
  | _, _ => False

/-- distinct years, without those that are taken -/
def Asg (ls T ys : List Int) : Prop := Fit ls ys ∧ ys.Nodup ∧ ∀ x ∈ ys, x ∉ T

def sumL : List Int → Int
  | [] => 0
  | x :: l => x + sumL l

/-- how many are no less -/
def ge (l : List Int) (t : Int) : Nat := l.countP (fun x => decide (t ≤ x))

theorem ge_cons (x : Int) (l : List Int) (t : Int) : ge (x :: l) t = ge l t + if t ≤ x then 1 else 0 := by
  unfold ge
  rw [List.countP_cons]
  simp

theorem ge_perm {a b : List Int} (h : a.Perm b) (t : Int) : ge a t = ge b t := h.countP_eq _
theorem sumL_perm {a b : List Int} (h : a.Perm b) : sumL a = sumL b := by
  induction h with
  | nil => rfl
  | cons x _ ih => simp only [sumL]; omega
  | swap x y l => simp only [sumL]; omega
  | trans _ _ ih1 ih2 => omega

theorem ge_le_len (l : List Int) (t : Int) : ge l t ≤ l.length := List.countP_le_length

theorem ge_anti (l : List Int) {s t : Int} (h : s ≤ t) : ge l t ≤ ge l s := by
  induction l with
  | nil => simp [ge]
  | cons x l ih => rw [ge_cons, ge_cons]; split <;> split <;> omega

theorem ge_all {l : List Int} {t : Int} (h : ∀ x ∈ l, t ≤ x) : ge l t = l.length := by
  unfold ge
  rw [List.countP_eq_length]
  intro x hx
  exact decide_eq_true (h x hx)

theorem ge_none {l : List Int} {t : Int} (h : ∀ x ∈ l, x < t) : ge l t = 0 := by
  unfold ge
  rw [List.countP_eq_zero]
  intro x hx
  have := h x hx
  simp
  omega

theorem ge_step_mem {l : List Int} (hd : l.Nodup) {t : Int} (h : t ∈ l) : ge l t = ge l (t + 1) + 1 := by
  induction l with
  | nil => cases h
  | cons x l ih =>
    rw [List.nodup_cons] at hd
    rw [ge_cons, ge_cons]
    rcases List.mem_cons.mp h with rfl | h
    · have hn : ge l t = ge l (t + 1) := by
        clear ih
        have hx := hd.1
        clear hd h
        induction l with
        | nil => rfl
        | cons y l ih2 =>
          rw [ge_cons, ge_cons, ih2 (fun h => hx (List.mem_cons_of_mem _ h))]
          have : y ≠ t := fun e => hx (e ▸ List.mem_cons_self)
          congr 1
          split <;> split <;> omega
      rw [hn, if_pos (by omega), if_neg (by omega)]
    · have := ih hd.2 h
      have hne : x ≠ t := fun e => hd.1 (e ▸ h)
      split <;> split <;> omega

theorem ge_step_not {l : List Int} {t : Int} (h : t ∉ l) : ge l t = ge l (t + 1) := by
  induction l with
  | nil => rfl
  | cons y l ih2 =>
    rw [ge_cons, ge_cons, ih2 (fun h' => h (List.mem_cons_of_mem _ h'))]
    have : y ≠ t := fun e => h (e ▸ List.mem_cons_self)
    congr 1
    split <;> split <;> omega

theorem ge_step_le {l : List Int} (hd : l.Nodup) (t : Int) : ge l t ≤ ge l (t + 1) + 1 := by
  by_cases h : t ∈ l
  · rw [ge_step_mem hd h]; omega
  · rw [ge_step_not h]; omega

theorem Fit.len : ∀ {ls ys : List Int}, Fit ls ys → ys.length = ls.length
  | [], [], _ => rfl
  | [], _ :: _, h => h.elim
  | _ :: _, [], h => h.elim
  | d :: ls, y :: ys, h => by simp [Fit.len h.2.2]

theorem Fit.nonneg : ∀ {ls ys : List Int}, Fit ls ys → ∀ x ∈ ys, 0 ≤ x
  | [], [], _, x, hx => by cases hx
  | [], _ :: _, h, _, _ => h.elim
  | _ :: _, [], h, _, _ => h.elim
  | d :: ls, y :: ys, h, x, hx => by
    rcases List.mem_cons.mp hx with rfl | hx
    · exact h.1
    · exact Fit.nonneg h.2.2 x hx

theorem Fit.lasts : ∀ {ls ys : List Int}, Fit ls ys → ∀ x ∈ ls, 0 ≤ x
  | [], [], _, x, hx => by cases hx
  | [], _ :: _, h, _, _ => h.elim
  | _ :: _, [], h, _, _ => h.elim
  | d :: ls, y :: ys, h, x, hx => by
    rcases List.mem_cons.mp hx with rfl | hx
    · have := h.1; have := h.2.1; omega
    · exact Fit.lasts h.2.2 x hx

theorem Fit.ge_le : ∀ {ls ys : List Int}, Fit ls ys → ∀ t, ge ys t ≤ ge ls t
  | [], [], _, t => by simp [ge]
  | [], _ :: _, h, _ => h.elim
  | _ :: _, [], h, _ => h.elim
  | d :: ls, y :: ys, h, t => by
    have := Fit.ge_le h.2.2 t
    have h1 := h.2.1
    rw [ge_cons, ge_cons]
    split <;> split <;> omega

theorem Fit.swap : ∀ {ls ys : List Int} {y z : Int}, Fit ls ys → 0 ≤ z → z ≤ y → Fit ls (ys.map (fun x => if x = y then z else x))
  | [], [], _, _, _, _, _ => trivial
  | [], _ :: _, _, _, h, _, _ => h.elim
  | _ :: _, [], _, _, h, _, _ => h.elim
  | d :: ls, x :: ys, y, z, h, h0, h1 => by
    refine ⟨?_, ?_, Fit.swap h.2.2 h0 h1⟩
    · have := h.1; show 0 ≤ (if x = y then z else x); split <;> omega
    · have := h.2.1; show (if x = y then z else x) ≤ d; split <;> omega

/-- sums as counts -/
def tot (f : Int → Nat) : Nat → Int
  | 0 => 0
  | k + 1 => tot f k + f ((k : Int) + 1)

theorem tot_add (f g : Int → Nat) : ∀ M, tot (fun t => f t + g t) M = tot f M + tot g M
  | 0 => rfl
  | k + 1 => by simp only [tot, tot_add f g k]; omega
theorem tot_one {x : Int} (h : 0 ≤ x) : ∀ M : Nat, tot (fun t => if t ≤ x then 1 else 0) M = if (M : Int) ≤ x then (M : Int) else x
  | 0 => by simp only [tot]; split <;> omega
  | k + 1 => by
    simp only [tot]
    rw [tot_one h k]
    split <;> split <;> split <;> omega
theorem tot_le {f g : Int → Nat} (h : ∀ t, f t ≤ g t) : ∀ M, tot f M ≤ tot g M
  | 0 => Int.le_refl _
  | k + 1 => by have := tot_le h k; have := h ((k : Int) + 1); simp only [tot]; omega
theorem tot_eq {f g : Int → Nat} (h : ∀ t, f t ≤ g t) : ∀ M, tot f M = tot g M → ∀ k : Nat, 1 ≤ k → k ≤ M → f k = g k
  | 0, _, k, h1, h2 => by omega
  | m + 1, he, k, h1, h2 => by
    have a := tot_le h m
    have b := h ((m : Int) + 1)
    simp only [tot] at he
    by_cases e : k = m + 1
    · subst e
      have : f ((m : Int) + 1) = g ((m : Int) + 1) := by omega
      simpa using this
    · exact tot_eq h m (by omega) k h1 (by omega)

theorem tot_sum {M : Nat} : ∀ {l : List Int}, (∀ x ∈ l, 0 ≤ x ∧ x ≤ M) → tot (ge l) M = sumL l
  | [], _ => by
    have : ∀ m, tot (ge []) m = 0 := by
      intro m; induction m with
      | zero => rfl
      | succ m ih => simp only [tot, ih]; simp [ge]
    exact this M
  | x :: l, h => by
    have e : ge (x :: l) = fun t => ge l t + (if t ≤ x then 1 else 0) := funext (fun t => ge_cons x l t)
    rw [e, tot_add, tot_one (h x List.mem_cons_self).1, tot_sum (fun y hy => h y (List.mem_cons_of_mem _ hy))]
    have := (h x List.mem_cons_self).2
    simp only [sumL]
    split <;> omega

theorem exists_bound (l : List Int) : ∃ M : Nat, ∀ x ∈ l, x ≤ M := by
  induction l with
  | nil => exact ⟨0, fun x hx => by cases hx⟩
  | cons y l ih =>
    obtain ⟨M, hM⟩ := ih
    refine ⟨M + y.toNat, fun x hx => ?_⟩
    rcases List.mem_cons.mp hx with rfl | hx
    · omega
    · have := hM x hx; omega

/-- years that are no more than those that pass over no free year -/
theorem dominated {ls T ys zs : List Int} (hd : ys.Nodup) (hz : zs.Nodup) (hT : ∀ x ∈ zs, x ∉ T) (hv : ∀ t, ge zs t ≤ ge ls t)
    (hI : ∀ t, 0 ≤ t → t ∉ T → t ∉ ys → ge ls t ≤ ge ys t) : ∀ t, 0 ≤ t → ge zs t ≤ ge ys t := by
  obtain ⟨M, hM⟩ := exists_bound zs
  have key : ∀ k : Nat, ∀ t : Int, 0 ≤ t → t = (M : Int) + 1 - k → ge zs t ≤ ge ys t := by
    intro k
    induction k with
    | zero =>
      intro t _ ht
      rw [ge_none (l := zs) (fun x hx => by have := hM x hx; omega)]
      omega
    | succ k ih =>
      intro t h0 ht
      have hn := ih (t + 1) (by omega) (by omega)
      by_cases hy : t ∈ ys
      · rw [ge_step_mem hd hy]
        have := ge_step_le hz t
        omega
      · by_cases hT' : t ∈ T
        · have : t ∉ zs := fun h => hT t h hT'
          rw [ge_step_not this, ge_step_not hy]
          exact hn
        · exact Nat.le_trans (hv t) (hI t h0 hT' hy)
  intro t h0
  by_cases h : t ≤ (M : Int) + 1
  · exact key ((M : Int) + 1 - t).toNat t h0 (by omega)
  · rw [ge_none (l := zs) (fun x hx => by have := hM x hx; omega)]
    omega

theorem perm_of_ge {a b : List Int} (ha : a.Nodup) (hb : b.Nodup) (h0a : ∀ x ∈ a, 0 ≤ x) (h0b : ∀ x ∈ b, 0 ≤ x) (h : ∀ t, 0 ≤ t → ge a t = ge b t) : a.Perm b := by
  refine (List.perm_ext_iff_of_nodup ha hb).mpr (fun x => ?_)
  by_cases h0 : 0 ≤ x
  · have e1 := h x h0
    have e2 := h (x + 1) (by omega)
    by_cases hxa : x ∈ a <;> by_cases hxb : x ∈ b
    · simp [hxa, hxb]
    · rw [ge_step_mem ha hxa, ge_step_not hxb] at e1; omega
    · rw [ge_step_mem hb hxb, ge_step_not hxa] at e1; omega
    · simp [hxa, hxb]
  · exact ⟨fun h => (h0 (h0a x h)).elim, fun h => (h0 (h0b x h)).elim⟩

/-- the years of the greatest sum -/
def Opt (ls T S : List Int) : Prop :=
  (∃ zs, Asg ls T zs ∧ zs.Perm S) ∧ ∀ zs, Asg ls T zs → sumL zs ≤ sumL S ∧ (sumL zs = sumL S → zs.Perm S)

theorem opt_of {ls T ys : List Int} (hd : ys.Nodup) (h0 : ∀ x ∈ ys, 0 ≤ x) (hl : ys.length = ls.length) (hA : ∃ zs, Asg ls T zs ∧ zs.Perm ys)
    (hI : ∀ t, 0 ≤ t → t ∉ T → t ∉ ys → ge ls t ≤ ge ys t) : Opt ls T ys := by
  refine ⟨hA, fun zs hz => ?_⟩
  have hdom := dominated (ls := ls) (T := T) hd hz.2.1 hz.2.2 hz.1.ge_le hI
  have z0 := hz.1.nonneg
  have hzl := hz.1.len
  have hall : ∀ t, ge zs t ≤ ge ys t := fun t => by
    by_cases h : 0 ≤ t
    · exact hdom t h
    · rw [ge_all (l := zs) (fun x hx => by have := z0 x hx; omega), ge_all (l := ys) (fun x hx => by have := h0 x hx; omega)]
      omega
  obtain ⟨M1, hM1⟩ := exists_bound zs
  obtain ⟨M2, hM2⟩ := exists_bound ys
  have s1 : tot (ge zs) (M1 + M2) = sumL zs := tot_sum (fun x hx => ⟨z0 x hx, by have := hM1 x hx; omega⟩)
  have s2 : tot (ge ys) (M1 + M2) = sumL ys := tot_sum (fun x hx => ⟨h0 x hx, by have := hM2 x hx; omega⟩)
  refine ⟨by rw [← s1, ← s2]; exact tot_le hall _, fun he => ?_⟩
  rw [← s1, ← s2] at he
  refine perm_of_ge hz.2.1 hd z0 h0 (fun t ht => ?_)
  by_cases h1 : 1 ≤ t
  · by_cases h2 : t ≤ (M1 + M2 : Nat)
    · have := tot_eq hall _ he t.toNat (by omega) (by omega)
      rwa [Int.toNat_of_nonneg ht] at this
    · rw [ge_none (l := zs) (fun x hx => by have := hM1 x hx; omega), ge_none (l := ys) (fun x hx => by have := hM2 x hx; omega)]
  · rw [ge_all (l := zs) (fun x hx => by have := z0 x hx; omega), ge_all (l := ys) (fun x hx => by have := h0 x hx; omega)]
    omega

theorem Opt.same {ls T S S' : List Int} (h : Opt ls T S) (h' : Opt ls T S') : S.Perm S' := by
  obtain ⟨⟨zs, hz, hp⟩, hm⟩ := h
  obtain ⟨⟨zs', hz', hp'⟩, hm'⟩ := h'
  have a := (hm' zs hz).1
  have b := (hm zs' hz').1
  have e1 := sumL_perm hp
  have e2 := sumL_perm hp'
  exact hp.symm.trans ((hm' zs hz).2 (by omega))

theorem Opt.nodup {ls T S : List Int} (h : Opt ls T S) : S.Nodup := by
  obtain ⟨⟨zs, hz, hp⟩, _⟩ := h
  exact hp.nodup hz.2.1

theorem Opt.perm {ls T S S' : List Int} (h : Opt ls T S) (hp : S.Perm S') : Opt ls T S' := by
  obtain ⟨⟨zs, hz, hq⟩, hm⟩ := h
  refine ⟨⟨zs, hz, hq.trans hp⟩, fun ys hy => ?_⟩
  rw [← sumL_perm hp]
  exact ⟨(hm ys hy).1, fun e => ((hm ys hy).2 e).trans hp⟩

end Go.Kn

namespace Go.Kn

/-- the latest year that is free -/
def Top (T : List Int) (d y : Int) : Prop := y ≤ d ∧ y ∉ T ∧ ∀ z, y < z → z ≤ d → z ∈ T

def Greedy : List Int → List Int → List Int → Prop
  | [], _, ys => ys = []
  | d :: ls, T, ys => ∃ y r, ys = y :: r ∧ 0 ≤ y ∧ Top T d y ∧ Greedy ls (y :: T) r

def NoYears : List Int → List Int → Prop
  | [], _ => False
  | d :: ls, T => ∃ y, Top T d y ∧ (y < 0 ∨ 0 ≤ y ∧ NoYears ls (y :: T))

theorem top_exists (T : List Int) (d : Int) : ∃ y, Top T d y := by
  obtain ⟨m, hm⟩ : ∃ m : Int, ∀ x ∈ T, m ≤ x := by
    induction T with
    | nil => exact ⟨0, fun x hx => by cases hx⟩
    | cons y l ih =>
      obtain ⟨m, hm⟩ := ih
      refine ⟨min m y, fun x hx => ?_⟩
      rcases List.mem_cons.mp hx with rfl | hx
      · omega
      · have := hm x hx; omega
  have key : ∀ k : Nat, ∀ e : Int, e ≤ d → (∀ z, e < z → z ≤ d → z ∈ T) → (e - m < k) → ∃ y, Top T d y := by
    intro k
    induction k with
    | zero =>
      intro e he ha hk
      exact ⟨e, he, fun h => by have := hm e h; omega, ha⟩
    | succ k ih =>
      intro e he ha hk
      by_cases h : e ∈ T
      · refine ih (e - 1) (by omega) (fun z h1 h2 => ?_) (by omega)
        by_cases hz : z = e
        · exact hz ▸ h
        · exact ha z (by omega) h2
      · exact ⟨e, he, h, ha⟩
  exact key (d - m + 1).toNat d (Int.le_refl _) (fun z h1 h2 => by omega) (by omega)

theorem years_or : ∀ (ls T : List Int), (∃ ys, Greedy ls T ys) ∨ NoYears ls T
  | [], _ => .inl ⟨[], rfl⟩
  | d :: ls, T => by
    obtain ⟨y, hy⟩ := top_exists T d
    by_cases h0 : 0 ≤ y
    · rcases years_or ls (y :: T) with ⟨r, hr⟩ | hr
      · exact .inl ⟨y :: r, y, r, rfl, h0, hy, hr⟩
      · exact .inr ⟨y, hy, .inr ⟨h0, hr⟩⟩
    · exact .inr ⟨y, hy, .inl (by omega)⟩

theorem greedy_asg : ∀ {ls T ys : List Int}, Greedy ls T ys → Asg ls T ys
  | [], T, ys, h => by
    cases h
    exact ⟨trivial, List.nodup_nil, fun x hx => by cases hx⟩
  | d :: ls, T, ys, ⟨y, r, e, h0, ht, hr⟩ => by
    subst e
    obtain ⟨a, b, c⟩ := greedy_asg hr
    refine ⟨⟨h0, ht.1, a⟩, List.nodup_cons.mpr ⟨fun h => c y h List.mem_cons_self, b⟩, fun x hx => ?_⟩
    rcases List.mem_cons.mp hx with rfl | hx
    · exact ht.2.1
    · exact fun h => c x hx (List.mem_cons_of_mem _ h)

theorem greedy_inv : ∀ {ls T ys : List Int}, Greedy ls T ys → ∀ t, t ∉ T → t ∉ ys → ge ls t ≤ ge ys t
  | [], T, ys, h, t, _, _ => by cases h; exact Nat.le_refl _
  | d :: ls, T, ys, ⟨y, r, e, h0, ht, hr⟩, t, h1, h2 => by
    subst e
    rw [List.mem_cons, not_or] at h2
    have := greedy_inv hr t (fun h => by
      rcases List.mem_cons.mp h with e | h
      · exact h2.1 e
      · exact h1 h) h2.2
    rw [ge_cons, ge_cons]
    have hk : t ≤ d → t ≤ y := fun hd => by
      by_cases hy : t ≤ y
      · exact hy
      · exact (h1 (ht.2.2 t (by omega) hd)).elim
    split <;> split <;> first | omega | (exfalso; rename_i a b; exact b (hk a))

theorem greedy_opt {ls T ys : List Int} (h : Greedy ls T ys) : Opt ls T ys := by
  have a := greedy_asg h
  exact opt_of a.2.1 a.1.nonneg a.1.len ⟨ys, a, List.Perm.refl _⟩ (fun t _ h1 h2 => greedy_inv h t h1 h2)

theorem noyears_no : ∀ {ls T : List Int}, NoYears ls T → ∀ zs, ¬ Asg ls T zs
  | [], _, h, _ => h.elim
  | d :: ls, T, ⟨y, ht, h⟩, zs => by
    rintro ⟨hf, hn, hT⟩
    cases zs with
    | nil => exact hf
    | cons z r =>
      obtain ⟨h0, h1, h2⟩ := hf
      rw [List.nodup_cons] at hn
      have hzy : z ≤ y := by
        by_cases hc : z ≤ y
        · exact hc
        · exact (hT z List.mem_cons_self (ht.2.2 z (by omega) h1)).elim
      rcases h with h | ⟨hy, h⟩
      · omega
      · by_cases hyr : y ∈ r
        · refine noyears_no h (r.map (fun x => if x = y then z else x)) ⟨h2.swap h0 hzy, ?_, ?_⟩
          · unfold List.Nodup
            rw [List.pairwise_map]
            refine List.Pairwise.imp_of_mem ?_ hn.2
            intro a b ha hb hab
            show (if a = y then z else a) ≠ (if b = y then z else b)
            split <;> split
            · exact fun _ => hab (by omega)
            · exact fun e => hn.1 (e ▸ hb)
            · exact fun e => hn.1 (e ▸ ha)
            · exact hab
          · intro x hx hxT
            obtain ⟨a, ha, rfl⟩ := List.mem_map.mp hx
            by_cases e : a = y
            · simp only [e, ↓reduceIte] at hxT
              rcases List.mem_cons.mp hxT with e2 | hxT
              · exact hn.1 (e2 ▸ hyr)
              · exact hT z List.mem_cons_self hxT
            · simp only [e, ↓reduceIte] at hxT
              rcases List.mem_cons.mp hxT with e2 | hxT
              · exact e e2
              · exact hT a (List.mem_cons_of_mem _ ha) hxT
        · refine noyears_no h r ⟨h2, hn.2, fun x hx hxT => ?_⟩
          rcases List.mem_cons.mp hxT with e | hxT
          · exact hyr (e ▸ hx)
          · exact hT x (List.mem_cons_of_mem _ hx) hxT

theorem opt_of_asg {ls T zs : List Int} (h : Asg ls T zs) : ∃ S, Opt ls T S := by
  rcases years_or ls T with ⟨ys, hy⟩ | hn
  · exact ⟨ys, greedy_opt hy⟩
  · exact (noyears_no hn zs h).elim

theorem most_below {ys : List Int} {d : Int} (h : ∃ x ∈ ys, x ≤ d) : ∃ y ∈ ys, y ≤ d ∧ ∀ x ∈ ys, x ≤ d → x ≤ y := by
  induction ys with
  | nil => obtain ⟨x, hx, _⟩ := h; cases hx
  | cons a l ih =>
    by_cases hl : ∃ x ∈ l, x ≤ d
    · obtain ⟨y, hy, h1, h2⟩ := ih hl
      by_cases ha : a ≤ d ∧ y ≤ a
      · refine ⟨a, List.mem_cons_self, ha.1, fun x hx hxd => ?_⟩
        rcases List.mem_cons.mp hx with rfl | hx
        · omega
        · have := h2 x hx hxd; omega
      · refine ⟨y, List.mem_cons_of_mem _ hy, h1, fun x hx hxd => ?_⟩
        rcases List.mem_cons.mp hx with rfl | hx
        · omega
        · exact h2 x hx hxd
    · obtain ⟨x, hx, hxd⟩ := h
      rcases List.mem_cons.mp hx with rfl | hx
      · refine ⟨x, List.mem_cons_self, hxd, fun y hy hyd => ?_⟩
        rcases List.mem_cons.mp hy with rfl | hy
        · omega
        · exact (hl ⟨y, hy, hyd⟩).elim
      · exact (hl ⟨x, hx, hxd⟩).elim

theorem erase_len {l : List Int} {y : Int} (h : y ∈ l) : l.length = (l.erase y).length + 1 := by
  have := (List.perm_cons_erase h).length_eq
  simpa using this
theorem erase_ge {l : List Int} {y : Int} (h : y ∈ l) (t : Int) : ge l t = ge (l.erase y) t + if t ≤ y then 1 else 0 := by
  rw [ge_perm (List.perm_cons_erase h) t, ge_cons]
theorem erase_sum {l : List Int} {y : Int} (h : y ∈ l) : sumL l = y + sumL (l.erase y) := sumL_perm (List.perm_cons_erase h)

theorem hall : ∀ {ls ys : List Int}, ys.Nodup → (∀ x ∈ ys, 0 ≤ x) → ys.length = ls.length → (∀ t, ge ys t ≤ ge ls t) → ∃ zs, Fit ls zs ∧ zs.Perm ys
  | [], ys, _, _, hl, _ => by
    cases ys with
    | nil => exact ⟨[], trivial, List.Perm.refl _⟩
    | cons y l => simp at hl
  | d :: ls, ys, hn, h0, hl, hg => by
    have hex : ∃ x ∈ ys, x ≤ d := by
      by_cases h : ∃ x ∈ ys, x ≤ d
      · exact h
      · have e1 : ge ys (d + 1) = ys.length := ge_all (fun x hx => by
          by_cases hx' : x ≤ d
          · exact (h ⟨x, hx, hx'⟩).elim
          · omega)
        have e2 := hg (d + 1)
        rw [ge_cons, if_neg (by omega)] at e2
        have := ge_le_len ls (d + 1)
        simp at hl
        omega
    obtain ⟨y, hy, hyd, hmax⟩ := most_below hex
    have hlen := erase_len hy
    obtain ⟨zs, hz, hp⟩ := hall (ls := ls) (ys := ys.erase y) (hn.erase y) (fun x hx => h0 x (List.mem_of_mem_erase hx)) (by simp at hl; omega) (fun t => by
      have a := erase_ge hy t
      have b := hg t
      rw [ge_cons] at b
      by_cases h1 : t ≤ y
      · rw [if_pos h1] at a
        rw [if_pos (by omega)] at b
        omega
      · rw [if_neg h1] at a
        by_cases h2 : t ≤ d
        · have c : ∀ k : Nat, ∀ t, t = d + 1 - (k : Int) → y < t → ge ys t = ge ys (d + 1) := by
            intro k
            induction k with
            | zero => intro t ht _; rw [show t = d + 1 by omega]
            | succ k ih =>
              intro t ht hyt
              rw [ge_step_not (l := ys) (t := t) (fun hm => by have := hmax t hm (by omega); omega)]
              exact ih (t + 1) (by omega) (by omega)
          have c1 := c (d + 1 - t).toNat t (by omega) (by omega)
          have c2 := hg (d + 1)
          rw [ge_cons, if_neg (by omega)] at c2
          have c3 := ge_anti ls (s := t) (t := d + 1) (by omega)
          omega
        · rw [if_neg h2] at b
          omega)
    exact ⟨y :: zs, ⟨h0 y hy, hyd, hz⟩, (hp.cons y).trans (List.perm_cons_erase hy).symm⟩

/-- these years are enough for stretches with these last years -/
def Fill (ls S : List Int) : Prop := S.length = ls.length ∧ ∀ t, 0 ≤ t → ge S t ≤ ge ls t

def OkY (d : Int) (ls S : List Int) (y : Int) : Prop := y ∈ S ∧ y ≤ d ∧ Fill ls (S.erase y)

theorem Fill.perm {ls S S' : List Int} (h : Fill ls S) (hp : S.Perm S') : Fill ls S' :=
  ⟨hp.length_eq ▸ h.1, fun t ht => by rw [← ge_perm hp t]; exact h.2 t ht⟩
theorem OkY.perm {d y : Int} {ls S S' : List Int} (h : OkY d ls S y) (hp : S.Perm S') : OkY d ls S' y :=
  ⟨hp.mem_iff.mp h.1, h.2.1, h.2.2.perm (hp.erase y)⟩

theorem Opt.nonneg {ls T S : List Int} (h : Opt ls T S) : ∀ x ∈ S, 0 ≤ x := by
  obtain ⟨⟨zs, hz, hp⟩, _⟩ := h
  exact fun x hx => hz.1.nonneg x (hp.mem_iff.mpr hx)
theorem Opt.free {ls T S : List Int} (h : Opt ls T S) : ∀ x ∈ S, x ∉ T := by
  obtain ⟨⟨zs, hz, hp⟩, _⟩ := h
  exact fun x hx => hz.2.2 x (hp.mem_iff.mpr hx)
theorem Opt.lasts {ls T S : List Int} (h : Opt ls T S) : ∀ x ∈ ls, 0 ≤ x := by
  obtain ⟨⟨zs, hz, hp⟩, _⟩ := h
  exact hz.1.lasts
theorem Opt.len {ls T S : List Int} (h : Opt ls T S) : S.length = ls.length := by
  obtain ⟨⟨zs, hz, hp⟩, _⟩ := h
  rw [← hp.length_eq]; exact hz.1.len

theorem asg_cons {d y : Int} {ls T zs : List Int} (h0 : 0 ≤ y) (hd : y ≤ d) (hT : y ∉ T) (h : Asg ls (y :: T) zs) : Asg (d :: ls) T (y :: zs) :=
  ⟨⟨h0, hd, h.1⟩, List.nodup_cons.mpr ⟨fun hm => h.2.2 y hm List.mem_cons_self, h.2.1⟩, fun x hx => by
    rcases List.mem_cons.mp hx with rfl | hx
    · exact hT
    · exact fun hm => h.2.2 x hx (List.mem_cons_of_mem _ hm)⟩

theorem asg_tail {d y : Int} {ls T zs : List Int} (h : Asg (d :: ls) T (y :: zs)) : 0 ≤ y ∧ y ≤ d ∧ y ∉ T ∧ Asg ls (y :: T) zs := by
  obtain ⟨⟨h0, h1, h2⟩, h3, h4⟩ := h
  rw [List.nodup_cons] at h3
  refine ⟨h0, h1, h4 y List.mem_cons_self, h2, h3.2, fun x hx hm => ?_⟩
  rcases List.mem_cons.mp hm with rfl | hm
  · exact h3.1 hx
  · exact h4 x (List.mem_cons_of_mem _ hx) hm

theorem fill_asg {ls T S : List Int} (hn : S.Nodup) (h0 : ∀ x ∈ S, 0 ≤ x) (hl : ∀ x ∈ ls, 0 ≤ x) (hT : ∀ x ∈ S, x ∉ T) (h : Fill ls S) : ∃ zs, Asg ls T zs ∧ zs.Perm S := by
  obtain ⟨zs, hz, hp⟩ := hall hn h0 h.1 (fun t => by
    by_cases ht : 0 ≤ t
    · exact h.2 t ht
    · rw [ge_all (l := S) (fun x hx => by have := h0 x hx; omega), ge_all (l := ls) (fun x hx => by have := hl x hx; omega), h.1]
      exact Nat.le_refl _)
  exact ⟨zs, ⟨hz, hp.symm.nodup hn, fun x hx => hT x (hp.mem_iff.mp hx)⟩, hp⟩

theorem asg_fill {ls T S zs : List Int} (h : Asg ls T zs) (hp : zs.Perm S) : Fill ls S :=
  ⟨by rw [← hp.length_eq]; exact h.1.len, fun t _ => by rw [← ge_perm hp t]; exact h.1.ge_le t⟩

theorem step_opt {d y : Int} {ls T S : List Int} (h : Opt (d :: ls) T S) (hy : OkY d ls S y) : Opt ls (y :: T) (S.erase y) := by
  have hn := h.nodup
  have h0 := h.nonneg
  have hT := h.free
  refine ⟨fill_asg (hn.erase y) (fun x hx => h0 x (List.mem_of_mem_erase hx)) (fun x hx => h.lasts x (List.mem_cons_of_mem _ hx)) (fun x hx hm => ?_) hy.2.2, fun zs hz => ?_⟩
  · rw [hn.mem_erase_iff] at hx
    rcases List.mem_cons.mp hm with e | hm
    · exact hx.1 e
    · exact hT x hx.2 hm
  · have a := h.2 (y :: zs) (asg_cons (h0 y hy.1) hy.2.1 (hT y hy.1) hz)
    have e := erase_sum hy.1
    simp only [sumL] at a
    refine ⟨by omega, fun he => ?_⟩
    have p := a.2 (by omega)
    exact List.Perm.cons_inv (p.trans (List.perm_cons_erase hy.1))

theorem step_iff {d y : Int} {ls T S : List Int} (h : Opt (d :: ls) T S) (h0 : 0 ≤ y) (hd : y ≤ d) (hT : y ∉ T) :
    (∃ R, Opt ls (y :: T) R ∧ y + sumL R = sumL S) ↔ OkY d ls S y := by
  constructor
  · rintro ⟨R, hR, hs⟩
    obtain ⟨⟨zs, hz, hp⟩, _⟩ := hR
    have e := sumL_perm hp
    have a := (h.2 (y :: zs) (asg_cons h0 hd hT hz)).2 (by simp only [sumL]; omega)
    have hm : y ∈ S := a.mem_iff.mp List.mem_cons_self
    exact ⟨hm, hd, asg_fill hz (List.Perm.cons_inv (a.trans (List.perm_cons_erase hm)))⟩
  · intro hy
    have e := erase_sum hy.1
    exact ⟨_, step_opt h hy, by omega⟩

theorem step_exists {d : Int} {ls T S : List Int} (h : Opt (d :: ls) T S) : ∃ y, OkY d ls S y := by
  obtain ⟨⟨zs, hz, hp⟩, _⟩ := h
  cases zs with
  | nil => exact hz.1.elim
  | cons y r =>
    obtain ⟨h0, h1, h2, h3⟩ := asg_tail hz
    have hm : y ∈ S := hp.mem_iff.mp List.mem_cons_self
    exact ⟨y, hm, h1, asg_fill h3 (List.Perm.cons_inv (hp.trans (List.perm_cons_erase hm)))⟩

/-- the years of the best plan, out of these -/
def Pl : List Int → List Int → List Int → Prop
  | [], _, out => out = []
  | d :: ls, S, out => ∃ y r, out = y :: r ∧ OkY d ls S y ∧ (∀ z, z < y → ¬ OkY d ls S z) ∧ Pl ls (S.erase y) r

theorem Pl.same : ∀ {ls S S' a b : List Int}, S.Perm S' → Pl ls S a → Pl ls S' b → a = b
  | [], _, _, _, _, _, ha, hb => by cases ha; cases hb; rfl
  | d :: ls, S, S', a, b, hp, ⟨y, r, e, h1, h2, h3⟩, ⟨y', r', e', h1', h2', h3'⟩ => by
    subst e; subst e'
    have hy : y = y' := by
      rcases Int.lt_trichotomy y y' with h | h | h
      · exact (h2' y h (h1.perm hp)).elim
      · exact h
      · exact (h2 y' h (h1'.perm hp.symm)).elim
    subst hy
    rw [Pl.same (hp.erase y) h3 h3']

def lexlt : List Int → List Int → Prop
  | a :: as, b :: bs => a < b ∨ a = b ∧ lexlt as bs
  | [], _ :: _ => True
  | _, [] => False

theorem Pl.best : ∀ {ls T S out : List Int}, Opt ls T S → Pl ls S out → Asg ls T out ∧ out.Perm S ∧ ∀ zs, Asg ls T zs → sumL zs = sumL S → ¬ lexlt zs out
  | [], T, S, out, h, hp => by
    cases hp
    have hl := h.len
    have hS : S = [] := by cases S with
      | nil => rfl
      | cons a b => simp at hl
    subst hS
    refine ⟨⟨trivial, List.nodup_nil, fun x hx => by cases hx⟩, List.Perm.refl _, fun zs hz _ hc => ?_⟩
    cases zs with
    | nil => exact hc
    | cons a b => exact hz.1
  | d :: ls, T, S, out, h, ⟨y, r, e, h1, h2, h3⟩ => by
    subst e
    obtain ⟨a, b, c⟩ := Pl.best (step_opt h h1) h3
    refine ⟨asg_cons (h.nonneg y h1.1) h1.2.1 (h.free y h1.1) a, (b.cons y).trans (List.perm_cons_erase h1.1).symm, fun zs hz hs hc => ?_⟩
    cases zs with
    | nil => exact hz.1
    | cons z q =>
      obtain ⟨z0, z1, z2, z3⟩ := asg_tail hz
      have hp := (h.2 _ hz).2 hs
      have hm : z ∈ S := hp.mem_iff.mp List.mem_cons_self
      have ho : OkY d ls S z := ⟨hm, z1, asg_fill z3 (List.Perm.cons_inv (hp.trans (List.perm_cons_erase hm)))⟩
      rcases hc with hc | ⟨rfl, hc⟩
      · exact h2 z hc ho
      · exact c q z3 (by have := erase_sum hm; simp only [sumL] at hs; omega) hc

end Go.Kn

namespace Go.Kn

/-- the last years of those that are due -/
def lst (du : Nat → Bool) (la : Nat → Int) : Nat → List Int
  | 0 => []
  | k + 1 => if du k then lst du la k ++ [la k] else lst du la k
/-- those that are due -/
def dux (du : Nat → Bool) : Nat → List Int
  | 0 => []
  | k + 1 => if du k then dux du k ++ [(k : Int)] else dux du k
/-- how many before this one are due -/
def cnt (du : Nat → Bool) : Nat → Nat
  | 0 => 0
  | k + 1 => if du k then cnt du k + 1 else cnt du k
/-- a plan, as far as it is filled -/
def plF (du : Nat → Bool) (out : List Int) (m i : Nat) : Int := if du i = true ∧ cnt du i < m then out.getD (cnt du i) 0 else -1

theorem lst_t {du : Nat → Bool} (la : Nat → Int) {k : Nat} (h : du k = true) : lst du la (k + 1) = lst du la k ++ [la k] := by simp [lst, h]
theorem lst_f {du : Nat → Bool} (la : Nat → Int) {k : Nat} (h : du k = false) : lst du la (k + 1) = lst du la k := by simp [lst, h]
theorem dux_t {du : Nat → Bool} {k : Nat} (h : du k = true) : dux du (k + 1) = dux du k ++ [(k : Int)] := by simp [dux, h]
theorem dux_f {du : Nat → Bool} {k : Nat} (h : du k = false) : dux du (k + 1) = dux du k := by simp [dux, h]
theorem cnt_t {du : Nat → Bool} {k : Nat} (h : du k = true) : cnt du (k + 1) = cnt du k + 1 := by simp [cnt, h]
theorem cnt_f {du : Nat → Bool} {k : Nat} (h : du k = false) : cnt du (k + 1) = cnt du k := by simp [cnt, h]
theorem lst_len (du : Nat → Bool) (la : Nat → Int) : ∀ k, (lst du la k).length = cnt du k
  | 0 => rfl
  | k + 1 => by
    cases h : du k
    · rw [lst_f la h, cnt_f h, lst_len du la k]
    · rw [lst_t la h, cnt_t h, List.length_append, lst_len du la k]; rfl
theorem dux_len (du : Nat → Bool) : ∀ k, (dux du k).length = cnt du k
  | 0 => rfl
  | k + 1 => by
    cases h : du k
    · rw [dux_f h, cnt_f h, dux_len du k]
    · rw [dux_t h, cnt_t h, List.length_append, dux_len du k]; rfl
theorem cnt_le (du : Nat → Bool) : ∀ k, cnt du k ≤ k
  | 0 => Nat.le_refl _
  | k + 1 => by
    have := cnt_le du k
    cases h : du k
    · rw [cnt_f h]; omega
    · rw [cnt_t h]; omega
theorem cnt_mono (du : Nat → Bool) {a b : Nat} (h : a ≤ b) : cnt du a ≤ cnt du b := by
  induction b with
  | zero => have : a = 0 := by omega
            subst this; exact Nat.le_refl _
  | succ b ih =>
    by_cases e : a = b + 1
    · rw [e]; exact Nat.le_refl _
    · have := ih (by omega)
      cases hb : du b
      · rw [cnt_f hb]; exact this
      · rw [cnt_t hb]; omega
theorem cnt_lt {du : Nat → Bool} {a b : Nat} (h : a < b) (ha : du a = true) : cnt du a < cnt du b := by
  have := cnt_mono du (a := a + 1) (b := b) (by omega)
  rw [cnt_t ha] at this
  omega
theorem cnt_inj {du : Nat → Bool} {a b : Nat} (ha : du a = true) (hb : du b = true) (h : cnt du a = cnt du b) : a = b := by
  rcases Nat.lt_trichotomy a b with hl | hl | hl
  · have := cnt_lt hl ha; omega
  · exact hl
  · have := cnt_lt hl hb; omega
theorem dux_get {du : Nat → Bool} : ∀ {n k : Nat}, k < cnt du n → ∃ j, j < n ∧ du j = true ∧ cnt du j = k ∧ (dux du n).getD k 0 = (j : Int)
  | 0, k, h => by simp [cnt] at h
  | n + 1, k, h => by
    cases hd : du n
    · rw [cnt_f hd] at h
      obtain ⟨j, h1, h2, h3, h4⟩ := dux_get (du := du) (n := n) h
      exact ⟨j, by omega, h2, h3, by rw [dux_f hd]; exact h4⟩
    · rw [cnt_t hd] at h
      by_cases e : k = cnt du n
      · refine ⟨n, by omega, hd, e.symm, ?_⟩
        rw [dux_t hd, List.getD, List.getElem?_append_right (show (dux du n).length ≤ k by rw [dux_len]; omega), dux_len, e]
        simp
      · obtain ⟨j, h1, h2, h3, h4⟩ := dux_get (du := du) (n := n) (k := k) (by omega)
        refine ⟨j, by omega, h2, h3, ?_⟩
        rw [dux_t hd, List.getD, List.getElem?_append_left (show k < (dux du n).length by rw [dux_len]; omega)]
        exact h4
theorem plF_step {du : Nat → Bool} (out : List Int) {k j : Nat} (hj : du j = true) (hc : cnt du j = k) (i : Nat) : plF du out (k + 1) i = if i = j then out.getD k 0 else plF du out k i := by
  unfold plF
  by_cases e : i = j
  · subst e
    rw [if_pos ⟨hj, by omega⟩, if_pos rfl, hc]
  · rw [if_neg e]
    by_cases h : du i = true ∧ cnt du i < k
    · rw [if_pos h, if_pos ⟨h.1, by omega⟩]
    · rw [if_neg h, if_neg]
      rintro ⟨h1, h2⟩
      have : cnt du i = k := by
        by_cases h3 : cnt du i < k
        · exact (h ⟨h1, h3⟩).elim
        · omega
      exact e (cnt_inj h1 hj (by omega))
theorem plF_zero (du : Nat → Bool) (out : List Int) (i : Nat) : plF du out 0 i = -1 := by simp [plF]
theorem lst_bd {du : Nat → Bool} {la : Nat → Int} {n : Nat} {p : Int → Prop} (h : ∀ i, i < n → p (la i)) : ∀ k, k ≤ n → ∀ x ∈ lst du la k, p x
  | 0, _, x, hx => by cases hx
  | k + 1, hk, x, hx => by
    cases hd : du k
    · rw [lst_f la hd] at hx
      exact lst_bd h k (by omega) x hx
    · rw [lst_t la hd, List.mem_append, List.mem_singleton] at hx
      rcases hx with hx | rfl
      · exact lst_bd h k (by omega) x hx
      · exact h k (by omega)

end Go.Kn

namespace Go.Kn

/-- the search for the years of the greatest sum, from this year on -/
structure Yrs (ls : List Int) (Y : Int) (out left : List Int) : Prop where
  ex : ∃ rm : List Int, Fit rm out ∧ (∀ t, ge rm t + ge left t = ge ls t) ∧ rm.length + left.length = ls.length ∧ ∀ t, Y ≤ t → t ∉ out → ge left t = 0 ∧ ge rm t = ge out t
  nd : out.Nodup
  bd : ∀ y ∈ out, Y ≤ y ∧ y ≤ 40

theorem yrs_start {ls : List Int} (h : ∀ x ∈ ls, x ≤ 40) : Yrs ls 41 [] ls :=
  ⟨⟨[], trivial, fun t => by simp [ge], by simp, fun t ht _ => ⟨ge_none (fun x hx => by have := h x hx; omega), rfl⟩⟩, List.nodup_nil, fun y hy => by cases hy⟩

theorem fit_snoc : ∀ {a b : List Int} {d y : Int}, Fit a b → 0 ≤ y → y ≤ d → Fit (a ++ [d]) (b ++ [y])
  | [], [], _, _, _, h0, h1 => ⟨h0, h1, trivial⟩
  | [], _ :: _, _, _, h, _, _ => h.elim
  | _ :: _, [], _, _, h, _, _ => h.elim
  | _ :: _, _ :: _, _, _, h, h0, h1 => ⟨h.1, h.2.1, fit_snoc h.2.2 h0 h1⟩

theorem fit_low : ∀ {a b : List Int} {Y : Int}, Fit a b → (∀ y ∈ b, Y ≤ y) → ∀ x ∈ a, Y ≤ x
  | [], [], _, _, _, x, hx => by cases hx
  | [], _ :: _, _, h, _, _, _ => h.elim
  | _ :: _, [], _, h, _, _, _ => h.elim
  | d :: a, y :: b, Y, h, hY, x, hx => by
    rcases List.mem_cons.mp hx with rfl | hx
    · have := hY y List.mem_cons_self; have := h.2.1; omega
    · exact fit_low h.2.2 (fun z hz => hY z (List.mem_cons_of_mem _ hz)) x hx

theorem ge_app (a b : List Int) (t : Int) : ge (a ++ b) t = ge a t + ge b t := List.countP_append ..

theorem ge_pos {l : List Int} {x t : Int} (h : x ∈ l) (ht : ge l t = 0) : x < t := by
  unfold ge at ht
  rw [List.countP_eq_zero] at ht
  have := ht x h
  simp at this
  omega

theorem yrs_skip {ls out left : List Int} {Y : Int} (h : Yrs ls Y out left) (hn : ∀ x ∈ left, x < Y - 1) : Yrs ls (Y - 1) out left := by
  obtain ⟨⟨rm, h1, h2, h3, h4⟩, h5, h6⟩ := h
  refine ⟨⟨rm, h1, h2, h3, fun t ht hto => ?_⟩, h5, fun y hy => ⟨by have := (h6 y hy).1; omega, (h6 y hy).2⟩⟩
  by_cases e : t = Y - 1
  · subst e
    refine ⟨ge_none hn, ?_⟩
    rw [ge_all (l := rm) (fun x hx => by have := fit_low h1 (fun y hy => (h6 y hy).1) x hx; omega), ge_all (l := out) (fun x hx => by have := (h6 x hx).1; omega), h1.len]
  · exact h4 t (by omega) hto

theorem perm_eraseIdx : ∀ {l : List Int} {k : Nat} {d : Int}, l[k]? = some d → l.Perm (d :: l.eraseIdx k)
  | [], k, d, h => by simp at h
  | x :: l, 0, d, h => by
    simp at h
    subst h
    exact List.Perm.refl _
  | x :: l, k + 1, d, h => by
    have := perm_eraseIdx (l := l) (k := k) (d := d) (by simpa using h)
    exact (this.cons x).trans (List.Perm.swap d x _)

theorem yrs_take {ls out left : List Int} {Y d : Int} {k : Nat} (h : Yrs ls Y out left) (hk : left[k]? = some d) (hd : Y - 1 ≤ d) (h0 : 1 ≤ Y) (h41 : Y ≤ 41) : Yrs ls (Y - 1) (out ++ [Y - 1]) (left.eraseIdx k) := by
  obtain ⟨⟨rm, h1, h2, h3, h4⟩, h5, h6⟩ := h
  have hkl : k < left.length := (List.getElem?_eq_some_iff.1 hk).1
  have hp : left.Perm (d :: left.eraseIdx k) := perm_eraseIdx hk
  have hg : ∀ t, ge left t = ge (left.eraseIdx k) t + if t ≤ d then 1 else 0 := fun t => by rw [ge_perm hp t, ge_cons]
  have hdm : d ∈ left := List.mem_of_getElem? hk
  refine ⟨⟨rm ++ [d], fit_snoc h1 (by omega) hd, fun t => ?_, ?_, fun t ht hto => ?_⟩, ?_, fun y hy => ?_⟩
  · rw [ge_app, ge_cons, ← h2 t, hg t]
    have : ge [] t = 0 := rfl
    omega
  · have := hp.length_eq
    simp at this ⊢
    omega
  · rw [List.mem_append, List.mem_singleton, not_or] at hto
    obtain ⟨a, b⟩ := h4 t (by omega) hto.1
    have hdt := ge_pos hdm a
    have e0 : ge ([] : List Int) t = 0 := rfl
    rw [hg t] at a
    rw [ge_app, ge_app, ge_cons, ge_cons, if_neg (show ¬ t ≤ d by omega), if_neg (show ¬ t ≤ Y - 1 by omega)]
    omega
  · rw [List.nodup_append]
    refine ⟨h5, by simp, fun a ha b hb e => ?_⟩
    rw [List.mem_singleton] at hb
    have := (h6 a ha).1
    omega
  · rw [List.mem_append, List.mem_singleton] at hy
    rcases hy with hy | rfl
    · exact ⟨by have := (h6 y hy).1; omega, (h6 y hy).2⟩
    · omega

theorem yrs_opt {ls out : List Int} (h : Yrs ls 0 out []) : Opt ls [] out := by
  obtain ⟨⟨rm, h1, h2, h3, h4⟩, h5, h6⟩ := h
  have hg : ∀ t, ge rm t = ge ls t := fun t => by have := h2 t; have e : ge ([] : List Int) t = 0 := rfl; omega
  have hl : out.length = ls.length := by rw [h1.len]; simpa using h3
  obtain ⟨zs, hz, hp⟩ := hall (ls := ls) h5 (fun x hx => (h6 x hx).1) hl (fun t => by rw [← hg t]; exact h1.ge_le t)
  exact opt_of h5 (fun x hx => (h6 x hx).1) hl ⟨zs, ⟨hz, hp.symm.nodup h5, fun x _ hx => by cases hx⟩, hp⟩ (fun t ht _ hto => by rw [← hg t, (h4 t ht hto).2]; exact Nat.le_refl _)

theorem yrs_no {ls out left : List Int} (h : Yrs ls 0 out left) (hne : left.length ≠ 0) : ∀ zs, ¬ Asg ls [] zs := by
  rintro zs ⟨hf, hn, hT⟩
  obtain ⟨⟨rm, h1, h2, h3, h4⟩, h5, h6⟩ := h
  have := dominated (ls := ls) (T := []) h5 hn hT hf.ge_le (fun t ht _ hto => by have := h2 t; obtain ⟨a, b⟩ := h4 t ht hto; omega) 0 (Int.le_refl _)
  rw [ge_all (l := zs) hf.nonneg, ge_all (l := out) (fun x hx => (h6 x hx).1), hf.len] at this
  have := h1.len
  omega

theorem no_asg {ls : List Int} (h : ∀ zs, ¬ Asg ls [] zs) : NoYears ls [] := by
  rcases years_or ls [] with ⟨ys, hy⟩ | hn
  · exact (h ys (greedy_asg hy)).elim
  · exact hn

end Go.Kn

namespace Go.Kn

theorem plF_pre {du : Nat → Bool} {pre : List Int} {i : Nat} (hp : pre.length = cnt du i) (y : Int) {j : Nat} (hj : j < i) (m : Nat) (hm : cnt du i ≤ m) : plF du (pre ++ [y]) m j = plF du pre (cnt du i) j := by
  unfold plF
  by_cases hd : du j = true
  · have h1 := cnt_lt hj hd
    rw [if_pos ⟨hd, by omega⟩, if_pos ⟨hd, h1⟩, List.getD, List.getElem?_append_left (by omega)]
    rfl
  · rw [if_neg (fun h => hd h.1), if_neg (fun h => hd h.1)]
theorem plF_at {du : Nat → Bool} {pre : List Int} {i : Nat} (hp : pre.length = cnt du i) (hd : du i = true) (y : Int) {m : Nat} (hm : cnt du i < m) : plF du (pre ++ [y]) m i = y := by
  unfold plF
  rw [if_pos ⟨hd, hm⟩, List.getD, ← hp]
  simp
theorem plF_not {du : Nat → Bool} {i : Nat} (hd : du i = false) (pre : List Int) (m : Nat) : plF du pre m i = -1 := by
  unfold plF
  rw [if_neg (fun h => by rw [hd] at h; cases h.1)]

theorem Pl.perm : ∀ {ls S S' r : List Int}, Pl ls S r → S.Perm S' → Pl ls S' r
  | [], _, _, _, h, _ => h
  | d :: ls, S, S', r, ⟨y, q, e, h1, h2, h3⟩, hp => ⟨y, q, e, h1.perm hp, fun z hz ho => h2 z hz (ho.perm hp.symm), Pl.perm h3 (hp.erase y)⟩

theorem eraseIdx_perm {S : List Int} {j : Nat} (h : j < S.length) : (S.eraseIdx j).Perm (S.erase (S.getD j 0)) := by
  have e : S[j]? = some (S.getD j 0) := by simp [List.getD, h]
  have a := perm_eraseIdx e
  have b := List.perm_cons_erase (List.mem_of_getElem? e)
  exact List.Perm.cons_inv (a.symm.trans b)

theorem okY_iff {S ls : List Int} {d : Int} {j : Nat} (h : j < S.length) : OkY d ls S (S.getD j 0) ↔ S.getD j 0 ≤ d ∧ Fill ls (S.eraseIdx j) := by
  have e : S[j]? = some (S.getD j 0) := by simp [List.getD, h]
  constructor
  · rintro ⟨_, h2, h3⟩
    exact ⟨h2, h3.perm (eraseIdx_perm h).symm⟩
  · rintro ⟨h2, h3⟩
    exact ⟨List.mem_of_getElem? e, h2, h3.perm (eraseIdx_perm h)⟩

theorem mem_getD {S : List Int} {z : Int} (h : z ∈ S) : ∃ j, j < S.length ∧ S.getD j 0 = z := by
  obtain ⟨j, hj, e⟩ := List.mem_iff_getElem.mp h
  exact ⟨j, hj, by simp [List.getD, hj, e]⟩

theorem drop_cnt_t {du : Nat → Bool} {la : Nat → Int} {i n : Nat} (hi : i < n) (hd : du i = true) : (lst du la n).drop (cnt du i) = la i :: (lst du la n).drop (cnt du (i + 1)) := by
  induction n with
  | zero => omega
  | succ n ih =>
    by_cases e : i = n
    · subst e
      rw [lst_t la hd, cnt_t hd, List.drop_append_of_le_length (by rw [lst_len]; exact Nat.le_refl _), ← lst_len du la i, List.drop_length]
      rw [show (lst du la i).length + 1 = (lst du la i ++ [la i]).length by simp, List.drop_length]
      rfl
    · have h1 := ih (by omega)
      have h2 := cnt_mono du (a := i + 1) (b := n) (by omega)
      have h3 := cnt_lt (a := i) (b := n) (by omega) hd
      cases hn : du n
      · rw [lst_f la hn]; exact h1
      · rw [lst_t la hn, List.drop_append_of_le_length (by rw [lst_len]; omega), List.drop_append_of_le_length (by rw [lst_len]; exact h2), h1]
        rfl
theorem drop_cnt_all (du : Nat → Bool) (la : Nat → Int) (n : Nat) : (lst du la n).drop (cnt du n) = [] := by
  rw [← lst_len du la n, List.drop_length]

end Go.Kn
