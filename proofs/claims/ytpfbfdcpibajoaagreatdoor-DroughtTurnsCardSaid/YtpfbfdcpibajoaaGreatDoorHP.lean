/- Contracts of functions that the laws of this seat call, or the evaluator of closed calls and its runs. Conditions: as each theorem states them. -/
import Derived.Lib.Hide
set_option linter.unusedVariables false
set_option linter.unusedSimpArgs false
/- Contracts of functions that the laws of this seat call, or the evaluator of closed calls and its runs. Conditions: as each theorem states them. -/
set_option linter.unusedVariables false
set_option linter.unusedSimpArgs false
namespace Go.Kn

def fromB (a b c : Int) : Bool := decide (a ≤ c ∧ c ≤ b)

structure N2 where
  p : Int
  c : Int

structure O3 where
  n : Int
  c : Int
  k : Int

def nodeB (i : Nat) (x : N2) : Bool := fromB 0 i x.p && fromB 0 200 x.c

def outB (ln : Nat) (x : O3) : Bool := fromB 0 ln x.n && fromB 1 200 x.c && fromB 0 3 x.k

/-- a tree is as defined -/
structure TreeS (f : Int) (ln lo : Nat) (N : Nat → N2) (U : Nat → O3) : Prop where
  ff : fromB 0 200 f = true
  l6 : ln ≤ 6
  lo1 : 1 ≤ lo
  lo2 : lo ≤ 8
  nk : ∀ i, i < ln → nodeB i (N i) = true
  ok : ∀ i, i < lo → outB ln (U i) = true

/-- a tree is as defined, or some capacity, or its inflow, is greater by 1 than it can be -/
structure TreeP (f : Int) (ln lo : Nat) (N : Nat → N2) (U : Nat → O3) : Prop where
  ff : 0 ≤ f ∧ f ≤ 201
  l6 : ln ≤ 6
  lo1 : 1 ≤ lo
  lo2 : lo ≤ 8
  nk : ∀ i, i < ln → (0 ≤ (N i).p ∧ (N i).p ≤ i) ∧ 0 ≤ (N i).c ∧ (N i).c ≤ 201
  ok : ∀ i, i < lo → outB ln (U i) = true

theorem tree_ns {f : Int} {ln lo : Nat} {N : Nat → N2} {U : Nat → O3} (H : TreeS f ln lo N U) {i : Nat} (hi : i < ln) : (0 ≤ (N i).p ∧ (N i).p ≤ i) ∧ 0 ≤ (N i).c ∧ (N i).c ≤ 200 := by
  have := H.nk i hi; simp only [nodeB, fromB, Bool.and_eq_true, decide_eq_true_eq] at this; exact this

theorem TreeS.w {f : Int} {ln lo : Nat} {N : Nat → N2} {U : Nat → O3} (H : TreeS f ln lo N U) : TreeP f ln lo N U := by
  have h1 := H.ff
  simp only [fromB, decide_eq_true_eq] at h1
  exact ⟨by omega, H.l6, H.lo1, H.lo2, fun i hi => by have := tree_ns H hi; omega, H.ok⟩

theorem tree_n {f : Int} {ln lo : Nat} {N : Nat → N2} {U : Nat → O3} (H : TreeP f ln lo N U) {i : Nat} (hi : i < ln) : (0 ≤ (N i).p ∧ (N i).p ≤ i) ∧ 0 ≤ (N i).c ∧ (N i).c ≤ 201 := H.nk i hi

theorem tree_o {f : Int} {ln lo : Nat} {N : Nat → N2} {U : Nat → O3} (H : TreeP f ln lo N U) {i : Nat} (hi : i < lo) : (0 ≤ (U i).n ∧ (U i).n ≤ ln) ∧ (1 ≤ (U i).c ∧ (U i).c ≤ 200) ∧ 0 ≤ (U i).k ∧ (U i).k ≤ 3 := by
  have := H.ok i hi; simp only [outB, fromB, Bool.and_eq_true, decide_eq_true_eq] at this; exact ⟨this.1.1, this.1.2, this.2⟩

/-- shares are as defined for a tree -/
structure SharesP (ls lo : Nat) (s : Nat → Int) (U : Nat → O3) : Prop where
  len : ls = lo
  sok : ∀ i, i < lo → fromB 0 (U i).c (s i) = true

/-- the node above a node -/
def parN (N : Nat → N2) : Nat → Int
  | 0 => -1
  | n + 1 => (N n).p

/-- how much flows to a node at most -/
def capN (f : Int) (N : Nat → N2) : Nat → Int
  | 0 => f
  | n + 1 => (N n).c

/-- a node, the one above it, and so on, up to the source -/
def upL (N : Nat → N2) : Nat → Nat → List Nat
  | _, 0 => [0]
  | 0, n + 1 => [n + 1]
  | f + 1, n + 1 => (n + 1) :: upL N f (N n).p.toNat

def path (N : Nat → N2) (n : Nat) : List Nat := upL N n n

theorem upL_fuel (N : Nat → N2) (n : Nat) : ∀ f, n ≤ f → (∀ i, i < n → (N i).p.toNat ≤ i) → upL N f n = upL N n n := by
  induction n using Nat.strongRecOn with
  | ind n ih =>
    intro f hf hp
    cases n with
    | zero => cases f <;> rfl
    | succ k =>
      obtain ⟨g, rfl⟩ : ∃ g, f = g + 1 := ⟨f - 1, by omega⟩
      have hk := hp k (by omega)
      show (k + 1) :: upL N g (N k).p.toNat = (k + 1) :: upL N k (N k).p.toNat
      rw [ih _ (by omega) g (by omega) (fun i hi => hp i (by omega)), ih _ (by omega) k hk (fun i hi => hp i (by omega))]

theorem path_zero (N : Nat → N2) : path N 0 = [0] := rfl

theorem path_succ {f : Int} {ln lo : Nat} {N : Nat → N2} {U : Nat → O3} (H : TreeP f ln lo N U) {n : Nat} (hn : n < ln) : path N (n + 1) = (n + 1) :: path N (N n).p.toNat := by
  have hp : ∀ i, i < ln → (N i).p.toNat ≤ i := fun i hi => by have := (tree_n H hi).1; omega
  show (n + 1) :: upL N n (N n).p.toNat = _
  rw [upL_fuel N _ n (hp n hn) (fun i hi => hp i (by have := hp n hn; omega))]
  rfl

/-- what the first k outlets get of the water that flows through a node -/
def sumB (N : Nat → N2) (U : Nat → O3) (s : Nat → Int) (m : Nat) : Nat → Int
  | 0 => 0
  | k + 1 => sumB N U s m k + (if m ∈ path N (U k).n.toNat then s k else 0)

theorem sumB_le {N : Nat → N2} {U : Nat → O3} {s : Nat → Int} {m : Nat} : ∀ k, (∀ i, i < k → 0 ≤ s i ∧ s i ≤ 200) → 0 ≤ sumB N U s m k ∧ sumB N U s m k ≤ 200 * k
  | 0, _ => by simp [sumB]
  | k + 1, h => by
    have h1 := sumB_le (N := N) (U := U) (m := m) k (fun i hi => h i (by omega))
    have h2 := h k (by omega)
    simp only [sumB]
    split <;> omega

theorem shares_bd {f : Int} {ln lo : Nat} {N : Nat → N2} {U : Nat → O3} {s : Nat → Int} {ls : Nat} (H : TreeP f ln lo N U) (HS : SharesP ls lo s U) {i : Nat} (hi : i < lo) : 0 ≤ s i ∧ s i ≤ (U i).c ∧ s i ≤ 200 := by
  have h := HS.sok i hi
  have h2 := (tree_o H hi).2.1
  simp only [fromB, decide_eq_true_eq] at h
  omega

/-- shares fit -/
def FitP (f : Int) (ln lo : Nat) (N : Nat → N2) (U : Nat → O3) (s : Nat → Int) : Prop := ∀ m, m ≤ ln → sumB N U s m lo ≤ capN f N m

end Go.Kn

namespace Go.Kn
open Classical

/-- one outlet gets some cups more -/
def put (s : Nat → Int) (i : Nat) (c : Int) : Nat → Int := fun j => if j = i then s j + c else s j
theorem put_same (s : Nat → Int) (i : Nat) (c : Int) : put s i c i = s i + c := by simp [put]
theorem put_other {s : Nat → Int} {i j : Nat} {c : Int} (h : j ≠ i) : put s i c j = s j := by simp [put, h]
theorem put_ge (s : Nat → Int) (i j : Nat) {c : Int} (h : 0 ≤ c) : s j ≤ put s i c j := by unfold put; split <;> omega

section
variable {f : Int} {ln lo : Nat} {N : Nat → N2} {U : Nat → O3}

theorem sumB_congr {s t : Nat → Int} {m : Nat} : ∀ k, (∀ i, i < k → m ∈ path N (U i).n.toNat → s i = t i) → sumB N U s m k = sumB N U t m k
  | 0, _ => rfl
  | k + 1, h => by
    simp only [sumB]
    rw [sumB_congr k (fun i hi hm => h i (by omega) hm)]
    split
    · rename_i hm; rw [h k (by omega) hm]
    · rfl
theorem sumB_put {s : Nat → Int} {m i : Nat} {c : Int} : ∀ k, sumB N U (put s i c) m k = sumB N U s m k + (if i < k ∧ m ∈ path N (U i).n.toNat then c else 0)
  | 0 => by simp [sumB]
  | k + 1 => by
    simp only [sumB]
    rw [sumB_put k]
    by_cases hik : k = i
    · subst hik
      by_cases hm : m ∈ path N (U k).n.toNat
      · simp [hm, put_same]; omega
      · simp [hm]
    · rw [put_other hik]
      have e : (i < k + 1 ∧ m ∈ path N (U i).n.toNat) ↔ (i < k ∧ m ∈ path N (U i).n.toNat) := by
        constructor
        · rintro ⟨h1, h2⟩; exact ⟨by omega, h2⟩
        · rintro ⟨h1, h2⟩; exact ⟨by omega, h2⟩
      simp only [e]
      omega
theorem sumB_mono {s t : Nat → Int} {m : Nat} : ∀ k, (∀ i, i < k → m ∈ path N (U i).n.toNat → s i ≤ t i) → sumB N U s m k ≤ sumB N U t m k
  | 0, _ => by simp [sumB]
  | k + 1, h => by
    simp only [sumB]
    have h1 := sumB_mono k (fun i hi hm => h i (by omega) hm)
    split
    · rename_i hm; have := h k (by omega) hm; omega
    · omega

/-- an outlet can get some cups more -/
def OkP (f : Int) (lo : Nat) (N : Nat → N2) (U : Nat → O3) (s : Nat → Int) (i : Nat) (c : Int) : Prop :=
  s i + c ≤ (U i).c ∧ ∀ m ∈ path N (U i).n.toNat, sumB N U s m lo + c ≤ capN f N m

theorem okP_mono {s t : Nat → Int} {i : Nat} (hi : i < lo) (h : ∀ j, j < lo → s j ≤ t j) (ho : OkP f lo N U t i 1) : OkP f lo N U s i 1 :=
  ⟨by have := h i hi; have := ho.1; omega, fun m hm => by have h1 := ho.2 m hm; have h2 := sumB_mono (N := N) (U := U) (m := m) lo (fun i hi _ => h i hi); omega⟩

theorem path_le (HT : TreeP f ln lo N U) : ∀ (n : Nat), n ≤ ln → ∀ m ∈ path N n, m ≤ n := by
  intro n
  induction n using Nat.strongRecOn with
  | ind n ih =>
    intro hn m hm
    cases n with
    | zero => simp [path_zero] at hm; omega
    | succ k =>
      rw [path_succ HT (by omega)] at hm
      have hp := (tree_n HT (show k < ln by omega)).1
      rcases List.mem_cons.1 hm with h | h
      · omega
      · have := ih (N k).p.toNat (by omega) (by omega) m h
        omega
theorem path_self (HT : TreeP f ln lo N U) {n : Nat} (hn : n ≤ ln) : n ∈ path N n := by
  cases n with
  | zero => simp [path_zero]
  | succ k => rw [path_succ HT (by omega)]; simp
theorem path_src (HT : TreeP f ln lo N U) : ∀ (n : Nat), n ≤ ln → 0 ∈ path N n := by
  intro n
  induction n using Nat.strongRecOn with
  | ind n ih =>
    intro hn
    cases n with
    | zero => simp [path_zero]
    | succ k =>
      rw [path_succ HT (by omega)]
      have hp := (tree_n HT (show k < ln by omega)).1
      exact List.mem_cons_of_mem _ (ih (N k).p.toNat (by omega) (by omega))
theorem path_nodup (HT : TreeP f ln lo N U) : ∀ (n : Nat), n ≤ ln → (path N n).Nodup := by
  intro n
  induction n using Nat.strongRecOn with
  | ind n ih =>
    intro hn
    cases n with
    | zero => simp [path_zero]
    | succ k =>
      rw [path_succ HT (by omega)]
      have hp := (tree_n HT (show k < ln by omega)).1
      refine List.nodup_cons.2 ⟨fun h => ?_, ih _ (by omega) (by omega)⟩
      have := path_le HT (N k).p.toNat (by omega) _ h
      omega
/-- what is above a node that is above -/
theorem path_tail (HT : TreeP f ln lo N U) : ∀ (n : Nat), n ≤ ln → ∀ m ∈ path N n, ∃ l, path N n = l ++ path N m ∧ ∀ x ∈ l, m < x := by
  intro n
  induction n using Nat.strongRecOn with
  | ind n ih =>
    intro hn m hm
    cases n with
    | zero => simp [path_zero] at hm; subst hm; exact ⟨[], rfl, by simp⟩
    | succ k =>
      have hp := (tree_n HT (show k < ln by omega)).1
      rw [path_succ HT (by omega)] at hm
      rcases List.mem_cons.1 hm with h | h
      · exact ⟨[], by rw [h]; rfl, by simp⟩
      · obtain ⟨l, h1, h2⟩ := ih (N k).p.toNat (by omega) (by omega) m h
        refine ⟨(k + 1) :: l, by rw [path_succ HT (by omega), h1]; rfl, fun x hx => ?_⟩
        rcases List.mem_cons.1 hx with h3 | h3
        · have := path_le HT (N k).p.toNat (by omega) _ h; omega
        · exact h2 x h3
theorem node_le (HT : TreeP f ln lo N U) {i : Nat} (hi : i < lo) : (U i).n.toNat ≤ ln := by have := (tree_o HT hi).1; omega

/-- shares as they can be while cups are given out -/
structure Vd (f : Int) (ln lo : Nat) (N : Nat → N2) (U : Nat → O3) (s : Nat → Int) : Prop where
  bd : ∀ i, i < lo → 0 ≤ s i ∧ s i ≤ (U i).c
  fit : FitP f ln lo N U s

theorem Vd.put {s : Nat → Int} {i : Nat} {c : Int} (h : Vd f ln lo N U s) (hi : i < lo) (hc : 0 ≤ c) (ho : OkP f lo N U s i c) : Vd f ln lo N U (put s i c) := by
  refine ⟨fun j hj => ?_, fun m hm => ?_⟩
  · have := h.bd j hj
    by_cases e : j = i
    · subst e; rw [put_same]; have := ho.1; omega
    · rw [put_other e]; exact this
  · rw [sumB_put]
    have h1 := h.fit m hm
    split
    · rename_i h2; exact ho.2 m h2.2
    · omega

theorem okP_iff {s : Nat → Int} {i : Nat} {c : Int} (HT : TreeP f ln lo N U) (h : Vd f ln lo N U s) (hi : i < lo) : OkP f lo N U s i c ↔ (s i + c ≤ (U i).c ∧ FitP f ln lo N U (put s i c)) := by
  constructor
  · intro ho
    refine ⟨ho.1, fun m hm => ?_⟩
    rw [sumB_put]
    have h1 := h.fit m hm
    split
    · rename_i h2; exact ho.2 m h2.2
    · omega
  · rintro ⟨h1, h2⟩
    refine ⟨h1, fun m hm => ?_⟩
    have := h2 m (Nat.le_trans (path_le HT _ (node_le HT hi) m hm) (node_le HT hi))
    rw [sumB_put, if_pos ⟨hi, hm⟩] at this
    exact this

/-- one after another gets a cup if it can: the shares then, and who got one -/
noncomputable def passS (f : Int) (lo : Nat) (N : Nat → N2) (U : Nat → O3) : (Nat → Int) → List Nat → (Nat → Int) × List Nat
  | s, [] => (s, [])
  | s, i :: l => if OkP f lo N U s i 1 then ((passS f lo N U (put s i 1) l).1, i :: (passS f lo N U (put s i 1) l).2) else passS f lo N U s l

theorem pass_yes {s : Nat → Int} {i : Nat} {l : List Nat} (h : OkP f lo N U s i 1) : passS f lo N U s (i :: l) = ((passS f lo N U (put s i 1) l).1, i :: (passS f lo N U (put s i 1) l).2) := by
  rw [passS, if_pos h]
theorem pass_no {s : Nat → Int} {i : Nat} {l : List Nat} (h : ¬ OkP f lo N U s i 1) : passS f lo N U s (i :: l) = passS f lo N U s l := by
  rw [passS, if_neg h]
theorem pass_snoc {i : Nat} : ∀ (l : List Nat) (s : Nat → Int), passS f lo N U s (l ++ [i]) =
    if OkP f lo N U (passS f lo N U s l).1 i 1 then (put (passS f lo N U s l).1 i 1, (passS f lo N U s l).2 ++ [i]) else passS f lo N U s l
  | [], s => by
    by_cases h : OkP f lo N U s i 1
    · rw [List.nil_append, pass_yes h]; simp [passS, h]
    · rw [List.nil_append, pass_no h]; simp [passS, h]
  | j :: l, s => by
    by_cases h : OkP f lo N U s j 1
    · rw [List.cons_append, pass_yes h, pass_yes h, pass_snoc l]
      simp only []
      split <;> simp
    · rw [List.cons_append, pass_no h, pass_no h, pass_snoc l]
theorem pass_sub : ∀ (l : List Nat) (s : Nat → Int), (passS f lo N U s l).2.Sublist l
  | [], s => by simp [passS]
  | i :: l, s => by
    by_cases h : OkP f lo N U s i 1
    · rw [pass_yes h]; exact (pass_sub l _).cons_cons i
    · rw [pass_no h]; exact (pass_sub l _).cons i
theorem pass_inv (Pr : (Nat → Int) → Prop) (L : List Nat) (hp : ∀ s i, i ∈ L → Pr s → OkP f lo N U s i 1 → Pr (put s i 1)) : ∀ (l : List Nat) (s : Nat → Int), (∀ i ∈ l, i ∈ L) → Pr s → Pr (passS f lo N U s l).1
  | [], s, _, h => h
  | i :: l, s, hl, h => by
    by_cases ho : OkP f lo N U s i 1
    · rw [pass_yes ho]; exact pass_inv Pr L hp l _ (fun j hj => hl j (List.mem_cons_of_mem _ hj)) (hp s i (hl i List.mem_cons_self) h ho)
    · rw [pass_no ho]; exact pass_inv Pr L hp l _ (fun j hj => hl j (List.mem_cons_of_mem _ hj)) h
theorem pass_ge (l : List Nat) (s : Nat → Int) (j : Nat) : s j ≤ (passS f lo N U s l).1 j :=
  pass_inv (fun t => s j ≤ t j) l (fun t i _ h _ => Int.le_trans h (put_ge t i j (by omega))) l s (fun _ h => h) (Int.le_refl _)
theorem pass_vd {l : List Nat} {s : Nat → Int} (hl : ∀ i ∈ l, i < lo) (h : Vd f ln lo N U s) : Vd f ln lo N U (passS f lo N U s l).1 :=
  pass_inv (fun t => Vd f ln lo N U t) l (fun t i hi ht ho => ht.put (hl i hi) (by omega) ho) l s (fun _ h => h) h
/-- who got none can't get one any more -/
theorem pass_blocked : ∀ (l : List Nat) (s : Nat → Int), (∀ i ∈ l, i < lo) → ∀ i ∈ l, i ∉ (passS f lo N U s l).2 → ¬ OkP f lo N U (passS f lo N U s l).1 i 1
  | [], s, _, i, hi, _ => by simp at hi
  | j :: l, s, hl, i, hi, hn => by
    by_cases h : OkP f lo N U s j 1
    · rw [pass_yes h] at hn ⊢
      simp only [List.mem_cons, not_or] at hn
      rcases List.mem_cons.1 hi with e | e
      · exact absurd e hn.1
      · exact pass_blocked l _ (fun k hk => hl k (List.mem_cons_of_mem _ hk)) i e hn.2
    · rw [pass_no h] at hn ⊢
      by_cases e : i ∈ l
      · exact pass_blocked l _ (fun k hk => hl k (List.mem_cons_of_mem _ hk)) i e hn
      · have e2 : i = j := by rcases List.mem_cons.1 hi with e2 | e2; exact e2; exact absurd e2 e
        subst e2
        exact fun ho => h (okP_mono (hl i hi) (fun k _ => pass_ge l s k) ho)
/-- those that can't get one can be passed over -/
theorem pass_skip (p : Nat → Bool) : ∀ (l : List Nat) (s : Nat → Int), (∀ i ∈ l, i < lo) → (∀ i ∈ l, p i = false → ¬ OkP f lo N U s i 1) → passS f lo N U s l = passS f lo N U s (l.filter p)
  | [], s, _, _ => rfl
  | i :: l, s, hl, hb => by
    have hl' : ∀ i ∈ l, i < lo := fun k hk => hl k (List.mem_cons_of_mem _ hk)
    cases hp : p i with
    | true =>
      rw [List.filter_cons_of_pos hp]
      by_cases h : OkP f lo N U s i 1
      · rw [pass_yes h, pass_yes h, pass_skip p l _ hl' (fun j hj hpj ho => hb j (List.mem_cons_of_mem _ hj) hpj (okP_mono (hl' j hj) (fun k _ => put_ge s i k (by omega)) ho))]
      · rw [pass_no h, pass_no h, pass_skip p l _ hl' (fun j hj hpj => hb j (List.mem_cons_of_mem _ hj) hpj)]
    | false =>
      rw [List.filter_cons_of_neg (by simp [hp]), pass_no (hb i List.mem_cons_self hp)]
      exact pass_skip p l _ hl' (fun j hj hpj => hb j (List.mem_cons_of_mem _ hj) hpj)
theorem sub_filter : ∀ {l g : List Nat}, g.Sublist l → l.Nodup → l.filter (fun i => decide (i ∈ g)) = g
  | [], g, h, _ => by simp at h; subst h; rfl
  | a :: l, g, h, hn => by
    obtain ⟨hn1, hn2⟩ := List.nodup_cons.1 hn
    cases h with
    | cons _ h =>
      have : a ∉ g := fun e => hn1 (h.subset e)
      rw [List.filter_cons_of_neg (by simp [this])]
      exact sub_filter h hn2
    | cons_cons _ h =>
      rename_i g
      rw [List.filter_cons_of_pos (by simp)]
      congr 1
      have := sub_filter h hn2
      rw [← this]
      apply List.filter_congr
      intro x hx
      have : x ≠ a := fun e => hn1 (e ▸ hx)
      simp [this, List.mem_filter, hx]

/-- a class is served: pass after pass, until nobody gets any more -/
inductive Served (f : Int) (lo : Nat) (N : Nat → N2) (U : Nat → O3) : (Nat → Int) → List Nat → (Nat → Int) → Prop
  | done (s : Nat → Int) : Served f lo N U s [] s
  | next (s : Nat → Int) (l : List Nat) (t : Nat → Int) : l ≠ [] → Served f lo N U (passS f lo N U s l).1 (passS f lo N U s l).2 t → Served f lo N U s l t
theorem Served.det {s : Nat → Int} {l : List Nat} {t u : Nat → Int} (h : Served f lo N U s l t) (k : Served f lo N U s l u) : t = u := by
  induction h with
  | done s => cases k with | done => rfl | next _ _ _ h => exact absurd rfl h
  | next s l t hl _ ih => cases k with | done => exact absurd rfl hl | next _ _ _ _ k => exact ih k
theorem Served.inv (Pr : (Nat → Int) → Prop) (L : List Nat) (hp : ∀ s i, i ∈ L → Pr s → OkP f lo N U s i 1 → Pr (put s i 1)) {s : Nat → Int} {l : List Nat} {t : Nat → Int} (h : Served f lo N U s l t) (hl : ∀ i ∈ l, i ∈ L) (h0 : Pr s) : Pr t := by
  induction h with
  | done s => exact h0
  | next s l t _ _ ih => exact ih (fun i hi => hl i ((pass_sub l s).subset hi)) (pass_inv Pr L hp l s hl h0)

/-- the outlets of a class -/
def classL (lo : Nat) (U : Nat → O3) (c : Int) : List Nat := (List.range lo).filter (fun i => decide ((U i).k = c))
theorem classL_mem {c : Int} {i : Nat} : i ∈ classL lo U c ↔ i < lo ∧ (U i).k = c := by simp [classL]
theorem classL_nodup (c : Int) : (classL lo U c).Nodup := List.Nodup.sublist (List.filter_sublist ..) List.nodup_range

/-- classes are served one after another -/
inductive Ord (f : Int) (lo : Nat) (N : Nat → N2) (U : Nat → O3) : (Nat → Int) → List Int → (Nat → Int) → Prop
  | nil (s : Nat → Int) : Ord f lo N U s [] s
  | cons (s : Nat → Int) (c : Int) (cs : List Int) (t r : Nat → Int) : Served f lo N U s (classL lo U c) t → Ord f lo N U t cs r → Ord f lo N U s (c :: cs) r
theorem Ord.det {s : Nat → Int} {cs : List Int} {t u : Nat → Int} (h : Ord f lo N U s cs t) (k : Ord f lo N U s cs u) : t = u := by
  induction h with
  | nil s => cases k; rfl
  | cons s c cs t r h1 _ ih =>
    cases k with
    | cons _ _ _ t' _ k1 k2 => rw [h1.det k1] at ih; exact ih k2
theorem Ord.snoc {s : Nat → Int} {cs : List Int} {t r : Nat → Int} {c : Int} (h : Ord f lo N U s cs t) (k : Served f lo N U t (classL lo U c) r) : Ord f lo N U s (cs ++ [c]) r := by
  induction h with
  | nil s => exact .cons _ _ _ _ _ k (.nil _)
  | cons s d cs t r' h1 _ ih => exact .cons _ _ _ _ _ h1 (ih k)
theorem Ord.inv (Pr : (Nat → Int) → Prop) (hp : ∀ s i, i < lo → Pr s → OkP f lo N U s i 1 → Pr (put s i 1)) {s : Nat → Int} {cs : List Int} {t : Nat → Int} (h : Ord f lo N U s cs t) (h0 : Pr s) : Pr t := by
  induction h with
  | nil s => exact h0
  | cons s c cs t r h1 _ ih => exact ih (h1.inv Pr (classL lo U c) (fun s i hi h ho => hp s i (classL_mem.1 hi).1 h ho) (fun _ h => h) h0)
theorem Ord.vd {s : Nat → Int} {cs : List Int} {t : Nat → Int} (h : Ord f lo N U s cs t) (h0 : Vd f ln lo N U s) : Vd f ln lo N U t :=
  h.inv (fun t => Vd f ln lo N U t) (fun _ _ hi ht ho => ht.put hi (by omega) ho) h0
theorem Ord.ge {s : Nat → Int} {cs : List Int} {t : Nat → Int} (h : Ord f lo N U s cs t) (j : Nat) : s j ≤ t j :=
  h.inv (fun t => s j ≤ t j) (fun t i _ h _ => Int.le_trans h (put_ge t i j (by omega))) (Int.le_refl _)
theorem vd_zero (HT : TreeP f ln lo N U) : Vd f ln lo N U (fun _ => 0) := by
  refine ⟨fun i hi => ⟨Int.le_refl _, by have := (tree_o HT hi).2.1; omega⟩, fun m hm => ?_⟩
  have e : ∀ k, sumB N U (fun _ => 0) m k = 0 := by
    intro k
    induction k with
    | zero => rfl
    | succ k ih => simp only [sumB, ih]; split <;> rfl
  rw [e]
  cases m with
  | zero => exact HT.ff.1
  | succ m => exact (tree_n HT (show m < ln by omega)).2.1
end
end Go.Kn

namespace Go.Kn
open Classical
section
variable {f : Int} {ln lo : Nat} {N : Nat → N2} {U : Nat → O3}

/-- a node binds an outlet of a class: all that it carries goes to those that may have it -/
def Bl (f : Int) (lo : Nat) (N : Nat → N2) (U : Nat → O3) (Z : Int → Prop) (s : Nat → Int) (i m : Nat) : Prop :=
  m ∈ path N (U i).n.toNat ∧ sumB N U s m lo = capN f N m ∧ ∀ k, k < lo → m ∈ path N (U k).n.toNat → (Z (U k).k → s k = 0) ∧ ((U k).k = (U i).k → s k ≤ s i + 1)
/-- an outlet has its claim, or is bound -/
def Dn (f : Int) (lo : Nat) (N : Nat → N2) (U : Nat → O3) (Z : Int → Prop) (s : Nat → Int) (i : Nat) : Prop := s i = (U i).c ∨ ∃ m, Bl f lo N U Z s i m

theorem not_below {s : Nat → Int} {j m : Nat} (ho : OkP f lo N U s j 1) (ht : sumB N U s m lo = capN f N m) : m ∉ path N (U j).n.toNat := fun h => by
  have := ho.2 m h; omega
theorem Bl.put {Z : Int → Prop} {s : Nat → Int} {i m j : Nat} (h : Bl f lo N U Z s i m) (ho : OkP f lo N U s j 1) : Bl f lo N U Z (put s j 1) i m := by
  obtain ⟨h1, h2, h3⟩ := h
  have hn := not_below ho h2
  refine ⟨h1, by rw [sumB_put, if_neg (fun e => hn e.2), h2, Int.add_zero], fun k hk hm => ?_⟩
  have e1 : k ≠ j := fun e => hn (e ▸ hm)
  have e2 : i ≠ j := fun e => hn (e ▸ h1)
  rw [put_other e1, put_other e2]
  exact h3 k hk hm
theorem Dn.put {Z : Int → Prop} {s : Nat → Int} {i j : Nat} (h : Dn f lo N U Z s i) (ho : OkP f lo N U s j 1) : Dn f lo N U Z (put s j 1) i := by
  rcases h with h | ⟨m, h⟩
  · by_cases e : i = j
    · subst e; have := ho.1; omega
    · exact .inl (by rw [put_other e]; exact h)
  · exact .inr ⟨m, h.put ho⟩

/-- what holds while a class is served -/
structure Sv (f : Int) (ln lo : Nat) (N : Nat → N2) (U : Nat → O3) (Z : Int → Prop) (c t : Int) (s : Nat → Int) (G R : List Nat) : Prop where
  vd : Vd f ln lo N U s
  g : ∀ i ∈ G, s i = t + 1
  r : ∀ i ∈ R, s i = t
  le : ∀ k, k < lo → (U k).k = c → s k ≤ t + 1
  z : ∀ k, k < lo → Z (U k).k → s k = 0
  dn : ∀ i, i < lo → (U i).k = c → i ∉ G → i ∉ R → Dn f lo N U Z s i

theorem pass_sv (HT : TreeP f ln lo N U) {Z : Int → Prop} {c t : Int} (hZ : ¬ Z c) : ∀ (R : List Nat) (s : Nat → Int) (G : List Nat), (∀ i ∈ R, i < lo ∧ (U i).k = c) → (G ++ R).Nodup → Sv f ln lo N U Z c t s G R →
    Sv f ln lo N U Z c t (passS f lo N U s R).1 (G ++ (passS f lo N U s R).2) []
  | [], s, G, _, _, h => by simpa [passS] using h
  | i :: R, s, G, hR, hn, h => by
    obtain ⟨hi, hc⟩ := hR i List.mem_cons_self
    have hiG : i ∉ G := fun e => (List.nodup_append.1 hn).2.2 i e i List.mem_cons_self rfl
    have hiR : i ∉ R := (List.nodup_cons.1 (List.nodup_append.1 hn).2.1).1
    have ht := h.r i List.mem_cons_self
    by_cases ho : OkP f lo N U s i 1
    · rw [pass_yes ho]
      have := pass_sv HT (t := t) hZ R (put s i 1) (G ++ [i]) (fun j hj => hR j (List.mem_cons_of_mem _ hj)) (by rw [List.append_assoc]; exact hn) (by
        refine ⟨h.vd.put hi (by omega) ho, fun j hj => ?_, fun j hj => ?_, fun k hk hkc => ?_, fun k hk hz => ?_, fun j hj hjc hjG hjR => ?_⟩
        · rcases List.mem_append.1 hj with e | e
          · rw [put_other (show j ≠ i from fun e2 => hiG (e2 ▸ e))]; exact h.g j e
          · simp at e; subst e; rw [put_same, ht]
        · rw [put_other (show j ≠ i from fun e2 => hiR (e2 ▸ hj))]; exact h.r j (List.mem_cons_of_mem _ hj)
        · by_cases e : k = i
          · subst e; rw [put_same, ht]; exact Int.le_refl _
          · rw [put_other e]; exact h.le k hk hkc
        · have e : k ≠ i := fun e => hZ (by rw [← hc, ← e]; exact hz)
          rw [put_other e]; exact h.z k hk hz
        · simp only [List.mem_append, List.mem_singleton, not_or] at hjG
          exact (h.dn j hj hjc hjG.1 (by simp [hjG.2, hjR])).put ho)
      simpa using this
    · rw [pass_no ho]
      refine pass_sv HT hZ R s G (fun j hj => hR j (List.mem_cons_of_mem _ hj)) (hn.sublist (List.Sublist.append (List.Sublist.refl _) (List.sublist_cons_self _ _))) ⟨h.vd, h.g, fun j hj => h.r j (List.mem_cons_of_mem _ hj), h.le, h.z, fun j hj hjc hjG hjR => ?_⟩
      by_cases e : j = i
      · subst e
        have hb := h.vd.bd j hj
        by_cases hcl : s j = (U j).c
        · exact .inl hcl
        · refine .inr ?_
          have : ¬ ∀ m ∈ path N (U j).n.toNat, sumB N U s m lo + 1 ≤ capN f N m := fun e => ho ⟨by omega, e⟩
          simp only [Classical.not_forall] at this
          obtain ⟨m, hm, hgt⟩ := this
          refine ⟨m, hm, ?_, fun k hk hkm => ⟨h.z k hk, fun hkc => by have := h.le k hk (by rw [hkc, hc]); omega⟩⟩
          have := h.vd.fit m (Nat.le_trans (path_le HT _ (node_le HT hj) m hm) (node_le HT hj))
          omega
      · exact h.dn j hj hjc hjG (by simp [e, hjR])

theorem served_sv (HT : TreeP f ln lo N U) {Z : Int → Prop} {c : Int} (hZ : ¬ Z c) {s r : Nat → Int} {L : List Nat} (h : Served f lo N U s L r) :
    ∀ t, (∀ i ∈ L, i < lo ∧ (U i).k = c) → L.Nodup → Sv f ln lo N U Z c t s [] L → Vd f ln lo N U r ∧ (∀ i, i < lo → (U i).k = c → Dn f lo N U Z r i) ∧ ∀ k, k < lo → Z (U k).k → r k = 0 := by
  induction h with
  | done s => exact fun t _ _ h => ⟨h.vd, fun i hi hc => h.dn i hi hc (by simp) (by simp), h.z⟩
  | next s l r _ _ ih =>
    intro t hl hn h
    have h1 := pass_sv HT hZ l s [] hl (by simpa using hn) h
    have hs := pass_sub (f := f) (lo := lo) (N := N) (U := U) l s
    rw [List.nil_append] at h1
    exact ih (t + 1) (fun i hi => hl i (hs.subset hi)) (hn.sublist hs) ⟨h1.vd, by simp, fun i hi => h1.g i hi, fun k hk hc => by have := h1.le k hk hc; omega, h1.z, fun i hi hc _ hg => h1.dn i hi hc hg (by simp)⟩

/-- one class stands behind another one in an order -/
def Aft (cs : List Int) (a b : Int) : Prop := ∃ l1 l2, cs = l1 ++ a :: l2 ∧ b ∈ l2

theorem Dn.inv {Z : Int → Prop} {s t : Nat → Int} {cs : List Int} {i : Nat} (h : Ord f lo N U s cs t) (h0 : Dn f lo N U Z s i) : Dn f lo N U Z t i :=
  h.inv (fun t => Dn f lo N U Z t i) (fun _ _ _ hd ho => hd.put ho) h0

theorem ord_dn (HT : TreeP f ln lo N U) {s t : Nat → Int} {cs : List Int} (h : Ord f lo N U s cs t) : cs.Nodup → Vd f ln lo N U s → (∀ k, k < lo → (U k).k ∈ cs → s k = 0) →
    ∀ i, i < lo → (U i).k ∈ cs → Dn f lo N U (fun b => Aft cs (U i).k b) t i := by
  induction h with
  | nil s => intro _ _ _ i _ hc; simp at hc
  | cons s c cs t r h1 h2 ih =>
    intro hn hv hz i hi hc
    obtain ⟨hn1, hn2⟩ := List.nodup_cons.1 hn
    have hsv := served_sv HT (Z := fun b => b ∈ cs) (c := c) hn1 h1 0 (fun i hi => classL_mem.1 hi) (classL_nodup c) ⟨hv, by simp, fun i hi => hz i (classL_mem.1 hi).1 (by rw [(classL_mem.1 hi).2]; simp), fun k hk hc => by rw [hz k hk (by rw [hc]; simp)]; omega, fun k hk hc => hz k hk (List.mem_cons_of_mem _ hc), fun i hi hc _ hn => absurd (classL_mem.2 ⟨hi, hc⟩) hn⟩
    by_cases he : (U i).k = c
    · have h3 := Dn.inv h2 (hsv.2.1 i hi he)
      rcases h3 with h3 | ⟨m, h4, h5, h6⟩
      · exact .inl h3
      · refine .inr ⟨m, h4, h5, fun k hk hm => ⟨fun ha => (h6 k hk hm).1 ?_, (h6 k hk hm).2⟩⟩
        obtain ⟨l1, l2, e, hb⟩ := ha
        cases l1 with
        | nil => simp at e; rw [e.2]; exact hb
        | cons x l1 => simp at e; rw [e.2]; simp [hb]
    · have hc2 : (U i).k ∈ cs := by rcases List.mem_cons.1 hc with e | e; exact absurd e he; exact e
      rcases ih hn2 hsv.1 hsv.2.2 i hi hc2 with h3 | ⟨m, h4, h5, h6⟩
      · exact .inl h3
      · refine .inr ⟨m, h4, h5, fun k hk hm => ⟨fun ha => (h6 k hk hm).1 ?_, (h6 k hk hm).2⟩⟩
        obtain ⟨l1, l2, e, hb⟩ := ha
        cases l1 with
        | nil => simp at e; exact absurd e.1.symm he
        | cons x l1 => simp at e; exact ⟨l1, l2, e.2, hb⟩

/-- the shares of the law's order -/
theorem law_dn (HT : TreeP f ln lo N U) {t : Nat → Int} (h : Ord f lo N U (fun _ => 0) [0, 1, 2, 3] t) : Vd f ln lo N U t ∧ ∀ i, i < lo → Dn f lo N U (fun b => (U i).k < b ∧ b ≤ 3) t i := by
  refine ⟨h.vd (vd_zero HT), fun i hi => ?_⟩
  have hk := (tree_o HT hi).2.2
  have hm : (U i).k ∈ ([0, 1, 2, 3] : List Int) := by simp; omega
  rcases ord_dn HT h (by decide) (vd_zero HT) (fun _ _ _ => rfl) i hi hm with h3 | ⟨m, h4, h5, h6⟩
  · exact .inl h3
  · refine .inr ⟨m, h4, h5, fun k hk2 hm2 => ⟨fun ha => (h6 k hk2 hm2).1 ?_, (h6 k hk2 hm2).2⟩⟩
    have e : (U i).k = 0 ∨ (U i).k = 1 ∨ (U i).k = 2 ∨ (U i).k = 3 := by omega
    have e2 : (U k).k = 1 ∨ (U k).k = 2 ∨ (U k).k = 3 := by omega
    rcases e with e | e | e | e
    · exact ⟨[], [1, 2, 3], by rw [e]; rfl, by simp; omega⟩
    · exact ⟨[0], [2, 3], by rw [e]; rfl, by simp; omega⟩
    · exact ⟨[0, 1], [3], by rw [e]; rfl, by simp; omega⟩
    · omega
end
end Go.Kn

namespace Go.Kn
open Classical

/-- the sum of the first k numbers -/
def sm (g : Nat → Int) : Nat → Int
  | 0 => 0
  | k + 1 => sm g k + g k
theorem sm_congr {g h : Nat → Int} : ∀ k, (∀ i, i < k → g i = h i) → sm g k = sm h k
  | 0, _ => rfl
  | k + 1, e => by simp only [sm]; rw [sm_congr k (fun i hi => e i (by omega)), e k (by omega)]
theorem sm_le {g h : Nat → Int} : ∀ k, (∀ i, i < k → g i ≤ h i) → sm g k ≤ sm h k
  | 0, _ => Int.le_refl _
  | k + 1, e => by simp only [sm]; have := sm_le k (fun i hi => e i (by omega)); have := e k (by omega); omega
theorem sm_zero {g : Nat → Int} : ∀ k, (∀ i, i < k → g i = 0) → sm g k = 0
  | 0, _ => rfl
  | k + 1, e => by simp only [sm]; rw [sm_zero k (fun i hi => e i (by omega)), e k (by omega)]; rfl
theorem sm_add {g h : Nat → Int} : ∀ k, sm (fun i => g i + h i) k = sm g k + sm h k
  | 0 => rfl
  | k + 1 => by simp only [sm]; rw [sm_add k]; omega
theorem sm_point {a : Nat} {x : Int} : ∀ n, sm (fun m => if a = m then x else 0) n = if a < n then x else 0
  | 0 => by simp [sm]
  | n + 1 => by
    simp only [sm]; rw [sm_point n]
    by_cases h : a = n
    · subst h; simp
    · by_cases h2 : a < n
      · simp [h, h2]; omega
      · have h3 : ¬ a < n + 1 := by omega
        simp [h, h2, h3]
/-- a sum, parted by a mark that each number has -/
theorem sm_part (top : Nat → Nat) (g : Nat → Int) (n : Nat) : ∀ k, (∀ i, i < k → top i < n) → sm g k = sm (fun m => sm (fun i => if top i = m then g i else 0) k) n
  | 0, _ => by simp only [sm]; exact (sm_zero n (fun _ _ => rfl)).symm
  | k + 1, h => by
    simp only [sm]
    rw [sm_add, ← sm_part top g n k (fun i hi => h i (by omega)), sm_point, if_pos (h k (by omega))]

section
variable {f : Int} {ln lo : Nat} {N : Nat → N2} {U : Nat → O3}

theorem sumB_sm {s : Nat → Int} {m : Nat} : ∀ k, sumB N U s m k = sm (fun i => if m ∈ path N (U i).n.toNat then s i else 0) k
  | 0 => rfl
  | k + 1 => by simp only [sumB, sm]; rw [sumB_sm k]

/-- nobody who gets more has taken it but from earlier classes, or from one that has no less -/
theorem just_p (HT : TreeP f ln lo N U) {t o : Nat → Int} (h : Ord f lo N U (fun _ => 0) [0, 1, 2, 3] t) (hb : ∀ i, i < lo → 0 ≤ o i ∧ o i ≤ (U i).c) (ho : FitP f ln lo N U o) {i : Nat} (hi : i < lo) (hgt : t i < o i) :
    ∃ k, k < lo ∧ o k < t k ∧ ((U k).k < (U i).k ∨ ((U k).k = (U i).k ∧ o k ≤ t i)) := by
  obtain ⟨hv, hd⟩ := law_dn HT h
  rcases hd i hi with h1 | ⟨m, h1, h2, h3⟩
  · have := hb i hi; omega
  · have hm : m ≤ ln := Nat.le_trans (path_le HT _ (node_le HT hi) m h1) (node_le HT hi)
    have hex : ∃ k, k < lo ∧ m ∈ path N (U k).n.toNat ∧ o k < t k := by
      refine Classical.byContradiction fun hno => ?_
      have hall : ∀ k, k < lo → m ∈ path N (U k).n.toNat → t k ≤ o k := fun k hk hkm => Classical.byContradiction fun hlt => hno ⟨k, hk, hkm, by omega⟩
      have hst : sumB N U t m lo + 1 ≤ sumB N U o m lo := by
        have e := sumB_put (N := N) (U := U) (s := t) (m := m) (i := i) (c := 1) lo
        rw [if_pos ⟨hi, h1⟩] at e
        rw [← e]
        refine sumB_mono lo fun k hk hkm => ?_
        by_cases e : k = i
        · subst e; rw [put_same]; omega
        · rw [put_other e]; exact hall k hk hkm
      have := ho m hm
      omega
    obtain ⟨k, hk, hkm, hlt⟩ := hex
    refine ⟨k, hk, hlt, ?_⟩
    have h4 := h3 k hk hkm
    have hbk := hb k hk
    have hck := (tree_o HT hk).2.2
    by_cases e1 : (U i).k < (U k).k
    · have := h4.1 ⟨e1, hck.2⟩; omega
    · by_cases e2 : (U k).k = (U i).k
      · have := h4.2 e2; exact .inr ⟨e2, by omega⟩
      · exact .inl (by omega)

/-- the node nearest the source with a property, for each outlet; ln + 1 where there is none -/
theorem top_ex (HT : TreeP f ln lo N U) (M : Nat → Prop) : ∃ top : Nat → Nat, ∀ i, i < lo → (top i = ln + 1 ∧ ∀ m ∈ path N (U i).n.toNat, ¬ M m) ∨ (top i ≤ ln ∧ top i ∈ path N (U i).n.toNat ∧ M (top i) ∧ ∀ m ∈ path N (U i).n.toNat, M m → top i ≤ m) := by
  have one : ∀ i, ∃ x, i < lo → (x = ln + 1 ∧ ∀ m ∈ path N (U i).n.toNat, ¬ M m) ∨ (x ≤ ln ∧ x ∈ path N (U i).n.toNat ∧ M x ∧ ∀ m ∈ path N (U i).n.toNat, M m → x ≤ m) := by
    intro i
    by_cases hi : i < lo
    · by_cases he : ∃ m, m ∈ path N (U i).n.toNat ∧ M m
      · have least : ∀ n, (∃ m, m ≤ n ∧ m ∈ path N (U i).n.toNat ∧ M m) → ∃ x, x ∈ path N (U i).n.toNat ∧ M x ∧ ∀ m ∈ path N (U i).n.toNat, M m → x ≤ m := by
          intro n
          induction n with
          | zero => rintro ⟨m, h1, h2, h3⟩; exact ⟨m, h2, h3, fun k _ _ => by omega⟩
          | succ n ih =>
            rintro ⟨m, h1, h2, h3⟩
            by_cases hl : ∃ m, m ≤ n ∧ m ∈ path N (U i).n.toNat ∧ M m
            · exact ih hl
            · exact ⟨m, h2, h3, fun k hk hM => Classical.byContradiction fun hlt => hl ⟨k, by omega, hk, hM⟩⟩
        obtain ⟨m, hm1, hm2⟩ := he
        obtain ⟨x, h1, h2, h3⟩ := least m ⟨m, Nat.le_refl _, hm1, hm2⟩
        exact ⟨x, fun _ => .inr ⟨Nat.le_trans (path_le HT _ (node_le HT hi) x h1) (node_le HT hi), h1, h2, h3⟩⟩
      · exact ⟨ln + 1, fun _ => .inl ⟨rfl, fun m hm hM => he ⟨m, hm, hM⟩⟩⟩
    · exact ⟨0, fun h => absurd h hi⟩
  exact Classical.skolem.1 one

/-- who is below such a node has it for their own -/
theorem top_all (HT : TreeP f ln lo N U) {M : Nat → Prop} {top : Nat → Nat} (ht : ∀ i, i < lo → (top i = ln + 1 ∧ ∀ m ∈ path N (U i).n.toNat, ¬ M m) ∨ (top i ≤ ln ∧ top i ∈ path N (U i).n.toNat ∧ M (top i) ∧ ∀ m ∈ path N (U i).n.toNat, M m → top i ≤ m)) {m : Nat} (hml : m ≤ ln) (hM : M m) (hno : ∀ x ∈ path N m, M x → m ≤ x) {i : Nat} (hi : i < lo) : top i = m ↔ m ∈ path N (U i).n.toNat := by
  constructor
  · intro e
    rcases ht i hi with h | h
    · omega
    · rw [← e]; exact h.2.1
  · intro hm
    rcases ht i hi with h | ⟨h1, h2, h3, h4⟩
    · exact absurd hM (h.2 m hm)
    · have hle := h4 m hm hM
      obtain ⟨l, e1, e2⟩ := path_tail HT _ (node_le HT hi) m hm
      rw [e1] at h2
      rcases List.mem_append.1 h2 with h5 | h5
      · have := e2 _ h5; omega
      · have := hno _ h5 h3; omega

/-- where each that counts has its claim, or is below a full node that carries only for those that count: nobody gives them more together -/
theorem max_p (HT : TreeP f ln lo N U) (P : Nat → Prop) [DecidablePred P] {t o : Nat → Int}
    (hd : ∀ i, i < lo → P i → t i = (U i).c ∨ ∃ m ∈ path N (U i).n.toNat, sumB N U t m lo = capN f N m ∧ ∀ k, k < lo → m ∈ path N (U k).n.toNat → ¬ P k → t k = 0)
    (hb : ∀ i, i < lo → 0 ≤ o i ∧ o i ≤ (U i).c) (ho : FitP f ln lo N U o) : sm (fun i => if P i then o i else 0) lo ≤ sm (fun i => if P i then t i else 0) lo := by
  obtain ⟨top, ht⟩ := top_ex HT (U := U) (fun m => sumB N U t m lo = capN f N m ∧ ∀ k, k < lo → m ∈ path N (U k).n.toNat → ¬ P k → t k = 0)
  have hlt : ∀ i, i < lo → top i < ln + 2 := fun i hi => by rcases ht i hi with h | h <;> omega
  rw [sm_part top _ (ln + 2) lo hlt, sm_part top (fun i => if P i then t i else 0) (ln + 2) lo hlt]
  refine sm_le _ fun m hm => ?_
  by_cases hex : ∃ i, i < lo ∧ top i = m
  · obtain ⟨i, hi, him⟩ := hex
    rcases ht i hi with h | ⟨h1, h2, h3, h4⟩
    · -- none above: they have their claims
      refine sm_le _ fun k hk => ?_
      by_cases hk2 : top k = m
      · simp only [hk2, if_true]
        by_cases hP : P k
        · simp only [hP, if_true]
          rcases ht k hk with h5 | h5
          · rcases hd k hk hP with h6 | ⟨x, hx, h6⟩
            · rw [h6]; exact (hb k hk).2
            · exact absurd h6 (h5.2 x hx)
          · omega
        · simp [hP]
      · simp [hk2]
    · rw [him] at h1 h2 h3 h4
      have hno : ∀ x ∈ path N m, (sumB N U t x lo = capN f N x ∧ ∀ k, k < lo → x ∈ path N (U k).n.toNat → ¬ P k → t k = 0) → m ≤ x := fun x hx hM => by
        obtain ⟨l, e1, _⟩ := path_tail HT _ (node_le HT hi) m h2
        exact h4 x (by rw [e1]; exact List.mem_append_right _ hx) hM
      have hall := fun k hk => top_all HT ht h1 h3 hno (i := k) hk
      have e1 : sm (fun k => if top k = m then (if P k then t k else 0) else 0) lo = sumB N U t m lo := by
        rw [sumB_sm]
        refine sm_congr _ fun k hk => ?_
        by_cases hk2 : top k = m
        · rw [if_pos hk2, if_pos ((hall k hk).1 hk2)]
          by_cases hP : P k
          · rw [if_pos hP]
          · rw [if_neg hP, h3.2 k hk ((hall k hk).1 hk2) hP]
        · rw [if_neg hk2, if_neg (fun h => hk2 ((hall k hk).2 h))]
      have e2 : sm (fun k => if top k = m then (if P k then o k else 0) else 0) lo ≤ sumB N U o m lo := by
        rw [sumB_sm]
        refine sm_le _ fun k hk => ?_
        by_cases hk2 : top k = m
        · rw [if_pos hk2, if_pos ((hall k hk).1 hk2)]
          have := hb k hk
          split <;> omega
        · rw [if_neg hk2, if_neg (fun h => hk2 ((hall k hk).2 h))]; exact Int.le_refl _
      rw [e1, h3.1]
      exact Int.le_trans e2 (ho m h1)
  · have z : ∀ g : Nat → Int, sm (fun k => if top k = m then g k else 0) lo = 0 := fun g => sm_zero _ fun k hk => if_neg fun e => hex ⟨k, hk, e⟩
    rw [z, z]; exact Int.le_refl _

/-- a full node, with no full node above it -/
def CutN (f : Int) (lo : Nat) (N : Nat → N2) (U : Nat → O3) (t : Nat → Int) (m : Nat) : Prop := sumB N U t m lo = capN f N m ∧ ∀ x ∈ path N m, x ≠ m → sumB N U t x lo ≠ capN f N x

/-- all shares are the capacities of the cut, and the claims of those below none of it -/
theorem whole_p (HT : TreeP f ln lo N U) {t : Nat → Int} (h : Ord f lo N U (fun _ => 0) [0, 1, 2, 3] t) :
    sm t lo = sm (fun m => if CutN f lo N U t m then capN f N m else 0) (ln + 1) + sm (fun i => if ∃ m, m ≤ ln ∧ CutN f lo N U t m ∧ m ∈ path N (U i).n.toNat then 0 else (U i).c) lo ∧
    ∀ i, i < lo → ∀ m x, CutN f lo N U t m → CutN f lo N U t x → m ∈ path N (U i).n.toNat → x ∈ path N (U i).n.toNat → m = x := by
  obtain ⟨hv, hd⟩ := law_dn HT h
  obtain ⟨top, ht⟩ := top_ex HT (U := U) (fun m => sumB N U t m lo = capN f N m)
  have hlt : ∀ i, i < lo → top i < ln + 2 := fun i hi => by rcases ht i hi with h | h <;> omega
  have hcut : ∀ m, CutN f lo N U t m → m ≤ ln → ∀ x ∈ path N m, sumB N U t x lo = capN f N x → m ≤ x := fun m hm hml x hx hM => by
    by_cases e : x = m
    · omega
    · exact absurd hM (hm.2 x hx e)
  have hown : ∀ m, m ≤ ln → CutN f lo N U t m → ∀ k, k < lo → (top k = m ↔ m ∈ path N (U k).n.toNat) := fun m hml hm k hk => top_all HT ht hml hm.1 (hcut m hm hml) hk
  have hle : ∀ i, i < lo → ∀ m ∈ path N (U i).n.toNat, m ≤ ln := fun i hi m hm => Nat.le_trans (path_le HT _ (node_le HT hi) m hm) (node_le HT hi)
  constructor
  · rw [sm_part top t (ln + 2) lo hlt]
    show sm _ (ln + 1) + _ = _
    congr 1
    · refine sm_congr _ fun m hm => ?_
      by_cases hc : CutN f lo N U t m
      · rw [if_pos hc, ← hc.1, sumB_sm]
        refine sm_congr _ fun k hk => ?_
        have := hown m (by omega) hc k hk
        by_cases e : top k = m
        · rw [if_pos e, if_pos (this.1 e)]
        · rw [if_neg e, if_neg (fun e2 => e (this.2 e2))]
      · rw [if_neg hc]
        refine sm_zero _ fun k hk => if_neg fun e => hc ?_
        rcases ht k hk with h5 | ⟨h1, h2, h3, h4⟩
        · omega
        · rw [e] at h1 h2 h3 h4
          refine ⟨h3, fun x hx hne hM => ?_⟩
          obtain ⟨l, e1, _⟩ := path_tail HT _ (node_le HT hk) m h2
          have h6 := h4 x (by rw [e1]; exact List.mem_append_right _ hx) hM
          have h7 := path_le HT m h1 x hx
          omega
    · refine sm_congr _ fun i hi => ?_
      rcases ht i hi with h5 | ⟨h1, h2, h3, h4⟩
      · rw [if_pos h5.1, if_neg (fun ⟨m, _, hm, hp⟩ => h5.2 m hp hm.1)]
        rcases hd i hi with h6 | ⟨m, h6, h7, _⟩
        · exact h6
        · exact absurd h7 (h5.2 m h6)
      · rw [if_neg (by omega), if_pos]
        refine ⟨top i, h1, ⟨h3, fun x hx hne hM => ?_⟩, h2⟩
        obtain ⟨l, e1, _⟩ := path_tail HT _ (node_le HT hi) _ h2
        have h6 := h4 x (by rw [e1]; exact List.mem_append_right _ hx) hM
        have h7 := path_le HT _ h1 x hx
        omega
  · intro i hi m x hm hx hpm hpx
    rw [← (hown m (hle i hi m hpm) hm i hi).2 hpm, ← (hown x (hle i hi x hpx) hx i hi).2 hpx]

/-- no shares that fit give all classes up to one more, together -/
theorem first_p (HT : TreeP f ln lo N U) {t o : Nat → Int} (h : Ord f lo N U (fun _ => 0) [0, 1, 2, 3] t) (hb : ∀ i, i < lo → 0 ≤ o i ∧ o i ≤ (U i).c) (ho : FitP f ln lo N U o) (c : Int) :
    sm (fun i => if (U i).k ≤ c then o i else 0) lo ≤ sm (fun i => if (U i).k ≤ c then t i else 0) lo := by
  obtain ⟨hv, hd⟩ := law_dn HT h
  refine max_p HT (fun i => (U i).k ≤ c) (fun i hi hc => ?_) hb ho
  rcases hd i hi with h1 | ⟨m, h1, h2, h3⟩
  · exact .inl h1
  · exact .inr ⟨m, h1, h2, fun k hk hm hn => (h3 k hk hm).1 ⟨by omega, (tree_o HT hk).2.2.2⟩⟩

/-- nobody gives the class that is first more -/
theorem head_p (HT : TreeP f ln lo N U) {t o : Nat → Int} {c : Int} {cs : List Int} (h : Ord f lo N U (fun _ => 0) (c :: cs) t) (hn : (c :: cs).Nodup) (hall : ∀ i, i < lo → (U i).k ∈ c :: cs) (hb : ∀ i, i < lo → 0 ≤ o i ∧ o i ≤ (U i).c) (ho : FitP f ln lo N U o) :
    sm (fun i => if (U i).k = c then o i else 0) lo ≤ sm (fun i => if (U i).k = c then t i else 0) lo := by
  refine max_p HT (fun i => (U i).k = c) (fun i hi hc => ?_) hb ho
  rcases ord_dn HT h hn (vd_zero HT) (fun _ _ _ => rfl) i hi (by rw [hc]; simp) with h1 | ⟨m, h1, h2, h3⟩
  · exact .inl h1
  · exact .inr ⟨m, h1, h2, fun k hk hm hne => (h3 k hk hm).1 ⟨[], cs, by rw [hc]; rfl, by
      rcases List.mem_cons.1 (hall k hk) with e | e
      · exact absurd e hne
      · exact e⟩⟩
end
end Go.Kn

namespace Go.Kn
open Classical
section
variable {f g : Int} {ln lo : Nat} {N : Nat → N2} {U : Nat → O3}

/-- the source gives all that it has -/
def Full0 (f : Int) (lo : Nat) (N : Nat → N2) (U : Nat → O3) (s : Nat → Int) : Prop := sumB N U s 0 lo = f

theorem full_no (HT : TreeP f ln lo N U) {s : Nat → Int} (h : Full0 f lo N U s) {i : Nat} (hi : i < lo) : ¬ OkP f lo N U s i 1 := fun ho => by
  have := ho.2 0 (path_src HT _ (node_le HT hi))
  unfold Full0 at h
  simp only [capN] at this
  omega
theorem full_pass (HT : TreeP f ln lo N U) {s : Nat → Int} (h : Full0 f lo N U s) : ∀ l : List Nat, (∀ i ∈ l, i < lo) → passS f lo N U s l = (s, [])
  | [], _ => rfl
  | i :: l, hl => by rw [pass_no (full_no HT h (hl i List.mem_cons_self))]; exact full_pass HT h l (fun j hj => hl j (List.mem_cons_of_mem _ hj))
theorem full_served (HT : TreeP f ln lo N U) {s t : Nat → Int} (h : Full0 f lo N U s) {l : List Nat} (hl : ∀ i ∈ l, i < lo) (k : Served f lo N U s l t) : t = s := by
  cases k with
  | done => rfl
  | next _ _ _ _ k => rw [full_pass HT h l hl] at k; cases k with | done => rfl | next _ _ _ h _ => exact absurd rfl h
theorem full_ord (HT : TreeP f ln lo N U) {s t : Nat → Int} {cs : List Int} (h : Full0 f lo N U s) (k : Ord f lo N U s cs t) : t = s := by
  induction k with
  | nil => rfl
  | cons s c cs t r k1 _ ih =>
    have e := full_served HT h (fun i hi => (classL_mem.1 hi).1) k1
    subst e
    exact ih h

theorem tree_with (HT : TreeP f ln lo N U) (h0 : 0 ≤ g) (h1 : g ≤ 201) : TreeP g ln lo N U := ⟨by omega, HT.l6, HT.lo1, HT.lo2, HT.nk, HT.ok⟩

theorem ok_more {s : Nat → Int} {i : Nat} (hfg : f ≤ g) (h : OkP f lo N U s i 1) : OkP g lo N U s i 1 := ⟨h.1, fun m hm => by
  have := h.2 m hm
  cases m with
  | zero => simp only [capN] at this ⊢; omega
  | succ m => exact this⟩
/-- who gets a cup with the greater inflow alone does so as the lesser one is used up -/
theorem ok_less {s : Nat → Int} {i : Nat} (h : OkP g lo N U s i 1) (hv : Vd f ln lo N U s) (hn : ¬ OkP f lo N U s i 1) : Full0 f lo N U s := by
  refine Classical.byContradiction fun hne => hn ⟨h.1, fun m hm => ?_⟩
  have := h.2 m hm
  cases m with
  | zero =>
    have h2 := hv.fit 0 (by omega)
    unfold Full0 at hne
    simp only [capN] at h2 ⊢
    omega
  | succ m => exact this

/-- both inflows go on alike, or the lesser one is used up and the other one has given more -/
def Two (f : Int) (lo : Nat) (N : Nat → N2) (U : Nat → O3) (s t : Nat → Int) : Prop := Full0 f lo N U s ∧ ∀ j, s j ≤ t j

theorem pass_two (HF : TreeP f ln lo N U) (hfg : f ≤ g) : ∀ (l : List Nat) (s : Nat → Int), (∀ i ∈ l, i < lo) → Vd f ln lo N U s → passS f lo N U s l = passS g lo N U s l ∨ Two f lo N U (passS f lo N U s l).1 (passS g lo N U s l).1
  | [], s, _, _ => .inl rfl
  | i :: l, s, hl, hv => by
    have hi := hl i List.mem_cons_self
    have hl' : ∀ i ∈ l, i < lo := fun j hj => hl j (List.mem_cons_of_mem _ hj)
    by_cases h1 : OkP f lo N U s i 1
    · have h2 := ok_more hfg h1
      rw [pass_yes h1, pass_yes h2]
      rcases pass_two HF hfg l (put s i 1) hl' (hv.put hi (by omega) h1) with h | h
      · exact .inl (by rw [h])
      · exact .inr h
    · by_cases h2 : OkP g lo N U s i 1
      · have hf := ok_less h2 hv h1
        rw [pass_no h1, full_pass HF hf l hl']
        refine .inr ⟨hf, fun j => ?_⟩
        exact pass_ge _ _ _
      · rw [pass_no h1, pass_no h2]
        exact pass_two HF hfg l s hl' hv
theorem served_two (HF : TreeP f ln lo N U) (hfg : f ≤ g) {s x y : Nat → Int} {l : List Nat} (hl : ∀ i ∈ l, i < lo) (hv : Vd f ln lo N U s) (h : Served f lo N U s l x) (k : Served g lo N U s l y) : x = y ∨ Two f lo N U x y := by
  induction h generalizing y with
  | done s => cases k with | done => exact .inl rfl | next _ _ _ h _ => exact absurd rfl h
  | next s l x hne h1 ih =>
    cases k with
    | done => exact absurd rfl hne
    | next _ _ _ _ k =>
      rcases pass_two (g := g) HF hfg l s hl hv with e | e
      · rw [← e] at k
        exact ih (fun i hi => hl i ((pass_sub l s).subset hi)) (pass_vd hl hv) k
      · have e2 := full_served HF e.1 (fun i hi => hl i ((pass_sub l s).subset hi)) h1
        rw [e2]
        refine .inr ⟨e.1, fun j => Int.le_trans (e.2 j) ?_⟩
        exact k.inv (fun t => (passS g lo N U s l).1 j ≤ t j) (passS g lo N U s l).2 (fun t i _ h _ => Int.le_trans h (put_ge t i j (by omega))) (fun _ h => h) (Int.le_refl _)
theorem ord_two (HF : TreeP f ln lo N U) (hfg : f ≤ g) {s x y : Nat → Int} {cs : List Int} (hv : Vd f ln lo N U s) (h : Ord f lo N U s cs x) (k : Ord g lo N U s cs y) : x = y ∨ Two f lo N U x y := by
  induction h generalizing y with
  | nil s => cases k; exact .inl rfl
  | cons s c cs t r h1 h2 ih =>
    cases k with
    | cons _ _ _ t' _ k1 k2 =>
      have hm : ∀ i ∈ classL lo U c, i < lo := fun i hi => (classL_mem.1 hi).1
      rcases served_two HF hfg hm hv h1 k1 with e | e
      · subst e
        exact ih (h1.inv (fun t => Vd f ln lo N U t) (classL lo U c) (fun _ _ hi ht ho => ht.put (hm _ hi) (by omega) ho) (fun _ h => h) hv) k2
      · have e2 := full_ord HF e.1 h2
        rw [e2]
        exact .inr ⟨e.1, fun j => Int.le_trans (e.2 j) (k2.ge j)⟩

/-- with a greater inflow nobody gets less -/
theorem mono_p (HF : TreeP f ln lo N U) (hfg : f ≤ g) {x y : Nat → Int} {cs : List Int} (h : Ord f lo N U (fun _ => 0) cs x) (k : Ord g lo N U (fun _ => 0) cs y) (j : Nat) : x j ≤ y j := by
  rcases ord_two HF hfg (vd_zero HF) h k with e | e
  · rw [e]; exact Int.le_refl _
  · exact e.2 j
end
end Go.Kn
