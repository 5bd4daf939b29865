/- Walks of functions of layer 2 (contracts that the laws of this seat use). Conditions: as each theorem states them. -/
import Derived.RangeFuncNested
import Derived.RangeFuncLeaves
import Derived.Test.YtfjfipijogjkbaaGreatDoorEN
import Derived.Test.YtfjfipijogjkbaaGreatDoorES
import Derived.Deep.AppendLies
set_option linter.unusedVariables false
set_option linter.unusedSimpArgs false
/- Pure: what sufficing yields, and which of it best keeps (layer 2, for Pipes). No seat. -/
namespace Go.Kn

/-- another number for class j -/
def updU (U : Nat → Int) (j : Nat) (x : Int) : Nat → Int := fun i => if i = j then x else U i

/-- all choices that go on from cs, with r segments left, in lexicographic order, with their prices -/
def ext (kk : Nat) (burst : Nat → Nat → Bool) (len stock pr : Nat → Int) : Nat → List Nat → (Nat → Int) → Int → List (List Nat × Int)
  | 0, cs, _, p => [(cs, p)]
  | r + 1, cs, U, p => (List.range kk).flatMap fun j =>
      if burst j cs.length || decide (stock j < U j + len cs.length) then []
      else ext kk burst len stock pr r (cs ++ [j]) (updU U j (U j + len cs.length)) (p + len cs.length * pr j)

/-- the same, by the first m classes alone: what a loop has yielded after m rounds -/
def extTo (kk : Nat) (burst : Nat → Nat → Bool) (len stock pr : Nat → Int) (r : Nat) (cs : List Nat) (U : Nat → Int) (p : Int) (m : Nat) : List (List Nat × Int) :=
  (List.range m).flatMap fun j =>
      if burst j cs.length || decide (stock j < U j + len cs.length) then []
      else ext kk burst len stock pr r (cs ++ [j]) (updU U j (U j + len cs.length)) (p + len cs.length * pr j)

theorem ext_succ (kk : Nat) (burst : Nat → Nat → Bool) (len stock pr : Nat → Int) (r : Nat) (cs : List Nat) (U : Nat → Int) (p : Int) :
    ext kk burst len stock pr (r + 1) cs U p = extTo kk burst len stock pr r cs U p kk := rfl

theorem extTo_zero (kk : Nat) (burst : Nat → Nat → Bool) (len stock pr : Nat → Int) (r : Nat) (cs : List Nat) (U : Nat → Int) (p : Int) : extTo kk burst len stock pr r cs U p 0 = [] := rfl

theorem extTo_skip {kk : Nat} {burst : Nat → Nat → Bool} {len stock pr : Nat → Int} {r : Nat} {cs : List Nat} {U : Nat → Int} {p : Int} {m : Nat}
    (h : (burst m cs.length || decide (stock m < U m + len cs.length)) = true) : extTo kk burst len stock pr r cs U p (m + 1) = extTo kk burst len stock pr r cs U p m := by
  unfold extTo
  rw [List.range_succ, List.flatMap_append, List.flatMap_singleton, if_pos h, List.append_nil]

theorem extTo_go {kk : Nat} {burst : Nat → Nat → Bool} {len stock pr : Nat → Int} {r : Nat} {cs : List Nat} {U : Nat → Int} {p : Int} {m : Nat}
    (h : (burst m cs.length || decide (stock m < U m + len cs.length)) = false) :
    extTo kk burst len stock pr r cs U p (m + 1) = extTo kk burst len stock pr r cs U p m ++ ext kk burst len stock pr r (cs ++ [m]) (updU U m (U m + len cs.length)) (p + len cs.length * pr m) := by
  unfold extTo
  rw [List.range_succ, List.flatMap_append, List.flatMap_singleton, if_neg (by rw [h]; decide)]

/-- each choice has a class for each segment, and none of them bursts -/
theorem ext_ok (kk : Nat) (burst : Nat → Nat → Bool) (len stock pr : Nat → Int) : ∀ (r : Nat) (cs : List Nat) (U : Nat → Int) (p : Int) (c : List Nat) (q : Int), (c, q) ∈ ext kk burst len stock pr r cs U p →
    c.length = cs.length + r ∧ (∀ i, i < cs.length → c[i]? = cs[i]?) ∧ ∀ i j, cs.length ≤ i → c[i]? = some j → j < kk ∧ burst j i = false := by
  intro r
  induction r with
  | zero =>
    intro cs U p c q h
    simp only [ext, List.mem_singleton, Prod.mk.injEq] at h
    obtain ⟨rfl, rfl⟩ := h
    refine ⟨by omega, fun i _ => rfl, fun i j hi hc => ?_⟩
    rw [List.getElem?_eq_none hi] at hc
    cases hc
  | succ r ih =>
    intro cs U p c q h
    simp only [ext, List.mem_flatMap, List.mem_range] at h
    obtain ⟨j, hj, h⟩ := h
    split at h
    · cases h
    · rename_i hb
      simp only [Bool.or_eq_true, decide_eq_true_eq, not_or, Bool.not_eq_true] at hb
      obtain ⟨h1, h2, h3⟩ := ih _ _ _ _ _ h
      simp only [List.length_append, List.length_singleton] at h1 h2 h3
      have hj0 : c[cs.length]? = some j := by rw [h2 cs.length (by omega)]; simp
      refine ⟨by omega, fun i hi => ?_, fun i j' hi hc => ?_⟩
      · rw [h2 i (by omega), List.getElem?_append_left hi]
      · by_cases e : i = cs.length
        · subst e
          rw [hj0] at hc
          cases hc
          exact ⟨hj, hb.1⟩
        · exact h3 i j' (by omega) hc

/-- the first of the cheapest -/
def cheap : List (List Nat × Int) → Option (List Nat × Int)
  | l => l.foldl (fun a x => match a with | none => some x | some y => if x.2 < y.2 then some x else some y) none

theorem cheap_snoc_none {l : List (List Nat × Int)} (x : List Nat × Int) (h : cheap l = none) : cheap (l ++ [x]) = some x := by
  unfold cheap at *
  rw [List.foldl_append, h]; rfl

theorem cheap_snoc_some {l : List (List Nat × Int)} {y : List Nat × Int} (x : List Nat × Int) (h : cheap l = some y) : cheap (l ++ [x]) = if x.2 < y.2 then some x else some y := by
  unfold cheap at *
  rw [List.foldl_append, h]; rfl

theorem cheap_nil {l : List (List Nat × Int)} : cheap l = none ↔ l = [] := by
  constructor
  · intro h
    rcases List.eq_nil_or_concat l with e | ⟨l', x, e⟩
    · exact e
    · rw [List.concat_eq_append] at e
      subst e
      cases hc : cheap l' with
      | none => rw [cheap_snoc_none x hc] at h; cases h
      | some y => rw [cheap_snoc_some x hc] at h; split at h <;> cases h
  · intro h; subst h; rfl

theorem cheap_mem : ∀ {n : Nat} {l : List (List Nat × Int)} {y : List Nat × Int}, l.length = n → cheap l = some y → y ∈ l ∧ ∀ x ∈ l, y.2 ≤ x.2 := by
  intro n
  induction n with
  | zero =>
    intro l y hn h
    have : l = [] := List.length_eq_zero_iff.1 hn
    subst this
    cases h
  | succ n ih =>
    intro l y hn h
    rcases List.eq_nil_or_concat l with e | ⟨l', x, e⟩
    · subst e; simp at hn
    · rw [List.concat_eq_append] at e
      subst e
      simp at hn
      cases hc : cheap l' with
      | none =>
        rw [cheap_snoc_none x hc] at h
        cases h
        have : l' = [] := cheap_nil.1 hc
        subst this
        simp
      | some z =>
        obtain ⟨h1, h2⟩ := ih hn hc
        rw [cheap_snoc_some x hc] at h
        split at h
        · rename_i hlt
          cases h
          refine ⟨by simp, fun u hu => ?_⟩
          rcases List.mem_append.1 hu with h3 | h3
          · have := h2 u h3; omega
          · simp at h3; subst h3; exact Int.le_refl _
        · rename_i hlt
          cases h
          refine ⟨by simp [h1], fun u hu => ?_⟩
          rcases List.mem_append.1 hu with h3 | h3
          · exact h2 u h3
          · simp at h3; subst h3; omega
end Go.Kn

namespace Go.Kn

/-- all lists of r classes, in lexicographic order -/
def allC (kk : Nat) : Nat → List (List Nat)
  | 0 => [[]]
  | r + 1 => (List.range kk).flatMap fun j => (allC kk r).map (j :: ·)

theorem mem_allC {kk : Nat} : ∀ {r : Nat} {t : List Nat}, t ∈ allC kk r ↔ t.length = r ∧ ∀ j ∈ t, j < kk := by
  intro r
  induction r with
  | zero =>
    intro t
    simp only [allC, List.mem_singleton]
    constructor
    · rintro rfl; simp
    · intro h; exact List.length_eq_zero_iff.1 h.1
  | succ r ih =>
    intro t
    simp only [allC, List.mem_flatMap, List.mem_range, List.mem_map]
    constructor
    · rintro ⟨j, hj, t', ht', rfl⟩
      obtain ⟨h1, h2⟩ := ih.1 ht'
      refine ⟨by simp [h1], fun i hi => ?_⟩
      rcases List.mem_cons.1 hi with rfl | hi
      · exact hj
      · exact h2 i hi
    · rintro ⟨h1, h2⟩
      cases t with
      | nil => simp at h1
      | cons j t' =>
        refine ⟨j, h2 j (by simp), t', ih.2 ⟨by simpa using h1, fun i hi => h2 i (by simp [hi])⟩, rfl⟩

/-- whether a list of classes goes on well from segment a on, where U is used already: step by step -/
def okT (burst : Nat → Nat → Bool) (len stock : Nat → Int) : Nat → (Nat → Int) → List Nat → Bool
  | _, _, [] => true
  | a, U, j :: t => !(burst j a || decide (stock j < U j + len a)) && okT burst len stock (a + 1) (updU U j (U j + len a)) t
/-- what it costs -/
def priceT (len pr : Nat → Int) : Nat → List Nat → Int
  | _, [] => 0
  | a, j :: t => len a * pr j + priceT len pr (a + 1) t
/-- what it uses of class j -/
def useT (len : Nat → Int) (c : Nat) : Nat → List Nat → Int
  | _, [] => 0
  | a, j :: t => (if j = c then len a else 0) + useT len c (a + 1) t

theorem useT_nonneg {len : Nat → Int} (c : Nat) (hl : ∀ i, 0 ≤ len i) : ∀ (t : List Nat) (a : Nat), 0 ≤ useT len c a t := by
  intro t
  induction t with
  | nil => intro a; simp [useT]
  | cons j t ih => intro a; simp only [useT]; have := ih (a + 1); have := hl a; split <;> omega

theorem flatMap_congr' {α β : Type} {l : List α} {f g : α → List β} (h : ∀ x ∈ l, f x = g x) : l.flatMap f = l.flatMap g := by
  induction l with
  | nil => rfl
  | cons a l ih => rw [List.flatMap_cons, List.flatMap_cons, h a (by simp), ih fun x hx => h x (by simp [hx])]

/-- what sufficing yields is the choices that go well, in their order -/
theorem ext_eq (kk : Nat) (burst : Nat → Nat → Bool) (len stock pr : Nat → Int) : ∀ (r : Nat) (cs : List Nat) (U : Nat → Int) (p : Int),
    ext kk burst len stock pr r cs U p = ((allC kk r).filter (okT burst len stock cs.length U)).map fun t => (cs ++ t, p + priceT len pr cs.length t) := by
  intro r
  induction r with
  | zero => intro cs U p; simp [ext, allC, List.filter_cons, okT, priceT]
  | succ r ih =>
    intro cs U p
    simp only [ext, allC, List.filter_flatMap, List.map_flatMap, List.filter_map, List.map_map]
    refine flatMap_congr' fun j hj => ?_
    split
    · rename_i h
      rw [List.filter_eq_nil_iff.2 (by intro t _; simp [okT, h]), List.map_nil]
    · rename_i h
      simp only [Bool.not_eq_true] at h
      rw [ih]
      have e : (fun t => okT burst len stock cs.length U (j :: t)) = okT burst len stock (cs ++ [j]).length (updU U j (U j + len cs.length)) := by
        funext t; simp only [okT, h, Bool.not_false, Bool.true_and, List.length_append, List.length_singleton]
      show _ = List.map _ (List.filter ((okT burst len stock cs.length U) ∘ fun x => j :: x) _)
      rw [show ((okT burst len stock cs.length U) ∘ fun x => j :: x) = okT burst len stock (cs ++ [j]).length (updU U j (U j + len cs.length)) from e]
      refine List.map_congr_left fun t _ => ?_
      simp only [Function.comp, List.append_assoc, List.singleton_append, priceT, List.length_append, List.length_singleton, Prod.mk.injEq, true_and]
      omega

theorem updU_self {U : Nat → Int} {j : Nat} {x : Int} : updU U j x j = x := by simp [updU]
theorem updU_other {U : Nat → Int} {j i : Nat} {x : Int} (h : i ≠ j) : updU U j x i = U i := by simp [updU, h]

/-- step by step is the same as by the sums -/
theorem okT_iff {kk : Nat} {burst : Nat → Nat → Bool} {len stock : Nat → Int} (hl : ∀ i, 0 ≤ len i) : ∀ (t : List Nat) (a : Nat) (U : Nat → Int), (∀ j ∈ t, j < kk) → (∀ j, j < kk → U j ≤ stock j) →
    (okT burst len stock a U t = true ↔ (∀ i j, t[i]? = some j → burst j (a + i) = false) ∧ ∀ j, j < kk → U j + useT len j a t ≤ stock j) := by
  intro t
  induction t with
  | nil =>
    intro a U _ hU
    simp only [okT, useT, List.getElem?_nil, true_iff]
    exact ⟨fun i j h => (by cases h), fun j hj => by have := hU j hj; omega⟩
  | cons j t ih =>
    intro a U ht hU
    have hj := ht j (by simp)
    simp only [okT, Bool.and_eq_true, Bool.not_eq_true', Bool.or_eq_false_iff, decide_eq_false_iff_not, Int.not_lt]
    constructor
    · rintro ⟨⟨h1, h2⟩, h3⟩
      obtain ⟨h4, h5⟩ := (ih (a + 1) _ (fun i hi => ht i (by simp [hi])) (fun i hi => by
        by_cases e : i = j
        · subst e; rw [updU_self]; exact h2
        · rw [updU_other e]; exact hU i hi)).1 h3
      refine ⟨fun i k hk => ?_, fun i hi => ?_⟩
      · cases i with
        | zero => simp at hk; subst hk; exact h1
        | succ i => simp at hk; have := h4 i k hk; rwa [Nat.add_assoc, Nat.add_comm 1 i] at this
      · have h6 := h5 i hi
        simp only [useT]
        by_cases e : i = j
        · subst e; rw [updU_self] at h6; rw [if_pos rfl]; omega
        · rw [updU_other e] at h6; rw [if_neg (fun h => e h.symm)]; omega
    · rintro ⟨h1, h2⟩
      have hs := h2 j hj
      have hu := useT_nonneg j hl t (a + 1)
      simp only [useT, if_pos] at hs
      have h3 : U j + len a ≤ stock j := by omega
      refine ⟨⟨h1 0 j (by simp), h3⟩, (ih (a + 1) _ (fun i hi => ht i (by simp [hi])) (fun i hi => by
        by_cases e : i = j
        · subst e; rw [updU_self]; exact h3
        · rw [updU_other e]; exact hU i hi)).2 ⟨fun i k hk => ?_, fun i hi => ?_⟩⟩
      · have := h1 (i + 1) k (by simpa using hk); rwa [Nat.add_assoc, Nat.add_comm 1 i]
      · have h6 := h2 i hi
        simp only [useT] at h6
        by_cases e : i = j
        · subst e; rw [updU_self]; rw [if_pos rfl] at h6; omega
        · rw [updU_other e]; rw [if_neg (fun h => e h.symm)] at h6; omega

/-- what comes before what -/
def lexB : List Nat → List Nat → Bool
  | [], [] => false
  | [], _ :: _ => true
  | _ :: _, [] => false
  | x :: a, y :: b => if x = y then lexB a b else decide (x < y)

theorem lexB_asymm : ∀ (a b : List Nat), lexB a b = true → lexB b a = false := by
  intro a
  induction a with
  | nil => intro b h; cases b <;> simp [lexB] at *
  | cons x a ih =>
    intro b h
    cases b with
    | nil => simp [lexB] at h
    | cons y b =>
      simp only [lexB] at h ⊢
      by_cases e : x = y
      · subst e; simp only [if_pos] at h ⊢; exact ih b h
      · rw [if_neg e] at h; rw [if_neg (fun h => e h.symm)]; simp at h ⊢; omega
theorem lexB_irrefl (a : List Nat) : lexB a a = false := by
  induction a with
  | nil => rfl
  | cons x a ih => simp [lexB, ih]

theorem allC_sorted (kk : Nat) : ∀ r, (allC kk r).Pairwise fun a b => lexB a b = true := by
  intro r
  induction r with
  | zero => simp [allC]
  | succ r ih =>
    simp only [allC]
    rw [List.pairwise_flatMap]
    refine ⟨fun j _ => ?_, ?_⟩
    · rw [List.pairwise_map]
      exact ih.imp fun {a b} h => by simp [lexB, h]
    · refine List.Pairwise.imp ?_ (List.pairwise_lt_range)
      intro i j hij a ha b hb
      simp only [List.mem_map] at ha hb
      obtain ⟨a', _, rfl⟩ := ha
      obtain ⟨b', _, rfl⟩ := hb
      simp only [lexB]
      rw [if_neg (by omega)]
      simpa using hij

/-- the first of the cheapest: what lies before it is dearer -/
theorem cheap_first : ∀ {n : Nat} {l : List (List Nat × Int)} {y : List Nat × Int}, l.length = n → cheap l = some y → ∃ l1 l2, l = l1 ++ y :: l2 ∧ (∀ x ∈ l1, y.2 < x.2) ∧ ∀ x ∈ l2, y.2 ≤ x.2 := by
  intro n
  induction n with
  | zero =>
    intro l y hn h
    have : l = [] := List.length_eq_zero_iff.1 hn
    subst this
    cases h
  | succ n ih =>
    intro l y hn h
    rcases List.eq_nil_or_concat l with e | ⟨l', x, e⟩
    · subst e; simp at hn
    · rw [List.concat_eq_append] at e
      subst e
      simp at hn
      cases hc : cheap l' with
      | none =>
        rw [cheap_snoc_none x hc] at h
        cases h
        have : l' = [] := cheap_nil.1 hc
        subst this
        exact ⟨[], [], rfl, fun _ h => (by cases h), fun _ h => (by cases h)⟩
      | some z =>
        obtain ⟨l1, l2, e, h1, h2⟩ := ih hn hc
        rw [cheap_snoc_some x hc] at h
        split at h
        · rename_i hlt
          cases h
          refine ⟨l', [], by simp, fun u hu => ?_, fun _ h => (by cases h)⟩
          rw [e] at hu
          rcases List.mem_append.1 hu with h3 | h3
          · have := h1 u h3; omega
          · rcases List.mem_cons.1 h3 with rfl | h3
            · exact hlt
            · have := h2 u h3; omega
        · rename_i hlt
          cases h
          refine ⟨l1, l2 ++ [x], by simp [e], h1, fun u hu => ?_⟩
          rcases List.mem_append.1 hu with h3 | h3
          · exact h2 u h3
          · simp at h3; subst h3; omega

/-- none that is as cheap comes before it -/
theorem cheap_lex {l : List (List Nat × Int)} {y x : List Nat × Int} (hs : l.Pairwise fun a b => lexB a.1 b.1 = true) (h : cheap l = some y) (hx : x ∈ l) (hp : x.2 = y.2) : lexB x.1 y.1 = false := by
  obtain ⟨l1, l2, e, h1, h2⟩ := cheap_first rfl h
  subst e
  rcases List.mem_append.1 hx with h3 | h3
  · have := h1 x h3; omega
  · rcases List.mem_cons.1 h3 with rfl | h3
    · exact lexB_irrefl _
    · have := (List.pairwise_append.1 hs).2.1
      exact lexB_asymm _ _ ((List.pairwise_cons.1 this).1 x h3)

/-- the choices that suffice, with their prices -/
def sufL (kk : Nat) (burst : Nat → Nat → Bool) (len stock pr : Nat → Int) (r : Nat) : List (List Nat × Int) :=
  ext kk burst len stock pr r [] (fun _ => 0) 0
theorem sufL_eq (kk : Nat) (burst : Nat → Nat → Bool) (len stock pr : Nat → Int) (r : Nat) :
    sufL kk burst len stock pr r = ((allC kk r).filter (okT burst len stock 0 fun _ => 0)).map fun t => (t, priceT len pr 0 t) := by
  unfold sufL; rw [ext_eq]; simp
theorem sufL_sorted (kk : Nat) (burst : Nat → Nat → Bool) (len stock pr : Nat → Int) (r : Nat) : (sufL kk burst len stock pr r).Pairwise fun a b => lexB a.1 b.1 = true := by
  rw [sufL_eq, List.pairwise_map]
  exact (allC_sorted kk r).filter _
theorem mem_sufL {kk : Nat} {burst : Nat → Nat → Bool} {len stock pr : Nat → Int} {r : Nat} {x : List Nat × Int} :
    x ∈ sufL kk burst len stock pr r ↔ (x.1.length = r ∧ ∀ j ∈ x.1, j < kk) ∧ okT burst len stock 0 (fun _ => 0) x.1 = true ∧ x.2 = priceT len pr 0 x.1 := by
  rw [sufL_eq]
  simp only [List.mem_map, List.mem_filter, mem_allC]
  constructor
  · rintro ⟨t, ⟨h1, h2⟩, rfl⟩; exact ⟨h1, h2, rfl⟩
  · rintro ⟨h1, h2, h3⟩; exact ⟨x.1, ⟨h1, h2⟩, by rw [← h3]⟩
end Go.Kn

namespace Go.Kn
open Go Go.RowKit

variable {F : Fence} {n : Nat} {P : Program}

/-- How a round's body may be left here: it always goes on. -/
def onPost {α : Type} (B : Nat) (Kp : World → World → Prop) (I : List α → World → Prop) (xs : List α) (W : World) : Exit → Act → World → Prop
  | .normal, _, W' => KeepsFrom B W W' ∧ Kp W W' ∧ I xs W'
  | _, _, _ => False

theorem putObj_below (W : World) {l : Nat} (o o' : Obj) {B : Nat} (hl : W.heap[l]? = some o) (hB : B ≤ l) : Below B W (W.putObj l o') :=
  (Below.refl B W).grown (grownBy_putObj' W l o') (by have := (Array.getElem?_eq_some_iff.1 hl).1; omega) (fun k e => by cases e; exact hB)

/-- A range over a function whose iterator writes blocks of its own between two rounds, and whose body never leaves: what the caller keeps lies below the loop's own blocks, and at the end the iterator says of the world what it has yielded (S). -/
theorem rangeFunc_all {α : Type} {g : Operand} {ps : Array Tmp} {assign body : Code} {Q : Exit → Act → World → Prop} {a : Act} {w : World}
    (hro : F.round = none) (h1 : 1 ≤ n) {gf : Nat} {lb : Array Value} (hg : a.eval g = .func (.func gf) #[] lb) (hFg : F.fn gf) (eg : ∀ args w, (callFunc gf args).run P w = .ok (.enter gf args) w)
    {encs : α → Array Value} {Kp : World → World → Prop} {S : List α → World → Prop}
    (hseq : ∀ (l : Nat) (J : List α → World → Prop) (W : World), W.heap.size = w.heap.size + 2 → Below w.heap.size w W →
      (∀ s A B, J s A → Below (w.heap.size + 2) A B → J s B) →
      (∀ pre x W1, J pre W1 → YieldAt F (n - 1 - 1) P l (encs x) W1 fun e W' => e = .returned (.bool true) ∧ J (pre ++ [x]) W' ∧ Kp W1 W') →
      J [] W → CallsIn F (n - 1) P gf (#[.func (.yield l) #[] #[]] ++ lb) W fun e W' => (∃ v, e = .returned v) ∧ ∃ xs, S xs W' ∧ J xs W')
    (hKt : ∀ {A B C : World}, Kp A B → Kp B C → Kp A C)
    (hKb : ∀ (W : World) (o' : Obj), Kp W (W.putObj (w.heap.size + 1) o'))
    (hS : ∀ xs (W : World) (o' : Obj), S xs W → S xs (W.putObj (w.heap.size + 1) o'))
    (hps : ∀ x, (encs x).size = ps.size)
    (I : List α → World → Prop) (hI : ∀ s A B, I s A → Below w.heap.size A B → I s B) (h0 : I [] w)
    (Ax : α → Act → World → Prop) (hAx : ∀ x a' (W : World) (o' : Obj), w.heap.size + 2 ≤ W.heap.size → Ax x a' W → Ax x a' (W.putObj (w.heap.size + 1) o'))
    (hassign : ∀ (l : Nat) (pre : List α) (x : α) (W : World) (K : Act → World → Prop), w.heap.size + 2 ≤ W.heap.size → I pre W → (∀ a' W', KeepsFrom w.heap.size W W' → Kp W W' → I pre W' → Ax x a' W' → K a' W') →
      assign.wpIn (F.inRound l) (n - 1 - 1) P (Exit.then K (fun _ _ _ => False)) { tmps := (ps.zip (encs x)).foldl (fun t (p, v) => t.setIfInBounds p v) a.tmps, defers := [] } W)
    (hbody : ∀ (l : Nat) (pre : List α) (x : α) (a' : Act) (W : World), w.heap.size + 2 ≤ W.heap.size → I pre W → Ax x a' W → body.wpIn (F.inRound l) (n - 1 - 1) P (onPost w.heap.size Kp I (pre ++ [x]) W) a' W)
    (hdone : ∀ (xs : List α) (W : World), S xs W → I xs W → W.heap[w.heap.size]? = some (.deferred (some [])) → Q .normal { a with defers := { target := .collected w.heap.size, args := #[] } :: a.defers } W) :
    (Code.rangeFunc g ps assign body).wpIn F n P Q a w := by
  refine wpIn_rangeFunc fun fn hfn => ?_
  rw [hro]
  let rec' : LoopState → Loop := fun st => { state := st, pending := none, fn, tmps := a.tmps, params := ps, assign, body, defers := w.heap.size }
  have hz : ((w.alloc (.deferred (some []))).alloc (.loop (rec' .ready))).heap.size = w.heap.size + 2 := by simp
  have hBz : Below w.heap.size w ((w.alloc (.deferred (some []))).alloc (.loop (rec' .ready))) := ((Below.refl _ w).alloc (Nat.le_refl _) _).alloc (by simp) _
  have hK1 : ((w.alloc (.deferred (some []))).alloc (.loop (rec' .ready))).heap[w.heap.size]? = some (.deferred (some [])) := (Below.heap_alloc _ _ _ (by simp)).trans (World.alloc_heap_new w _)
  have hL1 : ((w.alloc (.deferred (some []))).alloc (.loop (rec' .ready))).heap[w.heap.size + 1]? = some (.loop (rec' .ready)) := by
    have := World.alloc_heap_new (w.alloc (.deferred (some []))) (.loop (rec' .ready)); rwa [World.size_alloc] at this
  refine ⟨w.heap.size + 1, [{ target := .collected w.heap.size, args := #[] }], (w.alloc (.deferred (some []))).alloc (.loop (rec' .ready)), { target := .fn (.func gf) lb, args := #[.func (.yield (w.heap.size + 1)) #[] #[]] }, (w.alloc (.deferred (some []))).alloc (.loop (rec' .ready)), gf,
    #[.func (.yield (w.heap.size + 1)) #[] #[]] ++ lb, (w.alloc (.deferred (some []))).alloc (.loop (rec' .ready)), run_enterLoop_outer _ _ _ _ _, ?_, ?_, ?_, fun _ => h1, ?_⟩
  · simp only [resolve, hg]
    simp [go_sem, rec']
  · intro f' hf'; simp [Target.leads] at hf'; subst hf'; exact hFg
  · simp [invoke, go_sem, eg]
  refine (hseq (w.heap.size + 1)
    (fun pre W => I pre W ∧ W.heap[w.heap.size + 1]? = some (.loop (rec' .ready)) ∧ W.heap[w.heap.size]? = some (.deferred (some [])))
    _ hz hBz (fun s A B h hb => ⟨hI s A B h.1 (hb.mono (by omega)), (hb.block _ (by omega)).trans h.2.1, (hb.block _ (by omega)).trans h.2.2⟩) ?_ ⟨hI _ _ _ h0 hBz, hL1, hK1⟩).mono ?_
  · rintro pre x W ⟨hi, hl, hk⟩
    have hlt : w.heap.size + 1 < W.heap.size := (Array.getElem?_eq_some_iff.1 hl).1
    refine ⟨fn, _, assign, body, run_yield (P := P) (args := encs x) hl (hps x), roundIn_of_wpIn hfn (hassign _ pre x W _ (by omega) hi ?_)⟩
    intro a' Wa hkfa hkpa hia hax
    have hla := hkfa.same _ _ (by omega) hl rfl
    have hka := hkfa.same _ _ (Nat.le_refl _) hk rfl
    have hlta : w.heap.size + 1 < Wa.heap.size := (Array.getElem?_eq_some_iff.1 hla).1
    refine ⟨_, run_beginRound hla rfl, ?_⟩
    have hl2 : (Wa.putObj (w.heap.size + 1) (.loop (rec' .busy))).heap[w.heap.size + 1]? = some (.loop (rec' .busy)) := World.putObj_heap_same hlta
    have hk2 : (Wa.putObj (w.heap.size + 1) (.loop (rec' .busy))).heap[w.heap.size]? = some (.deferred (some [])) := (World.putObj_heap_other (by omega)).trans hka
    have hz2 : (Wa.putObj (w.heap.size + 1) (.loop (rec' .busy))).heap.size = Wa.heap.size := by simp
    refine wpIn_mono (hbody _ pre x a' (Wa.putObj (w.heap.size + 1) (.loop (rec' .busy))) (by omega) (hI _ _ _ hia (putObj_below Wa _ _ hla (by omega))) (hAx _ _ _ _ (by omega) hax)) ?_
    intro e a3 W3 hp
    cases e with
    | normal =>
      obtain ⟨hk3, hkp3, hi3⟩ := hp
      have hl3 := hk3.same _ _ (by omega) hl2 rfl
      have hd3 := hk3.same _ _ (Nat.le_refl _) hk2 rfl
      have hlt3 := (Array.getElem?_eq_some_iff.1 hl3).1
      refine ⟨_, _, run_endRound none hl3, ⟨rfl, ⟨hI _ _ _ hi3 (putObj_below W3 _ _ hl3 (by omega)), World.putObj_heap_same hlt3, (World.putObj_heap_other (by omega)).trans hd3⟩, hKt hkpa (hKt (hKt (hKb Wa _) hkp3) (hKb W3 _))⟩⟩
    | ret => exact hp.elim
    | exit id => exact hp.elim
    | goto t => exact hp.elim
    | panic ch => exact hp.elim
    | outgrown => exact hp.elim
  · rintro e W2 ⟨⟨v, rfl⟩, xs, hS2, hi, hl, hk⟩
    exact ⟨none, _, run_endLoop (P := P) hl (by simp [rec']), hdone xs _ (hS _ _ _ hS2) (hI _ _ _ hi (putObj_below W2 _ _ hl (by omega))) ((World.putObj_heap_other (by omega)).trans hk)⟩
end Go.Kn

namespace Go.Kn
open Go Go.Proofs Go.RowKit Go.Shelf

/-- a block of two cells -/
def Box2 (W : World) (B : Nat) (t : TypeId) (u v : Value) : Prop := W.heap[B]? = some (.cells #[u, v] t (0, 0))
theorem Box2.lt {W : World} {B : Nat} {t : TypeId} {u v : Value} (h : Box2 W B t u v) : B < W.heap.size := (Array.getElem?_eq_some_iff.1 h).1
theorem Box2.cell0 {W : World} {B : Nat} {t : TypeId} {u v : Value} (h : Box2 W B t u v) : W.cell? ⟨B, 0, none⟩ = some u := by simp [World.cell?, show W.heap[B]? = _ from h]
theorem Box2.cell1 {W : World} {B : Nat} {t : TypeId} {u v : Value} (h : Box2 W B t u v) : W.cell? ⟨B, 1, none⟩ = some v := by simp [World.cell?, show W.heap[B]? = _ from h]
theorem Box2.frozen {W : World} {B : Nat} {t : TypeId} {u v : Value} (h : Box2 W B t u v) (i : Nat) : W.frozen? ⟨B, i, none⟩ = false := by simp [World.frozen?, show W.heap[B]? = _ from h]
theorem Box2.new (W : World) (t : TypeId) (u v : Value) : Box2 (W.alloc (.cells #[u, v] t)) W.heap.size t u v := World.alloc_heap_new W _
theorem Box2.below {W W' : World} {B N : Nat} {t : TypeId} {u v : Value} (h : Box2 W B t u v) (hb : Below N W W') (hB : B < N) : Box2 W' B t u v := (hb.block B hB).trans h
theorem Box2.other {W : World} {B : Nat} {t : TypeId} {u v : Value} (h : Box2 W B t u v) {a : Addr} (hne : a.block ≠ B) (x : Value) : Box2 (W.setCell a x) B t u v := (Below.heap_setCell _ _ _ _ (fun e => hne e.symm)).trans h
theorem Box2.set0 {W : World} {B : Nat} {t : TypeId} {u v : Value} (u' : Value) (h : Box2 W B t u v) : Box2 (W.setCell ⟨B, 0, none⟩ u') B t u' v := by
  obtain ⟨hlt, hk⟩ := Array.getElem?_eq_some_iff.1 h
  show (W.heap.modify B _)[B]? = _
  rw [Array.getElem?_eq_getElem (by rw [Array.size_modify]; exact hlt), Array.getElem_modify_self, hk]
  rfl
theorem Box2.set1 {W : World} {B : Nat} {t : TypeId} {u v : Value} (v' : Value) (h : Box2 W B t u v) : Box2 (W.setCell ⟨B, 1, none⟩ v') B t u v' := by
  obtain ⟨hlt, hk⟩ := Array.getElem?_eq_some_iff.1 h
  show (W.heap.modify B _)[B]? = _
  rw [Array.getElem?_eq_getElem (by rw [Array.size_modify]; exact hlt), Array.getElem_modify_self, hk]
  rfl
theorem boxed_below {W W' : World} {B N : Nat} {t : TypeId} {v : Value} (h : Boxed W B t v) (hb : Below N W W') (hB : B < N) : Boxed W' B t v := (hb.block B hB).trans h

/-- what is yielded: a choice, its price, and the block in which its copy lies -/
structure Yd where
  c : List Nat
  q : Int
  g : Nat
  cap : Nat
def Yd.v (x : Yd) : Value := .slice (some ⟨x.g, 0, none⟩) x.c.length x.cap
def Yd.pr (x : Yd) : List Nat × Int := (x.c, x.q)
/-- the copy's cells -/
def AtY (W : World) (x : Yd) : Prop := x.g < W.heap.size ∧ ∀ i, i < x.c.length → W.cell? ⟨x.g, i, none⟩ = some (.int .i64 (x.c.getD i 0 : Nat))
/-- what a round keeps: all blocks that were there, but for best's own -/
def KpM (m : Nat) (W W' : World) : Prop := W.heap.size ≤ W'.heap.size ∧ ∀ k, k < W.heap.size → (k < m ∨ m + 5 ≤ k) → W'.heap[k]? = W.heap[k]?
theorem KpM.trans {m : Nat} {A B C : World} (h : KpM m A B) (k : KpM m B C) : KpM m A C := ⟨Nat.le_trans h.1 k.1, fun i hi hm => (k.2 i (Nat.lt_of_lt_of_le hi h.1) hm).trans (h.2 i hi hm)⟩
theorem KpM.refl (m : Nat) (W : World) : KpM m W W := ⟨Nat.le_refl _, fun _ _ _ => rfl⟩
theorem KpM.setCell {m : Nat} {A W : World} (h : KpM m A W) {a : Addr} (h1 : m ≤ a.block) (h2 : a.block < m + 5) (x : Value) : KpM m A (W.setCell a x) :=
  h.trans ⟨by simp [World.setCell], fun k _ hm => Below.heap_setCell _ _ _ _ (by omega)⟩
theorem KpM.of_below {m : Nat} {A W W' : World} (h : KpM m A W) (hb : Below W.heap.size W W') : KpM m A W' := h.trans ⟨hb.size, fun k hk _ => hb.block k hk⟩
theorem KpM.putObj (m : Nat) (W : World) (k : Nat) (o : Obj) (h1 : m ≤ k) (h2 : k < m + 5) : KpM m W (W.putObj k o) := ⟨by simp, fun i _ hm => World.putObj_heap_other (by omega)⟩
theorem AtY.kp {m : Nat} {W W' : World} {x : Yd} (h : AtY W x) (hk : KpM m W W') (hm : m + 5 ≤ x.g) : AtY W' x :=
  ⟨Nat.lt_of_lt_of_le h.1 hk.1, fun i hi => (World.cell?_of_block (w := W) (hk.2 _ h.1 (.inr hm))).trans (h.2 i hi)⟩

/-- the first of the cheapest of what has come -/
def cheapY : List Yd → Option Yd
  | l => l.foldl (fun a x => match a with | none => some x | some y => if x.q < y.q then some x else some y) none
theorem cheapY_snoc (l : List Yd) (x : Yd) : cheapY (l ++ [x]) = match cheapY l with | none => some x | some y => if x.q < y.q then some x else some y := by
  unfold cheapY; rw [List.foldl_append]; rfl
theorem cheapY_map : ∀ (n : Nat) (l : List Yd), l.length = n → (cheapY l).map Yd.pr = cheap (l.map Yd.pr) := by
  intro n
  induction n with
  | zero => intro l h; obtain rfl := List.length_eq_zero_iff.1 h; rfl
  | succ n ih =>
    intro l h
    rcases List.eq_nil_or_concat l with e | ⟨l', x, e⟩
    · subst e; simp at h
    rw [List.concat_eq_append] at e
    subst e
    have h1 := ih l' (by simpa using h)
    rw [cheapY_snoc, List.map_append, List.map_singleton]
    cases hc : cheapY l' with
    | none =>
      rw [hc] at h1
      rw [cheap_snoc_none _ (by rw [← h1]; rfl)]; rfl
    | some y =>
      rw [hc] at h1
      rw [cheap_snoc_some (y := y.pr) _ (by rw [← h1]; rfl)]
      by_cases hq : x.q < y.q <;> simp [hq, Yd.pr]
theorem cheapY_mem : ∀ (n : Nat) (l : List Yd) (y : Yd), l.length = n → cheapY l = some y → y ∈ l := by
  intro n
  induction n with
  | zero => intro l y h hc; obtain rfl := List.length_eq_zero_iff.1 h; cases hc
  | succ n ih =>
    intro l y h hc
    rcases List.eq_nil_or_concat l with e | ⟨l', x, e⟩
    · subst e; simp at h
    rw [List.concat_eq_append] at e
    subst e
    rw [cheapY_snoc] at hc
    cases hl : cheapY l' with
    | none => rw [hl] at hc; cases hc; simp
    | some z =>
      rw [hl] at hc
      simp only at hc
      have := ih l' z (by simpa using h) hl
      split at hc <;> cases hc <;> simp [this]

/-- best's variable: what has been best -/
def fstV (o : Option Yd) : Value := match o with | none => .slice none 0 0 | some y => y.v
def fstQ (o : Option Yd) : Int := match o with | none => 0 | some y => y.q
end Go.Kn

namespace Go.Kn
open Go Go.Proofs Go.RowKit Go.Shelf

set_option maxHeartbeats 1000000 in
theorem pless_w (sa sb : Option Addr) (la ca lb cb : Nat) (p q : Int) (w : World) :
    Calls Tryz.prog 61 #[.agg #[.slice sa la ca, .int .i64 p], .agg #[.slice sb lb cb, .int .i64 q]] w
      fun e w' => e = .returned (.bool (decide (p < q))) ∧ Below w.heap.size w w' := by
  go_enter Tryz.func61, Tryz.ntmps61
  go_wp2
  go_ret
  exact ⟨rfl, ((Below.refl _ _).alloc (Nat.le_refl _) _).alloc (by simp) _⟩

/-- what best keeps in its variables -/
def BI (w : World) (pre : List Yd) (W : World) : Prop :=
  (Boxed W w.heap.size 103 (.func (.func 61) #[] #[]) ∧ Box2 W (w.heap.size + 1) 97 (fstV (cheapY pre)) (.int .i64 (fstQ (cheapY pre))) ∧ Boxed W (w.heap.size + 1 + 1) 4 (.bool (cheapY pre).isSome)) ∧ Below w.heap.size w W
/-- what the iterator says at its end -/
def SY (m : Nat) (L : List (List Nat × Int)) (xs : List Yd) (W : World) : Prop := xs.map Yd.pr = L ∧ ∀ x ∈ xs, m + 5 ≤ x.g ∧ AtY W x
theorem SY.put {m : Nat} {L : List (List Nat × Int)} {xs : List Yd} {W W' : World} (h : SY m L xs W) (hk : KpM m W W') : SY m L xs W' := ⟨h.1, fun x hx => ⟨(h.2 x hx).1, (h.2 x hx).2.kp hk (h.2 x hx).1⟩⟩

/-- what an iterator owes best -/
def SeqY (w : World) (gf : Nat) (lb : Array Value) (L : List (List Nat × Int)) : Prop :=
  ∀ (l : Nat) (J : List Yd → World → Prop) (W : World), W.heap.size = w.heap.size + 5 → Below w.heap.size w W →
      (∀ s A B, J s A → Below (w.heap.size + 5) A B → J s B) →
      (∀ pre x W1, J pre W1 → YieldAt Fence.wide 4 Tryz.prog l #[.agg #[x.v, .int .i64 x.q]] W1 fun e W' => e = .returned (.bool true) ∧ J (pre ++ [x]) W' ∧ KpM w.heap.size W1 W') →
      J [] W → CallsIn Fence.wide 5 Tryz.prog gf (#[.func (.yield l) #[] #[]] ++ lb) W fun e W' => (∃ v, e = .returned v) ∧ ∃ xs, SY w.heap.size L xs W' ∧ J xs W'

theorem _root_.Go.Boxed.other1 {W : World} {B : Nat} {t : TypeId} {v : Value} (h : Boxed W B t v) {b o : Nat} (hne : b ≠ B) (x : Value) : Boxed (W.setCell ⟨b, o, none⟩ x) B t v := (Below.heap_setCell _ _ _ _ (fun e => hne e.symm)).trans h
theorem keeps_of_below {N : Nat} {W W' : World} (hb : Below W.heap.size W W') : KeepsFrom N W W' := ⟨hb.size, fun k o _ hk _ => (hb.block k (Array.getElem?_eq_some_iff.1 hk).1).trans hk⟩

theorem set3 {w W : World} {N : Nat} {u v : Value} {u0 v0 : Value} {c0 : Value} (hB : Below w.heap.size w W) (p0 : Boxed W w.heap.size 103 (.func (.func 61) #[] #[])) (p1 : Box2 W (w.heap.size + 1) 97 u0 v0) (p2 : Boxed W (w.heap.size + 1 + 1) 4 c0) :
    KeepsFrom N W (((W.setCell ⟨w.heap.size + 1, 0, none⟩ u).setCell ⟨w.heap.size + 1, 1, none⟩ v).setCell ⟨w.heap.size + 1 + 1, 0, none⟩ (.bool true)) ∧
    KpM w.heap.size W (((W.setCell ⟨w.heap.size + 1, 0, none⟩ u).setCell ⟨w.heap.size + 1, 1, none⟩ v).setCell ⟨w.heap.size + 1 + 1, 0, none⟩ (.bool true)) ∧
    (Boxed (((W.setCell ⟨w.heap.size + 1, 0, none⟩ u).setCell ⟨w.heap.size + 1, 1, none⟩ v).setCell ⟨w.heap.size + 1 + 1, 0, none⟩ (.bool true)) w.heap.size 103 (.func (.func 61) #[] #[]) ∧
      Box2 (((W.setCell ⟨w.heap.size + 1, 0, none⟩ u).setCell ⟨w.heap.size + 1, 1, none⟩ v).setCell ⟨w.heap.size + 1 + 1, 0, none⟩ (.bool true)) (w.heap.size + 1) 97 u v ∧
      Boxed (((W.setCell ⟨w.heap.size + 1, 0, none⟩ u).setCell ⟨w.heap.size + 1, 1, none⟩ v).setCell ⟨w.heap.size + 1 + 1, 0, none⟩ (.bool true)) (w.heap.size + 1 + 1) 4 (.bool true)) ∧
    Below w.heap.size w (((W.setCell ⟨w.heap.size + 1, 0, none⟩ u).setCell ⟨w.heap.size + 1, 1, none⟩ v).setCell ⟨w.heap.size + 1 + 1, 0, none⟩ (.bool true)) := by
  refine ⟨(((KeepsOthers.setCell _ _ _).trans (KeepsOthers.setCell _ _ _)).trans (KeepsOthers.setCell _ _ _)).from _, (((KpM.refl _ _).setCell (by simp) (by simp) _).setCell (by simp) (by simp) _).setCell (by simp; omega) (by simp) _, ⟨?_, ?_, ?_⟩, ((hB.setCell (by simp) _).setCell (by simp) _).setCell (by simp; omega) _⟩
  · exact ((p0.other (B' := w.heap.size + 1) (by omega) _).other1 (by omega) _).other (B' := w.heap.size + 1 + 1) (by omega) _
  · exact ((p1.set0 u).set1 v).other (by simp) _
  · have h2 : Boxed ((W.setCell ⟨w.heap.size + 1, 0, none⟩ u).setCell ⟨w.heap.size + 1, 1, none⟩ v) (w.heap.size + 1 + 1) 4 c0 := (Below.heap_setCell _ _ _ _ (by simp)).trans ((Below.heap_setCell _ _ _ _ (by simp)).trans p2)
    exact h2.set _

set_option maxRecDepth 100000 in
set_option maxHeartbeats 4000000 in
theorem bestP_w (lb : Array Value) (L : List (List Nat × Int)) (w : World) (hseq : SeqY w 95 lb L) :
    CallsIn Fence.wide 6 Tryz.prog 59 #[.func (.func 95) #[] lb, .func (.func 61) #[] #[]] w fun e W' => Below w.heap.size w W' ∧
      ∃ o : Option Yd, o.map Yd.pr = cheap L ∧ e = .returned (.tuple #[.agg #[fstV o, .int .i64 (fstQ o)], .bool o.isSome]) ∧ ∀ y, o = some y → w.heap.size ≤ y.g ∧ AtY W' y := by
  have HS := Lib.hid hseq
  clear hseq
  refine callsIn_of_wp_marks Tryz.func59 rfl trivial ?_ rfl
  simp only [Tryz.ntmps59, List.size_toArray, List.length_cons, List.length_nil, Nat.reduceAdd, Nat.reduceSub, Array.replicate_succ, Array.replicate_zero, List.push_toArray, List.append_toArray, List.nil_append, List.cons_append]
  gi_wp2
  have b0 := Boxed.new w 103 (.func (.func 61) #[] #[])
  have b1 := Box2.new (w.alloc (.cells #[.func (.func 61) #[] #[]] 103)) 97 (.slice none 0 0) (.int .i64 0)
  have b2 := Boxed.new ((w.alloc (.cells #[.func (.func 61) #[] #[]] 103)).alloc (.cells #[.slice none 0 0, .int .i64 0] 97)) 4 (.bool false)
  simp only [World.size_alloc] at b1 b2
  have c0 := (b0.alloc (.cells #[.slice none 0 0, .int .i64 0] 97)).alloc (.cells #[.bool false] 4)
  have c1 := b1.below ((Below.refl _ _).alloc (Nat.le_refl _) (.cells #[.bool false] 4)) (by simp)
  have hB0 : Below w.heap.size w (((w.alloc (.cells #[.func (.func 61) #[] #[]] 103)).alloc (.cells #[.slice none 0 0, .int .i64 0] 97)).alloc (.cells #[.bool false] 4)) := (((Below.refl _ w).alloc (Nat.le_refl _) _).alloc (by simp) _).alloc (by simp; omega) _
  obtain ⟨W0, hW0⟩ : ∃ W0, W0 = ((w.alloc (.cells #[.func (.func 61) #[] #[]] 103)).alloc (.cells #[.slice none 0 0, .int .i64 0] 97)).alloc (.cells #[.bool false] 4) := ⟨_, rfl⟩
  rw [← hW0] at c0 c1 b2 hB0 ⊢
  have hz : W0.heap.size = w.heap.size + 1 + 1 + 1 := by rw [hW0]; simp
  have hz2 : W0.heap.size + 2 = w.heap.size + 5 := by omega
  clear hW0
  refine rangeFunc_all (Kp := KpM w.heap.size) (S := SY w.heap.size L) (encs := fun x : Yd => #[.agg #[x.v, .int .i64 x.q]]) rfl (by decide) (gf := 95) (lb := lb) rfl trivial (enters_of Tryz.func95 (by kernel_rfl) rfl)
    ?seq (fun h k => h.trans k) (fun W o => KpM.putObj _ _ _ _ (by omega) (by omega)) (fun xs W o h => h.put (KpM.putObj _ _ _ _ (by omega) (by omega))) (fun _ => rfl)
    (BI w) ?hI ⟨⟨c0, c1, b2⟩, hB0⟩
    (fun x a' W => ∃ Bx, w.heap.size + 5 ≤ Bx ∧ Box2 W Bx 97 x.v (.int .i64 x.q) ∧ a' = { tmps := #[Value.func (Fn.func 95) #[] lb, Value.func (Fn.func 61) #[] #[], undef,
          Value.pointer (some { block := w.heap.size, off := 0 }),
          Value.pointer (some { block := w.heap.size + 1, off := 0 }),
          Value.pointer (some { block := w.heap.size + 1 + 1, off := 0 }), Value.pointer (some { block := Bx, off := 0 }), Value.func (Fn.func 95) #[] lb,
          .agg #[x.v, .int .i64 x.q], undef, undef, undef, undef, undef, undef, undef, undef, undef, undef, undef], defers := [] })
    ?hAx ?assign ?body ?done
  case seq =>
    intro l J W h1 h2 h3 h4 h5
    exact HS.out l J W (by omega) (hB0.trans (h2.mono (by omega))) (fun s A B h hb => h3 s A B h (by rw [hz2]; exact hb)) h4 h5
  case hI =>
    rintro pre A B ⟨⟨p0, p1, p2⟩, hB⟩ hb
    exact ⟨⟨boxed_below p0 hb (by omega), p1.below hb (by omega), boxed_below p2 hb (by omega)⟩, hB.trans (hb.mono (by omega))⟩
  case hAx =>
    rintro x a' W o hw ⟨Bx, h1, h2, h3⟩
    exact ⟨Bx, h1, (World.putObj_heap_other (by omega)).trans h2, h3⟩
  case assign =>
    rintro l pre x W K hw ⟨⟨p0, p1, p2⟩, hB⟩ hK
    have hsa := @Oper.semAt_some
    have ev : x.v = .slice (some ⟨x.g, 0, none⟩) x.c.length x.cap := rfl
    gi_wp2
    have hal : Below W.heap.size W (W.alloc (.cells #[x.v, .int .i64 x.q] 97)) := (Below.refl _ _).alloc (Nat.le_refl _) _
    refine hK _ _ ((KeepsOthers.alloc _ _).from _) ((KpM.refl _ _).of_below hal) ⟨⟨boxed_below p0 hal (by omega), p1.below hal (by omega), boxed_below p2 hal (by omega)⟩, hB.alloc (by omega) _⟩ ⟨W.heap.size, by omega, Box2.new W _ _ _, rfl⟩
  case body =>
    rintro l pre x a' W hw ⟨⟨p0, p1, p2⟩, hB⟩ ⟨Bx, hBx, pX, rfl⟩
    have q0 := p0.cell
    have q1 := p1.cell0
    have q1' := p1.cell1
    have q2 := p2.cell
    have q3 := p1.frozen 0
    have q3' := p1.frozen 1
    have q4 := p2.frozen
    have q5 := pX.cell0
    have q6 := pX.cell1
    have hsa := @Oper.semAt_some
    have hcs := cheapY_snoc pre x
    have HB := Lib.hid hB
    cases hc : cheapY pre with
    | none =>
      rw [hc] at q1 q1' q2 hcs
      simp only [fstV, fstQ, Option.isSome] at q1 q1' q2 hcs
      have ev : x.v = .slice (some ⟨x.g, 0, none⟩) x.c.length x.cap := rfl
      gi_wp2
      refine ⟨fun _ h => (by cases h), ?_⟩
      gi_wp2
      have hs := set3 (N := W0.heap.size) (u := x.v) (v := .int .i64 x.q) HB.out p0 p1 p2
      refine ⟨hs.1, hs.2.1, ⟨hs.2.2.1.1, ?_, ?_⟩, hs.2.2.2⟩
      · rw [hcs]; exact hs.2.2.1.2.1
      · rw [hcs]; exact hs.2.2.1.2.2
    | some y =>
      rw [hc] at q1 q1' q2 hcs
      simp only [fstV, fstQ, Option.isSome] at q1 q1' q2 hcs
      have ev : x.v = .slice (some ⟨x.g, 0, none⟩) x.c.length x.cap := rfl
      have ey : y.v = .slice (some ⟨y.g, 0, none⟩) y.c.length y.cap := rfl
      by_cases hx : x.q < y.q
      · gi_wp2_with (refine ⟨trivial, ?_⟩; gi_at_call 61; refine (CallsIn.inRound l (callsIn_wide.2 (pless_w _ _ _ _ _ _ _ _ _))).mono ?_; rintro e w' ⟨rfl, hbp⟩; clear q0 q1 q1' q2 q3 q3' q4 q5 q6; replace p0 := boxed_below p0 hbp p0.lt; replace p1 := p1.below hbp p1.lt; replace p2 := boxed_below p2 hbp p2.lt; have pY := pX.below hbp pX.lt; have q1 := p1.cell0; have q1' := p1.cell1; have q2 := p2.cell; have q3 := p1.frozen 0; have q3' := p1.frozen 1; have q4 := p2.frozen; have q5 := pY.cell0; have q6 := pY.cell1)
        have hB2 := HB.out.trans (hbp.mono hB.size)
        have hs := set3 (N := W0.heap.size) (u := x.v) (v := .int .i64 x.q) hB2 p0 p1 p2
        rw [if_pos hx] at hcs
        refine ⟨(keeps_of_below hbp).trans hs.1, ((KpM.refl _ _).of_below hbp).trans hs.2.1, ⟨hs.2.2.1.1, ?_, ?_⟩, hs.2.2.2⟩
        · rw [hcs]; exact hs.2.2.1.2.1
        · rw [hcs]; exact hs.2.2.1.2.2
      · gi_wp2_with (refine ⟨trivial, ?_⟩; gi_at_call 61; refine (CallsIn.inRound l (callsIn_wide.2 (pless_w _ _ _ _ _ _ _ _ _))).mono ?_; rintro e w' ⟨rfl, hbp⟩; clear q0 q1 q1' q2 q3 q3' q4 q5 q6; replace p0 := boxed_below p0 hbp p0.lt; replace p1 := p1.below hbp p1.lt; replace p2 := boxed_below p2 hbp p2.lt; have pY := pX.below hbp pX.lt; have q1 := p1.cell0; have q1' := p1.cell1; have q2 := p2.cell; have q3 := p1.frozen 0; have q3' := p1.frozen 1; have q4 := p2.frozen; have q5 := pY.cell0; have q6 := pY.cell1)
        have hB2 := HB.out.trans (hbp.mono hB.size)
        rw [if_neg (by omega)] at hcs
        refine ⟨keeps_of_below hbp, (KpM.refl _ _).of_below hbp, ⟨p0, ?_, ?_⟩, hB2⟩
        · rw [hcs, ← hc]; exact p1
        · rw [hcs, ← hc]; exact p2
  case done =>
    rintro xs W ⟨hs1, hs2⟩ ⟨⟨p0, p1, p2⟩, hB⟩ hK
    have q1 := p1.cell0
    have q1' := p1.cell1
    have q2 := p2.cell
    have q3 := p1.frozen 0
    have q3' := p1.frozen 1
    have q4 := p2.frozen
    have HB := Lib.hid hB
    have HX := Lib.hid hs1
    have HT := Lib.hid hs2
    clear hs1 hs2
    obtain ⟨fa, fn, fc, hfv⟩ : ∃ fa fn fc, fstV (cheapY xs) = .slice fa fn fc := by cases cheapY xs <;> exact ⟨_, _, _, rfl⟩
    obtain ⟨fq, hfq⟩ : ∃ fq, fstQ (cheapY xs) = fq := ⟨_, rfl⟩
    obtain ⟨fb, hfb⟩ : ∃ fb, (cheapY xs).isSome = fb := ⟨_, rfl⟩
    rw [hfv] at q1 p1
    rw [hfq] at q1' p1
    rw [hfb] at q2 p2
    have HFV := Lib.hid hfv
    have HFQ := Lib.hid hfq
    have HFB := Lib.hid hfb
    clear hfv hfq hfb
    gi_wp2
    gi_region
    all_goals (try gi_wp2)
    obtain ⟨Z, hZ⟩ : ∃ Z, Z = (((W.setCell ⟨w.heap.size + 1, 0, none⟩ (.slice fa fn fc)).setCell ⟨w.heap.size + 1, 1, none⟩ (.int .i64 fq)).setCell ⟨w.heap.size + 1 + 1, 0, none⟩ (.bool fb)).drew := ⟨_, rfl⟩
    have hKZ : Z.heap[W0.heap.size]? = some (.deferred (some [])) := by
      rw [hZ]
      exact ((((KeepsOthers.setCell W ⟨w.heap.size + 1, 0, none⟩ (.slice fa fn fc)).trans (KeepsOthers.setCell _ ⟨w.heap.size + 1, 1, none⟩ (.int .i64 fq))).trans (KeepsOthers.setCell _ ⟨w.heap.size + 1 + 1, 0, none⟩ (.bool fb))).trans (KeepsOthers.drew _)).same _ _ hK rfl
    have r1 : Box2 Z (w.heap.size + 1) 97 (.slice fa fn fc) (.int .i64 fq) := by
      rw [hZ]
      exact (((p1.set0 (.slice fa fn fc)).set1 (.int .i64 fq)).other (a := ⟨w.heap.size + 1 + 1, 0, none⟩) (by simp) (.bool fb) : _)
    have r2 : Boxed Z (w.heap.size + 1 + 1) 4 (.bool fb) := by
      rw [hZ]
      exact (((p2.other1 (b := w.heap.size + 1) (o := 0) (by omega) (.slice fa fn fc)).other1 (b := w.heap.size + 1) (o := 1) (by omega) (.int .i64 fq)).set (.bool fb) : _)
    have hBZ : Below w.heap.size w Z := by
      rw [hZ]
      exact (((HB.out.setCell (p := ⟨w.heap.size + 1, 0, none⟩) (by simp) _).setCell (p := ⟨w.heap.size + 1, 1, none⟩) (by simp) _).setCell (p := ⟨w.heap.size + 1 + 1, 0, none⟩) (by simp; omega) _).drew
    have hKp : KpM w.heap.size W Z := by
      rw [hZ]
      exact (((KpM.refl _ _).setCell (a := ⟨w.heap.size + 1, 0, none⟩) (by simp) (by simp) _).setCell (a := ⟨w.heap.size + 1, 1, none⟩) (by simp) (by simp) _).setCell (a := ⟨w.heap.size + 1 + 1, 0, none⟩) (by simp; omega) (by simp) _
    rw [← hZ]
    clear hZ
    refine ⟨by simp, .inl ⟨_, _, rfl, run_takeDeferred hKZ, ?_⟩⟩
    have s1 : Box2 (Z.putObj W0.heap.size (.deferred none)) (w.heap.size + 1) 97 (.slice fa fn fc) (.int .i64 fq) := (World.putObj_heap_other (by omega)).trans r1
    have s2 : Boxed (Z.putObj W0.heap.size (.deferred none)) (w.heap.size + 1 + 1) 4 (.bool fb) := (World.putObj_heap_other (by omega)).trans r2
    have c5 := s1.cell0
    have c5' := s1.cell1
    have c6 := s2.cell
    refine ⟨.tuple #[.agg #[.slice fa fn fc, .int .i64 fq], .bool fb], ?_, hBZ.trans (putObj_below Z _ _ hKZ (by omega)), cheapY xs, ?_, ?_, ?_⟩
    · simp [results, Tryz.results59, go_sem, c5, c5', c6]
    · rw [cheapY_map _ xs rfl, HX.out]
    · rw [HFV.out, HFQ.out, HFB.out]
    · intro y hy
      have hm := cheapY_mem _ xs y rfl hy
      have h1 := HT.out y hm
      have h2 := h1.2.kp (hKp.trans (KpM.putObj _ _ W0.heap.size (.deferred none) (by omega) (by omega))) h1.1
      exact ⟨by omega, h2⟩
end Go.Kn

namespace Go.Kn
open Go Go.Proofs Go.RowKit

theorem eqnil_s (B O n c : Nat) (w : World) : (binOp BinOp.eql 22 (Value.slice (some ⟨B, O, none⟩) n c) (Value.slice none 0 0)).run Tryz.prog w = .ok (.bool false) w := by
  first | kernel_rfl | (simp [binOp, go_sem])

set_option maxRecDepth 100000 in
set_option maxHeartbeats 2000000 in
/-- slices.Clone of a list that is not empty: a block of one's own -/
theorem clone_w (B O n cs : Nat) (z : Nat → Int) (hn1 : 1 ≤ n) (hn : n ≤ 1000000) (w : World) (hB : B < w.heap.size) (hc : ∀ j, j < n → w.cell? ⟨B, O + j, none⟩ = some (.int .i64 (z j))) :
    Calls Tryz.prog 97 #[.slice (some ⟨B, O, none⟩) n cs] w
      fun e w' => (∃ v, e = .returned v ∧ w'.ownsRow w.heap.size 3 1 v n ((upto z n).map (Value.int .i64))) ∧ Below w.heap.size w w' := by
  obtain ⟨i0, hi, hz0, hz1, hz2⟩ := info_parts info3'
  have HN : Hid (∀ o : Obj, ∀ (j : Nat) (u : Value), ((upto z n).map (Value.int .i64))[j]? = some u → (w.alloc o).cell? ((⟨B, O, none⟩ : Addr).add j) = some u) := Lib.hid fun o j u hu => by
    have hj : j < n := by
      have := (List.getElem?_eq_some_iff.1 hu).1
      simpa [upto] using this
    have e : u = .int .i64 (z j) := by simpa [upto, hj] using hu.symm
    have ea : (⟨B, O, none⟩ : Addr).add j = ⟨B, O + j, none⟩ := by
      unfold Addr.add
      split
      · rename_i h; subst h; rfl
      · rfl
    rw [ea, e]
    exact (World.cell?_alloc_lt w o _ hB).trans (hc j hj)
  clear hc
  have hnil := eqnil_s B O n cs
  go_enter Tryz.func97, Tryz.ntmps97
  go_wp2_with (at_builtin; refine wpList_append_own _ rfl _ _ 22 rfl w.heap.size 3 i0 _ 1 8 Tryz.underlying22 hi hz0 hz1 hz2 rfl (by decide) (.slice (some ⟨w.heap.size, 0, none⟩) 0 0) 0 [] rfl (World.ownsRow_lit (e := 3) (size := 1) w #[] 0 (Nat.le_refl _) (by decide) rfl) ⟨B, O, none⟩ n cs ((upto z n).map (Value.int .i64)) rfl (by simp [upto]) (HN.out _) (by intro u hu; simp at hu; obtain ⟨x, _, rfl⟩ := hu; rfl) (by unfold maxLen; omega) (by omega) (by simp) ?_; intro v' w7 hown7 hgrow7 _)
  rw [Nat.zero_add, List.nil_append] at hown7
  go_ret
  exact ⟨⟨_, rfl, hown7⟩, ((Below.refl _ _).alloc (Nat.le_refl _) _).grown hgrow7 (by simp) (fun k e => by simp [Value.ownBlock] at e; omega)⟩

/-- the copy lies in a new block -/
theorem cloneC_w (B O cs : Nat) (c : List Nat) (hn1 : 1 ≤ c.length) (hn : c.length ≤ 1000000) (w : World) (hB : B < w.heap.size) (hc : ∀ j, j < c.length → w.cell? ⟨B, O + j, none⟩ = some (.int .i64 (c.getD j 0 : Nat))) :
    Calls Tryz.prog 97 #[.slice (some ⟨B, O, none⟩) c.length cs] w
      fun e w' => (∃ g cap, e = .returned (.slice (some ⟨g, 0, none⟩) c.length cap) ∧ w.heap.size ≤ g ∧ g < w'.heap.size ∧ ∀ j, j < c.length → w'.cell? ⟨g, j, none⟩ = some (.int .i64 (c.getD j 0 : Nat))) ∧ Below w.heap.size w w' := by
  refine (clone_w B O c.length cs (fun j => ((c.getD j 0 : Nat) : Int)) hn1 hn w hB hc).mono ?_
  rintro e w' ⟨⟨v, rfl, hown⟩, hb⟩
  refine ⟨?_, hb⟩
  rcases hown.2 with ⟨_, h0⟩ | ⟨g, cap, cur, rfl, hg, hh, h1, h2, h3, h4⟩
  · omega
  · refine ⟨g, cap, rfl, hg, (Array.getElem?_eq_some_iff.1 hh).1, fun j hj => ?_⟩
    have e1 : ((upto (fun j => ((c.getD j 0 : Nat) : Int)) c.length).map (Value.int .i64))[j]? = some (.int .i64 (c.getD j 0 : Nat)) := by simp [upto, hj]
    rw [← h4, List.getElem?_take] at e1
    split at e1
    · simp only [Array.getElem?_toList] at e1
      simp [World.cell?, hh, e1]
    · cases e1
end Go.Kn
