/- Contracts of functions that the laws of this seat call, or the evaluator of closed calls and its runs. Conditions: as each theorem states them. -/
import Derived.Test.YtddlghdglknloaaGreatDoorL4
set_option linter.unusedVariables false
set_option linter.unusedSimpArgs false
namespace Go.Kn
open Go Go.Proofs Go.RowKit

theorem al_frz2 {W : World} {n o : Nat} {cs : Array Value} {T : TypeId} (hn : W.heap.size = n) : (W.alloc (.cells cs T)).frozen? ⟨n, o, none⟩ = false := by
  subst hn
  simp

/-! the first of the shortest lists that are right -/
theorem lsL_cons (m x : Nat) (t : List Nat) : lsL (m + 1) (x :: t) = (lsL m t).map (x :: ·) ++ lsL (m + 1) t := by
  rw [lsL_succ, lsL_succ]
  by_cases h : m ≤ t.length
  · have e : (x :: t).length - m = (t.length - m) + 1 := by simp; omega
    rw [e, List.range_succ_eq_map, List.flatMap_cons, List.flatMap_map]
    rfl
  · have e1 : (x :: t).length - m = 0 := by simp; omega
    have e2 : t.length - m = 0 := by omega
    have e3 : lsL m t = [] := by
      rw [List.eq_nil_iff_forall_not_mem]
      intro L hL
      obtain ⟨h1, h2⟩ := (lsL_iff m t L).1 hL
      have := h1.length_le
      omega
    rw [e1, e2, e3]; rfl
theorem forL_len {t pre L : List Nat} (h : L ∈ forL pre t) : pre.length < L.length := by
  obtain ⟨r, rfl, _, hn⟩ := forL_sub t pre L h
  have : 0 < r.length := List.length_pos_iff.2 hn
  simp; omega
theorem forL_filter : ∀ (t pre : List Nat) (m : Nat), (forL pre t).filter (fun L => decide (L.length = pre.length + m + 1)) = (lsL (m + 1) t).map (pre ++ ·)
  | [], pre, m => by simp [forL, lsL]
  | x :: t, pre, m => by
    rw [forL, lsL_cons, List.map_append, List.filter_cons, List.filter_append, forL_filter t pre m]
    match m with
    | 0 =>
      have e : (forL (pre ++ [x]) t).filter (fun L => decide (L.length = pre.length + 0 + 1)) = [] := by
        rw [List.filter_eq_nil_iff]
        intro L hL
        have := forL_len hL
        simp at this ⊢; omega
      rw [e]
      simp [lsL]
    | m' + 1 =>
      have e : (forL (pre ++ [x]) t).filter (fun L => decide (L.length = pre.length + (m' + 1) + 1)) = (lsL (m' + 1) t).map ((pre ++ [x]) ++ ·) := by
        rw [← forL_filter t (pre ++ [x]) m']
        congr 1
        funext L
        simp only [List.length_append, List.length_cons, List.length_nil]
        congr 1
        simp only [eq_iff_iff]; omega
      rw [e]
      simp
theorem allLs_filter (l : List Nat) : ∀ m, (allLs l).filter (fun L => decide (L.length = m)) = lsL m l
  | 0 => by
    have e : (forL [] l).filter (fun L => decide (L.length = 0)) = [] := by
      rw [List.filter_eq_nil_iff]
      intro L hL
      have := forL_len hL
      simp at this ⊢
      intro h; subst h; simp at this
    unfold allLs
    rw [List.filter_cons, e]
    simp [lsL]
  | m + 1 => by
    have h := forL_filter l [] m
    simp only [List.length_nil, Nat.zero_add, List.nil_append, List.map_id'] at h
    unfold allLs
    rw [List.filter_cons, h]
    simp
/-- what is left of one more list -/
def betF (p : List Nat → Bool) (st : Option (List Nat)) (y : List Nat) : Option (List Nat) :=
  if p y then (match st with | none => some y | some x => if y.length < x.length then some y else st) else st
def bestF (p : List Nat → Bool) (Ls : List (List Nat)) : Option (List Nat) := Ls.foldl (betF p) none
theorem bestF_snoc (p : List Nat → Bool) (Ls : List (List Nat)) (y : List Nat) : bestF p (Ls ++ [y]) = betF p (bestF p Ls) y := by simp [bestF]
theorem bestF_is0 (p : List Nat → Bool) (R : List (List Nat)) : ∀ Ls, Ls = R.reverse → (bestF p Ls = none → ∀ y ∈ Ls, p y = false) ∧ ∀ x, bestF p Ls = some x → p x = true ∧ (∀ y ∈ Ls, p y = true → x.length ≤ y.length) ∧ Ls.find? (fun y => p y && decide (y.length = x.length)) = some x := by
  induction R with
  | nil => rintro Ls rfl; exact ⟨fun _ y h => by (cases h), fun x h => by cases h⟩
  | cons z R ih =>
    intro Ls' hLs
    obtain ⟨Ls, hR⟩ : ∃ Ls, Ls = R.reverse := ⟨_, rfl⟩
    obtain ⟨i1, i2⟩ := ih Ls hR
    rw [List.reverse_cons, ← hR] at hLs
    subst hLs
    rw [bestF_snoc]
    unfold betF
    cases hp : p z with
    | false =>
      rw [if_neg (by simp)]
      refine ⟨fun h y hy => ?_, fun x h => ?_⟩
      · rcases List.mem_append.1 hy with hy | hy
        · exact i1 h y hy
        · rw [List.mem_singleton.1 hy]; exact hp
      · obtain ⟨a, b, c⟩ := i2 x h
        refine ⟨a, fun y hy hpy => ?_, by rw [List.find?_append, c]; rfl⟩
        rcases List.mem_append.1 hy with hy | hy
        · exact b y hy hpy
        · rw [List.mem_singleton.1 hy, hp] at hpy; cases hpy
    | true =>
      rw [if_pos rfl]
      cases hb : bestF p Ls with
      | none =>
        refine ⟨fun h => (by cases h), fun x h => ?_⟩
        cases h
        have h1 := i1 hb
        refine ⟨hp, fun y hy hpy => ?_, ?_⟩
        · rcases List.mem_append.1 hy with hy | hy
          · rw [h1 y hy] at hpy; cases hpy
          · rw [List.mem_singleton.1 hy]; exact Nat.le_refl _
        · rw [List.find?_append, List.find?_eq_none.2 (fun y hy => by simp [h1 y hy])]
          simp [hp]
      | some x0 =>
        obtain ⟨a, b, c⟩ := i2 x0 hb
        dsimp only
        by_cases hlt : z.length < x0.length
        · rw [if_pos hlt]
          refine ⟨fun h => (by cases h), fun x h => ?_⟩
          cases h
          refine ⟨hp, fun y hy hpy => ?_, ?_⟩
          · rcases List.mem_append.1 hy with hy | hy
            · have := b y hy hpy; omega
            · rw [List.mem_singleton.1 hy]; exact Nat.le_refl _
          · rw [List.find?_append, List.find?_eq_none.2 (fun y hy => by
              cases hpy : p y with
              | false => simp
              | true => have := b y hy hpy; simp; omega)]
            simp [hp]
        · rw [if_neg hlt]
          refine ⟨fun h => (by cases h), fun x h => ?_⟩
          cases h
          refine ⟨a, fun y hy hpy => ?_, by rw [List.find?_append, c]; rfl⟩
          rcases List.mem_append.1 hy with hy | hy
          · exact b y hy hpy
          · rw [List.mem_singleton.1 hy]; omega
theorem bestF_is (p : List Nat → Bool) (Ls : List (List Nat)) : (bestF p Ls = none → ∀ y ∈ Ls, p y = false) ∧ ∀ x, bestF p Ls = some x → p x = true ∧ (∀ y ∈ Ls, p y = true → x.length ≤ y.length) ∧ Ls.find? (fun y => p y && decide (y.length = x.length)) = some x := bestF_is0 p Ls.reverse Ls (by simp)
theorem findSome_first {f : Nat → Option (List Nat)} {x : List Nat} {k : Nat} (hk : f k = some x) (h0 : ∀ j, j < k → f j = none) : ∀ N, k < N → (List.range N).findSome? f = some x
  | 0, h => by omega
  | N + 1, h => by
    rw [List.range_succ, List.findSome?_append]
    by_cases e : k = N
    · subst e
      have h1 : (List.range k).findSome? f = none := by
        rw [List.findSome?_eq_none_iff]
        intro j hj
        exact h0 j (List.mem_range.1 hj)
      rw [h1]; simp [hk]
    · rw [findSome_first hk h0 N (by omega)]; rfl
/-- the first of the shortest, gone through in either order -/
theorem bestF_shL (p : List Nat → Bool) (l : List Nat) : bestF p (allLs l) = (shL l).find? p := by
  obtain ⟨h1, h2⟩ := bestF_is p (allLs l)
  have hf : ∀ m, (lsL m l).find? p = (allLs l).find? (fun y => decide (y.length = m) && p y) := fun m => by
    rw [← allLs_filter, List.find?_filter]; congr 1; funext y; simp
  cases hb : bestF p (allLs l) with
  | none =>
    symm
    rw [List.find?_eq_none]
    intro L hL
    rw [h1 hb L (allLs_iff.2 (shL_iff.1 hL))]; simp
  | some x =>
    obtain ⟨a, b, c⟩ := h2 x hb
    have hx : x.length ≤ l.length := by
      have := List.mem_of_find?_eq_some c
      exact (allLs_iff.1 this).length_le
    symm
    unfold shL
    rw [List.find?_flatMap]
    refine findSome_first (k := x.length) ?_ ?_ _ (by omega)
    · rw [hf, ← c]
      congr 1; funext y; rw [Bool.and_comm]
    · intro j hj
      rw [hf, List.find?_eq_none]
      intro y hy
      cases hpy : p y with
      | false => simp
      | true => have := b y hy hpy; simp; omega
theorem cutL_best {lp : Nat} {P : Nat → P8} {lc : Nat} {C : Nat → C8} {op : Nat → Bool} {hi : Bool} : bestF (fun L => decide (spareV P lc C op hi L < 0)) (allLs (List.range lp)) = cutL lp P lc C op hi := bestF_shL _ _
end Go.Kn

namespace Go.Kn
open Go Go.Proofs Go.RowKit

set_option maxRecDepth 100000 in
set_option maxHeartbeats 1000000 in
theorem orNone_w (v : Value) (b : Bool) (w : World) :
    Calls Tryz.prog 65 #[v, .bool b] w fun e w' => e = .returned (.tuple #[if b then v else .slice none 0 0, .int .i64 (if b then 0 else 5)]) ∧ w' = w := by
  cases b with
  | true =>
    go_enter Tryz.func65, Tryz.ntmps65
    go_wp2
    exact bodyPost_ret (v := .tuple #[v, .int .i64 0]) (by simp [results, Tryz.results65, go_sem]) rfl ⟨by simp, rfl⟩
  | false =>
    go_enter Tryz.func65, Tryz.ntmps65
    go_wp2
    exact bodyPost_ret (v := .tuple #[.slice none 0 0, .int .i64 5]) (by simp [results, Tryz.results65, go_sem]) rfl ⟨by simp, rfl⟩
set_option maxRecDepth 100000 in
set_option maxHeartbeats 1000000 in
theorem s127_w (a b : Option Addr) (la ca lb cb : Nat) (w : World) :
    Calls Tryz.prog 127 #[.slice a la ca, .slice b lb cb] w fun e w' => e = .returned (.bool (decide (la < lb))) ∧ w' = w := by
  by_cases h : la < lb
  · have hd : decide (la < lb) = true := decide_eq_true h
    have n1 : (la : Int) < (lb : Int) := by omega
    rw [hd]
    clear hd h
    go_enter Tryz.func127, Tryz.ntmps127
    go_wp2
    go_ret
    first | exact ⟨rfl, rfl⟩ | simp
  · have hd : decide (la < lb) = false := decide_eq_false h
    have n1 : ¬ (la : Int) < (lb : Int) := by omega
    rw [hd]
    clear hd h
    go_enter Tryz.func127, Tryz.ntmps127
    go_wp2
    go_ret
    first | exact ⟨rfl, rfl⟩ | simp
end Go.Kn
