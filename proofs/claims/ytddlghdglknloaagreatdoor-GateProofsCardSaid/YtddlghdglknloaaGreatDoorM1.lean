/- Contracts of functions that the laws of this seat call, or the evaluator of closed calls and its runs. Conditions: as each theorem states them. -/
import Derived.Test.YtddlghdglknloaaGreatDoorL4
set_option linter.unusedVariables false
set_option linter.unusedSimpArgs false
namespace Go.Kn
open Go Go.Proofs Go.RowKit

theorem al_frz2 {W : World} {n o : Nat} {cs : Array Value} {T : TypeId} (hn : W.heap.size = n) : (W.alloc (.cells cs T)).frozen? ⟨n, o, none⟩ = false := by
  subst hn
  simp

/-! the first of the shortest lists that are right -/
theorem lsL_cons (m x : Nat) (t : List Nat) : lsL (m + 1) (x :: t) = (lsL m t).map (x :: ·) ++ lsL (m + 1) t := by
  rw [lsL_succ, lsL_succ]
  by_cases h : m ≤ t.length
  · have e : (x :: t).length - m = (t.length - m) + 1 := by simp; omega
    rw [e, List.range_succ_eq_map, List.flatMap_cons, List.flatMap_map]
    rfl
  · have e1 : (x :: t).length - m = 0 := by simp; omega
    have e2 : t.length - m = 0 := by omega
    have e3 : lsL m t = [] := by
      rw [List.eq_nil_iff_forall_not_mem]
      intro L hL
      obtain ⟨h1, h2⟩ := (lsL_iff m t L).1 hL
      have := h1.length_le
      omega
    rw [e1, e2, e3]; rfl
theorem forL_len {t pre L : List Nat} (h : L ∈ forL pre t) : pre.length < L.length := by
  obtain ⟨r, rfl, _, hn⟩ := forL_sub t pre L h
  have : 0 < r.length := List.length_pos_iff.2 hn
  simp; omega
theorem forL_filter : ∀ (t pre : List Nat) (m : Nat), (forL pre t).filter (fun L => decide (L.length = pre.length + m + 1)) = (lsL (m + 1) t).map (pre ++ ·)
  | [], pre, m => by simp [forL, lsL]
  | x :: t, pre, m => by
    rw [forL, lsL_cons, List.map_append, List.filter_cons, List.filter_append, forL_filter t pre m]
    match m with
    | 0 =>
      have e : (forL (pre ++ [x]) t).filter (fun L => decide (L.length = pre.length + 0 + 1)) = [] := by
        rw [List.filter_eq_nil_iff]
        intro L hL
        have := forL_len hL
        simp at this ⊢; omega
      rw [e]
      simp [lsL]
    | m' + 1 =>
      have e : (forL (pre ++ [x]) t).filter (fun L => decide (L.length = pre.length + (m' + 1) + 1)) = (lsL (m' + 1) t).map ((pre ++ [x]) ++ ·) := by
        rw [← forL_filter t (pre ++ [x]) m']
        congr 1
        funext L
        simp only [List.length_append, List.length_cons, List.length_nil]
        congr 1
        simp only [eq_iff_iff]; omega
      rw [e]
      simp
theorem allLs_filter (l : List Nat) : ∀ m, (allLs l).filter (fun L => decide (L.length = m)) = lsL m l
  | 0 => by
    have e : (forL [] l).filter (fun L => decide (L.length = 0)) = [] := by
      rw [List.filter_eq_nil_iff]
      intro L hL
      have := forL_len hL
      simp at this ⊢
      intro h; subst h; simp at this
    unfold allLs
    rw [List.filter_cons, e]
    simp [lsL]
  | m + 1 => by
    have h := forL_filter l [] m
    simp only [List.length_nil, Nat.zero_add, List.nil_append, List.map_id'] at h
    unfold allLs
    rw [List.filter_cons, h]
    simp
/-- what is left of one more list -/
def betF (p : List Nat → Bool) (st : Option (List Nat)) (y : List Nat) : Option (List Nat) :=
  if p y then (match st with | none => some y | some x => if y.length < x.length then some y else st) else st
def bestF (p : List Nat → Bool) (Ls : List (List Nat)) : Option (List Nat) := Ls.foldl (betF p) none
theorem bestF_snoc (p : List Nat → Bool) (Ls : List (List Nat)) (y : List Nat) : bestF p (Ls ++ [y]) = betF p (bestF p Ls) y := by simp [bestF]
theorem bestF_is0 (p : List Nat → Bool) (R : List (List Nat)) : ∀ Ls, Ls = R.reverse → (bestF p Ls = none → ∀ y ∈ Ls, p y = false) ∧ ∀ x, bestF p Ls = some x → p x = true ∧ (∀ y ∈ Ls, p y = true → x.length ≤ y.length) ∧ Ls.find? (fun y => p y && decide (y.length = x.length)) = some x := by
  induction R with
  | nil => rintro Ls rfl; exact ⟨fun _ y h => by (cases h), fun x h => by cases h⟩
  | cons z R ih =>
    intro Ls' hLs
    obtain ⟨Ls, hR⟩ : ∃ Ls, Ls = R.reverse := ⟨_, rfl⟩
    obtain ⟨i1, i2⟩ := ih Ls hR
    rw [List.reverse_cons, ← hR] at hLs
    subst hLs
    rw [bestF_snoc]
    unfold betF
    cases hp : p z with
    | false =>
      rw [if_neg (by simp)]
      refine ⟨fun h y hy => ?_, fun x h => ?_⟩
      · rcases List.mem_append.1 hy with hy | hy
        · exact i1 h y hy
        · rw [List.mem_singleton.1 hy]; exact hp
      · obtain ⟨a, b, c⟩ := i2 x h
        refine ⟨a, fun y hy hpy => ?_, by rw [List.find?_append, c]; rfl⟩
        rcases List.mem_append.1 hy with hy | hy
        · exact b y hy hpy
        · rw [List.mem_singleton.1 hy, hp] at hpy; cases hpy
    | true =>
      rw [if_pos rfl]
      cases hb : bestF p Ls with
      | none =>
        refine ⟨fun h => (by cases h), fun x h => ?_⟩
        cases h
        have h1 := i1 hb
        refine ⟨hp, fun y hy hpy => ?_, ?_⟩
        · rcases List.mem_append.1 hy with hy | hy
          · rw [h1 y hy] at hpy; cases hpy
          · rw [List.mem_singleton.1 hy]; exact Nat.le_refl _
        · rw [List.find?_append, List.find?_eq_none.2 (fun y hy => by simp [h1 y hy])]
          simp [hp]
      | some x0 =>
        obtain ⟨a, b, c⟩ := i2 x0 hb
        dsimp only
        by_cases hlt : z.length < x0.length
        · rw [if_pos hlt]
          refine ⟨fun h => (by cases h), fun x h => ?_⟩
          cases h
          refine ⟨hp, fun y hy hpy => ?_, ?_⟩
          · rcases List.mem_append.1 hy with hy | hy
            · have := b y hy hpy; omega
            · rw [List.mem_singleton.1 hy]; exact Nat.le_refl _
          · rw [List.find?_append, List.find?_eq_none.2 (fun y hy => by
              cases hpy : p y with
              | false => simp
              | true => have := b y hy hpy; simp; omega)]
            simp [hp]
        · rw [if_neg hlt]
          refine ⟨fun h => (by cases h), fun x h => ?_⟩
          cases h
          refine ⟨a, fun y hy hpy => ?_, by rw [List.find?_append, c]; rfl⟩
          rcases List.mem_append.1 hy with hy | hy
          · exact b y hy hpy
          · rw [List.mem_singleton.1 hy]; omega
theorem bestF_is (p : List Nat → Bool) (Ls : List (List Nat)) : (bestF p Ls = none → ∀ y ∈ Ls, p y = false) ∧ ∀ x, bestF p Ls = some x → p x = true ∧ (∀ y ∈ Ls, p y = true → x.length ≤ y.length) ∧ Ls.find? (fun y => p y && decide (y.length = x.length)) = some x := bestF_is0 p Ls.reverse Ls (by simp)
theorem findSome_first {f : Nat → Option (List Nat)} {x : List Nat} {k : Nat} (hk : f k = some x) (h0 : ∀ j, j < k → f j = none) : ∀ N, k < N → (List.range N).findSome? f = some x
  | 0, h => by omega
  | N + 1, h => by
    rw [List.range_succ, List.findSome?_append]
    by_cases e : k = N
    · subst e
      have h1 : (List.range k).findSome? f = none := by
        rw [List.findSome?_eq_none_iff]
        intro j hj
        exact h0 j (List.mem_range.1 hj)
      rw [h1]; simp [hk]
    · rw [findSome_first hk h0 N (by omega)]; rfl
/-- the first of the shortest, gone through in either order -/
theorem bestF_shL (p : List Nat → Bool) (l : List Nat) : bestF p (allLs l) = (shL l).find? p := by
  obtain ⟨h1, h2⟩ := bestF_is p (allLs l)
  have hf : ∀ m, (lsL m l).find? p = (allLs l).find? (fun y => decide (y.length = m) && p y) := fun m => by
    rw [← allLs_filter, List.find?_filter]; congr 1; funext y; simp
  cases hb : bestF p (allLs l) with
  | none =>
    symm
    rw [List.find?_eq_none]
    intro L hL
    rw [h1 hb L (allLs_iff.2 (shL_iff.1 hL))]; simp
  | some x =>
    obtain ⟨a, b, c⟩ := h2 x hb
    have hx : x.length ≤ l.length := by
      have := List.mem_of_find?_eq_some c
      exact (allLs_iff.1 this).length_le
    symm
    unfold shL
    rw [List.find?_flatMap]
    refine findSome_first (k := x.length) ?_ ?_ _ (by omega)
    · rw [hf, ← c]
      congr 1; funext y; rw [Bool.and_comm]
    · intro j hj
      rw [hf, List.find?_eq_none]
      intro y hy
      cases hpy : p y with
      | false => simp
      | true => have := b y hy hpy; simp; omega
theorem cutL_best {lp : Nat} {P : Nat → P8} {lc : Nat} {C : Nat → C8} {op : Nat → Bool} {hi : Bool} : bestF (fun L => decide (spareV P lc C op hi L < 0)) (allLs (List.range lp)) = cutL lp P lc C op hi := bestF_shL _ _
end Go.Kn

namespace Go.Kn
open Go Go.Proofs Go.RowKit

set_option maxRecDepth 100000 in
set_option maxHeartbeats 1000000 in
theorem orNone_w (v : Value) (b : Bool) (w : World) :
    Calls Tryz.prog 65 #[v, .bool b] w fun e w' => e = .returned (.tuple #[if b then v else .slice none 0 0, .int .i64 (if b then 0 else 5)]) ∧ w' = w := by
  cases b with
  | true =>
    go_enter Tryz.func65, Tryz.ntmps65
    go_wp2
    exact bodyPost_ret (v := .tuple #[v, .int .i64 0]) (by simp [results, Tryz.results65, go_sem]) rfl ⟨by simp, rfl⟩
  | false =>
    go_enter Tryz.func65, Tryz.ntmps65
    go_wp2
    exact bodyPost_ret (v := .tuple #[.slice none 0 0, .int .i64 5]) (by simp [results, Tryz.results65, go_sem]) rfl ⟨by simp, rfl⟩
set_option maxRecDepth 100000 in
set_option maxHeartbeats 1000000 in
theorem s127_w (a b : Option Addr) (la ca lb cb : Nat) (w : World) :
    Calls Tryz.prog 127 #[.slice a la ca, .slice b lb cb] w fun e w' => e = .returned (.bool (decide (la < lb))) ∧ w' = w := by
  by_cases h : la < lb
  · have hd : decide (la < lb) = true := decide_eq_true h
    have n1 : (la : Int) < (lb : Int) := by omega
    rw [hd]
    clear hd h
    go_enter Tryz.func127, Tryz.ntmps127
    go_wp2
    go_ret
    first | exact ⟨rfl, rfl⟩ | simp
  · have hd : decide (la < lb) = false := decide_eq_false h
    have n1 : ¬ (la : Int) < (lb : Int) := by omega
    rw [hd]
    clear hd h
    go_enter Tryz.func127, Tryz.ntmps127
    go_wp2
    go_ret
    first | exact ⟨rfl, rfl⟩ | simp
set_option maxRecDepth 100000 in
set_option maxHeartbeats 2000000 in
/-- firstCut's right: the list has less than nothing to spare -/
theorem s116_w (pa ca sa : Option Addr) (lp cp lc cc m sc ob : Nat) (P : Nat → P8) (C : Nat → C8) (op : Nat → Bool) (L : List Nat) (w : World) (HB : Hid (NetB lp P lc C)) (hl : L.length = m) (hm : m ≤ 20) (hL : Hid (∀ y ∈ L, y < lp)) (H : Hid (Ne8 w pa ca lp lc P C)) (HO : Hid (B12 w ob pa ca lp cp lc cc op)) (HS : Hid (IntSl w sa m (lgI L))) :
    Calls Tryz.prog 116 #[.slice sa m sc, .pointer (some ⟨ob, 0, none⟩)] w fun r w' => r = .returned (.bool (decide (spareV P lc C op false L < 0))) ∧ Below w.heap.size w w' := by
  have HG := Lib.hid (spare_w pa ca sa lp cp lc cc m sc P C op false L w HB hl hm hL H HS)
  simp only [Bool.false_eq_true, if_false] at HG
  simp only [opC] at HG
  obtain ⟨x0, x1, x2, x3, x4, x5, x6, x7, x8, x9, x10, x11, _⟩ := HO.out
  obtain ⟨v, hv⟩ : ∃ v, spareV P lc C op false L = v := ⟨_, rfl⟩
  rw [hv] at HG ⊢
  clear hv
  by_cases h : v < 0
  · have hd : decide (v < 0) = true := decide_eq_true h
    rw [hd]
    clear hd
    go_enter Tryz.func116, Tryz.ntmps116
    go_wp2_with (go_at_call 74; refine HG.out.mono ?_; rintro r w2 ⟨rfl, hb⟩)
    go_ret
    exact ⟨by first | rfl | simp [h], hb⟩
  · have hd : decide (v < 0) = false := decide_eq_false h
    rw [hd]
    clear hd
    go_enter Tryz.func116, Tryz.ntmps116
    go_wp2_with (go_at_call 74; refine HG.out.mono ?_; rintro r w2 ⟨rfl, hb⟩)
    go_ret
    exact ⟨by first | rfl | simp [h], hb⟩

set_option maxRecDepth 100000 in
set_option maxHeartbeats 2000000 in
theorem cut_bad (pa ca sa : Option Addr) (lp cp lc cc m sc : Nat) (P : Nat → P8) (C : Nat → C8) (s : Nat → Int) (w : World) (hlp : lp ≤ 1000000) (hlc : lc ≤ 1000000) (hm : m ≤ 1000000) (H : Hid (Ne8 w pa ca lp lc P C)) (HO : Hid (IntSl w sa m s)) (hq : fedQ lp P lc C s m = false) :
    Calls Tryz.prog 24 #[.agg #[.slice pa lp cp, .slice ca lc cc], .slice sa m sc] w fun e w' => e = .returned (.tuple #[.slice none 0 0, .int .i64 2]) ∧ Below w.heap.size w w' := by
  obtain ⟨W0, hW0⟩ : ∃ W0, W0 = w.alloc (.cells #[.slice pa lp cp, .slice ca lc cc] 25) := ⟨_, rfl⟩
  have hA : Below w.heap.size w W0 := by rw [hW0]; exact (Below.refl _ _).alloc (Nat.le_refl _) _
  have HF : Hid (∀ w2, Below W0.heap.size W0 w2 → w2.cell? ⟨w.heap.size, 0, none⟩ = some (.slice pa lp cp) ∧ w2.cell? ⟨w.heap.size, 1, none⟩ = some (.slice ca lc cc)) := Lib.hid fun w2 h => by
    rw [hW0] at h
    exact ⟨(box_cells h).1, (box_cells h).2.1⟩
  have HN : Hid (∀ w2, Below W0.heap.size W0 w2 → Hid (Ne8 w2 pa ca lp lc P C)) := Lib.hid fun w2 h => Lib.hid (H.out.below (hA.trans (h.mono hA.size)))
  have HOS : Hid (∀ w2, Below W0.heap.size W0 w2 → Hid (IntSl w2 sa m s)) := Lib.hid fun w2 h => Lib.hid (HO.out.below (hA.trans (h.mono hA.size)))
  have H1 : Hid (Calls Tryz.prog 56 #[.agg #[.slice pa lp cp, .slice ca lc cc]] W0 fun e w' => e = .returned (.bool (netV lp P lc C)) ∧ Below W0.heap.size W0 w') := Lib.hid (isNet_w pa ca lp cp lc cc P C W0 hlp hlc (HN.out _ (Below.refl _ _)))
  have H2 : Hid (∀ w2, Below W0.heap.size W0 w2 → Calls Tryz.prog 57 #[.agg #[.slice pa lp cp, .slice ca lc cc], .slice sa m sc] w2 fun e w' => e = .returned (.bool (gatsB lc C s m)) ∧ Below w2.heap.size w2 w') := Lib.hid fun w2 h => areGates_w pa ca sa lp cp lc cc m sc P C s w2 hlc hm (HN.out _ h) (HOS.out _ h)
  have HA := Lib.hid hA
  obtain ⟨f0, f1⟩ := HF.out _ (Below.refl _ _)
  rw [hW0] at f0 f1
  unfold fedQ at hq
  obtain ⟨q1, hq1⟩ : ∃ q, netV lp P lc C = q := ⟨_, rfl⟩
  obtain ⟨q2, hq2⟩ : ∃ q, gatsB lc C s m = q := ⟨_, rfl⟩
  rw [hq1] at H1 hq
  rw [hq2] at H2 hq
  clear hA H HO hq1 hq2
  cases q1 with
  | false =>
    clear hq
    go_enter Tryz.func24, Tryz.ntmps24
    go_wp2_with (go_at_call 56; rw [← hW0]; refine H1.out.mono ?_; rintro e w5 ⟨rfl, hv⟩)
    exact bodyPost_ret (v := .tuple #[.slice none 0 0, .int .i64 2]) (by simp [results, Tryz.results24, go_sem]) rfl ⟨rfl, HA.out.trans (hv.mono HA.out.size)⟩
  | true =>
    obtain rfl : q2 = false := by simpa using hq
    clear hq
    go_enter Tryz.func24, Tryz.ntmps24
    go_wp2_with (first
      | (go_at_call 56; rw [← hW0]; refine H1.out.mono ?_; rintro e w5 ⟨rfl, hv⟩; clear hW0 f0 f1; have HV5 := Lib.hid hv; obtain ⟨g0, g1⟩ := HF.out _ hv; clear hv)
      | (go_at_call 57; refine (H2.out _ HV5.out).mono ?_; rintro e w6 ⟨rfl, hv⟩; have HV6 := Lib.hid (HV5.out.trans (hv.mono HV5.out.size)); clear hv))
    exact bodyPost_ret (v := .tuple #[.slice none 0 0, .int .i64 2]) (by simp [results, Tryz.results24, go_sem]) rfl ⟨rfl, HA.out.trans (HV6.out.mono HA.out.size)⟩
end Go.Kn
