/- Walks of functions of layer 2 (contracts that the laws of this seat use). Conditions: as each theorem states them. -/
import Derived.Test.YtgjgcgonibldmaaGreatDoorFP
import Derived.Test.YtgjgcgonibldmaaGreatDoorFR
set_option linter.unusedVariables false
set_option linter.unusedSimpArgs false
namespace Go.Kn

/-- a list that is a plan: years where it is due, no two alike; -1 where it isn't -/
def PlanOk (n : Nat) (du : Nat → Bool) (la q : Nat → Int) : Prop :=
  ∀ i, i < n → (du i = false → q i = -1) ∧ (du i = true → 0 ≤ q i ∧ q i ≤ la i) ∧ ∀ k, k < i → 0 ≤ q i → q k ≠ q i

/-- the sum of the years of a plan, up to a stretch -/
def sumM (q : Nat → Int) : Nat → Int
  | 0 => 0
  | k + 1 => sumM q k + max 0 (q k)

theorem mem_lst {du : Nat → Bool} {q : Nat → Int} {x : Int} : ∀ {n : Nat}, x ∈ lst du q n ↔ ∃ j, j < n ∧ du j = true ∧ q j = x
  | 0 => by simp [lst]
  | n + 1 => by
    cases h : du n
    · rw [lst_f q h, mem_lst]
      refine ⟨fun ⟨j, a, b, c⟩ => ⟨j, by omega, b, c⟩, fun ⟨j, a, b, c⟩ => ⟨j, ?_, b, c⟩⟩
      rcases Nat.lt_or_eq_of_le (Nat.lt_succ_iff.mp a) with h' | rfl
      · exact h'
      · rw [h] at b; cases b
    · rw [lst_t q h, List.mem_append, List.mem_singleton, mem_lst]
      refine ⟨fun hh => ?_, fun ⟨j, a, b, c⟩ => ?_⟩
      · rcases hh with ⟨j, a, b, c⟩ | rfl
        · exact ⟨j, by omega, b, c⟩
        · exact ⟨n, by omega, h, rfl⟩
      · rcases Nat.lt_or_eq_of_le (Nat.lt_succ_iff.mp a) with h' | rfl
        · exact .inl ⟨j, h', b, c⟩
        · exact .inr c.symm

theorem planOk_asg {n : Nat} {du : Nat → Bool} {la q : Nat → Int} (h : PlanOk n du la q) : Asg (lst du la n) [] (lst du q n) := by
  suffices H : ∀ k, k ≤ n → Fit (lst du la k) (lst du q k) ∧ (lst du q k).Nodup from ⟨(H n (Nat.le_refl _)).1, (H n (Nat.le_refl _)).2, fun x _ hx => by cases hx⟩
  intro k
  induction k with
  | zero => intro _; exact ⟨trivial, List.nodup_nil⟩
  | succ k ih =>
    intro hk
    obtain ⟨i1, i2⟩ := ih (by omega)
    obtain ⟨h1, h2, h3⟩ := h k (by omega)
    cases hd : du k
    · rw [lst_f la hd, lst_f q hd]; exact ⟨i1, i2⟩
    · obtain ⟨a, b⟩ := h2 hd
      rw [lst_t la hd, lst_t q hd]
      refine ⟨fit_snoc i1 a b, List.nodup_append.mpr ⟨i2, by simp, fun x hx y hy => ?_⟩⟩
      rw [List.mem_singleton] at hy
      subst hy
      obtain ⟨j, hj, _, rfl⟩ := mem_lst.mp hx
      exact h3 j hj a

theorem sumL_snoc (a : List Int) (x : Int) : sumL (a ++ [x]) = sumL a + x := by
  induction a with
  | nil => simp [sumL]
  | cons y l ih => simp only [List.cons_append, sumL, ih]; omega

theorem planOk_sum {n : Nat} {du : Nat → Bool} {la q : Nat → Int} (h : PlanOk n du la q) : ∀ k, k ≤ n → sumM q k = sumL (lst du q k)
  | 0, _ => rfl
  | k + 1, hk => by
    have ih := planOk_sum h k (by omega)
    obtain ⟨h1, h2, h3⟩ := h k (by omega)
    cases hd : du k
    · rw [lst_f q hd, sumM, ih, h1 hd]; omega
    · obtain ⟨a, b⟩ := h2 hd
      rw [lst_t q hd, sumL_snoc, sumM, ih]; omega

theorem fit_last : ∀ {a b : List Int} {d y : Int}, a.length = b.length → Fit (a ++ [d]) (b ++ [y]) → Fit a b ∧ 0 ≤ y ∧ y ≤ d
  | [], [], _, _, _, h => ⟨trivial, h.1, h.2.1⟩
  | [], _ :: _, _, _, hl, _ => by simp at hl
  | _ :: _, [], _, _, hl, _ => by simp at hl
  | a :: ar, b :: bs, d, y, hl, h => by
    obtain ⟨h1, h2, h3⟩ := h
    obtain ⟨h4, h5⟩ := fit_last (by simpa using hl) h3
    exact ⟨⟨h1, h2, h4⟩, h5⟩

theorem lst_plF {du : Nat → Bool} {out : List Int} {n : Nat} (hl : out.length = cnt du n) : ∀ k, k ≤ n → lst du (plF du out (cnt du n)) k = out.take (cnt du k)
  | 0, _ => by simp [lst, cnt]
  | k + 1, hk => by
    have ih := lst_plF hl k (by omega)
    cases hd : du k
    · rw [lst_f _ hd, cnt_f hd, ih]
    · have hc : cnt du k < cnt du n := cnt_lt (by omega) hd
      rw [lst_t _ hd, cnt_t hd, ih]
      have hp : plF du out (cnt du n) k = out.getD (cnt du k) 0 := by unfold plF; rw [if_pos ⟨hd, hc⟩]
      rw [hp, List.take_add_one]
      congr 1
      rw [List.getD_eq_getElem?_getD, List.getElem?_eq_getElem (by omega)]
      simp

theorem fit_at {du : Nat → Bool} {la q : Nat → Int} : ∀ {n : Nat}, Fit (lst du la n) (lst du q n) → ∀ i, i < n → du i = true → 0 ≤ q i ∧ q i ≤ la i
  | 0, _, i, hi, _ => by omega
  | n + 1, h, i, hi, hd => by
    cases hn : du n
    · rw [lst_f la hn, lst_f q hn] at h
      rcases Nat.lt_or_eq_of_le (Nat.lt_succ_iff.mp hi) with h' | rfl
      · exact fit_at h i h' hd
      · rw [hn] at hd; cases hd
    · rw [lst_t la hn, lst_t q hn] at h
      obtain ⟨h1, h2⟩ := fit_last (by rw [lst_len, lst_len]) h
      rcases Nat.lt_or_eq_of_le (Nat.lt_succ_iff.mp hi) with h' | rfl
      · exact fit_at h1 i h' hd
      · exact h2

theorem nodup_at {du : Nat → Bool} {q : Nat → Int} : ∀ {n : Nat}, (lst du q n).Nodup → ∀ i, i < n → du i = true → ∀ k, k < i → du k = true → q k ≠ q i
  | 0, _, i, hi, _, _, _, _ => by omega
  | n + 1, h, i, hi, hd, k, hk, hdk => by
    cases hn : du n
    · rw [lst_f q hn] at h
      rcases Nat.lt_or_eq_of_le (Nat.lt_succ_iff.mp hi) with h' | rfl
      · exact nodup_at h i h' hd k hk hdk
      · rw [hn] at hd; cases hd
    · rw [lst_t q hn, List.nodup_append] at h
      obtain ⟨h1, _, h2⟩ := h
      rcases Nat.lt_or_eq_of_le (Nat.lt_succ_iff.mp hi) with h' | rfl
      · exact nodup_at h1 i h' hd k hk hdk
      · exact h2 _ (mem_lst.mpr ⟨k, hk, hdk, rfl⟩) _ (List.mem_singleton.mpr rfl)

theorem plF_ok {n : Nat} {du : Nat → Bool} {la : Nat → Int} {out : List Int} (h : Asg (lst du la n) [] out) : PlanOk n du la (plF du out (cnt du n)) := by
  have hl : out.length = cnt du n := by rw [h.1.len, lst_len]
  have he : lst du (plF du out (cnt du n)) n = out := by rw [lst_plF hl n (Nat.le_refl _), ← hl, List.take_length]
  obtain ⟨h1, h2, _⟩ := h
  rw [← he] at h1 h2
  intro i hi
  have hno : ∀ k, du k = false → plF du out (cnt du n) k = -1 := fun k hk => plF_not hk out _
  refine ⟨hno i, fit_at h1 i hi, fun k hk h0 => ?_⟩
  cases hdi : du i
  · rw [hno i hdi] at h0; omega
  · cases hdk : du k
    · rw [hno k hdk]; omega
    · exact nodup_at h2 i hi hdi k hk hdk

theorem plF_lst {n : Nat} {du : Nat → Bool} {la : Nat → Int} {out : List Int} (h : Asg (lst du la n) [] out) : lst du (plF du out (cnt du n)) n = out := by
  have hl : out.length = cnt du n := by rw [h.1.len, lst_len]
  rw [lst_plF hl n (Nat.le_refl _), ← hl, List.take_length]

/-- one list of numbers comes before another one -/
def befP (n : Nat) (a b : Nat → Int) : Prop := ∃ i, i < n ∧ (∀ k, k < i → a k = b k) ∧ a i < b i

theorem lst_at {du : Nat → Bool} (a : Nat → Int) {i : Nat} (hd : du i = true) : ∀ n, i < n → ∃ r, lst du a n = lst du a i ++ a i :: r
  | 0, h => by omega
  | n + 1, h => by
    rcases Nat.lt_or_eq_of_le (Nat.lt_succ_iff.mp h) with h' | rfl
    · obtain ⟨r, hr⟩ := lst_at a hd n h'
      cases hn : du n
      · exact ⟨r, by rw [lst_f a hn, hr]⟩
      · exact ⟨r ++ [a n], by rw [lst_t a hn, hr]; simp⟩
    · exact ⟨[], by rw [lst_t a hd]⟩

theorem lst_same {du : Nat → Bool} {a b : Nat → Int} : ∀ n, (∀ k, k < n → a k = b k) → lst du a n = lst du b n
  | 0, _ => rfl
  | n + 1, h => by
    have ih := lst_same (du := du) n (fun k hk => h k (by omega))
    cases hn : du n
    · rw [lst_f a hn, lst_f b hn, ih]
    · rw [lst_t a hn, lst_t b hn, ih, h n (by omega)]

theorem lexlt_app : ∀ (c : List Int) {x y : Int} (r r' : List Int), x < y → lexlt (c ++ x :: r) (c ++ y :: r')
  | [], _, _, _, _, h => .inl h
  | _ :: c, _, _, r, r', h => .inr ⟨rfl, lexlt_app c r r' h⟩

theorem bef_lex {n : Nat} {du : Nat → Bool} {la a b : Nat → Int} (ha : PlanOk n du la a) (hb : PlanOk n du la b) (h : befP n a b) : lexlt (lst du a n) (lst du b n) := by
  obtain ⟨i, hi, hs, hlt⟩ := h
  have hd : du i = true := by
    cases hdi : du i
    · rw [(ha i hi).1 hdi, (hb i hi).1 hdi] at hlt; omega
    · rfl
  obtain ⟨r, hr⟩ := lst_at a hd n hi
  obtain ⟨r', hr'⟩ := lst_at b hd n hi
  rw [hr, hr', lst_same i hs]
  exact lexlt_app _ r r' hlt

/-- what the law asks of the plan that is returned -/
theorem plan_best {n : Nat} {du : Nat → Bool} {la : Nat → Int} {ys out : List Int} (hg : Greedy (lst du la n) [] ys) (hp : Pl (lst du la n) ys out) :
    PlanOk n du la (plF du out (cnt du n)) ∧ ∀ q, PlanOk n du la q → sumM q n < sumM (plF du out (cnt du n)) n ∨ sumM q n = sumM (plF du out (cnt du n)) n ∧ ¬ befP n q (plF du out (cnt du n)) := by
  have ho := greedy_opt hg
  obtain ⟨h1, h2, h3⟩ := Pl.best ho hp
  have hok := plF_ok h1
  refine ⟨hok, fun q hq => ?_⟩
  have e1 := planOk_sum hok n (Nat.le_refl _)
  rw [plF_lst h1] at e1
  have e2 := planOk_sum hq n (Nat.le_refl _)
  have hle := (ho.2 _ (planOk_asg hq)).1
  have hs := sumL_perm h2
  rcases Int.lt_or_eq_of_le hle with h | h
  · exact .inl (by omega)
  · refine .inr ⟨by omega, fun hb => ?_⟩
    have := bef_lex hq hok hb
    rw [plF_lst h1] at this
    exact h3 _ (planOk_asg hq) h this

theorem plan_none {n : Nat} {du : Nat → Bool} {la : Nat → Int} (h : NoYears (lst du la n) []) (q : Nat → Int) : ¬ PlanOk n du la q :=
  fun hq => noyears_no h _ (planOk_asg hq)

end Go.Kn

namespace Go.Kn
open Go Go.Proofs Go.RowKit

theorem sum_bd {q : Nat → Int} : ∀ {n : Nat}, (∀ i, i < n → q i ≤ 40) → 0 ≤ sumM q n ∧ sumM q n ≤ 40 * (n : Int)
  | 0, _ => by simp [sumM]
  | n + 1, h => by
    have h1 := sum_bd (n := n) (fun i hi => h i (by omega))
    have h2 := h n (by omega)
    simp only [sumM]
    omega

set_option maxRecDepth 100000 in
set_option maxHeartbeats 1000000 in
theorem psum_w (p : Option Addr) (n c : Nat) (q : Nat → Int) (w : World) (hn : n ≤ 10) (hq : Hid (∀ i, i < n → q i ≤ 40)) (H : Hid (IntSl w p n q)) :
    Calls Tryz.prog 21 #[.slice p n c] w fun e w' => e = .returned (.int .i64 (sumM q n)) ∧ Below w.heap.size w w' := by
  go_enter Tryz.func21, Tryz.ntmps21
  go_wp2
  go_loopw [3, 4] (fun a i wr => ∃ k : Nat, k ≤ n ∧ i = .int .i64 k ∧ a = .int .i64 (sumM q k) ∧ Below w.heap.size w wr) (fun _ i _ => n - (intOf i).toNat)
  case atStart => exact ⟨0, Nat.zero_le _, rfl, rfl, Below.refl _ _⟩
  case round =>
    obtain ⟨k, hk, rfl, rfl, hbw⟩ := hrel
    have hs := sum_bd (q := q) (n := k) (fun i hi => hq.out i (by omega))
    by_cases hlt : k < n
    · obtain ⟨A, O, rfl, hA, h1⟩ := H.out.resolve_left (by omega)
      have y0 := (h1.below hA hbw) k hlt
      have hz := hq.out k hlt
      have hsm : sumM q (k + 1) = sumM q k + max 0 (q k) := rfl
      have HSM := Lib.hid hsm
      clear h1 hsm
      have n1 : (0 : Int) ≤ (k : Int) := by omega
      have n2 : (k : Int) < (n : Int) := by omega
      obtain ⟨z, hzz⟩ : ∃ z, q k = z := ⟨_, rfl⟩
      rw [hzz] at y0 hz HSM
      obtain ⟨u, hu⟩ : ∃ u, sumM q k = u := ⟨_, rfl⟩
      rw [hu] at hs HSM ⊢
      clear hzz
      by_cases h0 : 0 < z
      · go_wp2
        go_roundw
        case rel => exact ⟨k + 1, by omega, by go_num, by rw [HSM.out]; congr 1; omega, hbw⟩
        case measure => simp [intOf]; omega
      · go_wp2
        go_roundw
        case rel => exact ⟨k + 1, by omega, by go_num, by rw [HSM.out]; congr 1; omega, hbw⟩
        case measure => simp [intOf]; omega
    · obtain rfl : k = n := by omega
      go_wp2
      go_ret
      exact ⟨rfl, hbw⟩

set_option maxRecDepth 100000 in
set_option maxHeartbeats 1000000 in
theorem pbefore_w (p p' : Option Addr) (n c c' : Nat) (a b : Nat → Int) (w : World) (hn : n ≤ 10) (H : Hid (IntSl w p n a)) (H' : Hid (IntSl w p' n b)) :
    Calls Tryz.prog 22 #[.slice p n c, .slice p' n c'] w fun e w' => (∃ bb, e = .returned (.bool bb) ∧ (bb = true → befP n a b)) ∧ Below w.heap.size w w' := by
  go_enter Tryz.func22, Tryz.ntmps22
  go_wp2
  go_loopw [5] (fun i wr => ∃ k : Nat, k ≤ n ∧ i = .int .i64 k ∧ Hid (∀ j, j < k → a j = b j) ∧ Below w.heap.size w wr) (fun i _ => n - (intOf i).toNat)
  case atStart => exact ⟨0, Nat.zero_le _, rfl, Lib.hid (fun j hj => absurd hj (by omega)), Below.refl _ _⟩
  case round =>
    obtain ⟨k, hk, rfl, hall, hbw⟩ := hrel
    by_cases hlt : k < n
    · obtain ⟨A, O, rfl, hA, h1⟩ := H.out.resolve_left (by omega)
      obtain ⟨B, U, rfl, hB, h2⟩ := H'.out.resolve_left (by omega)
      have y0 := (h1.below hA hbw) k hlt
      have y1 := (h2.below hB hbw) k hlt
      clear h1 h2
      have n1 : (0 : Int) ≤ (k : Int) := by omega
      have n2 : (k : Int) < (n : Int) := by omega
      obtain ⟨x, hx⟩ : ∃ x, a k = x := ⟨_, rfl⟩
      obtain ⟨y, hy⟩ : ∃ y, b k = y := ⟨_, rfl⟩
      rw [hx] at y0
      rw [hy] at y1
      by_cases he : x = y
      · subst he
        go_wp2
        go_quiet (fail)
        go_wp2
        go_roundw
        case rel => exact ⟨k + 1, by omega, by go_num, Lib.hid (fun j hj => by
          by_cases e : j = k
          · rw [e, hx, hy]
          · exact hall.out j (by omega)), below_drewM hbw _⟩
        case measure => simp [intOf]; omega
      · have heb : (x == y) = false := by simp [he]
        go_wp2
        go_quiet (fail)
        go_wp2
        go_quiet (fail)
        go_wp2
        go_ret
        refine ⟨⟨_, rfl, fun h => ⟨k, hlt, hall.out, ?_⟩⟩, below_drewM (below_drewM hbw _) _⟩
        rw [hx, hy]
        simpa using h
    · obtain rfl : k = n := by omega
      go_wp2
      go_ret
      exact ⟨⟨_, rfl, fun h => by simp at h⟩, hbw⟩
end Go.Kn

namespace Go.Kn
open Go Go.Proofs Go.RowKit

/-- what ref.Planned asks of a stretch -/
def PlAt (bN du : Nat → Bool) (la q : Nat → Int) (j : Nat) : Prop :=
  bN j = true ∧ (du j = false → q j = -1) ∧ (du j = true → 0 ≤ q j ∧ q j ≤ la j) ∧ ∀ k, k < j → 0 ≤ q j → q k ≠ q j

theorem plAt_all {n : Nat} {bN du : Nat → Bool} {la q : Nat → Int} : (∀ j, j < n → PlAt bN du la q j) ↔ (∀ j, j < n → bN j = true) ∧ PlanOk n du la q :=
  ⟨fun h => ⟨fun j hj => (h j hj).1, fun j hj => (h j hj).2⟩, fun h j hj => ⟨h.1 j hj, h.2 j hj⟩⟩

set_option maxRecDepth 100000 in
set_option maxHeartbeats 4000000 in
theorem planned_w (A O C P ls cs lt ct D F cq : Nat) (p : Option Addr) (lp cp : Nat) (s : Nat → Int) (t : Nat → St5) (g aN q : Nat → Int) (bN : Nat → Bool) (nd un : Int) (w : World) (hlp : lp ≤ maxLen) (H : Hid (LineAt w A O C P ls lt s t)) (hD : D < w.heap.size) (HD : Hid (NumAt w D F lt g)) (HQ : Hid (AgeP lt lt g))
    (hun : fromB 0 40 un = true) (HA : Hid (∀ i, i < lt → Great s (t i) nd (aN i) (bN i))) (HP : Hid (IntSl w p lp q)) :
    Calls Tryz.prog 20 #[.agg #[.slice (some ⟨A, O, none⟩) ls cs, .slice (some ⟨C, P, none⟩) lt ct], .slice (some ⟨D, F, none⟩) lt cq, .int .i64 nd, .int .i64 un, .slice p lp cp] w
      fun e w' => (∃ bb, e = .returned (.bool bb) ∧ (bb = true ↔ lp = lt ∧ ∀ j, j < lt → PlAt bN (duF aN g un) (laF aN g) q j)) ∧ Below w.heap.size w w' := by
  obtain ⟨W0, hW0⟩ : ∃ W0, W0 = w.alloc (.cells #[.slice (some ⟨A, O, none⟩) ls cs, .slice (some ⟨C, P, none⟩) lt ct] 25) := ⟨_, rfl⟩
  have hz : W0.heap.size = w.heap.size + 1 := by rw [hW0]; simp
  have hB0 : Below w.heap.size w W0 := by rw [hW0]; exact (Below.refl _ _).alloc (Nat.le_refl _) _
  have FX : Hid (∀ w', Below W0.heap.size W0 w' → w'.cell? ⟨w.heap.size, 0, none⟩ = some (.slice (some ⟨A, O, none⟩) ls cs) ∧ w'.cell? ⟨w.heap.size, 1, none⟩ = some (.slice (some ⟨C, P, none⟩) lt ct) ∧ LineAt w' A O C P ls lt s t ∧ NumAt w' D F lt g ∧ Hid (IntSl w' p lp q)) := Lib.hid fun w' h => by
    have q : ∀ b o, b < W0.heap.size → w'.cell? ⟨b, o, none⟩ = W0.cell? ⟨b, o, none⟩ := (bcell h).1
    have hall := hB0.trans (h.mono (by omega))
    exact ⟨(q _ _ (by omega)).trans (by rw [hW0]; simp), (q _ _ (by omega)).trans (by rw [hW0]; simp), H.out.below hall, HD.out.below hD hall, Lib.hid (HP.out.below hall)⟩
  have q1 := H.out.lt1
  have q2 := H.out.lt2
  have hun' : 0 ≤ un ∧ un ≤ 40 := by simpa [fromB] using hun
  have HAB : Hid (∀ i, i < lt → (-1 ≤ aN i ∧ aN i ≤ 200) ∧ (0 ≤ g i ∧ g i ≤ 200)) := Lib.hid fun i hi => by
    have h2 := HQ.out.ok i hi
    simp only [fromB, decide_eq_true_eq] at h2
    refine ⟨?_, h2⟩
    rcases HA.out i hi with ⟨_, a, b, _⟩ | ⟨_, a, _⟩
    · omega
    · omega
  have HAB0 : Hid (∀ i, i < lt → bN i = true → 0 ≤ aN i) := Lib.hid fun i hi hb => by
    rcases HA.out i hi with ⟨_, a, b, _⟩ | ⟨h, _⟩
    · omega
    · rw [h] at hb; cases hb
  by_cases hne : lp = lt
  case neg =>
    have hnb : ((lp : Int) != (lt : Int)) = true := by simp; omega
    go_enter Tryz.func20, Tryz.ntmps20
    go_wp2
    rw [← hW0]
    go_ret
    exact ⟨⟨_, rfl, ⟨fun h => by simp at h, fun h => (hne h.1).elim⟩⟩, hB0⟩
  subst hne
  have hnb : ((lp : Int) != (lp : Int)) = false := by simp
  go_enter Tryz.func20, Tryz.ntmps20
  go_wp2
  rw [← hW0]
  go_loopw [11] (fun ii wr => ∃ i : Nat, i ≤ lp ∧ ii = .int .i64 (i : Int) ∧ Hid (∀ j, j < i → PlAt bN (duF aN g un) (laF aN g) q j) ∧ Below W0.heap.size W0 wr) (fun ii _ => lp - (intOf ii).toNat)
  case atStart => exact ⟨0, Nat.zero_le _, rfl, Lib.hid (fun j hj => absurd hj (by omega)), Below.refl _ _⟩
  case round =>
    obtain ⟨i, hi', rfl, hall, hbw⟩ := hrel
    obtain ⟨x1, x2, x3, x4, x5⟩ := FX.out _ hbw
    have HBW := Lib.hid hbw
    have hzw := hbw.size
    rw [hz] at hzw
    clear hbw
    by_cases hlt : i < lp
    · have HLW := Lib.hid x3
      obtain ⟨⟨a1, a2⟩, g1, g2⟩ := HAB.out i hlt
      have HGR := Lib.hid (HA.out i hlt)
      have hlti : (i : Int) < (lp : Int) := by omega
      have hi0 : (0 : Int) ≤ (i : Int) := by omega
      obtain ⟨E, U, rfl, hE, hq⟩ := x5.out.resolve_left (by omega)
      have HE := Lib.hid hq
      clear x3 x4 x5 hq
      have HGA : Hid (∀ w', Below wr.heap.size wr w' → Calls Tryz.prog 51 #[.agg #[.slice (some ⟨A, O, none⟩) ls cs, .slice (some ⟨C, P, none⟩) lp ct], .int .i64 (i : Int), .int .i64 nd] w' fun e w2 => e = .returned (.int .i64 (cond (bN i) (aN i) (-1))) ∧ Below w'.heap.size w' w2) := Lib.hid fun w' h => rLate_is cs ct (Lib.hid (HLW.out.below h)) hlt HGR.out
      have HGL : Hid (∀ w', Below wr.heap.size wr w' → Calls Tryz.prog 52 #[.agg #[.slice (some ⟨A, O, none⟩) ls cs, .slice (some ⟨C, P, none⟩) lp ct], .int .i64 (i : Int), .int .i64 (g i), .int .i64 nd, .int .i64 un] w' fun e w2 => e = .returned (.int .i64 (laR (cond (bN i) (aN i) (-1)) (g i) un)) ∧ Below w'.heap.size w' w2) := Lib.hid fun w' h => last_w cs ct (Lib.hid (HLW.out.below h)) hlt HGR ⟨g1, g2⟩ hun'
      have FY : Hid (∀ w', Below wr.heap.size wr w' → w'.cell? ⟨w.heap.size, 0, none⟩ = some (.slice (some ⟨A, O, none⟩) ls cs) ∧ w'.cell? ⟨w.heap.size, 1, none⟩ = some (.slice (some ⟨C, P, none⟩) lp ct) ∧ w'.cell? ⟨D, F + i, none⟩ = some (.int .i64 (g i)) ∧ ∀ j, j < lp → w'.cell? ⟨E, U + j, none⟩ = some (.int .i64 (q j))) := Lib.hid fun w' h => by
        obtain ⟨p1, p2, p3, p4, p5⟩ := FX.out _ (HBW.out.trans (h.mono HBW.out.size))
        exact ⟨p1, p2, p4 i hlt, HE.out.below hE h⟩
      have FYa : Hid (∀ w', Below wr.heap.size wr w' → w'.cell? ⟨w.heap.size, 0, none⟩ = some (.slice (some ⟨A, O, none⟩) ls cs) ∧ w'.cell? ⟨w.heap.size, 1, none⟩ = some (.slice (some ⟨C, P, none⟩) lp ct) ∧ w'.cell? ⟨D, F + i, none⟩ = some (.int .i64 (g i))) := Lib.hid fun w' h => ⟨(FY.out w' h).1, (FY.out w' h).2.1, (FY.out w' h).2.2.1⟩
      obtain ⟨b, hb⟩ : ∃ b, g i = b := ⟨_, rfl⟩
      have hx1 := laR_t (aN := aN) (g := g) (un := un) (i := i) a2
      have hx2 := laR_f (aN := aN) (g := g) (un := un) (i := i) a2
      obtain ⟨x, hx⟩ : ∃ x, laR (cond (bN i) (aN i) (-1)) (g i) un = x := ⟨_, rfl⟩
      rw [hx] at HGL
      rw [hb] at g1 g2 HGL FYa
      have hxb : -201 ≤ x ∧ x ≤ 1000 := by
        rw [← hx, hb]
        unfold laR
        cases bN i <;> simp only [cond_true, cond_false] <;> split <;> omega
      obtain ⟨v, hv⟩ : ∃ v, q i = v := ⟨_, rfl⟩
      obtain ⟨y, hy⟩ : ∃ y, cond (bN i) (aN i) (-1) = y := ⟨_, rfl⟩
      rw [hy] at HGA
      have hyb : -1 ≤ y ∧ y ≤ 200 := by
        rw [← hy]
        cases bN i <;> simp only [cond_true, cond_false] <;> omega
      go_wp2
      refine wp_region_calm (W := wr) (by kernel_rfl) (by kernel_rfl) (Below.refl _ _) ?_
      repeat (first
        | (refine calm_no (by rfl) ?_
           (try simp only [Act.put, List.setIfInBounds_toArray, List.set_cons_zero, List.set_cons_succ]))
        | (apply calm_yes
           focus rfl
           focus
             intro w' hw'
             obtain ⟨z1, z2, z3⟩ := FYa.out w' hw'
             go_simp
             first
               | done
               | with_reducible rfl
               | (go_at_call 52; refine (HGL.out w' hw').mono ?_; rintro e w8 ⟨rfl, hb8⟩; exact ⟨rfl, hw'.trans (hb8.mono hw'.size)⟩)
               | fail
           (try simp only [Act.put, List.setIfInBounds_toArray, List.set_cons_zero, List.set_cons_succ])))
      refine calm_nil ?_
      intro w20 hb20
      have HBX : Hid (Below wr.heap.size wr w20) := Lib.hid hb20
      have hz20 := HBX.out.size
      obtain ⟨z1, z2, z3, z4⟩ := FY.out _ hb20
      have z5 := z4 i hlt
      rw [hv] at z5
      have HZ4 := Lib.hid z4
      have HGX := HGA.out _ hb20
      clear hb20 z4 z3
      cases hbi : bN i
      · rw [hbi] at hy hx
        simp only [cond_false] at hy hx
        subst hy
        have HBI := Lib.hid hbi
        have HXL := Lib.hid hx
        clear hbi hx hx1 hx2
        have hyn : decide ((-1 : Int) < 0) = true := by decide
        go_wp2_with (go_at_call 51; refine HGX.mono ?_; rintro e w5 ⟨rfl, hb5⟩; have hz5 := hb5.size; obtain ⟨t1, t2, t3, t4⟩ := FY.out _ (HBX.out.trans (hb5.mono HBX.out.size)); have t5 := t4 i hlt; rw [hv] at t5; clear t3 t4 z1 z2 z5)
        go_ret
        exact ⟨⟨_, rfl, ⟨fun h => by simp at h, fun h => by have := (h.2 i hlt).1; rw [HBI.out] at this; cases this⟩⟩, hB0.trans ((HBW.out.trans ((HBX.out.trans (hb5.mono HBX.out.size)).mono HBW.out.size)).mono (by omega))⟩
      · rw [hbi] at hy hx
        simp only [cond_true] at hy hx
        have ha0 := HAB0.out i hlt hbi
        have HBI := Lib.hid hbi
        rw [hx] at hx1 hx2
        have hyn : decide (y < 0) = false := by rw [decide_eq_false_iff_not]; omega
        have hyn' : ¬ (y < 0) := by omega
        have HY := Lib.hid hy
        clear hbi hx hy
        cases hdu : duF aN g un i
        · have HDU := Lib.hid hdu
          have hx := hx2 hdu
          clear hx1 hx2 hdu
          subst hx
          have he1 : ((1000 : Int) == 1000) = true := by simp
          have he2 : ((1000 : Int) != 1000) = false := by simp
          by_cases hv1 : v = -1
          · subst hv1
            have he3 : ((-1 : Int) != -1) = false := by simp
            go_wp2_with (go_at_call 51; refine HGX.mono ?_; rintro e w5 ⟨rfl, hb5⟩; have hz5 := hb5.size; obtain ⟨t1, t2, t3, t4⟩ := FY.out _ (HBX.out.trans (hb5.mono HBX.out.size)); have t5 := t4 i hlt; rw [hv] at t5; clear t3 t4 z1 z2 z5)
            have HB5w := Lib.hid hb5
            have HB5 : Hid (Below W0.heap.size W0 w5) := Lib.hid (HBW.out.trans ((HBX.out.trans (hb5.mono HBX.out.size)).mono HBW.out.size))
            clear hb5
            go_loopw [13] (fun kk wk => ∃ k : Nat, k ≤ i ∧ kk = .int .i64 (k : Int) ∧ Below w5.heap.size w5 wk) (fun kk _ => i - (intOf kk).toNat)
            case atStart => exact ⟨0, Nat.zero_le _, rfl, Below.refl _ _⟩
            case round =>
              obtain ⟨wm, rfl⟩ : ∃ wm, wm = wr := ⟨_, rfl⟩
              obtain ⟨k, hk, rfl, hbk⟩ := hrel
              obtain ⟨_, _, _, u4⟩ := FY.out _ (HBX.out.trans ((HB5w.out.trans (hbk.mono HB5w.out.size)).mono HBX.out.size))
              have u5 := u4 i hlt
              rw [hv] at u5
              clear u4
              by_cases hki : k < i
              · have k0 : (0 : Int) ≤ (k : Int) := by omega
                have k1 : (k : Int) < (i : Int) := by omega
                have k2 : (k : Int) < (lp : Int) := by omega
                go_wp2
                go_quiet (fail)
                go_wp2
                go_roundw
                case rel => exact ⟨k + 1, by omega, by go_num, below_drewM hbk _⟩
                case measure => simp [intOf]; omega
              · obtain rfl : k = i := by omega
                go_wp2
                go_roundw
                case rel => exact ⟨k + 1, by omega, by go_num, Lib.hid fun j hj => by
                  by_cases e : j = k
                  · subst e
                    exact ⟨HBI.out, fun _ => hv, fun h => (by rw [HDU.out] at h; cases h), fun _ _ h => by rw [hv] at h; omega⟩
                  · exact hall.out j (by omega), HB5.out.trans (hbk.mono HB5.out.size)⟩
                case measure => simp [intOf]; omega
          · have he3 : (v != -1) = true := by simp [hv1]
            go_wp2_with (go_at_call 51; refine HGX.mono ?_; rintro e w5 ⟨rfl, hb5⟩; have hz5 := hb5.size; obtain ⟨t1, t2, t3, t4⟩ := FY.out _ (HBX.out.trans (hb5.mono HBX.out.size)); have t5 := t4 i hlt; rw [hv] at t5; clear t3 t4 z1 z2 z5)
            go_ret
            exact ⟨⟨_, rfl, ⟨fun h => by simp at h, fun h => by have := (h.2 i hlt).2.1 HDU.out; rw [hv] at this; exact (hv1 this).elim⟩⟩, hB0.trans ((HBW.out.trans ((HBX.out.trans (hb5.mono HBX.out.size)).mono HBW.out.size)).mono (by omega))⟩
        · have HDU := Lib.hid hdu
          have HX := Lib.hid (hx1 hdu)
          have hll : x < 40 := by
            have := laF_lt hdu
            rw [HX.out]; omega
          clear hx1 hx2 hdu
          have he1 : (x == 1000) = false := by simp; omega
          have he2 : (x != 1000) = true := by simp; omega
          cases hfr : fromB 0 x v
          · go_wp2_with (first
              | (go_at_call 51; refine HGX.mono ?_; rintro e w5 ⟨rfl, hb5⟩; have hz5 := hb5.size; obtain ⟨t1, t2, t3, t4⟩ := FY.out _ (HBX.out.trans (hb5.mono HBX.out.size)); have t5 := t4 i hlt; rw [hv] at t5; clear t3 t4 z1 z2 z5)
              | (go_at_call 43; refine (in_w _ _ _ _).mono ?_; rw [hfr]; rintro e w6 ⟨rfl, rfl⟩))
            go_ret
            exact ⟨⟨_, rfl, ⟨fun h => by simp at h, fun h => by
              have h3 := (h.2 i hlt).2.2.1 HDU.out
              rw [hv, ← HX.out] at h3
              rw [fromB, decide_eq_false_iff_not] at hfr
              exact (hfr h3).elim⟩⟩, hB0.trans ((HBW.out.trans ((HBX.out.trans (hb5.mono HBX.out.size)).mono HBW.out.size)).mono (by omega))⟩
          · have hvv : 0 ≤ v ∧ v ≤ x := by simpa [fromB] using hfr
            go_wp2_with (first
              | (go_at_call 51; refine HGX.mono ?_; rintro e w5 ⟨rfl, hb5⟩; have hz5 := hb5.size; obtain ⟨t1, t2, t3, t4⟩ := FY.out _ (HBX.out.trans (hb5.mono HBX.out.size)); have t5 := t4 i hlt; rw [hv] at t5; clear t3 t4 z1 z2 z5)
              | (go_at_call 43; refine (in_w _ _ _ _).mono ?_; rw [hfr]; rintro e w6 ⟨rfl, rfl⟩))
            have HB5w := Lib.hid hb5
            have HB5 : Hid (Below W0.heap.size W0 w5) := Lib.hid (HBW.out.trans ((HBX.out.trans (hb5.mono HBX.out.size)).mono HBW.out.size))
            clear hb5
            have hvb : decide (0 ≤ v) = true := decide_eq_true hvv.1
            go_loopw [13] (fun kk wk => ∃ k : Nat, k ≤ i ∧ kk = .int .i64 (k : Int) ∧ Hid (∀ j, j < k → q j ≠ v) ∧ Below w5.heap.size w5 wk) (fun kk _ => i - (intOf kk).toNat)
            case atStart => exact ⟨0, Nat.zero_le _, rfl, Lib.hid (fun j hj => absurd hj (by omega)), Below.refl _ _⟩
            case round =>
              obtain ⟨wm, rfl⟩ : ∃ wm, wm = wr := ⟨_, rfl⟩
              obtain ⟨k, hk, rfl, hdis, hbk⟩ := hrel
              obtain ⟨_, _, _, u4⟩ := FY.out _ (HBX.out.trans ((HB5w.out.trans (hbk.mono HB5w.out.size)).mono HBX.out.size))
              have u5 := u4 i hlt
              rw [hv] at u5
              by_cases hki : k < i
              · have k0 : (0 : Int) ≤ (k : Int) := by omega
                have k1 : (k : Int) < (i : Int) := by omega
                have k2 : (k : Int) < (lp : Int) := by omega
                have u6 := u4 k (by omega)
                obtain ⟨z, hzq⟩ : ∃ z, q k = z := ⟨_, rfl⟩
                rw [hzq] at u6
                clear u4
                by_cases hzv : z = v
                · subst hzv
                  have hzz : (z == z) = true := by simp
                  go_wp2
                  go_quiet (fail)
                  go_wp2
                  go_ret
                  exact ⟨⟨_, rfl, ⟨fun h => by simp at h, fun h => ((h.2 i hlt).2.2.2 k hki (by rw [hv]; exact hvv.1) (hzq.trans hv.symm)).elim⟩⟩, hB0.trans ((HB5.out.trans ((below_drewM hbk _).mono HB5.out.size)).mono (by omega))⟩
                · have hzz : (z == v) = false := by simp [hzv]
                  go_wp2
                  go_quiet (fail)
                  go_wp2
                  go_roundw
                  case rel => exact ⟨k + 1, by omega, by go_num, Lib.hid (fun j hj => by
                    by_cases e : j = k
                    · rw [e, hzq]; exact hzv
                    · exact hdis.out j (by omega)), below_drewM hbk _⟩
                  case measure => simp [intOf]; omega
              · obtain rfl : k = i := by omega
                clear u4
                go_wp2
                go_roundw
                case rel => exact ⟨k + 1, by omega, by go_num, Lib.hid fun j hj => by
                  by_cases e : j = k
                  · subst e
                    exact ⟨HBI.out, fun h => (by rw [HDU.out] at h; cases h), fun _ => by rw [hv, ← HX.out]; exact hvv, fun l hl _ => by rw [hv]; exact hdis.out l hl⟩
                  · exact hall.out j (by omega), HB5.out.trans (hbk.mono HB5.out.size)⟩
                case measure => simp [intOf]; omega
    · obtain rfl : i = lp := by omega
      go_wp2
      go_ret
      exact ⟨⟨_, rfl, ⟨fun _ => ⟨by first | rfl | trivial, hall.out⟩, fun _ => rfl⟩⟩, hB0.trans (HBW.out.mono (by omega))⟩
end Go.Kn
