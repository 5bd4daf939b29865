/- Contracts of functions that the laws of this seat call, or the evaluator of closed calls and its runs. Conditions: as each theorem states them. -/
import Derived.Test.YtamoigfafgfimaaGreatDoorIR
set_option linter.unusedVariables false
set_option linter.unusedSimpArgs false
namespace Go.Kn
open Go Go.Proofs Go.RowKit

section
variable {f : Int} {ln lo : Nat} {N : Nat → N2} {U : Nat → O3}

theorem served_ex : ∀ (g : Nat) (s : Nat → Int) (l : List Nat), Vd f ln lo N U s → (gap lo U s).toNat ≤ g → (∀ i ∈ l, i < lo) → ∃ t, Served f lo N U s l t := by
  intro g
  induction g with
  | zero =>
    intro s l hv hg hl
    cases l with
    | nil => exact ⟨s, .done s⟩
    | cons i l =>
      have h1 := gap_pass (f := f) (lo := lo) (N := N) (U := U) (i :: l) s hl
      have h2 := gap_nonneg (pass_vd hl hv)
      have h3 := gap_nonneg hv
      have h4 : (passS f lo N U s (i :: l)).2 = [] := List.length_eq_zero_iff.1 (by omega)
      exact ⟨_, .next _ _ _ (by simp) (by rw [h4]; exact .done _)⟩
  | succ g ih =>
    intro s l hv hg hl
    cases l with
    | nil => exact ⟨s, .done s⟩
    | cons i l =>
      have h1 := gap_pass (f := f) (lo := lo) (N := N) (U := U) (i :: l) s hl
      have h2 := gap_nonneg (pass_vd hl hv)
      have h3 := gap_nonneg hv
      by_cases h4 : (passS f lo N U s (i :: l)).2 = []
      · exact ⟨_, .next _ _ _ (by simp) (by rw [h4]; exact .done _)⟩
      · have h5 : (passS f lo N U s (i :: l)).2.length ≠ 0 := fun e => h4 (List.length_eq_zero_iff.1 e)
        obtain ⟨t, ht⟩ := ih (passS f lo N U s (i :: l)).1 (passS f lo N U s (i :: l)).2 (pass_vd hl hv) (by omega) (fun j hj => hl j ((pass_sub (i :: l) s).subset hj))
        exact ⟨t, .next _ _ _ (by simp) ht⟩
theorem ord_ex : ∀ (cs : List Int) (s : Nat → Int), Vd f ln lo N U s → ∃ t, Ord f lo N U s cs t
  | [], s, _ => ⟨s, .nil s⟩
  | c :: cs, s, hv => by
    have hl : ∀ i ∈ classL lo U c, i < lo := fun i hi => (classL_mem.1 hi).1
    obtain ⟨t, ht⟩ := served_ex (f := f) (N := N) (gap lo U s).toNat s (classL lo U c) hv (Nat.le_refl _) hl
    have hv2 : Vd f ln lo N U t := ht.inv (fun t => Vd f ln lo N U t) (classL lo U c) (fun s i hi h ho => h.put (hl i hi) (by omega) ho) (fun _ h => h) hv
    obtain ⟨r, hr⟩ := ord_ex cs t hv2
    exact ⟨r, .cons _ _ _ _ _ ht hr⟩

/-- the shares with each inflow -/
def XS (lo : Nat) (N : Nat → N2) (U : Nat → O3) (X : Nat → Nat → Int) : Prop := ∀ n : Nat, n ≤ 200 → Ord (n : Int) lo N U (fun _ => 0) [0, 1, 2, 3] (X n)
theorem xs_ex (HT : TreeP f ln lo N U) : ∃ X, XS lo N U X := by
  have h : ∀ n : Nat, ∃ t, n ≤ 200 → Ord (n : Int) lo N U (fun _ => 0) [0, 1, 2, 3] t := fun n => by
    by_cases hn : n ≤ 200
    · obtain ⟨t, ht⟩ := ord_ex (f := (n : Int)) (ln := ln) (lo := lo) (N := N) (U := U) [0, 1, 2, 3] (fun _ => 0) (vd_zero (tree_with HT (by omega) (by omega)))
      exact ⟨t, fun _ => ht⟩
    · exact ⟨fun _ => 0, fun h => absurd h hn⟩
  exact ⟨fun n => (h n).choose, fun n hn => (h n).choose_spec hn⟩
theorem xs_mono (HT : TreeP f ln lo N U) {X : Nat → Nat → Int} (hX : XS lo N U X) {n m : Nat} (h : n ≤ m) (hm : m ≤ 200) (j : Nat) : X n j ≤ X m j :=
  mono_p (tree_with HT (g := (n : Int)) (by omega) (by omega)) (by omega) (hX n (by omega)) (hX m hm) j
theorem xs_vd (HT : TreeP f ln lo N U) {X : Nat → Nat → Int} (hX : XS lo N U X) {n : Nat} (hn : n ≤ 200) : Vd (n : Int) ln lo N U (X n) := (hX n hn).vd (vd_zero (tree_with HT (by omega) (by omega)))

/-- what the program answers: the least number with P, or none -/
def NeedR (P : Nat → Prop) (rn re : Int) : Prop := (re = 0 ∧ ∃ n : Nat, rn = (n : Int) ∧ n ≤ 200 ∧ P n ∧ ∀ m, m < n → ¬ P m) ∨ (re = 5 ∧ rn = 0 ∧ ∀ m, m ≤ 200 → ¬ P m)
/-- what the reference answers -/
def RefR (P : Nat → Prop) (r : Int) : Prop := (∃ n : Nat, r = (n : Int) ∧ n ≤ 200 ∧ P n ∧ ∀ m, m < n → ¬ P m) ∨ (r = -1 ∧ ∀ m, m ≤ 200 → ¬ P m)
theorem refR_some {P : Nat → Prop} {r : Int} {n : Nat} (h : RefR P r) (hn : n ≤ 200) (hp : P n) (hl : ∀ m, m < n → ¬ P m) : r = (n : Int) := by
  rcases h with ⟨k, rfl, hk, hpk, hlk⟩ | ⟨_, hno⟩
  · rcases Nat.lt_trichotomy n k with e | e | e
    · exact absurd hp (hlk n e)
    · rw [e]
    · exact absurd hpk (hl k e)
  · exact absurd hp (hno n hn)
theorem refR_none {P : Nat → Prop} {r : Int} (h : RefR P r) (hno : ∀ m, m ≤ 200 → ¬ P m) : r = -1 := by
  rcases h with ⟨k, rfl, hk, hpk, hlk⟩ | ⟨e, _⟩
  · exact absurd hpk (hno k hk)
  · exact e

/-- each outlet of a class and of all before it has its claim -/
def FullP (lo : Nat) (U : Nat → O3) (s : Nat → Int) (c : Int) : Prop := ∀ i, i < lo → (U i).k ≤ c → (U i).c ≤ s i
/-- what a class and all before it claim -/
def claimT (U : Nat → O3) (c : Int) (k : Nat) : Int := sm (fun i => if (U i).k ≤ c then (U i).c else 0) k

theorem full_src {n : Nat} (HT : TreeP f ln lo N U) {X : Nat → Nat → Int} (hX : XS lo N U X) (hn : n ≤ 200) : sm (X n) lo ≤ (n : Int) := by
  have hv := xs_vd HT hX hn
  have h0 := hv.fit 0 (Nat.zero_le _)
  rw [sumB_sm] at h0
  have e : sm (fun i => if 0 ∈ path N (U i).n.toNat then X n i else 0) lo = sm (X n) lo := sm_congr lo fun i hi => if_pos (path_src HT _ (node_le HT hi))
  rw [e] at h0
  exact h0
theorem keeps_a {n : Nat} (HT : TreeP f ln lo N U) {X : Nat → Nat → Int} (hX : XS lo N U X) (hn : n ≤ 200) {c : Int} (h : FullP lo U (X n) c) : claimT U c lo ≤ (n : Int) := by
  have h1 := full_src HT hX hn
  have hv := xs_vd HT hX hn
  have h2 : claimT U c lo ≤ sm (X n) lo := sm_le lo fun i hi => by
    have := hv.bd i hi
    by_cases hk : (U i).k ≤ c
    · rw [if_pos hk]; exact h i hi hk
    · rw [if_neg hk]; omega
  omega
theorem sm_eq {g h : Nat → Int} : ∀ k, (∀ i, i < k → g i ≤ h i) → sm h k ≤ sm g k → ∀ i, i < k → h i ≤ g i
  | 0, _, _, i, hi => by omega
  | k + 1, hle, hs, i, hi => by
    simp only [sm] at hs
    have h1 := sm_le k (fun i hi => hle i (by omega))
    have h2 := hle k (by omega)
    by_cases e : i = k
    · subst e; omega
    · exact sm_eq k (fun i hi => hle i (by omega)) (by omega) i (by omega)
theorem keeps_b {n C : Nat} (HT : TreeP f ln lo N U) {X : Nat → Nat → Int} (hX : XS lo N U X) (hn : n ≤ 200) {c : Int} (h : FullP lo U (X n) c) (hC : claimT U c lo = (C : Int)) : FullP lo U (X C) c := by
  have hCn : C ≤ n := by have := keeps_a HT hX hn h; omega
  have HTC : TreeP (C : Int) ln lo N U := tree_with HT (by omega) (by omega)
  have hv := xs_vd HT hX hn
  have hvC := xs_vd HT hX (n := C) (by omega)
  have hb : ∀ i, i < lo → 0 ≤ (if (U i).k ≤ c then (U i).c else 0) ∧ (if (U i).k ≤ c then (U i).c else 0) ≤ (U i).c := fun i hi => by
    have := (tree_o HT hi).2.1
    split <;> omega
  have ho : FitP (C : Int) ln lo N U (fun i => if (U i).k ≤ c then (U i).c else 0) := fun m hm => by
    have hle : ∀ i, i < lo → (if (U i).k ≤ c then (U i).c else 0) ≤ X n i := fun i hi => by
      have := hv.bd i hi
      by_cases hk : (U i).k ≤ c
      · rw [if_pos hk]; exact h i hi hk
      · rw [if_neg hk]; omega
    cases m with
    | zero =>
      rw [sumB_sm]
      have e : sm (fun i => if 0 ∈ path N (U i).n.toNat then (if (U i).k ≤ c then (U i).c else 0) else 0) lo = claimT U c lo := sm_congr lo fun i hi => if_pos (path_src HT _ (node_le HT hi))
      rw [e, hC]
      exact Int.le_refl _
    | succ m =>
      have h1 := sumB_mono (N := N) (U := U) (m := m + 1) lo (fun i hi _ => hle i hi)
      have h2 := hv.fit (m + 1) hm
      exact Int.le_trans h1 h2
  have hf := first_p HTC (hX C (by omega)) hb ho c
  intro i hi hk
  have key := sm_eq (g := fun i => if (U i).k ≤ c then X C i else 0) (h := fun i => if (U i).k ≤ c then (if (U i).k ≤ c then (U i).c else 0) else 0) lo (fun j hj => by
    have := hvC.bd j hj
    by_cases hk : (U j).k ≤ c
    · simp only [if_pos hk]; exact this.2
    · simp only [if_neg hk]; exact Int.le_refl _) hf i hi
  simpa [hk] using key
end
end Go.Kn

namespace Go.Kn
open Go Go.Proofs Go.RowKit

set_option maxRecDepth 100000 in
set_option maxHeartbeats 1000000 in
theorem search_w (p : Nat → Bool) (b1 b2 b3 : Value) (W0 w : World) (hb0 : Below W0.heap.size W0 w)
    (hf : Hid (∀ w2 (i : Nat), i < 201 → Below W0.heap.size W0 w2 → Calls Tryz.prog 86 #[.int .i64 (i : Int), b1, b2, b3] w2 fun e w' => e = .returned (.bool (p i)) ∧ Below W0.heap.size W0 w')) :
    Calls Tryz.prog 85 #[.int .i64 201, .func (.func 86) #[] #[b1, b2, b3]] w fun e w' => (∃ n : Nat, e = .returned (.int .i64 (n : Int)) ∧ n ≤ 201 ∧ (n = 0 ∨ p (n - 1) = false) ∧ (n = 201 ∨ p n = true)) ∧ Below W0.heap.size W0 w' := by
  go_enter Tryz.func85, Tryz.ntmps85
  go_wp2
  go_loopw [5, 6] (fun iv jv wr => ∃ i j : Nat, i ≤ j ∧ j ≤ 201 ∧ iv = .int .i64 (i : Int) ∧ jv = .int .i64 (j : Int) ∧ (i = 0 ∨ p (i - 1) = false) ∧ (j = 201 ∨ p j = true) ∧ Below W0.heap.size W0 wr) (fun iv jv _ => (Go.RowKit.intOf jv).toNat - (Go.RowKit.intOf iv).toNat)
  case atStart => exact ⟨0, 201, by omega, by omega, rfl, rfl, .inl rfl, .inl rfl, hb0⟩
  case round =>
    obtain ⟨i, j, hij, hj, rfl, rfl, hi1, hj1, hbr⟩ := hrel
    have HI := Lib.hid hi1
    have HJ := Lib.hid hj1
    have HB := Lib.hid hbr
    clear hi1 hj1 hbr
    by_cases hlt : i < j
    · have n1 : (i : Int) < (j : Int) := by omega
      obtain ⟨h, hh⟩ : ∃ h : Nat, h = (i + j) / 2 := ⟨_, rfl⟩
      have hh2 : ((i : Int) + (j : Int)) / 2 = (h : Int) := by omega
      have b1 : i ≤ h := by omega
      have b2 : h < j := by omega
      have HH := Lib.hid hh2
      have HC := Lib.hid (hf.out wr h (by omega) HB.out)
      clear hh hh2
      cases hp : p h with
      | false =>
        have HP := Lib.hid hp
        go_wp2_with (go_at_call 86; rw [HH.out]; refine HC.out.mono ?_; rw [HP.out]; rintro e w9 ⟨rfl, hb9⟩)
        go_roundw
        case rel => exact ⟨h + 1, j, by omega, hj, by go_num, rfl, .inr HP.out, HJ.out, hb9⟩
        case measure => simp [Go.RowKit.intOf]; omega
      | true =>
        have HP := Lib.hid hp
        go_wp2_with (go_at_call 86; rw [HH.out]; refine HC.out.mono ?_; rw [HP.out]; rintro e w9 ⟨rfl, hb9⟩)
        go_roundw
        case rel => exact ⟨i, h, by omega, by omega, rfl, rfl, HI.out, .inr HP.out, hb9⟩
        case measure => simp [Go.RowKit.intOf]; omega
    · have n1 : ¬ (i : Int) < (j : Int) := by omega
      have hkl : i = j := by omega
      subst hkl
      go_wp2
      go_ret
      exact ⟨⟨i, rfl, hj, HI.out, HJ.out⟩, HB.out⟩

/-- the shares with an inflow -/
def shr (lo : Nat) (N : Nat → N2) (U : Nat → O3) (x : Int → Nat → Int) : Prop := ∀ g : Int, 0 ≤ g → g ≤ 200 → Ord g lo N U (fun _ => 0) [0, 1, 2, 3] (x g)

set_option maxRecDepth 100000 in
set_option maxHeartbeats 1000000 in
theorem needs1_w (f g c : Int) (na oa : Option Addr) (ln cn lo co i p1 p2 p3 : Nat) (N : Nat → N2) (U : Nat → O3) (x : Nat → Int) (w0 w : World) (hb0 : Below w0.heap.size w0 w) (hg : 0 ≤ g ∧ g ≤ 200) (hi : i < lo) (HR : Hid (TreeP f ln lo N U)) (H : Hid (Tr7 w0 na oa ln lo N U)) (HO : Hid (Ord g lo N U (fun _ => 0) [0, 1, 2, 3] x))
    (B : Hid (∀ w2, Below w0.heap.size w0 w2 → w2.cell? ⟨p1, 0, none⟩ = some (.int .i64 f) ∧ w2.cell? ⟨p1, 1, none⟩ = some (.slice na ln cn) ∧ w2.cell? ⟨p1, 2, none⟩ = some (.slice oa lo co) ∧ w2.cell? ⟨p2, 0, none⟩ = some (.int .i64 (i : Int)) ∧ w2.cell? ⟨p3, 0, none⟩ = some (.int .i64 c))) :
    Calls Tryz.prog 86 #[.int .i64 g, .pointer (some ⟨p1, 0, none⟩), .pointer (some ⟨p2, 0, none⟩), .pointer (some ⟨p3, 0, none⟩)] w fun e w' => e = .returned (.bool (decide (c ≤ x i))) ∧ Below w0.heap.size w0 w' := by
  have HX : Hid (∀ w2, Below w0.heap.size w0 w2 → Calls Tryz.prog 68 #[.agg #[.int .i64 g, .slice na ln cn, .slice oa lo co]] w2 fun e w' =>
      (∃ sv SH cs, e = .returned (.pointer (some ⟨sv, 0, none⟩)) ∧ w'.cell? ⟨sv, 3, none⟩ = some (.slice (some ⟨SH, 0, none⟩) lo cs) ∧ w'.cell? ⟨SH, i, none⟩ = some (.int .i64 (x i))) ∧ Below w0.heap.size w0 w') := Lib.hid fun w2 h => by
    refine (lawful_w g na oa ln cn lo co N U w2 (Lib.hid (tree_with HR.out hg.1 hg.2)) (Lib.hid (H.out.below h))).mono ?_
    rintro e w' ⟨⟨sv, SH, FL, cs, cf, t, he, h1, h2, _⟩, hb⟩
    have ht : t = x := h2.det HO.out
    subst ht
    exact ⟨⟨sv, SH, cs, he, h1.at_.c3, (h1.at_.sh i hi).1⟩, h.trans (hb.mono h.size)⟩
  obtain ⟨x1, x2, x3, x4, x5⟩ := B.out _ hb0
  go_enter Tryz.func86, Tryz.ntmps86
  go_wp2
  go_region_law ((first
    | (go_simp; go_at_call 83; refine (wif_w f g na oa ln cn lo co _).mono ?_; rintro e wv ⟨rfl, hv⟩; have hb1 := hb0.trans (((below_drew (Below.refl _ _)).trans hv).mono hb0.size); clear x1 x2 x3 x4 x5; obtain ⟨x1, x2, x3, x4, x5⟩ := B.out _ hb1)
    | (go_simp; go_at_call 68; refine (HX.out _ hb1).mono ?_; rintro e wv2 ⟨⟨sv, SH, cs, rfl, y1, y2⟩, hb2⟩; clear x1 x2 x3 x4 x5; obtain ⟨x1, x2, x3, x4, x5⟩ := B.out _ hb2)
    | (go_simp; go_at_call 80; refine (share_w sv SH i lo cs x _ hi y1 y2).mono ?_; rintro e wv3 ⟨rfl, rfl⟩)))
  all_goals
    go_wp2
    go_ret
    exact ⟨rfl, hb2⟩
end Go.Kn

namespace Go.Kn
open Go Go.Proofs Go.RowKit

set_option maxRecDepth 100000 in
set_option maxHeartbeats 1000000 in
theorem isOutlet_w (f n : Int) (na oa : Option Addr) (ln cn lo co : Nat) (w : World) (hlo : lo ≤ 1000000) : Calls Tryz.prog 72 #[.agg #[.int .i64 f, .slice na ln cn, .slice oa lo co], .int .i64 n] w
    fun e w' => e = .returned (.bool (fromB 0 ((lo : Int) - 1) n)) ∧ Below w.heap.size w w' := by
  have wr1 : wrap64 ((lo : Int) - 1) = (lo : Int) - 1 := by unfold wrap64; omega
  go_enter Tryz.func72, Tryz.ntmps72
  go_wp2_with (go_at_call 84; refine (isFrom_w _ _ _ _).mono ?_; rintro e w' ⟨rfl, rfl⟩)
  go_ret
  exact ⟨rfl, (Below.refl _ _).alloc (Nat.le_refl _) _⟩

set_option maxRecDepth 100000 in
set_option maxHeartbeats 1000000 in
theorem outlet_w (f n : Int) (na oa : Option Addr) (ln cn lo co : Nat) (w : World) (hlo : lo ≤ 1000000) : Calls Tryz.prog 29 #[.agg #[.int .i64 f, .slice na ln cn, .slice oa lo co], .int .i64 n] w
    fun e w' => e = .returned (.bool (fromB 0 ((lo : Int) - 1) n)) ∧ Below w.heap.size w w' := by
  have wr1 : wrap64 ((lo : Int) - 1) = (lo : Int) - 1 := by unfold wrap64; omega
  go_enter Tryz.func29, Tryz.ntmps29
  go_wp2_with (go_at_call 67; refine (in_w _ _ _ _).mono ?_; rintro e w' ⟨rfl, rfl⟩)
  go_ret
  exact ⟨rfl, (Below.refl _ _).alloc (Nat.le_refl _) _⟩

theorem outlet_nat {lo : Nat} {n : Int} (h : fromB 0 ((lo : Int) - 1) n = true) : ∃ i : Nat, n = (i : Int) ∧ i < lo := by
  simp only [fromB, decide_eq_true_eq] at h
  exact ⟨n.toNat, by omega, by omega⟩

set_option maxRecDepth 100000 in
set_option maxHeartbeats 1000000 in
theorem isServed_w (f : Int) (na oa : Option Addr) (ln cn lo co cs cf sv SH FL i : Nat) (N : Nat → N2) (U : Nat → O3) (s : Nat → Int) (w : World) (hi : i < lo) (H : Hid (Tr7 w na oa ln lo N U)) (HS : Hid (SvS w sv SH FL f na oa ln cn lo co cs cf N U s)) :
    Calls Tryz.prog 75 #[.pointer (some ⟨sv, 0, none⟩), .int .i64 (i : Int)] w fun e w' => e = .returned (.bool (decide (s i = (U i).c))) ∧ Below w.heap.size w w' := by
  obtain ⟨C, P, rfl, hC, hn⟩ := H.out.ho.resolve_left (by omega)
  have x1 := HS.out.at_.c2
  have x2 := HS.out.at_.c3
  have x3 := (HS.out.at_.sh i hi).1
  have x4 := (hn i hi).2.1
  have n1 : (0 : Int) ≤ (i : Int) := by omega
  have n2 : (i : Int) < (lo : Int) := by omega
  clear hn
  go_enter Tryz.func75, Tryz.ntmps75
  go_wp2
  go_quiet (fail)
  go_wp2
  go_ret
  exact ⟨rfl, below_drewM (Below.refl _ _) _⟩
end Go.Kn

namespace Go.Kn
open Go Go.Proofs Go.RowKit

theorem cold {W : World} {o : Obj} {a : Addr} {v : Value} (h : W.cell? a = some v) : (W.alloc o).cell? a = some v := (World.cell?_alloc_lt _ _ _ (World.block_lt_of_cell? _ _ h)).trans h

set_option maxRecDepth 100000 in
set_option maxHeartbeats 2000000 in
theorem needs_w (f c : Int) (na oa : Option Addr) (ln cn lo co i : Nat) (N : Nat → N2) (U : Nat → O3) (X : Nat → Nat → Int) (w : World) (hi : i < lo) (hc : fromB 1 (U i).c c = true) (HR : Hid (TreeP f ln lo N U)) (H : Hid (Tr7 w na oa ln lo N U)) (HX : Hid (XS lo N U X)) :
    Calls Tryz.prog 46 #[.agg #[.int .i64 f, .slice na ln cn, .slice oa lo co], .int .i64 (i : Int), .int .i64 c] w fun e w' => (∃ rn re, e = .returned (.tuple #[.int .i64 rn, .int .i64 re]) ∧ NeedR (fun n => c ≤ X n i) rn re) ∧ Below w.heap.size w w' := by
  have q1 := HR.out.l6
  have q2 := HR.out.lo2
  obtain ⟨WA, hWA⟩ : ∃ WA, WA = ((w.alloc (.cells #[.int .i64 f, .slice na ln cn, .slice oa lo co] 25)).alloc (.cells #[.int .i64 (i : Int)] 3)).alloc (.cells #[.int .i64 c] 3) := ⟨_, rfl⟩
  have hA : Below w.heap.size w WA := by rw [hWA]; exact (((Below.refl _ _).alloc (Nat.le_refl _) _).alloc (by simp) _).alloc (by simp; omega) _
  have hzA : WA.heap.size = w.heap.size + 1 + 1 + 1 := by rw [hWA]; simp
  obtain ⟨C, P, hoa, hC, hn⟩ := H.out.ho.resolve_left (by omega)
  have HB : Hid (∀ w2, Below WA.heap.size WA w2 → w2.cell? ⟨w.heap.size, 0, none⟩ = some (.int .i64 f) ∧ w2.cell? ⟨w.heap.size, 1, none⟩ = some (.slice na ln cn) ∧ w2.cell? ⟨w.heap.size, 2, none⟩ = some (.slice oa lo co) ∧ w2.cell? ⟨w.heap.size + 1, 0, none⟩ = some (.int .i64 (i : Int)) ∧ w2.cell? ⟨w.heap.size + 1 + 1, 0, none⟩ = some (.int .i64 c)) := Lib.hid fun w2 h => by
    obtain ⟨k, _⟩ := bcell h
    have y1 : (w.alloc (.cells #[.int .i64 f, .slice na ln cn, .slice oa lo co] 25)).heap.size = w.heap.size + 1 := by simp
    refine ⟨(k _ _ (by omega)).trans ?_, (k _ _ (by omega)).trans ?_, (k _ _ (by omega)).trans ?_, (k _ _ (by omega)).trans ?_, (k _ _ (by omega)).trans ?_⟩
    · rw [hWA]; exact cold (cold (by simp))
    · rw [hWA]; exact cold (cold (by simp))
    · rw [hWA]; exact cold (cold (by simp))
    · rw [hWA]; exact cold (al_top y1 _ _)
    · rw [hWA]; exact al_top (by simp) _ _
  have HC : Hid (∀ w2, Below WA.heap.size WA w2 → w2.cell? ⟨C, P + i * 3 + 1, none⟩ = some (.int .i64 (U i).c)) := Lib.hid fun w2 h => ((hA.trans (h.mono hA.size)).cell (p := ⟨C, P + i * 3 + 1, none⟩) hC).trans (hn i hi).2.1
  subst hoa
  have HT : Hid (Tr7 WA na (some ⟨C, P, none⟩) ln lo N U) := Lib.hid (H.out.below hA)
  have HIT : Hid (∀ w2, Below WA.heap.size WA w2 → Calls Tryz.prog 61 #[.agg #[.int .i64 f, .slice na ln cn, .slice (some ⟨C, P, none⟩) lo co]] w2 fun e w' => e = .returned (.bool true) ∧ Below WA.heap.size WA w') := Lib.hid fun w2 h => (isTree_w f na _ ln cn lo co N U w2 (by omega) (by omega) (Lib.hid (HT.out.below h))).mono fun e w' ⟨⟨rb, he, hrb⟩, hb⟩ => ⟨by rw [he, hrb.2 HR.out], h.trans (hb.mono h.size)⟩
  have hio : fromB 0 ((lo : Int) - 1) (i : Int) = true := by simp only [fromB, decide_eq_true_eq]; omega
  have HIO : Hid (∀ w2, Below WA.heap.size WA w2 → Calls Tryz.prog 72 #[.agg #[.int .i64 f, .slice na ln cn, .slice (some ⟨C, P, none⟩) lo co], .int .i64 (i : Int)] w2 fun e w' => e = .returned (.bool true) ∧ Below WA.heap.size WA w') := Lib.hid fun w2 h => (isOutlet_w f (i : Int) na _ ln cn lo co w2 (by omega)).mono fun e w' ⟨he, hb⟩ => ⟨by rw [he, hio], h.trans (hb.mono h.size)⟩
  have HFC := Lib.hid hc
  have HSE : Hid (∀ w2, Below WA.heap.size WA w2 → Calls Tryz.prog 85 #[.int .i64 201, .func (.func 86) #[] #[.pointer (some ⟨w.heap.size, 0, none⟩), .pointer (some ⟨w.heap.size + 1, 0, none⟩), .pointer (some ⟨w.heap.size + 1 + 1, 0, none⟩)]] w2 fun e w' => (∃ n : Nat, e = .returned (.int .i64 (n : Int)) ∧ n ≤ 201 ∧ (n = 0 ∨ decide (c ≤ X (n - 1) i) = false) ∧ (n = 201 ∨ decide (c ≤ X n i) = true)) ∧ Below WA.heap.size WA w') := Lib.hid fun w2 h =>
    search_w (fun n => decide (c ≤ X n i)) _ _ _ WA w2 h (Lib.hid fun w3 k hk h3 => needs1_w f (k : Int) c na _ ln cn lo co i _ _ _ N U (X k) WA w3 h3 ⟨by omega, by omega⟩ hi HR HT (Lib.hid (HX.out k (by omega))) HB)
  have HM : Hid (∀ n m : Nat, n ≤ m → m ≤ 200 → c ≤ X n i → c ≤ X m i) := Lib.hid fun n m h hm hn => Int.le_trans hn (xs_mono HR.out HX.out h hm i)
  have HA := Lib.hid hA
  have n1 : (0 : Int) ≤ (i : Int) := by omega
  have n2 : (i : Int) < (lo : Int) := by omega
  clear hn hA hzA hio hc
  have hmx : Tryz.prog.follows .mixedOrders = true := by kernel_rfl
  obtain ⟨z1, z2, z3, z4, z5⟩ := HB.out WA (Below.refl _ _)
  go_enter Tryz.func46, Tryz.ntmps46
  go_wp2
  rw [← hWA]
  clear hWA
  refine wp_region_calm (W := WA) hmx (by kernel_rfl) (Below.refl _ _) ?_
  repeat (first
    | (refine calm_no (by rfl) ?_
       (try simp only [Act.put, List.setIfInBounds_toArray, List.set_cons_zero, List.set_cons_succ]))
    | (apply calm_yes
       focus rfl
       focus
         intro w' hw'
         obtain ⟨z1, z2, z3, z4, z5⟩ := HB.out w' hw'
         have z6 := HC.out w' hw'
         go_simp
         first
           | done
           | with_reducible rfl
           | (go_at_call 61; exact HIT.out w' hw')
           | (go_at_call 72; exact HIO.out w' hw')
           | (go_at_call 84; refine (isFrom_w _ _ _ _).mono ?_; rintro e w'' ⟨rfl, rfl⟩; exact ⟨rfl, hw'⟩)
           | fail
       (try simp only [Act.put, List.setIfInBounds_toArray, List.set_cons_zero, List.set_cons_succ])))
  refine calm_nil ?_
  intro w7 hb7
  rw [HFC.out]
  have HB7 := Lib.hid hb7
  clear hb7 z1 z2 z3 z4 z5
  obtain ⟨z1, z2, z3, z4, z5⟩ := HB.out w7 HB7.out
  go_wp2_with (first
    | (go_at_call 85; refine (HSE.out w7 HB7.out).mono ?_; rintro e w8 ⟨⟨n, rfl, hn1, hn2, hn3⟩, hb8⟩; have HN := Lib.hid (And.intro hn1 (And.intro hn2 hn3)); have HB8 := Lib.hid hb8; clear hn1 hn2 hn3 hb8)
    | (go_at_call 82; refine (areCups_w _ _).mono ?_; rintro e w9 ⟨rfl, rfl⟩; cases hfb : fromB 0 200 (n : Int) <;> (have HFB := Lib.hid hfb; clear hfb)))
  · refine bodyPost_ret (v := .tuple #[.int .i64 0, .int .i64 5]) (by simp [results, Tryz.results46, go_sem]) rfl ?_
    obtain ⟨hn1, hn2, hn3⟩ := HN.out
    have h9 := HFB.out
    simp only [fromB, decide_eq_false_iff_not] at h9
    obtain rfl : n = 201 := by omega
    have h2 : ¬ c ≤ X 200 i := by rcases hn2 with h | h; · cases h
                                  · simpa using h
    exact ⟨⟨0, 5, rfl, .inr ⟨rfl, rfl, fun m hm hp => h2 (HM.out m 200 hm (Nat.le_refl _) hp)⟩⟩, HA.out.trans (HB8.out.mono HA.out.size)⟩
  · refine bodyPost_ret (v := .tuple #[.int .i64 (n : Int), .int .i64 0]) (by simp [results, Tryz.results46, go_sem]) rfl ?_
    obtain ⟨hn1, hn2, hn3⟩ := HN.out
    have h9 := HFB.out
    simp only [fromB, decide_eq_true_eq] at h9
    have h3 : c ≤ X n i := by rcases hn3 with h | h; · omega
                              · simpa using h
    refine ⟨⟨(n : Int), 0, rfl, .inl ⟨rfl, n, rfl, by omega, h3, fun m hm hp => ?_⟩⟩, HA.out.trans (HB8.out.mono HA.out.size)⟩
    rcases hn2 with h | h
    · omega
    · exact absurd (HM.out m (n - 1) (by omega) (by omega) hp) (by simpa using h)
end Go.Kn

namespace Go.Kn
open Go Go.Proofs Go.RowKit

/-- the boxes of Needs -/
structure NB (w w2 : World) (f z c : Int) (na oa : Option Addr) (ln cn lo co : Nat) : Prop where
  c0 : w2.cell? ⟨w.heap.size, 0, none⟩ = some (.int .i64 f)
  c1 : w2.cell? ⟨w.heap.size, 1, none⟩ = some (.slice na ln cn)
  c2 : w2.cell? ⟨w.heap.size, 2, none⟩ = some (.slice oa lo co)
  c3 : w2.cell? ⟨w.heap.size + 1, 0, none⟩ = some (.int .i64 z)
  c4 : w2.cell? ⟨w.heap.size + 1 + 1, 0, none⟩ = some (.int .i64 c)
def NW (w : World) (f z c : Int) (na oa : Option Addr) (ln cn lo co : Nat) : World := ((w.alloc (.cells #[.int .i64 f, .slice na ln cn, .slice oa lo co] 25)).alloc (.cells #[.int .i64 z] 3)).alloc (.cells #[.int .i64 c] 3)
theorem nw_below (w : World) (f z c : Int) (na oa : Option Addr) (ln cn lo co : Nat) : Below w.heap.size w (NW w f z c na oa ln cn lo co) := (((Below.refl _ _).alloc (Nat.le_refl _) _).alloc (by simp) _).alloc (by simp; omega) _
theorem nw_box {w w2 : World} {f z c : Int} {na oa : Option Addr} {ln cn lo co : Nat} (h : Below (NW w f z c na oa ln cn lo co).heap.size (NW w f z c na oa ln cn lo co) w2) : NB w w2 f z c na oa ln cn lo co := by
  obtain ⟨k, _⟩ := bcell h
  have hz : (NW w f z c na oa ln cn lo co).heap.size = w.heap.size + 1 + 1 + 1 := by simp [NW]
  have y1 : (w.alloc (.cells #[.int .i64 f, .slice na ln cn, .slice oa lo co] 25)).heap.size = w.heap.size + 1 := by simp
  refine ⟨(k _ _ (by omega)).trans ?_, (k _ _ (by omega)).trans ?_, (k _ _ (by omega)).trans ?_, (k _ _ (by omega)).trans ?_, (k _ _ (by omega)).trans ?_⟩
  · exact cold (cold (by simp))
  · exact cold (cold (by simp))
  · exact cold (cold (by simp))
  · exact cold (al_top y1 _ _)
  · exact al_top (by simp) _ _

set_option maxRecDepth 100000 in
set_option maxHeartbeats 2000000 in
theorem needs_bad1 (f z c : Int) (na oa : Option Addr) (ln cn lo co : Nat) (N : Nat → N2) (U : Nat → O3) (w : World) (hls : ln ≤ 1000000) (hlt : lo ≤ 1000000) (H : Hid (Tr7 w na oa ln lo N U)) (HR : Hid (¬ TreeP f ln lo N U)) :
    Calls Tryz.prog 46 #[.agg #[.int .i64 f, .slice na ln cn, .slice oa lo co], .int .i64 z, .int .i64 c] w fun e w' => e = .returned (.tuple #[.int .i64 0, .int .i64 2]) ∧ Below w.heap.size w w' := by
  have hmx : Tryz.prog.follows .mixedOrders = true := by kernel_rfl
  obtain ⟨WA, hWA⟩ : ∃ WA, WA = NW w f z c na oa ln cn lo co := ⟨_, rfl⟩
  have hA : Below w.heap.size w WA := by rw [hWA]; exact nw_below ..
  have HB : Hid (∀ w2, Below WA.heap.size WA w2 → NB w w2 f z c na oa ln cn lo co) := Lib.hid fun w2 h => by rw [hWA] at h; exact nw_box h
  have HIT : Hid (∀ w2, Below WA.heap.size WA w2 → Calls Tryz.prog 61 #[.agg #[.int .i64 f, .slice na ln cn, .slice oa lo co]] w2 fun e w' => e = .returned (.bool false) ∧ Below WA.heap.size WA w') := Lib.hid fun w2 h => (isTree_w f na oa ln cn lo co N U w2 hls hlt (Lib.hid (H.out.below (hA.trans (h.mono hA.size))))).mono fun e w' ⟨⟨rb, he, hrb⟩, hb⟩ => ⟨by cases rb with | true => exact (HR.out (hrb.1 rfl)).elim | false => exact he, h.trans (hb.mono h.size)⟩
  have HA := Lib.hid hA
  clear hA
  obtain ⟨z1, z2, z3, z4, z5⟩ := HB.out WA (Below.refl _ _)
  unfold NW at hWA
  go_enter Tryz.func46, Tryz.ntmps46
  go_wp2
  rw [← hWA]
  clear hWA
  refine wp_region_calm (W := WA) hmx (by kernel_rfl) (Below.refl _ _) ?_
  repeat (first
    | (refine calm_no (by rfl) ?_
       (try simp only [Act.put, List.setIfInBounds_toArray, List.set_cons_zero, List.set_cons_succ]))
    | (apply calm_yes
       focus rfl
       focus
         intro w' hw'
         obtain ⟨z1, z2, z3, z4, z5⟩ := HB.out w' hw'
         go_simp
         first
           | done
           | with_reducible rfl
           | (go_at_call 61; exact HIT.out w' hw')
           | fail
       (try simp only [Act.put, List.setIfInBounds_toArray, List.set_cons_zero, List.set_cons_succ])))
  refine calm_nil ?_
  intro w7 hqw7
  have HB7 := Lib.hid hqw7
  clear hqw7 z1 z2 z3 z4 z5
  go_wp2
  refine bodyPost_ret (v := .tuple #[.int .i64 0, .int .i64 2]) (by simp [results, Tryz.results46, go_sem]) rfl ⟨rfl, HA.out.trans (HB7.out.mono HA.out.size)⟩

set_option maxRecDepth 100000 in
set_option maxHeartbeats 2000000 in
theorem needs_bad2 (f z c : Int) (na oa : Option Addr) (ln cn lo co : Nat) (N : Nat → N2) (U : Nat → O3) (w : World) (hls : ln ≤ 1000000) (hlt : lo ≤ 1000000) (H : Hid (Tr7 w na oa ln lo N U)) (HR : Hid (TreeP f ln lo N U)) (HO : Hid (fromB 0 ((lo : Int) - 1) z = false)) :
    Calls Tryz.prog 46 #[.agg #[.int .i64 f, .slice na ln cn, .slice oa lo co], .int .i64 z, .int .i64 c] w fun e w' => e = .returned (.tuple #[.int .i64 0, .int .i64 2]) ∧ Below w.heap.size w w' := by
  have hmx : Tryz.prog.follows .mixedOrders = true := by kernel_rfl
  obtain ⟨WA, hWA⟩ : ∃ WA, WA = NW w f z c na oa ln cn lo co := ⟨_, rfl⟩
  have hA : Below w.heap.size w WA := by rw [hWA]; exact nw_below ..
  have HB : Hid (∀ w2, Below WA.heap.size WA w2 → NB w w2 f z c na oa ln cn lo co) := Lib.hid fun w2 h => by rw [hWA] at h; exact nw_box h
  have HIT : Hid (∀ w2, Below WA.heap.size WA w2 → Calls Tryz.prog 61 #[.agg #[.int .i64 f, .slice na ln cn, .slice oa lo co]] w2 fun e w' => e = .returned (.bool true) ∧ Below WA.heap.size WA w') := Lib.hid fun w2 h => (isTree_w f na oa ln cn lo co N U w2 hls hlt (Lib.hid (H.out.below (hA.trans (h.mono hA.size))))).mono fun e w' ⟨⟨rb, he, hrb⟩, hb⟩ => ⟨by rw [he, hrb.2 HR.out], h.trans (hb.mono h.size)⟩
  have HIO : Hid (∀ w2, Below WA.heap.size WA w2 → Calls Tryz.prog 72 #[.agg #[.int .i64 f, .slice na ln cn, .slice oa lo co], .int .i64 z] w2 fun e w' => e = .returned (.bool false) ∧ Below WA.heap.size WA w') := Lib.hid fun w2 h => (isOutlet_w f z na oa ln cn lo co w2 hlt).mono fun e w' ⟨he, hb⟩ => ⟨by rw [he, HO.out], h.trans (hb.mono h.size)⟩
  have HA := Lib.hid hA
  clear hA
  obtain ⟨z1, z2, z3, z4, z5⟩ := HB.out WA (Below.refl _ _)
  unfold NW at hWA
  go_enter Tryz.func46, Tryz.ntmps46
  go_wp2
  rw [← hWA]
  clear hWA
  refine wp_region_calm (W := WA) hmx (by kernel_rfl) (Below.refl _ _) ?_
  repeat (first
    | (refine calm_no (by rfl) ?_
       (try simp only [Act.put, List.setIfInBounds_toArray, List.set_cons_zero, List.set_cons_succ]))
    | (apply calm_yes
       focus rfl
       focus
         intro w' hw'
         obtain ⟨z1, z2, z3, z4, z5⟩ := HB.out w' hw'
         go_simp
         first
           | done
           | with_reducible rfl
           | (go_at_call 61; exact HIT.out w' hw')
           | (go_at_call 72; exact HIO.out w' hw')
           | fail
       (try simp only [Act.put, List.setIfInBounds_toArray, List.set_cons_zero, List.set_cons_succ])))
  refine calm_nil ?_
  intro w7 hqw7
  have HB7 := Lib.hid hqw7
  clear hqw7 z1 z2 z3 z4 z5
  go_wp2
  refine bodyPost_ret (v := .tuple #[.int .i64 0, .int .i64 2]) (by simp [results, Tryz.results46, go_sem]) rfl ⟨rfl, HA.out.trans (HB7.out.mono HA.out.size)⟩

set_option maxRecDepth 100000 in
set_option maxHeartbeats 2000000 in
theorem needs_bad3 (f z c : Int) (na oa : Option Addr) (ln cn lo co : Nat) (N : Nat → N2) (U : Nat → O3) (w : World) (hls : ln ≤ 1000000) (hlt : lo ≤ 1000000) (H : Hid (Tr7 w na oa ln lo N U)) (HR : Hid (TreeP f ln lo N U)) (hoz : fromB 0 ((lo : Int) - 1) z = true) (HCC : Hid (∀ i : Nat, z = (i : Int) → fromB 1 (U i).c c = false)) :
    Calls Tryz.prog 46 #[.agg #[.int .i64 f, .slice na ln cn, .slice oa lo co], .int .i64 z, .int .i64 c] w fun e w' => e = .returned (.tuple #[.int .i64 0, .int .i64 2]) ∧ Below w.heap.size w w' := by
  have hmx : Tryz.prog.follows .mixedOrders = true := by kernel_rfl
  obtain ⟨WA, hWA⟩ : ∃ WA, WA = NW w f z c na oa ln cn lo co := ⟨_, rfl⟩
  have hA : Below w.heap.size w WA := by rw [hWA]; exact nw_below ..
  have HB : Hid (∀ w2, Below WA.heap.size WA w2 → NB w w2 f z c na oa ln cn lo co) := Lib.hid fun w2 h => by rw [hWA] at h; exact nw_box h
  have HIT : Hid (∀ w2, Below WA.heap.size WA w2 → Calls Tryz.prog 61 #[.agg #[.int .i64 f, .slice na ln cn, .slice oa lo co]] w2 fun e w' => e = .returned (.bool true) ∧ Below WA.heap.size WA w') := Lib.hid fun w2 h => (isTree_w f na oa ln cn lo co N U w2 hls hlt (Lib.hid (H.out.below (hA.trans (h.mono hA.size))))).mono fun e w' ⟨⟨rb, he, hrb⟩, hb⟩ => ⟨by rw [he, hrb.2 HR.out], h.trans (hb.mono h.size)⟩
  have HO : Hid (fromB 0 ((lo : Int) - 1) z = true) := Lib.hid hoz
  have HIO : Hid (∀ w2, Below WA.heap.size WA w2 → Calls Tryz.prog 72 #[.agg #[.int .i64 f, .slice na ln cn, .slice oa lo co], .int .i64 z] w2 fun e w' => e = .returned (.bool true) ∧ Below WA.heap.size WA w') := Lib.hid fun w2 h => (isOutlet_w f z na oa ln cn lo co w2 hlt).mono fun e w' ⟨he, hb⟩ => ⟨by rw [he, HO.out], h.trans (hb.mono h.size)⟩
  obtain ⟨i, rfl, hi⟩ := outlet_nat hoz
  have HC : Hid (fromB 1 (U i).c c = false) := Lib.hid (HCC.out i rfl)
  obtain ⟨C, P, hoa, hC, hn⟩ := H.out.ho.resolve_left (by omega)
  have HCL : Hid (∀ w2, Below WA.heap.size WA w2 → w2.cell? ⟨C, P + i * 3 + 1, none⟩ = some (.int .i64 (U i).c)) := Lib.hid fun w2 h => ((hA.trans (h.mono hA.size)).cell (p := ⟨C, P + i * 3 + 1, none⟩) hC).trans (hn i hi).2.1
  have n1 : (0 : Int) ≤ (i : Int) := by omega
  have n2 : (i : Int) < (lo : Int) := by omega
  subst hoa
  clear hn hoz
  have HA := Lib.hid hA
  clear hA
  obtain ⟨z1, z2, z3, z4, z5⟩ := HB.out WA (Below.refl _ _)
  unfold NW at hWA
  go_enter Tryz.func46, Tryz.ntmps46
  go_wp2
  rw [← hWA]
  clear hWA
  refine wp_region_calm (W := WA) hmx (by kernel_rfl) (Below.refl _ _) ?_
  repeat (first
    | (refine calm_no (by rfl) ?_
       (try simp only [Act.put, List.setIfInBounds_toArray, List.set_cons_zero, List.set_cons_succ]))
    | (apply calm_yes
       focus rfl
       focus
         intro w' hw'
         obtain ⟨z1, z2, z3, z4, z5⟩ := HB.out w' hw'; have z6 := HCL.out w' hw'
         go_simp
         first
           | done
           | with_reducible rfl
           | (go_at_call 61; exact HIT.out w' hw')
           | (go_at_call 72; exact HIO.out w' hw')
           | (go_at_call 84; refine (isFrom_w _ _ _ _).mono ?_; rintro e w'' ⟨rfl, rfl⟩; exact ⟨by rw [HC.out], hw'⟩)
           | fail
       (try simp only [Act.put, List.setIfInBounds_toArray, List.set_cons_zero, List.set_cons_succ])))
  refine calm_nil ?_
  intro w7 hqw7
  have HB7 := Lib.hid hqw7
  clear hqw7 z1 z2 z3 z4 z5
  go_wp2
  refine bodyPost_ret (v := .tuple #[.int .i64 0, .int .i64 2]) (by simp [results, Tryz.results46, go_sem]) rfl ⟨rfl, HA.out.trans (HB7.out.mono HA.out.size)⟩
end Go.Kn
