/- Walks of functions of layer 2 (contracts that the laws of this seat use). Conditions: as each theorem states them. -/
import Derived.Test.YtgjgcgonibldmaaGreatDoorFT
import Derived.Test.YtgjgcgonibldmaaGreatDoorFX
set_option linter.unusedVariables false
set_option linter.unusedSimpArgs false
namespace Go.Kn
open Go Go.Proofs Go.RowKit

theorem Pl.ex : ∀ {ls T S : List Int}, Opt ls T S → ∃ out, Pl ls S out
  | [], _, _, _ => ⟨[], rfl⟩
  | d :: ls, T, S, h => by
    obtain ⟨y0, hy0⟩ := step_exists h
    have key : ∀ n : Nat, ∀ y, y.toNat ≤ n → OkY d ls S y → ∃ y, OkY d ls S y ∧ ∀ z, z < y → ¬ OkY d ls S z := by
      intro n
      induction n with
      | zero =>
        intro y hy ho
        refine ⟨y, ho, fun z hz hz' => ?_⟩
        have := h.nonneg z hz'.1
        omega
      | succ n ih =>
        intro y hy ho
        by_cases hex : ∃ z, z < y ∧ OkY d ls S z
        · obtain ⟨z, hz, hz'⟩ := hex
          have := h.nonneg z hz'.1
          exact ih z (by omega) hz'
        · exact ⟨y, ho, fun z hz hz' => hex ⟨z, hz, hz'⟩⟩
    obtain ⟨y, hy, hm⟩ := key y0.toNat y0 (Nat.le_refl _) hy0
    obtain ⟨r, hr⟩ := Pl.ex (step_opt h hy)
    exact ⟨y :: r, y, r, rfl, hy, hm, hr⟩

theorem IntSl.congr {w : World} {p : Option Addr} {n : Nat} {f f' : Nat → Int} (h : IntSl w p n f) (he : ∀ i, i < n → f i = f' i) : IntSl w p n f' := by
  rcases h with h | ⟨A, O, h1, h2, h3⟩
  · exact .inl h
  · exact .inr ⟨A, O, h1, h2, fun i hi => by rw [← he i hi]; exact h3 i hi⟩

theorem upto_getD' (f : Nat → Int) (n i : Nat) (h : i < n) : (upto f n).getD i 0 = f i := by
  unfold upto
  simp [List.getD, h]

set_option maxHeartbeats 400000 in
theorem until_w (c : Int) (w : World) : Calls Tryz.prog 17 #[.int .i64 c] w fun e w' => e = .returned (.bool (fromB 0 40 c)) ∧ w = w' := by
  go_enter Tryz.func17, Tryz.ntmps17
  go_wp2_with (go_at_call 43; refine (in_w _ _ _ _).mono ?_; rintro e w1 ⟨rfl, rfl⟩)
  go_ret
  exact ⟨rfl, rfl⟩

section
variable {A O C P ls lt : Nat} {cs ct : Nat} {D F cq : Nat} {s : Nat → Int} {t : Nat → St5} {g aN : Nat → Int} {bN : Nat → Bool} {nd un : Int} {w : World}

theorem plan_e5 (H : Hid (LineAt w A O C P ls lt s t)) (hD : D < w.heap.size) (HD : Hid (NumAt w D F lt g)) (HQ : Hid (AgeP lt lt g)) (hnd : fromB 1 10000000 nd = true) (hun : fromB 0 40 un = true) (HA : Hid (∀ i, i < lt → Great s (t i) nd (aN i) (bN i)))
    (HE : Hid ((∃ i, i < lt ∧ bN i = false) ∨ NoYears (lst (duF aN g un) (laF aN g) lt) [])) :
    Calls Tryz.prog 14 #[.agg #[.slice (some ⟨A, O, none⟩) ls cs, .slice (some ⟨C, P, none⟩) lt ct], .slice (some ⟨D, F, none⟩) lt cq, .int .i64 nd, .int .i64 un] w
      fun e w' => e = .returned (.tuple #[.slice none 0 0, .int .i64 5]) ∧ Below w.heap.size w w' :=
  (pplan_w A O C P ls cs lt ct D F cq s t g aN bN nd un w H hD HD HQ hnd hun HA).mono (by
    rintro e w' ⟨(⟨_, rfl⟩ | ⟨_, _, rfl⟩ | ⟨h1, ys, out, G, h2, _⟩), hb⟩
    · exact ⟨rfl, hb⟩
    · exact ⟨rfl, hb⟩
    · rcases HE.out with ⟨i, hi, h⟩ | h
      · rw [h1 i hi] at h; cases h
      · exact (noyears_no h ys (greedy_asg h2)).elim)

theorem rplan_no (H : Hid (LineAt w A O C P ls lt s t)) (hD : D < w.heap.size) (HD : Hid (NumAt w D F lt g)) (HQ : Hid (AgeP lt lt g)) (hun : fromB 0 40 un = true) (HA : Hid (∀ i, i < lt → Great s (t i) nd (aN i) (bN i)))
    (HE : Hid ((∃ i, i < lt ∧ bN i = false) ∨ NoYears (lst (duF aN g un) (laF aN g) lt) [])) :
    Calls Tryz.prog 18 #[.agg #[.slice (some ⟨A, O, none⟩) ls cs, .slice (some ⟨C, P, none⟩) lt ct], .slice (some ⟨D, F, none⟩) lt cq, .int .i64 nd, .int .i64 un] w
      fun e w' => e = .returned (.tuple #[.slice none 0 0, .bool false]) ∧ Below w.heap.size w w' :=
  (rplan_w A O C P ls cs lt ct D F cq s t g aN bN nd un w H hD HD HQ hun HA).mono (by
    rintro e w' ⟨(⟨_, rfl⟩ | ⟨_, _, rfl⟩ | ⟨h1, S, out, v, h2, _⟩), hb⟩
    · exact ⟨rfl, hb⟩
    · exact ⟨rfl, hb⟩
    · rcases HE.out with ⟨i, hi, h⟩ | h
      · rw [h1 i hi] at h; cases h
      · obtain ⟨⟨zs, hz, _⟩, _⟩ := h2
        exact (noyears_no h zs hz).elim)

theorem plan_ok {ys OUT : List Int} (H : Hid (LineAt w A O C P ls lt s t)) (hD : D < w.heap.size) (HD : Hid (NumAt w D F lt g)) (HQ : Hid (AgeP lt lt g)) (hnd : fromB 1 10000000 nd = true) (hun : fromB 0 40 un = true) (HA : Hid (∀ i, i < lt → Great s (t i) nd (aN i) (bN i)))
    (HE : Hid (∀ i, i < lt → bN i = true)) (HY : Hid (Greedy (lst (duF aN g un) (laF aN g) lt) [] ys)) (HP : Hid (Pl (lst (duF aN g un) (laF aN g) lt) ys OUT)) :
    Calls Tryz.prog 14 #[.agg #[.slice (some ⟨A, O, none⟩) ls cs, .slice (some ⟨C, P, none⟩) lt ct], .slice (some ⟨D, F, none⟩) lt cq, .int .i64 nd, .int .i64 un] w
      fun e w' => (∃ G, e = .returned (.tuple #[.slice (some ⟨G, 0, none⟩) lt lt, .int .i64 0]) ∧ G < w'.heap.size ∧ NumAt w' G 0 lt (plF (duF aN g un) OUT (cnt (duF aN g un) lt))) ∧ Below w.heap.size w w' :=
  (pplan_w A O C P ls cs lt ct D F cq s t g aN bN nd un w H hD HD HQ hnd hun HA).mono (by
    rintro e w' ⟨(⟨⟨i, hi, h⟩, rfl⟩ | ⟨_, h, rfl⟩ | ⟨h1, ys', out, G, h2, h3, rfl, h4, h5, h6⟩), hb⟩
    · rw [HE.out i hi] at h; cases h
    · exact (noyears_no h ys (greedy_asg HY.out)).elim
    · obtain rfl := greedy_same HY.out h2
      obtain rfl := Pl.same (List.Perm.refl _) HP.out h3
      exact ⟨⟨G, rfl, h5, h6⟩, hb⟩)

theorem rplan_ok {ys OUT : List Int} (H : Hid (LineAt w A O C P ls lt s t)) (hD : D < w.heap.size) (HD : Hid (NumAt w D F lt g)) (HQ : Hid (AgeP lt lt g)) (hun : fromB 0 40 un = true) (HA : Hid (∀ i, i < lt → Great s (t i) nd (aN i) (bN i)))
    (HE : Hid (∀ i, i < lt → bN i = true)) (HY : Hid (Greedy (lst (duF aN g un) (laF aN g) lt) [] ys)) (HP : Hid (Pl (lst (duF aN g un) (laF aN g) lt) ys OUT)) :
    Calls Tryz.prog 18 #[.agg #[.slice (some ⟨A, O, none⟩) ls cs, .slice (some ⟨C, P, none⟩) lt ct], .slice (some ⟨D, F, none⟩) lt cq, .int .i64 nd, .int .i64 un] w
      fun e w' => (∃ sx cx, e = .returned (.tuple #[.slice sx lt cx, .bool true]) ∧ IntSl w' sx lt (plF (duF aN g un) OUT (cnt (duF aN g un) lt))) ∧ Below w.heap.size w w' :=
  (rplan_w A O C P ls cs lt ct D F cq s t g aN bN nd un w H hD HD HQ hun HA).mono (by
    rintro e w' ⟨(⟨⟨i, hi, h⟩, rfl⟩ | ⟨_, h, rfl⟩ | ⟨h1, S, out, v, h2, h3, rfl, h4⟩), hb⟩
    · rw [HE.out i hi] at h; cases h
    · exact (noyears_no h ys (greedy_asg HY.out)).elim
    · obtain rfl := Pl.same ((greedy_opt HY.out).same h2) HP.out h3
      obtain ⟨sx, cx, rfl, _, h5⟩ := intSl_of_owns h4
      exact ⟨⟨sx, cx, rfl, h5.congr (fun i hi => upto_getD' _ _ _ hi)⟩, hb⟩)
end

set_option maxRecDepth 100000 in
set_option maxHeartbeats 1000000 in
theorem planF1 (sa ta sq : Option Addr) (ls cs lt ct lq cq : Nat) (s : Nat → Int) (t : Nat → St5) (g : Nat → Int) (nd un : Int) (w : World) (hls : ls ≤ 1000000) (hlt : lt ≤ 1000000) (hlq : lq ≤ maxLen) (H : Hid (AnyLine w sa ta ls lt s t)) (HS : Hid (IntSl w sq lq g)) (HR : Hid (¬ RightP ls lt s t)) :
    Calls Tryz.prog 14 #[.agg #[.slice sa ls cs, .slice ta lt ct], .slice sq lq cq, .int .i64 nd, .int .i64 un] w
      fun e w' => e = .returned (.tuple #[.slice none 0 0, .int .i64 2]) ∧ Below w.heap.size w w' := by
  have BX := Lib.hid (fun (w1 : World) (hb : Below (w.alloc (.cells #[.slice sa ls cs, .slice ta lt ct] 25)).heap.size (w.alloc (.cells #[.slice sa ls cs, .slice ta lt ct] 25)) w1) => box_cells hb)
  have HN : Hid (∀ w1, Below (w.alloc (.cells #[.slice sa ls cs, .slice ta lt ct] 25)).heap.size (w.alloc (.cells #[.slice sa ls cs, .slice ta lt ct] 25)) w1 → Hid (AnyLine w1 sa ta ls lt s t)) := Lib.hid fun w1 h => Lib.hid (H.out.below (below_al h))
  have HI : Hid (∀ w1, Below (w.alloc (.cells #[.slice sa ls cs, .slice ta lt ct] 25)).heap.size (w.alloc (.cells #[.slice sa ls cs, .slice ta lt ct] 25)) w1 → Hid (IntSl w1 sq lq g)) := Lib.hid fun w1 h => Lib.hid (HS.out.below (below_al h))
  have hb : Below (w.alloc (.cells #[.slice sa ls cs, .slice ta lt ct] 25)).heap.size (w.alloc (.cells #[.slice sa ls cs, .slice ta lt ct] 25)) (w.alloc (.cells #[.slice sa ls cs, .slice ta lt ct] 25)) := Below.refl _ _
  obtain ⟨x1, x2, x3⟩ := BX.out _ hb
  clear H HS
  go_enter Tryz.func14, Tryz.ntmps14
  go_wp2_with (first
    | (go_at_call 38; refine (isLine2_w _ _ _ _ _ _ s t _ hls hlt (HN.out _ hb)).mono ?_; rintro e wl ⟨⟨rb, rfl, hrb⟩, hv⟩; obtain rfl : rb = false := (by cases rb <;> first | rfl | exact (HR.out (hrb.1 rfl)).elim); clear hrb; replace hb := hb.trans (hv.mono hb.size); clear x1 x2 x3; obtain ⟨x1, x2, x3⟩ := BX.out _ hb))
  refine bodyPost_ret (v := .tuple #[.slice none 0 0, .int .i64 2]) (by simp [results, Tryz.results14, go_sem]) rfl ?_
  exact ⟨rfl, below_al hb⟩

set_option maxRecDepth 100000 in
set_option maxHeartbeats 1000000 in
theorem planF2 (sa ta sq : Option Addr) (ls cs lt ct lq cq : Nat) (s : Nat → Int) (t : Nat → St5) (g : Nat → Int) (nd un : Int) (w : World) (hls : ls ≤ 1000000) (hlt : lt ≤ 1000000) (hlq : lq ≤ maxLen) (H : Hid (AnyLine w sa ta ls lt s t)) (HS : Hid (IntSl w sq lq g)) (HR : Hid (RightP ls lt s t)) (HQ : Hid (¬ AgeP lt lq g)) :
    Calls Tryz.prog 14 #[.agg #[.slice sa ls cs, .slice ta lt ct], .slice sq lq cq, .int .i64 nd, .int .i64 un] w
      fun e w' => e = .returned (.tuple #[.slice none 0 0, .int .i64 2]) ∧ Below w.heap.size w w' := by
  have BX := Lib.hid (fun (w1 : World) (hb : Below (w.alloc (.cells #[.slice sa ls cs, .slice ta lt ct] 25)).heap.size (w.alloc (.cells #[.slice sa ls cs, .slice ta lt ct] 25)) w1) => box_cells hb)
  have HN : Hid (∀ w1, Below (w.alloc (.cells #[.slice sa ls cs, .slice ta lt ct] 25)).heap.size (w.alloc (.cells #[.slice sa ls cs, .slice ta lt ct] 25)) w1 → Hid (AnyLine w1 sa ta ls lt s t)) := Lib.hid fun w1 h => Lib.hid (H.out.below (below_al h))
  have HI : Hid (∀ w1, Below (w.alloc (.cells #[.slice sa ls cs, .slice ta lt ct] 25)).heap.size (w.alloc (.cells #[.slice sa ls cs, .slice ta lt ct] 25)) w1 → Hid (IntSl w1 sq lq g)) := Lib.hid fun w1 h => Lib.hid (HS.out.below (below_al h))
  have hb : Below (w.alloc (.cells #[.slice sa ls cs, .slice ta lt ct] 25)).heap.size (w.alloc (.cells #[.slice sa ls cs, .slice ta lt ct] 25)) (w.alloc (.cells #[.slice sa ls cs, .slice ta lt ct] 25)) := Below.refl _ _
  obtain ⟨x1, x2, x3⟩ := BX.out _ hb
  clear H HS
  go_enter Tryz.func14, Tryz.ntmps14
  go_wp2_with (first
    | (go_at_call 38; refine (isLine2_w _ _ _ _ _ _ s t _ hls hlt (HN.out _ hb)).mono ?_; rintro e wl ⟨⟨rb, rfl, hrb⟩, hv⟩; obtain rfl : rb = true := hrb.2 HR.out; clear hrb; replace hb := hb.trans (hv.mono hb.size); clear x1 x2 x3; obtain ⟨x1, x2, x3⟩ := BX.out _ hb)
    | (go_at_call 46; refine (areAges_w _ _ _ _ _ _ _ g _ ⟨HR.out.lt1, hlt⟩ hlq (HI.out _ hb)).mono ?_; rintro e wl ⟨⟨rb, rfl, hrb⟩, hv⟩; obtain rfl : rb = false := (by cases rb <;> first | rfl | exact (HQ.out (hrb.1 rfl)).elim); clear hrb; replace hb := hb.trans (hv.mono hb.size); clear x1 x2 x3; obtain ⟨x1, x2, x3⟩ := BX.out _ hb))
  refine bodyPost_ret (v := .tuple #[.slice none 0 0, .int .i64 2]) (by simp [results, Tryz.results14, go_sem]) rfl ?_
  exact ⟨rfl, below_al hb⟩

set_option maxRecDepth 100000 in
set_option maxHeartbeats 1000000 in
theorem planF3 (sa ta sq : Option Addr) (ls cs lt ct lq cq : Nat) (s : Nat → Int) (t : Nat → St5) (g : Nat → Int) (nd un : Int) (w : World) (hls : ls ≤ 1000000) (hlt : lt ≤ 1000000) (hlq : lq ≤ maxLen) (H : Hid (AnyLine w sa ta ls lt s t)) (HS : Hid (IntSl w sq lq g)) (HR : Hid (RightP ls lt s t)) (HQ : Hid (AgeP lt lq g)) (g1 : fromB 1 10000000 nd = false) :
    Calls Tryz.prog 14 #[.agg #[.slice sa ls cs, .slice ta lt ct], .slice sq lq cq, .int .i64 nd, .int .i64 un] w
      fun e w' => e = .returned (.tuple #[.slice none 0 0, .int .i64 2]) ∧ Below w.heap.size w w' := by
  have BX := Lib.hid (fun (w1 : World) (hb : Below (w.alloc (.cells #[.slice sa ls cs, .slice ta lt ct] 25)).heap.size (w.alloc (.cells #[.slice sa ls cs, .slice ta lt ct] 25)) w1) => box_cells hb)
  have HN : Hid (∀ w1, Below (w.alloc (.cells #[.slice sa ls cs, .slice ta lt ct] 25)).heap.size (w.alloc (.cells #[.slice sa ls cs, .slice ta lt ct] 25)) w1 → Hid (AnyLine w1 sa ta ls lt s t)) := Lib.hid fun w1 h => Lib.hid (H.out.below (below_al h))
  have HI : Hid (∀ w1, Below (w.alloc (.cells #[.slice sa ls cs, .slice ta lt ct] 25)).heap.size (w.alloc (.cells #[.slice sa ls cs, .slice ta lt ct] 25)) w1 → Hid (IntSl w1 sq lq g)) := Lib.hid fun w1 h => Lib.hid (HS.out.below (below_al h))
  have hb : Below (w.alloc (.cells #[.slice sa ls cs, .slice ta lt ct] 25)).heap.size (w.alloc (.cells #[.slice sa ls cs, .slice ta lt ct] 25)) (w.alloc (.cells #[.slice sa ls cs, .slice ta lt ct] 25)) := Below.refl _ _
  obtain ⟨x1, x2, x3⟩ := BX.out _ hb
  clear H HS
  go_enter Tryz.func14, Tryz.ntmps14
  go_wp2_with (first
    | (go_at_call 38; refine (isLine2_w _ _ _ _ _ _ s t _ hls hlt (HN.out _ hb)).mono ?_; rintro e wl ⟨⟨rb, rfl, hrb⟩, hv⟩; obtain rfl : rb = true := hrb.2 HR.out; clear hrb; replace hb := hb.trans (hv.mono hb.size); clear x1 x2 x3; obtain ⟨x1, x2, x3⟩ := BX.out _ hb)
    | (go_at_call 46; refine (areAges_w _ _ _ _ _ _ _ g _ ⟨HR.out.lt1, hlt⟩ hlq (HI.out _ hb)).mono ?_; rintro e wl ⟨⟨rb, rfl, hrb⟩, hv⟩; obtain rfl : rb = true := hrb.2 HQ.out; clear hrb; replace hb := hb.trans (hv.mono hb.size); clear x1 x2 x3; obtain ⟨x1, x2, x3⟩ := BX.out _ hb)
    | (go_at_call 47; refine (isNeed_w _ _).mono ?_; rintro e w' ⟨rfl, rfl⟩))
  refine bodyPost_ret (v := .tuple #[.slice none 0 0, .int .i64 2]) (by simp [results, Tryz.results14, go_sem]) rfl ?_
  exact ⟨rfl, below_al hb⟩

set_option maxRecDepth 100000 in
set_option maxHeartbeats 1000000 in
theorem planF4 (sa ta sq : Option Addr) (ls cs lt ct lq cq : Nat) (s : Nat → Int) (t : Nat → St5) (g : Nat → Int) (nd un : Int) (w : World) (hls : ls ≤ 1000000) (hlt : lt ≤ 1000000) (hlq : lq ≤ maxLen) (H : Hid (AnyLine w sa ta ls lt s t)) (HS : Hid (IntSl w sq lq g)) (HR : Hid (RightP ls lt s t)) (HQ : Hid (AgeP lt lq g)) (g1 : fromB 1 10000000 nd = true) (g2 : fromB 0 40 un = false) :
    Calls Tryz.prog 14 #[.agg #[.slice sa ls cs, .slice ta lt ct], .slice sq lq cq, .int .i64 nd, .int .i64 un] w
      fun e w' => e = .returned (.tuple #[.slice none 0 0, .int .i64 2]) ∧ Below w.heap.size w w' := by
  have BX := Lib.hid (fun (w1 : World) (hb : Below (w.alloc (.cells #[.slice sa ls cs, .slice ta lt ct] 25)).heap.size (w.alloc (.cells #[.slice sa ls cs, .slice ta lt ct] 25)) w1) => box_cells hb)
  have HN : Hid (∀ w1, Below (w.alloc (.cells #[.slice sa ls cs, .slice ta lt ct] 25)).heap.size (w.alloc (.cells #[.slice sa ls cs, .slice ta lt ct] 25)) w1 → Hid (AnyLine w1 sa ta ls lt s t)) := Lib.hid fun w1 h => Lib.hid (H.out.below (below_al h))
  have HI : Hid (∀ w1, Below (w.alloc (.cells #[.slice sa ls cs, .slice ta lt ct] 25)).heap.size (w.alloc (.cells #[.slice sa ls cs, .slice ta lt ct] 25)) w1 → Hid (IntSl w1 sq lq g)) := Lib.hid fun w1 h => Lib.hid (HS.out.below (below_al h))
  have hb : Below (w.alloc (.cells #[.slice sa ls cs, .slice ta lt ct] 25)).heap.size (w.alloc (.cells #[.slice sa ls cs, .slice ta lt ct] 25)) (w.alloc (.cells #[.slice sa ls cs, .slice ta lt ct] 25)) := Below.refl _ _
  obtain ⟨x1, x2, x3⟩ := BX.out _ hb
  clear H HS
  go_enter Tryz.func14, Tryz.ntmps14
  go_wp2_with (first
    | (go_at_call 38; refine (isLine2_w _ _ _ _ _ _ s t _ hls hlt (HN.out _ hb)).mono ?_; rintro e wl ⟨⟨rb, rfl, hrb⟩, hv⟩; obtain rfl : rb = true := hrb.2 HR.out; clear hrb; replace hb := hb.trans (hv.mono hb.size); clear x1 x2 x3; obtain ⟨x1, x2, x3⟩ := BX.out _ hb)
    | (go_at_call 46; refine (areAges_w _ _ _ _ _ _ _ g _ ⟨HR.out.lt1, hlt⟩ hlq (HI.out _ hb)).mono ?_; rintro e wl ⟨⟨rb, rfl, hrb⟩, hv⟩; obtain rfl : rb = true := hrb.2 HQ.out; clear hrb; replace hb := hb.trans (hv.mono hb.size); clear x1 x2 x3; obtain ⟨x1, x2, x3⟩ := BX.out _ hb)
    | (go_at_call 47; refine (isNeed_w _ _).mono ?_; rintro e w' ⟨rfl, rfl⟩)
    | (go_at_call 48; refine (isFrom_w _ _ _ _).mono ?_; rintro e w' ⟨rfl, rfl⟩))
  refine bodyPost_ret (v := .tuple #[.slice none 0 0, .int .i64 2]) (by simp [results, Tryz.results14, go_sem]) rfl ?_
  exact ⟨rfl, below_al hb⟩

set_option maxRecDepth 100000 in
set_option maxHeartbeats 2000000 in
theorem lawpl_a (sa ta sq : Option Addr) (ls cs lt ct lq cq : Nat) (s : Nat → Int) (t : Nat → St5) (g : Nat → Int) (nd un : Int) (w : World) (hls : ls ≤ maxLen) (hlt : lt ≤ maxLen) (hlq : lq ≤ maxLen) (H : Hid (AnyLine w sa ta ls lt s t)) (HS : Hid (IntSl w sq lq g)) (K : Hid KnownOk) (hq : ¬ (ls ≤ 13 ∧ lt ≤ 10)) :
    Calls Tryz.prog 4 #[.agg #[.slice sa ls cs, .slice ta lt ct], .slice sq lq cq, .int .i64 nd, .int .i64 un] w
      fun e w' => e = .returned (.bool true) ∧ Below w.heap.size w w' := by
  have hsh : decide (ls ≤ 13 ∧ lt ≤ 10) = false := decide_eq_false hq
  have BX := Lib.hid (fun (w1 : World) (hb : Below (w.alloc (.cells #[.slice sa ls cs, .slice ta lt ct] 25)).heap.size (w.alloc (.cells #[.slice sa ls cs, .slice ta lt ct] 25)) w1) => box_cells hb)
  have HN : Hid (∀ w1, Below (w.alloc (.cells #[.slice sa ls cs, .slice ta lt ct] 25)).heap.size (w.alloc (.cells #[.slice sa ls cs, .slice ta lt ct] 25)) w1 → Hid (AnyLine w1 sa ta ls lt s t)) := Lib.hid fun w1 h => Lib.hid (H.out.below (below_al h))
  have HI : Hid (∀ w1, Below (w.alloc (.cells #[.slice sa ls cs, .slice ta lt ct] 25)).heap.size (w.alloc (.cells #[.slice sa ls cs, .slice ta lt ct] 25)) w1 → Hid (IntSl w1 sq lq g)) := Lib.hid fun w1 h => Lib.hid (HS.out.below (below_al h))
  have hb : Below (w.alloc (.cells #[.slice sa ls cs, .slice ta lt ct] 25)).heap.size (w.alloc (.cells #[.slice sa ls cs, .slice ta lt ct] 25)) (w.alloc (.cells #[.slice sa ls cs, .slice ta lt ct] 25)) := Below.refl _ _
  obtain ⟨x1, x2, x3⟩ := BX.out _ hb
  clear H HS
  go_enter Tryz.func4, Tryz.ntmps4
  go_wp2_with (first
    | (go_at_call 6; refine (short_w _ _ _ _ _ _ _ hls hlt).mono ?_; rw [hsh]; rintro e wl ⟨rfl, hv⟩; replace hb := hb.trans (hv.mono hb.size); clear x1 x2 x3; obtain ⟨x1, x2, x3⟩ := BX.out _ hb)
    | (go_at_call 7; refine (K.out _).mono ?_; rintro e wl ⟨rfl, hv⟩; replace hb := hb.trans (hv.mono hb.size); clear x1 x2 x3; obtain ⟨x1, x2, x3⟩ := BX.out _ hb)    )
  go_ret
  exact ⟨rfl, below_al hb⟩

set_option maxRecDepth 100000 in
set_option maxHeartbeats 2000000 in
theorem lawpl_b (sa ta sq : Option Addr) (ls cs lt ct lq cq : Nat) (s : Nat → Int) (t : Nat → St5) (g : Nat → Int) (nd un : Int) (w : World) (hls : ls ≤ 1000000) (hlt : lt ≤ 1000000) (hlq : lq ≤ maxLen) (H : Hid (AnyLine w sa ta ls lt s t)) (HS : Hid (IntSl w sq lq g)) (K : Hid KnownOk) (hq : ls ≤ 13 ∧ lt ≤ 10) (hqq : ¬ lq ≤ 10) :
    Calls Tryz.prog 4 #[.agg #[.slice sa ls cs, .slice ta lt ct], .slice sq lq cq, .int .i64 nd, .int .i64 un] w
      fun e w' => e = .returned (.bool true) ∧ Below w.heap.size w w' := by
  have hsh : decide (ls ≤ 13 ∧ lt ≤ 10) = true := decide_eq_true hq
  have hq10 : (10 : Int) < (lq : Int) := by omega
  have BX := Lib.hid (fun (w1 : World) (hb : Below (w.alloc (.cells #[.slice sa ls cs, .slice ta lt ct] 25)).heap.size (w.alloc (.cells #[.slice sa ls cs, .slice ta lt ct] 25)) w1) => box_cells hb)
  have HN : Hid (∀ w1, Below (w.alloc (.cells #[.slice sa ls cs, .slice ta lt ct] 25)).heap.size (w.alloc (.cells #[.slice sa ls cs, .slice ta lt ct] 25)) w1 → Hid (AnyLine w1 sa ta ls lt s t)) := Lib.hid fun w1 h => Lib.hid (H.out.below (below_al h))
  have HI : Hid (∀ w1, Below (w.alloc (.cells #[.slice sa ls cs, .slice ta lt ct] 25)).heap.size (w.alloc (.cells #[.slice sa ls cs, .slice ta lt ct] 25)) w1 → Hid (IntSl w1 sq lq g)) := Lib.hid fun w1 h => Lib.hid (HS.out.below (below_al h))
  have hb : Below (w.alloc (.cells #[.slice sa ls cs, .slice ta lt ct] 25)).heap.size (w.alloc (.cells #[.slice sa ls cs, .slice ta lt ct] 25)) (w.alloc (.cells #[.slice sa ls cs, .slice ta lt ct] 25)) := Below.refl _ _
  obtain ⟨x1, x2, x3⟩ := BX.out _ hb
  clear H HS
  go_enter Tryz.func4, Tryz.ntmps4
  go_wp2_with (first
    | (go_at_call 6; refine (short_w _ _ _ _ _ _ _ (by unfold maxLen; omega) (by unfold maxLen; omega)).mono ?_; rw [hsh]; rintro e wl ⟨rfl, hv⟩; replace hb := hb.trans (hv.mono hb.size); clear x1 x2 x3; obtain ⟨x1, x2, x3⟩ := BX.out _ hb)
    | (go_at_call 7; refine (K.out _).mono ?_; rintro e wl ⟨rfl, hv⟩; replace hb := hb.trans (hv.mono hb.size); clear x1 x2 x3; obtain ⟨x1, x2, x3⟩ := BX.out _ hb)    )
  go_ret
  exact ⟨rfl, below_al hb⟩

set_option maxRecDepth 100000 in
set_option maxHeartbeats 2000000 in
theorem lawpl_c (sa ta sq : Option Addr) (ls cs lt ct lq cq : Nat) (s : Nat → Int) (t : Nat → St5) (g : Nat → Int) (nd un : Int) (w : World) (hls : ls ≤ 1000000) (hlt : lt ≤ 1000000) (hlq : lq ≤ maxLen) (H : Hid (AnyLine w sa ta ls lt s t)) (HS : Hid (IntSl w sq lq g)) (K : Hid KnownOk) (hq : ls ≤ 13 ∧ lt ≤ 10) (hqq : lq ≤ 10) (HR : Hid (¬ RightP ls lt s t)) :
    Calls Tryz.prog 4 #[.agg #[.slice sa ls cs, .slice ta lt ct], .slice sq lq cq, .int .i64 nd, .int .i64 un] w
      fun e w' => e = .returned (.bool true) ∧ Below w.heap.size w w' := by
  have hsh : decide (ls ≤ 13 ∧ lt ≤ 10) = true := decide_eq_true hq
  have hq10 : ¬ ((10 : Int) < (lq : Int)) := by omega
  have BX := Lib.hid (fun (w1 : World) (hb : Below (w.alloc (.cells #[.slice sa ls cs, .slice ta lt ct] 25)).heap.size (w.alloc (.cells #[.slice sa ls cs, .slice ta lt ct] 25)) w1) => box_cells hb)
  have HN : Hid (∀ w1, Below (w.alloc (.cells #[.slice sa ls cs, .slice ta lt ct] 25)).heap.size (w.alloc (.cells #[.slice sa ls cs, .slice ta lt ct] 25)) w1 → Hid (AnyLine w1 sa ta ls lt s t)) := Lib.hid fun w1 h => Lib.hid (H.out.below (below_al h))
  have HI : Hid (∀ w1, Below (w.alloc (.cells #[.slice sa ls cs, .slice ta lt ct] 25)).heap.size (w.alloc (.cells #[.slice sa ls cs, .slice ta lt ct] 25)) w1 → Hid (IntSl w1 sq lq g)) := Lib.hid fun w1 h => Lib.hid (HS.out.below (below_al h))
  have hb : Below (w.alloc (.cells #[.slice sa ls cs, .slice ta lt ct] 25)).heap.size (w.alloc (.cells #[.slice sa ls cs, .slice ta lt ct] 25)) (w.alloc (.cells #[.slice sa ls cs, .slice ta lt ct] 25)) := Below.refl _ _
  obtain ⟨x1, x2, x3⟩ := BX.out _ hb
  clear H HS
  go_enter Tryz.func4, Tryz.ntmps4
  go_wp2_with (first
    | (go_at_call 6; refine (short_w _ _ _ _ _ _ _ (by unfold maxLen; omega) (by unfold maxLen; omega)).mono ?_; rw [hsh]; rintro e wl ⟨rfl, hv⟩; replace hb := hb.trans (hv.mono hb.size); clear x1 x2 x3; obtain ⟨x1, x2, x3⟩ := BX.out _ hb)
    | (go_at_call 14; refine (planF1 _ _ _ _ _ _ _ _ _ s t g _ _ _ hls hlt hlq (HN.out _ hb) (HI.out _ hb) HR).mono ?_; rintro e wl ⟨rfl, hv⟩; replace hb := hb.trans (hv.mono hb.size); clear x1 x2 x3; obtain ⟨x1, x2, x3⟩ := BX.out _ hb)
    | (go_at_call 10; refine (right_w _ _ _ _ _ _ s t _ hls hlt (Lib.hid (HN.out _ hb).out.hs) (Lib.hid (HN.out _ hb).out.ht)).mono ?_; rintro e wl ⟨⟨rb, rfl, hrb⟩, hv⟩; obtain rfl : rb = false := (by cases rb <;> first | rfl | exact (HR.out (hrb.1 rfl)).elim); clear hrb; replace hb := hb.trans (hv.mono hb.size); clear x1 x2 x3; obtain ⟨x1, x2, x3⟩ := BX.out _ hb)
    | (go_at_call 7; refine (K.out _).mono ?_; rintro e wl ⟨rfl, hv⟩; replace hb := hb.trans (hv.mono hb.size); clear x1 x2 x3; obtain ⟨x1, x2, x3⟩ := BX.out _ hb)    )
  go_ret
  exact ⟨rfl, below_al hb⟩

set_option maxRecDepth 100000 in
set_option maxHeartbeats 2000000 in
theorem lawpl_d (sa ta sq : Option Addr) (ls cs lt ct lq cq : Nat) (s : Nat → Int) (t : Nat → St5) (g : Nat → Int) (nd un : Int) (w : World) (hls : ls ≤ 1000000) (hlt : lt ≤ 1000000) (hlq : lq ≤ maxLen) (H : Hid (AnyLine w sa ta ls lt s t)) (HS : Hid (IntSl w sq lq g)) (K : Hid KnownOk) (hq : ls ≤ 13 ∧ lt ≤ 10) (hqq : lq ≤ 10) (HR : Hid (RightP ls lt s t)) (HQ : Hid (¬ AgeP lt lq g)) :
    Calls Tryz.prog 4 #[.agg #[.slice sa ls cs, .slice ta lt ct], .slice sq lq cq, .int .i64 nd, .int .i64 un] w
      fun e w' => e = .returned (.bool true) ∧ Below w.heap.size w w' := by
  have hsh : decide (ls ≤ 13 ∧ lt ≤ 10) = true := decide_eq_true hq
  have hq10 : ¬ ((10 : Int) < (lq : Int)) := by omega
  have BX := Lib.hid (fun (w1 : World) (hb : Below (w.alloc (.cells #[.slice sa ls cs, .slice ta lt ct] 25)).heap.size (w.alloc (.cells #[.slice sa ls cs, .slice ta lt ct] 25)) w1) => box_cells hb)
  have HN : Hid (∀ w1, Below (w.alloc (.cells #[.slice sa ls cs, .slice ta lt ct] 25)).heap.size (w.alloc (.cells #[.slice sa ls cs, .slice ta lt ct] 25)) w1 → Hid (AnyLine w1 sa ta ls lt s t)) := Lib.hid fun w1 h => Lib.hid (H.out.below (below_al h))
  have HI : Hid (∀ w1, Below (w.alloc (.cells #[.slice sa ls cs, .slice ta lt ct] 25)).heap.size (w.alloc (.cells #[.slice sa ls cs, .slice ta lt ct] 25)) w1 → Hid (IntSl w1 sq lq g)) := Lib.hid fun w1 h => Lib.hid (HS.out.below (below_al h))
  have hb : Below (w.alloc (.cells #[.slice sa ls cs, .slice ta lt ct] 25)).heap.size (w.alloc (.cells #[.slice sa ls cs, .slice ta lt ct] 25)) (w.alloc (.cells #[.slice sa ls cs, .slice ta lt ct] 25)) := Below.refl _ _
  obtain ⟨x1, x2, x3⟩ := BX.out _ hb
  clear H HS
  go_enter Tryz.func4, Tryz.ntmps4
  go_wp2_with (first
    | (go_at_call 6; refine (short_w _ _ _ _ _ _ _ (by unfold maxLen; omega) (by unfold maxLen; omega)).mono ?_; rw [hsh]; rintro e wl ⟨rfl, hv⟩; replace hb := hb.trans (hv.mono hb.size); clear x1 x2 x3; obtain ⟨x1, x2, x3⟩ := BX.out _ hb)
    | (go_at_call 14; refine (planF2 _ _ _ _ _ _ _ _ _ s t g _ _ _ hls hlt hlq (HN.out _ hb) (HI.out _ hb) HR HQ).mono ?_; rintro e wl ⟨rfl, hv⟩; replace hb := hb.trans (hv.mono hb.size); clear x1 x2 x3; obtain ⟨x1, x2, x3⟩ := BX.out _ hb)
    | (go_at_call 10; refine (right_w _ _ _ _ _ _ s t _ hls hlt (Lib.hid (HN.out _ hb).out.hs) (Lib.hid (HN.out _ hb).out.ht)).mono ?_; rintro e wl ⟨⟨rb, rfl, hrb⟩, hv⟩; obtain rfl : rb = true := hrb.2 HR.out; clear hrb; replace hb := hb.trans (hv.mono hb.size); clear x1 x2 x3; obtain ⟨x1, x2, x3⟩ := BX.out _ hb)
    | (go_at_call 15; refine (refAges_w _ _ _ _ _ _ _ g _ hlt hlq (HI.out _ hb)).mono ?_; rintro e wl ⟨⟨rb, rfl, hrb⟩, hv⟩; obtain rfl : rb = false := (by cases rb <;> first | rfl | exact (HQ.out (hrb.1 rfl)).elim); clear hrb; replace hb := hb.trans (hv.mono hb.size); clear x1 x2 x3; obtain ⟨x1, x2, x3⟩ := BX.out _ hb)
    | (go_at_call 7; refine (K.out _).mono ?_; rintro e wl ⟨rfl, hv⟩; replace hb := hb.trans (hv.mono hb.size); clear x1 x2 x3; obtain ⟨x1, x2, x3⟩ := BX.out _ hb)    )
  go_ret
  exact ⟨rfl, below_al hb⟩

set_option maxRecDepth 100000 in
set_option maxHeartbeats 2000000 in
theorem lawpl_e (sa ta sq : Option Addr) (ls cs lt ct lq cq : Nat) (s : Nat → Int) (t : Nat → St5) (g : Nat → Int) (nd un : Int) (w : World) (hls : ls ≤ 1000000) (hlt : lt ≤ 1000000) (hlq : lq ≤ maxLen) (H : Hid (AnyLine w sa ta ls lt s t)) (HS : Hid (IntSl w sq lq g)) (K : Hid KnownOk) (hq : ls ≤ 13 ∧ lt ≤ 10) (hqq : lq ≤ 10) (HR : Hid (RightP ls lt s t)) (HQ : Hid (AgeP lt lq g)) (g1 : fromB 1 10000000 nd = false) :
    Calls Tryz.prog 4 #[.agg #[.slice sa ls cs, .slice ta lt ct], .slice sq lq cq, .int .i64 nd, .int .i64 un] w
      fun e w' => e = .returned (.bool true) ∧ Below w.heap.size w w' := by
  have hsh : decide (ls ≤ 13 ∧ lt ≤ 10) = true := decide_eq_true hq
  have hq10 : ¬ ((10 : Int) < (lq : Int)) := by omega
  have BX := Lib.hid (fun (w1 : World) (hb : Below (w.alloc (.cells #[.slice sa ls cs, .slice ta lt ct] 25)).heap.size (w.alloc (.cells #[.slice sa ls cs, .slice ta lt ct] 25)) w1) => box_cells hb)
  have HN : Hid (∀ w1, Below (w.alloc (.cells #[.slice sa ls cs, .slice ta lt ct] 25)).heap.size (w.alloc (.cells #[.slice sa ls cs, .slice ta lt ct] 25)) w1 → Hid (AnyLine w1 sa ta ls lt s t)) := Lib.hid fun w1 h => Lib.hid (H.out.below (below_al h))
  have HI : Hid (∀ w1, Below (w.alloc (.cells #[.slice sa ls cs, .slice ta lt ct] 25)).heap.size (w.alloc (.cells #[.slice sa ls cs, .slice ta lt ct] 25)) w1 → Hid (IntSl w1 sq lq g)) := Lib.hid fun w1 h => Lib.hid (HS.out.below (below_al h))
  have hb : Below (w.alloc (.cells #[.slice sa ls cs, .slice ta lt ct] 25)).heap.size (w.alloc (.cells #[.slice sa ls cs, .slice ta lt ct] 25)) (w.alloc (.cells #[.slice sa ls cs, .slice ta lt ct] 25)) := Below.refl _ _
  obtain ⟨x1, x2, x3⟩ := BX.out _ hb
  clear H HS
  go_enter Tryz.func4, Tryz.ntmps4
  go_wp2_with (first
    | (go_at_call 6; refine (short_w _ _ _ _ _ _ _ (by unfold maxLen; omega) (by unfold maxLen; omega)).mono ?_; rw [hsh]; rintro e wl ⟨rfl, hv⟩; replace hb := hb.trans (hv.mono hb.size); clear x1 x2 x3; obtain ⟨x1, x2, x3⟩ := BX.out _ hb)
    | (go_at_call 14; refine (planF3 _ _ _ _ _ _ _ _ _ s t g _ _ _ hls hlt hlq (HN.out _ hb) (HI.out _ hb) HR HQ g1).mono ?_; rintro e wl ⟨rfl, hv⟩; replace hb := hb.trans (hv.mono hb.size); clear x1 x2 x3; obtain ⟨x1, x2, x3⟩ := BX.out _ hb)
    | (go_at_call 10; refine (right_w _ _ _ _ _ _ s t _ hls hlt (Lib.hid (HN.out _ hb).out.hs) (Lib.hid (HN.out _ hb).out.ht)).mono ?_; rintro e wl ⟨⟨rb, rfl, hrb⟩, hv⟩; obtain rfl : rb = true := hrb.2 HR.out; clear hrb; replace hb := hb.trans (hv.mono hb.size); clear x1 x2 x3; obtain ⟨x1, x2, x3⟩ := BX.out _ hb)
    | (go_at_call 15; refine (refAges_w _ _ _ _ _ _ _ g _ hlt hlq (HI.out _ hb)).mono ?_; rintro e wl ⟨⟨rb, rfl, hrb⟩, hv⟩; obtain rfl : rb = true := hrb.2 HQ.out; clear hrb; replace hb := hb.trans (hv.mono hb.size); clear x1 x2 x3; obtain ⟨x1, x2, x3⟩ := BX.out _ hb)
    | (go_at_call 16; refine (need_w _ _).mono ?_; rintro e w' ⟨rfl, rfl⟩)
    | (go_at_call 7; refine (K.out _).mono ?_; rintro e wl ⟨rfl, hv⟩; replace hb := hb.trans (hv.mono hb.size); clear x1 x2 x3; obtain ⟨x1, x2, x3⟩ := BX.out _ hb)    )
  go_ret
  exact ⟨rfl, below_al hb⟩

set_option maxRecDepth 100000 in
set_option maxHeartbeats 2000000 in
theorem lawpl_f (sa ta sq : Option Addr) (ls cs lt ct lq cq : Nat) (s : Nat → Int) (t : Nat → St5) (g : Nat → Int) (nd un : Int) (w : World) (hls : ls ≤ 1000000) (hlt : lt ≤ 1000000) (hlq : lq ≤ maxLen) (H : Hid (AnyLine w sa ta ls lt s t)) (HS : Hid (IntSl w sq lq g)) (K : Hid KnownOk) (hq : ls ≤ 13 ∧ lt ≤ 10) (hqq : lq ≤ 10) (HR : Hid (RightP ls lt s t)) (HQ : Hid (AgeP lt lq g)) (g1 : fromB 1 10000000 nd = true) (g2 : fromB 0 40 un = false) :
    Calls Tryz.prog 4 #[.agg #[.slice sa ls cs, .slice ta lt ct], .slice sq lq cq, .int .i64 nd, .int .i64 un] w
      fun e w' => e = .returned (.bool true) ∧ Below w.heap.size w w' := by
  have hsh : decide (ls ≤ 13 ∧ lt ≤ 10) = true := decide_eq_true hq
  have hq10 : ¬ ((10 : Int) < (lq : Int)) := by omega
  have BX := Lib.hid (fun (w1 : World) (hb : Below (w.alloc (.cells #[.slice sa ls cs, .slice ta lt ct] 25)).heap.size (w.alloc (.cells #[.slice sa ls cs, .slice ta lt ct] 25)) w1) => box_cells hb)
  have HN : Hid (∀ w1, Below (w.alloc (.cells #[.slice sa ls cs, .slice ta lt ct] 25)).heap.size (w.alloc (.cells #[.slice sa ls cs, .slice ta lt ct] 25)) w1 → Hid (AnyLine w1 sa ta ls lt s t)) := Lib.hid fun w1 h => Lib.hid (H.out.below (below_al h))
  have HI : Hid (∀ w1, Below (w.alloc (.cells #[.slice sa ls cs, .slice ta lt ct] 25)).heap.size (w.alloc (.cells #[.slice sa ls cs, .slice ta lt ct] 25)) w1 → Hid (IntSl w1 sq lq g)) := Lib.hid fun w1 h => Lib.hid (HS.out.below (below_al h))
  have hb : Below (w.alloc (.cells #[.slice sa ls cs, .slice ta lt ct] 25)).heap.size (w.alloc (.cells #[.slice sa ls cs, .slice ta lt ct] 25)) (w.alloc (.cells #[.slice sa ls cs, .slice ta lt ct] 25)) := Below.refl _ _
  obtain ⟨x1, x2, x3⟩ := BX.out _ hb
  clear H HS
  go_enter Tryz.func4, Tryz.ntmps4
  go_wp2_with (first
    | (go_at_call 6; refine (short_w _ _ _ _ _ _ _ (by unfold maxLen; omega) (by unfold maxLen; omega)).mono ?_; rw [hsh]; rintro e wl ⟨rfl, hv⟩; replace hb := hb.trans (hv.mono hb.size); clear x1 x2 x3; obtain ⟨x1, x2, x3⟩ := BX.out _ hb)
    | (go_at_call 14; refine (planF4 _ _ _ _ _ _ _ _ _ s t g _ _ _ hls hlt hlq (HN.out _ hb) (HI.out _ hb) HR HQ g1 g2).mono ?_; rintro e wl ⟨rfl, hv⟩; replace hb := hb.trans (hv.mono hb.size); clear x1 x2 x3; obtain ⟨x1, x2, x3⟩ := BX.out _ hb)
    | (go_at_call 10; refine (right_w _ _ _ _ _ _ s t _ hls hlt (Lib.hid (HN.out _ hb).out.hs) (Lib.hid (HN.out _ hb).out.ht)).mono ?_; rintro e wl ⟨⟨rb, rfl, hrb⟩, hv⟩; obtain rfl : rb = true := hrb.2 HR.out; clear hrb; replace hb := hb.trans (hv.mono hb.size); clear x1 x2 x3; obtain ⟨x1, x2, x3⟩ := BX.out _ hb)
    | (go_at_call 15; refine (refAges_w _ _ _ _ _ _ _ g _ hlt hlq (HI.out _ hb)).mono ?_; rintro e wl ⟨⟨rb, rfl, hrb⟩, hv⟩; obtain rfl : rb = true := hrb.2 HQ.out; clear hrb; replace hb := hb.trans (hv.mono hb.size); clear x1 x2 x3; obtain ⟨x1, x2, x3⟩ := BX.out _ hb)
    | (go_at_call 16; refine (need_w _ _).mono ?_; rintro e w' ⟨rfl, rfl⟩)
    | (go_at_call 17; refine (until_w _ _).mono ?_; rintro e w' ⟨rfl, rfl⟩)
    | (go_at_call 7; refine (K.out _).mono ?_; rintro e wl ⟨rfl, hv⟩; replace hb := hb.trans (hv.mono hb.size); clear x1 x2 x3; obtain ⟨x1, x2, x3⟩ := BX.out _ hb)    )
  go_ret
  exact ⟨rfl, below_al hb⟩

set_option maxRecDepth 100000 in
set_option maxHeartbeats 4000000 in
theorem lawpl_g (A O C P ls cs lt ct D F cq : Nat) (s : Nat → Int) (t : Nat → St5) (g aN : Nat → Int) (bN : Nat → Bool) (nd un : Int) (w : World) (H : Hid (LineAt w A O C P ls lt s t)) (hD : D < w.heap.size) (HD : Hid (NumAt w D F lt g)) (HQ : Hid (AgeP lt lt g)) (K : Hid KnownOk) (g1 : fromB 1 10000000 nd = true) (g2 : fromB 0 40 un = true)
    (HA : Hid (∀ i, i < lt → Great s (t i) nd (aN i) (bN i))) (HE : Hid ((∃ i, i < lt ∧ bN i = false) ∨ NoYears (lst (duF aN g un) (laF aN g) lt) [])) :
    Calls Tryz.prog 4 #[.agg #[.slice (some ⟨A, O, none⟩) ls cs, .slice (some ⟨C, P, none⟩) lt ct], .slice (some ⟨D, F, none⟩) lt cq, .int .i64 nd, .int .i64 un] w
      fun e w' => e = .returned (.bool true) ∧ Below w.heap.size w w' := by
  have BX := Lib.hid (fun (w1 : World) (hb : Below (w.alloc (.cells #[.slice (some ⟨A, O, none⟩) ls cs, .slice (some ⟨C, P, none⟩) lt ct] 25)).heap.size (w.alloc (.cells #[.slice (some ⟨A, O, none⟩) ls cs, .slice (some ⟨C, P, none⟩) lt ct] 25)) w1) => box_cells hb)
  have HL : Hid (∀ w1, Below (w.alloc (.cells #[.slice (some ⟨A, O, none⟩) ls cs, .slice (some ⟨C, P, none⟩) lt ct] 25)).heap.size (w.alloc (.cells #[.slice (some ⟨A, O, none⟩) ls cs, .slice (some ⟨C, P, none⟩) lt ct] 25)) w1 → LineAt w1 A O C P ls lt s t ∧ D < w1.heap.size ∧ NumAt w1 D F lt g) := Lib.hid fun w1 h => ⟨H.out.below (below_al h), Nat.lt_of_lt_of_le hD (below_al h).size, HD.out.below hD (below_al h)⟩
  have HN : Hid (∀ w1, Below (w.alloc (.cells #[.slice (some ⟨A, O, none⟩) ls cs, .slice (some ⟨C, P, none⟩) lt ct] 25)).heap.size (w.alloc (.cells #[.slice (some ⟨A, O, none⟩) ls cs, .slice (some ⟨C, P, none⟩) lt ct] 25)) w1 → Hid (AnyLine w1 (some ⟨A, O, none⟩) (some ⟨C, P, none⟩) ls lt s t)) := Lib.hid fun w1 h => Lib.hid ⟨.inr ⟨A, O, rfl, (HL.out w1 h).1.hA, (HL.out w1 h).1.sp⟩, .inr ⟨C, P, rfl, (HL.out w1 h).1.hC, (HL.out w1 h).1.st⟩⟩
  have HI : Hid (∀ w1, Below (w.alloc (.cells #[.slice (some ⟨A, O, none⟩) ls cs, .slice (some ⟨C, P, none⟩) lt ct] 25)).heap.size (w.alloc (.cells #[.slice (some ⟨A, O, none⟩) ls cs, .slice (some ⟨C, P, none⟩) lt ct] 25)) w1 → Hid (IntSl w1 (some ⟨D, F, none⟩) lt g)) := Lib.hid fun w1 h => Lib.hid (.inr ⟨D, F, rfl, (HL.out w1 h).2.1, (HL.out w1 h).2.2⟩)
  have HR : Hid (RightP ls lt s t) := Lib.hid ⟨H.out.ls1, H.out.ls2, H.out.lt1, H.out.lt2, H.out.sok, H.out.tok⟩
  have q0 := H.out.ls2
  have q2 := H.out.lt2
  have hls : ls ≤ 1000000 := by omega
  have hlt : lt ≤ 1000000 := by omega
  have hlq : lt ≤ maxLen := by unfold maxLen; omega
  have hsh : decide (ls ≤ 13 ∧ lt ≤ 10) = true := decide_eq_true ⟨by omega, by omega⟩
  have hq10 : ¬ ((10 : Int) < (lt : Int)) := by omega
  have hb : Below (w.alloc (.cells #[.slice (some ⟨A, O, none⟩) ls cs, .slice (some ⟨C, P, none⟩) lt ct] 25)).heap.size (w.alloc (.cells #[.slice (some ⟨A, O, none⟩) ls cs, .slice (some ⟨C, P, none⟩) lt ct] 25)) (w.alloc (.cells #[.slice (some ⟨A, O, none⟩) ls cs, .slice (some ⟨C, P, none⟩) lt ct] 25)) := Below.refl _ _
  obtain ⟨x1, x2, x3⟩ := BX.out _ hb
  go_enter Tryz.func4, Tryz.ntmps4
  go_wp2_with (first
    | (go_at_call 6; refine (short_w _ _ _ _ _ _ _ (by unfold maxLen; omega) (by unfold maxLen; omega)).mono ?_; rw [hsh]; rintro e wl ⟨rfl, hv⟩; replace hb := hb.trans (hv.mono hb.size); clear x1 x2 x3; obtain ⟨x1, x2, x3⟩ := BX.out _ hb)
    | (go_at_call 14; refine (plan_e5 (aN := aN) (bN := bN) (Lib.hid (HL.out _ hb).1) (HL.out _ hb).2.1 (Lib.hid (HL.out _ hb).2.2) HQ g1 g2 HA HE).mono ?_; rintro e wl ⟨rfl, hv⟩; replace hb := hb.trans (hv.mono hb.size); clear x1 x2 x3; obtain ⟨x1, x2, x3⟩ := BX.out _ hb)
    | (go_at_call 10; refine (right_w _ _ _ _ _ _ s t _ hls hlt (Lib.hid (HN.out _ hb).out.hs) (Lib.hid (HN.out _ hb).out.ht)).mono ?_; rintro e wl ⟨⟨rb, rfl, hrb⟩, hv⟩; obtain rfl : rb = true := hrb.2 HR.out; clear hrb; replace hb := hb.trans (hv.mono hb.size); clear x1 x2 x3; obtain ⟨x1, x2, x3⟩ := BX.out _ hb)
    | (go_at_call 15; refine (refAges_w _ _ _ _ _ _ _ g _ hlt hlq (HI.out _ hb)).mono ?_; rintro e wl ⟨⟨rb, rfl, hrb⟩, hv⟩; obtain rfl : rb = true := hrb.2 HQ.out; clear hrb; replace hb := hb.trans (hv.mono hb.size); clear x1 x2 x3; obtain ⟨x1, x2, x3⟩ := BX.out _ hb)
    | (go_at_call 16; refine (need_w _ _).mono ?_; rintro e w' ⟨rfl, rfl⟩)
    | (go_at_call 17; refine (until_w _ _).mono ?_; rintro e w' ⟨rfl, rfl⟩)
    | (go_at_call 18; refine (rplan_no (aN := aN) (bN := bN) (Lib.hid (HL.out _ hb).1) (HL.out _ hb).2.1 (Lib.hid (HL.out _ hb).2.2) HQ g2 HA HE).mono ?_; rintro e wl ⟨rfl, hv⟩; replace hb := hb.trans (hv.mono hb.size); clear x1 x2 x3; obtain ⟨x1, x2, x3⟩ := BX.out _ hb)
    | (go_at_call 7; refine (K.out _).mono ?_; rintro e wl ⟨rfl, hv⟩; replace hb := hb.trans (hv.mono hb.size); clear x1 x2 x3; obtain ⟨x1, x2, x3⟩ := BX.out _ hb))
  go_ret
  exact ⟨rfl, below_al hb⟩

set_option maxRecDepth 100000 in
set_option maxHeartbeats 4000000 in
theorem lawpl_i (A O C P ls cs lt ct D F cq : Nat) (s : Nat → Int) (t : Nat → St5) (g aN : Nat → Int) (bN : Nat → Bool) (nd un : Int) (w : World) (H : Hid (LineAt w A O C P ls lt s t)) (hD : D < w.heap.size) (HD : Hid (NumAt w D F lt g)) (HQ : Hid (AgeP lt lt g)) (K : Hid KnownOk) (g1 : fromB 1 10000000 nd = true) (g2 : fromB 0 40 un = true)
    (HA : Hid (∀ i, i < lt → Great s (t i) nd (aN i) (bN i))) (HE : Hid (∀ i, i < lt → bN i = true)) (ys OUT : List Int) (HY : Hid (Greedy (lst (duF aN g un) (laF aN g) lt) [] ys)) (HP : Hid (Pl (lst (duF aN g un) (laF aN g) lt) ys OUT)) :
    Calls Tryz.prog 4 #[.agg #[.slice (some ⟨A, O, none⟩) ls cs, .slice (some ⟨C, P, none⟩) lt ct], .slice (some ⟨D, F, none⟩) lt cq, .int .i64 nd, .int .i64 un] w
      fun e w' => e = .returned (.bool true) ∧ Below w.heap.size w w' := by
  have BX := Lib.hid (fun (w1 : World) (hb : Below (w.alloc (.cells #[.slice (some ⟨A, O, none⟩) ls cs, .slice (some ⟨C, P, none⟩) lt ct] 25)).heap.size (w.alloc (.cells #[.slice (some ⟨A, O, none⟩) ls cs, .slice (some ⟨C, P, none⟩) lt ct] 25)) w1) => box_cells hb)
  have HL : Hid (∀ w1, Below (w.alloc (.cells #[.slice (some ⟨A, O, none⟩) ls cs, .slice (some ⟨C, P, none⟩) lt ct] 25)).heap.size (w.alloc (.cells #[.slice (some ⟨A, O, none⟩) ls cs, .slice (some ⟨C, P, none⟩) lt ct] 25)) w1 → LineAt w1 A O C P ls lt s t ∧ D < w1.heap.size ∧ NumAt w1 D F lt g) := Lib.hid fun w1 h => ⟨H.out.below (below_al h), Nat.lt_of_lt_of_le hD (below_al h).size, HD.out.below hD (below_al h)⟩
  have HN : Hid (∀ w1, Below (w.alloc (.cells #[.slice (some ⟨A, O, none⟩) ls cs, .slice (some ⟨C, P, none⟩) lt ct] 25)).heap.size (w.alloc (.cells #[.slice (some ⟨A, O, none⟩) ls cs, .slice (some ⟨C, P, none⟩) lt ct] 25)) w1 → Hid (AnyLine w1 (some ⟨A, O, none⟩) (some ⟨C, P, none⟩) ls lt s t)) := Lib.hid fun w1 h => Lib.hid ⟨.inr ⟨A, O, rfl, (HL.out w1 h).1.hA, (HL.out w1 h).1.sp⟩, .inr ⟨C, P, rfl, (HL.out w1 h).1.hC, (HL.out w1 h).1.st⟩⟩
  have HI : Hid (∀ w1, Below (w.alloc (.cells #[.slice (some ⟨A, O, none⟩) ls cs, .slice (some ⟨C, P, none⟩) lt ct] 25)).heap.size (w.alloc (.cells #[.slice (some ⟨A, O, none⟩) ls cs, .slice (some ⟨C, P, none⟩) lt ct] 25)) w1 → Hid (IntSl w1 (some ⟨D, F, none⟩) lt g)) := Lib.hid fun w1 h => Lib.hid (.inr ⟨D, F, rfl, (HL.out w1 h).2.1, (HL.out w1 h).2.2⟩)
  have HR : Hid (RightP ls lt s t) := Lib.hid ⟨H.out.ls1, H.out.ls2, H.out.lt1, H.out.lt2, H.out.sok, H.out.tok⟩
  have q0 := H.out.ls2
  have q2 := H.out.lt2
  have hls : ls ≤ 1000000 := by omega
  have hlt : lt ≤ 1000000 := by omega
  have hlq : lt ≤ maxLen := by unfold maxLen; omega
  have hsh : decide (ls ≤ 13 ∧ lt ≤ 10) = true := decide_eq_true ⟨by omega, by omega⟩
  have hq10 : ¬ ((10 : Int) < (lt : Int)) := by omega
  have hb : Below (w.alloc (.cells #[.slice (some ⟨A, O, none⟩) ls cs, .slice (some ⟨C, P, none⟩) lt ct] 25)).heap.size (w.alloc (.cells #[.slice (some ⟨A, O, none⟩) ls cs, .slice (some ⟨C, P, none⟩) lt ct] 25)) (w.alloc (.cells #[.slice (some ⟨A, O, none⟩) ls cs, .slice (some ⟨C, P, none⟩) lt ct] 25)) := Below.refl _ _
  obtain ⟨x1, x2, x3⟩ := BX.out _ hb
  go_enter Tryz.func4, Tryz.ntmps4
  go_wp2_with (first
    | (go_at_call 6; refine (short_w _ _ _ _ _ _ _ (by unfold maxLen; omega) (by unfold maxLen; omega)).mono ?_; rw [hsh]; rintro e wl ⟨rfl, hv⟩; replace hb := hb.trans (hv.mono hb.size); clear x1 x2 x3; obtain ⟨x1, x2, x3⟩ := BX.out _ hb)
    | (go_at_call 14; refine (plan_ok (aN := aN) (bN := bN) (Lib.hid (HL.out _ hb).1) (HL.out _ hb).2.1 (Lib.hid (HL.out _ hb).2.2) HQ g1 g2 HA HE HY HP).mono ?_; rintro e wl ⟨⟨G, rfl, hG1, hG2⟩, hv⟩; replace hb := hb.trans (hv.mono hb.size); clear x1 x2 x3; obtain ⟨x1, x2, x3⟩ := BX.out _ hb; have HG : Hid (∀ w', Below wl.heap.size wl w' → Hid (IntSl w' (some ⟨G, 0, none⟩) lt (plF (duF aN g un) OUT (cnt (duF aN g un) lt)))) := Lib.hid (fun w' h => Lib.hid (.inr ⟨G, 0, rfl, Nat.lt_of_lt_of_le hG1 h.size, hG2.below hG1 h⟩)); have HW := Lib.hid (Below.refl wl.heap.size wl); clear hG1 hG2)
    | (go_at_call 10; refine (right_w _ _ _ _ _ _ s t _ hls hlt (Lib.hid (HN.out _ hb).out.hs) (Lib.hid (HN.out _ hb).out.ht)).mono ?_; rintro e wl ⟨⟨rb, rfl, hrb⟩, hv⟩; obtain rfl : rb = true := hrb.2 HR.out; clear hrb; replace hb := hb.trans (hv.mono hb.size); clear x1 x2 x3; obtain ⟨x1, x2, x3⟩ := BX.out _ hb; replace HW := Lib.hid (HW.out.trans (hv.mono HW.out.size)))
    | (go_at_call 15; refine (refAges_w _ _ _ _ _ _ _ g _ hlt hlq (HI.out _ hb)).mono ?_; rintro e wl ⟨⟨rb, rfl, hrb⟩, hv⟩; obtain rfl : rb = true := hrb.2 HQ.out; clear hrb; replace hb := hb.trans (hv.mono hb.size); clear x1 x2 x3; obtain ⟨x1, x2, x3⟩ := BX.out _ hb; replace HW := Lib.hid (HW.out.trans (hv.mono HW.out.size)))
    | (go_at_call 16; refine (need_w _ _).mono ?_; rintro e w' ⟨rfl, rfl⟩)
    | (go_at_call 17; refine (until_w _ _).mono ?_; rintro e w' ⟨rfl, rfl⟩)
    | (go_at_call 18; refine (rplan_ok (aN := aN) (bN := bN) (Lib.hid (HL.out _ hb).1) (HL.out _ hb).2.1 (Lib.hid (HL.out _ hb).2.2) HQ g2 HA HE HY HP).mono ?_; rintro e wl ⟨⟨sx, cx, rfl, hX⟩, hv⟩; replace hb := hb.trans (hv.mono hb.size); clear x1 x2 x3; obtain ⟨x1, x2, x3⟩ := BX.out _ hb; replace HW := Lib.hid (HW.out.trans (hv.mono HW.out.size)); have HX := Lib.hid hX; clear hX)
    | (go_at_call 19; refine (same_w _ _ _ _ _ _ _ hlq (HG.out _ HW.out) HX).mono ?_; rintro e wl ⟨rfl, hv⟩; replace hb := hb.trans (hv.mono hb.size); clear x1 x2 x3; obtain ⟨x1, x2, x3⟩ := BX.out _ hb)
    | (go_at_call 7; refine (K.out _).mono ?_; rintro e wl ⟨rfl, hv⟩; replace hb := hb.trans (hv.mono hb.size); clear x1 x2 x3; obtain ⟨x1, x2, x3⟩ := BX.out _ hb))
  go_ret
  exact ⟨rfl, below_al hb⟩

theorem lawpl_w (sa ta sq : Option Addr) (ls cs lt ct lq cq : Nat) (s : Nat → Int) (t : Nat → St5) (g : Nat → Int) (nd un : Int) (w : World) (hls : ls ≤ maxLen) (hlt : lt ≤ maxLen) (hlq : lq ≤ maxLen) (HS : NumSl w sa ls s) (HT : StSl w ta lt t) (HG : IntSl w sq lq g) (K : Hid KnownOk) :
    Calls Tryz.prog 4 #[.agg #[.slice sa ls cs, .slice ta lt ct], .slice sq lq cq, .int .i64 nd, .int .i64 un] w
      fun e w' => e = .returned (.bool true) ∧ Below w.heap.size w w' := by
  by_cases hq : ls ≤ 13 ∧ lt ≤ 10
  case neg => exact lawpl_a sa ta sq ls cs lt ct lq cq s t g nd un w hls hlt hlq (Lib.hid ⟨HS, HT⟩) (Lib.hid HG) K hq
  have hls' : ls ≤ 1000000 := by omega
  have hlt' : lt ≤ 1000000 := by omega
  by_cases hb : lq ≤ 10
  case neg => exact lawpl_b sa ta sq ls cs lt ct lq cq s t g nd un w hls' hlt' hlq (Lib.hid ⟨HS, HT⟩) (Lib.hid HG) K hq hb
  by_cases hR : RightP ls lt s t
  case neg => exact lawpl_c sa ta sq ls cs lt ct lq cq s t g nd un w hls' hlt' hlq (Lib.hid ⟨HS, HT⟩) (Lib.hid HG) K hq hb (Lib.hid hR)
  by_cases hQ : AgeP lt lq g
  case neg => exact lawpl_d sa ta sq ls cs lt ct lq cq s t g nd un w hls' hlt' hlq (Lib.hid ⟨HS, HT⟩) (Lib.hid HG) K hq hb (Lib.hid hR) (Lib.hid hQ)
  cases g1 : fromB 1 10000000 nd
  · exact lawpl_e sa ta sq ls cs lt ct lq cq s t g nd un w hls' hlt' hlq (Lib.hid ⟨HS, HT⟩) (Lib.hid HG) K hq hb (Lib.hid hR) (Lib.hid hQ) g1
  cases g2 : fromB 0 40 un
  · exact lawpl_f sa ta sq ls cs lt ct lq cq s t g nd un w hls' hlt' hlq (Lib.hid ⟨HS, HT⟩) (Lib.hid HG) K hq hb (Lib.hid hR) (Lib.hid hQ) g1 g2
  obtain ⟨A, O, rfl, hA, hsp⟩ := HS.resolve_left (by have := hR.ls1; omega)
  obtain ⟨C, P, rfl, hC, hst⟩ := HT.resolve_left (by have := hR.lt1; omega)
  have H : LineAt w A O C P ls lt s t := ⟨hA, hC, hR.ls1, hR.ls2, hR.lt1, hR.lt2, hsp, hst, hR.sok, hR.tok⟩
  obtain rfl := hQ.eq
  obtain ⟨D, F, rfl, hD, hg⟩ := HG.resolve_left (by have := hR.lt1; omega)
  obtain ⟨aN, bN, hAB⟩ : ∃ (aN : Nat → Int) (bN : Nat → Bool), ∀ i, Great s (t i) nd (aN i) (bN i) :=
    ⟨fun i => Classical.choose (great_exists s (t i) nd), fun i => Classical.choose (Classical.choose_spec (great_exists s (t i) nd)), fun i => Classical.choose_spec (Classical.choose_spec (great_exists s (t i) nd))⟩
  have HA : Hid (∀ i, i < lq → Great s (t i) nd (aN i) (bN i)) := Lib.hid fun i _ => hAB i
  by_cases hE : ∃ i, i < lq ∧ bN i = false
  · exact lawpl_g A O C P ls cs lq ct D F cq s t g aN bN nd un w (Lib.hid H) hD (Lib.hid hg) (Lib.hid hQ) K g1 g2 HA (Lib.hid (.inl hE))
  rcases years_or (lst (duF aN g un) (laF aN g) lq) [] with ⟨ys, hys⟩ | hno
  · obtain ⟨OUT, hO⟩ := Pl.ex (greedy_opt hys)
    refine lawpl_i A O C P ls cs lq ct D F cq s t g aN bN nd un w (Lib.hid H) hD (Lib.hid hg) (Lib.hid hQ) K g1 g2 HA (Lib.hid fun i hi => ?_) ys OUT (Lib.hid hys) (Lib.hid hO)
    cases hbi : bN i
    · exact (hE ⟨i, hi, hbi⟩).elim
    · rfl
  · exact lawpl_g A O C P ls cs lq ct D F cq s t g aN bN nd un w (Lib.hid H) hD (Lib.hid hg) (Lib.hid hQ) K g1 g2 HA (Lib.hid (.inr hno))
end Go.Kn
