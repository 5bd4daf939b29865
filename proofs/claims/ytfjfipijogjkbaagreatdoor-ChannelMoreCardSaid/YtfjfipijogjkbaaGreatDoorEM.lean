/- Walks of functions of layer 2 (contracts that the laws of this seat use). Conditions: as each theorem states them. -/
import Derived.Test.YtfjfipijogjkbaaGreatDoorEP
import Derived.Test.YtfjfipijogjkbaaGreatDoorEL
set_option linter.unusedVariables false
set_option linter.unusedSimpArgs false
namespace Go.Kn
open Go Go.Proofs Go.RowKit Go.Shelf

set_option maxHeartbeats 400000 in
theorem notAge_w (B : Nat) (x : Int) (w : World) (hB : w.cell? ⟨B, 0, none⟩ = some (.func (.func 47) #[] #[])) :
    Calls Tryz.prog 110 #[.int .i64 x, .pointer (some ⟨B, 0, none⟩)] w fun e w' => e = .returned (.bool (!fromB 0 200 x)) ∧ w = w' := by
  go_enter Tryz.func110, Tryz.ntmps110
  go_wp2_with (go_at_call 47; refine (isAge_w _ _).mono ?_; rintro e w1 ⟨rfl, rfl⟩)
  go_ret
  exact ⟨rfl, rfl⟩

set_option maxRecDepth 100000 in
set_option maxHeartbeats 1000000 in
theorem idxAge_w (A O ls cs B : Nat) (s : Nat → Int) (w : World) (hls : ls ≤ maxLen) (hB : w.cell? ⟨B, 0, none⟩ = some (.func (.func 47) #[] #[]))
    (hA : ∀ i, i < ls → w.cell? ⟨A, O + i, none⟩ = some (.int .i64 (s i))) :
    Calls Tryz.prog 126 #[.slice (some ⟨A, O, none⟩) ls cs, .func (.func 110) #[] #[.pointer (some ⟨B, 0, none⟩)]] w
      fun e w' => (∃ i : Int, e = .returned (.int .i64 i) ∧ ((i < 0 ∧ ∀ k, k < ls → fromB 0 200 (s k) = true) ∨ (0 ≤ i ∧ ∃ k, k < ls ∧ fromB 0 200 (s k) = false))) ∧ w = w' := by
  unfold maxLen at hls
  go_enter Tryz.func126, Tryz.ntmps126
  go_wp2
  go_loop [8] (fun i => ∃ k : Nat, k ≤ ls ∧ i = .int .i64 k ∧ ∀ j, j < k → fromB 0 200 (s j) = true) (fun i => ls - (intOf i).toNat)
  case atStart => exact ⟨0, Nat.zero_le _, rfl, fun j hj => absurd hj (by omega)⟩
  case round =>
    obtain ⟨k, hk, rfl, hall⟩ := hrel
    have HA := Lib.hid hall
    clear hall
    by_cases hlt : k < ls
    · have hcell := hA k hlt
      clear hA
      cases hv : fromB 0 200 (s k)
      · go_wp2_with (go_at_call 110; refine (notAge_w _ _ _ hB).mono ?_; rintro e w1 ⟨rfl, rfl⟩)
        go_ret
        exact ⟨⟨_, rfl, .inr ⟨by omega, k, hlt, hv⟩⟩, rfl⟩
      · go_wp2_with (go_at_call 110; refine (notAge_w _ _ _ hB).mono ?_; rintro e w1 ⟨rfl, rfl⟩)
        go_round
        case rel => exact ⟨k + 1, by omega, by go_num, fun j hj => by
          rcases Nat.lt_succ_iff_lt_or_eq.1 hj with h | h
          · exact HA.out j h
          · rw [h]; exact hv⟩
        case measure => simp [intOf]; omega
    · clear hA
      go_wp2
      go_ret
      exact ⟨⟨_, rfl, .inl ⟨by omega, fun j hj => HA.out j (by omega)⟩⟩, rfl⟩

set_option maxRecDepth 100000 in
set_option maxHeartbeats 1000000 in
theorem contAge_w (A O ls cs B : Nat) (s : Nat → Int) (w : World) (hls : ls ≤ maxLen) (hB : w.cell? ⟨B, 0, none⟩ = some (.func (.func 47) #[] #[]))
    (hA : ∀ i, i < ls → w.cell? ⟨A, O + i, none⟩ = some (.int .i64 (s i))) :
    Calls Tryz.prog 109 #[.slice (some ⟨A, O, none⟩) ls cs, .func (.func 110) #[] #[.pointer (some ⟨B, 0, none⟩)]] w
      fun e w' => (∃ cb : Bool, e = .returned (.bool cb) ∧ (cb = false ↔ ∀ k, k < ls → fromB 0 200 (s k) = true)) ∧ w = w' := by
  have HA := Lib.hid hA
  clear hA
  go_enter Tryz.func109, Tryz.ntmps109
  go_wp2_with (go_at_call 126; refine (idxAge_w _ _ _ _ _ s _ hls hB HA.out).mono ?_; rintro e w1 ⟨⟨i, rfl, hi⟩, rfl⟩; have HI := Lib.hid hi; clear hi)
  go_ret
  refine ⟨⟨decide (0 ≤ i), rfl, ?_⟩, rfl⟩
  rcases HI.out with ⟨h1, h2⟩ | ⟨h1, k, h2, h3⟩
  · exact ⟨fun _ => h2, fun _ => decide_eq_false (by omega)⟩
  · exact ⟨fun h => by have := of_decide_eq_false h; omega, fun h => by rw [h k h2] at h3; cases h3⟩

set_option maxRecDepth 100000 in
set_option maxHeartbeats 1000000 in
theorem allAge_w (A O ls cs : Nat) (s : Nat → Int) (w : World) (hls : ls ≤ maxLen) (hAw : A < w.heap.size)
    (hA : ∀ i, i < ls → w.cell? ⟨A, O + i, none⟩ = some (.int .i64 (s i))) :
    Calls Tryz.prog 78 #[.slice (some ⟨A, O, none⟩) ls cs, .func (.func 47) #[] #[]] w
      fun e w' => (∃ rb : Bool, e = .returned (.bool rb) ∧ (rb = true ↔ ∀ k, k < ls → fromB 0 200 (s k) = true)) ∧ Below w.heap.size w w' := by
  have HA : Hid (∀ (o : Obj) (i : Nat), i < ls → (w.alloc o).cell? ⟨A, O + i, none⟩ = some (.int .i64 (s i))) := Lib.hid (fun o i hi => (World.cell?_alloc_lt w o _ hAw).trans (hA i hi))
  clear hA
  go_enter Tryz.func78, Tryz.ntmps78
  go_wp2_with (go_at_call 109; refine (contAge_w _ _ _ _ _ s _ hls (cell_newL _ _ _) (HA.out _)).mono ?_; rintro e w1 ⟨⟨cb, rfl, hcb⟩, rfl⟩; have HC := Lib.hid hcb; clear hcb)
  go_ret
  refine ⟨⟨!cb, rfl, ?_⟩, (Below.refl _ _).alloc (Nat.le_refl _) _⟩
  rw [← HC.out]; cases cb <;> simp
end Go.Kn

namespace Go.Kn
open Go Go.Proofs Go.RowKit Go.Shelf

/-- the least and the greatest of what k rates, from the least on, carry -/
def lowV (s : Nat → Int) (x : St5) (ag : Int) : Nat → Int
  | 0 => 10000001
  | k + 1 => cupsL s x ag (x.lo + k)
def highV (s : Nat → Int) (x : St5) (ag : Int) : Nat → Int
  | 0 => -1
  | _ + 1 => cupsL s x ag x.lo

theorem cupsL_bd {s : Nat → Int} {x : St5} {ag r : Int} (hs : 0 ≤ s x.f.toNat ∧ s x.f.toNat ≤ 1000) (hb : 0 ≤ x.b ∧ x.b ≤ 100) (hd : 0 ≤ x.d ∧ x.d ≤ 100) (hr : 0 ≤ r) (ha : 0 ≤ ag) : 0 ≤ cupsL s x ag r ∧ cupsL s x ag r ≤ 10000000 := by
  unfold cupsL cupsV
  have h0 : 0 ≤ r * ag / 100 := Int.ediv_nonneg (Int.mul_nonneg hr ha) (by decide)
  have a := mul_bd (a := max 0 (x.b - 2 * (r * ag / 100))) (b := max 0 (x.d - r * ag / 100)) (A := 100) (B := 100) (by omega) (by omega) (by omega) (by omega)
  have b := mul_bd a.1 a.2 hs.1 hs.2
  exact ⟨b.1, Int.le_trans b.2 (by decide)⟩

end Go.Kn

namespace Go.Kn
open Go Go.Proofs Go.RowKit Go.Shelf

/-- ages as they should be -/
structure AgeP (lt lq : Nat) (g : Nat → Int) : Prop where
  eq : lq = lt
  ok : ∀ i, i < lq → fromB 0 200 (g i) = true

set_option maxRecDepth 100000 in
set_option maxHeartbeats 2000000 in
theorem areAges_w (x : Value) (ta sq : Option Addr) (lt ct lq cq : Nat) (g : Nat → Int) (w : World) (hlt : 1 ≤ lt ∧ lt ≤ 1000000) (hlq : lq ≤ maxLen) (HS : Hid (IntSl w sq lq g)) :
    Calls Tryz.prog 64 #[.agg #[x, .slice ta lt ct], .slice sq lq cq] w fun e w' => (∃ rb : Bool, e = .returned (.bool rb) ∧ (rb = true ↔ AgeP lt lq g)) ∧ Below w.heap.size w w' := by
  unfold maxLen at hlq
  by_cases h : lq = lt
  case neg =>
    have h3 : ((lq : Int) == (lt : Int)) = false := by simp; omega
    go_enter Tryz.func64, Tryz.ntmps64
    go_wp2
    go_ret
    first
      | exact ⟨⟨false, rfl, no_iff' (fun hh => h hh.eq)⟩, (Below.refl _ _).alloc (Nat.le_refl _) _⟩
      | exact ⟨.inl ⟨rfl, fun hh => h hh.eq⟩, (Below.refl _ _).alloc (Nat.le_refl _) _⟩
  subst h
  obtain ⟨D, F, rfl, hD, hs⟩ := HS.out.resolve_left (by omega)
  have HD : Hid (∀ o : Obj, NumAt (w.alloc o) D F lq g) := Lib.hid fun o => hs.below hD ((Below.refl _ _).alloc (Nat.le_refl _) _)
  clear hs
  go_enter Tryz.func64, Tryz.ntmps64
  go_wp2_with (go_at_call 78; refine (allAge_w _ _ _ _ g _ (by unfold maxLen; omega) (by simp; omega) (HD.out _)).mono ?_; rintro e w1 ⟨⟨rb, rfl, hrb⟩, hb1⟩; have HR := Lib.hid hrb; clear hrb)
  go_ret
  exact ⟨⟨rb, rfl, HR.out.trans ⟨fun h => ⟨rfl, h⟩, fun h => h.ok⟩⟩, below_al hb1⟩

set_option maxRecDepth 100000 in
set_option maxHeartbeats 2000000 in
theorem refAges_w (x : Value) (ta sq : Option Addr) (lt ct lq cq : Nat) (g : Nat → Int) (w : World) (hlt : lt ≤ 1000000) (hlq : lq ≤ maxLen) (HS : Hid (IntSl w sq lq g)) :
    Calls Tryz.prog 29 #[.agg #[x, .slice ta lt ct], .slice sq lq cq] w fun e w' => (∃ rb : Bool, e = .returned (.bool rb) ∧ (rb = true ↔ AgeP lt lq g)) ∧ Below w.heap.size w w' := by
  unfold maxLen at hlq
  go_enter Tryz.func29, Tryz.ntmps29
  go_wp2
  go_loop [5] (fun i => ∃ k : Nat, k ≤ lq ∧ i = .int .i64 k ∧ ∀ j, j < k → fromB 0 200 (g j) = true) (fun i => lq - (intOf i).toNat)
  case atStart => exact ⟨0, Nat.zero_le _, rfl, fun j hj => absurd hj (by omega)⟩
  case round =>
    obtain ⟨k, hk, rfl, hall⟩ := hrel
    have HALL := Lib.hid hall
    clear hall
    by_cases hlt : k < lq
    · obtain ⟨D, F, rfl, hD, hs⟩ := HS.out.resolve_left (by omega)
      have y0 := (World.cell?_alloc_lt w (.cells #[x, .slice ta lt ct] 25) ⟨D, F + k, none⟩ hD).trans (hs k hlt)
      clear hs
      cases hv : fromB 0 200 (g k)
      · go_wp2_with (go_at_call 14; refine (age_w _ _).mono ?_; rw [hv]; rintro e w1 ⟨rfl, rfl⟩)
        go_ret
        exact ⟨⟨false, rfl, no_iff' (fun h => by rw [h.ok k hlt] at hv; exact Bool.noConfusion hv)⟩, (Below.refl _ _).alloc (Nat.le_refl _) _⟩
      · go_wp2_with (go_at_call 14; refine (age_w _ _).mono ?_; rw [hv]; rintro e w1 ⟨rfl, rfl⟩)
        go_round
        case rel => exact ⟨k + 1, by omega, by go_num, fun j hj => by
          rcases Nat.lt_succ_iff_lt_or_eq.1 hj with h | h
          · exact HALL.out j h
          · rw [h]; exact hv⟩
        case measure => simp [intOf]; omega
    · have HOK : Hid (∀ i, i < lq → fromB 0 200 (g i) = true) := Lib.hid fun j hj => HALL.out j (by omega)
      by_cases e : lq = lt
      · have h3 : ((lq : Int) == (lt : Int)) = true := by simp; omega
        have E := Lib.hid e
        clear e
        go_wp2
        go_ret
        first
          | exact ⟨⟨true, rfl, fun _ => ⟨E.out, HOK.out⟩, fun _ => rfl⟩, (Below.refl _ _).alloc (Nat.le_refl _) _⟩
          | exact ⟨.inr ⟨rfl, E.out, HOK.out⟩, (Below.refl _ _).alloc (Nat.le_refl _) _⟩
      · have h3 : ((lq : Int) == (lt : Int)) = false := by simp; omega
        go_wp2
        go_ret
        first
          | exact ⟨⟨false, rfl, no_iff' (fun hh => e hh.eq)⟩, (Below.refl _ _).alloc (Nat.le_refl _) _⟩
          | exact ⟨.inl ⟨rfl, fun hh => e hh.eq⟩, (Below.refl _ _).alloc (Nat.le_refl _) _⟩

/-- what the stretches carry at their ages -/
def carOf (s : Nat → Int) (t : Nat → St5) (g : Nat → Int) (k : Nat) : Sp2 := ⟨cupsL s (t k) (g k) (t k).hi, cupsL s (t k) (g k) (t k).lo⟩

set_option maxRecDepth 100000 in
set_option maxHeartbeats 4000000 in
theorem carried_w (A O C P ls cs lt ct D F cq : Nat) (s : Nat → Int) (t : Nat → St5) (g : Nat → Int) (w : World) (H : Hid (LineAt w A O C P ls lt s t)) (hD : D < w.heap.size) (HD : Hid (NumAt w D F lt g)) (hQ : Hid (AgeP lt lt g)) :
    Calls Tryz.prog 66 #[.agg #[.slice (some ⟨A, O, none⟩) ls cs, .slice (some ⟨C, P, none⟩) lt ct], .slice (some ⟨D, F, none⟩) lt cq] w
      fun e w' => (∃ G, e = .returned (.slice (some ⟨G, 0, none⟩) lt lt) ∧ w.heap.size ≤ G ∧ G < w'.heap.size ∧ SpAt w' G 0 lt (carOf s t g)) ∧ Below w.heap.size w w' := by
  have q1 := H.out.lt1
  have q2 := H.out.lt2
  obtain ⟨W0, hW0⟩ : ∃ W0, W0 = w.alloc (.cells #[.slice (some ⟨A, O, none⟩) ls cs, .slice (some ⟨C, P, none⟩) lt ct] 25) := ⟨_, rfl⟩
  have hz : W0.heap.size = w.heap.size + 1 := by rw [hW0]; simp
  have hB0 : Below w.heap.size w W0 := by rw [hW0]; exact (Below.refl _ _).alloc (Nat.le_refl _) _
  have FX : Hid (∀ w', Below W0.heap.size W0 w' → w'.cell? ⟨w.heap.size, 0, none⟩ = some (.slice (some ⟨A, O, none⟩) ls cs) ∧ w'.cell? ⟨w.heap.size, 1, none⟩ = some (.slice (some ⟨C, P, none⟩) lt ct) ∧ LineAt w' A O C P ls lt s t ∧ NumAt w' D F lt g) := Lib.hid fun w' h => by
    have q : ∀ b o, b < W0.heap.size → w'.cell? ⟨b, o, none⟩ = W0.cell? ⟨b, o, none⟩ := (bcell h).1
    have hall := hB0.trans (h.mono (by omega))
    exact ⟨(q _ _ (by omega)).trans (by rw [hW0]; simp), (q _ _ (by omega)).trans (by rw [hW0]; simp), H.out.below hall, HD.out.below hD hall⟩
  obtain ⟨i0, hi, hz0, hz1, hz2⟩ := info_parts info31
  go_enter Tryz.func66, Tryz.ntmps66
  go_wp2_with (at_make; refine wpList_make_full _ rfl _ _ 38 rfl w.heap.size 31 i0 _ 2 Tryz.underlying38 hi hz0 hz1 _ _ _ _ lt rfl rfl rfl rfl (by rw [hz2]; omega) (by unfold maxLen; omega) (by simp) ?_; intro w1 hown hgrow; rw [← hW0] at hown hgrow; have hb1 : Below W0.heap.size W0 w1 := (Below.refl _ _).grown hgrow (Nat.le_refl _) (fun k h => by cases h); have hrow := rowAt_of_owns hown; rw [hz] at hrow; obtain ⟨x0, x1, _⟩ := FX.out _ hb1)
  have HR0 : Hid (RowAt w1 (w.heap.size + 1) (lt * 2)) := Lib.hid hrow
  clear hown hgrow hrow
  go_loopw [13] (fun i wr => ∃ k : Nat, k ≤ lt ∧ i = .int .i64 k ∧ Below W0.heap.size W0 wr ∧ RowAt wr (w.heap.size + 1) (lt * 2) ∧ SpAt wr (w.heap.size + 1) 0 k (carOf s t g)) (fun i _ => lt - (intOf i).toNat)
  case atStart => exact ⟨0, Nat.zero_le _, rfl, hb1, HR0.out, fun i hi => absurd hi (by omega)⟩
  case round =>
    clear x0 x1 hb1
    obtain ⟨k, hk, rfl, hbw, hrow, hsp⟩ := hrel
    have HROW := Lib.hid hrow
    have HSP := Lib.hid hsp
    clear hrow hsp
    by_cases hlt : k < lt
    · obtain ⟨x0, x1, x2, x3⟩ := FX.out _ hbw
      have y0 := x3 k hlt
      have HLW := Lib.hid x2
      clear x2 x3
      have hgz := HROW.out.1
      have hag := hQ.out.ok k hlt
      simp only [fromB, decide_eq_true_eq] at hag
      have HAG := Lib.hid hag
      clear hag
      go_wp2_with (first
        | (go_at_call 48; refine (at_l HLW.out hlt _ _ _).mono ?_; rintro e w2 ⟨rfl, hb2⟩)
        | (go_at_call 49; refine (carries_l HLW.out hlt _ HAG.out _).mono ?_; rintro e w3 ⟨rfl, hb3⟩; have hbr : Below wr.heap.size wr w3 := hb2.trans (hb3.mono hb2.size); have hr2 := HROW.out.below hgz hbr; obtain ⟨⟨v0, hv0⟩, hf0⟩ := hr2.2 (k * 2) (by omega); obtain ⟨⟨v1, hv1⟩, hf1⟩ := hr2.2 (k * 2 + 1) (by omega)))
      go_roundw
      case rel => exact ⟨k + 1, by omega, by go_num, ((hbw.trans (hbr.mono hbw.size)).setCell (by simp; omega) _).setCell (by simp; omega) _, (hr2.set _ _).set _ _, (HSP.out.below hgz hbr).snoc hr2 (by omega)⟩
      case measure => simp [intOf]; omega
    · go_wp2
      go_ret
      obtain rfl : k = lt := by omega
      exact ⟨⟨_, rfl, by omega, HROW.out.1, HSP.out⟩, hB0.trans (hbw.mono (by omega))⟩
end Go.Kn

namespace Go.Kn
open Go Go.Proofs Go.RowKit Go.Shelf

theorem lies_any {W : World} {b : Nat} {x : Value} (h : W.cell? ⟨b, 0, none⟩ = some x) : ∀ (j : Nat) (u : Value), [x][j]? = some u → W.cell? ((⟨b, 0, none⟩ : Addr).add j) = some u := by
  intro j u hj
  match j, hj with
  | 0, hj => simp at hj; subst hj; exact h
theorem upto_map_succ (f : Nat → Int) (k : Nat) : (upto f (k + 1)).map (Value.int .i64) = (upto f k).map (Value.int .i64) ++ [.int .i64 (f k)] := by rw [upto_succ]; simp

theorem upto_getD (f : Nat → Int) (n : Nat) : upto (fun i => (upto f n).getD i 0) n = upto f n := by
  apply List.ext_getElem
  · simp [upto]
  · intro i h1 h2
    simp [upto] at h1 h2 ⊢
    simp [h1]
theorem leastRow_w (b off n cap : Nat) (f : Nat → Int) (L : Int) (hL : L = bmin (upto f n)) (hn : 1 ≤ n ∧ n ≤ 8) (w : World) (hb : b < w.heap.size) (hc : NumAt w b off n (fun i => (upto f n).getD i 0)) :
    Calls Tryz.prog 99 #[.slice (some ⟨b, off, none⟩) n cap] w fun e W' => e = .returned (.int .i64 L) ∧ Below w.heap.size w W' := by
  have := leastN_w b off n cap (fun i => (upto f n).getD i 0) (by omega) (by omega) w hb hc
  rw [upto_getD, ← hL] at this
  exact this
theorem al_top {W : World} {n : Nat} (hn : W.heap.size = n) (x : Value) (T : TypeId) : (W.alloc (.cells #[x] T)).cell? ⟨n, 0, none⟩ = some x := by subst hn; simp
theorem keep2 {W W' : World} {n0 e size k : Nat} {v v' : Value} {xs : List Value} (h : W.ownsRow n0 e size v k xs) (hg : W.grownBy W' v'.ownBlock) (hd : ∀ r, v'.ownBlock = some r → v.ownBlock ≠ some r) : W'.ownsRow n0 e size v k xs := by
  refine h.kept hg ?_
  rcases h.2 with ⟨rfl, _⟩ | ⟨g, cap, cur, rfl, _⟩
  · exact .inl rfl
  · refine .inr fun he => ?_
    have h1 : (Value.slice (some ⟨g, 0, none⟩) k cap).ownBlock = some g := rfl
    exact hd g (he ▸ h1) h1
theorem own_lt {W : World} {n0 e size k : Nat} {v : Value} {xs : List Value} (h : W.ownsRow n0 e size v k xs) (r : Nat) (hr : v.ownBlock = some r) : r < W.heap.size := by
  rcases h.2 with ⟨rfl, _⟩ | ⟨g, cap, cur, rfl, hb, hg, _⟩
  · simp [Value.ownBlock] at hr
  · obtain rfl : g = r := by simpa [Value.ownBlock] using hr
    exact (Array.getElem?_eq_some_iff.1 hg).1
theorem disj1 {W : World} {n0 e size k g H : Nat} {v v' : Value} {xs : List Value} (hB : W.ownsRow n0 e size v' k xs) (hat : v.ownBlock = some g ∨ g = H) (hd : ∀ r, v.ownBlock = some r → v'.ownBlock ≠ some r) (hH : W.heap.size ≤ H) : ∀ r, v'.ownBlock = some r → some g ≠ some r := by
  intro r hr he
  cases he
  rcases hat with h | h
  · exact hd _ h hr
  · have := own_lt hB _ hr; omega
theorem disj2 {g1 g2 H : Nat} {v : Value} (h1 : ∀ r, v.ownBlock = some r → some g1 ≠ some r) (hat : v.ownBlock = some g2 ∨ g2 = H) (hH : g1 < H) : g1 ≠ g2 := by
  intro e
  rcases hat with h | h
  · exact h1 _ h (by rw [e])
  · omega

set_option maxRecDepth 100000 in
set_option maxHeartbeats 4000000 in
theorem leastOf_w (G n c : Nat) (q : Nat → Sp2) (La Lb : Int) (HLA : Hid (La = bmin (upto (fun j => (q j).lo) n))) (HLB : Hid (Lb = bmin (upto (fun j => (q j).hi) n))) (w : World) (hn : 1 ≤ n ∧ n ≤ 8) (hG : G < w.heap.size) (HQ : Hid (SpAt w G 0 n q)) :
    Calls Tryz.prog 65 #[.slice (some ⟨G, 0, none⟩) n c] w
      fun e w' => e = .returned (.agg #[.int .i64 La, .int .i64 Lb]) ∧ Below w.heap.size w w' := by
  obtain ⟨hn1, hn2⟩ := hn
  obtain ⟨i0, hi, hz0, hz1, hz22⟩ := info_parts info3'
  have FX : Hid (∀ w', Below (w.alloc (.cells #[.int .i64 0, .int .i64 0] 31)).heap.size (w.alloc (.cells #[.int .i64 0, .int .i64 0] 31)) w' → SpAt w' G 0 n q) := Lib.hid fun w' h => HQ.out.below hG (below_al h)
  go_enter Tryz.func65, Tryz.ntmps65
  go_wp2
  go_loopw [3, 4, 9] (fun v1 v2 i wr => ∃ k : Nat, k ≤ n ∧ i = .int .i64 k ∧ wr.ownsRow (w.heap.size + 1) 3 1 v1 k ((upto (fun j => (q j).lo) k).map (Value.int .i64)) ∧ wr.ownsRow (w.heap.size + 1) 3 1 v2 k ((upto (fun j => (q j).hi) k).map (Value.int .i64)) ∧
      (∀ r, v1.ownBlock = some r → v2.ownBlock ≠ some r) ∧ Below (w.alloc (.cells #[.int .i64 0, .int .i64 0] 31)).heap.size (w.alloc (.cells #[.int .i64 0, .int .i64 0] 31)) wr) (fun _ _ i _ => n - (intOf i).toNat)
  case atStart => exact ⟨0, Nat.zero_le _, rfl, World.ownsRow_nil _ _ _ _, World.ownsRow_nil _ _ _ _, fun r h => by simp [Value.ownBlock] at h, Below.refl _ _⟩
  case round =>
    obtain ⟨k, hk, rfl, hown1, hown2, hdis, hbw⟩ := hrel
    have HA := Lib.hid hown1
    have HB := Lib.hid hown2
    have HD := Lib.hid hdis
    have HD2 := Lib.hid (fun r (h : _ = some r) h2 => hdis r h2 h)
    clear hown1 hown2 hdis
    have hz : w.heap.size + 1 ≤ wr.heap.size := by have := hbw.size; simpa using this
    by_cases hlt : k < n
    · obtain ⟨y0, y1⟩ := FX.out _ hbw k hlt
      simp only [Nat.zero_add] at y0 y1
      go_wp2
      have FZ : Hid (∀ w', Below (wr.alloc (.cells #[.int .i64 (q k).lo, .int .i64 (q k).hi] 31)).heap.size (wr.alloc (.cells #[.int .i64 (q k).lo, .int .i64 (q k).hi] 31)) w' → w'.cell? ⟨wr.heap.size, 0, none⟩ = some (.int .i64 (q k).lo) ∧ w'.cell? ⟨wr.heap.size, 1, none⟩ = some (.int .i64 (q k).hi)) := Lib.hid fun w' h => ⟨((bcell h).1 wr.heap.size 0 (by simp)).trans (by simp), ((bcell h).1 wr.heap.size 1 (by simp)).trans (by simp)⟩
      go_region_held3 (fun w' => w'.cell? ⟨wr.heap.size, 0, none⟩ = some (.int .i64 (q k).lo) ∧ w'.cell? ⟨wr.heap.size, 1, none⟩ = some (.int .i64 (q k).hi))
        ((first | exact hS | exact ⟨(World.cell?_alloc_lt _ _ ⟨wr.heap.size, 0, none⟩ (by show wr.heap.size < _; omega)).trans hS.1, (World.cell?_alloc_lt _ _ ⟨wr.heap.size, 1, none⟩ (by show wr.heap.size < _; omega)).trans hS.2⟩ | (refine FZ.out _ ?_; repeat (first | exact Below.refl _ _ | refine Below.alloc ?_ (by first | omega | (simp; done) | (simp; omega)) _ | refine Below.drew ?_))))
        ((first
          | (have hmode := hHB; refine step_append_lies _ rfl (.tmp 13) (.tmp 16) 22 rfl (w.heap.size + 1) 3 i0 _ 1 8 Tryz.underlying22 hi hz0 hz1 hz22 rfl (by decide) _ k _ rfl (by first | exact HO5 | exact HO5.alloc _) ⟨_, 0, none⟩ 1 1 [.int .i64 (q k).lo] rfl rfl (lies_any (by first | exact hc5 | exact al_top rfl _ _)) (by intro u hu; simp at hu; subst hu; rfl) (by decide) (by unfold maxLen; omega) (by omega) (by first | omega | (simp; omega)) _ rfl ?_; intro g2 cap2 w6 hown6 hgrow6 hat6 hlt6; have hz6 := hgrow6.size; have hS := (show w6.cell? ⟨wr.heap.size, 0, none⟩ = some (.int .i64 (q k).lo) ∧ w6.cell? ⟨wr.heap.size, 1, none⟩ = some (.int .i64 (q k).hi) from ⟨(hgrow6.cell_far ⟨wr.heap.size, 0, none⟩ (by first | (show wr.heap.size < _; omega) | (simp; omega)) (own_ne HA.out (.inr (Nat.le_refl _)))).trans (by first | exact hS.1 | exact (World.cell?_alloc_lt _ _ ⟨wr.heap.size, 0, none⟩ (by show wr.heap.size < _; omega)).trans hS.1), (hgrow6.cell_far ⟨wr.heap.size, 1, none⟩ (by first | (show wr.heap.size < _; omega) | (simp; omega)) (own_ne HA.out (.inr (Nat.le_refl _)))).trans (by first | exact hS.2 | exact (World.cell?_alloc_lt _ _ ⟨wr.heap.size, 1, none⟩ (by show wr.heap.size < _; omega)).trans hS.2)⟩); have HF := keep2 (v := .slice (some ⟨g1, 0, none⟩) (k + 1) cap1) (by first | exact hmode | exact hmode.alloc _) hgrow6 hdis1; have hne := disj2 hdis1 hat6 (by first | omega | (simp; done) | (simp; omega)); have hbl6 := (show Below (w.alloc (.cells #[.int .i64 0, .int .i64 0] 31)).heap.size (w.alloc (.cells #[.int .i64 0, .int .i64 0] 31)) w6 from Below.grown (by repeat (first | exact hbl5 | refine Below.alloc ?_ (by first | omega | (simp; done) | (simp; omega)) _)) hgrow6 (by first | omega | (simp; done) | (simp; omega)) (fun r e => Nat.le_trans (by simp) (own_ge HA.out r e))))
          | (have hmode := hHA; refine step_append_lies _ rfl (.tmp 18) (.tmp 21) 22 rfl (w.heap.size + 1) 3 i0 _ 1 8 Tryz.underlying22 hi hz0 hz1 hz22 rfl (by decide) _ k _ rfl (by first | exact HO5 | exact HO5.alloc _) ⟨_, 0, none⟩ 1 1 [.int .i64 (q k).hi] rfl rfl (lies_any (by first | exact hc5 | exact al_top rfl _ _)) (by intro u hu; simp at hu; subst hu; rfl) (by decide) (by unfold maxLen; omega) (by omega) (by first | omega | (simp; omega)) _ rfl ?_; intro g2 cap2 w6 hown6 hgrow6 hat6 hlt6; have hz6 := hgrow6.size; have hS := (show w6.cell? ⟨wr.heap.size, 0, none⟩ = some (.int .i64 (q k).lo) ∧ w6.cell? ⟨wr.heap.size, 1, none⟩ = some (.int .i64 (q k).hi) from ⟨(hgrow6.cell_far ⟨wr.heap.size, 0, none⟩ (by first | (show wr.heap.size < _; omega) | (simp; omega)) (own_ne HB.out (.inr (Nat.le_refl _)))).trans (by first | exact hS.1 | exact (World.cell?_alloc_lt _ _ ⟨wr.heap.size, 0, none⟩ (by show wr.heap.size < _; omega)).trans hS.1), (hgrow6.cell_far ⟨wr.heap.size, 1, none⟩ (by first | (show wr.heap.size < _; omega) | (simp; omega)) (own_ne HB.out (.inr (Nat.le_refl _)))).trans (by first | exact hS.2 | exact (World.cell?_alloc_lt _ _ ⟨wr.heap.size, 1, none⟩ (by show wr.heap.size < _; omega)).trans hS.2)⟩); have HF := keep2 (v := .slice (some ⟨g1, 0, none⟩) (k + 1) cap1) (by first | exact hmode | exact hmode.alloc _) hgrow6 hdis1; have hne := disj2 hdis1 hat6 (by first | omega | (simp; done) | (simp; omega)); have hbl6 := (show Below (w.alloc (.cells #[.int .i64 0, .int .i64 0] 31)).heap.size (w.alloc (.cells #[.int .i64 0, .int .i64 0] 31)) w6 from Below.grown (by repeat (first | exact hbl5 | refine Below.alloc ?_ (by first | omega | (simp; done) | (simp; omega)) _)) hgrow6 (by first | omega | (simp; done) | (simp; omega)) (fun r e => Nat.le_trans (by simp) (own_ge HB.out r e))))
          | (refine step_append_lies _ rfl (.tmp 13) (.tmp 16) 22 rfl (w.heap.size + 1) 3 i0 _ 1 8 Tryz.underlying22 hi hz0 hz1 hz22 rfl (by decide) _ k _ rfl ((HA.out.alloc _).alloc _).drew ⟨wr.heap.size + 1, 0, none⟩ 1 1 [.int .i64 (q k).lo] rfl rfl (lies_any (by simp)) (by intro u hu; simp at hu; subst hu; rfl) (by decide) (by unfold maxLen; omega) (by omega) (by first | omega | (simp; omega)) _ rfl ?_; intro g1 cap1 w5 hown5 hgrow5 hat5 hlt5; have hz5 : wr.heap.size + 1 ≤ w5.heap.size := (by have := hgrow5.size; simp at this; omega); have hS := (show w5.cell? ⟨wr.heap.size, 0, none⟩ = some (.int .i64 (q k).lo) ∧ w5.cell? ⟨wr.heap.size, 1, none⟩ = some (.int .i64 (q k).hi) from ⟨(hgrow5.cell_far ⟨wr.heap.size, 0, none⟩ (by first | (simp; done) | (simp; omega)) (own_ne HA.out (.inr (Nat.le_refl _)))).trans (FZ.out _ (by repeat (first | exact Below.refl _ _ | refine Below.alloc ?_ (by first | omega | (simp; done) | (simp; omega)) _ | refine Below.drew ?_))).1, (hgrow5.cell_far ⟨wr.heap.size, 1, none⟩ (by first | (simp; done) | (simp; omega)) (own_ne HA.out (.inr (Nat.le_refl _)))).trans (FZ.out _ (by repeat (first | exact Below.refl _ _ | refine Below.alloc ?_ (by first | omega | (simp; done) | (simp; omega)) _ | refine Below.drew ?_))).2⟩); have HO5 := keep2 (((HB.out.alloc _).alloc _).drew) hgrow5 HD.out; have hdis1 := disj1 HB.out hat5 HD.out (by first | (simp; done) | (simp; omega)); have hbl5 := (Below.trans (show Below (w.alloc (.cells #[.int .i64 0, .int .i64 0] 31)).heap.size (w.alloc (.cells #[.int .i64 0, .int .i64 0] 31)) wr from hbw) (Below.mono (Below.grown (B := w.heap.size + 1) (by repeat (first | exact Below.refl _ _ | refine Below.alloc ?_ (by first | omega | (simp; done) | (simp; omega)) _ | refine Below.drew ?_)) hgrow5 (by first | (simp; done) | (simp; omega)) (fun r e => own_ge HA.out r e)) (by simp))); have hHA := hown5)
          | (refine step_append_lies _ rfl (.tmp 13) (.tmp 16) 22 rfl (w.heap.size + 1) 3 i0 _ 1 8 Tryz.underlying22 hi hz0 hz1 hz22 rfl (by decide) _ k _ rfl (((HA.out.alloc _).alloc _).alloc _).drew ⟨wr.heap.size + 1, 0, none⟩ 1 1 [.int .i64 (q k).lo] rfl rfl (lies_any (by simp only [World.cell?_drew]; exact (World.cell?_alloc_lt _ _ ⟨wr.heap.size + 1, 0, none⟩ (by simp)).trans (by simp))) (by intro u hu; simp at hu; subst hu; rfl) (by decide) (by unfold maxLen; omega) (by omega) (by first | omega | (simp; omega)) _ rfl ?_; intro g1 cap1 w5 hown5 hgrow5 hat5 hlt5; have hz5 : wr.heap.size + 1 ≤ w5.heap.size := (by have := hgrow5.size; simp at this; omega); have hS := (show w5.cell? ⟨wr.heap.size, 0, none⟩ = some (.int .i64 (q k).lo) ∧ w5.cell? ⟨wr.heap.size, 1, none⟩ = some (.int .i64 (q k).hi) from ⟨(hgrow5.cell_far ⟨wr.heap.size, 0, none⟩ (by first | (simp; done) | (simp; omega)) (own_ne HA.out (.inr (Nat.le_refl _)))).trans (FZ.out _ (by repeat (first | exact Below.refl _ _ | refine Below.alloc ?_ (by first | omega | (simp; done) | (simp; omega)) _ | refine Below.drew ?_))).1, (hgrow5.cell_far ⟨wr.heap.size, 1, none⟩ (by first | (simp; done) | (simp; omega)) (own_ne HA.out (.inr (Nat.le_refl _)))).trans (FZ.out _ (by repeat (first | exact Below.refl _ _ | refine Below.alloc ?_ (by first | omega | (simp; done) | (simp; omega)) _ | refine Below.drew ?_))).2⟩); have HO5 := keep2 ((((HB.out.alloc _).alloc _).alloc _).drew) hgrow5 HD.out; have hdis1 := disj1 HB.out hat5 HD.out (by first | (simp; done) | (simp; omega)); have hbl5 := (Below.trans (show Below (w.alloc (.cells #[.int .i64 0, .int .i64 0] 31)).heap.size (w.alloc (.cells #[.int .i64 0, .int .i64 0] 31)) wr from hbw) (Below.mono (Below.grown (B := w.heap.size + 1) (by repeat (first | exact Below.refl _ _ | refine Below.alloc ?_ (by first | omega | (simp; done) | (simp; omega)) _ | refine Below.drew ?_)) hgrow5 (by first | (simp; done) | (simp; omega)) (fun r e => own_ge HA.out r e)) (by simp))); have hc5 := (hgrow5.cell_far ⟨wr.heap.size + 1 + 1, 0, none⟩ (by simp) (own_ne HA.out (.inr (by show wr.heap.size ≤ wr.heap.size + 1 + 1; omega)))).trans (show _ = some (Value.int .i64 (q k).hi) from (by simp only [World.cell?_drew]; exact al_top (by simp) _ _)); have hHA := hown5)
          | (refine step_append_lies _ rfl (.tmp 13) (.tmp 16) 22 rfl (w.heap.size + 1) 3 i0 _ 1 8 Tryz.underlying22 hi hz0 hz1 hz22 rfl (by decide) _ k _ rfl (((HA.out.alloc _).alloc _).alloc _).drew ⟨wr.heap.size + 1 + 1, 0, none⟩ 1 1 [.int .i64 (q k).lo] rfl rfl (lies_any (by simp only [World.cell?_drew]; exact al_top (by simp) _ _)) (by intro u hu; simp at hu; subst hu; rfl) (by decide) (by unfold maxLen; omega) (by omega) (by first | omega | (simp; omega)) _ rfl ?_; intro g1 cap1 w5 hown5 hgrow5 hat5 hlt5; have hz5 : wr.heap.size + 1 ≤ w5.heap.size := (by have := hgrow5.size; simp at this; omega); have hS := (show w5.cell? ⟨wr.heap.size, 0, none⟩ = some (.int .i64 (q k).lo) ∧ w5.cell? ⟨wr.heap.size, 1, none⟩ = some (.int .i64 (q k).hi) from ⟨(hgrow5.cell_far ⟨wr.heap.size, 0, none⟩ (by first | (simp; done) | (simp; omega)) (own_ne HA.out (.inr (Nat.le_refl _)))).trans (FZ.out _ (by repeat (first | exact Below.refl _ _ | refine Below.alloc ?_ (by first | omega | (simp; done) | (simp; omega)) _ | refine Below.drew ?_))).1, (hgrow5.cell_far ⟨wr.heap.size, 1, none⟩ (by first | (simp; done) | (simp; omega)) (own_ne HA.out (.inr (Nat.le_refl _)))).trans (FZ.out _ (by repeat (first | exact Below.refl _ _ | refine Below.alloc ?_ (by first | omega | (simp; done) | (simp; omega)) _ | refine Below.drew ?_))).2⟩); have HO5 := keep2 ((((HB.out.alloc _).alloc _).alloc _).drew) hgrow5 HD.out; have hdis1 := disj1 HB.out hat5 HD.out (by first | (simp; done) | (simp; omega)); have hbl5 := (Below.trans (show Below (w.alloc (.cells #[.int .i64 0, .int .i64 0] 31)).heap.size (w.alloc (.cells #[.int .i64 0, .int .i64 0] 31)) wr from hbw) (Below.mono (Below.grown (B := w.heap.size + 1) (by repeat (first | exact Below.refl _ _ | refine Below.alloc ?_ (by first | omega | (simp; done) | (simp; omega)) _ | refine Below.drew ?_)) hgrow5 (by first | (simp; done) | (simp; omega)) (fun r e => own_ge HA.out r e)) (by simp))); have hc5 := (hgrow5.cell_far ⟨wr.heap.size + 1, 0, none⟩ (by simp) (own_ne HA.out (.inr (by show wr.heap.size ≤ wr.heap.size + 1; omega)))).trans (show _ = some (Value.int .i64 (q k).hi) from (by simp only [World.cell?_drew]; exact (World.cell?_alloc_lt _ _ ⟨wr.heap.size + 1, 0, none⟩ (by simp)).trans (by simp))); have hHA := hown5)
          | (refine step_append_lies _ rfl (.tmp 18) (.tmp 21) 22 rfl (w.heap.size + 1) 3 i0 _ 1 8 Tryz.underlying22 hi hz0 hz1 hz22 rfl (by decide) _ k _ rfl ((HB.out.alloc _).alloc _).drew ⟨wr.heap.size + 1, 0, none⟩ 1 1 [.int .i64 (q k).hi] rfl rfl (lies_any (by simp)) (by intro u hu; simp at hu; subst hu; rfl) (by decide) (by unfold maxLen; omega) (by omega) (by first | omega | (simp; omega)) _ rfl ?_; intro g1 cap1 w5 hown5 hgrow5 hat5 hlt5; have hz5 : wr.heap.size + 1 ≤ w5.heap.size := (by have := hgrow5.size; simp at this; omega); have hS := (show w5.cell? ⟨wr.heap.size, 0, none⟩ = some (.int .i64 (q k).lo) ∧ w5.cell? ⟨wr.heap.size, 1, none⟩ = some (.int .i64 (q k).hi) from ⟨(hgrow5.cell_far ⟨wr.heap.size, 0, none⟩ (by first | (simp; done) | (simp; omega)) (own_ne HB.out (.inr (Nat.le_refl _)))).trans (FZ.out _ (by repeat (first | exact Below.refl _ _ | refine Below.alloc ?_ (by first | omega | (simp; done) | (simp; omega)) _ | refine Below.drew ?_))).1, (hgrow5.cell_far ⟨wr.heap.size, 1, none⟩ (by first | (simp; done) | (simp; omega)) (own_ne HB.out (.inr (Nat.le_refl _)))).trans (FZ.out _ (by repeat (first | exact Below.refl _ _ | refine Below.alloc ?_ (by first | omega | (simp; done) | (simp; omega)) _ | refine Below.drew ?_))).2⟩); have HO5 := keep2 (((HA.out.alloc _).alloc _).drew) hgrow5 HD2.out; have hdis1 := disj1 HA.out hat5 HD2.out (by first | (simp; done) | (simp; omega)); have hbl5 := (Below.trans (show Below (w.alloc (.cells #[.int .i64 0, .int .i64 0] 31)).heap.size (w.alloc (.cells #[.int .i64 0, .int .i64 0] 31)) wr from hbw) (Below.mono (Below.grown (B := w.heap.size + 1) (by repeat (first | exact Below.refl _ _ | refine Below.alloc ?_ (by first | omega | (simp; done) | (simp; omega)) _ | refine Below.drew ?_)) hgrow5 (by first | (simp; done) | (simp; omega)) (fun r e => own_ge HB.out r e)) (by simp))); have hHB := hown5)
          | (refine step_append_lies _ rfl (.tmp 18) (.tmp 21) 22 rfl (w.heap.size + 1) 3 i0 _ 1 8 Tryz.underlying22 hi hz0 hz1 hz22 rfl (by decide) _ k _ rfl (((HB.out.alloc _).alloc _).alloc _).drew ⟨wr.heap.size + 1, 0, none⟩ 1 1 [.int .i64 (q k).hi] rfl rfl (lies_any (by simp only [World.cell?_drew]; exact (World.cell?_alloc_lt _ _ ⟨wr.heap.size + 1, 0, none⟩ (by simp)).trans (by simp))) (by intro u hu; simp at hu; subst hu; rfl) (by decide) (by unfold maxLen; omega) (by omega) (by first | omega | (simp; omega)) _ rfl ?_; intro g1 cap1 w5 hown5 hgrow5 hat5 hlt5; have hz5 : wr.heap.size + 1 ≤ w5.heap.size := (by have := hgrow5.size; simp at this; omega); have hS := (show w5.cell? ⟨wr.heap.size, 0, none⟩ = some (.int .i64 (q k).lo) ∧ w5.cell? ⟨wr.heap.size, 1, none⟩ = some (.int .i64 (q k).hi) from ⟨(hgrow5.cell_far ⟨wr.heap.size, 0, none⟩ (by first | (simp; done) | (simp; omega)) (own_ne HB.out (.inr (Nat.le_refl _)))).trans (FZ.out _ (by repeat (first | exact Below.refl _ _ | refine Below.alloc ?_ (by first | omega | (simp; done) | (simp; omega)) _ | refine Below.drew ?_))).1, (hgrow5.cell_far ⟨wr.heap.size, 1, none⟩ (by first | (simp; done) | (simp; omega)) (own_ne HB.out (.inr (Nat.le_refl _)))).trans (FZ.out _ (by repeat (first | exact Below.refl _ _ | refine Below.alloc ?_ (by first | omega | (simp; done) | (simp; omega)) _ | refine Below.drew ?_))).2⟩); have HO5 := keep2 ((((HA.out.alloc _).alloc _).alloc _).drew) hgrow5 HD2.out; have hdis1 := disj1 HA.out hat5 HD2.out (by first | (simp; done) | (simp; omega)); have hbl5 := (Below.trans (show Below (w.alloc (.cells #[.int .i64 0, .int .i64 0] 31)).heap.size (w.alloc (.cells #[.int .i64 0, .int .i64 0] 31)) wr from hbw) (Below.mono (Below.grown (B := w.heap.size + 1) (by repeat (first | exact Below.refl _ _ | refine Below.alloc ?_ (by first | omega | (simp; done) | (simp; omega)) _ | refine Below.drew ?_)) hgrow5 (by first | (simp; done) | (simp; omega)) (fun r e => own_ge HB.out r e)) (by simp))); have hc5 := (hgrow5.cell_far ⟨wr.heap.size + 1 + 1, 0, none⟩ (by simp) (own_ne HB.out (.inr (by show wr.heap.size ≤ wr.heap.size + 1 + 1; omega)))).trans (show _ = some (Value.int .i64 (q k).lo) from (by simp only [World.cell?_drew]; exact al_top (by simp) _ _)); have hHB := hown5)
          | (refine step_append_lies _ rfl (.tmp 18) (.tmp 21) 22 rfl (w.heap.size + 1) 3 i0 _ 1 8 Tryz.underlying22 hi hz0 hz1 hz22 rfl (by decide) _ k _ rfl (((HB.out.alloc _).alloc _).alloc _).drew ⟨wr.heap.size + 1 + 1, 0, none⟩ 1 1 [.int .i64 (q k).hi] rfl rfl (lies_any (by simp only [World.cell?_drew]; exact al_top (by simp) _ _)) (by intro u hu; simp at hu; subst hu; rfl) (by decide) (by unfold maxLen; omega) (by omega) (by first | omega | (simp; omega)) _ rfl ?_; intro g1 cap1 w5 hown5 hgrow5 hat5 hlt5; have hz5 : wr.heap.size + 1 ≤ w5.heap.size := (by have := hgrow5.size; simp at this; omega); have hS := (show w5.cell? ⟨wr.heap.size, 0, none⟩ = some (.int .i64 (q k).lo) ∧ w5.cell? ⟨wr.heap.size, 1, none⟩ = some (.int .i64 (q k).hi) from ⟨(hgrow5.cell_far ⟨wr.heap.size, 0, none⟩ (by first | (simp; done) | (simp; omega)) (own_ne HB.out (.inr (Nat.le_refl _)))).trans (FZ.out _ (by repeat (first | exact Below.refl _ _ | refine Below.alloc ?_ (by first | omega | (simp; done) | (simp; omega)) _ | refine Below.drew ?_))).1, (hgrow5.cell_far ⟨wr.heap.size, 1, none⟩ (by first | (simp; done) | (simp; omega)) (own_ne HB.out (.inr (Nat.le_refl _)))).trans (FZ.out _ (by repeat (first | exact Below.refl _ _ | refine Below.alloc ?_ (by first | omega | (simp; done) | (simp; omega)) _ | refine Below.drew ?_))).2⟩); have HO5 := keep2 ((((HA.out.alloc _).alloc _).alloc _).drew) hgrow5 HD2.out; have hdis1 := disj1 HA.out hat5 HD2.out (by first | (simp; done) | (simp; omega)); have hbl5 := (Below.trans (show Below (w.alloc (.cells #[.int .i64 0, .int .i64 0] 31)).heap.size (w.alloc (.cells #[.int .i64 0, .int .i64 0] 31)) wr from hbw) (Below.mono (Below.grown (B := w.heap.size + 1) (by repeat (first | exact Below.refl _ _ | refine Below.alloc ?_ (by first | omega | (simp; done) | (simp; omega)) _ | refine Below.drew ?_)) hgrow5 (by first | (simp; done) | (simp; omega)) (fun r e => own_ge HB.out r e)) (by simp))); have hc5 := (hgrow5.cell_far ⟨wr.heap.size + 1, 0, none⟩ (by simp) (own_ne HB.out (.inr (by show wr.heap.size ≤ wr.heap.size + 1; omega)))).trans (show _ = some (Value.int .i64 (q k).lo) from (by simp only [World.cell?_drew]; exact (World.cell?_alloc_lt _ _ ⟨wr.heap.size + 1, 0, none⟩ (by simp)).trans (by simp))); have hHB := hown5)))
      all_goals
        go_wp2
        go_roundw
        case rel =>
          first
            | exact ⟨k + 1, by omega, by go_num, by rw [upto_map_succ]; exact HF, by rw [upto_map_succ]; exact hown6, fun r h h2 => hne (Option.some.inj (h.trans h2.symm)), hbl6⟩
            | exact ⟨k + 1, by omega, by go_num, by rw [upto_map_succ]; exact hown6, by rw [upto_map_succ]; exact HF, fun r h h2 => hne (Option.some.inj (h2.trans h.symm)), hbl6⟩
        case measure => simp [intOf]; omega
    · obtain rfl : k = n := by omega
      clear HD HD2
      go_wp2_with (fail)
      obtain ⟨sa, ca, hv1, -, hs1⟩ := intSl_of_owns HA.out
      obtain ⟨sb, cb, hv2, -, hs2⟩ := intSl_of_owns HB.out
      subst hv1
      subst hv2
      obtain ⟨A1, O1, rfl, hA1, hn1'⟩ := hs1.resolve_left (by omega)
      obtain ⟨A2, O2, rfl, hA2, hn2'⟩ := hs2.resolve_left (by omega)
      have N1 := Lib.hid hn1'
      have N2 := Lib.hid hn2'
      clear hs1 hs2 hn1' hn2' HA HB
      have z0 : ∀ w', Below wr.heap.size wr w' → w'.cell? ⟨w.heap.size, 0, none⟩ = some (.int .i64 0) ∧ w'.cell? ⟨w.heap.size, 1, none⟩ = some (.int .i64 0) ∧ w'.frozen? ⟨w.heap.size, 0, none⟩ = false ∧ w'.frozen? ⟨w.heap.size, 1, none⟩ = false := fun w' h => by
        have hh := hbw.trans (h.mono hbw.size)
        obtain ⟨a, b⟩ := bcell hh
        exact ⟨(a _ _ (by simp)).trans (by simp), (a _ _ (by simp)).trans (by simp), (b _ _ (by simp)).trans (by simp), (b _ _ (by simp)).trans (by simp)⟩
      have Z0 := Lib.hid z0
      clear z0
      clear hk hlt
      go_wp2_with (first
        | (go_at_call_of 99 A1; refine (leastRow_w A1 O1 k ca _ La HLA.out ⟨hn1, hn2⟩ _ hA1 N1.out).mono ?_; rintro e w5 ⟨rfl, hb5⟩)
        | (go_at_call 99; refine (leastRow_w A2 O2 k cb _ Lb HLB.out ⟨hn1, hn2⟩ _ (Nat.lt_of_lt_of_le hA2 hb5.size) (N2.out.below hA2 hb5)).mono ?_; rintro e w6 ⟨rfl, hb6⟩; have hb56 := hb5.trans (hb6.mono hb5.size); obtain ⟨c0, c1, f0, f1⟩ := Z0.out _ hb56))
      refine bodyPost_ret (v := .agg #[.int .i64 La, .int .i64 Lb]) (by simp [results, Tryz.results65, go_sem, c0, c1]) rfl ⟨rfl, ?_⟩
      exact ((below_al (hbw.trans (hb56.mono hbw.size))).setCell (by simp) _).setCell (by simp) _
end Go.Kn

namespace Go.Kn
open Go Go.Proofs Go.RowKit Go.Shelf

/-- a boxed line with a span's cells behind it, in any world that comes later -/
theorem box22 {w w1 : World} {x y z u : Value} {T T1 : TypeId} (hb : Below ((w.alloc (.cells #[x, y] T)).alloc (.cells #[z, u] T1)).heap.size ((w.alloc (.cells #[x, y] T)).alloc (.cells #[z, u] T1)) w1) :
    w1.cell? ⟨w.heap.size, 0, none⟩ = some x ∧ w1.cell? ⟨w.heap.size, 1, none⟩ = some y ∧ w1.cell? ⟨w.heap.size + 1, 0, none⟩ = some z ∧ w1.cell? ⟨w.heap.size + 1, 1, none⟩ = some u ∧ w1.frozen? ⟨w.heap.size + 1, 0, none⟩ = false ∧ w1.frozen? ⟨w.heap.size + 1, 1, none⟩ = false ∧ w.heap.size + 1 < w1.heap.size := by
  obtain ⟨hc, hf⟩ := bcell hb
  refine ⟨(hc _ _ (by simp; try omega)).trans (by simp), (hc _ _ (by simp; try omega)).trans (by simp), (hc _ _ (by simp; try omega)).trans (by simp), (hc _ _ (by simp; try omega)).trans (by simp), (hf _ _ (by simp; try omega)).trans (by simp), (hf _ _ (by simp; try omega)).trans (by simp), ?_⟩
  have := hb.size
  simp at this; omega
theorem below_al2 {w w1 : World} {o o1 : Obj} (h : Below ((w.alloc o).alloc o1).heap.size ((w.alloc o).alloc o1) w1) : Below w.heap.size w w1 :=
  (((Below.refl _ _).alloc (Nat.le_refl _) _).alloc (by simp) _).trans (h.mono (by simp; omega))

set_option maxRecDepth 100000 in
set_option maxHeartbeats 4000000 in
theorem pline_w (A O C P ls cs lt ct D F cq : Nat) (s : Nat → Int) (t : Nat → St5) (g : Nat → Int) (La Lb : Int) (HLA : Hid (La = bmin (upto (fun j => (carOf s t g j).lo) lt))) (HLB : Hid (Lb = bmin (upto (fun j => (carOf s t g j).hi) lt))) (w : World) (H : Hid (LineAt w A O C P ls lt s t)) (hD : D < w.heap.size) (HD : Hid (NumAt w D F lt g)) (hQ : Hid (AgeP lt lt g)) :
    Calls Tryz.prog 31 #[.agg #[.slice (some ⟨A, O, none⟩) ls cs, .slice (some ⟨C, P, none⟩) lt ct], .slice (some ⟨D, F, none⟩) lt cq] w
      fun e w' => e = .returned (.tuple #[.agg #[.int .i64 La, .int .i64 Lb], .int .i64 0]) ∧ Below w.heap.size w w' := by
  have BX := Lib.hid (fun (w1 : World) (hb : Below ((w.alloc (.cells #[.slice (some ⟨A, O, none⟩) ls cs, .slice (some ⟨C, P, none⟩) lt ct] 25)).alloc (.cells #[.int .i64 0, .int .i64 0] 31)).heap.size ((w.alloc (.cells #[.slice (some ⟨A, O, none⟩) ls cs, .slice (some ⟨C, P, none⟩) lt ct] 25)).alloc (.cells #[.int .i64 0, .int .i64 0] 31)) w1) => box22 hb)
  have HL : Hid (∀ w1, Below ((w.alloc (.cells #[.slice (some ⟨A, O, none⟩) ls cs, .slice (some ⟨C, P, none⟩) lt ct] 25)).alloc (.cells #[.int .i64 0, .int .i64 0] 31)).heap.size ((w.alloc (.cells #[.slice (some ⟨A, O, none⟩) ls cs, .slice (some ⟨C, P, none⟩) lt ct] 25)).alloc (.cells #[.int .i64 0, .int .i64 0] 31)) w1 → LineAt w1 A O C P ls lt s t ∧ D < w1.heap.size ∧ NumAt w1 D F lt g) := Lib.hid fun w1 h => ⟨H.out.below (below_al2 h), Nat.lt_of_lt_of_le hD (below_al2 h).size, HD.out.below hD (below_al2 h)⟩
  have q1 := H.out.lt1
  have q2 := H.out.lt2
  go_enter Tryz.func31, Tryz.ntmps31
  go_wp2_with (first
    | (go_at_call 45; refine (isLine_w _ _ _ _ _ _ _ _ s t _ (Lib.hid (HL.out _ (Below.refl _ _)).1)).mono ?_; rintro e w1 ⟨rfl, hb1⟩; obtain ⟨x0, x1, x2, x3, x4, x5, x6⟩ := BX.out _ hb1)
    | (go_at_call 64; refine (areAges_w _ _ _ _ _ _ _ g _ ⟨q1, by omega⟩ (by unfold maxLen; omega) (Lib.hid (.inr ⟨D, F, rfl, (HL.out _ hb1).2.1, (HL.out _ hb1).2.2⟩))).mono ?_; rintro e w2 ⟨⟨rb, rfl, hrb⟩, hb2⟩; obtain rfl : rb = true := hrb.2 hQ.out; clear hrb; have hb12 := hb1.trans (hb2.mono hb1.size); clear x0 x1 x2 x3 x4 x5 x6; obtain ⟨x0, x1, x2, x3, x4, x5, x6⟩ := BX.out _ hb12)
    | (go_at_call 66; refine (carried_w _ _ _ _ _ _ _ _ _ _ _ s t g _ (Lib.hid (HL.out _ hb12).1) (HL.out _ hb12).2.1 (Lib.hid (HL.out _ hb12).2.2) hQ).mono ?_; rintro e w3 ⟨⟨G, rfl, hG1, hG2, hG3⟩, hb3⟩; have HG := Lib.hid hG3; clear hG3; have hb13 := hb12.trans (hb3.mono hb12.size); clear x0 x1 x2 x3 x4 x5 x6; obtain ⟨x0, x1, x2, x3, x4, x5, x6⟩ := BX.out _ hb13)
    | (go_at_call 65; refine (leastOf_w _ _ _ (carOf s t g) La Lb HLA HLB _ ⟨q1, q2⟩ hG2 HG).mono ?_; rintro e w4 ⟨rfl, hb4⟩; have hb14 := hb13.trans (hb4.mono hb13.size); clear x0 x1 x2 x3 x4 x5 x6; obtain ⟨x0, x1, x2, x3, x4, x5, x6⟩ := BX.out _ hb14))
  refine bodyPost_ret (v := .tuple #[.agg #[.int .i64 La, .int .i64 Lb], .int .i64 0]) (by simp [results, Tryz.results31, go_sem, x2, x3]) rfl ⟨rfl, ?_⟩
  exact ((below_al2 hb14).setCell (by simp) _).setCell (by simp) _

end Go.Kn

namespace Go.Kn
open Go Go.Proofs Go.RowKit Go.Shelf

/-- the least of the first k numbers, and 10000001 -/
def mnOf (f : Nat → Int) : Nat → Int
  | 0 => 10000001
  | k + 1 => min (mnOf f k) (f k)
theorem mnOf_bmin (f : Nat → Int) : ∀ n : Nat, 1 ≤ n → (∀ j, j < n → f j ≤ 10000000) → mnOf f n = bmin (upto f n) := by
  intro n
  induction n with
  | zero => intro h; omega
  | succ n ih =>
    intro _ hb
    by_cases h0 : n = 0
    · subst h0
      have := hb 0 (by omega)
      simp [mnOf, upto, bmin, List.range_succ]
      omega
    · have h1 := ih (by omega) (fun j hj => hb j (by omega))
      have hne : upto f n ≠ [] := by
        intro e
        have := upto_length f n
        rw [e] at this
        simp at this; omega
      rw [upto_succ, bmin_snoc _ _ hne, ← h1]
      rfl
theorem carOf_bd {w : World} {A O C P ls lt : Nat} {s : Nat → Int} {t : Nat → St5} {g : Nat → Int} (H : LineAt w A O C P ls lt s t) (hQ : AgeP lt lt g) (k : Nat) (hk : k < lt) : (0 ≤ (carOf s t g k).lo ∧ (carOf s t g k).lo ≤ 10000000) ∧ (0 ≤ (carOf s t g k).hi ∧ (carOf s t g k).hi ≤ 10000000) ∧ (carOf s t g k).lo ≤ (carOf s t g k).hi := by
  obtain ⟨b1, b2, b3, b4, b5⟩ := H.bds hk
  have hg := hQ.ok k hk
  simp only [fromB, decide_eq_true_eq] at hg
  have hsp : 0 ≤ s (t k).f.toNat ∧ s (t k).f.toNat ≤ 1000 := ⟨by omega, by omega⟩
  exact ⟨cupsL_bd hsp ⟨by omega, b1.2⟩ ⟨by omega, b2.2⟩ (by omega) hg.1, cupsL_bd hsp ⟨by omega, b1.2⟩ ⟨by omega, b2.2⟩ (by omega) hg.1, cupsL_mono hsp.1 b4.1 b4.2.1 hg.1 (Int.le_refl _)⟩

theorem cell_lone2 {W : World} {n : Nat} (hn : W.heap.size = n) (x y : Value) (T : TypeId) : (W.alloc (.cells #[x, y] T)).cell? ⟨n, 0, none⟩ = some x ∧ (W.alloc (.cells #[x, y] T)).cell? ⟨n, 1, none⟩ = some y ∧ (W.alloc (.cells #[x, y] T)).frozen? ⟨n, 0, none⟩ = false ∧ (W.alloc (.cells #[x, y] T)).frozen? ⟨n, 1, none⟩ = false := by
  subst hn; exact ⟨by simp, by simp, by simp, by simp⟩

end Go.Kn

namespace Go.Kn
open Go Go.Proofs Go.RowKit Go.Shelf

set_option maxHeartbeats 400000 in
theorem need_w (c : Int) (w : World) : Calls Tryz.prog 30 #[.int .i64 c] w fun e w' => e = .returned (.bool (fromB 1 10000000 c)) ∧ w = w' := by
  go_enter Tryz.func30, Tryz.ntmps30
  go_wp2_with (go_at_call 50; refine (in_w _ _ _ _).mono ?_; rintro e w1 ⟨rfl, rfl⟩)
  go_ret
  exact ⟨rfl, rfl⟩

set_option maxHeartbeats 400000 in
theorem isNeed_w (c : Int) (w : World) : Calls Tryz.prog 67 #[.int .i64 c] w fun e w' => e = .returned (.bool (fromB 1 10000000 c)) ∧ w = w' := by
  go_enter Tryz.func67, Tryz.ntmps67
  go_wp2_with (go_at_call 70; refine (isFrom_w _ _ _ _).mono ?_; rintro e w' ⟨rfl, rfl⟩)
  go_ret
  exact ⟨rfl, rfl⟩

set_option maxHeartbeats 1000000 in
theorem surely_w (b d f lo hi sp ag nd : Int) (w : World) (hb : 0 ≤ b ∧ b ≤ 100) (hd : 0 ≤ d ∧ d ≤ 100) (hs : 0 ≤ sp ∧ sp ≤ 1000) (ha : 0 ≤ ag ∧ ag ≤ 200) (hr : 0 ≤ hi ∧ hi ≤ 100) :
    Calls Tryz.prog 69 #[.agg #[.int .i64 b, .int .i64 d, .int .i64 f, .int .i64 lo, .int .i64 hi, .int .i64 sp, .int .i64 ag], .int .i64 nd] w fun e w' => e = .returned (.bool (decide (nd ≤ cupsV b d sp ag hi))) ∧ Below w.heap.size w w' := by
  go_enter Tryz.func69, Tryz.ntmps69
  go_wp2_with (go_at_call 84; refine (least_w _ _ _ _ _ _ _ _ hb hd hs ha hr).mono ?_; rintro e w1 ⟨rfl, hb1⟩)
  go_ret
  exact ⟨rfl, below_al hb1⟩

/-- a is the greatest age at which a stretch surely carries a need, if b; else there is none -/
def Great (s : Nat → Int) (x : St5) (nd a : Int) (b : Bool) : Prop :=
  (b = true ∧ 0 ≤ a ∧ a ≤ 200 ∧ nd ≤ cupsL s x a x.hi ∧ ∀ a', a < a' → a' ≤ 200 → cupsL s x a' x.hi < nd) ∨ (b = false ∧ a = 0 ∧ ∀ a', 0 ≤ a' → a' ≤ 200 → cupsL s x a' x.hi < nd)

set_option maxRecDepth 100000 in
set_option maxHeartbeats 4000000 in
theorem greatestAge_w (A O C P ls cs lt ct n : Nat) (s : Nat → Int) (t : Nat → St5) (nd : Int) (w : World) (H : Hid (LineAt w A O C P ls lt s t)) (hn : n < lt) :
    Calls Tryz.prog 68 #[.agg #[.slice (some ⟨A, O, none⟩) ls cs, .slice (some ⟨C, P, none⟩) lt ct], .int .i64 (n : Int), .int .i64 nd] w
      fun e w' => (∃ (a : Int) (b : Bool), e = .returned (.tuple #[.int .i64 a, .bool b]) ∧ Great s (t n) nd a b) ∧ Below w.heap.size w w' := by
  obtain ⟨b1, b2, b3, b4, b5⟩ := H.out.bds hn
  have HL : Hid (∀ w1, Below (w.alloc (.cells #[.slice (some ⟨A, O, none⟩) ls cs, .slice (some ⟨C, P, none⟩) lt ct] 25)).heap.size (w.alloc (.cells #[.slice (some ⟨A, O, none⟩) ls cs, .slice (some ⟨C, P, none⟩) lt ct] 25)) w1 → LineAt w1 A O C P ls lt s t) := Lib.hid fun w1 h => H.out.below (below_al h)
  have BX := Lib.hid (fun (w1 : World) (hb : Below (w.alloc (.cells #[.slice (some ⟨A, O, none⟩) ls cs, .slice (some ⟨C, P, none⟩) lt ct] 25)).heap.size (w.alloc (.cells #[.slice (some ⟨A, O, none⟩) ls cs, .slice (some ⟨C, P, none⟩) lt ct] 25)) w1) => box_cells hb)
  go_enter Tryz.func68, Tryz.ntmps68
  go_wp2
  go_loopw [8] (fun i wr => ∃ k : Nat, k ≤ 201 ∧ i = .int .i64 (200 - (k : Int)) ∧ Below (w.alloc (.cells #[.slice (some ⟨A, O, none⟩) ls cs, .slice (some ⟨C, P, none⟩) lt ct] 25)).heap.size (w.alloc (.cells #[.slice (some ⟨A, O, none⟩) ls cs, .slice (some ⟨C, P, none⟩) lt ct] 25)) wr ∧ (∀ a', 200 - (k : Int) < a' → a' ≤ 200 → cupsL s (t n) a' (t n).hi < nd))
    (fun i _ => (intOf i + 1).toNat)
  case atStart => exact ⟨0, by omega, by go_num, Below.refl _ _, fun a' h1 h2 => by omega⟩
  case round =>
    obtain ⟨k, hk, rfl, hbw, hall⟩ := hrel
    have HALL := Lib.hid hall
    clear hall
    obtain ⟨x1, x2, x3⟩ := BX.out _ hbw
    by_cases hlt : k ≤ 200
    · have ha : 0 ≤ 200 - (k : Int) ∧ 200 - (k : Int) ≤ 200 := ⟨by omega, by omega⟩
      by_cases hv : nd ≤ cupsL s (t n) (200 - (k : Int)) (t n).hi
      · have hdv : decide (nd ≤ cupsV (t n).b (t n).d (s (t n).f.toNat) (200 - (k : Int)) (t n).hi) = true := decide_eq_true hv
        go_wp2_with (first
          | (go_at_call 48; refine (at_l (HL.out _ hbw) hn _ _ _).mono ?_; rintro e w1 ⟨rfl, hb1⟩)
          | (go_at_call 69; refine (surely_w _ _ _ _ _ _ _ nd _ ⟨by omega, b1.2⟩ ⟨by omega, b2.2⟩ ⟨by omega, b5.2⟩ ha ⟨by omega, b4.2.2⟩).mono ?_; rw [hdv]; rintro e w2 ⟨rfl, hb2⟩; have hbw2 := (hbw.trans (hb1.mono hbw.size)).trans (hb2.mono (Nat.le_trans hbw.size hb1.size))))
        refine bodyPost_ret (v := .tuple #[.int .i64 (200 - (k : Int)), .bool true]) (by simp [results, Tryz.results68, go_sem]) rfl ⟨⟨_, true, rfl, .inl ⟨rfl, ha.1, ha.2, hv, HALL.out⟩⟩, below_al hbw2⟩
      · have hdv : decide (nd ≤ cupsV (t n).b (t n).d (s (t n).f.toNat) (200 - (k : Int)) (t n).hi) = false := decide_eq_false hv
        go_wp2_with (first
          | (go_at_call 48; refine (at_l (HL.out _ hbw) hn _ _ _).mono ?_; rintro e w1 ⟨rfl, hb1⟩)
          | (go_at_call 69; refine (surely_w _ _ _ _ _ _ _ nd _ ⟨by omega, b1.2⟩ ⟨by omega, b2.2⟩ ⟨by omega, b5.2⟩ ha ⟨by omega, b4.2.2⟩).mono ?_; rw [hdv]; rintro e w2 ⟨rfl, hb2⟩; have hbw2 := (hbw.trans (hb1.mono hbw.size)).trans (hb2.mono (Nat.le_trans hbw.size hb1.size))))
        go_roundw
        case rel => exact ⟨k + 1, by omega, by go_num, hbw2, fun a' h1 h2 => by
          by_cases e : a' = 200 - (k : Int)
          · rw [e]; omega
          · exact HALL.out a' (by omega) h2⟩
        case measure => simp [intOf]; omega
    · go_wp2
      refine bodyPost_ret (v := .tuple #[.int .i64 0, .bool false]) (by simp [results, Tryz.results68, go_sem]) rfl ⟨⟨0, false, rfl, .inr ⟨rfl, rfl, fun a' h1 h2 => HALL.out a' (by omega) h2⟩⟩, below_al hbw⟩

set_option maxRecDepth 100000 in
set_option maxHeartbeats 4000000 in
theorem latest_w (A O C P ls cs lt ct n : Nat) (s : Nat → Int) (t : Nat → St5) (nd : Int) (w : World) (H : Hid (LineAt w A O C P ls lt s t)) (hn : n < lt) (hnd : fromB 1 10000000 nd = true) :
    Calls Tryz.prog 32 #[.agg #[.slice (some ⟨A, O, none⟩) ls cs, .slice (some ⟨C, P, none⟩) lt ct], .int .i64 (n : Int), .int .i64 nd] w
      fun e w' => (∃ (a : Int) (b : Bool), e = .returned (.tuple #[.int .i64 a, .int .i64 (cond b 0 5)]) ∧ Great s (t n) nd a b) ∧ Below w.heap.size w w' := by
  have q0 := H.out.ls2
  have q1 := H.out.lt2
  have f1 : fromB 0 ((lt : Int) - 1) (n : Int) = true := by simp only [fromB, decide_eq_true_eq]; omega
  have HL : Hid (∀ w1, Below (w.alloc (.cells #[.slice (some ⟨A, O, none⟩) ls cs, .slice (some ⟨C, P, none⟩) lt ct] 25)).heap.size (w.alloc (.cells #[.slice (some ⟨A, O, none⟩) ls cs, .slice (some ⟨C, P, none⟩) lt ct] 25)) w1 → LineAt w1 A O C P ls lt s t) := Lib.hid fun w1 h => H.out.below (below_al h)
  have H1 : Hid (LineAt (w.alloc (.cells #[.slice (some ⟨A, O, none⟩) ls cs, .slice (some ⟨C, P, none⟩) lt ct] 25)) A O C P ls lt s t) := Lib.hid (H.out.alloc _)
  have BX := Lib.hid (fun (w1 : World) (hb : Below (w.alloc (.cells #[.slice (some ⟨A, O, none⟩) ls cs, .slice (some ⟨C, P, none⟩) lt ct] 25)).heap.size (w.alloc (.cells #[.slice (some ⟨A, O, none⟩) ls cs, .slice (some ⟨C, P, none⟩) lt ct] 25)) w1) => box_cells hb)
  go_enter Tryz.func32, Tryz.ntmps32
  go_wp2_with (first
    | (go_at_call 45; refine (isLine_w _ _ _ _ _ _ _ _ s t _ H1).mono ?_; rintro e w1 ⟨rfl, hb1⟩; obtain ⟨x1, x2, x3⟩ := BX.out _ hb1)
    | (go_at_call 46; refine (isStretch_w _ _ _ _ _ _ (by unfold maxLen; omega)).mono ?_; rintro e w2 ⟨rfl, hb2⟩; have hb12 := hb1.trans (hb2.mono hb1.size); clear x1 x2 x3; obtain ⟨x1, x2, x3⟩ := BX.out _ hb12)
    | (go_at_call 67; refine (isNeed_w _ _).mono ?_; rintro e w' ⟨rfl, rfl⟩)
    | (go_at_call 68; refine (greatestAge_w _ _ _ _ _ _ _ _ _ s t nd _ (Lib.hid (HL.out _ hb12)) hn).mono ?_; rintro e w3 ⟨⟨a, b, rfl, hg⟩, hb3⟩; have HG := Lib.hid hg; clear hg; have hb13 := hb12.trans (hb3.mono hb12.size)))
  · rename_i hb0
    obtain rfl : b = false := by simpa using hb0
    obtain rfl : a = 0 := by rcases HG.out with ⟨h, _⟩ | ⟨_, h, _⟩; cases h; exact h
    exact bodyPost_ret (v := .tuple #[.int .i64 0, .int .i64 5]) (by simp [results, Tryz.results32, go_sem]) rfl ⟨⟨0, false, rfl, HG.out⟩, below_al hb13⟩
  · rename_i hb0
    obtain rfl : b = true := by simpa using hb0
    exact bodyPost_ret (v := .tuple #[.int .i64 a, .int .i64 0]) (by simp [results, Tryz.results32, go_sem]) rfl ⟨⟨a, true, rfl, HG.out⟩, below_al hb13⟩
end Go.Kn

namespace Go.Kn
open Go Go.Proofs Go.RowKit Go.Shelf

theorem great_exists (s : Nat → Int) (x : St5) (nd : Int) : ∃ a b, Great s x nd a b := by
  have key : ∀ k : Nat, k ≤ 201 → (∃ a, 0 ≤ a ∧ a ≤ 200 ∧ nd ≤ cupsL s x a x.hi ∧ ∀ a', a < a' → a' ≤ 200 → cupsL s x a' x.hi < nd) ∨ (∀ a' : Int, 200 - (k : Int) < a' → a' ≤ 200 → cupsL s x a' x.hi < nd) := by
    intro k
    induction k with
    | zero => intro _; exact .inr (fun a' h1 h2 => by omega)
    | succ k ih =>
      intro hk
      rcases ih (by omega) with h | h
      · exact .inl h
      · by_cases hv : nd ≤ cupsL s x (200 - (k : Int)) x.hi
        · exact .inl ⟨200 - (k : Int), by omega, by omega, hv, h⟩
        · refine .inr (fun a' h1 h2 => ?_)
          by_cases e : a' = 200 - (k : Int)
          · rw [e]; omega
          · exact h a' (by omega) h2
  rcases key 201 (by omega) with ⟨a, h1, h2, h3, h4⟩ | h
  · exact ⟨a, true, .inl ⟨rfl, h1, h2, h3, h4⟩⟩
  · exact ⟨0, false, .inr ⟨rfl, rfl, fun a' h1 h2 => h a' (by omega) h2⟩⟩

theorem great_same {s : Nat → Int} {x : St5} {nd a a2 : Int} {b b2 : Bool} (h : Great s x nd a b) (h2 : Great s x nd a2 b2) : a2 = a ∧ b2 = b := by
  rcases h with ⟨rfl, p1, p2, p3, p4⟩ | ⟨rfl, rfl, p1⟩ <;> rcases h2 with ⟨rfl, q1, q2, q3, q4⟩ | ⟨rfl, rfl, q1⟩
  · refine ⟨?_, rfl⟩
    rcases Int.lt_trichotomy a2 a with h | h | h
    · have := q4 a h p2; omega
    · exact h
    · have := p4 a2 h q2; omega
  · have := q1 a p1 p2; omega
  · have := p1 a2 q1 q2; omega
  · exact ⟨rfl, rfl⟩

theorem latest_is {A O C P ls lt : Nat} (cs ct : Nat) {n : Nat} {s : Nat → Int} {t : Nat → St5} {nd a : Int} {b : Bool} {w : World} (H : Hid (LineAt w A O C P ls lt s t)) (hn : n < lt) (hnd : fromB 1 10000000 nd = true) (hG : Great s (t n) nd a b) :
    Calls Tryz.prog 32 #[.agg #[.slice (some ⟨A, O, none⟩) ls cs, .slice (some ⟨C, P, none⟩) lt ct], .int .i64 (n : Int), .int .i64 nd] w
      fun e w' => e = .returned (.tuple #[.int .i64 a, .int .i64 (cond b 0 5)]) ∧ Below w.heap.size w w' :=
  (latest_w A O C P ls cs lt ct n s t nd w H hn hnd).mono (by
    rintro e w' ⟨⟨a2, b2, rfl, h2⟩, hb⟩
    obtain ⟨rfl, rfl⟩ := great_same hG h2
    exact ⟨rfl, hb⟩)

end Go.Kn

namespace Go.Kn
open Go Go.Proofs Go.RowKit Go.Shelf

/-- the cells of one stretch -/
def stc (x : St5) : Nat → Value
  | 0 => .int .i64 x.b
  | 1 => .int .i64 x.d
  | 2 => .int .i64 x.f
  | 3 => .int .i64 x.lo
  | _ => .int .i64 x.hi

def stCells (t : Nat → St5) (lt : Nat) : List Value := (List.range (lt * 5)).map fun j => stc (t (j / 5)) (j % 5)

theorem stCells_len (t : Nat → St5) (lt : Nat) : (stCells t lt).length = lt * 5 := by simp [stCells]

theorem stCells_get {t : Nat → St5} {lt j : Nat} (h : j < lt * 5) : (stCells t lt)[j]? = some (stc (t (j / 5)) (j % 5)) := by
  simp [stCells, h]

theorem stCells_one (t : Nat → St5) (lt : Nat) : ∀ u ∈ stCells t lt, u.oneCell' = true := by
  intro u hu
  simp only [stCells, List.mem_map] at hu
  obtain ⟨j, _, rfl⟩ := hu
  unfold stc
  split <;> rfl

theorem StAt.cellOf {w : World} {C P lt : Nat} {t : Nat → St5} (h : StAt w C P lt t) {j : Nat} (hj : j < lt * 5) : w.cell? ⟨C, P + j, none⟩ = some (stc (t (j / 5)) (j % 5)) := by
  obtain ⟨q, r, hr, rfl⟩ : ∃ q r, r < 5 ∧ j = q * 5 + r := ⟨j / 5, j % 5, Nat.mod_lt _ (by omega), by omega⟩
  rw [show (q * 5 + r) / 5 = q by omega, show (q * 5 + r) % 5 = r by omega]
  obtain ⟨h0, h1, h2, h3, h4⟩ := h q (by omega)
  match r, hr with
  | 0, _ => exact h0
  | 1, _ => exact h1
  | 2, _ => exact h2
  | 3, _ => exact h3
  | 4, _ => exact h4

theorem StAt.news {w : World} {C P lt : Nat} {t : Nat → St5} (h : StAt w C P lt t) : ∀ (j : Nat) (u : Value), (stCells t lt)[j]? = some u → w.cell? ((⟨C, P, none⟩ : Addr).add j) = some u := by
  intro j u hu
  have hj : j < lt * 5 := by
    have := (List.getElem?_eq_some_iff.1 hu).1
    rwa [stCells_len] at this
  rw [stCells_get hj] at hu
  rw [add_mk, ← hu]
  exact h.cellOf hj

theorem StAt.of_owns {w : World} {base g lt cap : Nat} {t : Nat → St5} (h : w.ownsRow base 62 5 (.slice (some ⟨g, 0, none⟩) lt cap) lt (stCells t lt)) : StAt w g 0 lt t := by
  rcases h.2 with ⟨h1, _⟩ | ⟨g', cap', cur, h1, hb, hg, hn, hc, hs, hx⟩
  · cases h1
  · cases h1
    have hc : ∀ j, j < lt * 5 → w.cell? ⟨g, j, none⟩ = some (stc (t (j / 5)) (j % 5)) := fun j hj => by
      have h2 := stCells_get (t := t) hj
      rw [← hx, List.getElem?_take, if_pos hj] at h2
      simp only [Array.getElem?_toList] at h2
      simp [World.cell?, hg, h2]
    intro i hi
    have e : ∀ r, r < 5 → w.cell? ⟨g, 0 + i * 5 + r, none⟩ = some (stc (t i) r) := fun r hr => by
      have := hc (i * 5 + r) (by omega)
      rw [show (i * 5 + r) / 5 = i by omega, show (i * 5 + r) % 5 = r by omega] at this
      rw [Nat.zero_add]; exact this
    exact ⟨e 0 (by omega), e 1 (by omega), e 2 (by omega), e 3 (by omega), e 4 (by omega)⟩

/-- the stretches, one of which has another breadth -/
def updB (t : Nat → St5) (n : Nat) (b : Int) : Nat → St5 := fun i => if i = n then { t i with b := b } else t i

theorem StAt.upd {w : World} {C lt n : Nat} {t : Nat → St5} (h : StAt w C 0 lt t) (hn : n < lt) (b : Int) : StAt (w.setCell ⟨C, n * 5, none⟩ (.int .i64 b)) C 0 lt (updB t n b) := by
  intro i hi
  obtain ⟨h0, h1, h2, h3, h4⟩ := h i hi
  have hne : ∀ a : Nat, a ≠ n * 5 → (w.setCell ⟨C, n * 5, none⟩ (.int .i64 b)).cell? ⟨C, a, none⟩ = w.cell? ⟨C, a, none⟩ := fun a h => World.cell?_setCell_other _ _ _ _ (by intro e; cases e; exact h rfl)
  simp only [Nat.zero_add] at *
  unfold updB
  by_cases e : i = n
  · subst e
    rw [if_pos rfl]
    exact ⟨World.cell?_setCell_same' _ _ _ (by rw [h0]; rfl), (hne _ (by omega)).trans h1, (hne _ (by omega)).trans h2, (hne _ (by omega)).trans h3, (hne _ (by omega)).trans h4⟩
  · rw [if_neg e]
    exact ⟨(hne _ (by omega)).trans h0, (hne _ (by omega)).trans h1, (hne _ (by omega)).trans h2, (hne _ (by omega)).trans h3, (hne _ (by omega)).trans h4⟩

theorem updB_ok {ls lt n : Nat} {t : Nat → St5} (h : StOk ls lt t) {b : Int} (hb : 1 ≤ b ∧ b ≤ 100) : StOk ls lt (updB t n b) := by
  intro i hi
  have := h i hi
  unfold updB
  by_cases e : i = n
  · rw [if_pos e]
    simp only [stB, decide_eq_true_eq] at this ⊢
    omega
  · rw [if_neg e]; exact this

theorem info39 : (Tryz.prog.info? 62).map (fun i => (i.zero, i.size, i.bytes)) = some (some (.agg #[.int .i64 0, .int .i64 0, .int .i64 0, .int .i64 0, .int .i64 0]), 5, 40) := by kernel_rfl
end Go.Kn

namespace Go.Kn
open Go Go.Proofs Go.RowKit Go.Shelf

theorem le_bmin (f : Nat → Int) (x : Int) : ∀ n : Nat, 1 ≤ n → (x ≤ bmin (upto f n) ↔ ∀ j, j < n → x ≤ f j) := by
  intro n
  induction n with
  | zero => intro h; omega
  | succ n ih =>
    intro _
    by_cases h0 : n = 0
    · subst h0
      simp only [upto, List.range_succ, List.range_zero, List.nil_append, List.map_cons, List.map_nil, bmin, List.foldl_nil]
      exact ⟨fun h j hj => by obtain rfl : j = 0 := by omega
                              exact h, fun h => h 0 (by omega)⟩
    · have hne : upto f n ≠ [] := by
        intro e
        have := upto_length f n
        rw [e] at this
        simp at this; omega
      rw [upto_succ, bmin_snoc _ _ hne]
      have h1 := ih (by omega)
      constructor
      · intro h j hj
        by_cases e : j = n
        · subst e; omega
        · exact (h1.1 (by omega)) j (by omega)
      · intro h
        have a := h1.2 (fun j hj => h j (by omega))
        have b := h n (by omega)
        omega

end Go.Kn

namespace Go.Kn
open Go Go.Proofs Go.RowKit

/-- a stretch of whose lime more is known -/
def narS (up down : Int) (x : St5) : St5 := { x with lo := min x.hi (x.lo + up), hi := max (min x.hi (x.lo + up)) (x.hi - down) }
theorem narS_bd {ls : Nat} {up down : Int} {x : St5} (h : stB x.b x.d x.f x.lo x.hi ls = true) (hu : 0 ≤ up) (hd : 0 ≤ down) :
    stB (narS up down x).b (narS up down x).d (narS up down x).f (narS up down x).lo (narS up down x).hi ls = true ∧ x.lo ≤ (narS up down x).lo ∧ (narS up down x).hi ≤ x.hi ∧ 0 ≤ (narS up down x).hi ∧ 0 ≤ x.lo := by
  have h1 : x.lo ≤ min x.hi (x.lo + up) ∧ min x.hi (x.lo + up) ≤ x.hi := by simp only [stB, decide_eq_true_eq] at h; omega
  have h2 : min x.hi (x.lo + up) ≤ max (min x.hi (x.lo + up)) (x.hi - down) ∧ max (min x.hi (x.lo + up)) (x.hi - down) ≤ x.hi := by omega
  have h3 := of_decide_eq_true h
  exact ⟨decide_eq_true (by simp only [narS]; omega), by simp only [narS]; omega, by simp only [narS]; omega, by simp only [narS]; omega, by omega⟩
theorem narS_ok {ls lt : Nat} {t : Nat → St5} {up down : Int} (h : StOk ls lt t) (hu : 0 ≤ up) (hd : 0 ≤ down) : StOk ls lt (fun i => narS up down (t i)) := fun i hi => (narS_bd (h i hi) hu hd).1
theorem narS_cups {s : Nat → Int} {ls : Nat} {up down ag : Int} {x : St5} (h : stB x.b x.d x.f x.lo x.hi ls = true) (hu : 0 ≤ up) (hd : 0 ≤ down) (hs : 0 ≤ s x.f.toNat) (hg : 0 ≤ ag) :
    cupsL s x ag x.hi ≤ cupsL s (narS up down x) ag (narS up down x).hi ∧ cupsL s (narS up down x) ag (narS up down x).lo ≤ cupsL s x ag x.lo := by
  obtain ⟨_, h1, h2, h3, h4⟩ := narS_bd h hu hd
  exact ⟨cupsL_mono (x := x) hs h3 h2 hg (Int.le_refl _), cupsL_mono (x := x) hs h4 h1 hg (Int.le_refl _)⟩
theorem bmin_le2 {f g : Nat → Int} {n : Nat} (hn : 1 ≤ n) (h : ∀ j, j < n → f j ≤ g j) : bmin (upto f n) ≤ bmin (upto g n) :=
  (le_bmin g _ n hn).2 fun j hj => Int.le_trans ((le_bmin f _ n hn).1 (Int.le_refl _) j hj) (h j hj)
theorem great_less {s : Nat → Int} {x : St5} {nd less a a' : Int} {b b' : Bool} (hl : 0 ≤ less) (h : Great s x nd a b) (h' : Great s x (nd - less) a' b') (hb : b = true) : b' = true ∧ a ≤ a' := by
  rcases h with ⟨_, p1, p2, p3, p4⟩ | ⟨rfl, _⟩
  · rcases h' with ⟨rfl, q1, q2, q3, q4⟩ | ⟨rfl, rfl, q1⟩
    · refine ⟨rfl, ?_⟩
      rcases Int.lt_or_le a' a with h | h
      · have := q4 a h p2; omega
      · exact h
    · have := q1 a p1 p2; omega
  · cases hb

/-- a class more -/
def moreC (c : Nat → Cl3) (lk : Nat) (y : Cl3) : Nat → Cl3 := fun i => if i < lk then c i else y
theorem okT_congr {bu bu' : Nat → Nat → Bool} {len st st' : Nat → Int} : ∀ (t : List Nat) (a : Nat) (U : Nat → Int), (∀ j ∈ t, (∀ k, bu j k = bu' j k) ∧ st j = st' j) → okT bu len st a U t = okT bu' len st' a U t := by
  intro t
  induction t with
  | nil => intro a U _; rfl
  | cons j t ih =>
    intro a U h
    obtain ⟨h1, h2⟩ := h j (by simp)
    simp only [okT]
    rw [h1, h2, ih _ _ fun i hi => h i (by simp [hi])]
theorem priceT_congr {len pr pr' : Nat → Int} : ∀ (t : List Nat) (a : Nat), (∀ j ∈ t, pr j = pr' j) → priceT len pr a t = priceT len pr' a t := by
  intro t
  induction t with
  | nil => intro a _; rfl
  | cons j t ih =>
    intro a h
    simp only [priceT]
    rw [h j (by simp), ih _ fun i hi => h i (by simp [hi])]
/-- with a class more the cheapest is no dearer -/
theorem cheap_more {lk ll : Nat} {sp : Nat → Sp2} {l : Nat → Int} {c : Nat → Cl3} {z : Cl3} {y : List Nat × Int} (h : cheap (sufL lk (cBu c sp) l (cSt c) (cPr c) ll) = some y) :
    ∃ y', cheap (sufL (lk + 1) (cBu (moreC c lk z) sp) l (cSt (moreC c lk z)) (cPr (moreC c lk z)) ll) = some y' ∧ y'.2 ≤ y.2 := by
  obtain ⟨h1, _⟩ := cheap_mem rfl h
  obtain ⟨⟨h2, h3⟩, h4, h5⟩ := mem_sufL.1 h1
  have e : ∀ j ∈ y.1, moreC c lk z j = c j := fun j hj => if_pos (h3 j hj)
  have h6 : y ∈ sufL (lk + 1) (cBu (moreC c lk z) sp) l (cSt (moreC c lk z)) (cPr (moreC c lk z)) ll := by
    refine mem_sufL.2 ⟨⟨h2, fun j hj => by have := h3 j hj; omega⟩, ?_, ?_⟩
    · rw [← h4]
      exact okT_congr _ _ _ fun j hj => ⟨fun k => by simp only [cBu, e j hj], by simp only [cSt, e j hj]⟩
    · rw [h5]
      exact priceT_congr _ _ fun j hj => by simp only [cPr, e j hj]
  cases h7 : cheap (sufL (lk + 1) (cBu (moreC c lk z) sp) l (cSt (moreC c lk z)) (cPr (moreC c lk z)) ll) with
  | none => rw [cheap_nil.1 h7] at h6; cases h6
  | some y' => exact ⟨y', rfl, (cheap_mem rfl h7).2 _ h6⟩

/-- the cells of classes -/
def clc (x : Cl3) : Nat → Value
  | 0 => .int .i64 x.be
  | 1 => .int .i64 x.pr
  | _ => .int .i64 x.st
def clCells (c : Nat → Cl3) (n : Nat) : List Value := (List.range (n * 3)).map fun j => clc (c (j / 3)) (j % 3)
theorem clCells_len (c : Nat → Cl3) (n : Nat) : (clCells c n).length = n * 3 := by simp [clCells]
theorem clCells_get {c : Nat → Cl3} {n j : Nat} (h : j < n * 3) : (clCells c n)[j]? = some (clc (c (j / 3)) (j % 3)) := by simp [clCells, h]
theorem clCells_one (c : Nat → Cl3) (n : Nat) : ∀ u ∈ clCells c n, u.oneCell' = true := by
  intro u hu
  simp only [clCells, List.mem_map] at hu
  obtain ⟨j, _, rfl⟩ := hu
  unfold clc
  split <;> rfl
theorem ClAt.cellOf {w : World} {C P n : Nat} {c : Nat → Cl3} (h : ClAt w C P n c) {j : Nat} (hj : j < n * 3) : w.cell? ⟨C, P + j, none⟩ = some (clc (c (j / 3)) (j % 3)) := by
  obtain ⟨q, r, hr, rfl⟩ : ∃ q r, r < 3 ∧ j = q * 3 + r := ⟨j / 3, j % 3, Nat.mod_lt _ (by omega), by omega⟩
  rw [show (q * 3 + r) / 3 = q by omega, show (q * 3 + r) % 3 = r by omega]
  obtain ⟨h0, h1, h2⟩ := h q (by omega)
  match r, hr with
  | 0, _ => exact h0
  | 1, _ => exact h1
  | 2, _ => exact h2
theorem ClAt.news {w : World} {C P n : Nat} {c : Nat → Cl3} (h : ClAt w C P n c) : ∀ (j : Nat) (u : Value), (clCells c n)[j]? = some u → w.cell? ((⟨C, P, none⟩ : Addr).add j) = some u := by
  intro j u hu
  have hj : j < n * 3 := by
    have := (List.getElem?_eq_some_iff.1 hu).1
    rwa [clCells_len] at this
  rw [clCells_get hj] at hu
  rw [add_mk, ← hu]
  exact h.cellOf hj
theorem ClAt.of_owns {w : World} {base g n cap : Nat} {c : Nat → Cl3} (h : w.ownsRow base 54 3 (.slice (some ⟨g, 0, none⟩) n cap) n (clCells c n)) : ClAt w g 0 n c := by
  rcases h.2 with ⟨h1, _⟩ | ⟨g', cap', cur, h1, hb, hg, hn, hc, hs, hx⟩
  · cases h1
  · cases h1
    have hc : ∀ j, j < n * 3 → w.cell? ⟨g, j, none⟩ = some (clc (c (j / 3)) (j % 3)) := fun j hj => by
      have h2 := clCells_get (c := c) hj
      rw [← hx, List.getElem?_take, if_pos hj] at h2
      simp only [Array.getElem?_toList] at h2
      simp [World.cell?, hg, h2]
    intro i hi
    have e : ∀ r, r < 3 → w.cell? ⟨g, 0 + i * 3 + r, none⟩ = some (clc (c i) r) := fun r hr => by
      have := hc (i * 3 + r) (by omega)
      rw [show (i * 3 + r) / 3 = i by omega, show (i * 3 + r) % 3 = r by omega] at this
      rw [Nat.zero_add]; exact this
    exact ⟨e 0 (by omega), e 1 (by omega), e 2 (by omega)⟩
theorem moreC_cells (c : Nat → Cl3) (lk : Nat) (y : Cl3) : clCells c lk ++ [.int .i64 y.be, .int .i64 y.pr, .int .i64 y.st] = clCells (moreC c lk y) (lk + 1) := by
  apply List.ext_getElem?
  intro i
  by_cases h : i < lk * 3
  · rw [List.getElem?_append_left (by rw [clCells_len]; exact h), clCells_get h, clCells_get (by omega)]
    unfold moreC
    rw [if_pos (by omega)]
  · rw [List.getElem?_append_right (by rw [clCells_len]; omega), clCells_len]
    by_cases h2 : i < (lk + 1) * 3
    · rw [clCells_get h2]
      unfold moreC
      rw [if_neg (by omega)]
      have h3 : i - lk * 3 < 3 := by omega
      rw [show i % 3 = i - lk * 3 by omega]
      match i - lk * 3, h3 with
      | 0, _ => rfl
      | 1, _ => rfl
      | 2, _ => rfl
    · rw [List.getElem?_eq_none (by simp; omega), List.getElem?_eq_none (by rw [clCells_len]; omega)]
theorem stCells_snoc (t : Nat → St5) (k : Nat) : stCells t k ++ [.int .i64 (t k).b, .int .i64 (t k).d, .int .i64 (t k).f, .int .i64 (t k).lo, .int .i64 (t k).hi] = stCells t (k + 1) := by
  apply List.ext_getElem?
  intro i
  by_cases h : i < k * 5
  · rw [List.getElem?_append_left (by rw [stCells_len]; exact h), stCells_get h, stCells_get (by omega)]
  · rw [List.getElem?_append_right (by rw [stCells_len]; omega), stCells_len]
    by_cases h2 : i < (k + 1) * 5
    · rw [stCells_get h2]
      have h3 : i - k * 5 < 5 := by omega
      rw [show i / 5 = k by omega, show i % 5 = i - k * 5 by omega]
      match i - k * 5, h3 with
      | 0, _ => rfl
      | 1, _ => rfl
      | 2, _ => rfl
      | 3, _ => rfl
      | 4, _ => rfl
    · rw [List.getElem?_eq_none (by simp; omega), List.getElem?_eq_none (by rw [stCells_len]; omega)]
theorem info54 : (Tryz.prog.info? 54).map (fun i => (i.zero, i.size, i.bytes)) = some (some (.agg #[.int .i64 0, .int .i64 0, .int .i64 0]), 3, 24) := by kernel_rfl
end Go.Kn
