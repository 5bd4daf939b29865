/- Walks of the functions of layer 2 that ChannelBursts calls, and the law itself (a part of it). Conditions: as each theorem states them. -/
import Derived.Test.YtifdohhffmlbaaaGreatDoorNO
import Derived.Test.YtifdohhffmlbaaaGreatDoorNG
set_option linter.unusedVariables false
set_option linter.unusedSimpArgs false
namespace Go.Kn
open Go Go.Proofs Go.RowKit

theorem info3' : (Tryz.prog.info? 3).map (fun i => (i.zero, i.size, i.bytes)) = some (some (.int .i64 0), 1, 8) := by kernel_rfl

/-- the numbers below n that meet b -/
def pick (b : Nat → Bool) : Nat → List Int
  | 0 => []
  | n + 1 => cond (b n) (pick b n ++ [(n : Int)]) (pick b n)
theorem pick_t {b : Nat → Bool} {n : Nat} (h : b n = true) : pick b (n + 1) = pick b n ++ [(n : Int)] := by simp [pick, h]
theorem pick_f {b : Nat → Bool} {n : Nat} (h : b n = false) : pick b (n + 1) = pick b n := by simp [pick, h]
theorem pick_len (b : Nat → Bool) (n : Nat) : (pick b n).length ≤ n := by
  induction n with
  | zero => simp [pick]
  | succ n ih => simp only [pick]; cases b n <;> simp <;> omega
theorem one_lies {W : World} (x : Value) (T : TypeId) : ∀ (j : Nat) (u : Value), [x][j]? = some u → (W.alloc (.cells #[x] T)).cell? ((⟨W.heap.size, 0, none⟩ : Addr).add j) = some u := by
  intro j u h
  match j, h with
  | 0, h => simp at h; subst h; simp [Addr.add]

theorem own_base {w : World} {b b' e size n : Nat} {v : Value} {xs : List Value} (h : w.ownsRow b e size v n xs) (hb : b' ≤ b) : w.ownsRow b' e size v n xs := by
  refine ⟨h.1, ?_⟩
  rcases h.2 with h2 | ⟨g, cap, cur, h1, h2, h3⟩
  · exact .inl h2
  · exact .inr ⟨g, cap, cur, h1, by omega, h3⟩
theorem owns_below {w w1 : World} {base e size n : Nat} {v : Value} {xs : List Value} (h : w.ownsRow base e size v n xs) (hb : Below w.heap.size w w1) : w1.ownsRow base e size v n xs := by
  refine ⟨h.1, ?_⟩
  rcases h.2 with h2 | ⟨g, cap, cur, h1, h2, h3, h4⟩
  · exact .inl h2
  · exact .inr ⟨g, cap, cur, h1, h2, (hb.block g (Array.getElem?_eq_some_iff.1 h3).1).trans h3, h4⟩

/-- whether a segment can burst -/
def burB (q : Nat → Sp2) (c : Nat → Cl3) (s : Nat → Int) (k : Nat) : Bool := decide ((c (s k).toNat).be < (q k).hi)

set_option maxRecDepth 100000 in
set_option maxHeartbeats 4000000 in
theorem pbursts_w (il ih : Int) (C P cp A O ll cl : Nat) (p : Nat → Sp2) (l : Nat → Int) (C2 P2 lk ck : Nat) (c : Nat → Cl3) (D F cq : Nat) (s : Nat → Int) (w : World) (H : Hid (SipAt w C P (ll + 1) A O ll il ih p l)) (hC2 : C2 < w.heap.size) (HC : Hid (ClAt w C2 P2 lk c)) (hk1 : ClsP lk c) (hD : D < w.heap.size) (HD : Hid (NumAt w D F ll s)) (hQ : Hid (ChoP lk ll ll s)) :
    Calls Tryz.prog 49 #[.agg #[.int .i64 il, .int .i64 ih, .slice (some ⟨C, P, none⟩) (ll + 1) cp, .slice (some ⟨A, O, none⟩) ll cl], .slice (some ⟨C2, P2, none⟩) lk ck, .slice (some ⟨D, F, none⟩) ll cq] w
      fun e w' => (∃ v n, e = .returned (.tuple #[v, .int .i64 0]) ∧ w'.ownsRow w.heap.size 3 1 v n ((pick (burB (prOf il ih p) c s) ll).map (Value.int .i64))) ∧ Below w.heap.size w w' := by
  have BX := Lib.hid (fun (w1 : World) (hb : Below (w.alloc (.cells #[.int .i64 il, .int .i64 ih, .slice (some ⟨C, P, none⟩) (ll + 1) cp, .slice (some ⟨A, O, none⟩) ll cl] 70)).heap.size (w.alloc (.cells #[.int .i64 il, .int .i64 ih, .slice (some ⟨C, P, none⟩) (ll + 1) cp, .slice (some ⟨A, O, none⟩) ll cl] 70)) w1) => bcell4 hb)
  have HL : Hid (∀ w1, Below (w.alloc (.cells #[.int .i64 il, .int .i64 ih, .slice (some ⟨C, P, none⟩) (ll + 1) cp, .slice (some ⟨A, O, none⟩) ll cl] 70)).heap.size (w.alloc (.cells #[.int .i64 il, .int .i64 ih, .slice (some ⟨C, P, none⟩) (ll + 1) cp, .slice (some ⟨A, O, none⟩) ll cl] 70)) w1 → SipAt w1 C P (ll + 1) A O ll il ih p l ∧ ClAt w1 C2 P2 lk c ∧ NumAt w1 D F ll s) := Lib.hid fun w1 h => ⟨H.out.below (below_al h), HC.out.below hC2 (below_al h), HD.out.below hD (below_al h)⟩
  have q1 := H.out.lp1
  have q2 := H.out.lp2
  have g1 := hk1.n1
  have g2 := hk1.n2
  have HK := Lib.hid hk1
  clear hk1
  obtain ⟨i0, hi, hz0, hz1, hz22⟩ := info_parts info3'
  go_enter Tryz.func49, Tryz.ntmps49
  go_wp2_with (first
    | (go_at_call 79; refine (isSip_t _ _ (HL.out _ (Below.refl _ _)).1).mono ?_; rintro e w1 ⟨rfl, hb1⟩; obtain ⟨x0, x1, x2, x3, x4⟩ := BX.out _ hb1)
    | (go_at_call 82; refine (areCl_w _ _ _ c _ (by omega) (Lib.hid (.inr ⟨C2, P2, rfl, Nat.lt_of_lt_of_le hC2 (below_al hb1).size, (HL.out _ hb1).2.1⟩))).mono ?_; rintro e w2 ⟨⟨rb, rfl, hrb⟩, hb2⟩; obtain rfl : rb = true := hrb.2 HK.out; clear hrb; have hb12 := hb1.trans (hb2.mono hb1.size); clear x0 x1 x2 x3 x4; obtain ⟨x0, x1, x2, x3, x4⟩ := BX.out _ hb12)
    | (go_at_call 83; refine (isChoice_w _ _ _ _ _ _ _ _ _ _ _ _ s _ ⟨by omega, by omega⟩ (by omega) (by unfold maxLen; omega) (Lib.hid (.inr ⟨D, F, rfl, Nat.lt_of_lt_of_le hD (below_al hb12).size, (HL.out _ hb12).2.2⟩))).mono ?_; rintro e w3 ⟨⟨rb, rfl, hrb⟩, hb3⟩; obtain rfl : rb = true := hrb.2 hQ.out; clear hrb; have hb13 := hb12.trans (hb3.mono hb12.size); clear x0 x1 x2 x3 x4; obtain ⟨x0, x1, x2, x3, x4⟩ := BX.out _ hb13)
    | (go_at_call 80; refine (pressures_w _ _ _ _ _ _ _ _ _ _ p l _ (Lib.hid (HL.out _ hb13).1)).mono ?_; rintro e w4 ⟨⟨G, rfl, hG1, hG2, hG3⟩, hb4⟩; have HG := Lib.hid hG3; clear hG3; have hb14 := hb13.trans (hb4.mono hb13.size); clear x0 x1 x2 x3 x4; obtain ⟨x0, x1, x2, x3, x4⟩ := BX.out _ hb14))
  have hwz : w.heap.size < w4.heap.size := x4
  have FX : Hid (∀ w', Below w4.heap.size w4 w' → ClAt w' C2 P2 lk c ∧ NumAt w' D F ll s ∧ SpAt w' G 0 ll (prOf il ih p)) := Lib.hid fun w' h => by
    have hh := hb14.trans (h.mono hb14.size)
    exact ⟨(HL.out _ hh).2.1, (HL.out _ hh).2.2, HG.out.below hG2 h⟩
  have hB14 : Below w.heap.size w w4 := below_al hb14
  clear x0 x1 x2 x3 x4 hb1 hb2 hb12 hb3 hb13 hb4 hb14 BX HL HG
  go_loopw [8, 29] (fun v i wr => ∃ (k n : Nat), k ≤ ll ∧ i = .int .i64 k ∧ wr.ownsRow w4.heap.size 3 1 v n ((pick (burB (prOf il ih p) c s) k).map (Value.int .i64)) ∧ Below w4.heap.size w4 wr) (fun _ i _ => ll - (intOf i).toNat)
  case atStart => exact ⟨0, 0, Nat.zero_le _, rfl, World.ownsRow_nil _ _ _ _, Below.refl _ _⟩
  case round =>
    obtain ⟨k, n, hk, rfl, hown, hbw⟩ := hrel
    have hnl : n ≤ k := by
      have h1 := hown.1
      have h2 := pick_len (burB (prOf il ih p) c s) k
      simp at h1; omega
    have HOWN := Lib.hid hown
    clear hown
    by_cases hlt : k < ll
    · obtain ⟨z1, z2, z3⟩ := FX.out _ hbw
      have hq := hQ.out.ok k hlt
      simp only [fromB, decide_eq_true_eq] at hq
      obtain ⟨j, hj⟩ : ∃ j : Nat, s k = (j : Int) := ⟨(s k).toNat, by omega⟩
      have hjn : (s k).toNat = j := by omega
      obtain ⟨y0, y1⟩ := z3 k hlt
      simp only [Nat.zero_add] at y0 y1
      have y2 := z2 k hlt
      rw [hj] at y2
      obtain ⟨y3, y4, y5⟩ := z1 j (by omega)
      clear z1 z2 z3
      have S9 : Hid (∀ w', Below wr.heap.size wr w' → w'.cell? ⟨D, F + k, none⟩ = some (.int .i64 (j : Int)) ∧ w'.cell? ⟨C2, P2 + j * 3, none⟩ = some (.int .i64 (c j).be) ∧ w'.cell? ⟨C2, P2 + j * 3 + 1, none⟩ = some (.int .i64 (c j).pr) ∧ w'.cell? ⟨C2, P2 + j * 3 + 2, none⟩ = some (.int .i64 (c j).st)) := Lib.hid fun w' h => by
        obtain ⟨z1, z2, z3⟩ := FX.out _ (hbw.trans (h.mono hbw.size))
        have y2 := z2 k hlt
        rw [hj] at y2
        obtain ⟨y3, y4, y5⟩ := z1 j (by omega)
        exact ⟨y2, y3, y4, y5⟩
      have n1 : (0 : Int) ≤ (k : Int) := by omega
      have n2 : (k : Int) < (ll : Int) := by omega
      have n3 : (0 : Int) ≤ (j : Int) := by omega
      have n4 : (j : Int) < (lk : Int) := by omega
      obtain ⟨W2, hW2⟩ : ∃ W2, W2 = wr.alloc (.cells #[.int .i64 (prOf il ih p k).lo, .int .i64 (prOf il ih p k).hi] 31) := ⟨_, rfl⟩
      have hz2 : W2.heap.size = wr.heap.size + 1 := by rw [hW2]; simp
      have hbr : Below wr.heap.size wr W2 := by rw [hW2]; exact (Below.refl _ _).alloc (Nat.le_refl _) _
      have FZ : Hid (∀ w', Below W2.heap.size W2 w' → w'.cell? ⟨D, F + k, none⟩ = some (.int .i64 (j : Int)) ∧ w'.cell? ⟨C2, P2 + j * 3, none⟩ = some (.int .i64 (c j).be) ∧ w'.cell? ⟨C2, P2 + j * 3 + 1, none⟩ = some (.int .i64 (c j).pr) ∧ w'.cell? ⟨C2, P2 + j * 3 + 2, none⟩ = some (.int .i64 (c j).st) ∧ w'.cell? ⟨wr.heap.size, 0, none⟩ = some (.int .i64 (prOf il ih p k).lo) ∧ w'.cell? ⟨wr.heap.size, 1, none⟩ = some (.int .i64 (prOf il ih p k).hi)) := Lib.hid fun w' h => by
        have q : ∀ b o, b < W2.heap.size → w'.cell? ⟨b, o, none⟩ = W2.cell? ⟨b, o, none⟩ := (bcell h).1
        obtain ⟨a1, a2, a3, a4⟩ := S9.out _ (hbr.trans (h.mono hbr.size))
        exact ⟨a1, a2, a3, a4, (q _ _ (by omega)).trans (by rw [hW2]; simp), (q _ _ (by omega)).trans (by rw [hW2]; simp)⟩
      cases hv : burB (prOf il ih p) c s k
      all_goals
        have hd := hv
        simp only [burB, hjn] at hd
        go_wp2
        rw [← hW2]
        clear hW2
        obtain ⟨u0, u1, u2, u3, u4, u5⟩ := FZ.out _ (Below.refl _ _)
        go_region_held3 (fun w' => w'.cell? ⟨D, F + k, none⟩ = some (.int .i64 (j : Int)) ∧ w'.cell? ⟨C2, P2 + j * 3, none⟩ = some (.int .i64 (c j).be) ∧ w'.cell? ⟨C2, P2 + j * 3 + 1, none⟩ = some (.int .i64 (c j).pr) ∧ w'.cell? ⟨C2, P2 + j * 3 + 2, none⟩ = some (.int .i64 (c j).st) ∧ w'.cell? ⟨wr.heap.size, 0, none⟩ = some (.int .i64 (prOf il ih p k).lo) ∧ w'.cell? ⟨wr.heap.size, 1, none⟩ = some (.int .i64 (prOf il ih p k).hi))
          ((first | exact FZ.out _ hB5 | (refine FZ.out _ ?_; repeat (first | exact Below.refl _ _ | refine Below.drew ?_))))
          ((go_at_call 84; refine (canBurst_w _ _ _ _ _ _).mono ?_; rw [hd]; rintro e w5 ⟨rfl, hb5⟩; have hB5 : Below W2.heap.size W2 w5 := (Below.refl _ _).drew.trans (hb5.mono (Nat.le_refl _))))
        clear u0 u1 u2 u3 u4 u5 y0 y1 y2 y3 y4 y5
        have hbr5 : Below wr.heap.size wr w5 := hbr.trans (hB5.mono hbr.size)
        have hown5 := owns_below HOWN.out hbr5
        have hz5 := hbr5.size
        have hz6 := hbw.size
      · go_wp2
        go_roundw
        case rel => exact ⟨k + 1, n, by omega, by go_num, by rw [pick_f hv]; exact hown5, hbw.trans (hbr5.mono hbw.size)⟩
        case measure => simp [intOf]; omega
      · go_wp2_with (at_builtin; refine wpList_append_own _ rfl _ _ 22 rfl w4.heap.size 3 i0 (.int .i64 0) 1 8 Tryz.underlying22 hi hz0 hz1 hz22 rfl (by decide) _ n _ rfl (hown5.alloc _) ⟨_, 0, none⟩ 1 1 [.int .i64 (k : Int)] rfl rfl (one_lies _ _) (by intro u hu; simp at hu; subst hu; rfl) (by unfold maxLen; omega) (by omega) (by simp; omega) ?_; intro v' w6 hown6 hgrow6 _)
        go_roundw
        case rel => exact ⟨k + 1, n + 1, by omega, by go_num, by rw [pick_t hv]; simpa using hown6, ((hbw.trans (hbr5.mono hbw.size)).alloc (by omega) _).grown hgrow6 (by simp; omega) (fun r e => own_ge hown5 r e)⟩
        case measure => simp [intOf]; omega
    · obtain rfl : k = ll := by omega
      go_wp2
      go_ret2
      exact ⟨⟨_, n, rfl, own_base HOWN.out (by omega)⟩, hB14.trans (hbw.mono (by omega))⟩
end Go.Kn
