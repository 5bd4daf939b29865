/- Contracts of functions that the laws of this seat call, or the evaluator of closed calls and its runs. Conditions: as each theorem states them. -/
import Derived.Test.YtddlghdglknloaaGreatDoorJ1
import Derived.Test.YtddlghdglknloaaGreatDoorJ0
set_option linter.unusedVariables false
set_option linter.unusedSimpArgs false
namespace Go.Kn
open Go Go.Proofs Go.RowKit

set_option maxHeartbeats 400000 in
theorem rin_w (c a b : Int) (w : World) :
    Calls Tryz.prog 62 #[.int .i64 c, .int .i64 a, .int .i64 b] w fun e w' => e = .returned (.bool (fromB a b c)) ∧ w = w' := by
  by_cases h1 : a ≤ c <;> by_cases h2 : c ≤ b
  all_goals
    go_enter Tryz.func62, Tryz.ntmps62
    go_wp2
    go_ret
    exact ⟨by simp [fromB, h1, h2], rfl⟩
theorem rcups_w (c : Int) (w : World) : Calls Tryz.prog 61 #[.int .i64 c] w fun e w' => e = .returned (.bool (fromB 0 10000 c)) ∧ w = w' := by
  have H := Lib.hid (rin_w c 0 10000 w)
  obtain ⟨b, hb⟩ : ∃ b, fromB 0 10000 c = b := ⟨_, rfl⟩
  rw [hb] at H ⊢
  go_enter Tryz.func61, Tryz.ntmps61
  go_wp2_with (go_at_call 62; refine H.out.mono ?_; rintro e w5 ⟨rfl, rfl⟩)
  go_ret
  exact ⟨rfl, rfl⟩
set_option maxRecDepth 100000 in
set_option maxHeartbeats 2000000 in
theorem rpoint_w (pa ca : Option Addr) (lp cp lc cc : Nat) (x : Int) (w : World) (hlp : lp ≤ 1000000) : Calls Tryz.prog 28 #[.agg #[.slice pa lp cp, .slice ca lc cc], .int .i64 x] w fun e w' => e = .returned (.bool (fromB 0 ((lp : Int) - 1) x)) ∧ Below w.heap.size w w' := by
  have H1 : Hid (∀ w1, Calls Tryz.prog 62 #[.int .i64 x, .int .i64 0, .int .i64 ((lp : Int) - 1)] w1 fun e w' => e = .returned (.bool (fromB 0 ((lp : Int) - 1) x)) ∧ w1 = w') := Lib.hid fun w1 => rin_w x 0 _ w1
  go_enter Tryz.func28, Tryz.ntmps28
  go_wp2_with (go_at_call 62; refine (H1.out _).mono ?_; rintro e w6 ⟨rfl, rfl⟩)
  go_ret
  exact ⟨rfl, (Below.refl _ _).alloc (Nat.le_refl _) _⟩
set_option maxRecDepth 100000 in
set_option maxHeartbeats 2000000 in
theorem rgate_w (pa ca : Option Addr) (lp cp lc cc : Nat) (P : Nat → P8) (C : Nat → C8) (x : Int) (w : World) (hlc : lc ≤ 1000000) (H : Hid (Ne8 w pa ca lp lc P C)) :
    Calls Tryz.prog 47 #[.agg #[.slice pa lp cp, .slice ca lc cc], .int .i64 x] w fun e w' => e = .returned (.bool (gatB lc C x)) ∧ Below w.heap.size w w' := by
  have H1 : Hid (∀ w1, Calls Tryz.prog 62 #[.int .i64 x, .int .i64 0, .int .i64 ((lc : Int) - 1)] w1 fun e w' => e = .returned (.bool (fromB 0 ((lc : Int) - 1) x)) ∧ w1 = w') := Lib.hid fun w1 => rin_w x 0 _ w1
  unfold gatB
  cases h1 : fromB 0 ((lc : Int) - 1) x with
  | false =>
    rw [h1] at H1
    clear h1
    go_enter Tryz.func47, Tryz.ntmps47
    go_wp2_with (go_at_call 62; refine (H1.out _).mono ?_; rintro e w6 ⟨rfl, rfl⟩)
    go_ret
    exact ⟨rfl, (Below.refl _ _).alloc (Nat.le_refl _) _⟩
  | true =>
    have hx : 0 ≤ x ∧ x ≤ (lc : Int) - 1 := by simpa [fromB] using h1
    obtain ⟨k, rfl⟩ : ∃ k : Nat, x = (k : Int) := ⟨x.toNat, by omega⟩
    have hk : k < lc := by omega
    obtain ⟨A, O, rfl, hA, hN⟩ := H.out.hc.resolve_left (by omega)
    have hal : Below w.heap.size w (w.alloc (.cells #[.slice pa lp cp, .slice (some ⟨A, O, none⟩) lc cc] 25)) := (Below.refl _ _).alloc (Nat.le_refl _) _
    have y3 := ((hN.below hA hal) k hk).2.2.2
    have n1 : (0 : Int) ≤ (k : Int) := by omega
    have n2 : (k : Int) < (lc : Int) := by omega
    rw [h1] at H1
    have HV : Hid ((C (k : Int).toNat).ga = (C k).ga) := Lib.hid (by simp)
    rw [HV.out]
    obtain ⟨g, hg⟩ : ∃ g, (C k).ga = g := ⟨_, rfl⟩
    rw [hg] at y3 ⊢
    clear h1 hx hN hal hg HV
    go_enter Tryz.func47, Tryz.ntmps47
    go_wp2_with (go_at_call 62; refine (H1.out _).mono ?_; rintro e w6 ⟨rfl, rfl⟩)
    go_ret
    exact ⟨rfl, (Below.refl _ _).alloc (Nat.le_refl _) _⟩

/-- whether a number is one of the first of a list -/
def anyB (s : Nat → Int) (x : Int) : Nat → Bool
  | 0 => false
  | k + 1 => anyB s x k || decide (s k = x)
theorem anyB_yes {s : Nat → Int} {x : Int} {k m : Nat} (hk : k < m) (h : s k = x) : anyB s x m = true := by
  induction m with
  | zero => omega
  | succ m ih =>
    by_cases e : k = m
    · subst e; simp [anyB, h]
    · simp [anyB, ih (by omega)]
theorem anyB_iff {s : Nat → Int} {x : Int} : ∀ {m : Nat}, anyB s x m = true ↔ ∃ i, i < m ∧ s i = x
  | 0 => by simp [anyB]
  | m + 1 => by
    simp only [anyB, Bool.or_eq_true, decide_eq_true_eq, anyB_iff (m := m)]
    constructor
    · rintro (⟨i, h1, h2⟩ | h)
      · exact ⟨i, by omega, h2⟩
      · exact ⟨m, by omega, h⟩
    · rintro ⟨i, h1, h2⟩
      by_cases e : i = m
      · subst e; exact .inr h2
      · exact .inl ⟨i, by omega, h2⟩

set_option maxRecDepth 100000 in
set_option maxHeartbeats 2000000 in
theorem rlisted_w (sa : Option Addr) (m sc : Nat) (s : Nat → Int) (x : Int) (w : World) (hm : m ≤ 1000000) (HS : Hid (IntSl w sa m s)) :
    Calls Tryz.prog 40 #[.slice sa m sc, .int .i64 x] w fun e w' => e = .returned (.bool (anyB s x m)) ∧ w = w' := by
  go_enter Tryz.func40, Tryz.ntmps40
  go_wp2
  go_loopw [5] (fun ii wr => ∃ k : Nat, k ≤ m ∧ ii = .int .i64 (k : Int) ∧ anyB s x k = false ∧ wr = w) (fun ii _ => m - (Go.RowKit.intOf ii).toNat)
  case atStart => exact ⟨0, Nat.zero_le _, rfl, rfl, rfl⟩
  case round =>
    obtain ⟨k, hk, rfl, hno, rfl⟩ := hrel
    have HNO := Lib.hid hno
    clear hno
    by_cases hlt : k < m
    · obtain ⟨A, O, rfl, hA, hN⟩ := HS.out.resolve_left (by omega)
      have y1 := hN k hlt
      have n1 : (0 : Int) ≤ (k : Int) := by omega
      have n2 : (k : Int) < (m : Int) := by omega
      clear hN
      obtain ⟨v, hv⟩ : ∃ v, s k = v := ⟨_, rfl⟩
      have HV := Lib.hid hv
      rw [hv] at y1
      clear hv
      by_cases he : v = x
      · have q0 : (v == x) = true := by rw [beq_iff_eq]; exact he
        have HE := Lib.hid (anyB_yes (x := x) hlt (HV.out.trans he))
        clear he
        go_wp2
        go_ret
        exact ⟨by rw [HE.out]; rfl, rfl⟩
      · have q0 : (v == x) = false := by rw [beq_eq_false_iff_ne]; exact he
        have HE : Hid (anyB s x (k + 1) = false) := Lib.hid (by simp [anyB, HNO.out, HV.out, he])
        clear he
        go_wp2
        go_roundw
        case rel => exact ⟨k + 1, by omega, by go_num, HE.out, by first | rfl | trivial⟩
        case measure => simp [Go.RowKit.intOf]; omega
    · obtain rfl : k = m := by omega
      go_wp2
      go_ret
      exact ⟨by rw [HNO.out]; rfl, rfl⟩

set_option maxRecDepth 100000 in
set_option maxHeartbeats 2000000 in
theorem ropen_w (pa ca sa : Option Addr) (lp cp lc cc m sc k : Nat) (P : Nat → P8) (C : Nat → C8) (s : Nat → Int) (w : World) (hk : k < lc) (hlc : lc ≤ 1000000) (hm : m ≤ 1000000) (H : Hid (Ne8 w pa ca lp lc P C)) (HS : Hid (IntSl w sa m s)) :
    Calls Tryz.prog 63 #[.agg #[.slice pa lp cp, .slice ca lc cc], .slice sa m sc, .int .i64 (k : Int)] w fun e w' => e = .returned (.bool (!(C k).ga || anyB s (k : Int) m)) ∧ Below w.heap.size w w' := by
  obtain ⟨A, O, rfl, hA, hN⟩ := H.out.hc.resolve_left (by omega)
  have hal : Below w.heap.size w (w.alloc (.cells #[.slice pa lp cp, .slice (some ⟨A, O, none⟩) lc cc] 25)) := (Below.refl _ _).alloc (Nat.le_refl _) _
  have y3 := ((hN.below hA hal) k hk).2.2.2
  have n1 : (0 : Int) ≤ (k : Int) := by omega
  have n2 : (k : Int) < (lc : Int) := by omega
  have HL := Lib.hid (rlisted_w sa m sc s (k : Int) (w.alloc (.cells #[.slice pa lp cp, .slice (some ⟨A, O, none⟩) lc cc] 25)) hm (Lib.hid (HS.out.below hal)))
  obtain ⟨b, hb⟩ : ∃ b, anyB s (k : Int) m = b := ⟨_, rfl⟩
  rw [hb] at HL ⊢
  obtain ⟨g, hg⟩ : ∃ g, (C k).ga = g := ⟨_, rfl⟩
  rw [hg] at y3 ⊢
  clear hN hal hg hb
  cases g
  · go_enter Tryz.func63, Tryz.ntmps63
    go_wp2
    go_ret
    exact ⟨rfl, (Below.refl _ _).alloc (Nat.le_refl _) _⟩
  · go_enter Tryz.func63, Tryz.ntmps63
    go_wp2_with (go_at_call 40; refine HL.out.mono ?_; rintro e w6 ⟨rfl, rfl⟩)
    go_ret
    exact ⟨rfl, (Below.refl _ _).alloc (Nat.le_refl _) _⟩

set_option maxRecDepth 100000 in
set_option maxHeartbeats 2000000 in
theorem rflows_w (pa ca fa : Option Addr) (lp cp lc cc n fc : Nat) (f : Nat → Int) (w : World) (hn : n ≤ 1000000) (HS : Hid (IntSl w fa n f)) :
    Calls Tryz.prog 20 #[.agg #[.slice pa lp cp, .slice ca lc cc], .slice fa n fc] w fun e w' => e = .returned (.bool (flowB lc f n)) ∧ Below w.heap.size w w' := by
  have hA : Below w.heap.size w (w.alloc (.cells #[.slice pa lp cp, .slice ca lc cc] 25)) := (Below.refl _ _).alloc (Nat.le_refl _) _
  have HV : Hid (flowB lc f n = (decide (n = lc) && allN (fun i => fromB 0 10000 (f i)) n)) := Lib.hid rfl
  have HS1 := Lib.hid (HS.out.below hA)
  have HA := Lib.hid hA
  obtain ⟨W, hW⟩ : ∃ W, W = w.alloc (.cells #[.slice pa lp cp, .slice ca lc cc] 25) := ⟨_, rfl⟩
  have x1 : W.cell? ⟨w.heap.size, 1, none⟩ = some (.slice ca lc cc) := by rw [hW]; simp
  rw [← hW] at HS1 HA
  clear HS hA
  go_enter Tryz.func20, Tryz.ntmps20
  go_wp2
  rw [← hW]
  clear hW
  go_loopw [5] (fun ii wr => ∃ k : Nat, k ≤ n ∧ ii = .int .i64 (k : Int) ∧ allN (fun i => fromB 0 10000 (f i)) k = true ∧ wr = W) (fun ii _ => n - (Go.RowKit.intOf ii).toNat)
  case atStart => exact ⟨0, Nat.zero_le _, rfl, rfl, rfl⟩
  case round =>
    obtain ⟨k, hk, rfl, hal, rfl⟩ := hrel
    have HAL := Lib.hid hal
    clear hal
    by_cases hlt : k < n
    · obtain ⟨A, O, rfl, hA, hN⟩ := HS1.out.resolve_left (by omega)
      have y1 := hN k hlt
      have n1 : (0 : Int) ≤ (k : Int) := by omega
      have n2 : (k : Int) < (n : Int) := by omega
      have HC := Lib.hid (rcups_w (f k) wr)
      have HY : Hid (fromB 0 10000 (f k) = true → allN (fun i => fromB 0 10000 (f i)) (k + 1) = true) := Lib.hid fun h => allN_next HAL.out h
      have HZ : Hid (fromB 0 10000 (f k) = false → allN (fun i => fromB 0 10000 (f i)) n = false) := Lib.hid fun h => allN_no hlt h
      clear hN
      obtain ⟨v, hv⟩ : ∃ v, f k = v := ⟨_, rfl⟩
      rw [hv] at y1 HC HY HZ
      clear hv
      cases hb : fromB 0 10000 v with
      | true =>
        have HY2 := Lib.hid (HY.out hb)
        rw [hb] at HC
        clear hb
        go_wp2_with (go_at_call 61; refine HC.out.mono ?_; rintro e w6 ⟨rfl, rfl⟩)
        go_roundw
        case rel => exact ⟨k + 1, by omega, by go_num, HY2.out, by first | rfl | trivial⟩
        case measure => simp [Go.RowKit.intOf]; omega
      | false =>
        have HZ2 := Lib.hid (HZ.out hb)
        rw [hb] at HC
        clear hb
        go_wp2_with (go_at_call 61; refine HC.out.mono ?_; rintro e w6 ⟨rfl, rfl⟩)
        go_ret
        exact ⟨by rw [HV.out, HZ2.out, Bool.and_false]; rfl, HA.out⟩
    · obtain rfl : k = n := by omega
      by_cases he : k = lc
      · have q0 : ((k : Int) == (lc : Int)) = true := by rw [beq_iff_eq]; omega
        have HE : Hid (decide (k = lc) = true) := Lib.hid (by simp [he])
        clear he
        go_wp2
        go_ret
        exact ⟨by rw [HV.out, HAL.out, HE.out]; simp [q0], HA.out⟩
      · have q0 : ((k : Int) == (lc : Int)) = false := by rw [beq_eq_false_iff_ne]; omega
        have HE : Hid (decide (k = lc) = false) := Lib.hid (by simp [he])
        clear he
        go_wp2
        go_ret
        exact ⟨by rw [HV.out, HAL.out, HE.out]; simp [q0], HA.out⟩
end Go.Kn

namespace Go.Kn
open Go Go.Proofs Go.RowKit

set_option maxRecDepth 100000 in
set_option maxHeartbeats 4000000 in
theorem rsome_w (pa ca sa : Option Addr) (lp cp lc cc m sc : Nat) (P : Nat → P8) (C : Nat → C8) (s : Nat → Int) (w : World) (hlc : lc ≤ 1000000) (hm : m ≤ 1000000) (H : Hid (Ne8 w pa ca lp lc P C)) (HS : Hid (IntSl w sa m s)) :
    Calls Tryz.prog 19 #[.agg #[.slice pa lp cp, .slice ca lc cc], .slice sa m sc] w fun e w' => e = .returned (.bool (gatsB lc C s m)) ∧ Below w.heap.size w w' := by
  obtain ⟨W0, hW0⟩ : ∃ W0, W0 = w.alloc (.cells #[.slice pa lp cp, .slice ca lc cc] 25) := ⟨_, rfl⟩
  have hA : Below w.heap.size w W0 := by rw [hW0]; exact (Below.refl _ _).alloc (Nat.le_refl _) _
  have HF : Hid (∀ w2, Below W0.heap.size W0 w2 → w2.cell? ⟨w.heap.size, 0, none⟩ = some (.slice pa lp cp) ∧ w2.cell? ⟨w.heap.size, 1, none⟩ = some (.slice ca lc cc)) := Lib.hid fun w2 h => by
    rw [hW0] at h
    exact ⟨(box_cells h).1, (box_cells h).2.1⟩
  have HSL : Hid (∀ w2, Below W0.heap.size W0 w2 → IntSl w2 sa m s) := Lib.hid fun w2 h => HS.out.below (hA.trans (h.mono hA.size))
  have HG : Hid (∀ x w2, Below W0.heap.size W0 w2 → Calls Tryz.prog 47 #[.agg #[.slice pa lp cp, .slice ca lc cc], .int .i64 x] w2 fun e w' => e = .returned (.bool (gatB lc C x)) ∧ Below w2.heap.size w2 w') :=
    Lib.hid fun x w2 h => rgate_w pa ca lp cp lc cc P C x w2 hlc (Lib.hid (H.out.below (hA.trans (h.mono hA.size))))
  have HA := Lib.hid hA
  clear hA H HS
  have hmx : Tryz.prog.follows .mixedOrders = true := by kernel_rfl
  go_enter Tryz.func19, Tryz.ntmps19
  go_wp2
  rw [← hW0]
  clear hW0
  go_loopw [5] (fun ii wr => ∃ k : Nat, k ≤ m ∧ ii = .int .i64 (k : Int) ∧ gatsB lc C s k = true ∧ Below W0.heap.size W0 wr) (fun ii _ => m - (Go.RowKit.intOf ii).toNat)
  case atStart => exact ⟨0, Nat.zero_le _, rfl, rfl, Below.refl _ _⟩
  case round =>
    obtain ⟨k, hk, rfl, hg, hbr⟩ := hrel
    have HG0 := Lib.hid hg
    have HBR := Lib.hid hbr
    clear hg hbr
    by_cases hlt : k < m
    case pos =>
      obtain ⟨A, O, rfl, hA, hN⟩ := (HSL.out _ HBR.out).resolve_left (by omega)
      have y1 := hN k hlt
      have hy0 := hN (k - 1) (by omega)
      obtain ⟨f0, f1⟩ := HF.out _ HBR.out
      have n1 : (0 : Int) ≤ (k : Int) := by omega
      have n2 : (k : Int) < (m : Int) := by omega
      have HST : Hid (gatsB lc C s (k + 1) = (!decide (s k < frm8 s k) && gatB lc C (s k))) := Lib.hid (by simp [gatsB, HG0.out])
      have HBD : Hid (gatB lc C (s k) = true → 0 ≤ s k ∧ s k < lc) := Lib.hid gatB_bd
      have HNO : Hid (gatsB lc C s (k + 1) = false → gatsB lc C s m = false) := Lib.hid (gatsB_no hlt)
      have HFK : Hid (k ≠ 0 → frm8 s k = s (k - 1) + 1) := Lib.hid fun h => by
        obtain ⟨j, rfl⟩ := Nat.exists_eq_succ_of_ne_zero h
        rfl
      have HF0 : Hid (k = 0 → frm8 s k = 0) := Lib.hid fun h => by subst h; rfl
      have hyA : A < wr.heap.size := hA
      obtain ⟨v, hv⟩ : ∃ v, s k = v := ⟨_, rfl⟩
      obtain ⟨u, hu⟩ : ∃ u, s (k - 1) = u := ⟨_, rfl⟩
      obtain ⟨f, hf⟩ : ∃ f, frm8 s k = f := ⟨_, rfl⟩
      rw [hv] at y1 HST HBD
      rw [hf] at HST HFK HF0
      rw [hu] at hy0 HFK
      have HGX : Hid (∀ w2, Below wr.heap.size wr w2 → Calls Tryz.prog 47 #[.agg #[.slice pa lp cp, .slice ca lc cc], .int .i64 v] w2 fun e w' => e = .returned (.bool (gatB lc C v)) ∧ Below wr.heap.size wr w') := Lib.hid fun w2 h => (HG.out v w2 (HBR.out.trans (h.mono HBR.out.size))).mono fun e w' ⟨he, hv⟩ => ⟨he, h.trans (hv.mono h.size)⟩
      have HX : Hid (∀ w2, Below wr.heap.size wr w2 → w2.cell? ⟨w.heap.size, 0, none⟩ = some (.slice pa lp cp) ∧ w2.cell? ⟨w.heap.size, 1, none⟩ = some (.slice ca lc cc) ∧ w2.cell? ⟨A, O + k, none⟩ = some (.int .i64 v) ∧ w2.cell? ⟨A, O + (k - 1), none⟩ = some (.int .i64 u)) := Lib.hid fun w2 h => ⟨(HF.out _ (HBR.out.trans (h.mono HBR.out.size))).1, (HF.out _ (HBR.out.trans (h.mono HBR.out.size))).2, ((bcell h).1 _ _ hA).trans y1, ((bcell h).1 _ _ hA).trans hy0⟩
      clear hN hv hf hu hA f0 f1 y1 hy0
      cases hgb : gatB lc C v with
      | false =>
        have HD2 := Lib.hid (HNO.out (by rw [HST.out, hgb, Bool.and_false]))
        have n5 : (1 : Int) = 1 := rfl
        have n8 := n5
        rw [hgb] at HGX
        clear hgb
        go_wp2
        refine wp_region_calm (W := wr) hmx (by kernel_rfl) (Below.refl _ _) ?_
        repeat (first
          | (refine calm_no (by rfl) ?_
             (try simp only [Act.put, List.setIfInBounds_toArray, List.set_cons_zero, List.set_cons_succ]))
          | (apply calm_yes
             focus rfl
             focus
               intro w' hw'
               obtain ⟨z1, z2, z3, z4⟩ := HX.out w' hw'
               try simp only [Nat.add_zero, Nat.zero_sub] at z3 z4
               go_simp
               first
                 | done
                 | (rw [n5]; with_reducible rfl)
                 | (rw [n8]; with_reducible rfl)
                 | with_reducible rfl
                 | (go_at_call 47; exact HGX.out w' hw')
                 | fail
             (try simp only [Act.put, List.setIfInBounds_toArray, List.set_cons_zero, List.set_cons_succ])
             (try rw [n5])
             (try rw [n8])))
        refine calm_nil ?_
        intro w7 hqw7
        have HB7 := Lib.hid (HBR.out.trans (hqw7.mono HBR.out.size))
        clear hqw7
        go_wp2
        go_ret
        exact ⟨by rw [HD2.out]; rfl, HA.out.trans (HB7.out.mono HA.out.size)⟩
      | true =>
        obtain ⟨b0, b1⟩ := HBD.out hgb
        rw [hgb] at HGX HST
        simp only [Bool.and_true] at HST
        clear hgb
        by_cases h0 : k = 0
        · have hfe := HF0.out h0
          subst h0
          have HD2 : Hid (gatsB lc C s (0 + 1) = true) := Lib.hid (by rw [HST.out, hfe]; simp; omega)
          have n5 : decide ((0 : Int) < ((0 : Nat) : Int)) = false := by decide
          have n8 := n5
          clear hfe
          go_wp2
          refine wp_region_calm (W := wr) hmx (by kernel_rfl) (Below.refl _ _) ?_
          repeat (first
            | (refine calm_no (by rfl) ?_
               (try simp only [Act.put, List.setIfInBounds_toArray, List.set_cons_zero, List.set_cons_succ]))
            | (apply calm_yes
               focus rfl
               focus
                 intro w' hw'
                 obtain ⟨z1, z2, z3, z4⟩ := HX.out w' hw'
                 try simp only [Nat.add_zero, Nat.zero_sub] at z3 z4
                 go_simp
                 first
                   | done
                   | (rw [n5]; with_reducible rfl)
                   | (rw [n8]; with_reducible rfl)
                   | with_reducible rfl
                   | (go_at_call 47; exact HGX.out w' hw')
                   | fail
               (try simp only [Act.put, List.setIfInBounds_toArray, List.set_cons_zero, List.set_cons_succ])
               (try rw [n5])
               (try rw [n8])))
          refine calm_nil ?_
          intro w7 hqw7
          have HB7 := Lib.hid (HBR.out.trans (hqw7.mono HBR.out.size))
          clear hqw7
          go_wp2
          go_roundw
          case rel => exact ⟨0 + 1, by omega, by go_num, HD2.out, HB7.out⟩
          case measure => simp [Go.RowKit.intOf]; omega
        · have hfe := HFK.out h0
          have hk1 : (k : Int) - 1 = ((k - 1 : Nat) : Int) := by omega
          have n5 : decide (0 < k) = true := decide_eq_true (by omega)
          obtain ⟨q, hq⟩ : ∃ q, k - 1 = q := ⟨_, rfl⟩
          have n6 : (0 : Int) ≤ (q : Int) := by omega
          have n7 : (q : Int) < (m : Int) := by omega
          have hwr : IntKind.i64.wrap ((k : Int) - 1) = (q : Int) := by rw [IntKind.wrap_i64]; omega
          rw [hq] at HX
          clear hq hk1
          by_cases hle : v ≤ u
          · have HD2 := Lib.hid (HNO.out (by rw [HST.out, hfe]; simp; omega))
            have n8 : decide (v ≤ u) = true := decide_eq_true hle
            go_wp2
            refine wp_region_calm (W := wr) hmx (by kernel_rfl) (Below.refl _ _) ?_
            repeat (first
              | (refine calm_no (by rfl) ?_
                 (try simp only [Act.put, List.setIfInBounds_toArray, List.set_cons_zero, List.set_cons_succ]))
              | (apply calm_yes
                 focus rfl
                 focus
                   intro w' hw'
                   obtain ⟨z1, z2, z3, z4⟩ := HX.out w' hw'
                   try simp only [Nat.add_zero, Nat.zero_sub] at z3 z4
                   go_simp
                   first
                     | done
                     | (rw [n5]; with_reducible rfl)
                     | (rw [n8]; with_reducible rfl)
                     | with_reducible rfl
                     | (go_at_call 47; exact HGX.out w' hw')
                     | fail
                 (try simp only [Act.put, List.setIfInBounds_toArray, List.set_cons_zero, List.set_cons_succ])
                 (try rw [n5])
                 (try rw [hwr])
                 (try rw [n8])))
            refine calm_nil ?_
            intro w7 hqw7
            have HB7 := Lib.hid (HBR.out.trans (hqw7.mono HBR.out.size))
            clear hqw7
            go_wp2
            go_ret
            exact ⟨by rw [HD2.out]; rfl, HA.out.trans (HB7.out.mono HA.out.size)⟩
          · have HD2 : Hid (gatsB lc C s (k + 1) = true) := Lib.hid (by rw [HST.out, hfe]; simp; omega)
            have n8 : decide (v ≤ u) = false := decide_eq_false hle
            go_wp2
            refine wp_region_calm (W := wr) hmx (by kernel_rfl) (Below.refl _ _) ?_
            repeat (first
              | (refine calm_no (by rfl) ?_
                 (try simp only [Act.put, List.setIfInBounds_toArray, List.set_cons_zero, List.set_cons_succ]))
              | (apply calm_yes
                 focus rfl
                 focus
                   intro w' hw'
                   obtain ⟨z1, z2, z3, z4⟩ := HX.out w' hw'
                   try simp only [Nat.add_zero, Nat.zero_sub] at z3 z4
                   go_simp
                   first
                     | done
                     | (rw [n5]; with_reducible rfl)
                     | (rw [n8]; with_reducible rfl)
                     | with_reducible rfl
                     | (go_at_call 47; exact HGX.out w' hw')
                     | fail
                 (try simp only [Act.put, List.setIfInBounds_toArray, List.set_cons_zero, List.set_cons_succ])
                 (try rw [n5])
                 (try rw [hwr])
                 (try rw [n8])))
            refine calm_nil ?_
            intro w7 hqw7
            have HB7 := Lib.hid (HBR.out.trans (hqw7.mono HBR.out.size))
            clear hqw7
            go_wp2
            go_roundw
            case rel => exact ⟨k + 1, by omega, by go_num, HD2.out, HB7.out⟩
            case measure => simp [Go.RowKit.intOf]; omega
    case neg =>
      obtain rfl : k = m := by omega
      go_wp2
      go_ret
      exact ⟨by rw [HG0.out]; rfl, HA.out.trans (HBR.out.mono HA.out.size)⟩
end Go.Kn

namespace Go.Kn
open Go Go.Proofs Go.RowKit

theorem netV_p {lp : Nat} {P : Nat → P8} {lc : Nat} {C : Nat → C8} {k : Nat} (hk : k < lp) (h : ptB (P k) = false) : netV lp P lc C = false := by
  unfold netV; rw [allN_no (B := fun i => ptB (P i)) hk h]; simp
theorem netV_c {lp : Nat} {P : Nat → P8} {lc : Nat} {C : Nat → C8} {k : Nat} (hk : k < lc) (h : chB lp (C k) = false) : netV lp P lc C = false := by
  unfold netV; rw [allN_no (B := fun k => chB lp (C k)) hk h]; simp

set_option maxRecDepth 100000 in
set_option maxHeartbeats 8000000 in
theorem rnet_w (pa ca : Option Addr) (lp cp lc cc : Nat) (P : Nat → P8) (C : Nat → C8) (w : World) (hlp : lp ≤ 1000) (hlc : lc ≤ 1000) (H : Hid (Ne8 w pa ca lp lc P C)) :
    Calls Tryz.prog 18 #[.agg #[.slice pa lp cp, .slice ca lc cc]] w fun e w' => e = .returned (.bool (netV lp P lc C)) ∧ Below w.heap.size w w' := by
  obtain ⟨W0, hW0⟩ : ∃ W0, W0 = w.alloc (.cells #[.slice pa lp cp, .slice ca lc cc] 25) := ⟨_, rfl⟩
  have hA : Below w.heap.size w W0 := by rw [hW0]; exact (Below.refl _ _).alloc (Nat.le_refl _) _
  have HF : Hid (∀ w2, Below W0.heap.size W0 w2 → w2.cell? ⟨w.heap.size, 0, none⟩ = some (.slice pa lp cp) ∧ w2.cell? ⟨w.heap.size, 1, none⟩ = some (.slice ca lc cc)) := Lib.hid fun w2 h => by
    rw [hW0] at h
    exact ⟨(box_cells h).1, (box_cells h).2.1⟩
  have HN : Hid (∀ w2, Below W0.heap.size W0 w2 → Ne8 w2 pa ca lp lc P C) := Lib.hid fun w2 h => H.out.below (hA.trans (h.mono hA.size))
  have HCU : Hid (∀ x w1, Calls Tryz.prog 61 #[.int .i64 x] w1 fun e w' => e = .returned (.bool (fromB 0 10000 x)) ∧ w1 = w') := Lib.hid rcups_w
  have HPO : Hid (∀ x w1, Calls Tryz.prog 28 #[.agg #[.slice pa lp cp, .slice ca lc cc], .int .i64 x] w1 fun e w' => e = .returned (.bool (fromB 0 ((lp : Int) - 1) x)) ∧ Below w1.heap.size w1 w') := Lib.hid fun x w1 => rpoint_w pa ca lp cp lc cc x w1 (by omega)
  have HA := Lib.hid hA
  clear hA H
  obtain ⟨V, hV⟩ : ∃ V, netV lp P lc C = V := ⟨_, rfl⟩
  have HV := Lib.hid hV
  rw [hV]
  clear hV
  go_enter Tryz.func18, Tryz.ntmps18
  go_wp2
  rw [← hW0]
  clear hW0
  go_loopw [3] (fun ii wr => ∃ k : Nat, k ≤ lp ∧ ii = .int .i64 (k : Int) ∧ allN (fun i => ptB (P i)) k = true ∧ Below W0.heap.size W0 wr) (fun ii _ => lp - (Go.RowKit.intOf ii).toNat)
  case atStart => exact ⟨0, Nat.zero_le _, rfl, rfl, Below.refl _ _⟩
  case round =>
    obtain ⟨k, hk, rfl, hal, hbr⟩ := hrel
    have HAL := Lib.hid hal
    have HBR := Lib.hid hbr
    clear hal hbr
    obtain ⟨f0, f1⟩ := HF.out _ HBR.out
    by_cases hlt : k < lp
    case pos =>
      obtain ⟨A, O, rfl, hA, hN⟩ := (HN.out _ HBR.out).hp.resolve_left (by omega)
      obtain ⟨y0, y1, y2⟩ := hN k hlt
      have n1 : (0 : Int) ≤ (k : Int) := by omega
      have n2 : (k : Int) < (lp : Int) := by omega
      have HNX : Hid (ptB (P k) = true → allN (fun i => ptB (P i)) (k + 1) = true) := Lib.hid fun h => allN_next HAL.out h
      have HNO : Hid (ptB (P k) = false → V = false) := Lib.hid fun h => HV.out.symm.trans (netV_p hlt h)
      obtain ⟨⟨lo, hi, nd⟩, hpk⟩ : ∃ p, P k = p := ⟨_, rfl⟩
      rw [hpk] at y0 y1 y2 HNX HNO
      dsimp only at y0 y1 y2
      have HPB : Hid (ptB ⟨lo, hi, nd⟩ = (fromB 0 10000 lo && fromB 0 10000 hi && decide (lo ≤ hi) && fromB 0 10000 nd)) := Lib.hid (by
        rw [Bool.eq_iff_iff]
        simp only [ptB, fromB, Bool.and_eq_true, decide_eq_true_eq]
        omega)
      rw [HPB.out] at HNX HNO
      have R1 : Hid (∀ w1, Calls Tryz.prog 61 #[.int .i64 lo] w1 fun e w' => e = .returned (.bool (fromB 0 10000 lo)) ∧ w1 = w') := Lib.hid (HCU.out lo)
      have R2 : Hid (∀ w1, Calls Tryz.prog 61 #[.int .i64 hi] w1 fun e w' => e = .returned (.bool (fromB 0 10000 hi)) ∧ w1 = w') := Lib.hid (HCU.out hi)
      have R3 : Hid (∀ w1, Calls Tryz.prog 61 #[.int .i64 nd] w1 fun e w' => e = .returned (.bool (fromB 0 10000 nd)) ∧ w1 = w') := Lib.hid (HCU.out nd)
      have HB1 : Hid (Below W0.heap.size W0 (wr.alloc (.cells #[.int .i64 lo, .int .i64 hi, .int .i64 nd] 37))) := Lib.hid (HBR.out.alloc HBR.out.size _)
      obtain ⟨b1, hb1⟩ : ∃ b, fromB 0 10000 lo = b := ⟨_, rfl⟩
      obtain ⟨b2, hb2⟩ : ∃ b, fromB 0 10000 hi = b := ⟨_, rfl⟩
      obtain ⟨b4, hb4⟩ : ∃ b, fromB 0 10000 nd = b := ⟨_, rfl⟩
      rw [hb1] at R1
      rw [hb2] at R2
      rw [hb4] at R3
      rw [hb1, hb2, hb4] at HNX HNO
      clear hN hpk hb1 hb2 hb4 HPB
      cases b1 with
      | false =>
        have HX := Lib.hid (HNO.out rfl)
        go_wp2_with (go_at_call 61; refine (R1.out _).mono ?_; rintro e wc ⟨rfl, rfl⟩)
        go_ret
        exact ⟨by rw [HX.out]; rfl, HA.out.trans (HB1.out.mono HA.out.size)⟩
      | true =>
        cases b2 with
        | false =>
          have HX := Lib.hid (HNO.out rfl)
          go_wp2_with (first
            | (go_at_call_of 61 lo; refine (R1.out _).mono ?_; rintro e wc ⟨rfl, rfl⟩)
            | (go_at_call_of 61 hi; refine (R2.out _).mono ?_; rintro e wc ⟨rfl, rfl⟩))
          go_ret
          exact ⟨by rw [HX.out]; rfl, HA.out.trans (HB1.out.mono HA.out.size)⟩
        | true =>
          by_cases hlh : lo ≤ hi
          case neg =>
            have HX := Lib.hid (HNO.out (by simp; omega))
            have n3 : hi < lo := by omega
            go_wp2_with (first
              | (go_at_call_of 61 lo; refine (R1.out _).mono ?_; rintro e wc ⟨rfl, rfl⟩)
              | (go_at_call_of 61 hi; refine (R2.out _).mono ?_; rintro e wc ⟨rfl, rfl⟩))
            go_ret
            exact ⟨by rw [HX.out]; rfl, HA.out.trans (HB1.out.mono HA.out.size)⟩
          case pos =>
            have n3 : ¬ hi < lo := by omega
            cases b4 with
            | false =>
              have HX := Lib.hid (HNO.out (by simp))
              go_wp2_with (first
                | (go_at_call_of 61 lo; refine (R1.out _).mono ?_; rintro e wc ⟨rfl, rfl⟩)
                | (go_at_call_of 61 hi; refine (R2.out _).mono ?_; rintro e wc ⟨rfl, rfl⟩)
                | (go_at_call_of 61 nd; refine (R3.out _).mono ?_; rintro e wc ⟨rfl, rfl⟩))
              go_ret
              exact ⟨by rw [HX.out]; rfl, HA.out.trans (HB1.out.mono HA.out.size)⟩
            | true =>
              have HX := Lib.hid (HNX.out (by simp [hlh]))
              go_wp2_with (first
                | (go_at_call_of 61 lo; refine (R1.out _).mono ?_; rintro e wc ⟨rfl, rfl⟩)
                | (go_at_call_of 61 hi; refine (R2.out _).mono ?_; rintro e wc ⟨rfl, rfl⟩)
                | (go_at_call_of 61 nd; refine (R3.out _).mono ?_; rintro e wc ⟨rfl, rfl⟩))
              go_roundw
              case rel => exact ⟨k + 1, by omega, by go_num, HX.out, HB1.out⟩
              case measure => simp [Go.RowKit.intOf]; omega
    case neg =>
      obtain rfl : k = lp := by omega
      obtain ⟨w9, hw9⟩ : ∃ w9, w9 = wr := ⟨_, rfl⟩
      subst hw9
      go_wp2
      clear f0 f1
      go_loopw [5, 6] (fun gg ii wr => ∃ j : Nat, j ≤ lc ∧ ii = .int .i64 (j : Int) ∧ gg = .int .i64 ((gatL C j).length : Int) ∧ allN (fun i => chB k (C i)) j = true ∧ Below W0.heap.size W0 wr) (fun _ ii _ => lc - (Go.RowKit.intOf ii).toNat)
      case atStart => exact ⟨0, Nat.zero_le _, rfl, rfl, rfl, HBR.out⟩
      case round =>
        obtain ⟨j, hj, rfl, rfl, hal, hbr⟩ := hrel
        have HAC := Lib.hid hal
        have HB2 := Lib.hid hbr
        clear hal hbr
        obtain ⟨f0, f1⟩ := HF.out _ HB2.out
        have hgl := gatL_le (C := C) j
        by_cases hlt : j < lc
        case pos =>
          obtain ⟨A, O, rfl, hA, hN⟩ := (HN.out _ HB2.out).hc.resolve_left (by omega)
          obtain ⟨y0, y1, y2, y3⟩ := hN j hlt
          have n1 : (0 : Int) ≤ (j : Int) := by omega
          have n2 : (j : Int) < (lc : Int) := by omega
          have HNX : Hid (chB k (C j) = true → allN (fun i => chB k (C i)) (j + 1) = true) := Lib.hid fun h => allN_next HAC.out h
          have HNO : Hid (chB k (C j) = false → V = false) := Lib.hid fun h => HV.out.symm.trans (netV_c hlt h)
          have HGY : Hid ((C j).ga = true → (gatL C (j + 1)).length = (gatL C j).length + 1) := Lib.hid fun h => by rw [gatL_yes h]; simp
          have HGN : Hid ((C j).ga = false → (gatL C (j + 1)).length = (gatL C j).length) := Lib.hid fun h => by rw [gatL_no h]
          obtain ⟨q, hq⟩ : ∃ q, (gatL C j).length = q := ⟨_, rfl⟩
          obtain ⟨q2, hq2⟩ : ∃ q, (gatL C (j + 1)).length = q := ⟨_, rfl⟩
          rw [hq] at hgl HGY HGN ⊢
          have HQ2 := Lib.hid hq2
          rw [hq2] at HGY HGN
          obtain ⟨⟨fr, to, cu, ga⟩, hcj⟩ : ∃ c, C j = c := ⟨_, rfl⟩
          rw [hcj] at y0 y1 y2 y3 HNX HNO HGY HGN
          dsimp only at y0 y1 y2 y3 HGY HGN
          have HPB : Hid (chB k ⟨fr, to, cu, ga⟩ = (fromB 0 ((k : Int) - 1) fr && fromB 0 ((k : Int) - 1) to && decide (fr ≠ to) && fromB 0 10000 cu)) := Lib.hid rfl
          rw [HPB.out] at HNX HNO
          obtain ⟨W1, hW1⟩ : ∃ W1, W1 = wr.alloc (.cells #[.int .i64 fr, .int .i64 to, .int .i64 cu, .bool ga] 68) := ⟨_, rfl⟩
          have hs1 : wr.heap.size < W1.heap.size := by rw [hW1]; simp
          have HB1 : Hid (Below W0.heap.size W0 W1) := Lib.hid (by rw [hW1]; exact HB2.out.alloc HB2.out.size _)
          have t0 : W1.cell? ⟨wr.heap.size, 0, none⟩ = some (.int .i64 fr) := by rw [hW1]; simp
          have t1 : W1.cell? ⟨wr.heap.size, 1, none⟩ = some (.int .i64 to) := by rw [hW1]; simp
          have t2 : W1.cell? ⟨wr.heap.size, 2, none⟩ = some (.int .i64 cu) := by rw [hW1]; simp
          have t3 : W1.cell? ⟨wr.heap.size, 3, none⟩ = some (.bool ga) := by rw [hW1]; simp
          have HX1 : Hid (∀ w2, Below W1.heap.size W1 w2 → w2.cell? ⟨wr.heap.size, 0, none⟩ = some (.int .i64 fr) ∧ w2.cell? ⟨wr.heap.size, 1, none⟩ = some (.int .i64 to) ∧ w2.cell? ⟨wr.heap.size, 2, none⟩ = some (.int .i64 cu) ∧ w2.cell? ⟨wr.heap.size, 3, none⟩ = some (.bool ga) ∧ w2.cell? ⟨w.heap.size, 0, none⟩ = some (.slice pa k cp) ∧ w2.cell? ⟨w.heap.size, 1, none⟩ = some (.slice (some ⟨A, O, none⟩) lc cc) ∧ Below W0.heap.size W0 w2) := Lib.hid fun w2 h => by
            have h0 := HB1.out.trans (h.mono HB1.out.size)
            exact ⟨((bcell h).1 _ _ hs1).trans t0, ((bcell h).1 _ _ hs1).trans t1, ((bcell h).1 _ _ hs1).trans t2, ((bcell h).1 _ _ hs1).trans t3, (HF.out _ h0).1, (HF.out _ h0).2, h0⟩
          have R1 : Hid (∀ w1, Calls Tryz.prog 28 #[.agg #[.slice pa k cp, .slice (some ⟨A, O, none⟩) lc cc], .int .i64 fr] w1 fun e w' => e = .returned (.bool (fromB 0 ((k : Int) - 1) fr)) ∧ Below w1.heap.size w1 w') := Lib.hid (HPO.out fr)
          have R2 : Hid (∀ w1, Calls Tryz.prog 28 #[.agg #[.slice pa k cp, .slice (some ⟨A, O, none⟩) lc cc], .int .i64 to] w1 fun e w' => e = .returned (.bool (fromB 0 ((k : Int) - 1) to)) ∧ Below w1.heap.size w1 w') := Lib.hid (HPO.out to)
          have R3 : Hid (∀ w1, Calls Tryz.prog 61 #[.int .i64 cu] w1 fun e w' => e = .returned (.bool (fromB 0 10000 cu)) ∧ w1 = w') := Lib.hid (HCU.out cu)
          obtain ⟨b1, hb1⟩ : ∃ b, fromB 0 ((k : Int) - 1) fr = b := ⟨_, rfl⟩
          obtain ⟨b2, hb2⟩ : ∃ b, fromB 0 ((k : Int) - 1) to = b := ⟨_, rfl⟩
          obtain ⟨b4, hb4⟩ : ∃ b, fromB 0 10000 cu = b := ⟨_, rfl⟩
          rw [hb1] at R1
          rw [hb2] at R2
          rw [hb4] at R3
          rw [hb1, hb2, hb4] at HNX HNO
          obtain ⟨_, _, _, _, e4, e5, _⟩ := HX1.out _ (Below.refl _ _)
          rw [hW1] at e4 e5
          clear hN hcj hb1 hb2 hb4 HPB hq hq2 hA hs1 t0 t1 t2 t3
          cases b1 with
          | false =>
            have HX := Lib.hid (HNO.out rfl)
            go_wp2_with (go_at_call_of 28 fr; rw [← hW1]; refine (R1.out _).mono ?_; rintro e w5 ⟨rfl, hv⟩; clear hW1 e4 e5 f0 f1; obtain ⟨g0, g1, g2, g3, g4, g5, g6⟩ := HX1.out _ hv; have HV5 := Lib.hid hv; have HB5 := Lib.hid g6; clear hv g6)
            go_ret
            exact ⟨by rw [HX.out]; rfl, HA.out.trans (HB5.out.mono HA.out.size)⟩
          | true =>
            cases b2 with
            | false =>
              have HX := Lib.hid (HNO.out (by simp))
              go_wp2_with (first
                | (go_at_call_of 28 fr; rw [← hW1]; refine (R1.out _).mono ?_; rintro e w5 ⟨rfl, hv⟩; clear hW1 e4 e5 f0 f1; obtain ⟨g0, g1, g2, g3, g4, g5, g6⟩ := HX1.out _ hv; have HV5 := Lib.hid hv; have HB5 := Lib.hid g6; clear hv g6)
                | (go_at_call_of 28 to; refine (R2.out _).mono ?_; rintro e w6 ⟨rfl, hv⟩; obtain ⟨h0, h1, h2, h3, h4, h5, h6⟩ := HX1.out _ (HV5.out.trans (hv.mono HV5.out.size)); have HB6 := Lib.hid h6; clear hv h6 g0 g1 g2 g3 g4 g5))
              go_ret
              exact ⟨by rw [HX.out]; rfl, HA.out.trans (HB6.out.mono HA.out.size)⟩
            | true =>
              by_cases hft : fr = to
              case pos =>
                have HX := Lib.hid (HNO.out (by simp [hft]))
                subst hft
                go_wp2_with (first
                  | (go_at_call_of 28 fr; rw [← hW1]; refine (R1.out _).mono ?_; rintro e w5 ⟨rfl, hv⟩; clear hW1 e4 e5 f0 f1; obtain ⟨g0, g1, g2, g3, g4, g5, g6⟩ := HX1.out _ hv; have HV5 := Lib.hid hv; have HB5 := Lib.hid g6; clear hv g6)
                  | (go_at_call_of 28 fr; refine (R2.out _).mono ?_; rintro e w6 ⟨rfl, hv⟩; obtain ⟨h0, h1, h2, h3, h4, h5, h6⟩ := HX1.out _ (HV5.out.trans (hv.mono HV5.out.size)); have HB6 := Lib.hid h6; clear hv h6 g0 g1 g2 g3 g4 g5))
                go_ret
                exact ⟨by rw [HX.out]; rfl, HA.out.trans (HB6.out.mono HA.out.size)⟩
              case neg =>
                have q0 : (fr == to) = false := by rw [beq_eq_false_iff_ne]; exact hft
                cases b4 with
                | false =>
                  have HX := Lib.hid (HNO.out (by simp))
                  go_wp2_with (first
                    | (go_at_call_of 28 fr; rw [← hW1]; refine (R1.out _).mono ?_; rintro e w5 ⟨rfl, hv⟩; clear hW1 e4 e5 f0 f1; obtain ⟨g0, g1, g2, g3, g4, g5, g6⟩ := HX1.out _ hv; have HV5 := Lib.hid hv; have HB5 := Lib.hid g6; clear hv g6)
                    | (go_at_call_of 28 to; refine (R2.out _).mono ?_; rintro e w6 ⟨rfl, hv⟩; obtain ⟨h0, h1, h2, h3, h4, h5, h6⟩ := HX1.out _ (HV5.out.trans (hv.mono HV5.out.size)); have HB6 := Lib.hid h6; clear hv h6 g0 g1 g2 g3 g4 g5)
                    | (go_at_call_of 61 cu; refine (R3.out _).mono ?_; rintro e wc ⟨rfl, rfl⟩))
                  go_ret
                  exact ⟨by rw [HX.out]; rfl, HA.out.trans (HB6.out.mono HA.out.size)⟩
                | true =>
                  have HX := Lib.hid (HNX.out (by simp [hft]))
                  cases ga with
                  | false =>
                    have HG := Lib.hid (HGN.out rfl)
                    go_wp2_with (first
                      | (go_at_call_of 28 fr; rw [← hW1]; refine (R1.out _).mono ?_; rintro e w5 ⟨rfl, hv⟩; clear hW1 e4 e5 f0 f1; obtain ⟨g0, g1, g2, g3, g4, g5, g6⟩ := HX1.out _ hv; have HV5 := Lib.hid hv; have HB5 := Lib.hid g6; clear hv g6)
                      | (go_at_call_of 28 to; refine (R2.out _).mono ?_; rintro e w6 ⟨rfl, hv⟩; obtain ⟨h0, h1, h2, h3, h4, h5, h6⟩ := HX1.out _ (HV5.out.trans (hv.mono HV5.out.size)); have HB6 := Lib.hid h6; clear hv h6 g0 g1 g2 g3 g4 g5)
                      | (go_at_call_of 61 cu; refine (R3.out _).mono ?_; rintro e wc ⟨rfl, rfl⟩))
                    go_roundw
                    case rel => exact ⟨j + 1, by omega, by go_num, by rw [HQ2.out, HG.out], HX.out, HB6.out⟩
                    case measure => simp [Go.RowKit.intOf]; omega
                  | true =>
                    have HG := Lib.hid (HGY.out rfl)
                    go_wp2_with (first
                      | (go_at_call_of 28 fr; rw [← hW1]; refine (R1.out _).mono ?_; rintro e w5 ⟨rfl, hv⟩; clear hW1 e4 e5 f0 f1; obtain ⟨g0, g1, g2, g3, g4, g5, g6⟩ := HX1.out _ hv; have HV5 := Lib.hid hv; have HB5 := Lib.hid g6; clear hv g6)
                      | (go_at_call_of 28 to; refine (R2.out _).mono ?_; rintro e w6 ⟨rfl, hv⟩; obtain ⟨h0, h1, h2, h3, h4, h5, h6⟩ := HX1.out _ (HV5.out.trans (hv.mono HV5.out.size)); have HB6 := Lib.hid h6; clear hv h6 g0 g1 g2 g3 g4 g5)
                      | (go_at_call_of 61 cu; refine (R3.out _).mono ?_; rintro e wc ⟨rfl, rfl⟩))
                    go_roundw
                    case rel => exact ⟨j + 1, by omega, by go_num, by rw [HQ2.out, HG.out]; go_num, HX.out, HB6.out⟩
                    case measure => simp [Go.RowKit.intOf]; omega
        case neg =>
          obtain rfl : j = lc := by omega
          have R1 : Hid (∀ w1, Calls Tryz.prog 62 #[.int .i64 (k : Int), .int .i64 1, .int .i64 7] w1 fun e w' => e = .returned (.bool (fromB 1 7 (k : Int))) ∧ w1 = w') := Lib.hid (rin_w _ 1 7)
          have HVV : Hid (V = (fromB 1 7 (k : Int) && decide (j ≤ 10) && decide ((gatL C j).length ≤ 7))) := Lib.hid (by rw [← HV.out]; unfold netV; rw [HAL.out, HAC.out]; simp)
          obtain ⟨q, hq⟩ : ∃ q, (gatL C j).length = q := ⟨_, rfl⟩
          rw [hq] at hgl HVV ⊢
          obtain ⟨b1, hb1⟩ : ∃ b, fromB 1 7 (k : Int) = b := ⟨_, rfl⟩
          rw [hb1] at R1 HVV
          clear hq hb1
          cases b1 with
          | false =>
            go_wp2_with (go_at_call 62; refine (R1.out _).mono ?_; rintro e wc ⟨rfl, rfl⟩)
            go_ret
            exact ⟨by rw [HVV.out]; rfl, HA.out.trans (HB2.out.mono HA.out.size)⟩
          | true =>
            by_cases h10 : j ≤ 10
            case neg =>
              have n3 : ¬ ((j : Int) ≤ 10) := by omega
              go_wp2_with (go_at_call 62; refine (R1.out _).mono ?_; rintro e wc ⟨rfl, rfl⟩)
              go_ret
              exact ⟨by rw [HVV.out]; simp [h10], HA.out.trans (HB2.out.mono HA.out.size)⟩
            case pos =>
              have n3 : ((j : Int) ≤ 10) := by omega
              by_cases h7 : q ≤ 7
              all_goals
                first
                  | have n4 : ((q : Int) ≤ 7) := by omega
                  | have n4 : ¬ ((q : Int) ≤ 7) := by omega
                go_wp2_with (go_at_call 62; refine (R1.out _).mono ?_; rintro e wc ⟨rfl, rfl⟩)
                go_ret
                exact ⟨by rw [HVV.out]; simp [h10, h7]; try omega, HA.out.trans (HB2.out.mono HA.out.size)⟩
end Go.Kn
