/- Contracts of functions that the laws of this seat call, or the evaluator of closed calls and its runs. Conditions: as each theorem states them. -/
import Derived.Test.YtddlghdglknloaaGreatDoorG3
set_option linter.unusedVariables false
set_option linter.unusedSimpArgs false
namespace Go.Kn
open Go Go.Proofs Go.RowKit
theorem cell_lt {w : World} {b o : Nat} {v : Value} (h : w.cell? ⟨b, o, none⟩ = some v) : b < w.heap.size := by
  rcases Nat.lt_or_ge b w.heap.size with h1 | h1
  · exact h1
  · simp [World.cell?, Array.getElem?_eq_none h1] at h

set_option maxRecDepth 100000 in
set_option maxHeartbeats 2000000 in
theorem notP_w (fb : Nat) (P : Nat → P8) (d : Nat) (B : Bool) (w : World) (h1 : w.cell? ⟨fb, 0, none⟩ = some (.func (.func 105) #[] #[])) (HG : Hid (∀ w2, Below w.heap.size w w2 → Calls Tryz.prog 105 #[.agg #[.int .i64 (P d).lo, .int .i64 (P d).hi, .int .i64 (P d).nd]] w2 fun e w' => e = .returned (.bool B) ∧ Below w2.heap.size w2 w')) :
    Calls Tryz.prog 141 #[.agg #[.int .i64 (P d).lo, .int .i64 (P d).hi, .int .i64 (P d).nd], .pointer (some ⟨fb, 0, none⟩)] w fun e w' => e = .returned (.bool (!B)) ∧ Below w.heap.size w w' := by
  have hal : Below w.heap.size w (w.alloc (.cells #[.int .i64 (P d).lo, .int .i64 (P d).hi, .int .i64 (P d).nd] 37)) := (Below.refl _ _).alloc (Nat.le_refl _) _
  have HG2 := Lib.hid (HG.out _ hal)
  have h2 : (w.alloc (.cells #[.int .i64 (P d).lo, .int .i64 (P d).hi, .int .i64 (P d).nd] 37)).cell? ⟨fb, 0, none⟩ = some (.func (.func 105) #[] #[]) := by
    have : fb < w.heap.size := cell_lt h1
    exact (World.cell?_alloc_lt _ _ _ this).trans h1
  have HA := Lib.hid hal
  clear hal h1
  go_enter Tryz.func141, Tryz.ntmps141
  go_wp2_with (go_at_call 105; refine HG2.out.mono ?_; rintro e w5 ⟨rfl, hv⟩)
  go_ret
  exact ⟨rfl, HA.out.trans (hv.mono HA.out.size)⟩

set_option maxRecDepth 100000 in
set_option maxHeartbeats 2000000 in
theorem findP_w (pa : Option Addr) (lp cp fb : Nat) (P : Nat → P8) (B : Nat → Bool) (w : World) (hlp : lp ≤ 1000000) (HP : Hid (PtSl w pa lp P)) (h1 : w.cell? ⟨fb, 0, none⟩ = some (.func (.func 105) #[] #[])) (hfb : fb < w.heap.size)
    (HG : Hid (∀ d w2, d < lp → Below w.heap.size w w2 → Calls Tryz.prog 105 #[.agg #[.int .i64 (P d).lo, .int .i64 (P d).hi, .int .i64 (P d).nd]] w2 fun e w' => e = .returned (.bool (B d)) ∧ Below w2.heap.size w2 w')) :
    Calls Tryz.prog 162 #[.slice pa lp cp, .func (.func 141) #[] #[.pointer (some ⟨fb, 0, none⟩)]] w fun e w' => (∃ r, e = .returned (.int .i64 r) ∧ ((r = -1 ∧ allN B lp = true) ∨ (0 ≤ r ∧ allN B lp = false))) ∧ Below w.heap.size w w' := by
  have H1 := Lib.hid h1
  clear h1
  go_enter Tryz.func162, Tryz.ntmps162
  go_wp2
  go_loopw [8] (fun ii wr => ∃ k : Nat, k ≤ lp ∧ ii = .int .i64 (k : Int) ∧ allN B k = true ∧ Below w.heap.size w wr) (fun ii _ => lp - (Go.RowKit.intOf ii).toNat)
  case atStart => exact ⟨0, Nat.zero_le _, rfl, rfl, Below.refl _ _⟩
  case round =>
    obtain ⟨k, hk, rfl, hal, hbr⟩ := hrel
    have HAL := Lib.hid hal
    have HBR := Lib.hid hbr
    clear hal hbr
    by_cases hlt : k < lp
    · obtain ⟨A, O, rfl, hA, hN⟩ := HP.out.resolve_left (by omega)
      obtain ⟨y0, y1, y2⟩ := (hN.below hA HBR.out) k hlt
      have n1 : (0 : Int) ≤ (k : Int) := by omega
      have n2 : (k : Int) < (lp : Int) := by omega
      have HNC := Lib.hid (notP_w fb P k (B k) wr ((HBR.out.cell (p := ⟨fb, 0, none⟩) hfb).trans H1.out) (Lib.hid fun w2 h => HG.out k w2 hlt (HBR.out.trans (h.mono HBR.out.size))))
      clear hN
      cases hB : B k with
      | true =>
        have HB := Lib.hid (allN_next HAL.out hB)
        rw [hB] at HNC
        clear hB
        go_wp2_with (go_at_call 141; refine HNC.out.mono ?_; rintro e w5 ⟨rfl, hv⟩)
        go_roundw
        case rel => exact ⟨k + 1, by omega, by go_num, HB.out, HBR.out.trans (hv.mono HBR.out.size)⟩
        case measure => simp [Go.RowKit.intOf]; omega
      | false =>
        have HB := Lib.hid (allN_no hlt hB)
        rw [hB] at HNC
        clear hB
        go_wp2_with (go_at_call 141; refine HNC.out.mono ?_; rintro e w5 ⟨rfl, hv⟩)
        go_ret
        exact ⟨⟨(k : Int), rfl, .inr ⟨n1, HB.out⟩⟩, HBR.out.trans (hv.mono HBR.out.size)⟩
    · obtain rfl : k = lp := by omega
      go_wp2
      go_ret
      exact ⟨⟨-1, rfl, .inl ⟨rfl, HAL.out⟩⟩, HBR.out⟩

set_option maxRecDepth 100000 in
set_option maxHeartbeats 2000000 in
theorem allP_w (pa : Option Addr) (lp cp : Nat) (P : Nat → P8) (B : Nat → Bool) (w : World) (hlp : lp ≤ 1000000) (HP : Hid (PtSl w pa lp P))
    (HG : Hid (∀ d w2, d < lp → Below w.heap.size w w2 → Calls Tryz.prog 105 #[.agg #[.int .i64 (P d).lo, .int .i64 (P d).hi, .int .i64 (P d).nd]] w2 fun e w' => e = .returned (.bool (B d)) ∧ Below w2.heap.size w2 w')) :
    Calls Tryz.prog 104 #[.slice pa lp cp, .func (.func 105) #[] #[]] w fun e w' => e = .returned (.bool (allN B lp)) ∧ Below w.heap.size w w' := by
  have hmf : ∀ (fn : Fn) (first cap : Array Value) (w : World), (Instr.makeFunc fn first cap).run Tryz.prog w = .ok (.func fn first cap) w := fun _ _ _ _ => rfl
  have hA : Below w.heap.size w (w.alloc (.cells #[.func (.func 105) #[] #[]] 118)) := (Below.refl _ _).alloc (Nat.le_refl _) _
  have HF := Lib.hid (findP_w pa lp cp w.heap.size P B (w.alloc (.cells #[.func (.func 105) #[] #[]] 118)) hlp (Lib.hid (HP.out.below hA)) (by simp) (by simp) (Lib.hid fun d w2 hd h => HG.out d w2 hd (hA.trans (h.mono hA.size))))
  have HC : Hid (Calls Tryz.prog 140 #[.slice pa lp cp, .func (.func 141) #[] #[.pointer (some ⟨w.heap.size, 0, none⟩)]] (w.alloc (.cells #[.func (.func 105) #[] #[]] 118)) fun e w' => e = .returned (.bool (!allN B lp)) ∧ Below (w.alloc (.cells #[.func (.func 105) #[] #[]] 118)).heap.size (w.alloc (.cells #[.func (.func 105) #[] #[]] 118)) w') := Lib.hid (by
    go_enter Tryz.func140, Tryz.ntmps140
    go_wp2_with (go_at_call 162; refine HF.out.mono ?_; rintro e w5 ⟨⟨r, rfl, ⟨rfl, hal⟩ | ⟨hr, hal⟩⟩, hv⟩)
    · go_ret
      exact ⟨by rw [hal]; rfl, hv⟩
    · go_wp2
      go_ret
      exact ⟨by rw [hal]; simp [hr], hv⟩)
  go_enter Tryz.func104, Tryz.ntmps104
  go_wp2_with (go_at_call 140; refine HC.out.mono ?_; rintro e w5 ⟨rfl, hv⟩)
  go_ret
  exact ⟨by cases allN B lp <;> rfl, below_al hv⟩

set_option maxRecDepth 100000 in
set_option maxHeartbeats 2000000 in
theorem notC_w (fb : Nat) (xb : Nat) (P : Nat → C8) (d : Nat) (B : Bool) (w : World) (h1 : w.cell? ⟨fb, 0, none⟩ = some (.func (.func 107) #[] #[.pointer (some ⟨xb, 0, none⟩)])) (HG : Hid (∀ w2, Below w.heap.size w w2 → Calls Tryz.prog 107 #[.agg #[.int .i64 (P d).fr, .int .i64 (P d).to, .int .i64 (P d).cu, .bool (P d).ga], .pointer (some ⟨xb, 0, none⟩)] w2 fun e w' => e = .returned (.bool B) ∧ Below w2.heap.size w2 w')) :
    Calls Tryz.prog 143 #[.agg #[.int .i64 (P d).fr, .int .i64 (P d).to, .int .i64 (P d).cu, .bool (P d).ga], .pointer (some ⟨fb, 0, none⟩)] w fun e w' => e = .returned (.bool (!B)) ∧ Below w.heap.size w w' := by
  have hal : Below w.heap.size w (w.alloc (.cells #[.int .i64 (P d).fr, .int .i64 (P d).to, .int .i64 (P d).cu, .bool (P d).ga] 68)) := (Below.refl _ _).alloc (Nat.le_refl _) _
  have HG2 := Lib.hid (HG.out _ hal)
  have h2 : (w.alloc (.cells #[.int .i64 (P d).fr, .int .i64 (P d).to, .int .i64 (P d).cu, .bool (P d).ga] 68)).cell? ⟨fb, 0, none⟩ = some (.func (.func 107) #[] #[.pointer (some ⟨xb, 0, none⟩)]) := by
    have : fb < w.heap.size := cell_lt h1
    exact (World.cell?_alloc_lt _ _ _ this).trans h1
  have HA := Lib.hid hal
  clear hal h1
  go_enter Tryz.func143, Tryz.ntmps143
  go_wp2_with (go_at_call 107; refine HG2.out.mono ?_; rintro e w5 ⟨rfl, hv⟩)
  go_ret
  exact ⟨rfl, HA.out.trans (hv.mono HA.out.size)⟩

set_option maxRecDepth 100000 in
set_option maxHeartbeats 2000000 in
theorem findC_w (pa : Option Addr) (lp cp fb : Nat) (xb : Nat) (P : Nat → C8) (B : Nat → Bool) (w : World) (hlp : lp ≤ 1000000) (HP : Hid (ChSl w pa lp P)) (h1 : w.cell? ⟨fb, 0, none⟩ = some (.func (.func 107) #[] #[.pointer (some ⟨xb, 0, none⟩)])) (hfb : fb < w.heap.size)
    (HG : Hid (∀ d w2, d < lp → Below w.heap.size w w2 → Calls Tryz.prog 107 #[.agg #[.int .i64 (P d).fr, .int .i64 (P d).to, .int .i64 (P d).cu, .bool (P d).ga], .pointer (some ⟨xb, 0, none⟩)] w2 fun e w' => e = .returned (.bool (B d)) ∧ Below w2.heap.size w2 w')) :
    Calls Tryz.prog 163 #[.slice pa lp cp, .func (.func 143) #[] #[.pointer (some ⟨fb, 0, none⟩)]] w fun e w' => (∃ r, e = .returned (.int .i64 r) ∧ ((r = -1 ∧ allN B lp = true) ∨ (0 ≤ r ∧ allN B lp = false))) ∧ Below w.heap.size w w' := by
  have H1 := Lib.hid h1
  clear h1
  go_enter Tryz.func163, Tryz.ntmps163
  go_wp2
  go_loopw [8] (fun ii wr => ∃ k : Nat, k ≤ lp ∧ ii = .int .i64 (k : Int) ∧ allN B k = true ∧ Below w.heap.size w wr) (fun ii _ => lp - (Go.RowKit.intOf ii).toNat)
  case atStart => exact ⟨0, Nat.zero_le _, rfl, rfl, Below.refl _ _⟩
  case round =>
    obtain ⟨k, hk, rfl, hal, hbr⟩ := hrel
    have HAL := Lib.hid hal
    have HBR := Lib.hid hbr
    clear hal hbr
    by_cases hlt : k < lp
    · obtain ⟨A, O, rfl, hA, hN⟩ := HP.out.resolve_left (by omega)
      obtain ⟨y0, y1, y2, y3⟩ := (hN.below hA HBR.out) k hlt
      have n1 : (0 : Int) ≤ (k : Int) := by omega
      have n2 : (k : Int) < (lp : Int) := by omega
      have HNC := Lib.hid (notC_w fb xb P k (B k) wr ((HBR.out.cell (p := ⟨fb, 0, none⟩) hfb).trans H1.out) (Lib.hid fun w2 h => HG.out k w2 hlt (HBR.out.trans (h.mono HBR.out.size))))
      clear hN
      cases hB : B k with
      | true =>
        have HB := Lib.hid (allN_next HAL.out hB)
        rw [hB] at HNC
        clear hB
        go_wp2_with (go_at_call 143; refine HNC.out.mono ?_; rintro e w5 ⟨rfl, hv⟩)
        go_roundw
        case rel => exact ⟨k + 1, by omega, by go_num, HB.out, HBR.out.trans (hv.mono HBR.out.size)⟩
        case measure => simp [Go.RowKit.intOf]; omega
      | false =>
        have HB := Lib.hid (allN_no hlt hB)
        rw [hB] at HNC
        clear hB
        go_wp2_with (go_at_call 143; refine HNC.out.mono ?_; rintro e w5 ⟨rfl, hv⟩)
        go_ret
        exact ⟨⟨(k : Int), rfl, .inr ⟨n1, HB.out⟩⟩, HBR.out.trans (hv.mono HBR.out.size)⟩
    · obtain rfl : k = lp := by omega
      go_wp2
      go_ret
      exact ⟨⟨-1, rfl, .inl ⟨rfl, HAL.out⟩⟩, HBR.out⟩

set_option maxRecDepth 100000 in
set_option maxHeartbeats 2000000 in
theorem allC_w (pa : Option Addr) (lp cp : Nat) (xb : Nat) (P : Nat → C8) (B : Nat → Bool) (w : World) (hlp : lp ≤ 1000000) (HP : Hid (ChSl w pa lp P))
    (HG : Hid (∀ d w2, d < lp → Below w.heap.size w w2 → Calls Tryz.prog 107 #[.agg #[.int .i64 (P d).fr, .int .i64 (P d).to, .int .i64 (P d).cu, .bool (P d).ga], .pointer (some ⟨xb, 0, none⟩)] w2 fun e w' => e = .returned (.bool (B d)) ∧ Below w2.heap.size w2 w')) :
    Calls Tryz.prog 106 #[.slice pa lp cp, .func (.func 107) #[] #[.pointer (some ⟨xb, 0, none⟩)]] w fun e w' => e = .returned (.bool (allN B lp)) ∧ Below w.heap.size w w' := by
  have hmf : ∀ (fn : Fn) (first cap : Array Value) (w : World), (Instr.makeFunc fn first cap).run Tryz.prog w = .ok (.func fn first cap) w := fun _ _ _ _ => rfl
  have hA : Below w.heap.size w (w.alloc (.cells #[.func (.func 107) #[] #[.pointer (some ⟨xb, 0, none⟩)]] 121)) := (Below.refl _ _).alloc (Nat.le_refl _) _
  have HF := Lib.hid (findC_w pa lp cp w.heap.size xb P B (w.alloc (.cells #[.func (.func 107) #[] #[.pointer (some ⟨xb, 0, none⟩)]] 121)) hlp (Lib.hid (HP.out.below hA)) (by simp) (by simp) (Lib.hid fun d w2 hd h => HG.out d w2 hd (hA.trans (h.mono hA.size))))
  have HC : Hid (Calls Tryz.prog 142 #[.slice pa lp cp, .func (.func 143) #[] #[.pointer (some ⟨w.heap.size, 0, none⟩)]] (w.alloc (.cells #[.func (.func 107) #[] #[.pointer (some ⟨xb, 0, none⟩)]] 121)) fun e w' => e = .returned (.bool (!allN B lp)) ∧ Below (w.alloc (.cells #[.func (.func 107) #[] #[.pointer (some ⟨xb, 0, none⟩)]] 121)).heap.size (w.alloc (.cells #[.func (.func 107) #[] #[.pointer (some ⟨xb, 0, none⟩)]] 121)) w') := Lib.hid (by
    go_enter Tryz.func142, Tryz.ntmps142
    go_wp2_with (go_at_call 163; refine HF.out.mono ?_; rintro e w5 ⟨⟨r, rfl, ⟨rfl, hal⟩ | ⟨hr, hal⟩⟩, hv⟩)
    · go_ret
      exact ⟨by rw [hal]; rfl, hv⟩
    · go_wp2
      go_ret
      exact ⟨by rw [hal]; simp [hr], hv⟩)
  go_enter Tryz.func106, Tryz.ntmps106
  go_wp2_with (go_at_call 142; refine HC.out.mono ?_; rintro e w5 ⟨rfl, hv⟩)
  go_ret
  exact ⟨by cases allN B lp <;> rfl, below_al hv⟩

set_option maxRecDepth 100000 in
set_option maxHeartbeats 2000000 in
theorem notI_w (fb : Nat) (P : Nat → Int) (d : Nat) (B : Bool) (w : World) (h1 : w.cell? ⟨fb, 0, none⟩ = some (.func (.func 111) #[] #[])) (HG : Hid (∀ w2, Below w.heap.size w w2 → Calls Tryz.prog 111 #[.int .i64 (P d)] w2 fun e w' => e = .returned (.bool B) ∧ Below w2.heap.size w2 w')) :
    Calls Tryz.prog 145 #[.int .i64 (P d), .pointer (some ⟨fb, 0, none⟩)] w fun e w' => e = .returned (.bool (!B)) ∧ Below w.heap.size w w' := by
  have HG2 := Lib.hid (HG.out _ (Below.refl _ _))
  go_enter Tryz.func145, Tryz.ntmps145
  go_wp2_with (go_at_call 111; refine HG2.out.mono ?_; rintro e w5 ⟨rfl, hv⟩)
  go_ret
  exact ⟨rfl, hv⟩

set_option maxRecDepth 100000 in
set_option maxHeartbeats 2000000 in
theorem findI_w (pa : Option Addr) (lp cp fb : Nat) (P : Nat → Int) (B : Nat → Bool) (w : World) (hlp : lp ≤ 1000000) (HP : Hid (IntSl w pa lp P)) (h1 : w.cell? ⟨fb, 0, none⟩ = some (.func (.func 111) #[] #[])) (hfb : fb < w.heap.size)
    (HG : Hid (∀ d w2, d < lp → Below w.heap.size w w2 → Calls Tryz.prog 111 #[.int .i64 (P d)] w2 fun e w' => e = .returned (.bool (B d)) ∧ Below w2.heap.size w2 w')) :
    Calls Tryz.prog 129 #[.slice pa lp cp, .func (.func 145) #[] #[.pointer (some ⟨fb, 0, none⟩)]] w fun e w' => (∃ r, e = .returned (.int .i64 r) ∧ ((r = -1 ∧ allN B lp = true) ∨ (0 ≤ r ∧ allN B lp = false))) ∧ Below w.heap.size w w' := by
  have H1 := Lib.hid h1
  clear h1
  go_enter Tryz.func129, Tryz.ntmps129
  go_wp2
  go_loopw [8] (fun ii wr => ∃ k : Nat, k ≤ lp ∧ ii = .int .i64 (k : Int) ∧ allN B k = true ∧ Below w.heap.size w wr) (fun ii _ => lp - (Go.RowKit.intOf ii).toNat)
  case atStart => exact ⟨0, Nat.zero_le _, rfl, rfl, Below.refl _ _⟩
  case round =>
    obtain ⟨k, hk, rfl, hal, hbr⟩ := hrel
    have HAL := Lib.hid hal
    have HBR := Lib.hid hbr
    clear hal hbr
    by_cases hlt : k < lp
    · obtain ⟨A, O, rfl, hA, hN⟩ := HP.out.resolve_left (by omega)
      have y0 := (hN.below hA HBR.out) k hlt
      have n1 : (0 : Int) ≤ (k : Int) := by omega
      have n2 : (k : Int) < (lp : Int) := by omega
      have HNC := Lib.hid (notI_w fb P k (B k) wr ((HBR.out.cell (p := ⟨fb, 0, none⟩) hfb).trans H1.out) (Lib.hid fun w2 h => HG.out k w2 hlt (HBR.out.trans (h.mono HBR.out.size))))
      clear hN
      cases hB : B k with
      | true =>
        have HB := Lib.hid (allN_next HAL.out hB)
        rw [hB] at HNC
        clear hB
        go_wp2_with (go_at_call 145; refine HNC.out.mono ?_; rintro e w5 ⟨rfl, hv⟩)
        go_roundw
        case rel => exact ⟨k + 1, by omega, by go_num, HB.out, HBR.out.trans (hv.mono HBR.out.size)⟩
        case measure => simp [Go.RowKit.intOf]; omega
      | false =>
        have HB := Lib.hid (allN_no hlt hB)
        rw [hB] at HNC
        clear hB
        go_wp2_with (go_at_call 145; refine HNC.out.mono ?_; rintro e w5 ⟨rfl, hv⟩)
        go_ret
        exact ⟨⟨(k : Int), rfl, .inr ⟨n1, HB.out⟩⟩, HBR.out.trans (hv.mono HBR.out.size)⟩
    · obtain rfl : k = lp := by omega
      go_wp2
      go_ret
      exact ⟨⟨-1, rfl, .inl ⟨rfl, HAL.out⟩⟩, HBR.out⟩

set_option maxRecDepth 100000 in
set_option maxHeartbeats 2000000 in
theorem allI_w (pa : Option Addr) (lp cp : Nat) (P : Nat → Int) (B : Nat → Bool) (w : World) (hlp : lp ≤ 1000000) (HP : Hid (IntSl w pa lp P))
    (HG : Hid (∀ d w2, d < lp → Below w.heap.size w w2 → Calls Tryz.prog 111 #[.int .i64 (P d)] w2 fun e w' => e = .returned (.bool (B d)) ∧ Below w2.heap.size w2 w')) :
    Calls Tryz.prog 110 #[.slice pa lp cp, .func (.func 111) #[] #[]] w fun e w' => e = .returned (.bool (allN B lp)) ∧ Below w.heap.size w w' := by
  have hmf : ∀ (fn : Fn) (first cap : Array Value) (w : World), (Instr.makeFunc fn first cap).run Tryz.prog w = .ok (.func fn first cap) w := fun _ _ _ _ => rfl
  have hA : Below w.heap.size w (w.alloc (.cells #[.func (.func 111) #[] #[]] 84)) := (Below.refl _ _).alloc (Nat.le_refl _) _
  have HF := Lib.hid (findI_w pa lp cp w.heap.size P B (w.alloc (.cells #[.func (.func 111) #[] #[]] 84)) hlp (Lib.hid (HP.out.below hA)) (by simp) (by simp) (Lib.hid fun d w2 hd h => HG.out d w2 hd (hA.trans (h.mono hA.size))))
  have HC : Hid (Calls Tryz.prog 144 #[.slice pa lp cp, .func (.func 145) #[] #[.pointer (some ⟨w.heap.size, 0, none⟩)]] (w.alloc (.cells #[.func (.func 111) #[] #[]] 84)) fun e w' => e = .returned (.bool (!allN B lp)) ∧ Below (w.alloc (.cells #[.func (.func 111) #[] #[]] 84)).heap.size (w.alloc (.cells #[.func (.func 111) #[] #[]] 84)) w') := Lib.hid (by
    go_enter Tryz.func144, Tryz.ntmps144
    go_wp2_with (go_at_call 129; refine HF.out.mono ?_; rintro e w5 ⟨⟨r, rfl, ⟨rfl, hal⟩ | ⟨hr, hal⟩⟩, hv⟩)
    · go_ret
      exact ⟨by rw [hal]; rfl, hv⟩
    · go_wp2
      go_ret
      exact ⟨by rw [hal]; simp [hr], hv⟩)
  go_enter Tryz.func110, Tryz.ntmps110
  go_wp2_with (go_at_call 144; refine HC.out.mono ?_; rintro e w5 ⟨rfl, hv⟩)
  go_ret
  exact ⟨by cases allN B lp <;> rfl, below_al hv⟩

set_option maxRecDepth 100000 in
set_option maxHeartbeats 2000000 in
theorem notJ_w (fb : Nat) (P : Nat → Int) (d : Nat) (B : Bool) (w : World) (h1 : w.cell? ⟨fb, 0, none⟩ = some (.func (.func 114) #[] #[])) (HG : Hid (∀ w2, Below w.heap.size w w2 → Calls Tryz.prog 114 #[.int .i64 (P d)] w2 fun e w' => e = .returned (.bool B) ∧ Below w2.heap.size w2 w')) :
    Calls Tryz.prog 145 #[.int .i64 (P d), .pointer (some ⟨fb, 0, none⟩)] w fun e w' => e = .returned (.bool (!B)) ∧ Below w.heap.size w w' := by
  have HG2 := Lib.hid (HG.out _ (Below.refl _ _))
  go_enter Tryz.func145, Tryz.ntmps145
  go_wp2_with (go_at_call 114; refine HG2.out.mono ?_; rintro e w5 ⟨rfl, hv⟩)
  go_ret
  exact ⟨rfl, hv⟩

set_option maxRecDepth 100000 in
set_option maxHeartbeats 2000000 in
theorem findJ_w (pa : Option Addr) (lp cp fb : Nat) (P : Nat → Int) (B : Nat → Bool) (w : World) (hlp : lp ≤ 1000000) (HP : Hid (IntSl w pa lp P)) (h1 : w.cell? ⟨fb, 0, none⟩ = some (.func (.func 114) #[] #[])) (hfb : fb < w.heap.size)
    (HG : Hid (∀ d w2, d < lp → Below w.heap.size w w2 → Calls Tryz.prog 114 #[.int .i64 (P d)] w2 fun e w' => e = .returned (.bool (B d)) ∧ Below w2.heap.size w2 w')) :
    Calls Tryz.prog 129 #[.slice pa lp cp, .func (.func 145) #[] #[.pointer (some ⟨fb, 0, none⟩)]] w fun e w' => (∃ r, e = .returned (.int .i64 r) ∧ ((r = -1 ∧ allN B lp = true) ∨ (0 ≤ r ∧ allN B lp = false))) ∧ Below w.heap.size w w' := by
  have H1 := Lib.hid h1
  clear h1
  go_enter Tryz.func129, Tryz.ntmps129
  go_wp2
  go_loopw [8] (fun ii wr => ∃ k : Nat, k ≤ lp ∧ ii = .int .i64 (k : Int) ∧ allN B k = true ∧ Below w.heap.size w wr) (fun ii _ => lp - (Go.RowKit.intOf ii).toNat)
  case atStart => exact ⟨0, Nat.zero_le _, rfl, rfl, Below.refl _ _⟩
  case round =>
    obtain ⟨k, hk, rfl, hal, hbr⟩ := hrel
    have HAL := Lib.hid hal
    have HBR := Lib.hid hbr
    clear hal hbr
    by_cases hlt : k < lp
    · obtain ⟨A, O, rfl, hA, hN⟩ := HP.out.resolve_left (by omega)
      have y0 := (hN.below hA HBR.out) k hlt
      have n1 : (0 : Int) ≤ (k : Int) := by omega
      have n2 : (k : Int) < (lp : Int) := by omega
      have HNC := Lib.hid (notJ_w fb P k (B k) wr ((HBR.out.cell (p := ⟨fb, 0, none⟩) hfb).trans H1.out) (Lib.hid fun w2 h => HG.out k w2 hlt (HBR.out.trans (h.mono HBR.out.size))))
      clear hN
      cases hB : B k with
      | true =>
        have HB := Lib.hid (allN_next HAL.out hB)
        rw [hB] at HNC
        clear hB
        go_wp2_with (go_at_call 145; refine HNC.out.mono ?_; rintro e w5 ⟨rfl, hv⟩)
        go_roundw
        case rel => exact ⟨k + 1, by omega, by go_num, HB.out, HBR.out.trans (hv.mono HBR.out.size)⟩
        case measure => simp [Go.RowKit.intOf]; omega
      | false =>
        have HB := Lib.hid (allN_no hlt hB)
        rw [hB] at HNC
        clear hB
        go_wp2_with (go_at_call 145; refine HNC.out.mono ?_; rintro e w5 ⟨rfl, hv⟩)
        go_ret
        exact ⟨⟨(k : Int), rfl, .inr ⟨n1, HB.out⟩⟩, HBR.out.trans (hv.mono HBR.out.size)⟩
    · obtain rfl : k = lp := by omega
      go_wp2
      go_ret
      exact ⟨⟨-1, rfl, .inl ⟨rfl, HAL.out⟩⟩, HBR.out⟩

set_option maxRecDepth 100000 in
set_option maxHeartbeats 2000000 in
theorem allJ_w (pa : Option Addr) (lp cp : Nat) (P : Nat → Int) (B : Nat → Bool) (w : World) (hlp : lp ≤ 1000000) (HP : Hid (IntSl w pa lp P))
    (HG : Hid (∀ d w2, d < lp → Below w.heap.size w w2 → Calls Tryz.prog 114 #[.int .i64 (P d)] w2 fun e w' => e = .returned (.bool (B d)) ∧ Below w2.heap.size w2 w')) :
    Calls Tryz.prog 110 #[.slice pa lp cp, .func (.func 114) #[] #[]] w fun e w' => e = .returned (.bool (allN B lp)) ∧ Below w.heap.size w w' := by
  have hmf : ∀ (fn : Fn) (first cap : Array Value) (w : World), (Instr.makeFunc fn first cap).run Tryz.prog w = .ok (.func fn first cap) w := fun _ _ _ _ => rfl
  have hA : Below w.heap.size w (w.alloc (.cells #[.func (.func 114) #[] #[]] 84)) := (Below.refl _ _).alloc (Nat.le_refl _) _
  have HF := Lib.hid (findJ_w pa lp cp w.heap.size P B (w.alloc (.cells #[.func (.func 114) #[] #[]] 84)) hlp (Lib.hid (HP.out.below hA)) (by simp) (by simp) (Lib.hid fun d w2 hd h => HG.out d w2 hd (hA.trans (h.mono hA.size))))
  have HC : Hid (Calls Tryz.prog 144 #[.slice pa lp cp, .func (.func 145) #[] #[.pointer (some ⟨w.heap.size, 0, none⟩)]] (w.alloc (.cells #[.func (.func 114) #[] #[]] 84)) fun e w' => e = .returned (.bool (!allN B lp)) ∧ Below (w.alloc (.cells #[.func (.func 114) #[] #[]] 84)).heap.size (w.alloc (.cells #[.func (.func 114) #[] #[]] 84)) w') := Lib.hid (by
    go_enter Tryz.func144, Tryz.ntmps144
    go_wp2_with (go_at_call 129; refine HF.out.mono ?_; rintro e w5 ⟨⟨r, rfl, ⟨rfl, hal⟩ | ⟨hr, hal⟩⟩, hv⟩)
    · go_ret
      exact ⟨by rw [hal]; rfl, hv⟩
    · go_wp2
      go_ret
      exact ⟨by rw [hal]; simp [hr], hv⟩)
  go_enter Tryz.func110, Tryz.ntmps110
  go_wp2_with (go_at_call 144; refine HC.out.mono ?_; rintro e w5 ⟨rfl, hv⟩)
  go_ret
  exact ⟨by cases allN B lp <;> rfl, below_al hv⟩
end Go.Kn

namespace Go.Kn
open Go Go.Proofs Go.RowKit

theorem al_get {W : World} {n o : Nat} {cs : Array Value} {T : TypeId} {v : Value} (hn : W.heap.size = n) (h : cs[o]? = some v) : (W.alloc (.cells cs T)).cell? ⟨n, o, none⟩ = some v := by
  subst hn
  first | (rw [World.cell?_alloc_new]; exact h) | (simp; exact h)

/-- the value of a network -/
def ntV (pa ca : Option Addr) (lp cp lc cc : Nat) : Value := .agg #[.slice pa lp cp, .slice ca lc cc]

theorem areCups_w (x : Int) (w : World) : Calls Tryz.prog 111 #[.int .i64 x] w fun e w' => e = .returned (.bool (fromB 0 10000 x)) ∧ Below w.heap.size w w' := by
  obtain ⟨b, hb⟩ : ∃ b, fromB 0 10000 x = b := ⟨_, rfl⟩
  have HB := Lib.hid hb
  rw [hb]
  clear hb
  go_enter Tryz.func111, Tryz.ntmps111
  go_wp2_with (go_at_call 103; refine (isFrom_w _ _ _ _).mono ?_; rw [HB.out]; rintro e w5 ⟨rfl, rfl⟩)
  go_ret
  exact ⟨rfl, Below.refl _ _⟩

theorem notNeg_w (x : Int) (w : World) : Calls Tryz.prog 114 #[.int .i64 x] w fun e w' => e = .returned (.bool (decide (0 ≤ x))) ∧ Below w.heap.size w w' := by
  by_cases h : 0 ≤ x
  all_goals
    go_enter Tryz.func114, Tryz.ntmps114
    go_wp2
    go_ret
    exact ⟨by simp [h], Below.refl _ _⟩

set_option maxRecDepth 100000 in
set_option maxHeartbeats 2000000 in
theorem gatePt_w (p : P8) (w : World) : Calls Tryz.prog 105 #[.agg #[.int .i64 p.lo, .int .i64 p.hi, .int .i64 p.nd]] w fun e w' => e = .returned (.bool (ptB p)) ∧ Below w.heap.size w w' := by
  obtain ⟨lo, hi, nd⟩ := p
  dsimp only
  have H1 : Hid (∀ w1, Calls Tryz.prog 111 #[.int .i64 lo] w1 fun e w' => e = .returned (.bool (fromB 0 10000 lo)) ∧ Below w1.heap.size w1 w') := Lib.hid fun w1 => areCups_w lo w1
  have H2 : Hid (∀ w1, Calls Tryz.prog 103 #[.int .i64 lo, .int .i64 10000, .int .i64 hi] w1 fun e w' => e = .returned (.bool (fromB lo 10000 hi)) ∧ w1 = w') := Lib.hid fun w1 => isFrom_w lo 10000 hi w1
  have H3 : Hid (∀ w1, Calls Tryz.prog 111 #[.int .i64 nd] w1 fun e w' => e = .returned (.bool (fromB 0 10000 nd)) ∧ Below w1.heap.size w1 w') := Lib.hid fun w1 => areCups_w nd w1
  have HV : Hid (ptB ⟨lo, hi, nd⟩ = (fromB 0 10000 lo && fromB lo 10000 hi && fromB 0 10000 nd)) := Lib.hid rfl
  rw [HV.out]
  have F : Hid (∀ w1, Below (w.alloc (.cells #[.int .i64 lo, .int .i64 hi, .int .i64 nd] 37)).heap.size (w.alloc (.cells #[.int .i64 lo, .int .i64 hi, .int .i64 nd] 37)) w1 → w1.cell? ⟨w.heap.size, 0, none⟩ = some (.int .i64 lo) ∧ w1.cell? ⟨w.heap.size, 1, none⟩ = some (.int .i64 hi) ∧ w1.cell? ⟨w.heap.size, 2, none⟩ = some (.int .i64 nd)) := Lib.hid fun w1 hb => by
    have q := (bcell hb).1
    exact ⟨(q _ _ (by simp)).trans (by simp), (q _ _ (by simp)).trans (by simp), (q _ _ (by simp)).trans (by simp)⟩
  cases h1 : fromB 0 10000 lo with
  | false =>
    rw [h1] at H1
    clear h1
    go_enter Tryz.func105, Tryz.ntmps105
    go_wp2_with (go_at_call 111; refine (H1.out _).mono ?_; rintro e w5 ⟨rfl, hv⟩; obtain ⟨g0, g1, g2⟩ := F.out _ hv)
    go_ret
    exact ⟨rfl, below_al hv⟩
  | true =>
    rw [h1] at H1
    clear h1
    cases h2 : fromB lo 10000 hi with
    | false =>
      rw [h2] at H2
      clear h2
      go_enter Tryz.func105, Tryz.ntmps105
      go_wp2_with (first
        | (go_at_call 111; refine (H1.out _).mono ?_; rintro e w5 ⟨rfl, hv⟩; obtain ⟨g0, g1, g2⟩ := F.out _ hv)
        | (go_at_call 103; refine (H2.out _).mono ?_; rintro e w6 ⟨rfl, rfl⟩))
      go_ret
      exact ⟨rfl, below_al hv⟩
    | true =>
      rw [h2] at H2
      clear h2
      obtain ⟨b, hb⟩ : ∃ b, fromB 0 10000 nd = b := ⟨_, rfl⟩
      rw [hb] at H3 ⊢
      clear hb
      go_enter Tryz.func105, Tryz.ntmps105
      go_wp2_with (first
        | (go_at_call 103; refine (H2.out _).mono ?_; rintro e w6 ⟨rfl, rfl⟩)
        | (go_at_call 111; refine (H3.out _).mono ?_; rintro e w7 ⟨rfl, hv2⟩)
        | (go_at_call 111; refine (H1.out _).mono ?_; rintro e w5 ⟨rfl, hv⟩; obtain ⟨g0, g1, g2⟩ := F.out _ hv))
      go_ret
      exact ⟨rfl, (below_al hv).trans (hv2.mono (below_al hv).size)⟩

set_option maxRecDepth 100000 in
set_option maxHeartbeats 2000000 in
theorem isPoint_w (pa ca : Option Addr) (lp cp lc cc : Nat) (x : Int) (w : World) (hlp : lp ≤ 1000000) : Calls Tryz.prog 67 #[.agg #[.slice pa lp cp, .slice ca lc cc], .int .i64 x] w fun e w' => e = .returned (.bool (fromB 0 ((lp : Int) - 1) x)) ∧ Below w.heap.size w w' := by
  obtain ⟨q, hq⟩ : ∃ q : Int, q = (lp : Int) - 1 := ⟨_, rfl⟩
  have H1 : Hid (∀ w1, Calls Tryz.prog 103 #[.int .i64 0, .int .i64 ((lp : Int) - 1), .int .i64 x] w1 fun e w' => e = .returned (.bool (fromB 0 ((lp : Int) - 1) x)) ∧ w1 = w') := Lib.hid fun w1 => isFrom_w 0 _ x w1
  clear hq
  go_enter Tryz.func67, Tryz.ntmps67
  go_wp2_with (go_at_call 103; refine (H1.out _).mono ?_; rintro e w6 ⟨rfl, rfl⟩)
  go_ret
  exact ⟨rfl, (Below.refl _ _).alloc (Nat.le_refl _) _⟩

set_option maxRecDepth 100000 in
set_option maxHeartbeats 2000000 in
theorem isGate_w (pa ca : Option Addr) (lp cp lc cc : Nat) (P : Nat → P8) (C : Nat → C8) (x : Int) (w : World) (hlc : lc ≤ 1000000) (H : Hid (Ne8 w pa ca lp lc P C)) :
    Calls Tryz.prog 109 #[.agg #[.slice pa lp cp, .slice ca lc cc], .int .i64 x] w fun e w' => e = .returned (.bool (fromB 0 ((lc : Int) - 1) x && (C x.toNat).ga)) ∧ Below w.heap.size w w' := by
  have H1 : Hid (∀ w1, Calls Tryz.prog 103 #[.int .i64 0, .int .i64 ((lc : Int) - 1), .int .i64 x] w1 fun e w' => e = .returned (.bool (fromB 0 ((lc : Int) - 1) x)) ∧ w1 = w') := Lib.hid fun w1 => isFrom_w 0 _ x w1
  cases h1 : fromB 0 ((lc : Int) - 1) x with
  | false =>
    rw [h1] at H1
    clear h1
    go_enter Tryz.func109, Tryz.ntmps109
    go_wp2_with (go_at_call 103; refine (H1.out _).mono ?_; rintro e w6 ⟨rfl, rfl⟩)
    go_ret
    exact ⟨rfl, (Below.refl _ _).alloc (Nat.le_refl _) _⟩
  | true =>
    have hx : 0 ≤ x ∧ x ≤ (lc : Int) - 1 := by simpa [fromB] using h1
    obtain ⟨k, rfl⟩ : ∃ k : Nat, x = (k : Int) := ⟨x.toNat, by omega⟩
    have hk : k < lc := by omega
    obtain ⟨A, O, rfl, hA, hN⟩ := H.out.hc.resolve_left (by omega)
    have hal : Below w.heap.size w (w.alloc (.cells #[.slice pa lp cp, .slice (some ⟨A, O, none⟩) lc cc] 25)) := (Below.refl _ _).alloc (Nat.le_refl _) _
    have y3 := ((hN.below hA hal) k hk).2.2.2
    have n1 : (0 : Int) ≤ (k : Int) := by omega
    have n2 : (k : Int) < (lc : Int) := by omega
    rw [h1] at H1
    have HV : Hid ((C (k : Int).toNat).ga = (C k).ga) := Lib.hid (by simp)
    rw [HV.out]
    obtain ⟨g, hg⟩ : ∃ g, (C k).ga = g := ⟨_, rfl⟩
    rw [hg] at y3 ⊢
    clear h1 hx hN hal hg HV
    go_enter Tryz.func109, Tryz.ntmps109
    go_wp2_with (go_at_call 103; refine (H1.out _).mono ?_; rintro e w6 ⟨rfl, rfl⟩)
    go_ret
    exact ⟨rfl, (Below.refl _ _).alloc (Nat.le_refl _) _⟩

set_option maxRecDepth 100000 in
set_option maxHeartbeats 4000000 in
theorem isChan_w (pa ca : Option Addr) (lp cp lc cc : Nat) (c : C8) (w : World) (hlp : lp ≤ 1000000) : Calls Tryz.prog 108 #[.agg #[.slice pa lp cp, .slice ca lc cc], .agg #[.int .i64 c.fr, .int .i64 c.to, .int .i64 c.cu, .bool c.ga]] w fun e w' => e = .returned (.bool (chB lp c)) ∧ Below w.heap.size w w' := by
  obtain ⟨fr, to, cu, ga⟩ := c
  dsimp only
  obtain ⟨W, hW⟩ : ∃ W, W = (w.alloc (.cells #[.slice pa lp cp, .slice ca lc cc] 25)).alloc (.cells #[.int .i64 fr, .int .i64 to, .int .i64 cu, .bool ga] 68) := ⟨_, rfl⟩
  have hbW : Below w.heap.size w W := by rw [hW]; exact ((Below.refl _ _).alloc (Nat.le_refl _) _).alloc (by simp) _
  have F : Hid (∀ w1, Below W.heap.size W w1 → w1.cell? ⟨w.heap.size, 0, none⟩ = some (.slice pa lp cp) ∧ w1.cell? ⟨w.heap.size, 1, none⟩ = some (.slice ca lc cc) ∧ w1.cell? ⟨w.heap.size + 1, 0, none⟩ = some (.int .i64 fr) ∧ w1.cell? ⟨w.heap.size + 1, 1, none⟩ = some (.int .i64 to) ∧ w1.cell? ⟨w.heap.size + 1, 2, none⟩ = some (.int .i64 cu)) := Lib.hid fun w1 hb => by
    have q := (bcell hb).1
    subst hW
    refine ⟨(q _ _ (by simp; omega)).trans ((World.cell?_alloc_lt _ _ _ (by simp)).trans (by simp)), (q _ _ (by simp; omega)).trans ((World.cell?_alloc_lt _ _ _ (by simp)).trans (by simp)), ?_, ?_, ?_⟩
    · exact (q _ _ (by simp)).trans (al_get (by simp) rfl)
    · exact (q _ _ (by simp)).trans (al_get (by simp) rfl)
    · exact (q _ _ (by simp)).trans (al_get (by simp) rfl)
  have HW := Lib.hid hbW
  clear hbW
  have H1 : Hid (∀ x w1, Calls Tryz.prog 67 #[.agg #[.slice pa lp cp, .slice ca lc cc], .int .i64 x] w1 fun e w' => e = .returned (.bool (fromB 0 ((lp : Int) - 1) x)) ∧ Below w1.heap.size w1 w') := Lib.hid fun x w1 => isPoint_w pa ca lp cp lc cc x w1 hlp
  have H3 : Hid (∀ w1, Calls Tryz.prog 111 #[.int .i64 cu] w1 fun e w' => e = .returned (.bool (fromB 0 10000 cu)) ∧ Below w1.heap.size w1 w') := Lib.hid fun w1 => areCups_w cu w1
  have HV : Hid (chB lp ⟨fr, to, cu, ga⟩ = (fromB 0 ((lp : Int) - 1) fr && fromB 0 ((lp : Int) - 1) to && decide (fr ≠ to) && fromB 0 10000 cu)) := Lib.hid rfl
  rw [HV.out]
  have H1a := Lib.hid (H1.out fr)
  have H1b := Lib.hid (H1.out to)
  cases h1 : fromB 0 ((lp : Int) - 1) fr with
  | false =>
    rw [h1] at H1a
    clear h1
    go_enter Tryz.func108, Tryz.ntmps108
    go_wp2_with (go_at_call 67; rw [← hW]; refine (H1a.out _).mono ?_; rintro e w5 ⟨rfl, hv⟩; obtain ⟨g0, g1, g2, g3, g4⟩ := F.out _ hv)
    go_ret
    exact ⟨rfl, HW.out.trans (hv.mono HW.out.size)⟩
  | true =>
    rw [h1] at H1a
    clear h1
    cases h2 : fromB 0 ((lp : Int) - 1) to with
    | false =>
      rw [h2] at H1b
      clear h2
      go_enter Tryz.func108, Tryz.ntmps108
      go_wp2_with (first
        | (go_at_call 67; rw [← hW]; refine (H1a.out _).mono ?_; rintro e w5 ⟨rfl, hv⟩; clear hW; obtain ⟨g0, g1, g2, g3, g4⟩ := F.out _ hv)
        | (go_at_call 67; refine (H1b.out _).mono ?_; rintro e w6 ⟨rfl, hv2⟩; obtain ⟨k0, k1, k2, k3, k4⟩ := F.out _ (hv.trans (hv2.mono hv.size))))
      go_ret
      exact ⟨rfl, HW.out.trans ((hv.trans (hv2.mono hv.size)).mono HW.out.size)⟩
    | true =>
      rw [h2] at H1b
      clear h2
      by_cases he : fr = to
      · subst he
        have hz : (decide (fr ≠ fr)) = false := by simp
        rw [hz]
        clear hz
        go_enter Tryz.func108, Tryz.ntmps108
        go_wp2_with (first
          | (go_at_call 67; rw [← hW]; refine (H1a.out _).mono ?_; rintro e w5 ⟨rfl, hv⟩; clear hW; obtain ⟨g0, g1, g2, g3, g4⟩ := F.out _ hv)
          | (go_at_call 67; refine (H1b.out _).mono ?_; rintro e w6 ⟨rfl, hv2⟩; obtain ⟨k0, k1, k2, k3, k4⟩ := F.out _ (hv.trans (hv2.mono hv.size))))
        go_ret
        exact ⟨rfl, HW.out.trans ((hv.trans (hv2.mono hv.size)).mono HW.out.size)⟩
      · have hz : (decide (fr ≠ to)) = true := by simp [he]
        have q0 : (fr == to) = false := by rw [beq_eq_false_iff_ne]; exact he
        rw [hz]
        clear hz
        obtain ⟨b, hb⟩ : ∃ b, fromB 0 10000 cu = b := ⟨_, rfl⟩
        rw [hb] at H3 ⊢
        clear hb
        go_enter Tryz.func108, Tryz.ntmps108
        go_wp2_with (first
          | (go_at_call 67; rw [← hW]; refine (H1a.out _).mono ?_; rintro e w5 ⟨rfl, hv⟩; clear hW; obtain ⟨g0, g1, g2, g3, g4⟩ := F.out _ hv)
          | (go_at_call 67; refine (H1b.out _).mono ?_; rintro e w6 ⟨rfl, hv2⟩; obtain ⟨k0, k1, k2, k3, k4⟩ := F.out _ (hv.trans (hv2.mono hv.size)))
          | (go_at_call 111; refine (H3.out _).mono ?_; rintro e w7 ⟨rfl, hv3⟩))
        go_ret
        exact ⟨by simp [he], HW.out.trans (((hv.trans (hv2.mono hv.size)).trans (hv3.mono (hv.trans (hv2.mono hv.size)).size)).mono HW.out.size)⟩

set_option maxRecDepth 100000 in
set_option maxHeartbeats 2000000 in
theorem net1_w (pa ca : Option Addr) (lp cp lc cc xb : Nat) (c : C8) (w : World) (hlp : lp ≤ 1000000) (h0 : w.cell? ⟨xb, 0, none⟩ = some (.slice pa lp cp)) (h1 : w.cell? ⟨xb, 1, none⟩ = some (.slice ca lc cc)) :
    Calls Tryz.prog 107 #[.agg #[.int .i64 c.fr, .int .i64 c.to, .int .i64 c.cu, .bool c.ga], .pointer (some ⟨xb, 0, none⟩)] w fun e w' => e = .returned (.bool (chB lp c)) ∧ Below w.heap.size w w' := by
  obtain ⟨fr, to, cu, ga⟩ := c
  dsimp only
  have hal : Below w.heap.size w (w.alloc (.cells #[.int .i64 fr, .int .i64 to, .int .i64 cu, .bool ga] 68)) := (Below.refl _ _).alloc (Nat.le_refl _) _
  have HA := Lib.hid hal
  have k0 := ((bcell hal).1 _ 0 (cell_lt h0)).trans h0
  have k1 := ((bcell hal).1 _ 1 (cell_lt h1)).trans h1
  have HC := Lib.hid (isChan_w pa ca lp cp lc cc ⟨fr, to, cu, ga⟩ (w.alloc (.cells #[.int .i64 fr, .int .i64 to, .int .i64 cu, .bool ga] 68)) hlp)
  dsimp only at HC
  clear hal h0 h1
  go_enter Tryz.func107, Tryz.ntmps107
  go_wp2_with (go_at_call 108; refine HC.out.mono ?_; rintro e w5 ⟨rfl, hv⟩)
  go_ret
  exact ⟨rfl, HA.out.trans (hv.mono HA.out.size)⟩
end Go.Kn

namespace Go.Kn
open Go Go.Proofs Go.RowKit

/-- the gates among the first channels -/
def gatL (C : Nat → C8) (k : Nat) : List Nat := (List.range k).filter fun i => (C i).ga
theorem gatL_yes {C : Nat → C8} {k : Nat} (h : (C k).ga = true) : gatL C (k + 1) = gatL C k ++ [k] := by simp [gatL, List.range_succ, List.filter_append, h]
theorem gatL_no {C : Nat → C8} {k : Nat} (h : (C k).ga = false) : gatL C (k + 1) = gatL C k := by simp [gatL, List.range_succ, List.filter_append, h]
theorem gatL_len {C : Nat → C8} : ∀ k, (gatL C k).length = cntN (fun i => (C i).ga) k
  | 0 => rfl
  | k + 1 => by
    cases h : (C k).ga with
    | true => rw [gatL_yes h, List.length_append, gatL_len k]; simp [cntN, h]
    | false => rw [gatL_no h, gatL_len k]; simp [cntN, h]
theorem gatL_le {C : Nat → C8} (k : Nat) : (gatL C k).length ≤ k := by
  have := List.length_filter_le (fun i => (C i).ga) (List.range k)
  simpa [gatL] using this

set_option maxRecDepth 100000 in
set_option maxHeartbeats 4000000 in
theorem gatesOf_w (pa ca : Option Addr) (lp cp lc cc : Nat) (P : Nat → P8) (C : Nat → C8) (w : World) (hlc : lc ≤ 1000) (H : Hid (Ne8 w pa ca lp lc P C)) :
    Calls Tryz.prog 79 #[.agg #[.slice pa lp cp, .slice ca lc cc]] w fun r w' => (∃ v, r = .returned v ∧ w'.ownsRow w.heap.size 3 1 v (gatL C lc).length ((gatL C lc).map iv1)) ∧ Below w.heap.size w w' := by
  obtain ⟨i0, hi0, hz0, hz1, hz2⟩ := info_parts info3'
  obtain ⟨W0, hW0⟩ : ∃ W0, W0 = w.alloc (.cells #[.slice pa lp cp, .slice ca lc cc] 25) := ⟨_, rfl⟩
  have hA : Below w.heap.size w W0 := by rw [hW0]; exact (Below.refl _ _).alloc (Nat.le_refl _) _
  have HN : Hid (∀ w2, Below W0.heap.size W0 w2 → Hid (Ne8 w2 pa ca lp lc P C)) := Lib.hid fun w2 h => Lib.hid (H.out.below (hA.trans (h.mono hA.size)))
  have HA := Lib.hid hA
  clear hA H
  go_enter Tryz.func79, Tryz.ntmps79
  go_wp2
  rw [← hW0]
  clear hW0
  go_loopw [2, 8] (fun v ii wr => ∃ k : Nat, k ≤ lc ∧ ii = .int .i64 (k : Int) ∧ wr.ownsRow W0.heap.size 3 1 v (gatL C k).length ((gatL C k).map iv1) ∧ Below W0.heap.size W0 wr) (fun _ ii _ => lc - (Go.RowKit.intOf ii).toNat)
  case atStart => exact ⟨0, Nat.zero_le _, rfl, ⟨rfl, .inl ⟨rfl, rfl⟩⟩, Below.refl _ _⟩
  case round =>
    obtain ⟨k, hk, rfl, hown, hbr⟩ := hrel
    have HOW := Lib.hid hown
    have HBR := Lib.hid hbr
    clear hown
    by_cases hlt : k < lc
    case pos =>
      obtain ⟨A, O, rfl, hA, hN⟩ := (HN.out _ HBR.out).out.hc.resolve_left (by omega)
      obtain ⟨y0, y1, y2, y3⟩ := hN k hlt
      obtain ⟨⟨fr, to, cu, ga⟩, hcj⟩ : ∃ c, C k = c := ⟨_, rfl⟩
      have HG : Hid ((C k).ga = ga) := Lib.hid (by rw [hcj])
      rw [hcj] at y0 y1 y2 y3
      dsimp only at y0 y1 y2 y3
      have n1 : (0 : Int) ≤ (k : Int) := by omega
      have n2 : (k : Int) < (lc : Int) := by omega
      have hle := gatL_le (C := C) k
      obtain ⟨q, hq⟩ : ∃ q, (gatL C k).length = q := ⟨_, rfl⟩
      rw [hq] at HOW hle
      have HQ := Lib.hid hq
      have hb1 : Below W0.heap.size W0 (wr.alloc (.cells #[.int .i64 fr, .int .i64 to, .int .i64 cu, .bool ga] 68)) := HBR.out.alloc HBR.out.size _
      have HB5 := Lib.hid hb1
      have HO5 := Lib.hid (HOW.out.alloc (.cells #[.int .i64 fr, .int .i64 to, .int .i64 cu, .bool ga] 68))
      clear hN hcj hb1 hq hbr
      cases ga with
      | false =>
        have HNX := Lib.hid (gatL_no HG.out)
        go_wp2
        go_roundw
        case rel => exact ⟨k + 1, by omega, by go_num, by rw [HNX.out, HQ.out]; exact HO5.out, HB5.out⟩
        case measure => simp [Go.RowKit.intOf]; omega
      | true =>
        have HNX := Lib.hid (gatL_yes HG.out)
        go_wp2_with (first
          | (at_builtin; refine wpList_append_own_at _ rfl (.tmp 15) (.tmp 17) 26 rfl W0.heap.size 3 i0 (.int .i64 0) 1 8 Tryz.underlying26 hi0 hz0 hz1 hz2 rfl (by decide) _ q _ rfl (HO5.out.alloc _) ⟨_, 0, none⟩ 1 1 [.int .i64 (k : Int)] rfl rfl (lies_any (by first | exact al_top rfl _ _ | exact al_top (by simp) _ _)) (by intro u hu; simp at hu; subst hu; rfl) (by unfold maxLen; omega) (by omega) (by have := HB5.out.size; simp at this ⊢; omega) ?_; intro v7 w7' hown7 hgrow7 _ hloc7))
        go_roundw
        case rel => exact ⟨k + 1, by omega, by go_num, by rw [HNX.out, List.length_append, HQ.out, List.map_append]; exact hown7, (HB5.out.alloc HB5.out.size _).grown hgrow7 (by have := HB5.out.size; simp at this ⊢; omega) (fun r e => own_ge HO5.out r e)⟩
        case measure => simp [Go.RowKit.intOf]; omega
    case neg =>
      obtain rfl : k = lc := by omega
      go_wp2
      go_ret
      exact ⟨⟨_, rfl, owns_base HOW.out HA.out.size⟩, HA.out.trans (HBR.out.mono HA.out.size)⟩
end Go.Kn

namespace Go.Kn
open Go Go.Proofs Go.RowKit

/-- whether a network is as defined -/
def netV (lp : Nat) (P : Nat → P8) (lc : Nat) (C : Nat → C8) : Bool :=
  fromB 1 7 (lp : Int) && decide (lc ≤ 10) && allN (fun i => ptB (P i)) lp && allN (fun k => chB lp (C k)) lc && decide ((gatL C lc).length ≤ 7)
theorem netV_iff {lp : Nat} {P : Nat → P8} {lc : Nat} {C : Nat → C8} : netV lp P lc C = true ↔ NetP lp P lc C := by
  unfold netV
  simp only [Bool.and_eq_true, decide_eq_true_eq, allN_iff, fromB]
  constructor
  · rintro ⟨⟨⟨⟨h1, h2⟩, h3⟩, h4⟩, h5⟩
    exact ⟨by omega, by omega, h2, h3, h4, by rw [← gatL_len]; exact h5⟩
  · intro h
    exact ⟨⟨⟨⟨by have := h.l1; have := h.l7; omega, h.c10⟩, h.pt⟩, h.ch⟩, by rw [gatL_len]; exact h.g7⟩

set_option maxRecDepth 100000 in
set_option maxHeartbeats 4000000 in
theorem isNet_w (pa ca : Option Addr) (lp cp lc cc : Nat) (P : Nat → P8) (C : Nat → C8) (w : World) (hlp : lp ≤ 1000000) (hlc : lc ≤ 1000000) (H : Hid (Ne8 w pa ca lp lc P C)) :
    Calls Tryz.prog 56 #[.agg #[.slice pa lp cp, .slice ca lc cc]] w fun e w' => e = .returned (.bool (netV lp P lc C)) ∧ Below w.heap.size w w' := by
  have hmf : ∀ (fn : Fn) (first cap : Array Value) (w : World), (Instr.makeFunc fn first cap).run Tryz.prog w = .ok (.func fn first cap) w := fun _ _ _ _ => rfl
  obtain ⟨W0, hW0⟩ : ∃ W0, W0 = w.alloc (.cells #[.slice pa lp cp, .slice ca lc cc] 25) := ⟨_, rfl⟩
  have hA : Below w.heap.size w W0 := by rw [hW0]; exact (Below.refl _ _).alloc (Nat.le_refl _) _
  have HN : Hid (∀ w2, Below W0.heap.size W0 w2 → Hid (Ne8 w2 pa ca lp lc P C)) := Lib.hid fun w2 h => Lib.hid (H.out.below (hA.trans (h.mono hA.size)))
  have HF : Hid (∀ w2, Below W0.heap.size W0 w2 → w2.cell? ⟨w.heap.size, 0, none⟩ = some (.slice pa lp cp) ∧ w2.cell? ⟨w.heap.size, 1, none⟩ = some (.slice ca lc cc)) := Lib.hid fun w2 h => by
    rw [hW0] at h
    exact ⟨(box_cells h).1, (box_cells h).2.1⟩
  have HA := Lib.hid hA
  have H1 : Hid (Calls Tryz.prog 103 #[.int .i64 1, .int .i64 7, .int .i64 (lp : Int)] W0 fun e w' => e = .returned (.bool (fromB 1 7 (lp : Int))) ∧ W0 = w') := Lib.hid (isFrom_w 1 7 _ W0)
  have HP : Hid (∀ w2, Below W0.heap.size W0 w2 → Calls Tryz.prog 104 #[.slice pa lp cp, .func (.func 105) #[] #[]] w2 fun e w' => e = .returned (.bool (allN (fun i => ptB (P i)) lp)) ∧ Below w2.heap.size w2 w') :=
    Lib.hid fun w2 h => allP_w pa lp cp P _ w2 hlp (Lib.hid (HN.out w2 h).out.hp) (Lib.hid fun d w3 _ _ => gatePt_w (P d) w3)
  have HC : Hid (∀ w2, Below W0.heap.size W0 w2 → Calls Tryz.prog 106 #[.slice ca lc cc, .func (.func 107) #[] #[.pointer (some ⟨w.heap.size, 0, none⟩)]] w2 fun e w' => e = .returned (.bool (allN (fun k => chB lp (C k)) lc)) ∧ Below w2.heap.size w2 w') :=
    Lib.hid fun w2 h => allC_w ca lc cc w.heap.size C _ w2 hlc (Lib.hid (HN.out w2 h).out.hc) (Lib.hid fun d w3 _ h3 => net1_w pa ca lp cp lc cc w.heap.size (C d) w3 hlp (HF.out w3 (h.trans (h3.mono h.size))).1 (HF.out w3 (h.trans (h3.mono h.size))).2)
  have HV : Hid (netV lp P lc C = (fromB 1 7 (lp : Int) && decide (lc ≤ 10) && allN (fun i => ptB (P i)) lp && allN (fun k => chB lp (C k)) lc && decide ((gatL C lc).length ≤ 7))) := Lib.hid rfl
  rw [HV.out]
  clear H HV hA
  have HR := Lib.hid (Below.refl W0.heap.size W0)
  obtain ⟨a1, ha1⟩ : ∃ b, fromB 1 7 (lp : Int) = b := ⟨_, rfl⟩
  obtain ⟨a3, ha3⟩ : ∃ b, allN (fun i => ptB (P i)) lp = b := ⟨_, rfl⟩
  obtain ⟨a4, ha4⟩ : ∃ b, allN (fun k => chB lp (C k)) lc = b := ⟨_, rfl⟩
  rw [ha1] at H1
  rw [ha3] at HP
  rw [ha4] at HC
  rw [ha1, ha3, ha4]
  clear ha1 ha3 ha4
  cases a1 with
  | false =>
    go_enter Tryz.func56, Tryz.ntmps56
    go_wp2_with (go_at_call 103; rw [← hW0]; refine H1.out.mono ?_; rintro e w6 ⟨rfl, rfl⟩)
    go_ret
    exact ⟨rfl, by first | exact HA.out | (rw [← hW0]; exact HA.out)⟩
  | true =>
    by_cases h2 : lc ≤ 10
    case neg =>
      have n1 : ¬ ((lc : Int) ≤ 10) := by omega
      obtain ⟨f0, f1⟩ := HF.out _ HR.out
      go_enter Tryz.func56, Tryz.ntmps56
      go_wp2_with (go_at_call 103; rw [← hW0]; refine H1.out.mono ?_; rintro e w6 ⟨rfl, rfl⟩; clear hW0)
      go_ret
      exact ⟨by simp [h2], HA.out⟩
    case pos =>
      have n1 : ((lc : Int) ≤ 10) := by omega
      have hd : decide (lc ≤ 10) = true := by simp [h2]
      rw [hd]
      clear hd
      have HG : Hid (∀ w2, Below W0.heap.size W0 w2 → Calls Tryz.prog 79 #[.agg #[.slice pa lp cp, .slice ca lc cc]] w2 fun r w' => (∃ v, r = .returned v ∧ w'.ownsRow w2.heap.size 3 1 v (gatL C lc).length ((gatL C lc).map iv1)) ∧ Below w2.heap.size w2 w') :=
        Lib.hid fun w2 h => gatesOf_w pa ca lp cp lc cc P C w2 (by omega) (HN.out w2 h)
      obtain ⟨f0, f1⟩ := HF.out _ HR.out
      cases a3 with
      | false =>
        go_enter Tryz.func56, Tryz.ntmps56
        go_wp2_with (first
          | (go_at_call 103; rw [← hW0]; refine H1.out.mono ?_; rintro e w6 ⟨rfl, rfl⟩; clear hW0)
          | (go_at_call 104; refine (HP.out _ HR.out).mono ?_; rintro e w7 ⟨rfl, hv⟩))
        go_ret
        exact ⟨rfl, HA.out.trans (hv.mono HA.out.size)⟩
      | true =>
        cases a4 with
        | false =>
          go_enter Tryz.func56, Tryz.ntmps56
          go_wp2_with (first
            | (go_at_call 103; rw [← hW0]; refine H1.out.mono ?_; rintro e w6 ⟨rfl, rfl⟩; clear hW0)
            | (go_at_call 104; refine (HP.out _ HR.out).mono ?_; rintro e w7 ⟨rfl, hv⟩; have HV7 := Lib.hid hv; clear hv; obtain ⟨g0, g1⟩ := HF.out _ HV7.out; clear f0 f1)
            | (go_at_call 106; refine (HC.out _ HV7.out).mono ?_; rintro e w8 ⟨rfl, hv⟩; have HV8 := Lib.hid (HV7.out.trans (hv.mono HV7.out.size)); clear hv))
          go_ret
          exact ⟨rfl, HA.out.trans (HV8.out.mono HA.out.size)⟩
        | true =>
          have hle := gatL_le (C := C) lc
          obtain ⟨q, hq⟩ : ∃ q, (gatL C lc).length = q := ⟨_, rfl⟩
          have HQ := Lib.hid hq
          rw [hq] at hle
          clear hq
          by_cases h7 : q ≤ 7
          all_goals
            have n7 : decide ((gatL C lc).length ≤ 7) = decide ((q : Int) ≤ 7) := by rw [HQ.out]; simp; omega
            have HD := Lib.hid n7
            clear n7
            first
              | have n8 : ((q : Int) ≤ 7) := by omega
              | have n8 : ¬ ((q : Int) ≤ 7) := by omega
            go_enter Tryz.func56, Tryz.ntmps56
            go_wp2_with (first
              | (go_at_call 103; rw [← hW0]; refine H1.out.mono ?_; rintro e w6 ⟨rfl, rfl⟩; clear hW0)
              | (go_at_call 104; refine (HP.out _ HR.out).mono ?_; rintro e w7 ⟨rfl, hv⟩; have HV7 := Lib.hid hv; clear hv; obtain ⟨g0, g1⟩ := HF.out _ HV7.out; clear f0 f1)
              | (go_at_call 106; refine (HC.out _ HV7.out).mono ?_; rintro e w8 ⟨rfl, hv⟩; have HV8 := Lib.hid (HV7.out.trans (hv.mono HV7.out.size)); clear hv; obtain ⟨k0, k1⟩ := HF.out _ HV8.out; clear g0 g1)
              | (go_at_call 79; refine (HG.out _ HV8.out).mono ?_; rintro e w9 ⟨⟨v, rfl, hov⟩, hv⟩; obtain ⟨sv, cv, rfl, hsv⟩ := cutSl hov; have HV9 := Lib.hid (HV8.out.trans (hv.mono HV8.out.size)); rw [HQ.out]; clear hv hov hsv))
            go_ret
            exact ⟨by rw [HD.out]; simp [n8], HA.out.trans (HV9.out.mono HA.out.size)⟩
end Go.Kn
