/- Contracts of functions that the laws of this seat call, or the evaluator of closed calls and its runs. Conditions: as each theorem states them. -/
import Derived.Test.YtpfbfdcpibajoaaGreatDoorJA
set_option linter.unusedVariables false
set_option linter.unusedSimpArgs false
namespace Go.Kn
open Go Go.Proofs Go.RowKit

/-- from which number on the next one of a day is -/
def frm (s : Nat → Int) : Nat → Int
  | 0 => 0
  | k + 1 => s k + 1
/-- whether a list is a day -/
def dayB (lo : Nat) (s : Nat → Int) : Nat → Bool
  | 0 => true
  | k + 1 => dayB lo s k && fromB (frm s k) ((lo : Int) - 1) (s k)
theorem dayB_next {lo : Nat} {s : Nat → Int} {k : Nat} (h : dayB lo s k = true) (h2 : fromB (frm s k) ((lo : Int) - 1) (s k) = true) : dayB lo s (k + 1) = true := by simp [dayB, h, h2]
theorem dayB_at {lo : Nat} {s : Nat → Int} : ∀ {m k : Nat}, k < m → dayB lo s m = true → frm s k ≤ s k ∧ s k ≤ (lo : Int) - 1
  | 0, k, h, _ => by omega
  | m + 1, k, h, hd => by
    simp only [dayB, Bool.and_eq_true] at hd
    by_cases e : k = m
    · subst e
      have := hd.2
      simpa only [fromB, decide_eq_true_eq] using this
    · exact dayB_at (m := m) (by omega) hd.1
theorem dayB_no {lo : Nat} {s : Nat → Int} {k m : Nat} (hk : k < m) (h : fromB (frm s k) ((lo : Int) - 1) (s k) = false) : dayB lo s m = false := by
  cases e : dayB lo s m with
  | false => rfl
  | true => have := dayB_at hk e; simp only [fromB, decide_eq_false_iff_not] at h; exact absurd this h
theorem dayB_up {lo : Nat} {s : Nat → Int} {m : Nat} (hd : dayB lo s m = true) : ∀ j i, i < j → j < m → s i < s j
  | 0, i, h, _ => by omega
  | j + 1, i, h, hj => by
    have h1 := (dayB_at hj hd).1
    simp only [frm] at h1
    by_cases e : i = j
    · subst e; omega
    · have := dayB_up hd j i (by omega) (by omega); omega
theorem dayB_ls {lo : Nat} {s : Nat → Int} {m : Nat} (hd : dayB lo s m = true) : LsP lo m s := by
  refine ⟨fun k hk => ?_, fun i j hi hj e => ?_⟩
  · have h1 := dayB_at hk hd
    cases k with
    | zero => simp only [frm] at h1; omega
    | succ k =>
      simp only [frm] at h1
      have h2 := dayB_at (show k < m by omega) hd
      have : ∀ j, j < m → 0 ≤ s j := fun j => by
        induction j with
        | zero => intro hj; have := dayB_at hj hd; simp only [frm] at this; omega
        | succ j ih => intro hj; have := dayB_at hj hd; simp only [frm] at this; have := ih (by omega); omega
      have := this k (by omega)
      omega
  · have := dayB_up hd j i hi hj; omega

set_option maxRecDepth 100000 in
set_option maxHeartbeats 2000000 in
theorem isDay_w (f : Int) (na oa sa : Option Addr) (ln cn lo co n c5 : Nat) (s : Nat → Int) (w : World) (hlo : lo ≤ 1000000) (hn : n ≤ maxLen) (HS : Hid (IntSl w sa n s)) :
    Calls Tryz.prog 138 #[.agg #[.int .i64 f, .slice na ln cn, .slice oa lo co], .slice sa n c5] w fun e w' => e = .returned (.bool (dayB lo s n)) ∧ Below w.heap.size w w' := by
  unfold maxLen at hn
  obtain ⟨WA, hWA⟩ : ∃ WA, WA = w.alloc (.cells #[.int .i64 f, .slice na ln cn, .slice oa lo co] 25) := ⟨_, rfl⟩
  have hA : Below w.heap.size w WA := by rw [hWA]; exact (Below.refl _ _).alloc (Nat.le_refl _) _
  have HX : Hid (∀ w2, Below WA.heap.size WA w2 → w2.cell? ⟨w.heap.size, 2, none⟩ = some (.slice oa lo co)) := Lib.hid fun w2 h => by
    obtain ⟨c, _⟩ := bcell h
    have hz : WA.heap.size = w.heap.size + 1 := by rw [hWA]; simp
    exact (c _ _ (by omega)).trans (by rw [hWA]; simp)
  have HA := Lib.hid hA
  clear hA
  go_enter Tryz.func138, Tryz.ntmps138
  go_wp2
  rw [← hWA]
  clear hWA
  go_loopw [5, 10] (fun fv ii wr => ∃ k : Nat, k ≤ n ∧ ii = .int .i64 (k : Int) ∧ fv = .int .i64 (frm s k) ∧ dayB lo s k = true ∧ Below WA.heap.size WA wr) (fun _ ii _ => n - (Go.RowKit.intOf ii).toNat)
  case atStart => exact ⟨0, Nat.zero_le _, rfl, rfl, rfl, Below.refl _ _⟩
  case round =>
    obtain ⟨k, hk, rfl, rfl, hd, hbr⟩ := hrel
    have HD := Lib.hid hd
    have HBR := Lib.hid hbr
    clear hd hbr
    have x0 := HX.out _ HBR.out
    by_cases hlt : k < n
    · obtain ⟨A, O, rfl, hAl, hN⟩ := HS.out.resolve_left (by omega)
      have hbw : Below w.heap.size w wr := HA.out.trans (HBR.out.mono HA.out.size)
      have y1 := (hN.below hAl hbw) k hlt
      have n1 : (0 : Int) ≤ (k : Int) := by omega
      have n2 : (k : Int) < (n : Int) := by omega
      clear hN hbw
      cases hf : fromB (frm s k) ((lo : Int) - 1) (s k) with
      | true =>
        have HF := Lib.hid hf
        have HD2 := Lib.hid (dayB_next HD.out hf)
        have hs1 : s k ≤ (lo : Int) - 1 ∧ 0 ≤ s k := by
          have h1 := dayB_at (Nat.lt_succ_self k) HD2.out
          have h2 := ((dayB_ls HD2.out).ok k (Nat.lt_succ_self k)).1
          omega
        have hfr : frm s (k + 1) = s k + 1 := rfl
        have HFR := Lib.hid hfr
        obtain ⟨v, hv⟩ : ∃ v, s k = v := ⟨_, rfl⟩
        obtain ⟨f0, hf0⟩ : ∃ f0, frm s k = f0 := ⟨_, rfl⟩
        rw [hv] at y1 hs1 HF HFR
        rw [hf0] at HF ⊢
        clear hf hfr hv hf0
        go_wp2_with (go_at_call 91; refine (isFrom_w _ _ _ _).mono ?_; rw [HF.out]; rintro e w5 ⟨rfl, rfl⟩)
        go_roundw
        case rel => exact ⟨k + 1, by omega, by go_num, by rw [HFR.out], HD2.out, HBR.out⟩
        case measure => simp [Go.RowKit.intOf]; omega
      | false =>
        have HF := Lib.hid hf
        have HD2 := Lib.hid (dayB_no hlt hf)
        obtain ⟨v, hv⟩ : ∃ v, s k = v := ⟨_, rfl⟩
        obtain ⟨f0, hf0⟩ : ∃ f0, frm s k = f0 := ⟨_, rfl⟩
        rw [hv] at y1 HF
        rw [hf0] at HF ⊢
        clear hf hv hf0
        go_wp2_with (go_at_call 91; refine (isFrom_w _ _ _ _).mono ?_; rw [HF.out]; rintro e w5 ⟨rfl, rfl⟩)
        go_ret
        exact ⟨by rw [HD2.out]; rfl, HA.out.trans (HBR.out.mono HA.out.size)⟩
    · obtain rfl : k = n := by omega
      go_wp2
      go_ret
      exact ⟨by rw [HD.out]; rfl, HA.out.trans (HBR.out.mono HA.out.size)⟩

set_option maxRecDepth 100000 in
set_option maxHeartbeats 2000000 in
theorem not137_w (fb xb : Nat) (d : Dy) (B : Bool) (w0 w : World) (hb : Below w0.heap.size w0 w) (h1 : w.cell? ⟨fb, 0, none⟩ = some (.func (.func 137) #[] #[.pointer (some ⟨xb, 0, none⟩)])) (HG : Hid (Calls Tryz.prog 137 #[.slice d.a d.n d.c, .pointer (some ⟨xb, 0, none⟩)] w fun e w' => e = .returned (.bool B) ∧ Below w.heap.size w w')) :
    Calls Tryz.prog 166 #[.slice d.a d.n d.c, .pointer (some ⟨fb, 0, none⟩)] w fun e w' => e = .returned (.bool (!B)) ∧ Below w.heap.size w w' := by
  go_enter Tryz.func166, Tryz.ntmps166
  go_wp2_with (go_at_call 137; refine HG.out.mono ?_; rintro e w5 ⟨rfl, hv⟩)
  go_ret
  exact ⟨rfl, hv⟩

set_option maxRecDepth 100000 in
set_option maxHeartbeats 2000000 in
theorem find137_w (pa : Option Addr) (lp cp fb xb : Nat) (D : Nat → Dy) (B : Nat → Bool) (w : World) (hlp : lp ≤ 1000000) (HP : Hid (PlSl w pa lp D)) (h1 : w.cell? ⟨fb, 0, none⟩ = some (.func (.func 137) #[] #[.pointer (some ⟨xb, 0, none⟩)])) (hfb : fb < w.heap.size)
    (HG : Hid (∀ d w2, d < lp → Below w.heap.size w w2 → Calls Tryz.prog 137 #[.slice (D d).a (D d).n (D d).c, .pointer (some ⟨xb, 0, none⟩)] w2 fun e w' => e = .returned (.bool (B d)) ∧ Below w2.heap.size w2 w')) :
    Calls Tryz.prog 181 #[.slice pa lp cp, .func (.func 166) #[] #[.pointer (some ⟨fb, 0, none⟩)]] w fun e w' => (∃ r, e = .returned (.int .i64 r) ∧ ((r = -1 ∧ allN B lp = true) ∨ (0 ≤ r ∧ allN B lp = false))) ∧ Below w.heap.size w w' := by
  have H1 := Lib.hid h1
  clear h1
  go_enter Tryz.func181, Tryz.ntmps181
  go_wp2
  go_loopw [8] (fun ii wr => ∃ k : Nat, k ≤ lp ∧ ii = .int .i64 (k : Int) ∧ allN B k = true ∧ Below w.heap.size w wr) (fun ii _ => lp - (Go.RowKit.intOf ii).toNat)
  case atStart => exact ⟨0, Nat.zero_le _, rfl, rfl, Below.refl _ _⟩
  case round =>
    obtain ⟨k, hk, rfl, hal, hbr⟩ := hrel
    have HAL := Lib.hid hal
    have HBR := Lib.hid hbr
    clear hal hbr
    by_cases hlt : k < lp
    · obtain ⟨A, O, rfl, hA, hN⟩ := HP.out.resolve_left (by omega)
      have y1 := (hN.below hA HBR.out k hlt).1
      have n1 : (0 : Int) ≤ (k : Int) := by omega
      have n2 : (k : Int) < (lp : Int) := by omega
      have HNC := Lib.hid (not137_w fb xb (D k) (B k) w wr HBR.out ((HBR.out.cell (p := ⟨fb, 0, none⟩) hfb).trans H1.out) (Lib.hid (HG.out k wr hlt HBR.out)))
      clear hN
      cases hB : B k with
      | true =>
        have HB := Lib.hid (allN_next HAL.out hB)
        rw [hB] at HNC
        clear hB
        go_wp2_with (go_at_call 166; refine HNC.out.mono ?_; rintro e w5 ⟨rfl, hv⟩)
        go_roundw
        case rel => exact ⟨k + 1, by omega, by go_num, HB.out, HBR.out.trans (hv.mono HBR.out.size)⟩
        case measure => simp [Go.RowKit.intOf]; omega
      | false =>
        have HB := Lib.hid (allN_no hlt hB)
        rw [hB] at HNC
        clear hB
        go_wp2_with (go_at_call 166; refine HNC.out.mono ?_; rintro e w5 ⟨rfl, hv⟩)
        go_ret
        exact ⟨⟨(k : Int), rfl, .inr ⟨n1, HB.out⟩⟩, HBR.out.trans (hv.mono HBR.out.size)⟩
    · obtain rfl : k = lp := by omega
      go_wp2
      go_ret
      exact ⟨⟨-1, rfl, .inl ⟨rfl, HAL.out⟩⟩, HBR.out⟩

set_option maxRecDepth 100000 in
set_option maxHeartbeats 2000000 in
theorem all137_w (pa : Option Addr) (lp cp xb : Nat) (D : Nat → Dy) (B : Nat → Bool) (w : World) (hlp : lp ≤ 1000000) (HP : Hid (PlSl w pa lp D))
    (HG : Hid (∀ d w2, d < lp → Below w.heap.size w w2 → Calls Tryz.prog 137 #[.slice (D d).a (D d).n (D d).c, .pointer (some ⟨xb, 0, none⟩)] w2 fun e w' => e = .returned (.bool (B d)) ∧ Below w2.heap.size w2 w')) :
    Calls Tryz.prog 136 #[.slice pa lp cp, .func (.func 137) #[] #[.pointer (some ⟨xb, 0, none⟩)]] w fun e w' => e = .returned (.bool (allN B lp)) ∧ Below w.heap.size w w' := by
  have hmf : ∀ (fn : Fn) (first cap : Array Value) (w : World), (Instr.makeFunc fn first cap).run Tryz.prog w = .ok (.func fn first cap) w := fun _ _ _ _ => rfl
  have hA : Below w.heap.size w (w.alloc (.cells #[.func (.func 137) #[] #[.pointer (some ⟨xb, 0, none⟩)]] 39)) := (Below.refl _ _).alloc (Nat.le_refl _) _
  have HF := Lib.hid (find137_w pa lp cp w.heap.size xb D B (w.alloc (.cells #[.func (.func 137) #[] #[.pointer (some ⟨xb, 0, none⟩)]] 39)) hlp (Lib.hid (HP.out.below hA)) (by simp) (by simp) (Lib.hid fun d w2 hd h => HG.out d w2 hd (hA.trans (h.mono hA.size))))
  have HC : Hid (Calls Tryz.prog 165 #[.slice pa lp cp, .func (.func 166) #[] #[.pointer (some ⟨w.heap.size, 0, none⟩)]] (w.alloc (.cells #[.func (.func 137) #[] #[.pointer (some ⟨xb, 0, none⟩)]] 39)) fun e w' => e = .returned (.bool (!allN B lp)) ∧ Below (w.alloc (.cells #[.func (.func 137) #[] #[.pointer (some ⟨xb, 0, none⟩)]] 39)).heap.size (w.alloc (.cells #[.func (.func 137) #[] #[.pointer (some ⟨xb, 0, none⟩)]] 39)) w') := Lib.hid (by
    go_enter Tryz.func165, Tryz.ntmps165
    go_wp2_with (go_at_call 181; refine HF.out.mono ?_; rintro e w5 ⟨⟨r, rfl, ⟨rfl, hal⟩ | ⟨hr, hal⟩⟩, hv⟩)
    · go_ret
      exact ⟨by rw [hal]; rfl, hv⟩
    · go_wp2
      go_ret
      exact ⟨by rw [hal]; simp [hr], hv⟩)
  go_enter Tryz.func136, Tryz.ntmps136
  go_wp2_with (go_at_call 165; refine HC.out.mono ?_; rintro e w5 ⟨rfl, hv⟩)
  go_ret
  exact ⟨by cases allN B lp <;> rfl, below_al hv⟩

set_option maxRecDepth 100000 in
set_option maxHeartbeats 2000000 in
theorem not139_w (fb xb : Nat) (d : Dy) (B : Bool) (w0 w : World) (hb : Below w0.heap.size w0 w) (h1 : w.cell? ⟨fb, 0, none⟩ = some (.func (.func 139) #[] #[.pointer (some ⟨xb, 0, none⟩)])) (HG : Hid (Calls Tryz.prog 139 #[.slice d.a d.n d.c, .pointer (some ⟨xb, 0, none⟩)] w fun e w' => e = .returned (.bool B) ∧ Below w.heap.size w w')) :
    Calls Tryz.prog 166 #[.slice d.a d.n d.c, .pointer (some ⟨fb, 0, none⟩)] w fun e w' => e = .returned (.bool (!B)) ∧ Below w.heap.size w w' := by
  go_enter Tryz.func166, Tryz.ntmps166
  go_wp2_with (go_at_call 139; refine HG.out.mono ?_; rintro e w5 ⟨rfl, hv⟩)
  go_ret
  exact ⟨rfl, hv⟩

set_option maxRecDepth 100000 in
set_option maxHeartbeats 2000000 in
theorem find139_w (pa : Option Addr) (lp cp fb xb : Nat) (D : Nat → Dy) (B : Nat → Bool) (w : World) (hlp : lp ≤ 1000000) (HP : Hid (PlSl w pa lp D)) (h1 : w.cell? ⟨fb, 0, none⟩ = some (.func (.func 139) #[] #[.pointer (some ⟨xb, 0, none⟩)])) (hfb : fb < w.heap.size)
    (HG : Hid (∀ d w2, d < lp → Below w.heap.size w w2 → Calls Tryz.prog 139 #[.slice (D d).a (D d).n (D d).c, .pointer (some ⟨xb, 0, none⟩)] w2 fun e w' => e = .returned (.bool (B d)) ∧ Below w2.heap.size w2 w')) :
    Calls Tryz.prog 181 #[.slice pa lp cp, .func (.func 166) #[] #[.pointer (some ⟨fb, 0, none⟩)]] w fun e w' => (∃ r, e = .returned (.int .i64 r) ∧ ((r = -1 ∧ allN B lp = true) ∨ (0 ≤ r ∧ allN B lp = false))) ∧ Below w.heap.size w w' := by
  have H1 := Lib.hid h1
  clear h1
  go_enter Tryz.func181, Tryz.ntmps181
  go_wp2
  go_loopw [8] (fun ii wr => ∃ k : Nat, k ≤ lp ∧ ii = .int .i64 (k : Int) ∧ allN B k = true ∧ Below w.heap.size w wr) (fun ii _ => lp - (Go.RowKit.intOf ii).toNat)
  case atStart => exact ⟨0, Nat.zero_le _, rfl, rfl, Below.refl _ _⟩
  case round =>
    obtain ⟨k, hk, rfl, hal, hbr⟩ := hrel
    have HAL := Lib.hid hal
    have HBR := Lib.hid hbr
    clear hal hbr
    by_cases hlt : k < lp
    · obtain ⟨A, O, rfl, hA, hN⟩ := HP.out.resolve_left (by omega)
      have y1 := (hN.below hA HBR.out k hlt).1
      have n1 : (0 : Int) ≤ (k : Int) := by omega
      have n2 : (k : Int) < (lp : Int) := by omega
      have HNC := Lib.hid (not139_w fb xb (D k) (B k) w wr HBR.out ((HBR.out.cell (p := ⟨fb, 0, none⟩) hfb).trans H1.out) (Lib.hid (HG.out k wr hlt HBR.out)))
      clear hN
      cases hB : B k with
      | true =>
        have HB := Lib.hid (allN_next HAL.out hB)
        rw [hB] at HNC
        clear hB
        go_wp2_with (go_at_call 166; refine HNC.out.mono ?_; rintro e w5 ⟨rfl, hv⟩)
        go_roundw
        case rel => exact ⟨k + 1, by omega, by go_num, HB.out, HBR.out.trans (hv.mono HBR.out.size)⟩
        case measure => simp [Go.RowKit.intOf]; omega
      | false =>
        have HB := Lib.hid (allN_no hlt hB)
        rw [hB] at HNC
        clear hB
        go_wp2_with (go_at_call 166; refine HNC.out.mono ?_; rintro e w5 ⟨rfl, hv⟩)
        go_ret
        exact ⟨⟨(k : Int), rfl, .inr ⟨n1, HB.out⟩⟩, HBR.out.trans (hv.mono HBR.out.size)⟩
    · obtain rfl : k = lp := by omega
      go_wp2
      go_ret
      exact ⟨⟨-1, rfl, .inl ⟨rfl, HAL.out⟩⟩, HBR.out⟩

set_option maxRecDepth 100000 in
set_option maxHeartbeats 2000000 in
theorem all139_w (pa : Option Addr) (lp cp xb : Nat) (D : Nat → Dy) (B : Nat → Bool) (w : World) (hlp : lp ≤ 1000000) (HP : Hid (PlSl w pa lp D))
    (HG : Hid (∀ d w2, d < lp → Below w.heap.size w w2 → Calls Tryz.prog 139 #[.slice (D d).a (D d).n (D d).c, .pointer (some ⟨xb, 0, none⟩)] w2 fun e w' => e = .returned (.bool (B d)) ∧ Below w2.heap.size w2 w')) :
    Calls Tryz.prog 136 #[.slice pa lp cp, .func (.func 139) #[] #[.pointer (some ⟨xb, 0, none⟩)]] w fun e w' => e = .returned (.bool (allN B lp)) ∧ Below w.heap.size w w' := by
  have hmf : ∀ (fn : Fn) (first cap : Array Value) (w : World), (Instr.makeFunc fn first cap).run Tryz.prog w = .ok (.func fn first cap) w := fun _ _ _ _ => rfl
  have hA : Below w.heap.size w (w.alloc (.cells #[.func (.func 139) #[] #[.pointer (some ⟨xb, 0, none⟩)]] 39)) := (Below.refl _ _).alloc (Nat.le_refl _) _
  have HF := Lib.hid (find139_w pa lp cp w.heap.size xb D B (w.alloc (.cells #[.func (.func 139) #[] #[.pointer (some ⟨xb, 0, none⟩)]] 39)) hlp (Lib.hid (HP.out.below hA)) (by simp) (by simp) (Lib.hid fun d w2 hd h => HG.out d w2 hd (hA.trans (h.mono hA.size))))
  have HC : Hid (Calls Tryz.prog 165 #[.slice pa lp cp, .func (.func 166) #[] #[.pointer (some ⟨w.heap.size, 0, none⟩)]] (w.alloc (.cells #[.func (.func 139) #[] #[.pointer (some ⟨xb, 0, none⟩)]] 39)) fun e w' => e = .returned (.bool (!allN B lp)) ∧ Below (w.alloc (.cells #[.func (.func 139) #[] #[.pointer (some ⟨xb, 0, none⟩)]] 39)).heap.size (w.alloc (.cells #[.func (.func 139) #[] #[.pointer (some ⟨xb, 0, none⟩)]] 39)) w') := Lib.hid (by
    go_enter Tryz.func165, Tryz.ntmps165
    go_wp2_with (go_at_call 181; refine HF.out.mono ?_; rintro e w5 ⟨⟨r, rfl, ⟨rfl, hal⟩ | ⟨hr, hal⟩⟩, hv⟩)
    · go_ret
      exact ⟨by rw [hal]; rfl, hv⟩
    · go_wp2
      go_ret
      exact ⟨by rw [hal]; simp [hr], hv⟩)
  go_enter Tryz.func136, Tryz.ntmps136
  go_wp2_with (go_at_call 165; refine HC.out.mono ?_; rintro e w5 ⟨rfl, hv⟩)
  go_ret
  exact ⟨by cases allN B lp <;> rfl, below_al hv⟩

set_option maxRecDepth 100000 in
set_option maxHeartbeats 2000000 in
theorem isPlan_w (f : Int) (na oa pa : Option Addr) (ln cn lo co lp cp : Nat) (D : Nat → Dy) (w : World) (hlo : lo ≤ 1000000) (hlp : lp ≤ 1000000) (HD : Hid (∀ d, d < lp → (D d).n ≤ maxLen)) (HP : Hid (PlSl w pa lp D)) :
    Calls Tryz.prog 93 #[.agg #[.int .i64 f, .slice na ln cn, .slice oa lo co], .slice pa lp cp] w fun e w' => e = .returned (.bool (decide (lp ≤ 10) && allN (fun d => dayB lo (D d).s (D d).n) lp)) ∧ Below w.heap.size w w' := by
  have hmf : ∀ (fn : Fn) (first cap : Array Value) (w : World), (Instr.makeFunc fn first cap).run Tryz.prog w = .ok (.func fn first cap) w := fun _ _ _ _ => rfl
  have BX := Lib.hid (fun (w1 : World) (hb : Below (w.alloc (.cells #[.int .i64 f, .slice na ln cn, .slice oa lo co] 25)).heap.size (w.alloc (.cells #[.int .i64 f, .slice na ln cn, .slice oa lo co] 25)) w1) => box7 hb)
  have hA : Below w.heap.size w (w.alloc (.cells #[.int .i64 f, .slice na ln cn, .slice oa lo co] 25)) := (Below.refl _ _).alloc (Nat.le_refl _) _
  have HG : Hid (∀ d w2, d < lp → Below (w.alloc (.cells #[.int .i64 f, .slice na ln cn, .slice oa lo co] 25)).heap.size (w.alloc (.cells #[.int .i64 f, .slice na ln cn, .slice oa lo co] 25)) w2 → Calls Tryz.prog 137 #[.slice (D d).a (D d).n (D d).c, .pointer (some ⟨w.heap.size, 0, none⟩)] w2 fun e w' => e = .returned (.bool (dayB lo (D d).s (D d).n)) ∧ Below w2.heap.size w2 w') := Lib.hid fun d w2 hd h => by
    obtain ⟨x1, x2, x3, x4⟩ := BX.out _ h
    have HDY := Lib.hid (isDay_w f na oa (D d).a ln cn lo co (D d).n (D d).c (D d).s w2 hlo (HD.out d hd) (Lib.hid ((HP.out.below (hA.trans (h.mono hA.size))).day hd)))
    clear h
    go_enter Tryz.func137, Tryz.ntmps137
    go_wp2_with (go_at_call 138; refine HDY.out.mono ?_; rintro e w5 ⟨rfl, hv⟩)
    go_ret
    exact ⟨rfl, hv⟩
  have HAL := Lib.hid (all137_w pa lp cp w.heap.size D _ _ hlp (Lib.hid (HP.out.below hA)) HG)
  clear hA HG
  by_cases h10 : lp ≤ 10
  · have n1 : (lp : Int) ≤ 10 := by omega
    have H10 := Lib.hid h10
    clear h10
    go_enter Tryz.func93, Tryz.ntmps93
    go_wp2_with (go_at_call 136; refine HAL.out.mono ?_; rintro e w5 ⟨rfl, hv⟩)
    go_ret
    exact ⟨by rw [decide_eq_true H10.out, Bool.true_and]; rfl, below_al hv⟩
  · have n1 : ¬ (lp : Int) ≤ 10 := by omega
    have H10 := Lib.hid h10
    clear h10
    go_enter Tryz.func93, Tryz.ntmps93
    go_wp2
    go_ret
    exact ⟨by rw [decide_eq_false H10.out, Bool.false_and]; simp, (Below.refl _ _).alloc (Nat.le_refl _) _⟩

open Classical in
/-- whether a day can be -/
noncomputable def runD (f : Int) (ln lo : Nat) (N : Nat → N2) (U : Nat → O3) (d : Dy) : Bool := decide (FitP f ln lo N U (rk U d.s d.n))

set_option maxRecDepth 100000 in
set_option maxHeartbeats 2000000 in
theorem canBe_w (f : Int) (na oa pa : Option Addr) (ln cn lo co lp cp : Nat) (N : Nat → N2) (U : Nat → O3) (D : Nat → Dy) (w : World) (hlp : lp ≤ 1000000) (HD : Hid (∀ d, d < lp → (D d).n ≤ 1000000 ∧ LsP lo (D d).n (D d).s)) (HP : Hid (PlSl w pa lp D)) (HR : Hid (TreeP f ln lo N U)) (H : Hid (Tr7 w na oa ln lo N U)) :
    Calls Tryz.prog 94 #[.agg #[.int .i64 f, .slice na ln cn, .slice oa lo co], .slice pa lp cp] w fun e w' => e = .returned (.bool (allN (fun d => runD f ln lo N U (D d)) lp)) ∧ Below w.heap.size w w' := by
  have hmf : ∀ (fn : Fn) (first cap : Array Value) (w : World), (Instr.makeFunc fn first cap).run Tryz.prog w = .ok (.func fn first cap) w := fun _ _ _ _ => rfl
  have BX := Lib.hid (fun (w1 : World) (hb : Below (w.alloc (.cells #[.int .i64 f, .slice na ln cn, .slice oa lo co] 25)).heap.size (w.alloc (.cells #[.int .i64 f, .slice na ln cn, .slice oa lo co] 25)) w1) => box7 hb)
  have hA : Below w.heap.size w (w.alloc (.cells #[.int .i64 f, .slice na ln cn, .slice oa lo co] 25)) := (Below.refl _ _).alloc (Nat.le_refl _) _
  have HG : Hid (∀ d w2, d < lp → Below (w.alloc (.cells #[.int .i64 f, .slice na ln cn, .slice oa lo co] 25)).heap.size (w.alloc (.cells #[.int .i64 f, .slice na ln cn, .slice oa lo co] 25)) w2 → Calls Tryz.prog 139 #[.slice (D d).a (D d).n (D d).c, .pointer (some ⟨w.heap.size, 0, none⟩)] w2 fun e w' => e = .returned (.bool (runD f ln lo N U (D d))) ∧ Below w2.heap.size w2 w') := Lib.hid fun d w2 hd h => by
    obtain ⟨x1, x2, x3, x4⟩ := BX.out _ h
    have hb2 := hA.trans (h.mono hA.size)
    have HDY := Lib.hid (canRun_w f na oa (D d).a ln cn lo co (D d).n (D d).c N U (D d).s w2 (HD.out d hd).1 (Lib.hid (H.out.below hb2)) (Lib.hid ((HP.out.below hb2).day hd)) HR (Lib.hid (HD.out d hd).2))
    clear h hb2
    go_enter Tryz.func139, Tryz.ntmps139
    go_wp2_with (go_at_call 97; refine HDY.out.mono ?_; rintro e w5 ⟨rfl, hv⟩)
    go_ret
    exact ⟨rfl, hv⟩
  have HAL := Lib.hid (all139_w pa lp cp w.heap.size D _ _ hlp (Lib.hid (HP.out.below hA)) HG)
  clear hA HG
  go_enter Tryz.func94, Tryz.ntmps94
  go_wp2_with (go_at_call 136; refine HAL.out.mono ?_; rintro e w5 ⟨rfl, hv⟩)
  go_ret
  exact ⟨rfl, below_al hv⟩
end Go.Kn
