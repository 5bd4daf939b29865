/- Contracts of functions that the laws of this seat call, or the evaluator of closed calls and its runs. Conditions: as each theorem states them. -/
import Derived.Test.YtpfbfdcpibajoaaGreatDoorJE
import Derived.Test.YtpfbfdcpibajoaaGreatDoorJG
set_option linter.unusedVariables false
set_option linter.unusedSimpArgs false
namespace Go.Kn
open Go Go.Proofs Go.RowKit

def b2i (b : Bool) : Int := if b then 1 else 0
/-- how many of the first are right -/
def cntB (p : Nat → Bool) : Nat → Int
  | 0 => 0
  | k + 1 => cntB p k + b2i (p k)
theorem cntB_congr {p q : Nat → Bool} : ∀ k, (∀ i, i < k → p i = q i) → cntB p k = cntB q k
  | 0, _ => rfl
  | k + 1, h => by simp only [cntB]; rw [cntB_congr k (fun i hi => h i (by omega)), h k (by omega)]
theorem cntB_upd {p : Nat → Bool} {a : Nat} {v : Bool} : ∀ k, a < k → cntB (fun d => if d = a then v else p d) k = cntB p k + b2i v - b2i (p a)
  | 0, h => by omega
  | k + 1, h => by
    simp only [cntB]
    by_cases e : a = k
    · subst e
      rw [if_pos rfl, cntB_congr (q := p) a (fun i hi => if_neg (by omega))]
      omega
    · rw [cntB_upd k (by omega), if_neg (by omega)]
      omega
theorem cntB_bd {p : Nat → Bool} : ∀ k, 0 ≤ cntB p k ∧ cntB p k ≤ (k : Int)
  | 0 => by simp [cntB]
  | k + 1 => by
    have := cntB_bd (p := p) k
    simp only [cntB, b2i]
    split <;> omega
def dys (D : Nat → Dy) (x : Int) : Nat → Bool := fun d => hasB (D d).s x (D d).n
theorem b2i_t : b2i true = 1 := rfl
theorem b2i_f : b2i false = 0 := rfl

set_option maxRecDepth 100000 in
set_option maxHeartbeats 2000000 in
theorem days_w (pa : Option Addr) (lp cp : Nat) (D : Nat → Dy) (x : Int) (w : World) (hlp : lp ≤ 1000) (HD : Hid (∀ d, d < lp → (D d).n ≤ 1000000)) (HP : Hid (PlSl w pa lp D)) :
    Calls Tryz.prog 49 #[.slice pa lp cp, .int .i64 x] w fun e w' => e = .returned (.int .i64 (cntB (dys D x) lp)) ∧ Below w.heap.size w w' := by
  go_enter Tryz.func49, Tryz.ntmps49
  go_wp2
  go_loopw [5, 6] (fun nv ii wr => ∃ k : Nat, k ≤ lp ∧ ii = .int .i64 (k : Int) ∧ nv = .int .i64 (cntB (dys D x) k) ∧ Below w.heap.size w wr) (fun _ ii _ => lp - (Go.RowKit.intOf ii).toNat)
  case atStart => exact ⟨0, Nat.zero_le _, rfl, rfl, Below.refl _ _⟩
  case round =>
    obtain ⟨k, hk, rfl, rfl, hbr⟩ := hrel
    have HBR := Lib.hid hbr
    clear hbr
    by_cases hlt : k < lp
    · obtain ⟨A, O, rfl, hA, hN⟩ := HP.out.resolve_left (by omega)
      have y1 := (hN.below hA HBR.out k hlt).1
      have n1 : (0 : Int) ≤ (k : Int) := by omega
      have n2 : (k : Int) < (lp : Int) := by omega
      have HH := Lib.hid (has_w (D k).a (D k).n (D k).c (D k).s x wr (HD.out k hlt) (Lib.hid (hN.below hA HBR.out k hlt).2))
      have bd := cntB_bd (p := dys D x) k
      have hs : cntB (dys D x) (k + 1) = cntB (dys D x) k + b2i (hasB (D k).s x (D k).n) := rfl
      have HS := Lib.hid hs
      obtain ⟨c, hc⟩ : ∃ c, cntB (dys D x) k = c := ⟨_, rfl⟩
      rw [hc] at bd HS ⊢
      have wr1 : IntKind.i64.wrap (c + 1) = c + 1 := by rw [IntKind.wrap_i64]; omega
      clear hN hs hc
      cases hB : hasB (D k).s x (D k).n with
      | true =>
        rw [hB] at HH HS
        clear hB
        go_wp2_with (go_at_call 36; refine HH.out.mono ?_; rintro e w5 ⟨rfl, hv5⟩)
        go_roundw
        case rel => exact ⟨k + 1, by omega, by go_num, by rw [HS.out, b2i_t], HBR.out.trans (hv5.mono HBR.out.size)⟩
        case measure => simp [Go.RowKit.intOf]; omega
      | false =>
        rw [hB] at HH HS
        clear hB
        go_wp2_with (go_at_call 36; refine HH.out.mono ?_; rintro e w5 ⟨rfl, hv5⟩)
        go_roundw
        case rel => exact ⟨k + 1, by omega, by go_num, by rw [HS.out, b2i_f, Int.add_zero], HBR.out.trans (hv5.mono HBR.out.size)⟩
        case measure => simp [Go.RowKit.intOf]; omega
    · obtain rfl : k = lp := by omega
      go_wp2
      go_ret
      exact ⟨rfl, HBR.out⟩

set_option maxRecDepth 100000 in
set_option maxHeartbeats 2000000 in
theorem druns_w (f : Int) (na oa pa : Option Addr) (ln cn lo co lp cp : Nat) (N : Nat → N2) (U : Nat → O3) (D : Nat → Dy) (w : World) (hlp : lp ≤ 10) (HR : Hid (TreeS f ln lo N U)) (H : Hid (Tr7 w na oa ln lo N U)) (HP : Hid (PlSl w pa lp D)) (HDY : Hid (∀ d, d < lp → dayB lo (D d).s (D d).n = true)) :
    Calls Tryz.prog 43 #[.agg #[.int .i64 f, .slice na ln cn, .slice oa lo co], .slice pa lp cp] w fun e w' => e = .returned (.tuple #[.bool (allN (fun d => runD f ln lo N U (D d)) lp), .int .i64 0]) ∧ Below w.heap.size w w' := by
  have q1 := HR.out.l6
  have q2 := HR.out.lo2
  have BX := Lib.hid (fun (w1 : World) (hb : Below (w.alloc (.cells #[.int .i64 f, .slice na ln cn, .slice oa lo co] 25)).heap.size (w.alloc (.cells #[.int .i64 f, .slice na ln cn, .slice oa lo co] 25)) w1) => box7 hb)
  have HN : Hid (∀ w1, Below (w.alloc (.cells #[.int .i64 f, .slice na ln cn, .slice oa lo co] 25)).heap.size (w.alloc (.cells #[.int .i64 f, .slice na ln cn, .slice oa lo co] 25)) w1 → Hid (Tr7 w1 na oa ln lo N U) ∧ Hid (PlSl w1 pa lp D)) := Lib.hid fun w1 h => ⟨Lib.hid (H.out.below (below_al h)), Lib.hid (HP.out.below (below_al h))⟩
  have hb : Below (w.alloc (.cells #[.int .i64 f, .slice na ln cn, .slice oa lo co] 25)).heap.size (w.alloc (.cells #[.int .i64 f, .slice na ln cn, .slice oa lo co] 25)) (w.alloc (.cells #[.int .i64 f, .slice na ln cn, .slice oa lo co] 25)) := Below.refl _ _
  obtain ⟨x1, x2, x3, x4⟩ := BX.out _ hb
  have HPL : Hid (allN (fun d => dayB lo (D d).s (D d).n) lp = true) := Lib.hid ((allN_iff lp).2 HDY.out)
  have HLS : Hid (∀ d, d < lp → (D d).n ≤ 1000000 ∧ LsP lo (D d).n (D d).s) := Lib.hid fun d hd => ⟨by have := (dayB_len _ (HDY.out d hd)).1; omega, dayB_ls (HDY.out d hd)⟩
  have hp10 : decide (lp ≤ 10) = true := decide_eq_true hlp
  clear H HP
  go_enter Tryz.func43, Tryz.ntmps43
  go_wp2_with (first
    | (go_at_call 62; refine (isTree_w f na oa ln cn lo co N U _ (by omega) (by omega) (HN.out _ hb).1).mono ?_; rintro e wl ⟨⟨rb, rfl, hrb⟩, hv⟩; obtain rfl : rb = true := hrb.2 HR.out; clear hrb; replace hb := hb.trans (hv.mono hb.size); clear x1 x2 x3 x4; obtain ⟨x1, x2, x3, x4⟩ := BX.out _ hb)
    | (go_at_call 93; refine (isPlan_w f na oa pa ln cn lo co lp cp D _ (by omega) (by omega) (Lib.hid fun d hd => by have := (HLS.out d hd).1; unfold maxLen; omega) (HN.out _ hb).2).mono ?_; rw [hp10, HPL.out]; rintro e wl ⟨rfl, hv⟩; replace hb := hb.trans (hv.mono hb.size); clear x1 x2 x3 x4; obtain ⟨x1, x2, x3, x4⟩ := BX.out _ hb)
    | (go_at_call 94; refine (canBe_w f na oa pa ln cn lo co lp cp N U D _ (by omega) HLS (HN.out _ hb).2 (Lib.hid HR.out.w) (HN.out _ hb).1).mono ?_; rintro e wl ⟨rfl, hv⟩; replace hb := hb.trans (hv.mono hb.size); clear x1 x2 x3 x4; obtain ⟨x1, x2, x3, x4⟩ := BX.out _ hb))
  exact bodyPost_ret (v := .tuple #[.bool _, .int .i64 0]) (by simp [results, Tryz.results43, go_sem]) rfl ⟨rfl, below_al hb⟩

section
variable {f : Int} {ln lo lp : Nat} {N : Nat → N2} {U : Nat → O3} {D E : Nat → Dy} {zo zt : Int} {a b : Nat}
theorem swB_has (h : SwB f ln lo N U D zo zt a b = true) : (hasB (D a).s zo (D a).n = true ∧ hasB (D b).s zo (D b).n = false) ∧ (hasB (D b).s zt (D b).n = true ∧ hasB (D a).s zt (D a).n = false) ∧ runE f ln lo N U (insB (dB (D a)) zo zt) = true ∧ runE f ln lo N U (insB (dB (D b)) zt zo) = true := by
  unfold SwB at h
  simp only [Bool.and_eq_true, Bool.not_eq_true'] at h
  exact ⟨h.1.1, h.1.2, h.2.1, h.2.2⟩
theorem swB_ne (h : SwB f ln lo N U D zo zt a b = true) : a ≠ b := by
  intro e; subst e
  have := swB_has h
  rw [this.1.1] at this
  have h2 := this.1.2
  cases h2
theorem swE_allrun (hE : SwE lo lp D E zo zt a b) (ha : a < lp) (hb : b < lp) (hs : SwB f ln lo N U D zo zt a b = true) (hr : allN (fun d => runD f ln lo N U (D d)) lp = true) : allN (fun d => runD f ln lo N U (E d)) lp = true := by
  obtain ⟨_, _, h3, h4⟩ := swB_has hs
  rw [swE_run hE ha hb (swB_ne hs) hr, h3, h4]; rfl
theorem insB_ins {p : Nat → Bool} {x y : Int} {j : Nat} (hxy : x ≠ y) (hx : ∀ k : Nat, (k : Int) = x → p k = true) (hy : ∀ k : Nat, (k : Int) = y → p k = false) {q : Nat → Bool} (hq : q j = insB p x y j) : insB q y x j = p j := by
  unfold insB at *
  rw [hq]
  by_cases h1 : (j : Int) = x
  · rw [hx j h1]; simp [h1]
  · by_cases h2 : (j : Int) = y
    · have hyx : ¬ y = x := fun e => hxy e.symm
      rw [hy j h2]; simp [h2, hyx]
    · simp [h1, h2]
/-- the exchange can be taken back -/
theorem swE_back (hE : SwE lo lp D E zo zt a b) (ha : a < lp) (hb : b < lp) (hne : zo ≠ zt) (hzo : 0 ≤ zo ∧ zo < (lo : Int)) (hzt : 0 ≤ zt ∧ zt < (lo : Int)) (hs : SwB f ln lo N U D zo zt a b = true) (hr : allN (fun d => runD f ln lo N U (D d)) lp = true) : SwB f ln lo N U E zt zo a b = true := by
  obtain ⟨⟨k1, k2⟩, ⟨k3, k4⟩, k5, k6⟩ := swB_has hs
  have hab := swB_ne hs
  obtain ⟨x, rfl⟩ : ∃ x : Nat, zo = (x : Int) := ⟨zo.toNat, by omega⟩
  obtain ⟨y, rfl⟩ : ∃ y : Nat, zt = (y : Int) := ⟨zt.toNat, by omega⟩
  have hx : x < lo := by omega
  have hy : y < lo := by omega
  have hxy : x ≠ y := fun e => hne (by rw [e])
  have nxy : ¬ (x : Int) = (y : Int) := hne
  have nyx : ¬ (y : Int) = (x : Int) := fun e => hne e.symm
  have ea : ∀ j, j < lo → dB (E a) j = insB (dB (D a)) x y j := fun j hj => by rw [hE.has a ha j hj, if_pos rfl]
  have eb : ∀ j, j < lo → dB (E b) j = insB (dB (D b)) y x j := fun j hj => by rw [hE.has b hb j hj, if_neg (fun e => hab e.symm), if_pos rfl]
  have p1 : hasB (E a).s (y : Int) (E a).n = true := by have h := ea y hy; show dB (E a) y = true; rw [h]; simp [insB]
  have p2 : hasB (E b).s (y : Int) (E b).n = false := by have h := eb y hy; show dB (E b) y = false; rw [h]; simp [insB]; omega
  have p3 : hasB (E b).s (x : Int) (E b).n = true := by have h := eb x hx; show dB (E b) x = true; rw [h]; simp [insB]
  have p4 : hasB (E a).s (x : Int) (E a).n = false := by have h := ea x hx; show dB (E a) x = false; rw [h]; simp [insB]; omega
  have r1 : runE f ln lo N U (insB (dB (E a)) (y : Int) (x : Int)) = true := by
    rw [runE_congr (c := dB (D a)) fun j hj => insB_ins hne (fun k e => by have := Int.ofNat.inj e; subst this; exact k1) (fun k e => by have := Int.ofNat.inj e; subst this; exact k4) (ea j hj), ← runD_eq]
    exact (allN_iff lp).1 hr a ha
  have r2 : runE f ln lo N U (insB (dB (E b)) (x : Int) (y : Int)) = true := by
    rw [runE_congr (c := dB (D b)) fun j hj => insB_ins (fun e => hne e.symm) (fun k e => by have := Int.ofNat.inj e; subst this; exact k3) (fun k e => by have := Int.ofNat.inj e; subst this; exact k2) (eb j hj), ← runD_eq]
    exact (allN_iff lp).1 hr b hb
  unfold SwB
  rw [p1, p2, p3, p4, r1, r2]; rfl
/-- each outlet runs on as many days as before -/
theorem swE_days (hE : SwE lo lp D E zo zt a b) (ha : a < lp) (hb : b < lp) (hne : zo ≠ zt) (hs : SwB f ln lo N U D zo zt a b = true) {x : Nat} (hx : x < lo) : cntB (dys E (x : Int)) lp = cntB (dys D (x : Int)) lp := by
  obtain ⟨⟨k1, k2⟩, ⟨k3, k4⟩, _, _⟩ := swB_has hs
  have hab := swB_ne hs
  have e1 : cntB (dys E (x : Int)) lp = cntB (fun d => if d = a then insB (dB (D a)) zo zt x else (fun d => if d = b then insB (dB (D b)) zt zo x else dys D (x : Int) d) d) lp := cntB_congr lp fun d hd => by
    show dB (E d) x = _
    rw [hE.has d hd x hx]
    by_cases h1 : d = a
    · rw [if_pos h1, if_pos h1, h1]
    · rw [if_neg h1, if_neg h1]
      by_cases h2 : d = b
      · subst h2; simp
      · rw [if_neg h2]; simp only [if_neg h2]; rfl
  rw [e1, cntB_upd lp ha, cntB_upd lp hb]
  simp only [if_neg hab]
  have q1 : dys D (x : Int) a = dB (D a) x := rfl
  have q2 : dys D (x : Int) b = dB (D b) x := rfl
  rw [q1, q2]
  by_cases h1 : (x : Int) = zo
  · have m1 : dB (D a) x = true := by show hasB (D a).s (x : Int) (D a).n = true; rw [h1]; exact k1
    have m2 : dB (D b) x = false := by show hasB (D b).s (x : Int) (D b).n = false; rw [h1]; exact k2
    have m3 : insB (dB (D a)) zo zt x = false := by simp [insB, h1, hne]
    have m4 : insB (dB (D b)) zt zo x = true := by simp [insB, h1]
    rw [m1, m2, m3, m4, b2i_t, b2i_f]; omega
  · by_cases h2 : (x : Int) = zt
    · have m1 : dB (D a) x = false := by show hasB (D a).s (x : Int) (D a).n = false; rw [h2]; exact k4
      have m2 : dB (D b) x = true := by show hasB (D b).s (x : Int) (D b).n = true; rw [h2]; exact k3
      have n3 : ¬ zt = zo := fun e => hne e.symm
      have m3 : insB (dB (D a)) zo zt x = true := by simp [insB, h2, n3]
      have m4 : insB (dB (D b)) zt zo x = false := by simp [insB, h2, n3]
      rw [m1, m2, m3, m4, b2i_t, b2i_f]; omega
    · have m3 : insB (dB (D a)) zo zt x = dB (D a) x := by simp [insB, h1, h2]
      have m4 : insB (dB (D b)) zt zo x = dB (D b) x := by simp [insB, h1, h2]
      rw [m3, m4]; omega
end
end Go.Kn

namespace Go.Kn
open Go Go.Proofs Go.RowKit

set_option maxRecDepth 100000 in
set_option maxHeartbeats 4000000 in
theorem lawsz_a (f : Int) (na oa pa : Option Addr) (ln cn lo co lp cp : Nat) (N : Nat → N2) (U : Nat → O3) (D : Nat → Dy) (zo zt fi se : Int) (w : World) (hls : ln ≤ maxLen) (hlt : lo ≤ maxLen) (H : Hid (Tr7 w na oa ln lo N U)) (K : Hid KnownOk) (HP : Hid (PlSl w pa lp D)) (hq : ¬ (ln ≤ 8 ∧ lo ≤ 10)) :
    Calls Tryz.prog 12 #[.agg #[.int .i64 f, .slice na ln cn, .slice oa lo co], .slice pa lp cp, .int .i64 zo, .int .i64 zt, .int .i64 fi, .int .i64 se] w
      fun e w' => e = .returned (.bool true) ∧ Below w.heap.size w w' := by
  have hsh : decide (ln ≤ 8 ∧ lo ≤ 10) = false := decide_eq_false hq
  have BX := Lib.hid (fun (w1 : World) (hb : Below (w.alloc (.cells #[.int .i64 f, .slice na ln cn, .slice oa lo co] 25)).heap.size (w.alloc (.cells #[.int .i64 f, .slice na ln cn, .slice oa lo co] 25)) w1) => box7 hb)
  have HN : Hid (∀ w1, Below (w.alloc (.cells #[.int .i64 f, .slice na ln cn, .slice oa lo co] 25)).heap.size (w.alloc (.cells #[.int .i64 f, .slice na ln cn, .slice oa lo co] 25)) w1 → Hid (Tr7 w1 na oa ln lo N U)) := Lib.hid fun w1 h => Lib.hid (H.out.below (below_al h))
  have hb : Below (w.alloc (.cells #[.int .i64 f, .slice na ln cn, .slice oa lo co] 25)).heap.size (w.alloc (.cells #[.int .i64 f, .slice na ln cn, .slice oa lo co] 25)) (w.alloc (.cells #[.int .i64 f, .slice na ln cn, .slice oa lo co] 25)) := Below.refl _ _
  obtain ⟨x1, x2, x3, x4⟩ := BX.out _ hb
  have HPP : Hid (∀ w1, Below (w.alloc (.cells #[.int .i64 f, .slice na ln cn, .slice oa lo co] 25)).heap.size (w.alloc (.cells #[.int .i64 f, .slice na ln cn, .slice oa lo co] 25)) w1 → Hid (PlSl w1 pa lp D)) := Lib.hid fun w1 h => Lib.hid (HP.out.below (below_al h))
  clear H HP
  go_enter Tryz.func12, Tryz.ntmps12
  go_wp2_with (first
    | (go_at_call 13; refine (short_w _ _ _ _ _ _ _ _ hls hlt).mono ?_; rw [hsh]; rintro e wl ⟨rfl, hv⟩; replace hb := hb.trans (hv.mono hb.size); clear x1 x2 x3 x4; obtain ⟨x1, x2, x3, x4⟩ := BX.out _ hb)
    | (go_at_call 14; refine (K.out _).mono ?_; rintro e wl ⟨rfl, hv⟩; replace hb := hb.trans (hv.mono hb.size); clear x1 x2 x3 x4; obtain ⟨x1, x2, x3, x4⟩ := BX.out _ hb))
  go_ret
  exact ⟨rfl, below_al hb⟩

set_option maxRecDepth 100000 in
set_option maxHeartbeats 4000000 in
theorem lawsz_b (f : Int) (na oa pa : Option Addr) (ln cn lo co lp cp : Nat) (N : Nat → N2) (U : Nat → O3) (D : Nat → Dy) (zo zt fi se : Int) (w : World) (hls : ln ≤ 1000000) (hlt : lo ≤ 1000000) (H : Hid (Tr7 w na oa ln lo N U)) (K : Hid KnownOk) (HP : Hid (PlSl w pa lp D)) (hq : ln ≤ 8 ∧ lo ≤ 10) (hlm : lp ≤ maxLen) (HSL : Hid ((decide (lp ≤ 12) && allN (fun d => decide ((D d).n ≤ 10)) lp) = false)) :
    Calls Tryz.prog 12 #[.agg #[.int .i64 f, .slice na ln cn, .slice oa lo co], .slice pa lp cp, .int .i64 zo, .int .i64 zt, .int .i64 fi, .int .i64 se] w
      fun e w' => e = .returned (.bool true) ∧ Below w.heap.size w w' := by
  have hsh : decide (ln ≤ 8 ∧ lo ≤ 10) = true := decide_eq_true hq
  have BX := Lib.hid (fun (w1 : World) (hb : Below (w.alloc (.cells #[.int .i64 f, .slice na ln cn, .slice oa lo co] 25)).heap.size (w.alloc (.cells #[.int .i64 f, .slice na ln cn, .slice oa lo co] 25)) w1) => box7 hb)
  have HN : Hid (∀ w1, Below (w.alloc (.cells #[.int .i64 f, .slice na ln cn, .slice oa lo co] 25)).heap.size (w.alloc (.cells #[.int .i64 f, .slice na ln cn, .slice oa lo co] 25)) w1 → Hid (Tr7 w1 na oa ln lo N U)) := Lib.hid fun w1 h => Lib.hid (H.out.below (below_al h))
  have hb : Below (w.alloc (.cells #[.int .i64 f, .slice na ln cn, .slice oa lo co] 25)).heap.size (w.alloc (.cells #[.int .i64 f, .slice na ln cn, .slice oa lo co] 25)) (w.alloc (.cells #[.int .i64 f, .slice na ln cn, .slice oa lo co] 25)) := Below.refl _ _
  obtain ⟨x1, x2, x3, x4⟩ := BX.out _ hb
  have HPP : Hid (∀ w1, Below (w.alloc (.cells #[.int .i64 f, .slice na ln cn, .slice oa lo co] 25)).heap.size (w.alloc (.cells #[.int .i64 f, .slice na ln cn, .slice oa lo co] 25)) w1 → Hid (PlSl w1 pa lp D)) := Lib.hid fun w1 h => Lib.hid (HP.out.below (below_al h))
  clear H HP
  go_enter Tryz.func12, Tryz.ntmps12
  go_wp2_with (first
    | (go_at_call 13; refine (short_w _ _ _ _ _ _ _ _ (by unfold maxLen; omega) (by unfold maxLen; omega)).mono ?_; rw [hsh]; rintro e wl ⟨rfl, hv⟩; replace hb := hb.trans (hv.mono hb.size); clear x1 x2 x3 x4; obtain ⟨x1, x2, x3, x4⟩ := BX.out _ hb)
    | (go_at_call 41; refine (slim_w pa lp cp D _ hlm (HPP.out _ hb)).mono ?_; rw [HSL.out]; rintro e wl ⟨rfl, rfl⟩)
    | (go_at_call 14; refine (K.out _).mono ?_; rintro e wl ⟨rfl, hv⟩; replace hb := hb.trans (hv.mono hb.size); clear x1 x2 x3 x4; obtain ⟨x1, x2, x3, x4⟩ := BX.out _ hb))
  go_ret
  exact ⟨rfl, below_al hb⟩

set_option maxRecDepth 100000 in
set_option maxHeartbeats 4000000 in
theorem lawsz_c1 (f : Int) (na oa pa : Option Addr) (ln cn lo co lp cp : Nat) (N : Nat → N2) (U : Nat → O3) (D : Nat → Dy) (zo zt fi se : Int) (w : World) (hls : ln ≤ 1000000) (hlt : lo ≤ 1000000) (H : Hid (Tr7 w na oa ln lo N U)) (K : Hid KnownOk) (HP : Hid (PlSl w pa lp D)) (HN10 : Hid (∀ d, d < lp → (D d).n ≤ 10)) (hlp : lp ≤ 12) (hq : ln ≤ 8 ∧ lo ≤ 10) (HR : Hid (¬ TreeS f ln lo N U))  :
    Calls Tryz.prog 12 #[.agg #[.int .i64 f, .slice na ln cn, .slice oa lo co], .slice pa lp cp, .int .i64 zo, .int .i64 zt, .int .i64 fi, .int .i64 se] w
      fun e w' => e = .returned (.bool true) ∧ Below w.heap.size w w' := by
  have hsh : decide (ln ≤ 8 ∧ lo ≤ 10) = true := decide_eq_true hq
  have HSL : Hid ((decide (lp ≤ 12) && allN (fun d => decide ((D d).n ≤ 10)) lp) = true) := Lib.hid (by rw [decide_eq_true hlp, Bool.true_and, allN_iff]; exact fun i hi => decide_eq_true (HN10.out i hi))
  have BX := Lib.hid (fun (w1 : World) (hb : Below (w.alloc (.cells #[.int .i64 f, .slice na ln cn, .slice oa lo co] 25)).heap.size (w.alloc (.cells #[.int .i64 f, .slice na ln cn, .slice oa lo co] 25)) w1) => box7 hb)
  have HN : Hid (∀ w1, Below (w.alloc (.cells #[.int .i64 f, .slice na ln cn, .slice oa lo co] 25)).heap.size (w.alloc (.cells #[.int .i64 f, .slice na ln cn, .slice oa lo co] 25)) w1 → Hid (Tr7 w1 na oa ln lo N U)) := Lib.hid fun w1 h => Lib.hid (H.out.below (below_al h))
  have hb : Below (w.alloc (.cells #[.int .i64 f, .slice na ln cn, .slice oa lo co] 25)).heap.size (w.alloc (.cells #[.int .i64 f, .slice na ln cn, .slice oa lo co] 25)) (w.alloc (.cells #[.int .i64 f, .slice na ln cn, .slice oa lo co] 25)) := Below.refl _ _
  obtain ⟨x1, x2, x3, x4⟩ := BX.out _ hb
  have HPP : Hid (∀ w1, Below (w.alloc (.cells #[.int .i64 f, .slice na ln cn, .slice oa lo co] 25)).heap.size (w.alloc (.cells #[.int .i64 f, .slice na ln cn, .slice oa lo co] 25)) w1 → Hid (PlSl w1 pa lp D)) := Lib.hid fun w1 h => Lib.hid (HP.out.below (below_al h))
  clear H HP
  go_enter Tryz.func12, Tryz.ntmps12
  go_wp2_with (first
    | (go_at_call 13; refine (short_w _ _ _ _ _ _ _ _ (by unfold maxLen; omega) (by unfold maxLen; omega)).mono ?_; rw [hsh]; rintro e wl ⟨rfl, hv⟩; replace hb := hb.trans (hv.mono hb.size); clear x1 x2 x3 x4; obtain ⟨x1, x2, x3, x4⟩ := BX.out _ hb)
    | (go_at_call 41; refine (slim_w pa lp cp D _ (by unfold maxLen; omega) (HPP.out _ hb)).mono ?_; rw [HSL.out]; rintro e wl ⟨rfl, rfl⟩)
    | (go_at_call 17; refine (tree_w _ _ _ _ _ _ _ N U _ hls hlt (HN.out _ hb)).mono ?_; rintro e wl ⟨⟨rb, rfl, hrb⟩, hv⟩; obtain rfl : rb = false := (by cases rb <;> first | rfl | exact (HR.out (hrb.1 rfl)).elim); clear hrb; replace hb := hb.trans (hv.mono hb.size); clear x1 x2 x3 x4; obtain ⟨x1, x2, x3, x4⟩ := BX.out _ hb)
    | (go_at_call 14; refine (K.out _).mono ?_; rintro e wl ⟨rfl, hv⟩; replace hb := hb.trans (hv.mono hb.size); clear x1 x2 x3 x4; obtain ⟨x1, x2, x3, x4⟩ := BX.out _ hb))
  go_ret
  exact ⟨rfl, below_al hb⟩

set_option maxRecDepth 100000 in
set_option maxHeartbeats 4000000 in
theorem lawsz_c2 (f : Int) (na oa pa : Option Addr) (ln cn lo co lp cp : Nat) (N : Nat → N2) (U : Nat → O3) (D : Nat → Dy) (zo zt fi se : Int) (w : World) (hls : ln ≤ 1000000) (hlt : lo ≤ 1000000) (H : Hid (Tr7 w na oa ln lo N U)) (K : Hid KnownOk) (HP : Hid (PlSl w pa lp D)) (HN10 : Hid (∀ d, d < lp → (D d).n ≤ 10)) (hlp : lp ≤ 12) (hq : ln ≤ 8 ∧ lo ≤ 10) (HR : Hid (TreeS f ln lo N U)) (HPB : Hid ((decide (lp ≤ 10) && allN (fun d => dayB lo (D d).s (D d).n) lp) = false))  :
    Calls Tryz.prog 12 #[.agg #[.int .i64 f, .slice na ln cn, .slice oa lo co], .slice pa lp cp, .int .i64 zo, .int .i64 zt, .int .i64 fi, .int .i64 se] w
      fun e w' => e = .returned (.bool true) ∧ Below w.heap.size w w' := by
  have hsh : decide (ln ≤ 8 ∧ lo ≤ 10) = true := decide_eq_true hq
  have HSL : Hid ((decide (lp ≤ 12) && allN (fun d => decide ((D d).n ≤ 10)) lp) = true) := Lib.hid (by rw [decide_eq_true hlp, Bool.true_and, allN_iff]; exact fun i hi => decide_eq_true (HN10.out i hi))
  have BX := Lib.hid (fun (w1 : World) (hb : Below (w.alloc (.cells #[.int .i64 f, .slice na ln cn, .slice oa lo co] 25)).heap.size (w.alloc (.cells #[.int .i64 f, .slice na ln cn, .slice oa lo co] 25)) w1) => box7 hb)
  have HN : Hid (∀ w1, Below (w.alloc (.cells #[.int .i64 f, .slice na ln cn, .slice oa lo co] 25)).heap.size (w.alloc (.cells #[.int .i64 f, .slice na ln cn, .slice oa lo co] 25)) w1 → Hid (Tr7 w1 na oa ln lo N U)) := Lib.hid fun w1 h => Lib.hid (H.out.below (below_al h))
  have hb : Below (w.alloc (.cells #[.int .i64 f, .slice na ln cn, .slice oa lo co] 25)).heap.size (w.alloc (.cells #[.int .i64 f, .slice na ln cn, .slice oa lo co] 25)) (w.alloc (.cells #[.int .i64 f, .slice na ln cn, .slice oa lo co] 25)) := Below.refl _ _
  obtain ⟨x1, x2, x3, x4⟩ := BX.out _ hb
  have HPP : Hid (∀ w1, Below (w.alloc (.cells #[.int .i64 f, .slice na ln cn, .slice oa lo co] 25)).heap.size (w.alloc (.cells #[.int .i64 f, .slice na ln cn, .slice oa lo co] 25)) w1 → Hid (PlSl w1 pa lp D)) := Lib.hid fun w1 h => Lib.hid (HP.out.below (below_al h))
  clear H HP
  go_enter Tryz.func12, Tryz.ntmps12
  go_wp2_with (first
    | (go_at_call 13; refine (short_w _ _ _ _ _ _ _ _ (by unfold maxLen; omega) (by unfold maxLen; omega)).mono ?_; rw [hsh]; rintro e wl ⟨rfl, hv⟩; replace hb := hb.trans (hv.mono hb.size); clear x1 x2 x3 x4; obtain ⟨x1, x2, x3, x4⟩ := BX.out _ hb)
    | (go_at_call 41; refine (slim_w pa lp cp D _ (by unfold maxLen; omega) (HPP.out _ hb)).mono ?_; rw [HSL.out]; rintro e wl ⟨rfl, rfl⟩)
    | (go_at_call 17; refine (tree_w _ _ _ _ _ _ _ N U _ hls hlt (HN.out _ hb)).mono ?_; rintro e wl ⟨⟨rb, rfl, hrb⟩, hv⟩; obtain rfl : rb = true := hrb.2 HR.out; clear hrb; replace hb := hb.trans (hv.mono hb.size); clear x1 x2 x3 x4; obtain ⟨x1, x2, x3, x4⟩ := BX.out _ hb)
    | (go_at_call 46; refine (rplan_w f na oa pa ln cn lo co lp cp D _ hlt (by omega) (Lib.hid fun d hd => by have := HN10.out d hd; omega) (HPP.out _ hb)).mono ?_; rw [HPB.out]; rintro e wl ⟨rfl, hv⟩; replace hb := hb.trans (hv.mono hb.size); clear x1 x2 x3 x4; obtain ⟨x1, x2, x3, x4⟩ := BX.out _ hb)
    | (go_at_call 14; refine (K.out _).mono ?_; rintro e wl ⟨rfl, hv⟩; replace hb := hb.trans (hv.mono hb.size); clear x1 x2 x3 x4; obtain ⟨x1, x2, x3, x4⟩ := BX.out _ hb))
  go_ret
  exact ⟨rfl, below_al hb⟩

set_option maxRecDepth 100000 in
set_option maxHeartbeats 4000000 in
theorem lawsz_c3 (f : Int) (na oa pa : Option Addr) (ln cn lo co lp cp : Nat) (N : Nat → N2) (U : Nat → O3) (D : Nat → Dy) (zo zt fi se : Int) (w : World) (hls : ln ≤ 1000000) (hlt : lo ≤ 1000000) (H : Hid (Tr7 w na oa ln lo N U)) (K : Hid KnownOk) (HP : Hid (PlSl w pa lp D)) (HN10 : Hid (∀ d, d < lp → (D d).n ≤ 10)) (hlp : lp ≤ 12) (hq : ln ≤ 8 ∧ lo ≤ 10) (HR : Hid (TreeS f ln lo N U)) (HPB : Hid ((decide (lp ≤ 10) && allN (fun d => dayB lo (D d).s (D d).n) lp) = true)) (HRB : Hid (allN (fun d => runD f ln lo N U (D d)) lp = false))  :
    Calls Tryz.prog 12 #[.agg #[.int .i64 f, .slice na ln cn, .slice oa lo co], .slice pa lp cp, .int .i64 zo, .int .i64 zt, .int .i64 fi, .int .i64 se] w
      fun e w' => e = .returned (.bool true) ∧ Below w.heap.size w w' := by
  have hsh : decide (ln ≤ 8 ∧ lo ≤ 10) = true := decide_eq_true hq
  have HSL : Hid ((decide (lp ≤ 12) && allN (fun d => decide ((D d).n ≤ 10)) lp) = true) := Lib.hid (by rw [decide_eq_true hlp, Bool.true_and, allN_iff]; exact fun i hi => decide_eq_true (HN10.out i hi))
  have HLS : Hid (∀ d, d < lp → (D d).n ≤ 1000000 ∧ LsP lo (D d).n (D d).s) := Lib.hid fun d hd => by
    have h := HPB.out
    simp only [Bool.and_eq_true] at h
    exact ⟨by have := HN10.out d hd; omega, dayB_ls ((allN_iff lp).1 h.2 d hd)⟩
  have BX := Lib.hid (fun (w1 : World) (hb : Below (w.alloc (.cells #[.int .i64 f, .slice na ln cn, .slice oa lo co] 25)).heap.size (w.alloc (.cells #[.int .i64 f, .slice na ln cn, .slice oa lo co] 25)) w1) => box7 hb)
  have HN : Hid (∀ w1, Below (w.alloc (.cells #[.int .i64 f, .slice na ln cn, .slice oa lo co] 25)).heap.size (w.alloc (.cells #[.int .i64 f, .slice na ln cn, .slice oa lo co] 25)) w1 → Hid (Tr7 w1 na oa ln lo N U)) := Lib.hid fun w1 h => Lib.hid (H.out.below (below_al h))
  have hb : Below (w.alloc (.cells #[.int .i64 f, .slice na ln cn, .slice oa lo co] 25)).heap.size (w.alloc (.cells #[.int .i64 f, .slice na ln cn, .slice oa lo co] 25)) (w.alloc (.cells #[.int .i64 f, .slice na ln cn, .slice oa lo co] 25)) := Below.refl _ _
  obtain ⟨x1, x2, x3, x4⟩ := BX.out _ hb
  have HPP : Hid (∀ w1, Below (w.alloc (.cells #[.int .i64 f, .slice na ln cn, .slice oa lo co] 25)).heap.size (w.alloc (.cells #[.int .i64 f, .slice na ln cn, .slice oa lo co] 25)) w1 → Hid (PlSl w1 pa lp D)) := Lib.hid fun w1 h => Lib.hid (HP.out.below (below_al h))
  clear H HP
  go_enter Tryz.func12, Tryz.ntmps12
  go_wp2_with (first
    | (go_at_call 13; refine (short_w _ _ _ _ _ _ _ _ (by unfold maxLen; omega) (by unfold maxLen; omega)).mono ?_; rw [hsh]; rintro e wl ⟨rfl, hv⟩; replace hb := hb.trans (hv.mono hb.size); clear x1 x2 x3 x4; obtain ⟨x1, x2, x3, x4⟩ := BX.out _ hb)
    | (go_at_call 41; refine (slim_w pa lp cp D _ (by unfold maxLen; omega) (HPP.out _ hb)).mono ?_; rw [HSL.out]; rintro e wl ⟨rfl, rfl⟩)
    | (go_at_call 17; refine (tree_w _ _ _ _ _ _ _ N U _ hls hlt (HN.out _ hb)).mono ?_; rintro e wl ⟨⟨rb, rfl, hrb⟩, hv⟩; obtain rfl : rb = true := hrb.2 HR.out; clear hrb; replace hb := hb.trans (hv.mono hb.size); clear x1 x2 x3 x4; obtain ⟨x1, x2, x3, x4⟩ := BX.out _ hb)
    | (go_at_call 46; refine (rplan_w f na oa pa ln cn lo co lp cp D _ hlt (by omega) (Lib.hid fun d hd => by have := HN10.out d hd; omega) (HPP.out _ hb)).mono ?_; rw [HPB.out]; rintro e wl ⟨rfl, hv⟩; replace hb := hb.trans (hv.mono hb.size); clear x1 x2 x3 x4; obtain ⟨x1, x2, x3, x4⟩ := BX.out _ hb)
    | (go_at_call 47; refine (rruns_w f na oa pa ln cn lo co lp cp N U D _ (by omega) HLS (HPP.out _ hb) (Lib.hid HR.out.w) (HN.out _ hb)).mono ?_; rw [HRB.out]; rintro e wl ⟨rfl, hv⟩; replace hb := hb.trans (hv.mono hb.size); clear x1 x2 x3 x4; obtain ⟨x1, x2, x3, x4⟩ := BX.out _ hb)
    | (go_at_call 14; refine (K.out _).mono ?_; rintro e wl ⟨rfl, hv⟩; replace hb := hb.trans (hv.mono hb.size); clear x1 x2 x3 x4; obtain ⟨x1, x2, x3, x4⟩ := BX.out _ hb))
  go_ret
  exact ⟨rfl, below_al hb⟩

set_option maxRecDepth 100000 in
set_option maxHeartbeats 4000000 in
theorem lawsz_c4 (f : Int) (na oa pa : Option Addr) (ln cn lo co lp cp : Nat) (N : Nat → N2) (U : Nat → O3) (D : Nat → Dy) (zo zt fi se : Int) (w : World) (hls : ln ≤ 1000000) (hlt : lo ≤ 1000000) (H : Hid (Tr7 w na oa ln lo N U)) (K : Hid KnownOk) (HP : Hid (PlSl w pa lp D)) (HN10 : Hid (∀ d, d < lp → (D d).n ≤ 10)) (hlp : lp ≤ 12) (hq : ln ≤ 8 ∧ lo ≤ 10) (HR : Hid (TreeS f ln lo N U)) (HPB : Hid ((decide (lp ≤ 10) && allN (fun d => dayB lo (D d).s (D d).n) lp) = true)) (HRB : Hid (allN (fun d => runD f ln lo N U (D d)) lp = true)) (HO : Hid (fromB 0 ((lo : Int) - 1) zo = false))  :
    Calls Tryz.prog 12 #[.agg #[.int .i64 f, .slice na ln cn, .slice oa lo co], .slice pa lp cp, .int .i64 zo, .int .i64 zt, .int .i64 fi, .int .i64 se] w
      fun e w' => e = .returned (.bool true) ∧ Below w.heap.size w w' := by
  have hsh : decide (ln ≤ 8 ∧ lo ≤ 10) = true := decide_eq_true hq
  have HSL : Hid ((decide (lp ≤ 12) && allN (fun d => decide ((D d).n ≤ 10)) lp) = true) := Lib.hid (by rw [decide_eq_true hlp, Bool.true_and, allN_iff]; exact fun i hi => decide_eq_true (HN10.out i hi))
  have HLS : Hid (∀ d, d < lp → (D d).n ≤ 1000000 ∧ LsP lo (D d).n (D d).s) := Lib.hid fun d hd => by
    have h := HPB.out
    simp only [Bool.and_eq_true] at h
    exact ⟨by have := HN10.out d hd; omega, dayB_ls ((allN_iff lp).1 h.2 d hd)⟩
  have BX := Lib.hid (fun (w1 : World) (hb : Below (w.alloc (.cells #[.int .i64 f, .slice na ln cn, .slice oa lo co] 25)).heap.size (w.alloc (.cells #[.int .i64 f, .slice na ln cn, .slice oa lo co] 25)) w1) => box7 hb)
  have HN : Hid (∀ w1, Below (w.alloc (.cells #[.int .i64 f, .slice na ln cn, .slice oa lo co] 25)).heap.size (w.alloc (.cells #[.int .i64 f, .slice na ln cn, .slice oa lo co] 25)) w1 → Hid (Tr7 w1 na oa ln lo N U)) := Lib.hid fun w1 h => Lib.hid (H.out.below (below_al h))
  have hb : Below (w.alloc (.cells #[.int .i64 f, .slice na ln cn, .slice oa lo co] 25)).heap.size (w.alloc (.cells #[.int .i64 f, .slice na ln cn, .slice oa lo co] 25)) (w.alloc (.cells #[.int .i64 f, .slice na ln cn, .slice oa lo co] 25)) := Below.refl _ _
  obtain ⟨x1, x2, x3, x4⟩ := BX.out _ hb
  have HPP : Hid (∀ w1, Below (w.alloc (.cells #[.int .i64 f, .slice na ln cn, .slice oa lo co] 25)).heap.size (w.alloc (.cells #[.int .i64 f, .slice na ln cn, .slice oa lo co] 25)) w1 → Hid (PlSl w1 pa lp D)) := Lib.hid fun w1 h => Lib.hid (HP.out.below (below_al h))
  clear H HP
  go_enter Tryz.func12, Tryz.ntmps12
  go_wp2_with (first
    | (go_at_call 13; refine (short_w _ _ _ _ _ _ _ _ (by unfold maxLen; omega) (by unfold maxLen; omega)).mono ?_; rw [hsh]; rintro e wl ⟨rfl, hv⟩; replace hb := hb.trans (hv.mono hb.size); clear x1 x2 x3 x4; obtain ⟨x1, x2, x3, x4⟩ := BX.out _ hb)
    | (go_at_call 41; refine (slim_w pa lp cp D _ (by unfold maxLen; omega) (HPP.out _ hb)).mono ?_; rw [HSL.out]; rintro e wl ⟨rfl, rfl⟩)
    | (go_at_call 17; refine (tree_w _ _ _ _ _ _ _ N U _ hls hlt (HN.out _ hb)).mono ?_; rintro e wl ⟨⟨rb, rfl, hrb⟩, hv⟩; obtain rfl : rb = true := hrb.2 HR.out; clear hrb; replace hb := hb.trans (hv.mono hb.size); clear x1 x2 x3 x4; obtain ⟨x1, x2, x3, x4⟩ := BX.out _ hb)
    | (go_at_call 46; refine (rplan_w f na oa pa ln cn lo co lp cp D _ hlt (by omega) (Lib.hid fun d hd => by have := HN10.out d hd; omega) (HPP.out _ hb)).mono ?_; rw [HPB.out]; rintro e wl ⟨rfl, hv⟩; replace hb := hb.trans (hv.mono hb.size); clear x1 x2 x3 x4; obtain ⟨x1, x2, x3, x4⟩ := BX.out _ hb)
    | (go_at_call 47; refine (rruns_w f na oa pa ln cn lo co lp cp N U D _ (by omega) HLS (HPP.out _ hb) (Lib.hid HR.out.w) (HN.out _ hb)).mono ?_; rw [HRB.out]; rintro e wl ⟨rfl, hv⟩; replace hb := hb.trans (hv.mono hb.size); clear x1 x2 x3 x4; obtain ⟨x1, x2, x3, x4⟩ := BX.out _ hb)
    | (go_at_call_of 33 zo; refine (outlet_w f zo na oa ln cn lo co _ hlt).mono ?_; rw [HO.out]; rintro e wl ⟨rfl, hv⟩; replace hb := hb.trans (hv.mono hb.size); clear x1 x2 x3 x4; obtain ⟨x1, x2, x3, x4⟩ := BX.out _ hb)
    | (go_at_call 14; refine (K.out _).mono ?_; rintro e wl ⟨rfl, hv⟩; replace hb := hb.trans (hv.mono hb.size); clear x1 x2 x3 x4; obtain ⟨x1, x2, x3, x4⟩ := BX.out _ hb))
  go_ret
  exact ⟨rfl, below_al hb⟩

set_option maxRecDepth 100000 in
set_option maxHeartbeats 4000000 in
theorem lawsz_c5 (f : Int) (na oa pa : Option Addr) (ln cn lo co lp cp : Nat) (N : Nat → N2) (U : Nat → O3) (D : Nat → Dy) (zo zt fi se : Int) (w : World) (hls : ln ≤ 1000000) (hlt : lo ≤ 1000000) (H : Hid (Tr7 w na oa ln lo N U)) (K : Hid KnownOk) (HP : Hid (PlSl w pa lp D)) (HN10 : Hid (∀ d, d < lp → (D d).n ≤ 10)) (hlp : lp ≤ 12) (hq : ln ≤ 8 ∧ lo ≤ 10) (HR : Hid (TreeS f ln lo N U)) (HPB : Hid ((decide (lp ≤ 10) && allN (fun d => dayB lo (D d).s (D d).n) lp) = true)) (HRB : Hid (allN (fun d => runD f ln lo N U (D d)) lp = true)) (HO : Hid (fromB 0 ((lo : Int) - 1) zo = true)) (HT : Hid (fromB 0 ((lo : Int) - 1) zt = false))  :
    Calls Tryz.prog 12 #[.agg #[.int .i64 f, .slice na ln cn, .slice oa lo co], .slice pa lp cp, .int .i64 zo, .int .i64 zt, .int .i64 fi, .int .i64 se] w
      fun e w' => e = .returned (.bool true) ∧ Below w.heap.size w w' := by
  have hsh : decide (ln ≤ 8 ∧ lo ≤ 10) = true := decide_eq_true hq
  have HSL : Hid ((decide (lp ≤ 12) && allN (fun d => decide ((D d).n ≤ 10)) lp) = true) := Lib.hid (by rw [decide_eq_true hlp, Bool.true_and, allN_iff]; exact fun i hi => decide_eq_true (HN10.out i hi))
  have HLS : Hid (∀ d, d < lp → (D d).n ≤ 1000000 ∧ LsP lo (D d).n (D d).s) := Lib.hid fun d hd => by
    have h := HPB.out
    simp only [Bool.and_eq_true] at h
    exact ⟨by have := HN10.out d hd; omega, dayB_ls ((allN_iff lp).1 h.2 d hd)⟩
  have BX := Lib.hid (fun (w1 : World) (hb : Below (w.alloc (.cells #[.int .i64 f, .slice na ln cn, .slice oa lo co] 25)).heap.size (w.alloc (.cells #[.int .i64 f, .slice na ln cn, .slice oa lo co] 25)) w1) => box7 hb)
  have HN : Hid (∀ w1, Below (w.alloc (.cells #[.int .i64 f, .slice na ln cn, .slice oa lo co] 25)).heap.size (w.alloc (.cells #[.int .i64 f, .slice na ln cn, .slice oa lo co] 25)) w1 → Hid (Tr7 w1 na oa ln lo N U)) := Lib.hid fun w1 h => Lib.hid (H.out.below (below_al h))
  have hb : Below (w.alloc (.cells #[.int .i64 f, .slice na ln cn, .slice oa lo co] 25)).heap.size (w.alloc (.cells #[.int .i64 f, .slice na ln cn, .slice oa lo co] 25)) (w.alloc (.cells #[.int .i64 f, .slice na ln cn, .slice oa lo co] 25)) := Below.refl _ _
  obtain ⟨x1, x2, x3, x4⟩ := BX.out _ hb
  have HPP : Hid (∀ w1, Below (w.alloc (.cells #[.int .i64 f, .slice na ln cn, .slice oa lo co] 25)).heap.size (w.alloc (.cells #[.int .i64 f, .slice na ln cn, .slice oa lo co] 25)) w1 → Hid (PlSl w1 pa lp D)) := Lib.hid fun w1 h => Lib.hid (HP.out.below (below_al h))
  clear H HP
  go_enter Tryz.func12, Tryz.ntmps12
  go_wp2_with (first
    | (go_at_call 13; refine (short_w _ _ _ _ _ _ _ _ (by unfold maxLen; omega) (by unfold maxLen; omega)).mono ?_; rw [hsh]; rintro e wl ⟨rfl, hv⟩; replace hb := hb.trans (hv.mono hb.size); clear x1 x2 x3 x4; obtain ⟨x1, x2, x3, x4⟩ := BX.out _ hb)
    | (go_at_call 41; refine (slim_w pa lp cp D _ (by unfold maxLen; omega) (HPP.out _ hb)).mono ?_; rw [HSL.out]; rintro e wl ⟨rfl, rfl⟩)
    | (go_at_call 17; refine (tree_w _ _ _ _ _ _ _ N U _ hls hlt (HN.out _ hb)).mono ?_; rintro e wl ⟨⟨rb, rfl, hrb⟩, hv⟩; obtain rfl : rb = true := hrb.2 HR.out; clear hrb; replace hb := hb.trans (hv.mono hb.size); clear x1 x2 x3 x4; obtain ⟨x1, x2, x3, x4⟩ := BX.out _ hb)
    | (go_at_call 46; refine (rplan_w f na oa pa ln cn lo co lp cp D _ hlt (by omega) (Lib.hid fun d hd => by have := HN10.out d hd; omega) (HPP.out _ hb)).mono ?_; rw [HPB.out]; rintro e wl ⟨rfl, hv⟩; replace hb := hb.trans (hv.mono hb.size); clear x1 x2 x3 x4; obtain ⟨x1, x2, x3, x4⟩ := BX.out _ hb)
    | (go_at_call 47; refine (rruns_w f na oa pa ln cn lo co lp cp N U D _ (by omega) HLS (HPP.out _ hb) (Lib.hid HR.out.w) (HN.out _ hb)).mono ?_; rw [HRB.out]; rintro e wl ⟨rfl, hv⟩; replace hb := hb.trans (hv.mono hb.size); clear x1 x2 x3 x4; obtain ⟨x1, x2, x3, x4⟩ := BX.out _ hb)
    | (go_at_call_of 33 zo; refine (outlet_w f zo na oa ln cn lo co _ hlt).mono ?_; rw [HO.out]; rintro e wl ⟨rfl, hv⟩; replace hb := hb.trans (hv.mono hb.size); clear x1 x2 x3 x4; obtain ⟨x1, x2, x3, x4⟩ := BX.out _ hb)
    | (go_at_call_of 33 zt; refine (outlet_w f zt na oa ln cn lo co _ hlt).mono ?_; rw [HT.out]; rintro e wl ⟨rfl, hv⟩; replace hb := hb.trans (hv.mono hb.size); clear x1 x2 x3 x4; obtain ⟨x1, x2, x3, x4⟩ := BX.out _ hb)
    | (go_at_call 14; refine (K.out _).mono ?_; rintro e wl ⟨rfl, hv⟩; replace hb := hb.trans (hv.mono hb.size); clear x1 x2 x3 x4; obtain ⟨x1, x2, x3, x4⟩ := BX.out _ hb))
  go_ret
  exact ⟨rfl, below_al hb⟩

set_option maxRecDepth 100000 in
set_option maxHeartbeats 4000000 in
theorem lawsz_c6 (f : Int) (na oa pa : Option Addr) (ln cn lo co lp cp : Nat) (N : Nat → N2) (U : Nat → O3) (D : Nat → Dy) (zo zt fi se : Int) (w : World) (hls : ln ≤ 1000000) (hlt : lo ≤ 1000000) (H : Hid (Tr7 w na oa ln lo N U)) (K : Hid KnownOk) (HP : Hid (PlSl w pa lp D)) (HN10 : Hid (∀ d, d < lp → (D d).n ≤ 10)) (hlp : lp ≤ 12) (hq : ln ≤ 8 ∧ lo ≤ 10) (HR : Hid (TreeS f ln lo N U)) (HPB : Hid ((decide (lp ≤ 10) && allN (fun d => dayB lo (D d).s (D d).n) lp) = true)) (HRB : Hid (allN (fun d => runD f ln lo N U (D d)) lp = true)) (HO : Hid (fromB 0 ((lo : Int) - 1) zo = true)) (HT : Hid (fromB 0 ((lo : Int) - 1) zt = true)) (heq : zo = zt)  :
    Calls Tryz.prog 12 #[.agg #[.int .i64 f, .slice na ln cn, .slice oa lo co], .slice pa lp cp, .int .i64 zo, .int .i64 zt, .int .i64 fi, .int .i64 se] w
      fun e w' => e = .returned (.bool true) ∧ Below w.heap.size w w' := by
  have hsh : decide (ln ≤ 8 ∧ lo ≤ 10) = true := decide_eq_true hq
  have HSL : Hid ((decide (lp ≤ 12) && allN (fun d => decide ((D d).n ≤ 10)) lp) = true) := Lib.hid (by rw [decide_eq_true hlp, Bool.true_and, allN_iff]; exact fun i hi => decide_eq_true (HN10.out i hi))
  have HLS : Hid (∀ d, d < lp → (D d).n ≤ 1000000 ∧ LsP lo (D d).n (D d).s) := Lib.hid fun d hd => by
    have h := HPB.out
    simp only [Bool.and_eq_true] at h
    exact ⟨by have := HN10.out d hd; omega, dayB_ls ((allN_iff lp).1 h.2 d hd)⟩
  have q0 : (zo == zt) = true := by rw [beq_iff_eq]; exact heq
  have HEQ := Lib.hid heq
  clear heq
  have BX := Lib.hid (fun (w1 : World) (hb : Below (w.alloc (.cells #[.int .i64 f, .slice na ln cn, .slice oa lo co] 25)).heap.size (w.alloc (.cells #[.int .i64 f, .slice na ln cn, .slice oa lo co] 25)) w1) => box7 hb)
  have HN : Hid (∀ w1, Below (w.alloc (.cells #[.int .i64 f, .slice na ln cn, .slice oa lo co] 25)).heap.size (w.alloc (.cells #[.int .i64 f, .slice na ln cn, .slice oa lo co] 25)) w1 → Hid (Tr7 w1 na oa ln lo N U)) := Lib.hid fun w1 h => Lib.hid (H.out.below (below_al h))
  have hb : Below (w.alloc (.cells #[.int .i64 f, .slice na ln cn, .slice oa lo co] 25)).heap.size (w.alloc (.cells #[.int .i64 f, .slice na ln cn, .slice oa lo co] 25)) (w.alloc (.cells #[.int .i64 f, .slice na ln cn, .slice oa lo co] 25)) := Below.refl _ _
  obtain ⟨x1, x2, x3, x4⟩ := BX.out _ hb
  have HPP : Hid (∀ w1, Below (w.alloc (.cells #[.int .i64 f, .slice na ln cn, .slice oa lo co] 25)).heap.size (w.alloc (.cells #[.int .i64 f, .slice na ln cn, .slice oa lo co] 25)) w1 → Hid (PlSl w1 pa lp D)) := Lib.hid fun w1 h => Lib.hid (HP.out.below (below_al h))
  clear H HP
  go_enter Tryz.func12, Tryz.ntmps12
  go_wp2_with (first
    | (go_at_call 13; refine (short_w _ _ _ _ _ _ _ _ (by unfold maxLen; omega) (by unfold maxLen; omega)).mono ?_; rw [hsh]; rintro e wl ⟨rfl, hv⟩; replace hb := hb.trans (hv.mono hb.size); clear x1 x2 x3 x4; obtain ⟨x1, x2, x3, x4⟩ := BX.out _ hb)
    | (go_at_call 41; refine (slim_w pa lp cp D _ (by unfold maxLen; omega) (HPP.out _ hb)).mono ?_; rw [HSL.out]; rintro e wl ⟨rfl, rfl⟩)
    | (go_at_call 17; refine (tree_w _ _ _ _ _ _ _ N U _ hls hlt (HN.out _ hb)).mono ?_; rintro e wl ⟨⟨rb, rfl, hrb⟩, hv⟩; obtain rfl : rb = true := hrb.2 HR.out; clear hrb; replace hb := hb.trans (hv.mono hb.size); clear x1 x2 x3 x4; obtain ⟨x1, x2, x3, x4⟩ := BX.out _ hb)
    | (go_at_call 46; refine (rplan_w f na oa pa ln cn lo co lp cp D _ hlt (by omega) (Lib.hid fun d hd => by have := HN10.out d hd; omega) (HPP.out _ hb)).mono ?_; rw [HPB.out]; rintro e wl ⟨rfl, hv⟩; replace hb := hb.trans (hv.mono hb.size); clear x1 x2 x3 x4; obtain ⟨x1, x2, x3, x4⟩ := BX.out _ hb)
    | (go_at_call 47; refine (rruns_w f na oa pa ln cn lo co lp cp N U D _ (by omega) HLS (HPP.out _ hb) (Lib.hid HR.out.w) (HN.out _ hb)).mono ?_; rw [HRB.out]; rintro e wl ⟨rfl, hv⟩; replace hb := hb.trans (hv.mono hb.size); clear x1 x2 x3 x4; obtain ⟨x1, x2, x3, x4⟩ := BX.out _ hb)
    | (go_at_call_of 33 zo; refine (outlet_w f zo na oa ln cn lo co _ hlt).mono ?_; rw [HO.out]; rintro e wl ⟨rfl, hv⟩; replace hb := hb.trans (hv.mono hb.size); clear x1 x2 x3 x4; obtain ⟨x1, x2, x3, x4⟩ := BX.out _ hb)
    | (go_at_call_of 33 zt; refine (outlet_w f zt na oa ln cn lo co _ hlt).mono ?_; rw [HT.out]; rintro e wl ⟨rfl, hv⟩; replace hb := hb.trans (hv.mono hb.size); clear x1 x2 x3 x4; obtain ⟨x1, x2, x3, x4⟩ := BX.out _ hb)
    | (go_at_call 14; refine (K.out _).mono ?_; rintro e wl ⟨rfl, hv⟩; replace hb := hb.trans (hv.mono hb.size); clear x1 x2 x3 x4; obtain ⟨x1, x2, x3, x4⟩ := BX.out _ hb))
  go_ret
  exact ⟨rfl, below_al hb⟩

set_option maxRecDepth 100000 in
set_option maxHeartbeats 4000000 in
theorem lawsz_c7 (f : Int) (na oa pa : Option Addr) (ln cn lo co lp cp : Nat) (N : Nat → N2) (U : Nat → O3) (D : Nat → Dy) (zo zt fi se : Int) (w : World) (hls : ln ≤ 1000000) (hlt : lo ≤ 1000000) (H : Hid (Tr7 w na oa ln lo N U)) (K : Hid KnownOk) (HP : Hid (PlSl w pa lp D)) (HN10 : Hid (∀ d, d < lp → (D d).n ≤ 10)) (hlp : lp ≤ 12) (hq : ln ≤ 8 ∧ lo ≤ 10) (HR : Hid (TreeS f ln lo N U)) (HPB : Hid ((decide (lp ≤ 10) && allN (fun d => dayB lo (D d).s (D d).n) lp) = true)) (HRB : Hid (allN (fun d => runD f ln lo N U (D d)) lp = true)) (HO : Hid (fromB 0 ((lo : Int) - 1) zo = true)) (HT : Hid (fromB 0 ((lo : Int) - 1) zt = true)) (heq : zo ≠ zt) (h1 : fi < 0) :
    Calls Tryz.prog 12 #[.agg #[.int .i64 f, .slice na ln cn, .slice oa lo co], .slice pa lp cp, .int .i64 zo, .int .i64 zt, .int .i64 fi, .int .i64 se] w
      fun e w' => e = .returned (.bool true) ∧ Below w.heap.size w w' := by
  have hsh : decide (ln ≤ 8 ∧ lo ≤ 10) = true := decide_eq_true hq
  have HSL : Hid ((decide (lp ≤ 12) && allN (fun d => decide ((D d).n ≤ 10)) lp) = true) := Lib.hid (by rw [decide_eq_true hlp, Bool.true_and, allN_iff]; exact fun i hi => decide_eq_true (HN10.out i hi))
  have HLS : Hid (∀ d, d < lp → (D d).n ≤ 1000000 ∧ LsP lo (D d).n (D d).s) := Lib.hid fun d hd => by
    have h := HPB.out
    simp only [Bool.and_eq_true] at h
    exact ⟨by have := HN10.out d hd; omega, dayB_ls ((allN_iff lp).1 h.2 d hd)⟩
  have q0 : (zo == zt) = false := by rw [beq_eq_false_iff_ne]; exact heq
  have HEQ := Lib.hid heq
  clear heq
  have BX := Lib.hid (fun (w1 : World) (hb : Below (w.alloc (.cells #[.int .i64 f, .slice na ln cn, .slice oa lo co] 25)).heap.size (w.alloc (.cells #[.int .i64 f, .slice na ln cn, .slice oa lo co] 25)) w1) => box7 hb)
  have HN : Hid (∀ w1, Below (w.alloc (.cells #[.int .i64 f, .slice na ln cn, .slice oa lo co] 25)).heap.size (w.alloc (.cells #[.int .i64 f, .slice na ln cn, .slice oa lo co] 25)) w1 → Hid (Tr7 w1 na oa ln lo N U)) := Lib.hid fun w1 h => Lib.hid (H.out.below (below_al h))
  have hb : Below (w.alloc (.cells #[.int .i64 f, .slice na ln cn, .slice oa lo co] 25)).heap.size (w.alloc (.cells #[.int .i64 f, .slice na ln cn, .slice oa lo co] 25)) (w.alloc (.cells #[.int .i64 f, .slice na ln cn, .slice oa lo co] 25)) := Below.refl _ _
  obtain ⟨x1, x2, x3, x4⟩ := BX.out _ hb
  have HPP : Hid (∀ w1, Below (w.alloc (.cells #[.int .i64 f, .slice na ln cn, .slice oa lo co] 25)).heap.size (w.alloc (.cells #[.int .i64 f, .slice na ln cn, .slice oa lo co] 25)) w1 → Hid (PlSl w1 pa lp D)) := Lib.hid fun w1 h => Lib.hid (HP.out.below (below_al h))
  clear H HP
  go_enter Tryz.func12, Tryz.ntmps12
  go_wp2_with (first
    | (go_at_call 13; refine (short_w _ _ _ _ _ _ _ _ (by unfold maxLen; omega) (by unfold maxLen; omega)).mono ?_; rw [hsh]; rintro e wl ⟨rfl, hv⟩; replace hb := hb.trans (hv.mono hb.size); clear x1 x2 x3 x4; obtain ⟨x1, x2, x3, x4⟩ := BX.out _ hb)
    | (go_at_call 41; refine (slim_w pa lp cp D _ (by unfold maxLen; omega) (HPP.out _ hb)).mono ?_; rw [HSL.out]; rintro e wl ⟨rfl, rfl⟩)
    | (go_at_call 17; refine (tree_w _ _ _ _ _ _ _ N U _ hls hlt (HN.out _ hb)).mono ?_; rintro e wl ⟨⟨rb, rfl, hrb⟩, hv⟩; obtain rfl : rb = true := hrb.2 HR.out; clear hrb; replace hb := hb.trans (hv.mono hb.size); clear x1 x2 x3 x4; obtain ⟨x1, x2, x3, x4⟩ := BX.out _ hb)
    | (go_at_call 46; refine (rplan_w f na oa pa ln cn lo co lp cp D _ hlt (by omega) (Lib.hid fun d hd => by have := HN10.out d hd; omega) (HPP.out _ hb)).mono ?_; rw [HPB.out]; rintro e wl ⟨rfl, hv⟩; replace hb := hb.trans (hv.mono hb.size); clear x1 x2 x3 x4; obtain ⟨x1, x2, x3, x4⟩ := BX.out _ hb)
    | (go_at_call 47; refine (rruns_w f na oa pa ln cn lo co lp cp N U D _ (by omega) HLS (HPP.out _ hb) (Lib.hid HR.out.w) (HN.out _ hb)).mono ?_; rw [HRB.out]; rintro e wl ⟨rfl, hv⟩; replace hb := hb.trans (hv.mono hb.size); clear x1 x2 x3 x4; obtain ⟨x1, x2, x3, x4⟩ := BX.out _ hb)
    | (go_at_call_of 33 zo; refine (outlet_w f zo na oa ln cn lo co _ hlt).mono ?_; rw [HO.out]; rintro e wl ⟨rfl, hv⟩; replace hb := hb.trans (hv.mono hb.size); clear x1 x2 x3 x4; obtain ⟨x1, x2, x3, x4⟩ := BX.out _ hb)
    | (go_at_call_of 33 zt; refine (outlet_w f zt na oa ln cn lo co _ hlt).mono ?_; rw [HT.out]; rintro e wl ⟨rfl, hv⟩; replace hb := hb.trans (hv.mono hb.size); clear x1 x2 x3 x4; obtain ⟨x1, x2, x3, x4⟩ := BX.out _ hb)
    | (go_at_call 14; refine (K.out _).mono ?_; rintro e wl ⟨rfl, hv⟩; replace hb := hb.trans (hv.mono hb.size); clear x1 x2 x3 x4; obtain ⟨x1, x2, x3, x4⟩ := BX.out _ hb))
  go_ret
  exact ⟨rfl, below_al hb⟩

set_option maxRecDepth 100000 in
set_option maxHeartbeats 4000000 in
theorem lawsz_c8 (f : Int) (na oa pa : Option Addr) (ln cn lo co lp cp : Nat) (N : Nat → N2) (U : Nat → O3) (D : Nat → Dy) (zo zt fi se : Int) (w : World) (hls : ln ≤ 1000000) (hlt : lo ≤ 1000000) (H : Hid (Tr7 w na oa ln lo N U)) (K : Hid KnownOk) (HP : Hid (PlSl w pa lp D)) (HN10 : Hid (∀ d, d < lp → (D d).n ≤ 10)) (hlp : lp ≤ 12) (hq : ln ≤ 8 ∧ lo ≤ 10) (HR : Hid (TreeS f ln lo N U)) (HPB : Hid ((decide (lp ≤ 10) && allN (fun d => dayB lo (D d).s (D d).n) lp) = true)) (HRB : Hid (allN (fun d => runD f ln lo N U (D d)) lp = true)) (HO : Hid (fromB 0 ((lo : Int) - 1) zo = true)) (HT : Hid (fromB 0 ((lo : Int) - 1) zt = true)) (heq : zo ≠ zt) (h1 : 0 ≤ fi) (h2 : (lp : Int) ≤ fi) :
    Calls Tryz.prog 12 #[.agg #[.int .i64 f, .slice na ln cn, .slice oa lo co], .slice pa lp cp, .int .i64 zo, .int .i64 zt, .int .i64 fi, .int .i64 se] w
      fun e w' => e = .returned (.bool true) ∧ Below w.heap.size w w' := by
  have hsh : decide (ln ≤ 8 ∧ lo ≤ 10) = true := decide_eq_true hq
  have HSL : Hid ((decide (lp ≤ 12) && allN (fun d => decide ((D d).n ≤ 10)) lp) = true) := Lib.hid (by rw [decide_eq_true hlp, Bool.true_and, allN_iff]; exact fun i hi => decide_eq_true (HN10.out i hi))
  have HLS : Hid (∀ d, d < lp → (D d).n ≤ 1000000 ∧ LsP lo (D d).n (D d).s) := Lib.hid fun d hd => by
    have h := HPB.out
    simp only [Bool.and_eq_true] at h
    exact ⟨by have := HN10.out d hd; omega, dayB_ls ((allN_iff lp).1 h.2 d hd)⟩
  have q0 : (zo == zt) = false := by rw [beq_eq_false_iff_ne]; exact heq
  have HEQ := Lib.hid heq
  clear heq
  have BX := Lib.hid (fun (w1 : World) (hb : Below (w.alloc (.cells #[.int .i64 f, .slice na ln cn, .slice oa lo co] 25)).heap.size (w.alloc (.cells #[.int .i64 f, .slice na ln cn, .slice oa lo co] 25)) w1) => box7 hb)
  have HN : Hid (∀ w1, Below (w.alloc (.cells #[.int .i64 f, .slice na ln cn, .slice oa lo co] 25)).heap.size (w.alloc (.cells #[.int .i64 f, .slice na ln cn, .slice oa lo co] 25)) w1 → Hid (Tr7 w1 na oa ln lo N U)) := Lib.hid fun w1 h => Lib.hid (H.out.below (below_al h))
  have hb : Below (w.alloc (.cells #[.int .i64 f, .slice na ln cn, .slice oa lo co] 25)).heap.size (w.alloc (.cells #[.int .i64 f, .slice na ln cn, .slice oa lo co] 25)) (w.alloc (.cells #[.int .i64 f, .slice na ln cn, .slice oa lo co] 25)) := Below.refl _ _
  obtain ⟨x1, x2, x3, x4⟩ := BX.out _ hb
  have HPP : Hid (∀ w1, Below (w.alloc (.cells #[.int .i64 f, .slice na ln cn, .slice oa lo co] 25)).heap.size (w.alloc (.cells #[.int .i64 f, .slice na ln cn, .slice oa lo co] 25)) w1 → Hid (PlSl w1 pa lp D)) := Lib.hid fun w1 h => Lib.hid (HP.out.below (below_al h))
  clear H HP
  go_enter Tryz.func12, Tryz.ntmps12
  go_wp2_with (first
    | (go_at_call 13; refine (short_w _ _ _ _ _ _ _ _ (by unfold maxLen; omega) (by unfold maxLen; omega)).mono ?_; rw [hsh]; rintro e wl ⟨rfl, hv⟩; replace hb := hb.trans (hv.mono hb.size); clear x1 x2 x3 x4; obtain ⟨x1, x2, x3, x4⟩ := BX.out _ hb)
    | (go_at_call 41; refine (slim_w pa lp cp D _ (by unfold maxLen; omega) (HPP.out _ hb)).mono ?_; rw [HSL.out]; rintro e wl ⟨rfl, rfl⟩)
    | (go_at_call 17; refine (tree_w _ _ _ _ _ _ _ N U _ hls hlt (HN.out _ hb)).mono ?_; rintro e wl ⟨⟨rb, rfl, hrb⟩, hv⟩; obtain rfl : rb = true := hrb.2 HR.out; clear hrb; replace hb := hb.trans (hv.mono hb.size); clear x1 x2 x3 x4; obtain ⟨x1, x2, x3, x4⟩ := BX.out _ hb)
    | (go_at_call 46; refine (rplan_w f na oa pa ln cn lo co lp cp D _ hlt (by omega) (Lib.hid fun d hd => by have := HN10.out d hd; omega) (HPP.out _ hb)).mono ?_; rw [HPB.out]; rintro e wl ⟨rfl, hv⟩; replace hb := hb.trans (hv.mono hb.size); clear x1 x2 x3 x4; obtain ⟨x1, x2, x3, x4⟩ := BX.out _ hb)
    | (go_at_call 47; refine (rruns_w f na oa pa ln cn lo co lp cp N U D _ (by omega) HLS (HPP.out _ hb) (Lib.hid HR.out.w) (HN.out _ hb)).mono ?_; rw [HRB.out]; rintro e wl ⟨rfl, hv⟩; replace hb := hb.trans (hv.mono hb.size); clear x1 x2 x3 x4; obtain ⟨x1, x2, x3, x4⟩ := BX.out _ hb)
    | (go_at_call_of 33 zo; refine (outlet_w f zo na oa ln cn lo co _ hlt).mono ?_; rw [HO.out]; rintro e wl ⟨rfl, hv⟩; replace hb := hb.trans (hv.mono hb.size); clear x1 x2 x3 x4; obtain ⟨x1, x2, x3, x4⟩ := BX.out _ hb)
    | (go_at_call_of 33 zt; refine (outlet_w f zt na oa ln cn lo co _ hlt).mono ?_; rw [HT.out]; rintro e wl ⟨rfl, hv⟩; replace hb := hb.trans (hv.mono hb.size); clear x1 x2 x3 x4; obtain ⟨x1, x2, x3, x4⟩ := BX.out _ hb)
    | (go_at_call 14; refine (K.out _).mono ?_; rintro e wl ⟨rfl, hv⟩; replace hb := hb.trans (hv.mono hb.size); clear x1 x2 x3 x4; obtain ⟨x1, x2, x3, x4⟩ := BX.out _ hb))
  go_ret
  exact ⟨rfl, below_al hb⟩

set_option maxRecDepth 100000 in
set_option maxHeartbeats 4000000 in
theorem lawsz_c9 (f : Int) (na oa pa : Option Addr) (ln cn lo co lp cp : Nat) (N : Nat → N2) (U : Nat → O3) (D : Nat → Dy) (zo zt fi se : Int) (w : World) (hls : ln ≤ 1000000) (hlt : lo ≤ 1000000) (H : Hid (Tr7 w na oa ln lo N U)) (K : Hid KnownOk) (HP : Hid (PlSl w pa lp D)) (HN10 : Hid (∀ d, d < lp → (D d).n ≤ 10)) (hlp : lp ≤ 12) (hq : ln ≤ 8 ∧ lo ≤ 10) (HR : Hid (TreeS f ln lo N U)) (HPB : Hid ((decide (lp ≤ 10) && allN (fun d => dayB lo (D d).s (D d).n) lp) = true)) (HRB : Hid (allN (fun d => runD f ln lo N U (D d)) lp = true)) (HO : Hid (fromB 0 ((lo : Int) - 1) zo = true)) (HT : Hid (fromB 0 ((lo : Int) - 1) zt = true)) (heq : zo ≠ zt) (h1 : 0 ≤ fi) (h2 : fi < (lp : Int)) (h3 : se < 0) :
    Calls Tryz.prog 12 #[.agg #[.int .i64 f, .slice na ln cn, .slice oa lo co], .slice pa lp cp, .int .i64 zo, .int .i64 zt, .int .i64 fi, .int .i64 se] w
      fun e w' => e = .returned (.bool true) ∧ Below w.heap.size w w' := by
  have hsh : decide (ln ≤ 8 ∧ lo ≤ 10) = true := decide_eq_true hq
  have HSL : Hid ((decide (lp ≤ 12) && allN (fun d => decide ((D d).n ≤ 10)) lp) = true) := Lib.hid (by rw [decide_eq_true hlp, Bool.true_and, allN_iff]; exact fun i hi => decide_eq_true (HN10.out i hi))
  have HLS : Hid (∀ d, d < lp → (D d).n ≤ 1000000 ∧ LsP lo (D d).n (D d).s) := Lib.hid fun d hd => by
    have h := HPB.out
    simp only [Bool.and_eq_true] at h
    exact ⟨by have := HN10.out d hd; omega, dayB_ls ((allN_iff lp).1 h.2 d hd)⟩
  have q0 : (zo == zt) = false := by rw [beq_eq_false_iff_ne]; exact heq
  have HEQ := Lib.hid heq
  clear heq
  have BX := Lib.hid (fun (w1 : World) (hb : Below (w.alloc (.cells #[.int .i64 f, .slice na ln cn, .slice oa lo co] 25)).heap.size (w.alloc (.cells #[.int .i64 f, .slice na ln cn, .slice oa lo co] 25)) w1) => box7 hb)
  have HN : Hid (∀ w1, Below (w.alloc (.cells #[.int .i64 f, .slice na ln cn, .slice oa lo co] 25)).heap.size (w.alloc (.cells #[.int .i64 f, .slice na ln cn, .slice oa lo co] 25)) w1 → Hid (Tr7 w1 na oa ln lo N U)) := Lib.hid fun w1 h => Lib.hid (H.out.below (below_al h))
  have hb : Below (w.alloc (.cells #[.int .i64 f, .slice na ln cn, .slice oa lo co] 25)).heap.size (w.alloc (.cells #[.int .i64 f, .slice na ln cn, .slice oa lo co] 25)) (w.alloc (.cells #[.int .i64 f, .slice na ln cn, .slice oa lo co] 25)) := Below.refl _ _
  obtain ⟨x1, x2, x3, x4⟩ := BX.out _ hb
  have HPP : Hid (∀ w1, Below (w.alloc (.cells #[.int .i64 f, .slice na ln cn, .slice oa lo co] 25)).heap.size (w.alloc (.cells #[.int .i64 f, .slice na ln cn, .slice oa lo co] 25)) w1 → Hid (PlSl w1 pa lp D)) := Lib.hid fun w1 h => Lib.hid (HP.out.below (below_al h))
  clear H HP
  go_enter Tryz.func12, Tryz.ntmps12
  go_wp2_with (first
    | (go_at_call 13; refine (short_w _ _ _ _ _ _ _ _ (by unfold maxLen; omega) (by unfold maxLen; omega)).mono ?_; rw [hsh]; rintro e wl ⟨rfl, hv⟩; replace hb := hb.trans (hv.mono hb.size); clear x1 x2 x3 x4; obtain ⟨x1, x2, x3, x4⟩ := BX.out _ hb)
    | (go_at_call 41; refine (slim_w pa lp cp D _ (by unfold maxLen; omega) (HPP.out _ hb)).mono ?_; rw [HSL.out]; rintro e wl ⟨rfl, rfl⟩)
    | (go_at_call 17; refine (tree_w _ _ _ _ _ _ _ N U _ hls hlt (HN.out _ hb)).mono ?_; rintro e wl ⟨⟨rb, rfl, hrb⟩, hv⟩; obtain rfl : rb = true := hrb.2 HR.out; clear hrb; replace hb := hb.trans (hv.mono hb.size); clear x1 x2 x3 x4; obtain ⟨x1, x2, x3, x4⟩ := BX.out _ hb)
    | (go_at_call 46; refine (rplan_w f na oa pa ln cn lo co lp cp D _ hlt (by omega) (Lib.hid fun d hd => by have := HN10.out d hd; omega) (HPP.out _ hb)).mono ?_; rw [HPB.out]; rintro e wl ⟨rfl, hv⟩; replace hb := hb.trans (hv.mono hb.size); clear x1 x2 x3 x4; obtain ⟨x1, x2, x3, x4⟩ := BX.out _ hb)
    | (go_at_call 47; refine (rruns_w f na oa pa ln cn lo co lp cp N U D _ (by omega) HLS (HPP.out _ hb) (Lib.hid HR.out.w) (HN.out _ hb)).mono ?_; rw [HRB.out]; rintro e wl ⟨rfl, hv⟩; replace hb := hb.trans (hv.mono hb.size); clear x1 x2 x3 x4; obtain ⟨x1, x2, x3, x4⟩ := BX.out _ hb)
    | (go_at_call_of 33 zo; refine (outlet_w f zo na oa ln cn lo co _ hlt).mono ?_; rw [HO.out]; rintro e wl ⟨rfl, hv⟩; replace hb := hb.trans (hv.mono hb.size); clear x1 x2 x3 x4; obtain ⟨x1, x2, x3, x4⟩ := BX.out _ hb)
    | (go_at_call_of 33 zt; refine (outlet_w f zt na oa ln cn lo co _ hlt).mono ?_; rw [HT.out]; rintro e wl ⟨rfl, hv⟩; replace hb := hb.trans (hv.mono hb.size); clear x1 x2 x3 x4; obtain ⟨x1, x2, x3, x4⟩ := BX.out _ hb)
    | (go_at_call 14; refine (K.out _).mono ?_; rintro e wl ⟨rfl, hv⟩; replace hb := hb.trans (hv.mono hb.size); clear x1 x2 x3 x4; obtain ⟨x1, x2, x3, x4⟩ := BX.out _ hb))
  go_ret
  exact ⟨rfl, below_al hb⟩

set_option maxRecDepth 100000 in
set_option maxHeartbeats 4000000 in
theorem lawsz_c10 (f : Int) (na oa pa : Option Addr) (ln cn lo co lp cp : Nat) (N : Nat → N2) (U : Nat → O3) (D : Nat → Dy) (zo zt fi se : Int) (w : World) (hls : ln ≤ 1000000) (hlt : lo ≤ 1000000) (H : Hid (Tr7 w na oa ln lo N U)) (K : Hid KnownOk) (HP : Hid (PlSl w pa lp D)) (HN10 : Hid (∀ d, d < lp → (D d).n ≤ 10)) (hlp : lp ≤ 12) (hq : ln ≤ 8 ∧ lo ≤ 10) (HR : Hid (TreeS f ln lo N U)) (HPB : Hid ((decide (lp ≤ 10) && allN (fun d => dayB lo (D d).s (D d).n) lp) = true)) (HRB : Hid (allN (fun d => runD f ln lo N U (D d)) lp = true)) (HO : Hid (fromB 0 ((lo : Int) - 1) zo = true)) (HT : Hid (fromB 0 ((lo : Int) - 1) zt = true)) (heq : zo ≠ zt) (h1 : 0 ≤ fi) (h2 : fi < (lp : Int)) (h3 : 0 ≤ se) (h4 : (lp : Int) ≤ se) :
    Calls Tryz.prog 12 #[.agg #[.int .i64 f, .slice na ln cn, .slice oa lo co], .slice pa lp cp, .int .i64 zo, .int .i64 zt, .int .i64 fi, .int .i64 se] w
      fun e w' => e = .returned (.bool true) ∧ Below w.heap.size w w' := by
  have hsh : decide (ln ≤ 8 ∧ lo ≤ 10) = true := decide_eq_true hq
  have HSL : Hid ((decide (lp ≤ 12) && allN (fun d => decide ((D d).n ≤ 10)) lp) = true) := Lib.hid (by rw [decide_eq_true hlp, Bool.true_and, allN_iff]; exact fun i hi => decide_eq_true (HN10.out i hi))
  have HLS : Hid (∀ d, d < lp → (D d).n ≤ 1000000 ∧ LsP lo (D d).n (D d).s) := Lib.hid fun d hd => by
    have h := HPB.out
    simp only [Bool.and_eq_true] at h
    exact ⟨by have := HN10.out d hd; omega, dayB_ls ((allN_iff lp).1 h.2 d hd)⟩
  have q0 : (zo == zt) = false := by rw [beq_eq_false_iff_ne]; exact heq
  have HEQ := Lib.hid heq
  clear heq
  have BX := Lib.hid (fun (w1 : World) (hb : Below (w.alloc (.cells #[.int .i64 f, .slice na ln cn, .slice oa lo co] 25)).heap.size (w.alloc (.cells #[.int .i64 f, .slice na ln cn, .slice oa lo co] 25)) w1) => box7 hb)
  have HN : Hid (∀ w1, Below (w.alloc (.cells #[.int .i64 f, .slice na ln cn, .slice oa lo co] 25)).heap.size (w.alloc (.cells #[.int .i64 f, .slice na ln cn, .slice oa lo co] 25)) w1 → Hid (Tr7 w1 na oa ln lo N U)) := Lib.hid fun w1 h => Lib.hid (H.out.below (below_al h))
  have hb : Below (w.alloc (.cells #[.int .i64 f, .slice na ln cn, .slice oa lo co] 25)).heap.size (w.alloc (.cells #[.int .i64 f, .slice na ln cn, .slice oa lo co] 25)) (w.alloc (.cells #[.int .i64 f, .slice na ln cn, .slice oa lo co] 25)) := Below.refl _ _
  obtain ⟨x1, x2, x3, x4⟩ := BX.out _ hb
  have HPP : Hid (∀ w1, Below (w.alloc (.cells #[.int .i64 f, .slice na ln cn, .slice oa lo co] 25)).heap.size (w.alloc (.cells #[.int .i64 f, .slice na ln cn, .slice oa lo co] 25)) w1 → Hid (PlSl w1 pa lp D)) := Lib.hid fun w1 h => Lib.hid (HP.out.below (below_al h))
  clear H HP
  go_enter Tryz.func12, Tryz.ntmps12
  go_wp2_with (first
    | (go_at_call 13; refine (short_w _ _ _ _ _ _ _ _ (by unfold maxLen; omega) (by unfold maxLen; omega)).mono ?_; rw [hsh]; rintro e wl ⟨rfl, hv⟩; replace hb := hb.trans (hv.mono hb.size); clear x1 x2 x3 x4; obtain ⟨x1, x2, x3, x4⟩ := BX.out _ hb)
    | (go_at_call 41; refine (slim_w pa lp cp D _ (by unfold maxLen; omega) (HPP.out _ hb)).mono ?_; rw [HSL.out]; rintro e wl ⟨rfl, rfl⟩)
    | (go_at_call 17; refine (tree_w _ _ _ _ _ _ _ N U _ hls hlt (HN.out _ hb)).mono ?_; rintro e wl ⟨⟨rb, rfl, hrb⟩, hv⟩; obtain rfl : rb = true := hrb.2 HR.out; clear hrb; replace hb := hb.trans (hv.mono hb.size); clear x1 x2 x3 x4; obtain ⟨x1, x2, x3, x4⟩ := BX.out _ hb)
    | (go_at_call 46; refine (rplan_w f na oa pa ln cn lo co lp cp D _ hlt (by omega) (Lib.hid fun d hd => by have := HN10.out d hd; omega) (HPP.out _ hb)).mono ?_; rw [HPB.out]; rintro e wl ⟨rfl, hv⟩; replace hb := hb.trans (hv.mono hb.size); clear x1 x2 x3 x4; obtain ⟨x1, x2, x3, x4⟩ := BX.out _ hb)
    | (go_at_call 47; refine (rruns_w f na oa pa ln cn lo co lp cp N U D _ (by omega) HLS (HPP.out _ hb) (Lib.hid HR.out.w) (HN.out _ hb)).mono ?_; rw [HRB.out]; rintro e wl ⟨rfl, hv⟩; replace hb := hb.trans (hv.mono hb.size); clear x1 x2 x3 x4; obtain ⟨x1, x2, x3, x4⟩ := BX.out _ hb)
    | (go_at_call_of 33 zo; refine (outlet_w f zo na oa ln cn lo co _ hlt).mono ?_; rw [HO.out]; rintro e wl ⟨rfl, hv⟩; replace hb := hb.trans (hv.mono hb.size); clear x1 x2 x3 x4; obtain ⟨x1, x2, x3, x4⟩ := BX.out _ hb)
    | (go_at_call_of 33 zt; refine (outlet_w f zt na oa ln cn lo co _ hlt).mono ?_; rw [HT.out]; rintro e wl ⟨rfl, hv⟩; replace hb := hb.trans (hv.mono hb.size); clear x1 x2 x3 x4; obtain ⟨x1, x2, x3, x4⟩ := BX.out _ hb)
    | (go_at_call 14; refine (K.out _).mono ?_; rintro e wl ⟨rfl, hv⟩; replace hb := hb.trans (hv.mono hb.size); clear x1 x2 x3 x4; obtain ⟨x1, x2, x3, x4⟩ := BX.out _ hb))
  go_ret
  exact ⟨rfl, below_al hb⟩

set_option maxRecDepth 100000 in
set_option maxHeartbeats 4000000 in
theorem lawsz_d (f : Int) (na oa pa : Option Addr) (ln cn lo co lp cp : Nat) (N : Nat → N2) (U : Nat → O3) (D : Nat → Dy) (zo zt : Int) (i j : Nat) (w : World) (hls : ln ≤ 1000000) (hlt : lo ≤ 1000000) (H : Hid (Tr7 w na oa ln lo N U)) (K : Hid KnownOk) (HP : Hid (PlSl w pa lp D)) (HN10 : Hid (∀ d, d < lp → (D d).n ≤ 10)) (hlp : lp ≤ 12) (hq : ln ≤ 8 ∧ lo ≤ 10) (HR : Hid (TreeS f ln lo N U)) (HPB : Hid ((decide (lp ≤ 10) && allN (fun d => dayB lo (D d).s (D d).n) lp) = true)) (HRB : Hid (allN (fun d => runD f ln lo N U (D d)) lp = true)) (HO : Hid (fromB 0 ((lo : Int) - 1) zo = true)) (HT : Hid (fromB 0 ((lo : Int) - 1) zt = true)) (heq : zo ≠ zt) (hi : i < lp) (hj : j < lp) (HSB : Hid (SwB f ln lo N U D zo zt i j = false)) (hno : ∀ a' b', a' < lp → b' < lp → SwB f ln lo N U D zo zt a' b' = false) :
    Calls Tryz.prog 12 #[.agg #[.int .i64 f, .slice na ln cn, .slice oa lo co], .slice pa lp cp, .int .i64 zo, .int .i64 zt, .int .i64 (i : Int), .int .i64 (j : Int)] w
      fun e w' => e = .returned (.bool true) ∧ Below w.heap.size w w' := by
  have hsh : decide (ln ≤ 8 ∧ lo ≤ 10) = true := decide_eq_true hq
  have HSL : Hid ((decide (lp ≤ 12) && allN (fun d => decide ((D d).n ≤ 10)) lp) = true) := Lib.hid (by rw [decide_eq_true hlp, Bool.true_and, allN_iff]; exact fun i hi => decide_eq_true (HN10.out i hi))
  have HLS : Hid (∀ d, d < lp → (D d).n ≤ 1000000 ∧ LsP lo (D d).n (D d).s) := Lib.hid fun d hd => by
    have h := HPB.out
    simp only [Bool.and_eq_true] at h
    exact ⟨by have := HN10.out d hd; omega, dayB_ls ((allN_iff lp).1 h.2 d hd)⟩
  have q0 : (zo == zt) = false := by rw [beq_eq_false_iff_ne]; exact heq
  have HEQ := Lib.hid heq
  clear heq
  have HDY : Hid (∀ d, d < lp → dayB lo (D d).s (D d).n = true ∧ (D d).n ≤ 1000000) := Lib.hid fun d hd => by
    have h := HPB.out
    simp only [Bool.and_eq_true] at h
    exact ⟨(allN_iff lp).1 h.2 d hd, by have := HN10.out d hd; omega⟩
  have HDB : Hid (∀ d, d < lp → dayB lo (D d).s (D d).n = true) := Lib.hid fun d hd => (HDY.out d hd).1
  have hl10 : lp ≤ 10 := by have h := HPB.out; simp only [Bool.and_eq_true, decide_eq_true_eq] at h; exact h.1
  have m1 : (0 : Int) ≤ (i : Int) := by omega
  have m2 : (i : Int) < (lp : Int) := by omega
  have m3 : (0 : Int) ≤ (j : Int) := by omega
  have m4 : (j : Int) < (lp : Int) := by omega
  have HI := Lib.hid hi
  have HJ := Lib.hid hj
  clear hi hj
  have HNO := Lib.hid hno
  clear hno
  have BX := Lib.hid (fun (w1 : World) (hb : Below (w.alloc (.cells #[.int .i64 f, .slice na ln cn, .slice oa lo co] 25)).heap.size (w.alloc (.cells #[.int .i64 f, .slice na ln cn, .slice oa lo co] 25)) w1) => box7 hb)
  have HN : Hid (∀ w1, Below (w.alloc (.cells #[.int .i64 f, .slice na ln cn, .slice oa lo co] 25)).heap.size (w.alloc (.cells #[.int .i64 f, .slice na ln cn, .slice oa lo co] 25)) w1 → Hid (Tr7 w1 na oa ln lo N U)) := Lib.hid fun w1 h => Lib.hid (H.out.below (below_al h))
  have hb : Below (w.alloc (.cells #[.int .i64 f, .slice na ln cn, .slice oa lo co] 25)).heap.size (w.alloc (.cells #[.int .i64 f, .slice na ln cn, .slice oa lo co] 25)) (w.alloc (.cells #[.int .i64 f, .slice na ln cn, .slice oa lo co] 25)) := Below.refl _ _
  obtain ⟨x1, x2, x3, x4⟩ := BX.out _ hb
  have HPP : Hid (∀ w1, Below (w.alloc (.cells #[.int .i64 f, .slice na ln cn, .slice oa lo co] 25)).heap.size (w.alloc (.cells #[.int .i64 f, .slice na ln cn, .slice oa lo co] 25)) w1 → Hid (PlSl w1 pa lp D)) := Lib.hid fun w1 h => Lib.hid (HP.out.below (below_al h))
  clear H HP
  go_enter Tryz.func12, Tryz.ntmps12
  go_wp2_with (first
    | (go_at_call 13; refine (short_w _ _ _ _ _ _ _ _ (by unfold maxLen; omega) (by unfold maxLen; omega)).mono ?_; rw [hsh]; rintro e wl ⟨rfl, hv⟩; replace hb := hb.trans (hv.mono hb.size); clear x1 x2 x3 x4; obtain ⟨x1, x2, x3, x4⟩ := BX.out _ hb)
    | (go_at_call 41; refine (slim_w pa lp cp D _ (by unfold maxLen; omega) (HPP.out _ hb)).mono ?_; rw [HSL.out]; rintro e wl ⟨rfl, rfl⟩)
    | (go_at_call 17; refine (tree_w _ _ _ _ _ _ _ N U _ hls hlt (HN.out _ hb)).mono ?_; rintro e wl ⟨⟨rb, rfl, hrb⟩, hv⟩; obtain rfl : rb = true := hrb.2 HR.out; clear hrb; replace hb := hb.trans (hv.mono hb.size); clear x1 x2 x3 x4; obtain ⟨x1, x2, x3, x4⟩ := BX.out _ hb)
    | (go_at_call 46; refine (rplan_w f na oa pa ln cn lo co lp cp D _ hlt (by omega) (Lib.hid fun d hd => by have := HN10.out d hd; omega) (HPP.out _ hb)).mono ?_; rw [HPB.out]; rintro e wl ⟨rfl, hv⟩; replace hb := hb.trans (hv.mono hb.size); clear x1 x2 x3 x4; obtain ⟨x1, x2, x3, x4⟩ := BX.out _ hb)
    | (go_at_call 47; refine (rruns_w f na oa pa ln cn lo co lp cp N U D _ (by omega) HLS (HPP.out _ hb) (Lib.hid HR.out.w) (HN.out _ hb)).mono ?_; rw [HRB.out]; rintro e wl ⟨rfl, hv⟩; replace hb := hb.trans (hv.mono hb.size); clear x1 x2 x3 x4; obtain ⟨x1, x2, x3, x4⟩ := BX.out _ hb)
    | (go_at_call_of 33 zo; refine (outlet_w f zo na oa ln cn lo co _ hlt).mono ?_; rw [HO.out]; rintro e wl ⟨rfl, hv⟩; replace hb := hb.trans (hv.mono hb.size); clear x1 x2 x3 x4; obtain ⟨x1, x2, x3, x4⟩ := BX.out _ hb)
    | (go_at_call_of 33 zt; refine (outlet_w f zt na oa ln cn lo co _ hlt).mono ?_; rw [HT.out]; rintro e wl ⟨rfl, hv⟩; replace hb := hb.trans (hv.mono hb.size); clear x1 x2 x3 x4; obtain ⟨x1, x2, x3, x4⟩ := BX.out _ hb)
    | (go_at_call_of 50 pa; refine (swaps_w f zo zt na oa pa ln cn lo co lp cp N U D _ hl10 HR (HN.out _ hb) (HPP.out _ hb) HDY HRB HO.out HT.out HEQ.out).mono ?_; rintro e wl ⟨⟨r1, r2, re, rfl, hsr⟩, hv⟩; replace hb := hb.trans (hv.mono hb.size); clear x1 x2 x3 x4; obtain ⟨x1, x2, x3, x4⟩ := BX.out _ hb; obtain ⟨rfl, rfl, rfl⟩ := hsr.none HNO.out; clear hsr)
    | (go_at_call_of 52 i; refine (rswapped_w f zo zt na oa pa ln cn lo co lp cp i j N U D _ hl10 HI.out HJ.out HR (HN.out _ hb) (HPP.out _ hb) HDB HRB).mono ?_; rintro e wl ⟨⟨oi, li, ci, B1, rfl, hB1, hE1⟩, hv⟩; clear hE1; replace hb := hb.trans (hv.mono hb.size); clear x1 x2 x3 x4; obtain ⟨x1, x2, x3, x4⟩ := BX.out _ hb; rw [HSB.out] at hB1; subst B1)
    | (go_at_call 14; refine (K.out _).mono ?_; rintro e wl ⟨rfl, hv⟩; replace hb := hb.trans (hv.mono hb.size); clear x1 x2 x3 x4; obtain ⟨x1, x2, x3, x4⟩ := BX.out _ hb))
  go_ret
  exact ⟨rfl, below_al hb⟩
end Go.Kn
