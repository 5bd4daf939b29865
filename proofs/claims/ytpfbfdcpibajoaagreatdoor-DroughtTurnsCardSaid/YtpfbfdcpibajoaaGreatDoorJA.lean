/- Contracts of functions that the laws of this seat call, or the evaluator of closed calls and its runs. Conditions: as each theorem states them. -/
import Derived.Test.YtpfbfdcpibajoaaGreatDoorJK
import Derived.Test.YtpfbfdcpibajoaaGreatDoorHI
set_option linter.unusedVariables false
set_option linter.unusedSimpArgs false
namespace Go.Kn
open Go Go.Proofs Go.RowKit

/-- outlets of a tree, each at most once -/
structure LsP (lo n : Nat) (s : Nat → Int) : Prop where
  ok : ∀ k, k < n → 0 ≤ s k ∧ s k < (lo : Int)
  nd : ∀ i j, i < j → j < n → s i ≠ s j
/-- those who run get their claims -/
def runB (U : Nat → O3) (b : Nat → Bool) : Nat → Int := fun j => if b j then (U j).c else 0
/-- the shares when the first ones of a list run -/
def rk (U : Nat → O3) (s : Nat → Int) (k : Nat) : Nat → Int := runB U (fun j => hasB s (j : Int) k)
theorem rk_zero (U : Nat → O3) (s : Nat → Int) : rk U s 0 = fun _ => 0 := by funext j; simp [rk, runB, hasB]
theorem rk_yes {U : Nat → O3} {s : Nat → Int} {k j : Nat} (h : hasB s (j : Int) k = true) : rk U s k j = (U j).c := by show (if hasB s (j : Int) k = true then _ else _) = _; rw [if_pos h]
theorem rk_not {U : Nat → O3} {s : Nat → Int} {k j : Nat} (h : hasB s (j : Int) k = false) : rk U s k j = 0 := by show (if hasB s (j : Int) k = true then _ else _) = _; rw [if_neg (by rw [h]; decide)]
theorem rk_new {lo n : Nat} {U : Nat → O3} {s : Nat → Int} (H : LsP lo n s) {k : Nat} (hk : k < n) : rk U s k (s k).toNat = 0 := by
  have h0 := H.ok k hk
  have : hasB s (((s k).toNat : Nat) : Int) k = false := by
    cases h : hasB s (((s k).toNat : Nat) : Int) k with
    | false => rfl
    | true =>
      obtain ⟨i, hi, e⟩ := (hasB_iff k).1 h
      exact absurd (by omega) (H.nd i k hi hk)
  exact rk_not this
theorem rk_put {lo n : Nat} {U : Nat → O3} {s : Nat → Int} (H : LsP lo n s) {k : Nat} (hk : k < n) : put (rk U s k) (s k).toNat (U (s k).toNat).c = rk U s (k + 1) := by
  have h0 := H.ok k hk
  funext j
  by_cases h : j = (s k).toNat
  · subst h
    rw [put_same, rk_new H hk]
    have : hasB s (((s k).toNat : Nat) : Int) (k + 1) = true := hasB_yes (Nat.lt_succ_self k) (by omega)
    rw [rk_yes this, Int.zero_add]
  · rw [put_other h]
    have hne : s k ≠ (j : Int) := by omega
    have e : hasB s (j : Int) (k + 1) = hasB s (j : Int) k := by simp [hasB, hne]
    show (if hasB s (j : Int) k = true then _ else _) = (if hasB s (j : Int) (k + 1) = true then _ else _)
    rw [e]
section
variable {f : Int} {ln lo n : Nat} {N : Nat → N2} {U : Nat → O3} {s : Nat → Int}
theorem rk_vd (HR : TreeP f ln lo N U) (H : LsP lo n s) {k : Nat} (hk : k < n) (hv : Vd f ln lo N U (rk U s k)) (ho : OkP f lo N U (rk U s k) (s k).toNat (U (s k).toNat).c) : Vd f ln lo N U (rk U s (k + 1)) := by
  have h0 := H.ok k hk
  have h1 : (s k).toNat < lo := by omega
  rw [← rk_put H hk]; exact hv.put h1 (by have := (tree_o HR h1).2.1; omega) ho
theorem hasB_mono {s : Nat → Int} {x : Int} {k m : Nat} (h : k ≤ m) (hx : hasB s x k = true) : hasB s x m = true := by
  obtain ⟨i, h1, h2⟩ := (hasB_iff k).1 hx
  exact hasB_yes (by omega) h2
theorem rk_no (HR : TreeP f ln lo N U) (H : LsP lo n s) {k : Nat} (hk : k < n) (ho : ¬ OkP f lo N U (rk U s k) (s k).toNat (U (s k).toNat).c) : ¬ FitP f ln lo N U (rk U s n) := by
  intro hf
  apply ho
  have h0 := H.ok k hk
  have h1 : (s k).toNat < lo := by omega
  refine ⟨by rw [rk_new H hk]; omega, fun m hm => ?_⟩
  have e := sumB_put (N := N) (U := U) (s := rk U s k) (m := m) (i := (s k).toNat) (c := (U (s k).toNat).c) lo
  rw [if_pos ⟨h1, hm⟩, rk_put H hk] at e
  rw [← e]
  have h2 : sumB N U (rk U s (k + 1)) m lo ≤ sumB N U (rk U s n) m lo := sumB_mono lo fun i hi _ => by
    have := (tree_o HR hi).2.1
    cases h3 : hasB s (i : Int) (k + 1) with
    | true => rw [rk_yes h3, rk_yes (hasB_mono (show k + 1 ≤ n by omega) h3)]; exact Int.le_refl _
    | false =>
      rw [rk_not h3]
      cases h4 : hasB s (i : Int) n with
      | true => rw [rk_yes h4]; omega
      | false => rw [rk_not h4]; exact Int.le_refl _
  exact Int.le_trans h2 (hf m (Nat.le_trans (path_le HR _ (node_le HR h1) m hm) (node_le HR h1)))
end

set_option maxRecDepth 100000 in
set_option maxHeartbeats 2000000 in
/-- an outlet runs -/
theorem run_w (f : Int) (na oa : Option Addr) (ln cn lo co cs cf sv SH FL i : Nat) (N : Nat → N2) (U : Nat → O3) (s : Nat → Int) (w0 W : World) (T : Hid (Tre f na oa ln lo sv SH FL N U w0)) (hb : Below w0.heap.size w0 W) (hi : i < lo)
    (hv : Hid (Vd f ln lo N U s)) (H : Hid (SvS W sv SH FL f na oa ln cn lo co cs cf N U s)) :
    Calls Tryz.prog 135 #[.pointer (some ⟨sv, 0, none⟩), .int .i64 (i : Int)] W fun e W' => Frx [SH, FL] W W' ∧
      ((e = .returned (.tuple #[]) ∧ OkP f lo N U s i (U i).c ∧ SvS W' sv SH FL f na oa ln cn lo co cs cf N U (put s i (U i).c)) ∨
       (e = .panicked mis ∧ ¬ OkP f lo N U s i (U i).c ∧ SvS W' sv SH FL f na oa ln cn lo co cs cf N U s)) := by
  have hcl := (tree_o T.out.HR hi).2.1
  obtain ⟨C, P, rfl, hC, hnC⟩ := T.out.HT.ho.resolve_left (by omega)
  have x1 := H.out.at_.c2
  have x2 := (hb.cell (p := ⟨C, P + i * 3 + 1, none⟩) hC).trans (hnC i hi).2.1
  have n1 : (0 : Int) ≤ (i : Int) := by omega
  have n2 : (i : Int) < (lo : Int) := by omega
  have HG := Lib.hid (give_s f na (some ⟨C, P, none⟩) ln cn lo co cs cf sv SH FL i (U i).c N U s w0 W T hb hi ⟨by omega, by omega⟩ hv H)
  clear hnC hcl
  go_enter Tryz.func135, Tryz.ntmps135
  go_wp2_with (go_at_call 67; refine HG.out.mono ?_; rintro e w21 ⟨hf, ⟨rfl, ho, hs⟩ | ⟨rfl, ho, hs⟩⟩)
  · go_end0
    exact ⟨hf, .inl ⟨rfl, ho, hs⟩⟩
  · exact ⟨rfl, hf, .inr ⟨rfl, ho, hs⟩⟩

set_option maxRecDepth 100000 in
set_option maxHeartbeats 2000000 in
theorem canRun1_w (f : Int) (na oa sa : Option Addr) (ln cn lo co cs cf n c5 sv SH FL pb qb : Nat) (N : Nat → N2) (U : Nat → O3) (s : Nat → Int) (w0 W : World) (T : Hid (Tre f na oa ln lo sv SH FL N U w0)) (hb : Below w0.heap.size w0 W)
    (hn : n ≤ 1000000) (HL : Hid (LsP lo n s)) (HS : Hid (IntSl w0 sa n s)) (hp1 : W.cell? ⟨pb, 0, none⟩ = some (.pointer (some ⟨sv, 0, none⟩))) (hq1 : W.cell? ⟨qb, 0, none⟩ = some (.slice sa n c5)) (hpn : pb ≠ SH ∧ pb ≠ FL) (hqn : qb ≠ SH ∧ qb ≠ FL)
    (H : Hid (SvS W sv SH FL f na oa ln cn lo co cs cf N U (fun _ => 0))) :
    Calls Tryz.prog 142 #[.pointer (some ⟨qb, 0, none⟩), .pointer (some ⟨pb, 0, none⟩)] W fun e W' => Frx [SH, FL] W W' ∧ ((e = .returned (.tuple #[]) ∧ FitP f ln lo N U (rk U s n)) ∨ (e = .panicked mis ∧ ¬ FitP f ln lo N U (rk U s n))) := by
  have HX : Hid (∀ w', Frx [SH, FL] W w' → w'.cell? ⟨pb, 0, none⟩ = some (.pointer (some ⟨sv, 0, none⟩)) ∧ Below w0.heap.size w0 w') := Lib.hid fun w' h =>
    ⟨(h.cell (World.block_lt_of_cell? _ _ hp1) (by simp; omega)).trans hp1, hb.trans (h.below hb.size (by have := T.out.h2; have := T.out.h3; simp; omega))⟩
  clear hb hp1
  go_enter Tryz.func142, Tryz.ntmps142
  go_wp2
  clear hq1
  go_loopw [6] (fun ii wr => ∃ k : Nat, k ≤ n ∧ ii = .int .i64 (k : Int) ∧ Frx [SH, FL] W wr ∧ SvS wr sv SH FL f na oa ln cn lo co cs cf N U (rk U s k) ∧ Vd f ln lo N U (rk U s k)) (fun ii _ => n - (intOf ii).toNat)
  case atStart => exact ⟨0, Nat.zero_le _, rfl, Frx.refl _ _, by rw [rk_zero]; exact H.out, by rw [rk_zero]; exact vd_zero T.out.HR⟩
  case round =>
    obtain ⟨k, hk, rfl, hfr, hsv, hvd⟩ := hrel
    have HFR := Lib.hid hfr
    have HSV := Lib.hid hsv
    have HVD := Lib.hid hvd
    clear hfr hsv hvd
    by_cases hlt : k < n
    · obtain ⟨x0, hb0⟩ := HX.out wr HFR.out
      obtain ⟨A, O, rfl, hA, hnum⟩ := HS.out.resolve_left (by omega)
      have x1 := (hb0.cell (p := ⟨A, O + k, none⟩) hA).trans (hnum k hlt)
      have hsk := HL.out.ok k hlt
      obtain ⟨i, hi⟩ : ∃ i : Nat, s k = (i : Int) := ⟨(s k).toNat, by omega⟩
      have hit : (s k).toNat = i := by omega
      rw [hi] at x1
      have HG := Lib.hid (run_w f na oa ln cn lo co cs cf sv SH FL i N U (rk U s k) w0 wr T hb0 (by omega) HVD HSV)
      have n1 : (0 : Int) ≤ (k : Int) := by omega
      have n2 : (k : Int) < (n : Int) := by omega
      have HIT := Lib.hid hit
      clear hnum hb0 hsk hi hit
      go_wp2_with (go_at_call 135; refine HG.out.mono ?_; rintro e w21 ⟨hf, ⟨rfl, ho, hs⟩ | ⟨rfl, ho, hs⟩⟩)
      · have HF := Lib.hid hf
        have HO := Lib.hid ho
        have HS2 := Lib.hid hs
        clear hf ho hs
        go_roundw
        case rel => exact ⟨k + 1, by omega, by go_num, HFR.out.trans HF.out, by rw [← rk_put HL.out hlt, HIT.out]; exact HS2.out, rk_vd T.out.HR HL.out hlt HVD.out (by rw [HIT.out]; exact HO.out)⟩
        case measure => simp [intOf]; omega
      · exact ⟨rfl, HFR.out.trans hf, .inr ⟨rfl, rk_no T.out.HR HL.out hlt (by rw [HIT.out]; exact ho)⟩⟩
    · have hkl : n = k := by omega
      subst hkl
      go_wp2
      go_end0
      exact ⟨HFR.out, .inl ⟨rfl, HVD.out.fit⟩⟩
end Go.Kn

namespace Go.Kn
open Go Go.Proofs Go.RowKit

theorem newbox_b (w : World) (v : Value) (T : TypeId) : Below w.heap.size w (w.alloc (.cells #[v] T)) := (Below.refl _ _).alloc (Nat.le_refl _) _
theorem newbox_c (w : World) (v : Value) (T : TypeId) : (w.alloc (.cells #[v] T)).cell? ⟨w.heap.size, 0, none⟩ = some v := by simp
set_option maxRecDepth 100000 in
set_option maxHeartbeats 1000000 in
theorem attempt_r (f : Int) (na oa sa : Option Addr) (ln cn lo co cs cf n c5 sv SH FL pb qb : Nat) (N : Nat → N2) (U : Nat → O3) (s : Nat → Int) (w0 W : World) (T : Hid (Tre f na oa ln lo sv SH FL N U w0)) (hb : Below w0.heap.size w0 W)
    (hn : n ≤ 1000000) (HL : Hid (LsP lo n s)) (HS : Hid (IntSl w0 sa n s)) (hp1 : W.cell? ⟨pb, 0, none⟩ = some (.pointer (some ⟨sv, 0, none⟩))) (hq1 : W.cell? ⟨qb, 0, none⟩ = some (.slice sa n c5)) (hpn : pb ≠ SH ∧ pb ≠ FL) (hqn : qb ≠ SH ∧ qb ≠ FL)
    (H : Hid (SvS W sv SH FL f na oa ln cn lo co cs cf N U (fun _ => 0))) :
    Calls Tryz.prog 65 #[.func (.func 142) #[] #[.pointer (some ⟨qb, 0, none⟩), .pointer (some ⟨pb, 0, none⟩)]] W fun e W' => Frx [SH, FL] W W' ∧ ((e = .returned (.int .i64 0) ∧ FitP f ln lo N U (rk U s n)) ∨ (e = .returned (.int .i64 7) ∧ ¬ FitP f ln lo N U (rk U s n))) := by
  have hmf : ∀ (fn : Fn) (first cap : Array Value) (w : World), (Instr.makeFunc fn first cap).run Tryz.prog w = .ok (.func fn first cap) w := fun _ _ _ _ => rfl
  have hA : Below W.heap.size W (W.alloc (.cells #[.int .i64 0] 29)) := (Below.refl _ _).alloc (Nat.le_refl _) _
  have HG := Lib.hid (canRun1_w f na oa sa ln cn lo co cs cf n c5 sv SH FL pb qb N U s w0 (W.alloc (.cells #[.int .i64 0] 29)) T (hb.trans (hA.mono hb.size)) hn HL HS ((hA.cell (p := ⟨pb, 0, none⟩) (World.block_lt_of_cell? _ _ hp1)).trans hp1) ((hA.cell (p := ⟨qb, 0, none⟩) (World.block_lt_of_cell? _ _ hq1)).trans hq1) hpn hqn (Lib.hid (H.out.below hA)))
  have hne : W.heap.size ≠ SH ∧ W.heap.size ≠ FL := ⟨by have := H.out.at_.bh; omega, by have := H.out.at_.bf; omega⟩
  have HC : Hid (∀ w1, Frx [SH, FL] (W.alloc (.cells #[.int .i64 0] 29)) w1 → w1.cell? ⟨W.heap.size, 0, none⟩ = some (.int .i64 0) ∧ w1.frozen? ⟨W.heap.size, 0, none⟩ = false) := Lib.hid fun w1 h =>
    ⟨(h.cell (by simp) (by simp; omega)).trans (by simp), (h.froz (by simp) (by simp; omega)).trans (by simp)⟩
  clear hb hp1 hq1 hA hne
  go_enter_defers Tryz.func65, Tryz.ntmps65
  go_wp2_with (go_at_call 142; refine HG.out.mono ?_; rintro e w2 ⟨hfr, hcase⟩; obtain ⟨y1, y2⟩ := HC.out _ hfr; have HF := Lib.hid hfr; clear hfr; rcases hcase with ⟨rfl, ho⟩ | ⟨rfl, ho⟩ <;> (have HO := Lib.hid ho; clear ho))
  · refine leaves_cons (f := 114) (args := #[.pointer (some ⟨W.heap.size, 0, none⟩)]) (by simp) (by simp [go_sem]) ?_
    refine (catch_none ⟨W.heap.size, 0, none⟩ _).mono ?_
    rintro e u' w'' ⟨rfl, rfl, rfl⟩
    have z1 : (w2.setCell ⟨W.heap.size, 0, none⟩ (.int .i64 0)).cell? ⟨W.heap.size, 0, none⟩ = some (.int .i64 0) := World.cell?_setCell_same' _ _ _ (by rw [y1]; rfl)
    simp [Leaves, settle, results, Tryz.results65, go_sem, z1]
    exact ⟨HF.out.al.setNew (Nat.le_refl _), HO.out⟩
  · refine leaves_cons (f := 114) (args := #[.pointer (some ⟨W.heap.size, 0, none⟩)]) (by simp) (by simp [go_sem]) ?_
    refine (catch_rate ⟨W.heap.size, 0, none⟩ 0 [] _ y1 y2).mono ?_
    rintro e u' w'' ⟨rfl, rfl, rfl⟩
    have z1 : (w2.setCell ⟨W.heap.size, 0, none⟩ (.int .i64 7)).cell? ⟨W.heap.size, 0, none⟩ = some (.int .i64 7) := World.cell?_setCell_same' _ _ _ (by rw [y1]; rfl)
    simp [Leaves, settle, results, Tryz.results65, go_sem, z1]
    exact ⟨HF.out.al.setNew (Nat.le_refl _), HO.out⟩

open Classical in
set_option maxRecDepth 100000 in
set_option maxHeartbeats 2000000 in
theorem canRun_w (f : Int) (na oa sa : Option Addr) (ln cn lo co n c5 : Nat) (N : Nat → N2) (U : Nat → O3) (s : Nat → Int) (w : World) (hn : n ≤ 1000000) (H : Hid (Tr7 w na oa ln lo N U)) (HS : Hid (IntSl w sa n s)) (HR : Hid (TreeP f ln lo N U)) (HL : Hid (LsP lo n s)) :
    Calls Tryz.prog 97 #[.agg #[.int .i64 f, .slice na ln cn, .slice oa lo co], .slice sa n c5] w fun e w' => e = .returned (.bool (decide (FitP f ln lo N U (rk U s n)))) ∧ Below w.heap.size w w' := by
  have q1 := HR.out.l6
  have q2 := HR.out.lo2
  have hmf : ∀ (fn : Fn) (first cap : Array Value) (w : World), (Instr.makeFunc fn first cap).run Tryz.prog w = .ok (.func fn first cap) w := fun _ _ _ _ => rfl
  obtain ⟨W, hW⟩ : ∃ W, W = (w.alloc (.cells #[.int .i64 f, .slice na ln cn, .slice oa lo co] 25)).alloc (.cells #[.slice sa n c5] 26) := ⟨_, rfl⟩
  have hbW : Below w.heap.size w W := by rw [hW]; exact ((Below.refl _ _).alloc (Nat.le_refl _) _).alloc (by simp) _
  have hzW : W.heap.size = w.heap.size + 1 + 1 := by rw [hW]; simp
  have HX : Hid (∀ w2, Below W.heap.size W w2 → w2.cell? ⟨w.heap.size, 0, none⟩ = some (.int .i64 f) ∧ w2.cell? ⟨w.heap.size, 1, none⟩ = some (.slice na ln cn) ∧ w2.cell? ⟨w.heap.size, 2, none⟩ = some (.slice oa lo co) ∧ w2.cell? ⟨w.heap.size + 1, 0, none⟩ = some (.slice sa n c5)) := Lib.hid fun w2 h => by
    obtain ⟨c, _⟩ := bcell h
    exact ⟨(c _ _ (by omega)).trans (by rw [hW]; simp), (c _ _ (by omega)).trans (by rw [hW]; simp), (c _ _ (by omega)).trans (by rw [hW]; simp), (c _ _ (by omega)).trans (by rw [hW]; simp)⟩
  have HU : Hid (∀ w2, Calls Tryz.prog 64 #[.agg #[.int .i64 f, .slice na ln cn, .slice oa lo co]] w2 fun e w' =>
      (∃ sv SH FL cs cf, e = .returned (.pointer (some ⟨sv, 0, none⟩)) ∧ SvAt w' sv SH FL f na oa ln cn lo co cs cf (fun _ => 0) (fun _ => 0) ∧ w2.heap.size ≤ sv ∧ w2.heap.size ≤ SH ∧ w2.heap.size ≤ FL) ∧ Below w2.heap.size w2 w') := Lib.hid fun w2 => unserved_w f na oa ln cn lo co w2 q1 q2
  have HBW := Lib.hid hbW
  have HZW := Lib.hid hzW
  have HAT : Hid (∀ (w2 w3 : World) (sv SH FL cs cf : Nat), Below W.heap.size W w2 → Below w2.heap.size w2 w3 → SvAt w3 sv SH FL f na oa ln cn lo co cs cf (fun _ => 0) (fun _ => 0) → w2.heap.size ≤ sv → w2.heap.size ≤ SH → w2.heap.size ≤ FL →
      Calls Tryz.prog 65 #[.func (.func 142) #[] #[.pointer (some ⟨w.heap.size + 1, 0, none⟩), .pointer (some ⟨w3.heap.size, 0, none⟩)]] (w3.alloc (.cells #[.pointer (some ⟨sv, 0, none⟩)] 90)) fun e W' => Below w.heap.size w W' ∧ ((e = .returned (.int .i64 0) ∧ FitP f ln lo N U (rk U s n)) ∨ (e = .returned (.int .i64 7) ∧ ¬ FitP f ln lo N U (rk U s n)))) := Lib.hid fun w2 w3 sv SH FL cs cf h1 h2 h3 h4 h5 h6 => by
    have b4 := newbox_b w3 (.pointer (some ⟨sv, 0, none⟩)) 90
    have hsz := h1.size
    have hb2 : Below w.heap.size w w2 := HBW.out.trans (h1.mono HBW.out.size)
    have g1 := h3.bh
    have g2 := h3.bf
    have g3 := HZW.out
    have x4 := (HX.out _ ((h1.trans (h2.mono hsz)).trans (b4.mono (Nat.le_trans hsz h2.size)))).2.2.2
    refine (attempt_r f na oa sa ln cn lo co cs cf n c5 sv SH FL w3.heap.size (w.heap.size + 1) N U s w2 _ (Lib.hid ⟨HR.out, H.out.below hb2, h4, h5, h6⟩) (h2.trans (b4.mono h2.size)) hn HL (Lib.hid (HS.out.below hb2)) (newbox_c _ _ _) x4 ⟨by omega, by omega⟩ ⟨by omega, by omega⟩ (Lib.hid (svs_zero (h3.below b4)))).mono ?_
    rintro e W' ⟨hf, hc⟩
    exact ⟨((hb2.trans (h2.mono hb2.size)).trans (b4.mono (Nat.le_trans hb2.size h2.size))).trans (hf.below (by have := b4.size; have := h2.size; have := hb2.size; omega) (by have := hb2.size; simp; omega)), hc⟩
  obtain ⟨x1, x2, x3, x4⟩ := HX.out _ (Below.refl _ _)
  have hb := Below.refl W.heap.size W
  clear hbW hzW
  go_enter Tryz.func97, Tryz.ntmps97
  go_wp2_with (first
    | (go_at_call 64; rw [← hW]; refine (HU.out _).mono ?_; rintro e w3 ⟨⟨sv, SH, FL, cs, cf, rfl, h1, h2, h3, h4⟩, hv⟩)
    | (go_at_call 65; refine (HAT.out _ _ sv SH FL cs cf (Below.refl _ _) hv h1 h2 h3 h4).mono ?_; rintro e w5 ⟨hb5, ⟨rfl, hF⟩ | ⟨rfl, hF⟩⟩))
  · exact bodyPost_ret (v := .bool true) (by simp [results, Tryz.results97, go_sem]) rfl ⟨by rw [decide_eq_true hF], hb5⟩
  · exact bodyPost_ret (v := .bool false) (by simp [results, Tryz.results97, go_sem]) rfl ⟨by rw [decide_eq_false hF], hb5⟩
end Go.Kn

namespace Go.Kn
open Go Go.Proofs Go.RowKit

set_option maxRecDepth 100000 in
set_option maxHeartbeats 2000000 in
/-- slices.Index -/
theorem index_w (pa : Option Addr) (m c : Nat) (s : Nat → Int) (x : Int) (w : World) (hm : m ≤ 1000000) (HS : Hid (IntSl w pa m s)) :
    Calls Tryz.prog 144 #[.slice pa m c, .int .i64 x] w fun e w' => (∃ r, e = .returned (.int .i64 r) ∧ ((r = -1 ∧ hasB s x m = false) ∨ ∃ i : Nat, r = (i : Int) ∧ i < m ∧ s i = x)) ∧ w' = w := by
  go_enter Tryz.func144, Tryz.ntmps144
  go_wp2
  go_loopw [8] (fun ii wr => ∃ k : Nat, k ≤ m ∧ ii = .int .i64 (k : Int) ∧ hasB s x k = false ∧ wr = w) (fun ii _ => m - (Go.RowKit.intOf ii).toNat)
  case atStart => exact ⟨0, Nat.zero_le _, rfl, rfl, rfl⟩
  case round =>
    obtain ⟨k, hk, rfl, hno, rfl⟩ := hrel
    have HNO := Lib.hid hno
    clear hno
    by_cases hlt : k < m
    · obtain ⟨A, O, rfl, hA, hN⟩ := HS.out.resolve_left (by omega)
      have y1 := hN k hlt
      have n1 : (0 : Int) ≤ (k : Int) := by omega
      have n2 : (k : Int) < (m : Int) := by omega
      clear hN
      by_cases he : x = s k
      · have HE := Lib.hid he
        go_wp2
        go_ret
        exact ⟨⟨(k : Int), rfl, .inr ⟨k, rfl, hlt, HE.out.symm⟩⟩, rfl⟩
      · have HE := Lib.hid (hasB_no HNO.out (fun h => he h.symm))
        go_wp2
        go_roundw
        case rel => exact ⟨k + 1, by omega, by go_num, HE.out, by first | rfl | trivial⟩
        case measure => simp [Go.RowKit.intOf]; omega
    · obtain rfl : k = m := by omega
      go_wp2
      go_ret
      exact ⟨⟨-1, rfl, .inl ⟨rfl, HNO.out⟩⟩, rfl⟩

set_option maxRecDepth 100000 in
set_option maxHeartbeats 2000000 in
/-- slices.Contains -/
theorem contains_w (pa : Option Addr) (m c : Nat) (s : Nat → Int) (x : Int) (w : World) (hm : m ≤ 1000000) (HS : Hid (IntSl w pa m s)) :
    Calls Tryz.prog 141 #[.slice pa m c, .int .i64 x] w fun e w' => e = .returned (.bool (hasB s x m)) ∧ w' = w := by
  go_enter Tryz.func141, Tryz.ntmps141
  go_wp2_with (go_at_call 144; refine (index_w pa m c s x _ hm HS).mono ?_; rintro e w2 ⟨⟨r, rfl, ⟨rfl, hb⟩ | ⟨i, rfl, hi, hs⟩⟩, rfl⟩)
  · go_ret
    exact ⟨by rw [hb]; rfl, rfl⟩
  · have n1 : (0 : Int) ≤ (i : Int) := by omega
    go_wp2
    go_ret
    exact ⟨by rw [hasB_yes hi hs]; simp, rfl⟩

set_option maxRecDepth 100000 in
set_option maxHeartbeats 2000000 in
theorem isIn_w (pa qa : Option Addr) (m c m2 c2 : Nat) (s t : Nat → Int) (x : Int) (w : World) (hm : m ≤ 1000000) (hm2 : m2 ≤ 1000000) (HS : Hid (IntSl w pa m s)) (HT : Hid (IntSl w qa m2 t)) :
    Calls Tryz.prog 96 #[.slice pa m c, .slice qa m2 c2, .int .i64 x] w fun e w' => e = .returned (.bool (hasB s x m && !hasB t x m2)) ∧ w' = w := by
  cases h1 : hasB s x m <;> cases h2 : hasB t x m2
  all_goals
    have H1 := Lib.hid h1
    have H2 := Lib.hid h2
    clear h1 h2
    go_enter Tryz.func96, Tryz.ntmps96
    go_wp2_with (go_at_call 141; first
      | (refine (contains_w pa m c s x _ hm HS).mono ?_; rw [H1.out]; rintro e w2 ⟨rfl, rfl⟩)
      | (refine (contains_w qa m2 c2 t x _ hm2 HT).mono ?_; rw [H2.out]; rintro e w2 ⟨rfl, rfl⟩))
    go_ret
    exact ⟨rfl, rfl⟩
end Go.Kn

namespace Go.Kn
open Go Go.Proofs Go.RowKit

/-- ints in a block of one's own, that can be written -/
structure IntOwn (w : World) (base g n : Nat) (s : Nat → Int) : Prop where
  lo : base ≤ g
  lt : g < w.heap.size
  at_ : NumAt w g 0 n s
  fr : ∀ i, i < n → w.frozen? ⟨g, i, none⟩ = false
theorem IntOwn.of {w : World} {base n : Nat} {v : Value} {s : Nat → Int} (h : w.ownsRow base 3 1 v n ((upto s n).map (Value.int .i64))) (h0 : 0 < n) : ∃ g cap, v = .slice (some ⟨g, 0, none⟩) n cap ∧ IntOwn w base g n s := by
  rcases h.2 with ⟨h1, h2⟩ | ⟨g, cap, cur, h1, hb, hg, hn, hc, hs, hx⟩
  · omega
  · refine ⟨g, cap, h1, hb, (Array.getElem?_eq_some_iff.1 hg).1, fun i hi => ?_, fun i hi => by simp [World.frozen?, hg]⟩
    have e1 : ((upto s n).map (Value.int .i64))[i]? = some (.int .i64 (s i)) := by simp [upto, hi]
    rw [← hx, List.getElem?_take] at e1
    split at e1
    · simp only [Array.getElem?_toList] at e1
      rw [Nat.zero_add]
      simp [World.cell?, hg, e1]
    · cases e1

theorem eqnil26 (B O n c : Nat) (w : World) : (binOp BinOp.eql 26 (Value.slice (some ⟨B, O, none⟩) n c) (Value.slice none 0 0)).run Tryz.prog w = .ok (.bool false) w := by
  first | kernel_rfl | (simp [binOp, go_sem])

set_option maxRecDepth 100000 in
set_option maxHeartbeats 2000000 in
/-- slices.Clone of a list that is not empty -/
theorem cloneI_w (B O n cs : Nat) (z : Nat → Int) (hn1 : 1 ≤ n) (hn : n ≤ 1000000) (w : World) (hB : B < w.heap.size) (hc : Hid (NumAt w B O n z)) :
    Calls Tryz.prog 143 #[.slice (some ⟨B, O, none⟩) n cs] w
      fun e w' => (∃ g cap, e = .returned (.slice (some ⟨g, 0, none⟩) n cap) ∧ IntOwn w' w.heap.size g n z) ∧ Below w.heap.size w w' := by
  obtain ⟨i0, hi, hz0, hz1, hz2⟩ := info_parts info3'
  have HN : Hid (∀ o : Obj, ∀ (j : Nat) (u : Value), ((upto z n).map (Value.int .i64))[j]? = some u → (w.alloc o).cell? ((⟨B, O, none⟩ : Addr).add j) = some u) := Lib.hid fun o j u hu => by
    have hj : j < n := by
      have := (List.getElem?_eq_some_iff.1 hu).1
      simpa [upto] using this
    have e : u = .int .i64 (z j) := by simpa [upto, hj] using hu.symm
    rw [addr_add, e]
    exact (World.cell?_alloc_lt w o _ hB).trans (hc.out j hj)
  have hnil := eqnil26 B O n cs
  go_enter Tryz.func143, Tryz.ntmps143
  go_wp2_with (at_builtin; refine wpList_append_own _ rfl _ _ 26 rfl w.heap.size 3 i0 _ 1 8 Tryz.underlying26 hi hz0 hz1 hz2 rfl (by decide) (.slice (some ⟨w.heap.size, 0, none⟩) 0 0) 0 [] rfl (World.ownsRow_lit (e := 3) (size := 1) w #[] 0 (Nat.le_refl _) (by decide) rfl) ⟨B, O, none⟩ n cs ((upto z n).map (Value.int .i64)) rfl (by simp [upto]) (HN.out _) (by intro u hu; simp at hu; obtain ⟨x, _, rfl⟩ := hu; rfl) (by unfold maxLen; omega) (by omega) (by simp) ?_; intro v' w7 hown7 hgrow7 _)
  rw [Nat.zero_add, List.nil_append] at hown7
  obtain ⟨g, cap, rfl, ho⟩ := IntOwn.of hown7 hn1
  go_ret
  exact ⟨⟨g, cap, rfl, ho⟩, ((Below.refl _ _).alloc (Nat.le_refl _) _).grown hgrow7 (by simp) (fun k e => by simp [Value.ownBlock] at e; omega)⟩

/-- a list in which one number is another one -/
def updI (s : Nat → Int) (i : Nat) (x : Int) : Nat → Int := fun j => if j = i then x else s j
theorem NumAt.upd {w : World} {g n i : Nat} {s : Nat → Int} (h : NumAt w g 0 n s) (hi : i < n) (x : Int) : NumAt (w.setCell ⟨g, i, none⟩ (.int .i64 x)) g 0 n (updI s i x) := by
  intro j hj
  have hc := h j hj
  rw [Nat.zero_add] at hc ⊢
  unfold updI
  by_cases e : j = i
  · subst e; rw [if_pos rfl]; exact World.cell?_setCell_same' _ _ _ (by rw [hc]; rfl)
  · rw [if_neg e]; exact (World.cell?_setCell_other _ _ _ _ (by intro e2; cases e2; exact e rfl)).trans hc

set_option maxRecDepth 100000 in
set_option maxHeartbeats 2000000 in
theorem instead_w (A O n c5 : Nat) (s : Nat → Int) (x y : Int) (w : World) (hn : n ≤ 1000000) (hA : A < w.heap.size) (HN : Hid (NumAt w A O n s)) (hx : hasB s x n = true) :
    Calls Tryz.prog 98 #[.slice (some ⟨A, O, none⟩) n c5, .int .i64 x, .int .i64 y] w fun e w' => (∃ g cap i, e = .returned (.slice (some ⟨g, 0, none⟩) n cap) ∧ i < n ∧ s i = x ∧ w.heap.size ≤ g ∧ g < w'.heap.size ∧ NumAt w' g 0 n (updI s i y)) ∧ Below w.heap.size w w' := by
  have HXB := Lib.hid hx
  have hn1 : 1 ≤ n := by
    obtain ⟨i, hi, _⟩ := (hasB_iff n).1 hx
    omega
  clear hx
  go_enter Tryz.func98, Tryz.ntmps98
  go_wp2_with (first
    | (go_at_call 143; refine (cloneI_w A O n c5 s hn1 hn _ hA HN).mono ?_; rintro e w5 ⟨⟨g, cap, rfl, ho⟩, hb5⟩)
    | (go_at_call 144; refine (index_w _ n c5 s x _ hn (Lib.hid (.inr ⟨A, O, rfl, Nat.lt_of_lt_of_le hA hb5.size, HN.out.below hA hb5⟩))).mono ?_; rintro e w6 ⟨⟨r, rfl, hr⟩, rfl⟩; obtain ⟨i, rfl, hi, hs⟩ := hr.resolve_left (fun h => by have h2 := h.2; rw [HXB.out] at h2; cases h2); have n1 : (0 : Int) ≤ (i : Int) := (by omega); have n2 : (i : Int) < (n : Int) := (by omega); have y1 := ho.at_ i hi; rw [Nat.zero_add] at y1; have y2 := ho.fr i hi))
  have hb7 : Below w.heap.size w (w6.setCell ⟨g, i, none⟩ (.int .i64 y)) := hb5.setCell (by exact ho.lo) _
  exact bodyPost_ret (v := .slice (some ⟨g, 0, none⟩) n cap) (by simp [results, Tryz.results98, go_sem]) rfl ⟨⟨g, cap, i, rfl, hi, hs, ho.lo, by simp only [World.size_setCell]; exact ho.lt, ho.at_.upd hi y⟩, hb7⟩
end Go.Kn

namespace Go.Kn
open Go Go.Proofs Go.RowKit

/-- a day of a plan: a list of outlets -/
structure Dy where
  a : Option Addr
  n : Nat
  c : Nat
  s : Nat → Int
def Dy.v (d : Dy) : Value := .slice d.a d.n d.c
/-- a plan in memory -/
def PlAt (w : World) (A O lp : Nat) (D : Nat → Dy) : Prop := ∀ d, d < lp → w.cell? ⟨A, O + d, none⟩ = some (.slice (D d).a (D d).n (D d).c) ∧ IntSl w (D d).a (D d).n (D d).s
def PlSl (w : World) (pa : Option Addr) (lp : Nat) (D : Nat → Dy) : Prop := lp = 0 ∨ ∃ A O, pa = some ⟨A, O, none⟩ ∧ A < w.heap.size ∧ PlAt w A O lp D
theorem PlAt.below {w w1 : World} {A O lp : Nat} {D : Nat → Dy} (h : PlAt w A O lp D) (hA : A < w.heap.size) (hb : Below w.heap.size w w1) : PlAt w1 A O lp D := fun d hd => ⟨(hb.cell (p := ⟨A, O + d, none⟩) hA).trans (h d hd).1, (h d hd).2.below hb⟩
theorem PlSl.below {w w1 : World} {pa : Option Addr} {lp : Nat} {D : Nat → Dy} (h : PlSl w pa lp D) (hb : Below w.heap.size w w1) : PlSl w1 pa lp D := by
  rcases h with h | ⟨A, O, h1, h2, h3⟩
  · exact .inl h
  · exact .inr ⟨A, O, h1, Nat.lt_of_lt_of_le h2 hb.size, h3.below h2 hb⟩
theorem PlSl.day {w : World} {pa : Option Addr} {lp : Nat} {D : Nat → Dy} (h : PlSl w pa lp D) {d : Nat} (hd : d < lp) : IntSl w (D d).a (D d).n (D d).s := by
  rcases h with h | ⟨A, O, _, _, h3⟩
  · omega
  · exact (h3 d hd).2

/-- whether all of the first are right -/
def allN (B : Nat → Bool) : Nat → Bool
  | 0 => true
  | k + 1 => allN B k && B k
theorem allN_iff {B : Nat → Bool} : ∀ k, allN B k = true ↔ ∀ i, i < k → B i = true
  | 0 => by simp [allN]
  | k + 1 => by
    simp only [allN, Bool.and_eq_true, allN_iff k]
    constructor
    · rintro ⟨h1, h2⟩ i hi
      by_cases e : i = k
      · subst e; exact h2
      · exact h1 i (by omega)
    · intro h
      exact ⟨fun i hi => h i (by omega), h k (by omega)⟩
theorem allN_no {B : Nat → Bool} {k m : Nat} (hk : k < m) (h : B k = false) : allN B m = false := by
  cases e : allN B m with
  | false => rfl
  | true => have := (allN_iff m).1 e k hk; rw [h] at this; cases this
theorem allN_next {B : Nat → Bool} {k : Nat} (h : allN B k = true) (hk : B k = true) : allN B (k + 1) = true := by simp [allN, h, hk]
theorem allN_congr {B C : Nat → Bool} : ∀ k, (∀ i, i < k → B i = C i) → allN B k = allN C k
  | 0, _ => rfl
  | k + 1, h => by simp only [allN]; rw [allN_congr k (fun i hi => h i (by omega)), h k (by omega)]

set_option maxRecDepth 100000 in
set_option maxHeartbeats 2000000 in
theorem slim_w (pa : Option Addr) (lp cp : Nat) (D : Nat → Dy) (w : World) (hlp : lp ≤ maxLen) (HP : Hid (PlSl w pa lp D)) :
    Calls Tryz.prog 41 #[.slice pa lp cp] w fun e w' => e = .returned (.bool (decide (lp ≤ 12) && allN (fun d => decide ((D d).n ≤ 10)) lp)) ∧ w' = w := by
  unfold maxLen at hlp
  go_enter Tryz.func41, Tryz.ntmps41
  go_wp2
  go_loopw [3] (fun ii wr => ∃ k : Nat, k ≤ lp ∧ k ≤ 14 ∧ ii = .int .i64 (k : Int) ∧ allN (fun d => decide ((D d).n ≤ 10)) k = true ∧ wr = w) (fun ii _ => 14 - (Go.RowKit.intOf ii).toNat)
  case atStart => exact ⟨0, Nat.zero_le _, by omega, rfl, rfl, rfl⟩
  case round =>
    obtain ⟨k, hk, hk4, rfl, hal, rfl⟩ := hrel
    have HAL := Lib.hid hal
    clear hal
    by_cases hlt : k < lp
    · have n2 : (k : Int) < (lp : Int) := by omega
      by_cases h14 : k < 14
      · have n3 : (k : Int) < 14 := by omega
        have n1 : (0 : Int) ≤ (k : Int) := by omega
        obtain ⟨A, O, rfl, hA, hN⟩ := HP.out.resolve_left (by omega)
        have y1 := (hN k hlt).1
        clear hN
        by_cases hd : (D k).n ≤ 10
        · have n4 : ¬ (10 : Int) < ((D k).n : Int) := by omega
          have HD := Lib.hid (allN_next HAL.out (decide_eq_true hd))
          clear hd
          go_wp2
          go_roundw
          case rel => exact ⟨k + 1, by omega, by omega, by go_num, HD.out, by first | rfl | trivial⟩
          case measure => simp [Go.RowKit.intOf]; omega
        · have n4 : (10 : Int) < ((D k).n : Int) := by omega
          have HD := Lib.hid (allN_no (B := fun d => decide ((D d).n ≤ 10)) hlt (decide_eq_false hd))
          clear hd
          go_wp2
          go_ret
          exact ⟨by rw [HD.out, Bool.and_false]; rfl, rfl⟩
      · have n3 : ¬ (k : Int) < 14 := by omega
        have n5 : ¬ (lp : Int) ≤ 12 := by omega
        have hl : ¬ lp ≤ 12 := by omega
        have HL := Lib.hid hl
        clear hl
        go_wp2
        go_ret
        exact ⟨by rw [decide_eq_false HL.out, Bool.false_and]; simp [n5], rfl⟩
    · obtain rfl : k = lp := by omega
      have n2 : ¬ (k : Int) < (k : Int) := by omega
      by_cases h12 : k ≤ 12
      · have n5 : (k : Int) ≤ 12 := by omega
        have HL := Lib.hid h12
        clear h12
        go_wp2
        go_ret
        exact ⟨by rw [decide_eq_true HL.out, HAL.out]; simp [n5], rfl⟩
      · have n5 : ¬ (k : Int) ≤ 12 := by omega
        have HL := Lib.hid h12
        clear h12
        go_wp2
        go_ret
        exact ⟨by rw [decide_eq_false HL.out, Bool.false_and]; simp [n5], rfl⟩
end Go.Kn

namespace Go.Kn
open Go Go.Proofs Go.RowKit Go.ChangeShapes Go.WideShapes Go.Deep

section
variable {H : Type} {enc : TypeId × Value → H} {w : World} {base : Nat} {spare : Nat → Bool} {held : Bool}

theorem plan_open {n : Nat} {v : Value} {y : DataW H × List MemPlace} (h : DataW.trod enc Tryz.prog w base spare held n 59 [v] = some y) :
    ∃ (pa : Option Addr) (lp cp : Nat) (D : Nat → Dy), v = .slice pa lp cp ∧ lp ≤ maxLen ∧ PlSl w pa lp D := by
  rcases open_slice1 Tryz.underlying59 cells26 h with ⟨h1, _⟩ | ⟨a, len, cap, m, n', V, D, Pl, h1, _, hl, hm, hmm, _, hi⟩
  · exact ⟨none, 0, 0, fun _ => ⟨none, 0, 0, fun _ => 0⟩, by simpa using h1, by decide, .inl rfl⟩
  · have hml : len ≤ m := by rw [hmm]; split <;> omega
    have key : ∀ i, i < len → ∃ d : Dy, w.cell? (a.add i) = some (.slice d.a d.n d.c) ∧ IntSl w d.a d.n d.s := by
      intro i hil
      obtain ⟨hc, ht⟩ := hi i (by omega)
      obtain ⟨sa, ls, cs, s, hv, _, hs⟩ := int_open ht
      exact ⟨⟨sa, ls, cs, s⟩, by rw [hc, hv], hs⟩
    by_cases h0 : len = 0
    · exact ⟨some a, len, cap, fun _ => ⟨none, 0, 0, fun _ => 0⟩, by simpa using h1, by omega, .inl h0⟩
    · have hc0 := (hi 0 (by omega)).1
      have ea : a.add 0 = a := rfl
      rw [ea] at hc0
      have e := addr_mk hc0
      refine ⟨some a, len, cap, fun i => if h : i < len then Classical.choose (key i h) else ⟨none, 0, 0, fun _ => 0⟩, by simpa using h1, by omega, .inr ⟨a.block, a.off, by rw [← e], World.block_lt_of_cell? w a hc0, fun i hil => ?_⟩⟩
      simp only [hil, dif_pos]
      have hk := Classical.choose_spec (key i hil)
      have q : a.add i = ⟨a.block, a.off + i, none⟩ := (congrArg (fun x => Addr.add x i) e).trans (add_mk _ _ _)
      exact ⟨by rw [← q]; exact hk.1, hk.2⟩
end
end Go.Kn
