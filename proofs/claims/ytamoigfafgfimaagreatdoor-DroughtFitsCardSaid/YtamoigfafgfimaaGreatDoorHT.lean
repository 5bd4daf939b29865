/- Contracts of functions that the laws of this seat call, or the evaluator of closed calls and its runs. Conditions: as each theorem states them. -/
import Derived.Test.YtamoigfafgfimaaGreatDoorHS
import Derived.Test.YtamoigfafgfimaaGreatDoorHL
set_option linter.unusedVariables false
set_option linter.unusedSimpArgs false
namespace Go.Kn
open Go Go.Proofs Go.RowKit

/-- the shares of the first outlets -/
def tk (s : Nat → Int) (k : Nat) : Nat → Int := fun j => if j < k then s j else 0
theorem tk_zero (s : Nat → Int) : tk s 0 = fun _ => 0 := by funext j; simp [tk]
theorem tk_put (s : Nat → Int) (k : Nat) : put (tk s k) k (s k) = tk s (k + 1) := by
  funext j
  by_cases h : j = k
  · subst h; rw [put_same]; simp [tk]
  · rw [put_other h]
    unfold tk
    by_cases h2 : j < k
    · rw [if_pos h2, if_pos (by omega)]
    · rw [if_neg h2, if_neg (by omega)]
section
variable {f : Int} {ln lo : Nat} {N : Nat → N2} {U : Nat → O3} {s : Nat → Int}
theorem tk_vd (HR : TreeP f ln lo N U) (HSP : SharesP lo lo s U) {k : Nat} (hk : k < lo) (hv : Vd f ln lo N U (tk s k)) (ho : OkP f lo N U (tk s k) k (s k)) : Vd f ln lo N U (tk s (k + 1)) := by
  rw [← tk_put]; exact hv.put hk (shares_bd HR HSP hk).1 ho
theorem tk_no (HR : TreeP f ln lo N U) (HSP : SharesP lo lo s U) {k : Nat} (hk : k < lo) (ho : ¬ OkP f lo N U (tk s k) k (s k)) : ¬ FitP f ln lo N U s := by
  intro hf
  apply ho
  have hb := shares_bd HR HSP hk
  refine ⟨by simp [tk]; omega, fun m hm => ?_⟩
  have e := sumB_put (N := N) (U := U) (s := tk s k) (m := m) (i := k) (c := s k) lo
  rw [if_pos ⟨hk, hm⟩, tk_put] at e
  rw [← e]
  have h1 : sumB N U (tk s (k + 1)) m lo ≤ sumB N U s m lo := sumB_mono lo fun i hi _ => by
    have := (shares_bd HR HSP hi).1
    unfold tk; split <;> omega
  exact Int.le_trans h1 (hf m (Nat.le_trans (path_le HR _ (node_le HR hk) m hm) (node_le HR hk)))
theorem tk_all (hv : Vd f ln lo N U (tk s lo)) : FitP f ln lo N U s := fun m hm => by
  rw [sumB_congr lo (t := tk s lo) (fun i hi _ => by simp [tk, hi])]
  exact hv.fit m hm
end

set_option maxRecDepth 100000 in
set_option maxHeartbeats 2000000 in
theorem fits1_w (f : Int) (na oa sa : Option Addr) (ln cn lo co cs cf c5 sv SH FL pb qb : Nat) (N : Nat → N2) (U : Nat → O3) (s : Nat → Int) (w0 W : World) (T : Hid (Tre f na oa ln lo sv SH FL N U w0)) (hb : Below w0.heap.size w0 W)
    (HSP : Hid (SharesP lo lo s U)) (HS : Hid (IntSl w0 sa lo s)) (hp1 : W.cell? ⟨pb, 0, none⟩ = some (.pointer (some ⟨sv, 0, none⟩))) (hq1 : W.cell? ⟨qb, 0, none⟩ = some (.slice sa lo c5)) (hpn : pb ≠ SH ∧ pb ≠ FL) (hqn : qb ≠ SH ∧ qb ≠ FL)
    (H : Hid (SvS W sv SH FL f na oa ln cn lo co cs cf N U (fun _ => 0))) :
    Calls Tryz.prog 65 #[.pointer (some ⟨pb, 0, none⟩), .pointer (some ⟨qb, 0, none⟩)] W fun e W' => Frx [SH, FL] W W' ∧ ((e = .returned (.tuple #[]) ∧ FitP f ln lo N U s) ∨ (e = .panicked mis ∧ ¬ FitP f ln lo N U s)) := by
  have q1 := T.out.HR.l6
  have q2 := T.out.HR.lo2
  have hmx : Tryz.prog.follows .mixedOrders = true := by kernel_rfl
  obtain ⟨A, O, hsa, hA, hnum⟩ := HS.out.resolve_left (by have := T.out.HR.lo1; omega)
  subst hsa
  have HX : Hid (∀ w', Frx [SH, FL] W w' → w'.cell? ⟨pb, 0, none⟩ = some (.pointer (some ⟨sv, 0, none⟩)) ∧ w'.cell? ⟨qb, 0, none⟩ = some (.slice (some ⟨A, O, none⟩) lo c5) ∧ Below w0.heap.size w0 w') := Lib.hid fun w' h =>
    ⟨(h.cell (World.block_lt_of_cell? _ _ hp1) (by simp; omega)).trans hp1, (h.cell (World.block_lt_of_cell? _ _ hq1) (by simp; omega)).trans hq1, hb.trans (h.below hb.size (by have := T.out.h2; have := T.out.h3; simp; omega))⟩
  have HN : Hid (∀ w' k, Below w0.heap.size w0 w' → k < lo → w'.cell? ⟨A, O + k, none⟩ = some (.int .i64 (s k))) := Lib.hid fun w' k h hk => (h.cell (p := ⟨A, O + k, none⟩) hA).trans (hnum k hk)
  clear hnum hb hp1 hq1
  obtain ⟨x0, x00, hb0⟩ := HX.out W (Frx.refl _ _)
  have x1 := H.out.at_.c2
  clear hb0 x00
  go_enter Tryz.func65, Tryz.ntmps65
  go_wp2
  clear x0 x1
  go_loopw [9] (fun ii wr => ∃ k : Nat, k ≤ lo ∧ ii = .int .i64 (k : Int) ∧ Frx [SH, FL] W wr ∧ SvS wr sv SH FL f na oa ln cn lo co cs cf N U (tk s k) ∧ Vd f ln lo N U (tk s k)) (fun ii _ => lo - (intOf ii).toNat)
  case atStart => exact ⟨0, Nat.zero_le _, rfl, Frx.refl _ _, by rw [tk_zero]; exact H.out, by rw [tk_zero]; exact vd_zero T.out.HR⟩
  case round =>
    obtain ⟨k, hk, rfl, hfr, hsv, hvd⟩ := hrel
    have HFR := Lib.hid hfr
    have HSV := Lib.hid hsv
    have HVD := Lib.hid hvd
    clear hfr hsv hvd
    by_cases hlt : k < lo
    · obtain ⟨x0, x00, hb0⟩ := HX.out wr HFR.out
      have HY : Hid (∀ w', Below wr.heap.size wr w' → w'.cell? ⟨pb, 0, none⟩ = some (.pointer (some ⟨sv, 0, none⟩)) ∧ w'.cell? ⟨qb, 0, none⟩ = some (.slice (some ⟨A, O, none⟩) lo c5) ∧ w'.cell? ⟨A, O + k, none⟩ = some (.int .i64 (s k))) := Lib.hid fun w' h =>
        ⟨(h.cell (p := ⟨pb, 0, none⟩) (World.block_lt_of_cell? _ _ x0)).trans x0, (h.cell (p := ⟨qb, 0, none⟩) (World.block_lt_of_cell? _ _ x00)).trans x00, HN.out w' k (hb0.trans (h.mono hb0.size)) hlt⟩
      have hsb := shares_bd T.out.HR HSP.out hlt
      have HG : Hid (∀ w', Below wr.heap.size wr w' → Calls Tryz.prog 66 #[.pointer (some ⟨sv, 0, none⟩), .int .i64 (k : Int), .int .i64 (s k)] w' fun e W' => Frx [SH, FL] w' W' ∧
          ((e = .returned (.tuple #[]) ∧ OkP f lo N U (tk s k) k (s k) ∧ SvS W' sv SH FL f na oa ln cn lo co cs cf N U (put (tk s k) k (s k))) ∨ (e = .panicked mis ∧ ¬ OkP f lo N U (tk s k) k (s k) ∧ SvS W' sv SH FL f na oa ln cn lo co cs cf N U (tk s k)))) := Lib.hid fun w' h =>
        give_s f na oa ln cn lo co cs cf sv SH FL k (s k) N U (tk s k) w0 w' T (hb0.trans (h.mono hb0.size)) hlt ⟨hsb.1, hsb.2.2⟩ HVD (Lib.hid (HSV.out.below h))
      have n1 : (0 : Int) ≤ (k : Int) := by omega
      have n2 : (k : Int) < (lo : Int) := by omega
      clear x0 x00 hb0 hsb
      go_wp2
      refine calm_last 6 (W := wr) hmx (by kernel_rfl) (Below.refl _ _) ?_
      repeat (first
        | (refine calm_no (by rfl) ?_
           (try simp only [Act.put, List.setIfInBounds_toArray, List.set_cons_zero, List.set_cons_succ]))
        | (apply calm_yes
           focus rfl
           focus
             intro w' hw'
             obtain ⟨z1, z2, z3⟩ := HY.out w' hw'
             go_simp
             first
               | done
               | with_reducible rfl
               | fail
           (try simp only [Act.put, List.setIfInBounds_toArray, List.set_cons_zero, List.set_cons_succ])))
      refine calm_nil ?_
      intro w20 hb20
      have HB20 := Lib.hid hb20
      clear hb20
      refine wpOp_last rfl rfl ?_
      go_simp
      go_at_call 66
      refine (HG.out _ HB20.out).mono ?_
      rintro e w21 ⟨hf, ⟨rfl, ho, hs⟩ | ⟨rfl, ho, hs⟩⟩
      · have HF := Lib.hid hf
        have HO := Lib.hid ho
        have HS2 := Lib.hid hs
        clear hf ho hs
        go_wp2
        go_roundw
        case rel => exact ⟨k + 1, by omega, by go_num, (HFR.out.then_below (HB20.out.mono HFR.out.size)).trans HF.out, by rw [← tk_put]; exact HS2.out, tk_vd T.out.HR HSP.out hlt HVD.out HO.out⟩
        case measure => simp [intOf]; omega
      · have HF := Lib.hid hf
        have HO := Lib.hid ho
        clear hf ho hs
        go_wp2
        exact ⟨rfl, (HFR.out.then_below (HB20.out.mono HFR.out.size)).trans HF.out, .inr ⟨rfl, tk_no T.out.HR HSP.out hlt HO.out⟩⟩
    · have hkl : lo = k := by omega
      subst hkl
      go_wp2
      go_end0
      exact ⟨HFR.out, .inl ⟨rfl, tk_all HVD.out⟩⟩

set_option maxRecDepth 100000 in
set_option maxHeartbeats 1000000 in
theorem attempt_f (f : Int) (na oa sa : Option Addr) (ln cn lo co cs cf c5 sv SH FL pb qb : Nat) (N : Nat → N2) (U : Nat → O3) (s : Nat → Int) (w0 W : World) (T : Hid (Tre f na oa ln lo sv SH FL N U w0)) (hb : Below w0.heap.size w0 W)
    (HSP : Hid (SharesP lo lo s U)) (HS : Hid (IntSl w0 sa lo s)) (hp1 : W.cell? ⟨pb, 0, none⟩ = some (.pointer (some ⟨sv, 0, none⟩))) (hq1 : W.cell? ⟨qb, 0, none⟩ = some (.slice sa lo c5)) (hpn : pb ≠ SH ∧ pb ≠ FL) (hqn : qb ≠ SH ∧ qb ≠ FL)
    (H : Hid (SvS W sv SH FL f na oa ln cn lo co cs cf N U (fun _ => 0))) :
    Calls Tryz.prog 64 #[.func (.func 65) #[] #[.pointer (some ⟨pb, 0, none⟩), .pointer (some ⟨qb, 0, none⟩)]] W fun e W' => Frx [SH, FL] W W' ∧ ((e = .returned (.int .i64 0) ∧ FitP f ln lo N U s) ∨ (e = .returned (.int .i64 7) ∧ ¬ FitP f ln lo N U s)) := by
  have hmf : ∀ (fn : Fn) (first cap : Array Value) (w : World), (Instr.makeFunc fn first cap).run Tryz.prog w = .ok (.func fn first cap) w := fun _ _ _ _ => rfl
  have hA : Below W.heap.size W (W.alloc (.cells #[.int .i64 0] 29)) := (Below.refl _ _).alloc (Nat.le_refl _) _
  have HG := Lib.hid (fits1_w f na oa sa ln cn lo co cs cf c5 sv SH FL pb qb N U s w0 (W.alloc (.cells #[.int .i64 0] 29)) T (hb.trans (hA.mono hb.size)) HSP HS ((hA.cell (p := ⟨pb, 0, none⟩) (World.block_lt_of_cell? _ _ hp1)).trans hp1) ((hA.cell (p := ⟨qb, 0, none⟩) (World.block_lt_of_cell? _ _ hq1)).trans hq1) hpn hqn (Lib.hid (H.out.below hA)))
  have hne : W.heap.size ≠ SH ∧ W.heap.size ≠ FL := ⟨by have := H.out.at_.bh; omega, by have := H.out.at_.bf; omega⟩
  have HC : Hid (∀ w1, Frx [SH, FL] (W.alloc (.cells #[.int .i64 0] 29)) w1 → w1.cell? ⟨W.heap.size, 0, none⟩ = some (.int .i64 0) ∧ w1.frozen? ⟨W.heap.size, 0, none⟩ = false) := Lib.hid fun w1 h =>
    ⟨(h.cell (by simp) (by simp; omega)).trans (by simp), (h.froz (by simp) (by simp; omega)).trans (by simp)⟩
  clear hb hp1 hq1 hA hne
  go_enter_defers Tryz.func64, Tryz.ntmps64
  go_wp2_with (go_at_call 65; refine HG.out.mono ?_; rintro e w2 ⟨hfr, hcase⟩; obtain ⟨y1, y2⟩ := HC.out _ hfr; have HF := Lib.hid hfr; clear hfr; rcases hcase with ⟨rfl, ho⟩ | ⟨rfl, ho⟩ <;> (have HO := Lib.hid ho; clear ho))
  · refine leaves_cons (f := 102) (args := #[.pointer (some ⟨W.heap.size, 0, none⟩)]) (by simp) (by simp [go_sem]) ?_
    refine (catch_none ⟨W.heap.size, 0, none⟩ _).mono ?_
    rintro e u' w'' ⟨rfl, rfl, rfl⟩
    have z1 : (w2.setCell ⟨W.heap.size, 0, none⟩ (.int .i64 0)).cell? ⟨W.heap.size, 0, none⟩ = some (.int .i64 0) := World.cell?_setCell_same' _ _ _ (by rw [y1]; rfl)
    simp [Leaves, settle, results, Tryz.results64, go_sem, z1]
    exact ⟨HF.out.al.setNew (Nat.le_refl _), HO.out⟩
  · refine leaves_cons (f := 102) (args := #[.pointer (some ⟨W.heap.size, 0, none⟩)]) (by simp) (by simp [go_sem]) ?_
    refine (catch_rate ⟨W.heap.size, 0, none⟩ 0 [] _ y1 y2).mono ?_
    rintro e u' w'' ⟨rfl, rfl, rfl⟩
    have z1 : (w2.setCell ⟨W.heap.size, 0, none⟩ (.int .i64 7)).cell? ⟨W.heap.size, 0, none⟩ = some (.int .i64 7) := World.cell?_setCell_same' _ _ _ (by rw [y1]; rfl)
    simp [Leaves, settle, results, Tryz.results64, go_sem, z1]
    exact ⟨HF.out.al.setNew (Nat.le_refl _), HO.out⟩
end Go.Kn

namespace Go.Kn
open Go Go.Proofs Go.RowKit

theorem newbox_b (w : World) (v : Value) (T : TypeId) : Below w.heap.size w (w.alloc (.cells #[v] T)) := (Below.refl _ _).alloc (Nat.le_refl _) _
theorem newbox_c (w : World) (v : Value) (T : TypeId) : (w.alloc (.cells #[v] T)).cell? ⟨w.heap.size, 0, none⟩ = some v := by simp
theorem sumB_zero {N : Nat → N2} {U : Nat → O3} {m : Nat} : ∀ k, sumB N U (fun _ => 0) m k = 0
  | 0 => rfl
  | k + 1 => by simp only [sumB]; rw [sumB_zero k]; split <;> rfl
theorem svs_zero {w : World} {sv SH FL : Nat} {f : Int} {na oa : Option Addr} {ln cn lo co cs cf : Nat} {N : Nat → N2} {U : Nat → O3} (h : SvAt w sv SH FL f na oa ln cn lo co cs cf (fun _ => 0) (fun _ => 0)) : SvS w sv SH FL f na oa ln cn lo co cs cf N U (fun _ => 0) :=
  ⟨by rw [show (fun m => sumB N U (fun _ => 0) m lo) = fun _ => 0 from funext fun m => sumB_zero lo]; exact h⟩

set_option maxRecDepth 100000 in
set_option maxHeartbeats 2000000 in
theorem fits_w (f : Int) (na oa sa : Option Addr) (ln cn lo co c5 : Nat) (N : Nat → N2) (U : Nat → O3) (s : Nat → Int) (w : World) (hlz : lo ≤ maxLen) (H : Hid (Tr7 w na oa ln lo N U)) (HS : Hid (IntSl w sa lo s)) (HR : Hid (TreeP f ln lo N U)) (HSP : Hid (SharesP lo lo s U)) :
    Calls Tryz.prog 17 #[.agg #[.int .i64 f, .slice na ln cn, .slice oa lo co], .slice sa lo c5] w fun e w' => (∃ rb : Bool, e = .returned (.tuple #[.bool rb, .int .i64 0]) ∧ (rb = true ↔ FitP f ln lo N U s)) ∧ Below w.heap.size w w' := by
  have q1 := HR.out.l6
  have q2 := HR.out.lo2
  have hmf : ∀ (fn : Fn) (first cap : Array Value) (w : World), (Instr.makeFunc fn first cap).run Tryz.prog w = .ok (.func fn first cap) w := fun _ _ _ _ => rfl
  obtain ⟨W, hW⟩ : ∃ W, W = (w.alloc (.cells #[.int .i64 f, .slice na ln cn, .slice oa lo co] 25)).alloc (.cells #[.slice sa lo c5] 26) := ⟨_, rfl⟩
  have hbW : Below w.heap.size w W := by rw [hW]; exact ((Below.refl _ _).alloc (Nat.le_refl _) _).alloc (by simp) _
  have hzW : W.heap.size = w.heap.size + 1 + 1 := by rw [hW]; simp
  have HX : Hid (∀ w2, Below W.heap.size W w2 → w2.cell? ⟨w.heap.size, 0, none⟩ = some (.int .i64 f) ∧ w2.cell? ⟨w.heap.size, 1, none⟩ = some (.slice na ln cn) ∧ w2.cell? ⟨w.heap.size, 2, none⟩ = some (.slice oa lo co) ∧ w2.cell? ⟨w.heap.size + 1, 0, none⟩ = some (.slice sa lo c5)) := Lib.hid fun w2 h => by
    obtain ⟨c, _⟩ := bcell h
    exact ⟨(c _ _ (by omega)).trans (by rw [hW]; simp), (c _ _ (by omega)).trans (by rw [hW]; simp), (c _ _ (by omega)).trans (by rw [hW]; simp), (c _ _ (by omega)).trans (by rw [hW]; simp)⟩
  have HIT : Hid (Calls Tryz.prog 61 #[.agg #[.int .i64 f, .slice na ln cn, .slice oa lo co]] W fun e w' => e = .returned (.bool true) ∧ Below W.heap.size W w') := Lib.hid ((isTree_w f na oa ln cn lo co N U W (by omega) (by omega) (Lib.hid (H.out.below hbW))).mono fun e w' ⟨⟨rb, he, hrb⟩, hb⟩ => ⟨by rw [he, hrb.2 HR.out], hb⟩)
  have HAS : Hid (∀ w2, Below W.heap.size W w2 → Calls Tryz.prog 62 #[.agg #[.int .i64 f, .slice na ln cn, .slice oa lo co], .slice sa lo c5] w2 fun e w' => e = .returned (.bool true) ∧ Below W.heap.size W w') := Lib.hid fun w2 h => (areShares_w f na oa sa ln cn lo co lo c5 N U s w2 (by omega) hlz (Lib.hid (H.out.below (hbW.trans (h.mono hbW.size)))) (Lib.hid (HS.out.below (hbW.trans (h.mono hbW.size))))).mono fun e w' ⟨⟨rb, he, hrb⟩, hb⟩ => ⟨by rw [he, hrb.2 HSP.out], h.trans (hb.mono h.size)⟩
  have HU : Hid (∀ w2, Calls Tryz.prog 63 #[.agg #[.int .i64 f, .slice na ln cn, .slice oa lo co]] w2 fun e w' =>
      (∃ sv SH FL cs cf, e = .returned (.pointer (some ⟨sv, 0, none⟩)) ∧ SvAt w' sv SH FL f na oa ln cn lo co cs cf (fun _ => 0) (fun _ => 0) ∧ w2.heap.size ≤ sv ∧ w2.heap.size ≤ SH ∧ w2.heap.size ≤ FL) ∧ Below w2.heap.size w2 w') := Lib.hid fun w2 => unserved_w f na oa ln cn lo co w2 q1 q2
  have HBW := Lib.hid hbW
  have HZW := Lib.hid hzW
  have HAT : Hid (∀ (w2 w3 : World) (sv SH FL cs cf : Nat), Below W.heap.size W w2 → Below w2.heap.size w2 w3 → SvAt w3 sv SH FL f na oa ln cn lo co cs cf (fun _ => 0) (fun _ => 0) → w2.heap.size ≤ sv → w2.heap.size ≤ SH → w2.heap.size ≤ FL →
      Calls Tryz.prog 64 #[.func (.func 65) #[] #[.pointer (some ⟨w3.heap.size, 0, none⟩), .pointer (some ⟨w.heap.size + 1, 0, none⟩)]] (w3.alloc (.cells #[.pointer (some ⟨sv, 0, none⟩)] 80)) fun e W' => Below w.heap.size w W' ∧ ((e = .returned (.int .i64 0) ∧ FitP f ln lo N U s) ∨ (e = .returned (.int .i64 7) ∧ ¬ FitP f ln lo N U s))) := Lib.hid fun w2 w3 sv SH FL cs cf h1 h2 h3 h4 h5 h6 => by
    have b4 := newbox_b w3 (.pointer (some ⟨sv, 0, none⟩)) 80
    have hsz := h1.size
    have hb2 : Below w.heap.size w w2 := HBW.out.trans (h1.mono HBW.out.size)
    have g1 := h3.bh
    have g2 := h3.bf
    have g3 := HZW.out
    have x4 := (HX.out _ ((h1.trans (h2.mono hsz)).trans (b4.mono (Nat.le_trans hsz h2.size)))).2.2.2
    refine (attempt_f f na oa sa ln cn lo co cs cf c5 sv SH FL w3.heap.size (w.heap.size + 1) N U s w2 _ (Lib.hid ⟨HR.out, H.out.below hb2, h4, h5, h6⟩) (h2.trans (b4.mono h2.size)) HSP (Lib.hid (HS.out.below hb2)) (newbox_c _ _ _) x4 ⟨by omega, by omega⟩ ⟨by omega, by omega⟩ (Lib.hid (svs_zero (h3.below b4)))).mono ?_
    rintro e W' ⟨hf, hc⟩
    exact ⟨((hb2.trans (h2.mono hb2.size)).trans (b4.mono (Nat.le_trans hb2.size h2.size))).trans (hf.below (by have := b4.size; have := h2.size; have := hb2.size; omega) (by have := hb2.size; simp; omega)), hc⟩
  clear hbW hzW
  go_enter Tryz.func17, Tryz.ntmps17
  go_wp2_with (first
    | (go_at_call 61; rw [← hW]; refine HIT.out.mono ?_; rintro e w1 ⟨rfl, hb1⟩; obtain ⟨x1, x2, x3, x4⟩ := HX.out _ hb1)
    | (go_at_call 62; refine (HAS.out _ hb1).mono ?_; rintro e w2 ⟨rfl, hb2⟩; clear x1 x2 x3 x4; obtain ⟨x1, x2, x3, x4⟩ := HX.out _ hb2)
    | (go_at_call 63; refine (HU.out w2).mono ?_; rintro e w3 ⟨⟨sv, SH, FL, cs, cf, rfl, hsv, h4, h5, h6⟩, hb3⟩; have HSV := Lib.hid hsv; have H456 := Lib.hid (And.intro h4 (And.intro h5 h6)); have HB3 := Lib.hid hb3; clear hsv h4 h5 h6 hb3)
    | (go_at_call 64; refine (HAT.out w2 w3 sv SH FL cs cf hb2 HB3.out HSV.out H456.out.1 H456.out.2.1 H456.out.2.2).mono ?_; rintro e w5 ⟨hb5, hcase⟩; have HB5 := Lib.hid hb5; clear hb5; rcases hcase with ⟨rfl, ho⟩ | ⟨rfl, ho⟩ <;> (have HO := Lib.hid ho; clear ho)))
  · refine bodyPost_ret (v := .tuple #[.bool true, .int .i64 0]) (by simp [results, Tryz.results17, go_sem]) rfl ⟨⟨true, rfl, fun _ => HO.out, fun _ => rfl⟩, HB5.out⟩
  · refine bodyPost_ret (v := .tuple #[.bool false, .int .i64 0]) (by simp [results, Tryz.results17, go_sem]) rfl ⟨⟨false, rfl, no_iff HO.out⟩, HB5.out⟩

set_option maxHeartbeats 1000000 in
theorem lawft_w (f : Int) (na oa sa : Option Addr) (ln cn lo co ls cs : Nat) (N : Nat → N2) (U : Nat → O3) (s : Nat → Int) (w : World) (hls : ln ≤ maxLen) (hlt : lo ≤ maxLen) (hlz : ls ≤ maxLen) (H : Tr7 w na oa ln lo N U) (HS : IntSl w sa ls s) (K : KnownOk) :
    Calls Tryz.prog 3 #[.agg #[.int .i64 f, .slice na ln cn, .slice oa lo co], .slice sa ls cs] w
      fun e w' => e = .returned (.bool true) ∧ Below w.heap.size w w' := by
  by_cases hq : ln ≤ 8 ∧ lo ≤ 10
  · by_cases hq2 : 12 < ls
    · exact lawft_b f na oa sa ln cn lo co ls cs N U s w (by omega) (by omega) hlz (Lib.hid H) (Lib.hid HS) (Lib.hid K) hq hq2
    · by_cases HR : TreeP f ln lo N U
      · by_cases HSP : SharesP ls lo s U
        · obtain rfl := HSP.len
          exact lawft_e f na oa sa ln cn ls co cs N U s w (by omega) (by omega) hlz (Lib.hid H) (Lib.hid HS) (Lib.hid K) hq hq2 (Lib.hid HR) (Lib.hid HSP) (Lib.hid fun w1 h1 h2 => fits_w f na oa sa ln cn ls co cs N U s w1 hlz h1 h2 (Lib.hid HR) (Lib.hid HSP))
        · exact lawft_d f na oa sa ln cn lo co ls cs N U s w (by omega) (by omega) hlz (Lib.hid H) (Lib.hid HS) (Lib.hid K) hq hq2 (Lib.hid HR) (Lib.hid HSP)
      · exact lawft_c f na oa sa ln cn lo co ls cs N U s w (by omega) (by omega) hlz (Lib.hid H) (Lib.hid HS) (Lib.hid K) hq hq2 (Lib.hid HR)
  · exact lawft_a f na oa sa ln cn lo co ls cs N U s w hls hlt hlz (Lib.hid H) (Lib.hid HS) (Lib.hid K) hq
end Go.Kn
