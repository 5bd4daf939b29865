/- Contracts of functions that the laws of this seat call, or the evaluator of closed calls and its runs. Conditions: as each theorem states them. -/
import Derived.Test.YtpfbfdcpibajoaaGreatDoorJO
set_option linter.unusedVariables false
set_option linter.unusedSimpArgs false
namespace Go.Kn
open Go Go.Proofs Go.RowKit
theorem run_append_nilU {P : Program} {w : World} (t ty e : TypeId) (i : TypeInfo) (ht : P.underlying t = some (.slice e)) (hi : P.info? e = some i) (sq : Option Addr) (c : Nat) :
    (Builtin.append_ #[t, t] ty #[.slice none 0 0, .slice sq 0 c]).run P w = .ok (.slice none 0 0) w := by
  cases sq <;> simp [Builtin.append_, run_underlying ht, sizeOf, typeInfo, hi, Builtin.lenOf, Builtin.firstCells, loadCells, loadCellsFrom]
theorem quo_w (d lo : Nat) (hd : d ≤ 10) : wrap64 ((d : Int) / (lo : Int)) = (d : Int) / (lo : Int) := by
  have h1 : 0 ≤ (d : Int) / (lo : Int) := Int.ediv_nonneg (by omega) (by omega)
  have h2 : (d : Int) / (lo : Int) ≤ (d : Int) := Int.ediv_le_self _ (by omega)
  generalize (d : Int) / (lo : Int) = q at h1 h2
  unfold wrap64; omega
theorem oper_append {P : Program} {w w2 : World} {o : Oper} {a : Act} {K : Act → World → Prop} {R : Exit → Act → World → Prop} {s x : Operand} {t : TypeId} (ho : o.op = .call { callee := .builtin .append, args := #[s, x], argTypes := #[t, t] }) {vs vx v : Value} (hs : a.eval s = vs) (hx : a.eval x = vx) (hr : (Builtin.append_ #[t, t] o.type #[vs, vx]).run P w = .ok v w2) (hK : K (a.put o.dst v) w2) : o.wp P a w K R := by
  unfold Oper.wp
  simp [execOp, ho, resolve, invoke, builtin, hs, hx, hr, Result.andThen]
  exact hK

set_option maxRecDepth 100000 in
set_option maxHeartbeats 4000000 in
theorem lawut_x (f : Int) (na oa : Option Addr) (ln cn lo co : Nat) (N : Nat → N2) (U : Nat → O3) (d o m : Nat) (w : World) (hls : ln ≤ 1000000) (hlt : lo ≤ 1000000) (H : Hid (Tr7 w na oa ln lo N U)) (K : Hid KnownOk) (hq : ln ≤ 8 ∧ lo ≤ 10) (HR : Hid (TreeS f ln lo N U)) (hd : d ≤ 10) (ho : o < lo) (hm : d + m ≤ 10) (HA : Hid (aloneP f ln lo N U o)) :
    Calls Tryz.prog 10 #[.agg #[.int .i64 f, .slice na ln cn, .slice oa lo co], .int .i64 (d : Int), .int .i64 (o : Int), .int .i64 (m : Int)] w
      fun e w' => e = .returned (.bool true) ∧ Below w.heap.size w w' := by
  have hsh : decide (ln ≤ 8 ∧ lo ≤ 10) = true := decide_eq_true hq
  have HO : Hid (fromB 0 ((lo : Int) - 1) (o : Int) = true) := Lib.hid (by simp only [fromB, decide_eq_true_eq]; omega)
  have hl6 := HR.out.l6
  have hl8 := HR.out.lo2
  have HT : Hid (TreeP f ln lo N U) := Lib.hid HR.out.w
  have wr1 : IntKind.i64.wrap (10 - (d : Int)) = 10 - (d : Int) := by rw [IntKind.wrap_i64]; omega
  have wr2 : wrap64 (10 - (d : Int)) = 10 - (d : Int) := by unfold wrap64; omega
  have m1 : (0 : Int) ≤ (d : Int) := by omega
  have m2 : (d : Int) ≤ 10 := by omega
  have m3 : (0 : Int) ≤ (m : Int) := by omega
  have m4 : (m : Int) ≤ 10 - (d : Int) := by omega
  have FLAG : Hid True := Lib.hid trivial
  have BX := Lib.hid (fun (w1 : World) (hb : Below (w.alloc (.cells #[.int .i64 f, .slice na ln cn, .slice oa lo co] 25)).heap.size (w.alloc (.cells #[.int .i64 f, .slice na ln cn, .slice oa lo co] 25)) w1) => box7 hb)
  have HN : Hid (∀ w1, Below (w.alloc (.cells #[.int .i64 f, .slice na ln cn, .slice oa lo co] 25)).heap.size (w.alloc (.cells #[.int .i64 f, .slice na ln cn, .slice oa lo co] 25)) w1 → Hid (Tr7 w1 na oa ln lo N U)) := Lib.hid fun w1 h => Lib.hid (H.out.below (below_al h))
  have hb : Below (w.alloc (.cells #[.int .i64 f, .slice na ln cn, .slice oa lo co] 25)).heap.size (w.alloc (.cells #[.int .i64 f, .slice na ln cn, .slice oa lo co] 25)) (w.alloc (.cells #[.int .i64 f, .slice na ln cn, .slice oa lo co] 25)) := Below.refl _ _
  obtain ⟨x1, x2, x3, x4⟩ := BX.out _ hb
  clear H
  go_enter Tryz.func10, Tryz.ntmps10
  go_wp2_with (first
    | (go_at_call 13; refine (short_w _ _ _ _ _ _ _ _ (by unfold maxLen; omega) (by unfold maxLen; omega)).mono ?_; rw [hsh]; rintro e wl ⟨rfl, hv⟩; (try replace hbs := hbs.trans (hv.mono hbs.size)); replace hb := hb.trans (hv.mono hb.size); clear x1 x2 x3 x4; obtain ⟨x1, x2, x3, x4⟩ := BX.out _ hb)
    | (go_at_call 17; refine (tree_w _ _ _ _ _ _ _ N U _ hls hlt (HN.out _ hb)).mono ?_; rintro e wl ⟨⟨rb, rfl, hrb⟩, hv⟩; obtain rfl : rb = true := hrb.2 HR.out; clear hrb; (try replace hbs := hbs.trans (hv.mono hbs.size)); replace hb := hb.trans (hv.mono hb.size); clear x1 x2 x3 x4; obtain ⟨x1, x2, x3, x4⟩ := BX.out _ hb)
    | (go_at_call_of 33 (o : Int); refine (outlet_w f (o : Int) na oa ln cn lo co _ hlt).mono ?_; rw [HO.out]; rintro e wl ⟨rfl, hv⟩; (try replace hbs := hbs.trans (hv.mono hbs.size)); replace hb := hb.trans (hv.mono hb.size); clear x1 x2 x3 x4; obtain ⟨x1, x2, x3, x4⟩ := BX.out _ hb)
    | (go_at_call 42; have hfl := FLAG.out; clear hfl FLAG; refine (turns_w f na oa ln cn lo co d N U _ hd HR (HN.out _ hb)).mono ?_; rintro e wp ⟨⟨oo, cc, E, rfl, hpl, htu, hcc⟩, hv⟩; (try replace hbs := hbs.trans (hv.mono hbs.size)); replace hb := hb.trans (hv.mono hb.size); clear x1 x2 x3 x4; obtain ⟨x1, x2, x3, x4⟩ := BX.out _ hb; have HPL := Lib.hid hpl; have HTU := Lib.hid htu; clear hpl htu; have hbs : Below wp.heap.size wp wp := Below.refl _ _; have HDB : Hid (∀ x, x < d → dayB lo (E x).s (E x).n = true) := Lib.hid fun x hx => turE_day HTU.out hx; have HEN : Hid (∀ x, x < d → (E x).n ≤ 100) := Lib.hid fun x hx => (by have := (dayB_len _ (HDB.out x hx)).1; omega); have HPB : Hid ((decide (d ≤ 10) && allN (fun x => dayB lo (E x).s (E x).n) d) = true) := Lib.hid (by rw [decide_eq_true hd, Bool.true_and, allN_iff]; exact HDB.out); have HRB : Hid (allN (fun x => runD f ln lo N U (E x)) d = true) := Lib.hid ((allN_iff d).2 fun x hx => turE_run HT.out HTU.out hx))
    | (go_at_call 46; refine (rplan_w f na oa oo ln cn lo co d cc E _ hlt (by omega) (Lib.hid fun x hx => by have := HEN.out x hx; omega) (Lib.hid (HPL.out.below hbs))).mono ?_; rw [HPB.out]; rintro e wl ⟨rfl, hv⟩; (try replace hbs := hbs.trans (hv.mono hbs.size)); replace hb := hb.trans (hv.mono hb.size); clear x1 x2 x3 x4; obtain ⟨x1, x2, x3, x4⟩ := BX.out _ hb)
    | (go_at_call 43; refine (druns_w f na oa oo ln cn lo co d cc N U E _ hd HR (HN.out _ hb) (Lib.hid (HPL.out.below hbs)) HDB).mono ?_; rw [HRB.out]; rintro e wm ⟨rfl, hv⟩; (try replace hbs := hbs.trans (hv.mono hbs.size)); replace hb := hb.trans (hv.mono hb.size); clear x1 x2 x3 x4; obtain ⟨x1, x2, x3, x4⟩ := BX.out _ hb))
  have HB0 := Lib.hid hb
  have HBS := Lib.hid hbs
  have HZB : Hid (w.heap.size < wm.heap.size) := Lib.hid x4
  have HCB : Hid (∀ w2, Below wm.heap.size wm w2 → (w2.cell? ⟨w.heap.size, 0, none⟩ = some (.int .i64 f) ∧ w2.cell? ⟨w.heap.size, 1, none⟩ = some (.slice na ln cn) ∧ w2.cell? ⟨w.heap.size, 2, none⟩ = some (.slice oa lo co)) ∧ Hid (Tr7 w2 na oa ln lo N U)) := Lib.hid fun w2 h => by
    have h2 := HB0.out.trans (h.mono HB0.out.size)
    obtain ⟨y1, y2, y3, _⟩ := BX.out _ h2
    exact ⟨⟨y1, y2, y3⟩, HN.out _ h2⟩
  have hal0 : Below wm.heap.size wm (wm.alloc (.cells #[.int .i64 (o : Int)] 3)).drew := below_drew ((Below.refl _ _).alloc (Nat.le_refl _) _)
  have HAL0 := Lib.hid hal0
  have H48 : Hid (Calls Tryz.prog 48 #[.agg #[.int .i64 f, .slice na ln cn, .slice oa lo co], .slice (some ⟨wm.heap.size, 0, none⟩) 1 1] (wm.alloc (.cells #[.int .i64 (o : Int)] 3)).drew fun e w' => (∃ g cap, e = .returned (.slice (some ⟨g, 0, none⟩) lo cap) ∧ IntOwn w' wm.heap.size g lo (runB U fun j => decide (j ∈ [o]))) ∧ Below wm.heap.size wm w') := Lib.hid (by
    have hs : IntSl (wm.alloc (.cells #[.int .i64 (o : Int)] 3)).drew (some ⟨wm.heap.size, 0, none⟩) 1 (lgI [o]) := .inr ⟨wm.heap.size, 0, rfl, by show wm.heap.size < (wm.alloc _).heap.size; simp, fun i hi => by
      obtain rfl : i = 0 := by omega
      show (wm.alloc _).cell? _ = _
      simp [lgI]⟩
    refine (run48_w f na oa _ ln cn lo co 1 1 [o] N U _ (by omega) rfl (by omega) (by intro y hy; simp at hy; omega) (HCB.out _ HAL0.out).2 (Lib.hid hs)).mono ?_
    rintro e w' ⟨⟨g, cap, rfl, h1⟩, hv⟩
    exact ⟨⟨g, cap, rfl, ⟨Nat.le_trans (by show wm.heap.size ≤ (wm.alloc _).heap.size; simp) h1.lo, h1.lt, h1.at_, h1.fr⟩⟩, HAL0.out.trans (hv.mono HAL0.out.size)⟩)
  have HFB : Hid (FitP f ln lo N U (runB U fun j => decide (j ∈ [o]))) := Lib.hid (by
    have e : (fun j => decide (j ∈ [o])) = fun j => decide (j = o) := by funext j; simp
    rw [e]; exact HA.out)
  have hx0 := (HCB.out _ (Below.refl _ _)).1
  obtain ⟨x1, x2, x3⟩ := hx0
  clear hb hbs x4 hal0
  go_wp2
  refine wp_region_held_drew (S := fun w' => w'.cell? ⟨w.heap.size, 0, none⟩ = some (.int .i64 f) ∧ w'.cell? ⟨w.heap.size, 1, none⟩ = some (.slice na ln cn) ∧ w'.cell? ⟨w.heap.size, 2, none⟩ = some (.slice oa lo co)) (by kernel_rfl) ⟨x1, x2, x3⟩ (fun hHeld => ?_)
  refine wpAnyH_take (i := 0) (oi := ({ dst := some 77, op := Go.Op.load 25 (Go.Operand.tmp 4), type := 25, pos := "law.go:378", after := #[], guard := none } : Go.Oper)) (v := ?_) rfl (by kernel_rfl) (by kernel_rfl) (by kernel_rfl) (fun _ _ _ h => h) (Or.inl ⟨by rfl, ?_⟩) (by assumption) ?_
  rotate_left
  focus (intro w hSw; (try dsimp only at hSw); go_simp; first | done | with_reducible rfl)
  (try simp only [Act.put, List.setIfInBounds_toArray, List.set_cons_zero, List.set_cons_succ])
  refine wpAnyH_take (i := 1) (oi := ({ dst := some 78, op := Go.Op.load 25 (Go.Operand.tmp 4), type := 25, pos := "law.go:378", after := #[], guard := none } : Go.Oper)) (v := ?_) rfl (by kernel_rfl) (by kernel_rfl) (by kernel_rfl) (fun _ _ _ h => h) (Or.inl ⟨by rfl, ?_⟩) (by assumption) ?_
  rotate_left
  focus (intro w hSw; (try dsimp only at hSw); go_simp; first | done | with_reducible rfl)
  (try simp only [Act.put, List.setIfInBounds_toArray, List.set_cons_zero, List.set_cons_succ])
  refine wpAnyH_take (i := 2) (oi := ({ dst := some 79, op := Go.Op.move (Go.Operand.tmp 2), type := 3, pos := "law.go:378", after := #[], guard := none } : Go.Oper)) (v := ?_) rfl (by kernel_rfl) (by kernel_rfl) (by kernel_rfl) (fun _ _ _ h => h) (Or.inl ⟨by rfl, ?_⟩) (by assumption) ?_
  rotate_left
  focus (intro w hSw; (try dsimp only at hSw); go_simp; first | done | with_reducible rfl)
  (try simp only [Act.put, List.setIfInBounds_toArray, List.set_cons_zero, List.set_cons_succ])
  refine wpAnyH_ready (rs := [3]) (by kernel_rfl) (by simp) ?_
  refine AllReadyH.cons (o := ({ dst := some 80, op := Go.Op.buildSlice 26 1 #[(0, Go.Operand.tmp 79)], type := 26, pos := "law.go:378", after := #[{ on := 2, ground := Go.Ground.data }], guard := none } : Go.Oper)) rfl (fun K hK => ?_) AllReadyH.nil
  go_simp
  refine hK.out _ _ (HCB.out _ HAL0.out).1 (fun hHeld => ?_)
  clear hK K
  (try simp only [Act.put, List.setIfInBounds_toArray, List.set_cons_zero, List.set_cons_succ])
  refine wpAnyH_ready (rs := [4]) (by kernel_rfl) (by simp) ?_
  refine AllReadyH.cons (o := ({ dst := some 81, op := Go.Op.call { callee := Go.Callee.value (Go.Operand.func 48), args := #[Go.Operand.tmp 78, Go.Operand.tmp 80], argTypes := #[25, 26] }, type := 26, pos := "law.go:378", after := #[{ on := 1, ground := Go.Ground.data }, { on := 3, ground := Go.Ground.data }], guard := none } : Go.Oper)) rfl (fun K hK => ?_) AllReadyH.nil
  go_simp
  go_at_call 48; refine H48.out.mono ?_; rintro e w48 ⟨⟨g, cap, rfl, hio⟩, hv48⟩; have HIO := Lib.hid hio; have HV48 := Lib.hid hv48; clear hio hv48; go_simp
  refine hK.out _ _ (HCB.out _ HV48.out).1 (fun hHeld => ?_)
  clear hK K
  (try simp only [Act.put, List.setIfInBounds_toArray, List.set_cons_zero, List.set_cons_succ])
  refine wpAnyH_ready (rs := [5]) (by kernel_rfl) (by simp) ?_
  refine AllReadyH.cons (o := ({ dst := some 82, op := Go.Op.call { callee := Go.Callee.value (Go.Operand.func 19), args := #[Go.Operand.tmp 77, Go.Operand.tmp 81], argTypes := #[25, 26] }, type := 4, pos := "law.go:378", after := #[{ on := 0, ground := Go.Ground.data }, { on := 4, ground := Go.Ground.data }, { on := 4, ground := Go.Ground.chain }], guard := none } : Go.Oper)) rfl (fun K hK => ?_) AllReadyH.nil
  go_simp
  go_at_call 19; refine (fit19_w f na oa ln cn lo co g cap wm.heap.size (fun j => decide (j ∈ [o])) true N U _ HT ⟨fun _ => HFB.out, fun _ => rfl⟩ (HCB.out _ HV48.out).2 HIO.out).mono ?_; rintro e w19 ⟨rfl, hv19⟩; have HV19 := Lib.hid (HV48.out.trans (hv19.mono HV48.out.size)); clear hv19; go_simp
  refine hK.out _ _ (HCB.out _ HV19.out).1 (fun hHeld => ?_)
  clear hK K
  (try simp only [Act.put, List.setIfInBounds_toArray, List.set_cons_zero, List.set_cons_succ])
  refine wpAnyH_take (i := 6) (oi := ({ dst := some 13, op := Go.Op.assign (Go.Operand.tmp 82), type := 4, pos := "law.go:378", after := #[{ on := 5, ground := Go.Ground.data }, { on := 5, ground := Go.Ground.chain }, { on := 0, ground := Go.Ground.phase }, { on := 1, ground := Go.Ground.phase }, { on := 2, ground := Go.Ground.phase }, { on := 3, ground := Go.Ground.phase }, { on := 4, ground := Go.Ground.phase }, { on := 5, ground := Go.Ground.phase }], guard := none } : Go.Oper)) (v := ?_) rfl (by kernel_rfl) (by kernel_rfl) (by kernel_rfl) (fun _ _ _ h => h) (Or.inl ⟨by rfl, ?_⟩) (by assumption) ?_
  rotate_left
  focus (intro w hSw; (try dsimp only at hSw); go_simp; first | done | with_reducible rfl)
  (try simp only [Act.put, List.setIfInBounds_toArray, List.set_cons_zero, List.set_cons_succ])
  refine wpAnyH_done (by kernel_rfl) ?_ _
  obtain ⟨c, hc⟩ : ∃ c, ranF f lo N U d o = c := ⟨_, rfl⟩
  have HDC : Hid (cntB (dys E (o : Int)) d = c) := Lib.hid ((turE_days HTU.out o d (Nat.le_refl _)).trans hc)
  have HEN2 : Hid (∀ x, x < d → (E x).n ≤ 1000000) := Lib.hid fun x hx => by have := HEN.out x hx; omega
  have HBT : Hid (∀ w2, Below wm.heap.size wm w2 → Below wp.heap.size wp w2) := Lib.hid fun w2 h => HBS.out.trans (h.mono HBS.out.size)
  have n0 : (0 : Int) < (lo : Int) := by omega
  have n9 : ¬ (lo : Int) = 0 := by omega
  have hcw : ¬ c < wrap64 ((d : Int) / (lo : Int)) := by
    rw [quo_w d lo hd]
    have h := fair HT.out ho HA.out d ((d : Int) / (lo : Int)) (Int.ediv_nonneg (by omega) (by omega)) (Int.ediv_mul_le _ (by omega))
    omega
  obtain ⟨qq, hqq⟩ : ∃ qq, wrap64 ((d : Int) / (lo : Int)) = qq := ⟨_, rfl⟩
  rw [hqq] at hcw
  have hbm : Below wm.heap.size wm w19 := HV19.out
  obtain ⟨⟨x1, x2, x3⟩, _⟩ := HCB.out _ hbm
  clear hc wr1 wr2
  go_wp2_with (first
    | (go_at_call 49; refine (days_w oo d cc E o _ (by omega) HEN2 (Lib.hid (HPL.out.below (HBT.out _ hbm)))).mono ?_; rw [HDC.out]; rintro e w49 ⟨rfl, hv⟩; replace hbm := hbm.trans (hv.mono hbm.size); clear x1 x2 x3; obtain ⟨⟨x1, x2, x3⟩, _⟩ := HCB.out _ hbm))
  have HBM := Lib.hid hbm
  have HCE : Hid (∀ x, x < d → (E x).n = (turnD f lo N U x).length ∧ (E x).s = lgI (turnD f lo N U x)) := Lib.hid fun x hx => ⟨HTU.out.n x hx, HTU.out.s x hx⟩
  clear hbm x1 x2 x3
  go_loopw [15] (fun ii wr => ∃ k : Nat, k ≤ d ∧ ii = .int .i64 (k : Int) ∧ Below wm.heap.size wm wr) (fun ii _ => d - (Go.RowKit.intOf ii).toNat)
  case atStart => exact ⟨0, Nat.zero_le _, rfl, HBM.out⟩
  case round =>
    obtain ⟨k, hk, rfl, hbr⟩ := hrel
    have HBR := Lib.hid hbr
    clear hbr
    by_cases hlk : k < d
    case neg =>
      obtain rfl : k = d := by omega
      obtain ⟨⟨x1, x2, x3⟩, _⟩ := HCB.out _ HBR.out
      have hb9 := HBR.out
      have HT2 : Hid (∀ w2, Hid (Tr7 w2 na oa ln lo N U) → Calls Tryz.prog 42 #[.agg #[.int .i64 f, .slice na ln cn, .slice oa lo co], .int .i64 ((k : Int) + (m : Int))] w2 fun e w' => (∃ oo cc E, e = .returned (.tuple #[.slice oo (k + m) cc, .int .i64 0]) ∧ PlSl w' oo (k + m) E ∧ TurE f lo N U (k + m) w2.heap.size E ∧ k + m ≤ cc) ∧ Below w2.heap.size w2 w') := Lib.hid fun w2 h => turns_w f na oa ln cn lo co (k + m) N U w2 hm HR h
      go_wp2_with (first
        | (go_at_call 42; refine (HT2.out _ (HCB.out _ hb9).2).mono ?_; rintro e wq ⟨⟨oo2, cc2, E2, rfl, hpl, htu, hcc2⟩, hv⟩; replace hb9 := hb9.trans (hv.mono hb9.size); clear x1 x2 x3; have HPL2 := Lib.hid hpl; have HTU2 := Lib.hid htu; have HQ2 := Lib.hid (Below.refl wq.heap.size wq); clear hpl htu; have hcq : k ≤ cc2 := Nat.le_trans (Nat.le_add_right _ _) hcc2)
        | (go_at_call 44; refine (samePlans_w oo2 oo k cc2 cc E2 E _ (by omega) (Lib.hid (by rcases HPL2.out with h | ⟨A, O, h1, h2, h3⟩; exact .inl (by omega); exact .inr ⟨A, O, h1, h2, fun x hx => h3 x (by omega)⟩)) (Lib.hid (HPL.out.below (HBT.out _ hb9))) (Lib.hid fun x hx => ⟨by rw [HTU2.out.n x (by omega), (HCE.out x hx).1], by rw [HTU2.out.n x (by omega)]; have := dayL_len (f := f) (lo := lo) (N := N) (U := U) (r := ranF f lo N U x); unfold turnD; omega, by rw [HTU2.out.s x (by omega), (HCE.out x hx).2]⟩)).mono ?_; rintro e w44 ⟨rfl, hv⟩; replace hb9 := hb9.trans (hv.mono hb9.size))
        | (go_at_call 14; refine (K.out _).mono ?_; rintro e wk ⟨rfl, hv⟩; replace hb9 := hb9.trans (hv.mono hb9.size)))
      go_ret
      exact ⟨rfl, below_al (HB0.out.trans (hb9.mono HB0.out.size))⟩
    case pos =>
    obtain ⟨A, O, rfl, hAo, hN⟩ := HPL.out.resolve_left (by omega)
    obtain ⟨en1, es1⟩ := HCE.out k hlk
    have hen := HEN.out k hlk
    obtain ⟨⟨ea, en, ec, es⟩, he⟩ : ∃ dy, E k = dy := ⟨_, rfl⟩
    have HPA : Hid (∀ w2, Below wr.heap.size wr w2 → w2.cell? ⟨A, O + k, none⟩ = some (.slice ea en ec) ∧ IntSl w2 ea en es) := Lib.hid fun w2 h => by
      have h2 := HBT.out _ (HBR.out.trans (h.mono HBR.out.size))
      have h3 := (hN.below hAo h2) k hlk
      rw [he] at h3; exact h3
    rw [he] at en1 es1 hen
    dsimp only at en1 es1 hen
    subst es1
    obtain ⟨l, hl⟩ : ∃ l, turnD f lo N U k = l := ⟨_, rfl⟩
    have HLT : Hid (∀ y ∈ l, y < lo) := Lib.hid fun y hy => dayL_lt (by rw [← hl] at hy; exact hy)
    have HMX : Hid (o ∉ l → ¬ FitP f ln lo N U (runB U fun j => decide (j ∈ l ++ [o]))) := Lib.hid fun hn => by
      have h := day_max HT.out (ranF f lo N U k) ho (by rw [← hl] at hn; exact hn)
      have e : (fun j => decide (j ∈ l ++ [o])) = fun j => decide (j ∈ dayL f lo N U (ranF f lo N U k)) || decide (j = o) := by
        funext j; rw [← hl]; unfold turnD; simp
      rw [e]; exact h
    rw [hl] at en1 HPA
    have HNL : Hid (l.length = en) := Lib.hid en1.symm
    have HCR : Hid (∀ w2, Below wr.heap.size wr w2 → (w2.cell? ⟨w.heap.size, 0, none⟩ = some (.int .i64 f) ∧ w2.cell? ⟨w.heap.size, 1, none⟩ = some (.slice na ln cn) ∧ w2.cell? ⟨w.heap.size, 2, none⟩ = some (.slice oa lo co)) ∧ w2.cell? ⟨A, O + k, none⟩ = some (.slice ea en ec)) := Lib.hid fun w2 h => ⟨(HCB.out _ (HBR.out.trans (h.mono HBR.out.size))).1, (HPA.out w2 h).1⟩
    have H36 : Hid (∀ w2, Below wr.heap.size wr w2 → Calls Tryz.prog 36 #[.slice ea en ec, .int .i64 (o : Int)] w2 fun e w' => e = .returned (.bool (decide (o ∈ l))) ∧ Below wr.heap.size wr w') := Lib.hid fun w2 h => (has_w ea en ec (lgI l) (o : Int) w2 (by omega) (Lib.hid (HPA.out w2 h).2)).mono fun e w' ⟨h1, h2⟩ => ⟨by rw [h1, ← HNL.out, hasB_lgI], h.trans (h2.mono h.size)⟩
    have n1 : (0 : Int) ≤ (k : Int) := by omega
    have n2 : (k : Int) < (d : Int) := by omega
    clear hN he hl en1
    by_cases hol : o ∈ l
    · rw [decide_eq_true hol] at H36
      clear hol
      go_wp2
      refine wp_region_held_drew (S := fun w' => (w'.cell? ⟨w.heap.size, 0, none⟩ = some (.int .i64 f) ∧ w'.cell? ⟨w.heap.size, 1, none⟩ = some (.slice na ln cn) ∧ w'.cell? ⟨w.heap.size, 2, none⟩ = some (.slice oa lo co)) ∧ w'.cell? ⟨A, O + k, none⟩ = some (.slice ea en ec)) (by kernel_rfl) (HCR.out wr (Below.refl _ _)) (fun hHeld => ?_)
      refine wpAnyH_take (i := 0) (oi := ({ dst := some 118, op := Go.Op.move (Go.Operand.tmp 9), type := 59, pos := "law.go:384", after := #[], guard := none } : Go.Oper)) (v := ?_) rfl (by kernel_rfl) (by kernel_rfl) (by kernel_rfl) (fun _ _ _ h => h) (Or.inl ⟨by rfl, ?_⟩) (by assumption) ?_
      rotate_left
      focus (intro w hSw; (try dsimp only at hSw); go_simp; first | done | with_reducible rfl)
      (try simp only [Act.put, List.setIfInBounds_toArray, List.set_cons_zero, List.set_cons_succ])
      refine wpAnyH_take (i := 1) (oi := ({ dst := some 119, op := Go.Op.move (Go.Operand.tmp 15), type := 3, pos := "law.go:384", after := #[], guard := none } : Go.Oper)) (v := ?_) rfl (by kernel_rfl) (by kernel_rfl) (by kernel_rfl) (fun _ _ _ h => h) (Or.inl ⟨by rfl, ?_⟩) (by assumption) ?_
      rotate_left
      focus (intro w hSw; (try dsimp only at hSw); go_simp; first | done | with_reducible rfl)
      (try simp only [Act.put, List.setIfInBounds_toArray, List.set_cons_zero, List.set_cons_succ])
      refine wpAnyH_take (i := 2) (oi := ({ dst := some 120, op := Go.Op.indexAddr 59 (Go.Operand.tmp 118) (Go.Operand.tmp 119), type := 0, pos := "law.go:384", after := #[{ on := 0, ground := Go.Ground.data }, { on := 1, ground := Go.Ground.data }], guard := none } : Go.Oper)) (v := ?_) rfl (by kernel_rfl) (by kernel_rfl) (by kernel_rfl) (fun _ _ _ h => h) (Or.inl ⟨by rfl, ?_⟩) (by assumption) ?_
      rotate_left
      focus (intro w hSw; (try dsimp only at hSw); go_simp; first | done | with_reducible rfl)
      (try simp only [Act.put, List.setIfInBounds_toArray, List.set_cons_zero, List.set_cons_succ])
      refine wpAnyH_take (i := 3) (oi := ({ dst := some 121, op := Go.Op.load 26 (Go.Operand.tmp 120), type := 26, pos := "law.go:384", after := #[{ on := 2, ground := Go.Ground.data }], guard := none } : Go.Oper)) (v := ?_) rfl (by kernel_rfl) (by kernel_rfl) (by kernel_rfl) (fun _ _ _ h => h) (Or.inl ⟨by rfl, ?_⟩) (by assumption) ?_
      rotate_left
      focus (intro w hSw; (try dsimp only at hSw); go_simp; first | done | with_reducible rfl)
      (try simp only [Act.put, List.setIfInBounds_toArray, List.set_cons_zero, List.set_cons_succ])
      refine wpAnyH_take (i := 4) (oi := ({ dst := some 122, op := Go.Op.move (Go.Operand.tmp 2), type := 3, pos := "law.go:384", after := #[], guard := none } : Go.Oper)) (v := ?_) rfl (by kernel_rfl) (by kernel_rfl) (by kernel_rfl) (fun _ _ _ h => h) (Or.inl ⟨by rfl, ?_⟩) (by assumption) ?_
      rotate_left
      focus (intro w hSw; (try dsimp only at hSw); go_simp; first | done | with_reducible rfl)
      (try simp only [Act.put, List.setIfInBounds_toArray, List.set_cons_zero, List.set_cons_succ])
      refine wpAnyH_ready (rs := [5]) (by kernel_rfl) (by simp) ?_
      refine AllReadyH.cons (o := ({ dst := some 123, op := Go.Op.call { callee := Go.Callee.value (Go.Operand.func 36), args := #[Go.Operand.tmp 121, Go.Operand.tmp 122], argTypes := #[26, 3] }, type := 4, pos := "law.go:384", after := #[{ on := 3, ground := Go.Ground.data }, { on := 4, ground := Go.Ground.data }], guard := none } : Go.Oper)) rfl (fun K hK => ?_) AllReadyH.nil
      go_simp
      go_at_call 36; refine (H36.out _ (below_drew (Below.refl _ _))).mono ?_; rintro e w36 ⟨rfl, hv36⟩; have HV36 := Lib.hid hv36; clear hv36; go_simp
      refine hK.out _ _ (HCR.out _ HV36.out) (fun hHeld => ?_)
      clear hK K
      (try simp only [Act.put, List.setIfInBounds_toArray, List.set_cons_zero, List.set_cons_succ])
      refine wpAnyH_take (i := 6) (oi := ({ dst := some 124, op := Go.Op.unOp Go.UnOp.not 4 (Go.Operand.tmp 123), type := 4, pos := "law.go:384", after := #[{ on := 5, ground := Go.Ground.data }], guard := none } : Go.Oper)) (v := ?_) rfl (by kernel_rfl) (by kernel_rfl) (by kernel_rfl) (fun _ _ _ h => h) (Or.inl ⟨by rfl, ?_⟩) (by assumption) ?_
      rotate_left
      focus (intro w hSw; (try dsimp only at hSw); go_simp; first | done | with_reducible rfl)
      (try simp only [Act.put, List.setIfInBounds_toArray, List.set_cons_zero, List.set_cons_succ])
      refine wpAnyH_take (i := 7) (oi := ({ dst := some 125, op := Go.Op.move (Go.Operand.tmp 124), type := 4, pos := "law.go:384", after := #[{ on := 6, ground := Go.Ground.data }, { on := 5, ground := Go.Ground.chain }], guard := none } : Go.Oper)) (v := ?_) rfl (by kernel_rfl) (by kernel_rfl) (by kernel_rfl) (fun _ _ _ h => h) (Or.inl ⟨by rfl, ?_⟩) (by assumption) ?_
      rotate_left
      focus (intro w hSw; (try dsimp only at hSw); go_simp; first | done | with_reducible rfl)
      (try simp only [Act.put, List.setIfInBounds_toArray, List.set_cons_zero, List.set_cons_succ])
      refine wpAnyH_take (i := 8) (oi := ({ dst := some 126, op := Go.Op.load 25 (Go.Operand.tmp 4), type := 25, pos := "law.go:384", after := #[{ on := 7, ground := Go.Ground.guard }], guard := some (7, true) } : Go.Oper)) (v := undef) rfl (by kernel_rfl) (by kernel_rfl) (by kernel_rfl) (fun _ _ _ h => h) (Or.inr ⟨by rfl, rfl⟩) (by assumption) ?_
      (try simp only [Act.put, List.setIfInBounds_toArray, List.set_cons_zero, List.set_cons_succ])
      refine wpAnyH_take (i := 9) (oi := ({ dst := some 127, op := Go.Op.load 25 (Go.Operand.tmp 4), type := 25, pos := "law.go:384", after := #[{ on := 7, ground := Go.Ground.guard }], guard := some (7, true) } : Go.Oper)) (v := undef) rfl (by kernel_rfl) (by kernel_rfl) (by kernel_rfl) (fun _ _ _ h => h) (Or.inr ⟨by rfl, rfl⟩) (by assumption) ?_
      (try simp only [Act.put, List.setIfInBounds_toArray, List.set_cons_zero, List.set_cons_succ])
      refine wpAnyH_take (i := 10) (oi := ({ dst := some 128, op := Go.Op.move (Go.Operand.tmp 9), type := 59, pos := "law.go:384", after := #[{ on := 7, ground := Go.Ground.guard }], guard := some (7, true) } : Go.Oper)) (v := undef) rfl (by kernel_rfl) (by kernel_rfl) (by kernel_rfl) (fun _ _ _ h => h) (Or.inr ⟨by rfl, rfl⟩) (by assumption) ?_
      (try simp only [Act.put, List.setIfInBounds_toArray, List.set_cons_zero, List.set_cons_succ])
      refine wpAnyH_take (i := 11) (oi := ({ dst := some 129, op := Go.Op.move (Go.Operand.tmp 15), type := 3, pos := "law.go:384", after := #[{ on := 7, ground := Go.Ground.guard }], guard := some (7, true) } : Go.Oper)) (v := undef) rfl (by kernel_rfl) (by kernel_rfl) (by kernel_rfl) (fun _ _ _ h => h) (Or.inr ⟨by rfl, rfl⟩) (by assumption) ?_
      (try simp only [Act.put, List.setIfInBounds_toArray, List.set_cons_zero, List.set_cons_succ])
      refine wpAnyH_take (i := 12) (oi := ({ dst := some 130, op := Go.Op.indexAddr 59 (Go.Operand.tmp 128) (Go.Operand.tmp 129), type := 0, pos := "law.go:384", after := #[{ on := 10, ground := Go.Ground.data }, { on := 11, ground := Go.Ground.data }, { on := 7, ground := Go.Ground.guard }], guard := some (7, true) } : Go.Oper)) (v := undef) rfl (by kernel_rfl) (by kernel_rfl) (by kernel_rfl) (fun _ _ _ h => h) (Or.inr ⟨by rfl, rfl⟩) (by assumption) ?_
      (try simp only [Act.put, List.setIfInBounds_toArray, List.set_cons_zero, List.set_cons_succ])
      refine wpAnyH_take (i := 13) (oi := ({ dst := some 131, op := Go.Op.load 26 (Go.Operand.tmp 130), type := 26, pos := "law.go:384", after := #[{ on := 12, ground := Go.Ground.data }, { on := 7, ground := Go.Ground.guard }], guard := some (7, true) } : Go.Oper)) (v := undef) rfl (by kernel_rfl) (by kernel_rfl) (by kernel_rfl) (fun _ _ _ h => h) (Or.inr ⟨by rfl, rfl⟩) (by assumption) ?_
      (try simp only [Act.put, List.setIfInBounds_toArray, List.set_cons_zero, List.set_cons_succ])
      refine wpAnyH_take (i := 14) (oi := ({ dst := some 132, op := Go.Op.call { callee := Go.Callee.builtin Go.Builtin.append, args := #[Go.Operand.const (Go.Value.slice none 0 0), Go.Operand.tmp 131], argTypes := #[26, 26] }, type := 26, pos := "law.go:384", after := #[{ on := 13, ground := Go.Ground.data }, { on := 7, ground := Go.Ground.chain }, { on := 7, ground := Go.Ground.guard }], guard := some (7, true) } : Go.Oper)) (v := undef) rfl (by kernel_rfl) (by kernel_rfl) (by kernel_rfl) (fun _ _ _ h => h) (Or.inr ⟨by rfl, rfl⟩) (by assumption) ?_
      (try simp only [Act.put, List.setIfInBounds_toArray, List.set_cons_zero, List.set_cons_succ])
      refine wpAnyH_take (i := 15) (oi := ({ dst := some 133, op := Go.Op.move (Go.Operand.tmp 2), type := 3, pos := "law.go:384", after := #[{ on := 7, ground := Go.Ground.guard }], guard := some (7, true) } : Go.Oper)) (v := undef) rfl (by kernel_rfl) (by kernel_rfl) (by kernel_rfl) (fun _ _ _ h => h) (Or.inr ⟨by rfl, rfl⟩) (by assumption) ?_
      (try simp only [Act.put, List.setIfInBounds_toArray, List.set_cons_zero, List.set_cons_succ])
      refine wpAnyH_take (i := 16) (oi := ({ dst := some 134, op := Go.Op.buildSlice 26 1 #[(0, Go.Operand.tmp 133)], type := 26, pos := "law.go:384", after := #[{ on := 15, ground := Go.Ground.data }, { on := 7, ground := Go.Ground.guard }], guard := some (7, true) } : Go.Oper)) (v := undef) rfl (by kernel_rfl) (by kernel_rfl) (by kernel_rfl) (fun _ _ _ h => h) (Or.inr ⟨by rfl, rfl⟩) (by assumption) ?_
      (try simp only [Act.put, List.setIfInBounds_toArray, List.set_cons_zero, List.set_cons_succ])
      refine wpAnyH_take (i := 17) (oi := ({ dst := some 135, op := Go.Op.call { callee := Go.Callee.builtin Go.Builtin.append, args := #[Go.Operand.tmp 132, Go.Operand.tmp 134], argTypes := #[26, 26] }, type := 26, pos := "law.go:384", after := #[{ on := 14, ground := Go.Ground.data }, { on := 16, ground := Go.Ground.data }, { on := 14, ground := Go.Ground.chain }, { on := 7, ground := Go.Ground.guard }], guard := some (7, true) } : Go.Oper)) (v := undef) rfl (by kernel_rfl) (by kernel_rfl) (by kernel_rfl) (fun _ _ _ h => h) (Or.inr ⟨by rfl, rfl⟩) (by assumption) ?_
      (try simp only [Act.put, List.setIfInBounds_toArray, List.set_cons_zero, List.set_cons_succ])
      refine wpAnyH_take (i := 18) (oi := ({ dst := some 136, op := Go.Op.call { callee := Go.Callee.value (Go.Operand.func 48), args := #[Go.Operand.tmp 127, Go.Operand.tmp 135], argTypes := #[25, 26] }, type := 26, pos := "law.go:384", after := #[{ on := 9, ground := Go.Ground.data }, { on := 17, ground := Go.Ground.data }, { on := 17, ground := Go.Ground.chain }, { on := 7, ground := Go.Ground.guard }], guard := some (7, true) } : Go.Oper)) (v := undef) rfl (by kernel_rfl) (by kernel_rfl) (by kernel_rfl) (fun _ _ _ h => h) (Or.inr ⟨by rfl, rfl⟩) (by assumption) ?_
      (try simp only [Act.put, List.setIfInBounds_toArray, List.set_cons_zero, List.set_cons_succ])
      refine wpAnyH_take (i := 19) (oi := ({ dst := some 137, op := Go.Op.call { callee := Go.Callee.value (Go.Operand.func 19), args := #[Go.Operand.tmp 126, Go.Operand.tmp 136], argTypes := #[25, 26] }, type := 4, pos := "law.go:384", after := #[{ on := 8, ground := Go.Ground.data }, { on := 18, ground := Go.Ground.data }, { on := 18, ground := Go.Ground.chain }, { on := 7, ground := Go.Ground.guard }], guard := some (7, true) } : Go.Oper)) (v := undef) rfl (by kernel_rfl) (by kernel_rfl) (by kernel_rfl) (fun _ _ _ h => h) (Or.inr ⟨by rfl, rfl⟩) (by assumption) ?_
      (try simp only [Act.put, List.setIfInBounds_toArray, List.set_cons_zero, List.set_cons_succ])
      refine wpAnyH_take (i := 20) (oi := ({ dst := some 138, op := Go.Op.pick (Go.Operand.tmp 125) (Go.Operand.tmp 137) (Go.Operand.const (Go.Value.bool false)), type := 4, pos := "law.go:384", after := #[{ on := 7, ground := Go.Ground.data }, { on := 19, ground := Go.Ground.data }], guard := none } : Go.Oper)) (v := ?_) rfl (by kernel_rfl) (by kernel_rfl) (by kernel_rfl) (fun _ _ _ h => h) (Or.inl ⟨by rfl, ?_⟩) (by assumption) ?_
      rotate_left
      focus (intro w hSw; (try dsimp only at hSw); go_simp; first | done | with_reducible rfl)
      (try simp only [Act.put, List.setIfInBounds_toArray, List.set_cons_zero, List.set_cons_succ])
      refine wpAnyH_done (by kernel_rfl) ?_ _
      go_wp2
      go_roundw
      case rel => exact ⟨k + 1, by omega, by go_num, HBR.out.trans (HV36.out.mono HBR.out.size)⟩
      case measure => simp [Go.RowKit.intOf]; omega
    · have HF9 := Lib.hid (HMX.out hol)
      rw [decide_eq_false hol] at H36
      clear hol
      obtain ⟨i0, hi0, hz0, hz1, hz2⟩ := info_parts info3'
      have H14 : Hid (∀ w2, Below wr.heap.size wr w2 → ∃ v' w', (Builtin.append_ #[26, 26] 26 #[.slice none 0 0, .slice ea en ec]).run Tryz.prog w2 = .ok v' w' ∧ w'.ownsRow wr.heap.size 3 1 v' en (l.map iv1) ∧ Below wr.heap.size wr w' ∧ ∀ a v, w2.cell? a = some v → w'.cell? a = some v) := Lib.hid fun w2 h => by
        rcases (HPA.out w2 h).2 with h0 | ⟨A2, O2, rfl, hA2, hN2⟩
        · subst h0
          have hl0 : l = [] := List.eq_nil_of_length_eq_zero HNL.out
          subst hl0
          exact ⟨_, _, run_append_nilU 26 26 3 i0 Tryz.underlying26 hi0 ea ec, ⟨rfl, .inl ⟨rfl, rfl⟩⟩, h, fun _ _ h => h⟩
        · obtain ⟨v', w', hr, h2, h3, _, h5⟩ := run_append_own_at (P := Tryz.prog) (w := w2) wr.heap.size 26 26 3 i0 (.int .i64 0) 1 8 Tryz.underlying26 hi0 hz0 hz1 hz2 rfl (by decide) (.slice none 0 0) 0 [] ⟨rfl, .inl ⟨rfl, rfl⟩⟩ ⟨A2, O2, none⟩ en ec (l.map iv1) (by simp [HNL.out]) (fun j u hu => by
            have hj : j < l.length := by
              rcases Nat.lt_or_ge j l.length with h | h
              · exact h
              · rw [List.getElem?_eq_none (by simpa using h)] at hu; cases hu
            have hx := hN2 j (by rw [← HNL.out]; exact hj)
            rw [List.getElem?_map, List.getElem?_eq_getElem hj] at hu
            injection hu with hu
            rw [← hu]
            rw [lgI_get hj] at hx
            by_cases hj0 : j = 0
            · subst hj0; simpa [Addr.add, iv1] using hx
            · simpa [Addr.add, iv1, hj0] using hx) (fun u hu => by simp [iv1] at hu; obtain ⟨a, _, rfl⟩ := hu; rfl) (by unfold maxLen; omega) (by omega) h.size
          exact ⟨v', w', hr, by simpa using h2, h.grown h3 (by have := h.size; omega) (fun r e => by cases e), fun a v hv => h3.cell hv (by intro e; cases e)⟩
      have H17 : Hid (∀ w2 v2 (G : Nat), Below wr.heap.size wr w2 → w2.cell? ⟨G, 0, none⟩ = some (.int .i64 (o : Int)) → w2.ownsRow wr.heap.size 3 1 v2 en (l.map iv1) → ∃ sa sc w', (Builtin.append_ #[26, 26] 26 #[v2, .slice (some ⟨G, 0, none⟩) 1 1]).run Tryz.prog w2 = .ok (.slice sa (en + 1) sc) w' ∧ IntSl w' sa (en + 1) (lgI (l ++ [o])) ∧ Below wr.heap.size wr w') := Lib.hid fun w2 v2 G h1 hG ho2 => by
        obtain ⟨v', w', hr, h2, h3, _, h5⟩ := run_append_own_at (P := Tryz.prog) (w := w2) wr.heap.size 26 26 3 i0 (.int .i64 0) 1 8 Tryz.underlying26 hi0 hz0 hz1 hz2 rfl (by decide) v2 en (l.map iv1) ho2 ⟨G, 0, none⟩ 1 1 [.int .i64 (o : Int)] rfl (fun j u hu => by
          cases j with
          | zero => simp at hu; subst hu; simpa [Addr.add] using hG
          | succ j => simp at hu) (by intro u hu; simp at hu; subst hu; rfl) (by unfold maxLen; omega) (by omega) h1.size
        have h6 : w'.ownsRow wr.heap.size 3 1 v' (en + 1) ((l ++ [o]).map iv1) := by rw [List.map_append]; exact h2
        obtain ⟨sa, sc, rfl, hsl, _⟩ := dayNew h6
        exact ⟨sa, sc, w', hr, hsl, h1.grown h3 (by have := h1.size; omega) (fun r e => own_ge ho2 r e)⟩
      go_wp2
      refine wp_region_held_drew (S := fun w' => (w'.cell? ⟨w.heap.size, 0, none⟩ = some (.int .i64 f) ∧ w'.cell? ⟨w.heap.size, 1, none⟩ = some (.slice na ln cn) ∧ w'.cell? ⟨w.heap.size, 2, none⟩ = some (.slice oa lo co)) ∧ w'.cell? ⟨A, O + k, none⟩ = some (.slice ea en ec)) (by kernel_rfl) (HCR.out wr (Below.refl _ _)) (fun hHeld => ?_)
      refine wpAnyH_take (i := 0) (oi := ({ dst := some 118, op := Go.Op.move (Go.Operand.tmp 9), type := 59, pos := "law.go:384", after := #[], guard := none } : Go.Oper)) (v := ?_) rfl (by kernel_rfl) (by kernel_rfl) (by kernel_rfl) (fun _ _ _ h => h) (Or.inl ⟨by rfl, ?_⟩) (by assumption) ?_
      rotate_left
      focus (intro w hSw; (try dsimp only at hSw); go_simp; first | done | with_reducible rfl)
      (try simp only [Act.put, List.setIfInBounds_toArray, List.set_cons_zero, List.set_cons_succ])
      refine wpAnyH_take (i := 1) (oi := ({ dst := some 119, op := Go.Op.move (Go.Operand.tmp 15), type := 3, pos := "law.go:384", after := #[], guard := none } : Go.Oper)) (v := ?_) rfl (by kernel_rfl) (by kernel_rfl) (by kernel_rfl) (fun _ _ _ h => h) (Or.inl ⟨by rfl, ?_⟩) (by assumption) ?_
      rotate_left
      focus (intro w hSw; (try dsimp only at hSw); go_simp; first | done | with_reducible rfl)
      (try simp only [Act.put, List.setIfInBounds_toArray, List.set_cons_zero, List.set_cons_succ])
      refine wpAnyH_take (i := 2) (oi := ({ dst := some 120, op := Go.Op.indexAddr 59 (Go.Operand.tmp 118) (Go.Operand.tmp 119), type := 0, pos := "law.go:384", after := #[{ on := 0, ground := Go.Ground.data }, { on := 1, ground := Go.Ground.data }], guard := none } : Go.Oper)) (v := ?_) rfl (by kernel_rfl) (by kernel_rfl) (by kernel_rfl) (fun _ _ _ h => h) (Or.inl ⟨by rfl, ?_⟩) (by assumption) ?_
      rotate_left
      focus (intro w hSw; (try dsimp only at hSw); go_simp; first | done | with_reducible rfl)
      (try simp only [Act.put, List.setIfInBounds_toArray, List.set_cons_zero, List.set_cons_succ])
      refine wpAnyH_take (i := 3) (oi := ({ dst := some 121, op := Go.Op.load 26 (Go.Operand.tmp 120), type := 26, pos := "law.go:384", after := #[{ on := 2, ground := Go.Ground.data }], guard := none } : Go.Oper)) (v := ?_) rfl (by kernel_rfl) (by kernel_rfl) (by kernel_rfl) (fun _ _ _ h => h) (Or.inl ⟨by rfl, ?_⟩) (by assumption) ?_
      rotate_left
      focus (intro w hSw; (try dsimp only at hSw); go_simp; first | done | with_reducible rfl)
      (try simp only [Act.put, List.setIfInBounds_toArray, List.set_cons_zero, List.set_cons_succ])
      refine wpAnyH_take (i := 4) (oi := ({ dst := some 122, op := Go.Op.move (Go.Operand.tmp 2), type := 3, pos := "law.go:384", after := #[], guard := none } : Go.Oper)) (v := ?_) rfl (by kernel_rfl) (by kernel_rfl) (by kernel_rfl) (fun _ _ _ h => h) (Or.inl ⟨by rfl, ?_⟩) (by assumption) ?_
      rotate_left
      focus (intro w hSw; (try dsimp only at hSw); go_simp; first | done | with_reducible rfl)
      (try simp only [Act.put, List.setIfInBounds_toArray, List.set_cons_zero, List.set_cons_succ])
      refine wpAnyH_ready (rs := [5]) (by kernel_rfl) (by simp) ?_
      refine AllReadyH.cons (o := ({ dst := some 123, op := Go.Op.call { callee := Go.Callee.value (Go.Operand.func 36), args := #[Go.Operand.tmp 121, Go.Operand.tmp 122], argTypes := #[26, 3] }, type := 4, pos := "law.go:384", after := #[{ on := 3, ground := Go.Ground.data }, { on := 4, ground := Go.Ground.data }], guard := none } : Go.Oper)) rfl (fun K hK => ?_) AllReadyH.nil
      go_simp
      go_at_call 36; refine (H36.out _ (below_drew (Below.refl _ _))).mono ?_; rintro e w36 ⟨rfl, hv36⟩; have HV36 := Lib.hid hv36; clear hv36; go_simp
      refine hK.out _ _ (HCR.out _ HV36.out) (fun hHeld => ?_)
      clear hK K
      (try simp only [Act.put, List.setIfInBounds_toArray, List.set_cons_zero, List.set_cons_succ])
      refine wpAnyH_take (i := 6) (oi := ({ dst := some 124, op := Go.Op.unOp Go.UnOp.not 4 (Go.Operand.tmp 123), type := 4, pos := "law.go:384", after := #[{ on := 5, ground := Go.Ground.data }], guard := none } : Go.Oper)) (v := ?_) rfl (by kernel_rfl) (by kernel_rfl) (by kernel_rfl) (fun _ _ _ h => h) (Or.inl ⟨by rfl, ?_⟩) (by assumption) ?_
      rotate_left
      focus (intro w hSw; (try dsimp only at hSw); go_simp; first | done | with_reducible rfl)
      (try simp only [Act.put, List.setIfInBounds_toArray, List.set_cons_zero, List.set_cons_succ])
      refine wpAnyH_take (i := 7) (oi := ({ dst := some 125, op := Go.Op.move (Go.Operand.tmp 124), type := 4, pos := "law.go:384", after := #[{ on := 6, ground := Go.Ground.data }, { on := 5, ground := Go.Ground.chain }], guard := none } : Go.Oper)) (v := ?_) rfl (by kernel_rfl) (by kernel_rfl) (by kernel_rfl) (fun _ _ _ h => h) (Or.inl ⟨by rfl, ?_⟩) (by assumption) ?_
      rotate_left
      focus (intro w hSw; (try dsimp only at hSw); go_simp; first | done | with_reducible rfl)
      (try simp only [Act.put, List.setIfInBounds_toArray, List.set_cons_zero, List.set_cons_succ])
      refine wpAnyH_take (i := 8) (oi := ({ dst := some 126, op := Go.Op.load 25 (Go.Operand.tmp 4), type := 25, pos := "law.go:384", after := #[{ on := 7, ground := Go.Ground.guard }], guard := some (7, true) } : Go.Oper)) (v := ?_) rfl (by kernel_rfl) (by kernel_rfl) (by kernel_rfl) (fun _ _ _ h => h) (Or.inl ⟨by rfl, ?_⟩) (by assumption) ?_
      rotate_left
      focus (intro w hSw; (try dsimp only at hSw); go_simp; first | done | with_reducible rfl)
      (try simp only [Act.put, List.setIfInBounds_toArray, List.set_cons_zero, List.set_cons_succ])
      refine wpAnyH_take (i := 9) (oi := ({ dst := some 127, op := Go.Op.load 25 (Go.Operand.tmp 4), type := 25, pos := "law.go:384", after := #[{ on := 7, ground := Go.Ground.guard }], guard := some (7, true) } : Go.Oper)) (v := ?_) rfl (by kernel_rfl) (by kernel_rfl) (by kernel_rfl) (fun _ _ _ h => h) (Or.inl ⟨by rfl, ?_⟩) (by assumption) ?_
      rotate_left
      focus (intro w hSw; (try dsimp only at hSw); go_simp; first | done | with_reducible rfl)
      (try simp only [Act.put, List.setIfInBounds_toArray, List.set_cons_zero, List.set_cons_succ])
      refine wpAnyH_take (i := 10) (oi := ({ dst := some 128, op := Go.Op.move (Go.Operand.tmp 9), type := 59, pos := "law.go:384", after := #[{ on := 7, ground := Go.Ground.guard }], guard := some (7, true) } : Go.Oper)) (v := ?_) rfl (by kernel_rfl) (by kernel_rfl) (by kernel_rfl) (fun _ _ _ h => h) (Or.inl ⟨by rfl, ?_⟩) (by assumption) ?_
      rotate_left
      focus (intro w hSw; (try dsimp only at hSw); go_simp; first | done | with_reducible rfl)
      (try simp only [Act.put, List.setIfInBounds_toArray, List.set_cons_zero, List.set_cons_succ])
      refine wpAnyH_take (i := 11) (oi := ({ dst := some 129, op := Go.Op.move (Go.Operand.tmp 15), type := 3, pos := "law.go:384", after := #[{ on := 7, ground := Go.Ground.guard }], guard := some (7, true) } : Go.Oper)) (v := ?_) rfl (by kernel_rfl) (by kernel_rfl) (by kernel_rfl) (fun _ _ _ h => h) (Or.inl ⟨by rfl, ?_⟩) (by assumption) ?_
      rotate_left
      focus (intro w hSw; (try dsimp only at hSw); go_simp; first | done | with_reducible rfl)
      (try simp only [Act.put, List.setIfInBounds_toArray, List.set_cons_zero, List.set_cons_succ])
      refine wpAnyH_take (i := 12) (oi := ({ dst := some 130, op := Go.Op.indexAddr 59 (Go.Operand.tmp 128) (Go.Operand.tmp 129), type := 0, pos := "law.go:384", after := #[{ on := 10, ground := Go.Ground.data }, { on := 11, ground := Go.Ground.data }, { on := 7, ground := Go.Ground.guard }], guard := some (7, true) } : Go.Oper)) (v := ?_) rfl (by kernel_rfl) (by kernel_rfl) (by kernel_rfl) (fun _ _ _ h => h) (Or.inl ⟨by rfl, ?_⟩) (by assumption) ?_
      rotate_left
      focus (intro w hSw; (try dsimp only at hSw); go_simp; first | done | with_reducible rfl)
      (try simp only [Act.put, List.setIfInBounds_toArray, List.set_cons_zero, List.set_cons_succ])
      refine wpAnyH_take (i := 13) (oi := ({ dst := some 131, op := Go.Op.load 26 (Go.Operand.tmp 130), type := 26, pos := "law.go:384", after := #[{ on := 12, ground := Go.Ground.data }, { on := 7, ground := Go.Ground.guard }], guard := some (7, true) } : Go.Oper)) (v := ?_) rfl (by kernel_rfl) (by kernel_rfl) (by kernel_rfl) (fun _ _ _ h => h) (Or.inl ⟨by rfl, ?_⟩) (by assumption) ?_
      rotate_left
      focus (intro w hSw; (try dsimp only at hSw); go_simp; first | done | with_reducible rfl)
      (try simp only [Act.put, List.setIfInBounds_toArray, List.set_cons_zero, List.set_cons_succ])
      refine wpAnyH_take (i := 15) (oi := ({ dst := some 133, op := Go.Op.move (Go.Operand.tmp 2), type := 3, pos := "law.go:384", after := #[{ on := 7, ground := Go.Ground.guard }], guard := some (7, true) } : Go.Oper)) (v := ?_) rfl (by kernel_rfl) (by kernel_rfl) (by kernel_rfl) (fun _ _ _ h => h) (Or.inl ⟨by rfl, ?_⟩) (by assumption) ?_
      rotate_left
      focus (intro w hSw; (try dsimp only at hSw); go_simp; first | done | with_reducible rfl)
      (try simp only [Act.put, List.setIfInBounds_toArray, List.set_cons_zero, List.set_cons_succ])
      refine wpAnyH_ready (rs := [14, 16]) (by kernel_rfl) (by simp) ?_
      refine AllReadyH.cons (o := ({ dst := some 132, op := Go.Op.call { callee := Go.Callee.builtin Go.Builtin.append, args := #[Go.Operand.const (Go.Value.slice none 0 0), Go.Operand.tmp 131], argTypes := #[26, 26] }, type := 26, pos := "law.go:384", after := #[{ on := 13, ground := Go.Ground.data }, { on := 7, ground := Go.Ground.chain }, { on := 7, ground := Go.Ground.guard }], guard := some (7, true) } : Go.Oper)) rfl (fun K hK => ?_) (AllReadyH.cons (o := ({ dst := some 134, op := Go.Op.buildSlice 26 1 #[(0, Go.Operand.tmp 133)], type := 26, pos := "law.go:384", after := #[{ on := 15, ground := Go.Ground.data }, { on := 7, ground := Go.Ground.guard }], guard := some (7, true) } : Go.Oper)) rfl (fun K hK => ?_) AllReadyH.nil)
      · obtain ⟨v14, w14, hr14, ho14, hb14, hk14⟩ := H14.out w36 HV36.out; have HO14 := Lib.hid ho14; have HB14 := Lib.hid hb14; have HK14 := Lib.hid hk14; clear ho14 hb14 hk14
        rw [if_pos (by rfl)]
        refine oper_append rfl rfl rfl hr14 ?_
        refine hK.out _ _ (HCR.out _ HB14.out) (fun hHeld => ?_)
        clear hK K
        (try simp only [Act.put, List.setIfInBounds_toArray, List.set_cons_zero, List.set_cons_succ])
        refine wpAnyH_ready (rs := [16]) (by kernel_rfl) (by simp) ?_
        refine AllReadyH.cons (o := ({ dst := some 134, op := Go.Op.buildSlice 26 1 #[(0, Go.Operand.tmp 133)], type := 26, pos := "law.go:384", after := #[{ on := 15, ground := Go.Ground.data }, { on := 7, ground := Go.Ground.guard }], guard := some (7, true) } : Go.Oper)) rfl (fun K hK => ?_) AllReadyH.nil
        go_simp
        refine hK.out _ _ (HCR.out _ (HB14.out.alloc HB14.out.size _)) (fun hHeld => ?_)
        clear hK K
        (try simp only [Act.put, List.setIfInBounds_toArray, List.set_cons_zero, List.set_cons_succ])
        refine wpAnyH_ready (rs := [17]) (by kernel_rfl) (by simp) ?_
        refine AllReadyH.cons (o := ({ dst := some 135, op := Go.Op.call { callee := Go.Callee.builtin Go.Builtin.append, args := #[Go.Operand.tmp 132, Go.Operand.tmp 134], argTypes := #[26, 26] }, type := 26, pos := "law.go:384", after := #[{ on := 14, ground := Go.Ground.data }, { on := 16, ground := Go.Ground.data }, { on := 14, ground := Go.Ground.chain }, { on := 7, ground := Go.Ground.guard }], guard := some (7, true) } : Go.Oper)) rfl (fun K hK => ?_) AllReadyH.nil
        obtain ⟨sa, sc, w17, hr17, hs17, hb17⟩ := H17.out (w14.alloc (.cells #[.int .i64 (o : Int)] 3)) v14 w14.heap.size (HB14.out.alloc HB14.out.size _) (by simp) (HO14.out.alloc _); have HS17 := Lib.hid hs17; have HB17 := Lib.hid hb17; clear hs17 hb17
        rw [if_pos (by rfl)]
        refine oper_append rfl rfl rfl hr17 ?_
        refine hK.out _ _ (HCR.out _ HB17.out) (fun hHeld => ?_)
        clear hK K
        (try simp only [Act.put, List.setIfInBounds_toArray, List.set_cons_zero, List.set_cons_succ])
        refine wpAnyH_ready (rs := [18]) (by kernel_rfl) (by simp) ?_
        refine AllReadyH.cons (o := ({ dst := some 136, op := Go.Op.call { callee := Go.Callee.value (Go.Operand.func 48), args := #[Go.Operand.tmp 127, Go.Operand.tmp 135], argTypes := #[25, 26] }, type := 26, pos := "law.go:384", after := #[{ on := 9, ground := Go.Ground.data }, { on := 17, ground := Go.Ground.data }, { on := 17, ground := Go.Ground.chain }, { on := 7, ground := Go.Ground.guard }], guard := some (7, true) } : Go.Oper)) rfl (fun K hK => ?_) AllReadyH.nil
        go_simp
        go_at_call 48; refine (run48_w f na oa sa ln cn lo co (en + 1) sc (l ++ [o]) N U _ (by omega) (by rw [List.length_append, HNL.out]; rfl) (by omega) (by intro y hy; rcases List.mem_append.1 hy with h | h; exact HLT.out y h; simp at h; omega) (HCB.out _ (HBR.out.trans (HB17.out.mono HBR.out.size))).2 HS17).mono ?_; rintro e w48b ⟨⟨gb, capb, rfl, hio⟩, hv48⟩; have HIOb := Lib.hid hio; have HV48b := Lib.hid (HB17.out.trans (hv48.mono HB17.out.size)); clear hio hv48; go_simp
        refine hK.out _ _ (HCR.out _ HV48b.out) (fun hHeld => ?_)
        clear hK K
        (try simp only [Act.put, List.setIfInBounds_toArray, List.set_cons_zero, List.set_cons_succ])
        refine wpAnyH_ready (rs := [19]) (by kernel_rfl) (by simp) ?_
        refine AllReadyH.cons (o := ({ dst := some 137, op := Go.Op.call { callee := Go.Callee.value (Go.Operand.func 19), args := #[Go.Operand.tmp 126, Go.Operand.tmp 136], argTypes := #[25, 26] }, type := 4, pos := "law.go:384", after := #[{ on := 8, ground := Go.Ground.data }, { on := 18, ground := Go.Ground.data }, { on := 18, ground := Go.Ground.chain }, { on := 7, ground := Go.Ground.guard }], guard := some (7, true) } : Go.Oper)) rfl (fun K hK => ?_) AllReadyH.nil
        go_simp
        go_at_call 19; refine (fit19_w f na oa ln cn lo co gb capb _ (fun j => decide (j ∈ l ++ [o])) false N U _ HT ⟨fun h => (by cases h), fun h => absurd h HF9.out⟩ (HCB.out _ (HBR.out.trans (HV48b.out.mono HBR.out.size))).2 HIOb.out).mono ?_; rintro e w19b ⟨rfl, hv19⟩; have HV19b := Lib.hid (HV48b.out.trans (hv19.mono HV48b.out.size)); clear hv19; go_simp
        refine hK.out _ _ (HCR.out _ HV19b.out) (fun hHeld => ?_)
        clear hK K
        (try simp only [Act.put, List.setIfInBounds_toArray, List.set_cons_zero, List.set_cons_succ])
        refine wpAnyH_take (i := 20) (oi := ({ dst := some 138, op := Go.Op.pick (Go.Operand.tmp 125) (Go.Operand.tmp 137) (Go.Operand.const (Go.Value.bool false)), type := 4, pos := "law.go:384", after := #[{ on := 7, ground := Go.Ground.data }, { on := 19, ground := Go.Ground.data }], guard := none } : Go.Oper)) (v := ?_) rfl (by kernel_rfl) (by kernel_rfl) (by kernel_rfl) (fun _ _ _ h => h) (Or.inl ⟨by rfl, ?_⟩) (by assumption) ?_
        rotate_left
        focus (intro w hSw; (try dsimp only at hSw); go_simp; first | done | with_reducible rfl)
        (try simp only [Act.put, List.setIfInBounds_toArray, List.set_cons_zero, List.set_cons_succ])
        refine wpAnyH_done (by kernel_rfl) ?_ _
        go_wp2
        go_roundw
        case rel => exact ⟨k + 1, by omega, by go_num, HBR.out.trans (HV19b.out.mono HBR.out.size)⟩
        case measure => simp [Go.RowKit.intOf]; omega
      · go_simp
        refine hK.out _ _ (HCR.out _ (HV36.out.alloc HV36.out.size _)) (fun hHeld => ?_)
        clear hK K
        (try simp only [Act.put, List.setIfInBounds_toArray, List.set_cons_zero, List.set_cons_succ])
        refine wpAnyH_ready (rs := [14]) (by kernel_rfl) (by simp) ?_
        refine AllReadyH.cons (o := ({ dst := some 132, op := Go.Op.call { callee := Go.Callee.builtin Go.Builtin.append, args := #[Go.Operand.const (Go.Value.slice none 0 0), Go.Operand.tmp 131], argTypes := #[26, 26] }, type := 26, pos := "law.go:384", after := #[{ on := 13, ground := Go.Ground.data }, { on := 7, ground := Go.Ground.chain }, { on := 7, ground := Go.Ground.guard }], guard := some (7, true) } : Go.Oper)) rfl (fun K hK => ?_) AllReadyH.nil
        obtain ⟨v14, w14, hr14, ho14, hb14, hk14⟩ := H14.out (w36.alloc (.cells #[.int .i64 (o : Int)] 3)) (HV36.out.alloc HV36.out.size _); have HO14 := Lib.hid ho14; have HB14 := Lib.hid hb14; have HK14 := Lib.hid hk14; clear ho14 hb14 hk14
        rw [if_pos (by rfl)]
        refine oper_append rfl rfl rfl hr14 ?_
        refine hK.out _ _ (HCR.out _ HB14.out) (fun hHeld => ?_)
        clear hK K
        (try simp only [Act.put, List.setIfInBounds_toArray, List.set_cons_zero, List.set_cons_succ])
        refine wpAnyH_ready (rs := [17]) (by kernel_rfl) (by simp) ?_
        refine AllReadyH.cons (o := ({ dst := some 135, op := Go.Op.call { callee := Go.Callee.builtin Go.Builtin.append, args := #[Go.Operand.tmp 132, Go.Operand.tmp 134], argTypes := #[26, 26] }, type := 26, pos := "law.go:384", after := #[{ on := 14, ground := Go.Ground.data }, { on := 16, ground := Go.Ground.data }, { on := 14, ground := Go.Ground.chain }, { on := 7, ground := Go.Ground.guard }], guard := some (7, true) } : Go.Oper)) rfl (fun K hK => ?_) AllReadyH.nil
        obtain ⟨sa, sc, w17, hr17, hs17, hb17⟩ := H17.out w14 v14 w36.heap.size HB14.out (HK14.out ⟨w36.heap.size, 0, none⟩ _ (by simp)) HO14.out; have HS17 := Lib.hid hs17; have HB17 := Lib.hid hb17; clear hs17 hb17
        rw [if_pos (by rfl)]
        refine oper_append rfl rfl rfl hr17 ?_
        refine hK.out _ _ (HCR.out _ HB17.out) (fun hHeld => ?_)
        clear hK K
        (try simp only [Act.put, List.setIfInBounds_toArray, List.set_cons_zero, List.set_cons_succ])
        refine wpAnyH_ready (rs := [18]) (by kernel_rfl) (by simp) ?_
        refine AllReadyH.cons (o := ({ dst := some 136, op := Go.Op.call { callee := Go.Callee.value (Go.Operand.func 48), args := #[Go.Operand.tmp 127, Go.Operand.tmp 135], argTypes := #[25, 26] }, type := 26, pos := "law.go:384", after := #[{ on := 9, ground := Go.Ground.data }, { on := 17, ground := Go.Ground.data }, { on := 17, ground := Go.Ground.chain }, { on := 7, ground := Go.Ground.guard }], guard := some (7, true) } : Go.Oper)) rfl (fun K hK => ?_) AllReadyH.nil
        go_simp
        go_at_call 48; refine (run48_w f na oa sa ln cn lo co (en + 1) sc (l ++ [o]) N U _ (by omega) (by rw [List.length_append, HNL.out]; rfl) (by omega) (by intro y hy; rcases List.mem_append.1 hy with h | h; exact HLT.out y h; simp at h; omega) (HCB.out _ (HBR.out.trans (HB17.out.mono HBR.out.size))).2 HS17).mono ?_; rintro e w48b ⟨⟨gb, capb, rfl, hio⟩, hv48⟩; have HIOb := Lib.hid hio; have HV48b := Lib.hid (HB17.out.trans (hv48.mono HB17.out.size)); clear hio hv48; go_simp
        refine hK.out _ _ (HCR.out _ HV48b.out) (fun hHeld => ?_)
        clear hK K
        (try simp only [Act.put, List.setIfInBounds_toArray, List.set_cons_zero, List.set_cons_succ])
        refine wpAnyH_ready (rs := [19]) (by kernel_rfl) (by simp) ?_
        refine AllReadyH.cons (o := ({ dst := some 137, op := Go.Op.call { callee := Go.Callee.value (Go.Operand.func 19), args := #[Go.Operand.tmp 126, Go.Operand.tmp 136], argTypes := #[25, 26] }, type := 4, pos := "law.go:384", after := #[{ on := 8, ground := Go.Ground.data }, { on := 18, ground := Go.Ground.data }, { on := 18, ground := Go.Ground.chain }, { on := 7, ground := Go.Ground.guard }], guard := some (7, true) } : Go.Oper)) rfl (fun K hK => ?_) AllReadyH.nil
        go_simp
        go_at_call 19; refine (fit19_w f na oa ln cn lo co gb capb _ (fun j => decide (j ∈ l ++ [o])) false N U _ HT ⟨fun h => (by cases h), fun h => absurd h HF9.out⟩ (HCB.out _ (HBR.out.trans (HV48b.out.mono HBR.out.size))).2 HIOb.out).mono ?_; rintro e w19b ⟨rfl, hv19⟩; have HV19b := Lib.hid (HV48b.out.trans (hv19.mono HV48b.out.size)); clear hv19; go_simp
        refine hK.out _ _ (HCR.out _ HV19b.out) (fun hHeld => ?_)
        clear hK K
        (try simp only [Act.put, List.setIfInBounds_toArray, List.set_cons_zero, List.set_cons_succ])
        refine wpAnyH_take (i := 20) (oi := ({ dst := some 138, op := Go.Op.pick (Go.Operand.tmp 125) (Go.Operand.tmp 137) (Go.Operand.const (Go.Value.bool false)), type := 4, pos := "law.go:384", after := #[{ on := 7, ground := Go.Ground.data }, { on := 19, ground := Go.Ground.data }], guard := none } : Go.Oper)) (v := ?_) rfl (by kernel_rfl) (by kernel_rfl) (by kernel_rfl) (fun _ _ _ h => h) (Or.inl ⟨by rfl, ?_⟩) (by assumption) ?_
        rotate_left
        focus (intro w hSw; (try dsimp only at hSw); go_simp; first | done | with_reducible rfl)
        (try simp only [Act.put, List.setIfInBounds_toArray, List.set_cons_zero, List.set_cons_succ])
        refine wpAnyH_done (by kernel_rfl) ?_ _
        go_wp2
        go_roundw
        case rel => exact ⟨k + 1, by omega, by go_num, HBR.out.trans (HV19b.out.mono HBR.out.size)⟩
        case measure => simp [Go.RowKit.intOf]; omega

set_option maxRecDepth 100000 in
set_option maxHeartbeats 4000000 in
theorem lawut_y (f : Int) (na oa : Option Addr) (ln cn lo co : Nat) (N : Nat → N2) (U : Nat → O3) (d o m : Nat) (w : World) (hls : ln ≤ 1000000) (hlt : lo ≤ 1000000) (H : Hid (Tr7 w na oa ln lo N U)) (K : Hid KnownOk) (hq : ln ≤ 8 ∧ lo ≤ 10) (HR : Hid (TreeS f ln lo N U)) (hd : d ≤ 10) (ho : o < lo) (hm : d + m ≤ 10) (HA : Hid (¬ aloneP f ln lo N U o)) :
    Calls Tryz.prog 10 #[.agg #[.int .i64 f, .slice na ln cn, .slice oa lo co], .int .i64 (d : Int), .int .i64 (o : Int), .int .i64 (m : Int)] w
      fun e w' => e = .returned (.bool true) ∧ Below w.heap.size w w' := by
  have hsh : decide (ln ≤ 8 ∧ lo ≤ 10) = true := decide_eq_true hq
  have HO : Hid (fromB 0 ((lo : Int) - 1) (o : Int) = true) := Lib.hid (by simp only [fromB, decide_eq_true_eq]; omega)
  have hl6 := HR.out.l6
  have hl8 := HR.out.lo2
  have HT : Hid (TreeP f ln lo N U) := Lib.hid HR.out.w
  have wr1 : IntKind.i64.wrap (10 - (d : Int)) = 10 - (d : Int) := by rw [IntKind.wrap_i64]; omega
  have wr2 : wrap64 (10 - (d : Int)) = 10 - (d : Int) := by unfold wrap64; omega
  have m1 : (0 : Int) ≤ (d : Int) := by omega
  have m2 : (d : Int) ≤ 10 := by omega
  have m3 : (0 : Int) ≤ (m : Int) := by omega
  have m4 : (m : Int) ≤ 10 - (d : Int) := by omega
  have FLAG : Hid True := Lib.hid trivial
  have BX := Lib.hid (fun (w1 : World) (hb : Below (w.alloc (.cells #[.int .i64 f, .slice na ln cn, .slice oa lo co] 25)).heap.size (w.alloc (.cells #[.int .i64 f, .slice na ln cn, .slice oa lo co] 25)) w1) => box7 hb)
  have HN : Hid (∀ w1, Below (w.alloc (.cells #[.int .i64 f, .slice na ln cn, .slice oa lo co] 25)).heap.size (w.alloc (.cells #[.int .i64 f, .slice na ln cn, .slice oa lo co] 25)) w1 → Hid (Tr7 w1 na oa ln lo N U)) := Lib.hid fun w1 h => Lib.hid (H.out.below (below_al h))
  have hb : Below (w.alloc (.cells #[.int .i64 f, .slice na ln cn, .slice oa lo co] 25)).heap.size (w.alloc (.cells #[.int .i64 f, .slice na ln cn, .slice oa lo co] 25)) (w.alloc (.cells #[.int .i64 f, .slice na ln cn, .slice oa lo co] 25)) := Below.refl _ _
  obtain ⟨x1, x2, x3, x4⟩ := BX.out _ hb
  clear H
  go_enter Tryz.func10, Tryz.ntmps10
  go_wp2_with (first
    | (go_at_call 13; refine (short_w _ _ _ _ _ _ _ _ (by unfold maxLen; omega) (by unfold maxLen; omega)).mono ?_; rw [hsh]; rintro e wl ⟨rfl, hv⟩; (try replace hbs := hbs.trans (hv.mono hbs.size)); replace hb := hb.trans (hv.mono hb.size); clear x1 x2 x3 x4; obtain ⟨x1, x2, x3, x4⟩ := BX.out _ hb)
    | (go_at_call 17; refine (tree_w _ _ _ _ _ _ _ N U _ hls hlt (HN.out _ hb)).mono ?_; rintro e wl ⟨⟨rb, rfl, hrb⟩, hv⟩; obtain rfl : rb = true := hrb.2 HR.out; clear hrb; (try replace hbs := hbs.trans (hv.mono hbs.size)); replace hb := hb.trans (hv.mono hb.size); clear x1 x2 x3 x4; obtain ⟨x1, x2, x3, x4⟩ := BX.out _ hb)
    | (go_at_call_of 33 (o : Int); refine (outlet_w f (o : Int) na oa ln cn lo co _ hlt).mono ?_; rw [HO.out]; rintro e wl ⟨rfl, hv⟩; (try replace hbs := hbs.trans (hv.mono hbs.size)); replace hb := hb.trans (hv.mono hb.size); clear x1 x2 x3 x4; obtain ⟨x1, x2, x3, x4⟩ := BX.out _ hb)
    | (go_at_call 42; have hfl := FLAG.out; clear hfl FLAG; refine (turns_w f na oa ln cn lo co d N U _ hd HR (HN.out _ hb)).mono ?_; rintro e wp ⟨⟨oo, cc, E, rfl, hpl, htu, hcc⟩, hv⟩; (try replace hbs := hbs.trans (hv.mono hbs.size)); replace hb := hb.trans (hv.mono hb.size); clear x1 x2 x3 x4; obtain ⟨x1, x2, x3, x4⟩ := BX.out _ hb; have HPL := Lib.hid hpl; have HTU := Lib.hid htu; clear hpl htu; have hbs : Below wp.heap.size wp wp := Below.refl _ _; have HDB : Hid (∀ x, x < d → dayB lo (E x).s (E x).n = true) := Lib.hid fun x hx => turE_day HTU.out hx; have HEN : Hid (∀ x, x < d → (E x).n ≤ 100) := Lib.hid fun x hx => (by have := (dayB_len _ (HDB.out x hx)).1; omega); have HPB : Hid ((decide (d ≤ 10) && allN (fun x => dayB lo (E x).s (E x).n) d) = true) := Lib.hid (by rw [decide_eq_true hd, Bool.true_and, allN_iff]; exact HDB.out); have HRB : Hid (allN (fun x => runD f ln lo N U (E x)) d = true) := Lib.hid ((allN_iff d).2 fun x hx => turE_run HT.out HTU.out hx))
    | (go_at_call 46; refine (rplan_w f na oa oo ln cn lo co d cc E _ hlt (by omega) (Lib.hid fun x hx => by have := HEN.out x hx; omega) (Lib.hid (HPL.out.below hbs))).mono ?_; rw [HPB.out]; rintro e wl ⟨rfl, hv⟩; (try replace hbs := hbs.trans (hv.mono hbs.size)); replace hb := hb.trans (hv.mono hb.size); clear x1 x2 x3 x4; obtain ⟨x1, x2, x3, x4⟩ := BX.out _ hb)
    | (go_at_call 43; refine (druns_w f na oa oo ln cn lo co d cc N U E _ hd HR (HN.out _ hb) (Lib.hid (HPL.out.below hbs)) HDB).mono ?_; rw [HRB.out]; rintro e wm ⟨rfl, hv⟩; (try replace hbs := hbs.trans (hv.mono hbs.size)); replace hb := hb.trans (hv.mono hb.size); clear x1 x2 x3 x4; obtain ⟨x1, x2, x3, x4⟩ := BX.out _ hb))
  have HB0 := Lib.hid hb
  have HBS := Lib.hid hbs
  have HZB : Hid (w.heap.size < wm.heap.size) := Lib.hid x4
  have HCB : Hid (∀ w2, Below wm.heap.size wm w2 → (w2.cell? ⟨w.heap.size, 0, none⟩ = some (.int .i64 f) ∧ w2.cell? ⟨w.heap.size, 1, none⟩ = some (.slice na ln cn) ∧ w2.cell? ⟨w.heap.size, 2, none⟩ = some (.slice oa lo co)) ∧ Hid (Tr7 w2 na oa ln lo N U)) := Lib.hid fun w2 h => by
    have h2 := HB0.out.trans (h.mono HB0.out.size)
    obtain ⟨y1, y2, y3, _⟩ := BX.out _ h2
    exact ⟨⟨y1, y2, y3⟩, HN.out _ h2⟩
  have hal0 : Below wm.heap.size wm (wm.alloc (.cells #[.int .i64 (o : Int)] 3)).drew := below_drew ((Below.refl _ _).alloc (Nat.le_refl _) _)
  have HAL0 := Lib.hid hal0
  have H48 : Hid (Calls Tryz.prog 48 #[.agg #[.int .i64 f, .slice na ln cn, .slice oa lo co], .slice (some ⟨wm.heap.size, 0, none⟩) 1 1] (wm.alloc (.cells #[.int .i64 (o : Int)] 3)).drew fun e w' => (∃ g cap, e = .returned (.slice (some ⟨g, 0, none⟩) lo cap) ∧ IntOwn w' wm.heap.size g lo (runB U fun j => decide (j ∈ [o]))) ∧ Below wm.heap.size wm w') := Lib.hid (by
    have hs : IntSl (wm.alloc (.cells #[.int .i64 (o : Int)] 3)).drew (some ⟨wm.heap.size, 0, none⟩) 1 (lgI [o]) := .inr ⟨wm.heap.size, 0, rfl, by show wm.heap.size < (wm.alloc _).heap.size; simp, fun i hi => by
      obtain rfl : i = 0 := by omega
      show (wm.alloc _).cell? _ = _
      simp [lgI]⟩
    refine (run48_w f na oa _ ln cn lo co 1 1 [o] N U _ (by omega) rfl (by omega) (by intro y hy; simp at hy; omega) (HCB.out _ HAL0.out).2 (Lib.hid hs)).mono ?_
    rintro e w' ⟨⟨g, cap, rfl, h1⟩, hv⟩
    exact ⟨⟨g, cap, rfl, ⟨Nat.le_trans (by show wm.heap.size ≤ (wm.alloc _).heap.size; simp) h1.lo, h1.lt, h1.at_, h1.fr⟩⟩, HAL0.out.trans (hv.mono HAL0.out.size)⟩)
  have HFB : Hid (¬ FitP f ln lo N U (runB U fun j => decide (j ∈ [o]))) := Lib.hid (by
    have e : (fun j => decide (j ∈ [o])) = fun j => decide (j = o) := by funext j; simp
    rw [e]; exact HA.out)
  have hx0 := (HCB.out _ (Below.refl _ _)).1
  obtain ⟨x1, x2, x3⟩ := hx0
  clear hb hbs x4 hal0
  go_wp2
  refine wp_region_held_drew (S := fun w' => w'.cell? ⟨w.heap.size, 0, none⟩ = some (.int .i64 f) ∧ w'.cell? ⟨w.heap.size, 1, none⟩ = some (.slice na ln cn) ∧ w'.cell? ⟨w.heap.size, 2, none⟩ = some (.slice oa lo co)) (by kernel_rfl) ⟨x1, x2, x3⟩ (fun hHeld => ?_)
  refine wpAnyH_take (i := 0) (oi := ({ dst := some 77, op := Go.Op.load 25 (Go.Operand.tmp 4), type := 25, pos := "law.go:378", after := #[], guard := none } : Go.Oper)) (v := ?_) rfl (by kernel_rfl) (by kernel_rfl) (by kernel_rfl) (fun _ _ _ h => h) (Or.inl ⟨by rfl, ?_⟩) (by assumption) ?_
  rotate_left
  focus (intro w hSw; (try dsimp only at hSw); go_simp; first | done | with_reducible rfl)
  (try simp only [Act.put, List.setIfInBounds_toArray, List.set_cons_zero, List.set_cons_succ])
  refine wpAnyH_take (i := 1) (oi := ({ dst := some 78, op := Go.Op.load 25 (Go.Operand.tmp 4), type := 25, pos := "law.go:378", after := #[], guard := none } : Go.Oper)) (v := ?_) rfl (by kernel_rfl) (by kernel_rfl) (by kernel_rfl) (fun _ _ _ h => h) (Or.inl ⟨by rfl, ?_⟩) (by assumption) ?_
  rotate_left
  focus (intro w hSw; (try dsimp only at hSw); go_simp; first | done | with_reducible rfl)
  (try simp only [Act.put, List.setIfInBounds_toArray, List.set_cons_zero, List.set_cons_succ])
  refine wpAnyH_take (i := 2) (oi := ({ dst := some 79, op := Go.Op.move (Go.Operand.tmp 2), type := 3, pos := "law.go:378", after := #[], guard := none } : Go.Oper)) (v := ?_) rfl (by kernel_rfl) (by kernel_rfl) (by kernel_rfl) (fun _ _ _ h => h) (Or.inl ⟨by rfl, ?_⟩) (by assumption) ?_
  rotate_left
  focus (intro w hSw; (try dsimp only at hSw); go_simp; first | done | with_reducible rfl)
  (try simp only [Act.put, List.setIfInBounds_toArray, List.set_cons_zero, List.set_cons_succ])
  refine wpAnyH_ready (rs := [3]) (by kernel_rfl) (by simp) ?_
  refine AllReadyH.cons (o := ({ dst := some 80, op := Go.Op.buildSlice 26 1 #[(0, Go.Operand.tmp 79)], type := 26, pos := "law.go:378", after := #[{ on := 2, ground := Go.Ground.data }], guard := none } : Go.Oper)) rfl (fun K hK => ?_) AllReadyH.nil
  go_simp
  refine hK.out _ _ (HCB.out _ HAL0.out).1 (fun hHeld => ?_)
  clear hK K
  (try simp only [Act.put, List.setIfInBounds_toArray, List.set_cons_zero, List.set_cons_succ])
  refine wpAnyH_ready (rs := [4]) (by kernel_rfl) (by simp) ?_
  refine AllReadyH.cons (o := ({ dst := some 81, op := Go.Op.call { callee := Go.Callee.value (Go.Operand.func 48), args := #[Go.Operand.tmp 78, Go.Operand.tmp 80], argTypes := #[25, 26] }, type := 26, pos := "law.go:378", after := #[{ on := 1, ground := Go.Ground.data }, { on := 3, ground := Go.Ground.data }], guard := none } : Go.Oper)) rfl (fun K hK => ?_) AllReadyH.nil
  go_simp
  go_at_call 48; refine H48.out.mono ?_; rintro e w48 ⟨⟨g, cap, rfl, hio⟩, hv48⟩; have HIO := Lib.hid hio; have HV48 := Lib.hid hv48; clear hio hv48; go_simp
  refine hK.out _ _ (HCB.out _ HV48.out).1 (fun hHeld => ?_)
  clear hK K
  (try simp only [Act.put, List.setIfInBounds_toArray, List.set_cons_zero, List.set_cons_succ])
  refine wpAnyH_ready (rs := [5]) (by kernel_rfl) (by simp) ?_
  refine AllReadyH.cons (o := ({ dst := some 82, op := Go.Op.call { callee := Go.Callee.value (Go.Operand.func 19), args := #[Go.Operand.tmp 77, Go.Operand.tmp 81], argTypes := #[25, 26] }, type := 4, pos := "law.go:378", after := #[{ on := 0, ground := Go.Ground.data }, { on := 4, ground := Go.Ground.data }, { on := 4, ground := Go.Ground.chain }], guard := none } : Go.Oper)) rfl (fun K hK => ?_) AllReadyH.nil
  go_simp
  go_at_call 19; refine (fit19_w f na oa ln cn lo co g cap wm.heap.size (fun j => decide (j ∈ [o])) false N U _ HT ⟨fun h => (by cases h), fun h => absurd h HFB.out⟩ (HCB.out _ HV48.out).2 HIO.out).mono ?_; rintro e w19 ⟨rfl, hv19⟩; have HV19 := Lib.hid (HV48.out.trans (hv19.mono HV48.out.size)); clear hv19; go_simp
  refine hK.out _ _ (HCB.out _ HV19.out).1 (fun hHeld => ?_)
  clear hK K
  (try simp only [Act.put, List.setIfInBounds_toArray, List.set_cons_zero, List.set_cons_succ])
  refine wpAnyH_take (i := 6) (oi := ({ dst := some 13, op := Go.Op.assign (Go.Operand.tmp 82), type := 4, pos := "law.go:378", after := #[{ on := 5, ground := Go.Ground.data }, { on := 5, ground := Go.Ground.chain }, { on := 0, ground := Go.Ground.phase }, { on := 1, ground := Go.Ground.phase }, { on := 2, ground := Go.Ground.phase }, { on := 3, ground := Go.Ground.phase }, { on := 4, ground := Go.Ground.phase }, { on := 5, ground := Go.Ground.phase }], guard := none } : Go.Oper)) (v := ?_) rfl (by kernel_rfl) (by kernel_rfl) (by kernel_rfl) (fun _ _ _ h => h) (Or.inl ⟨by rfl, ?_⟩) (by assumption) ?_
  rotate_left
  focus (intro w hSw; (try dsimp only at hSw); go_simp; first | done | with_reducible rfl)
  (try simp only [Act.put, List.setIfInBounds_toArray, List.set_cons_zero, List.set_cons_succ])
  refine wpAnyH_done (by kernel_rfl) ?_ _
  obtain ⟨c, hc⟩ : ∃ c, ranF f lo N U d o = c := ⟨_, rfl⟩
  have HDC : Hid (cntB (dys E (o : Int)) d = c) := Lib.hid ((turE_days HTU.out o d (Nat.le_refl _)).trans hc)
  have HEN2 : Hid (∀ x, x < d → (E x).n ≤ 1000000) := Lib.hid fun x hx => by have := HEN.out x hx; omega
  have HBT : Hid (∀ w2, Below wm.heap.size wm w2 → Below wp.heap.size wp w2) := Lib.hid fun w2 h => HBS.out.trans (h.mono HBS.out.size)
  have n0 : (0 : Int) < (lo : Int) := by omega
  have n9 : ¬ (lo : Int) = 0 := by omega
  have hc0 : c = 0 := by rw [← hc]; exact never HT.out HA.out d
  subst hc0
  have hbm : Below wm.heap.size wm w19 := HV19.out
  obtain ⟨⟨x1, x2, x3⟩, _⟩ := HCB.out _ hbm
  clear hc wr1 wr2
  go_wp2_with (first
    | (go_at_call 49; refine (days_w oo d cc E o _ (by omega) HEN2 (Lib.hid (HPL.out.below (HBT.out _ hbm)))).mono ?_; rw [HDC.out]; rintro e w49 ⟨rfl, hv⟩; replace hbm := hbm.trans (hv.mono hbm.size); clear x1 x2 x3; obtain ⟨⟨x1, x2, x3⟩, _⟩ := HCB.out _ hbm))
  have HBM := Lib.hid hbm
  have HCE : Hid (∀ x, x < d → (E x).n = (turnD f lo N U x).length ∧ (E x).s = lgI (turnD f lo N U x)) := Lib.hid fun x hx => ⟨HTU.out.n x hx, HTU.out.s x hx⟩
  clear hbm x1 x2 x3
  go_loopw [15] (fun ii wr => ∃ k : Nat, k ≤ d ∧ ii = .int .i64 (k : Int) ∧ Below wm.heap.size wm wr) (fun ii _ => d - (Go.RowKit.intOf ii).toNat)
  case atStart => exact ⟨0, Nat.zero_le _, rfl, HBM.out⟩
  case round =>
    obtain ⟨k, hk, rfl, hbr⟩ := hrel
    have HBR := Lib.hid hbr
    clear hbr
    by_cases hlk : k < d
    case neg =>
      obtain rfl : k = d := by omega
      obtain ⟨⟨x1, x2, x3⟩, _⟩ := HCB.out _ HBR.out
      have hb9 := HBR.out
      have HT2 : Hid (∀ w2, Hid (Tr7 w2 na oa ln lo N U) → Calls Tryz.prog 42 #[.agg #[.int .i64 f, .slice na ln cn, .slice oa lo co], .int .i64 ((k : Int) + (m : Int))] w2 fun e w' => (∃ oo cc E, e = .returned (.tuple #[.slice oo (k + m) cc, .int .i64 0]) ∧ PlSl w' oo (k + m) E ∧ TurE f lo N U (k + m) w2.heap.size E ∧ k + m ≤ cc) ∧ Below w2.heap.size w2 w') := Lib.hid fun w2 h => turns_w f na oa ln cn lo co (k + m) N U w2 hm HR h
      go_wp2_with (first
        | (go_at_call 42; refine (HT2.out _ (HCB.out _ hb9).2).mono ?_; rintro e wq ⟨⟨oo2, cc2, E2, rfl, hpl, htu, hcc2⟩, hv⟩; replace hb9 := hb9.trans (hv.mono hb9.size); clear x1 x2 x3; have HPL2 := Lib.hid hpl; have HTU2 := Lib.hid htu; have HQ2 := Lib.hid (Below.refl wq.heap.size wq); clear hpl htu; have hcq : k ≤ cc2 := Nat.le_trans (Nat.le_add_right _ _) hcc2)
        | (go_at_call 44; refine (samePlans_w oo2 oo k cc2 cc E2 E _ (by omega) (Lib.hid (by rcases HPL2.out with h | ⟨A, O, h1, h2, h3⟩; exact .inl (by omega); exact .inr ⟨A, O, h1, h2, fun x hx => h3 x (by omega)⟩)) (Lib.hid (HPL.out.below (HBT.out _ hb9))) (Lib.hid fun x hx => ⟨by rw [HTU2.out.n x (by omega), (HCE.out x hx).1], by rw [HTU2.out.n x (by omega)]; have := dayL_len (f := f) (lo := lo) (N := N) (U := U) (r := ranF f lo N U x); unfold turnD; omega, by rw [HTU2.out.s x (by omega), (HCE.out x hx).2]⟩)).mono ?_; rintro e w44 ⟨rfl, hv⟩; replace hb9 := hb9.trans (hv.mono hb9.size))
        | (go_at_call 14; refine (K.out _).mono ?_; rintro e wk ⟨rfl, hv⟩; replace hb9 := hb9.trans (hv.mono hb9.size)))
      go_ret
      exact ⟨rfl, below_al (HB0.out.trans (hb9.mono HB0.out.size))⟩
    case pos =>
    obtain ⟨A, O, rfl, hAo, hN⟩ := HPL.out.resolve_left (by omega)
    obtain ⟨en1, es1⟩ := HCE.out k hlk
    have hen := HEN.out k hlk
    obtain ⟨⟨ea, en, ec, es⟩, he⟩ : ∃ dy, E k = dy := ⟨_, rfl⟩
    have HPA : Hid (∀ w2, Below wr.heap.size wr w2 → w2.cell? ⟨A, O + k, none⟩ = some (.slice ea en ec) ∧ IntSl w2 ea en es) := Lib.hid fun w2 h => by
      have h2 := HBT.out _ (HBR.out.trans (h.mono HBR.out.size))
      have h3 := (hN.below hAo h2) k hlk
      rw [he] at h3; exact h3
    rw [he] at en1 es1 hen
    dsimp only at en1 es1 hen
    subst es1
    obtain ⟨l, hl⟩ : ∃ l, turnD f lo N U k = l := ⟨_, rfl⟩
    have HLT : Hid (∀ y ∈ l, y < lo) := Lib.hid fun y hy => dayL_lt (by rw [← hl] at hy; exact hy)
    have HMX : Hid (o ∉ l → ¬ FitP f ln lo N U (runB U fun j => decide (j ∈ l ++ [o]))) := Lib.hid fun hn => by
      have h := day_max HT.out (ranF f lo N U k) ho (by rw [← hl] at hn; exact hn)
      have e : (fun j => decide (j ∈ l ++ [o])) = fun j => decide (j ∈ dayL f lo N U (ranF f lo N U k)) || decide (j = o) := by
        funext j; rw [← hl]; unfold turnD; simp
      rw [e]; exact h
    rw [hl] at en1 HPA
    have HNL : Hid (l.length = en) := Lib.hid en1.symm
    have HCR : Hid (∀ w2, Below wr.heap.size wr w2 → (w2.cell? ⟨w.heap.size, 0, none⟩ = some (.int .i64 f) ∧ w2.cell? ⟨w.heap.size, 1, none⟩ = some (.slice na ln cn) ∧ w2.cell? ⟨w.heap.size, 2, none⟩ = some (.slice oa lo co)) ∧ w2.cell? ⟨A, O + k, none⟩ = some (.slice ea en ec)) := Lib.hid fun w2 h => ⟨(HCB.out _ (HBR.out.trans (h.mono HBR.out.size))).1, (HPA.out w2 h).1⟩
    have H36 : Hid (∀ w2, Below wr.heap.size wr w2 → Calls Tryz.prog 36 #[.slice ea en ec, .int .i64 (o : Int)] w2 fun e w' => e = .returned (.bool (decide (o ∈ l))) ∧ Below wr.heap.size wr w') := Lib.hid fun w2 h => (has_w ea en ec (lgI l) (o : Int) w2 (by omega) (Lib.hid (HPA.out w2 h).2)).mono fun e w' ⟨h1, h2⟩ => ⟨by rw [h1, ← HNL.out, hasB_lgI], h.trans (h2.mono h.size)⟩
    have n1 : (0 : Int) ≤ (k : Int) := by omega
    have n2 : (k : Int) < (d : Int) := by omega
    clear hN he hl en1
    by_cases hol : o ∈ l
    · rw [decide_eq_true hol] at H36
      clear hol
      go_wp2
      refine wp_region_held_drew (S := fun w' => (w'.cell? ⟨w.heap.size, 0, none⟩ = some (.int .i64 f) ∧ w'.cell? ⟨w.heap.size, 1, none⟩ = some (.slice na ln cn) ∧ w'.cell? ⟨w.heap.size, 2, none⟩ = some (.slice oa lo co)) ∧ w'.cell? ⟨A, O + k, none⟩ = some (.slice ea en ec)) (by kernel_rfl) (HCR.out wr (Below.refl _ _)) (fun hHeld => ?_)
      refine wpAnyH_take (i := 0) (oi := ({ dst := some 118, op := Go.Op.move (Go.Operand.tmp 9), type := 59, pos := "law.go:384", after := #[], guard := none } : Go.Oper)) (v := ?_) rfl (by kernel_rfl) (by kernel_rfl) (by kernel_rfl) (fun _ _ _ h => h) (Or.inl ⟨by rfl, ?_⟩) (by assumption) ?_
      rotate_left
      focus (intro w hSw; (try dsimp only at hSw); go_simp; first | done | with_reducible rfl)
      (try simp only [Act.put, List.setIfInBounds_toArray, List.set_cons_zero, List.set_cons_succ])
      refine wpAnyH_take (i := 1) (oi := ({ dst := some 119, op := Go.Op.move (Go.Operand.tmp 15), type := 3, pos := "law.go:384", after := #[], guard := none } : Go.Oper)) (v := ?_) rfl (by kernel_rfl) (by kernel_rfl) (by kernel_rfl) (fun _ _ _ h => h) (Or.inl ⟨by rfl, ?_⟩) (by assumption) ?_
      rotate_left
      focus (intro w hSw; (try dsimp only at hSw); go_simp; first | done | with_reducible rfl)
      (try simp only [Act.put, List.setIfInBounds_toArray, List.set_cons_zero, List.set_cons_succ])
      refine wpAnyH_take (i := 2) (oi := ({ dst := some 120, op := Go.Op.indexAddr 59 (Go.Operand.tmp 118) (Go.Operand.tmp 119), type := 0, pos := "law.go:384", after := #[{ on := 0, ground := Go.Ground.data }, { on := 1, ground := Go.Ground.data }], guard := none } : Go.Oper)) (v := ?_) rfl (by kernel_rfl) (by kernel_rfl) (by kernel_rfl) (fun _ _ _ h => h) (Or.inl ⟨by rfl, ?_⟩) (by assumption) ?_
      rotate_left
      focus (intro w hSw; (try dsimp only at hSw); go_simp; first | done | with_reducible rfl)
      (try simp only [Act.put, List.setIfInBounds_toArray, List.set_cons_zero, List.set_cons_succ])
      refine wpAnyH_take (i := 3) (oi := ({ dst := some 121, op := Go.Op.load 26 (Go.Operand.tmp 120), type := 26, pos := "law.go:384", after := #[{ on := 2, ground := Go.Ground.data }], guard := none } : Go.Oper)) (v := ?_) rfl (by kernel_rfl) (by kernel_rfl) (by kernel_rfl) (fun _ _ _ h => h) (Or.inl ⟨by rfl, ?_⟩) (by assumption) ?_
      rotate_left
      focus (intro w hSw; (try dsimp only at hSw); go_simp; first | done | with_reducible rfl)
      (try simp only [Act.put, List.setIfInBounds_toArray, List.set_cons_zero, List.set_cons_succ])
      refine wpAnyH_take (i := 4) (oi := ({ dst := some 122, op := Go.Op.move (Go.Operand.tmp 2), type := 3, pos := "law.go:384", after := #[], guard := none } : Go.Oper)) (v := ?_) rfl (by kernel_rfl) (by kernel_rfl) (by kernel_rfl) (fun _ _ _ h => h) (Or.inl ⟨by rfl, ?_⟩) (by assumption) ?_
      rotate_left
      focus (intro w hSw; (try dsimp only at hSw); go_simp; first | done | with_reducible rfl)
      (try simp only [Act.put, List.setIfInBounds_toArray, List.set_cons_zero, List.set_cons_succ])
      refine wpAnyH_ready (rs := [5]) (by kernel_rfl) (by simp) ?_
      refine AllReadyH.cons (o := ({ dst := some 123, op := Go.Op.call { callee := Go.Callee.value (Go.Operand.func 36), args := #[Go.Operand.tmp 121, Go.Operand.tmp 122], argTypes := #[26, 3] }, type := 4, pos := "law.go:384", after := #[{ on := 3, ground := Go.Ground.data }, { on := 4, ground := Go.Ground.data }], guard := none } : Go.Oper)) rfl (fun K hK => ?_) AllReadyH.nil
      go_simp
      go_at_call 36; refine (H36.out _ (below_drew (Below.refl _ _))).mono ?_; rintro e w36 ⟨rfl, hv36⟩; have HV36 := Lib.hid hv36; clear hv36; go_simp
      refine hK.out _ _ (HCR.out _ HV36.out) (fun hHeld => ?_)
      clear hK K
      (try simp only [Act.put, List.setIfInBounds_toArray, List.set_cons_zero, List.set_cons_succ])
      refine wpAnyH_take (i := 6) (oi := ({ dst := some 124, op := Go.Op.unOp Go.UnOp.not 4 (Go.Operand.tmp 123), type := 4, pos := "law.go:384", after := #[{ on := 5, ground := Go.Ground.data }], guard := none } : Go.Oper)) (v := ?_) rfl (by kernel_rfl) (by kernel_rfl) (by kernel_rfl) (fun _ _ _ h => h) (Or.inl ⟨by rfl, ?_⟩) (by assumption) ?_
      rotate_left
      focus (intro w hSw; (try dsimp only at hSw); go_simp; first | done | with_reducible rfl)
      (try simp only [Act.put, List.setIfInBounds_toArray, List.set_cons_zero, List.set_cons_succ])
      refine wpAnyH_take (i := 7) (oi := ({ dst := some 125, op := Go.Op.move (Go.Operand.tmp 124), type := 4, pos := "law.go:384", after := #[{ on := 6, ground := Go.Ground.data }, { on := 5, ground := Go.Ground.chain }], guard := none } : Go.Oper)) (v := ?_) rfl (by kernel_rfl) (by kernel_rfl) (by kernel_rfl) (fun _ _ _ h => h) (Or.inl ⟨by rfl, ?_⟩) (by assumption) ?_
      rotate_left
      focus (intro w hSw; (try dsimp only at hSw); go_simp; first | done | with_reducible rfl)
      (try simp only [Act.put, List.setIfInBounds_toArray, List.set_cons_zero, List.set_cons_succ])
      refine wpAnyH_take (i := 8) (oi := ({ dst := some 126, op := Go.Op.load 25 (Go.Operand.tmp 4), type := 25, pos := "law.go:384", after := #[{ on := 7, ground := Go.Ground.guard }], guard := some (7, true) } : Go.Oper)) (v := undef) rfl (by kernel_rfl) (by kernel_rfl) (by kernel_rfl) (fun _ _ _ h => h) (Or.inr ⟨by rfl, rfl⟩) (by assumption) ?_
      (try simp only [Act.put, List.setIfInBounds_toArray, List.set_cons_zero, List.set_cons_succ])
      refine wpAnyH_take (i := 9) (oi := ({ dst := some 127, op := Go.Op.load 25 (Go.Operand.tmp 4), type := 25, pos := "law.go:384", after := #[{ on := 7, ground := Go.Ground.guard }], guard := some (7, true) } : Go.Oper)) (v := undef) rfl (by kernel_rfl) (by kernel_rfl) (by kernel_rfl) (fun _ _ _ h => h) (Or.inr ⟨by rfl, rfl⟩) (by assumption) ?_
      (try simp only [Act.put, List.setIfInBounds_toArray, List.set_cons_zero, List.set_cons_succ])
      refine wpAnyH_take (i := 10) (oi := ({ dst := some 128, op := Go.Op.move (Go.Operand.tmp 9), type := 59, pos := "law.go:384", after := #[{ on := 7, ground := Go.Ground.guard }], guard := some (7, true) } : Go.Oper)) (v := undef) rfl (by kernel_rfl) (by kernel_rfl) (by kernel_rfl) (fun _ _ _ h => h) (Or.inr ⟨by rfl, rfl⟩) (by assumption) ?_
      (try simp only [Act.put, List.setIfInBounds_toArray, List.set_cons_zero, List.set_cons_succ])
      refine wpAnyH_take (i := 11) (oi := ({ dst := some 129, op := Go.Op.move (Go.Operand.tmp 15), type := 3, pos := "law.go:384", after := #[{ on := 7, ground := Go.Ground.guard }], guard := some (7, true) } : Go.Oper)) (v := undef) rfl (by kernel_rfl) (by kernel_rfl) (by kernel_rfl) (fun _ _ _ h => h) (Or.inr ⟨by rfl, rfl⟩) (by assumption) ?_
      (try simp only [Act.put, List.setIfInBounds_toArray, List.set_cons_zero, List.set_cons_succ])
      refine wpAnyH_take (i := 12) (oi := ({ dst := some 130, op := Go.Op.indexAddr 59 (Go.Operand.tmp 128) (Go.Operand.tmp 129), type := 0, pos := "law.go:384", after := #[{ on := 10, ground := Go.Ground.data }, { on := 11, ground := Go.Ground.data }, { on := 7, ground := Go.Ground.guard }], guard := some (7, true) } : Go.Oper)) (v := undef) rfl (by kernel_rfl) (by kernel_rfl) (by kernel_rfl) (fun _ _ _ h => h) (Or.inr ⟨by rfl, rfl⟩) (by assumption) ?_
      (try simp only [Act.put, List.setIfInBounds_toArray, List.set_cons_zero, List.set_cons_succ])
      refine wpAnyH_take (i := 13) (oi := ({ dst := some 131, op := Go.Op.load 26 (Go.Operand.tmp 130), type := 26, pos := "law.go:384", after := #[{ on := 12, ground := Go.Ground.data }, { on := 7, ground := Go.Ground.guard }], guard := some (7, true) } : Go.Oper)) (v := undef) rfl (by kernel_rfl) (by kernel_rfl) (by kernel_rfl) (fun _ _ _ h => h) (Or.inr ⟨by rfl, rfl⟩) (by assumption) ?_
      (try simp only [Act.put, List.setIfInBounds_toArray, List.set_cons_zero, List.set_cons_succ])
      refine wpAnyH_take (i := 14) (oi := ({ dst := some 132, op := Go.Op.call { callee := Go.Callee.builtin Go.Builtin.append, args := #[Go.Operand.const (Go.Value.slice none 0 0), Go.Operand.tmp 131], argTypes := #[26, 26] }, type := 26, pos := "law.go:384", after := #[{ on := 13, ground := Go.Ground.data }, { on := 7, ground := Go.Ground.chain }, { on := 7, ground := Go.Ground.guard }], guard := some (7, true) } : Go.Oper)) (v := undef) rfl (by kernel_rfl) (by kernel_rfl) (by kernel_rfl) (fun _ _ _ h => h) (Or.inr ⟨by rfl, rfl⟩) (by assumption) ?_
      (try simp only [Act.put, List.setIfInBounds_toArray, List.set_cons_zero, List.set_cons_succ])
      refine wpAnyH_take (i := 15) (oi := ({ dst := some 133, op := Go.Op.move (Go.Operand.tmp 2), type := 3, pos := "law.go:384", after := #[{ on := 7, ground := Go.Ground.guard }], guard := some (7, true) } : Go.Oper)) (v := undef) rfl (by kernel_rfl) (by kernel_rfl) (by kernel_rfl) (fun _ _ _ h => h) (Or.inr ⟨by rfl, rfl⟩) (by assumption) ?_
      (try simp only [Act.put, List.setIfInBounds_toArray, List.set_cons_zero, List.set_cons_succ])
      refine wpAnyH_take (i := 16) (oi := ({ dst := some 134, op := Go.Op.buildSlice 26 1 #[(0, Go.Operand.tmp 133)], type := 26, pos := "law.go:384", after := #[{ on := 15, ground := Go.Ground.data }, { on := 7, ground := Go.Ground.guard }], guard := some (7, true) } : Go.Oper)) (v := undef) rfl (by kernel_rfl) (by kernel_rfl) (by kernel_rfl) (fun _ _ _ h => h) (Or.inr ⟨by rfl, rfl⟩) (by assumption) ?_
      (try simp only [Act.put, List.setIfInBounds_toArray, List.set_cons_zero, List.set_cons_succ])
      refine wpAnyH_take (i := 17) (oi := ({ dst := some 135, op := Go.Op.call { callee := Go.Callee.builtin Go.Builtin.append, args := #[Go.Operand.tmp 132, Go.Operand.tmp 134], argTypes := #[26, 26] }, type := 26, pos := "law.go:384", after := #[{ on := 14, ground := Go.Ground.data }, { on := 16, ground := Go.Ground.data }, { on := 14, ground := Go.Ground.chain }, { on := 7, ground := Go.Ground.guard }], guard := some (7, true) } : Go.Oper)) (v := undef) rfl (by kernel_rfl) (by kernel_rfl) (by kernel_rfl) (fun _ _ _ h => h) (Or.inr ⟨by rfl, rfl⟩) (by assumption) ?_
      (try simp only [Act.put, List.setIfInBounds_toArray, List.set_cons_zero, List.set_cons_succ])
      refine wpAnyH_take (i := 18) (oi := ({ dst := some 136, op := Go.Op.call { callee := Go.Callee.value (Go.Operand.func 48), args := #[Go.Operand.tmp 127, Go.Operand.tmp 135], argTypes := #[25, 26] }, type := 26, pos := "law.go:384", after := #[{ on := 9, ground := Go.Ground.data }, { on := 17, ground := Go.Ground.data }, { on := 17, ground := Go.Ground.chain }, { on := 7, ground := Go.Ground.guard }], guard := some (7, true) } : Go.Oper)) (v := undef) rfl (by kernel_rfl) (by kernel_rfl) (by kernel_rfl) (fun _ _ _ h => h) (Or.inr ⟨by rfl, rfl⟩) (by assumption) ?_
      (try simp only [Act.put, List.setIfInBounds_toArray, List.set_cons_zero, List.set_cons_succ])
      refine wpAnyH_take (i := 19) (oi := ({ dst := some 137, op := Go.Op.call { callee := Go.Callee.value (Go.Operand.func 19), args := #[Go.Operand.tmp 126, Go.Operand.tmp 136], argTypes := #[25, 26] }, type := 4, pos := "law.go:384", after := #[{ on := 8, ground := Go.Ground.data }, { on := 18, ground := Go.Ground.data }, { on := 18, ground := Go.Ground.chain }, { on := 7, ground := Go.Ground.guard }], guard := some (7, true) } : Go.Oper)) (v := undef) rfl (by kernel_rfl) (by kernel_rfl) (by kernel_rfl) (fun _ _ _ h => h) (Or.inr ⟨by rfl, rfl⟩) (by assumption) ?_
      (try simp only [Act.put, List.setIfInBounds_toArray, List.set_cons_zero, List.set_cons_succ])
      refine wpAnyH_take (i := 20) (oi := ({ dst := some 138, op := Go.Op.pick (Go.Operand.tmp 125) (Go.Operand.tmp 137) (Go.Operand.const (Go.Value.bool false)), type := 4, pos := "law.go:384", after := #[{ on := 7, ground := Go.Ground.data }, { on := 19, ground := Go.Ground.data }], guard := none } : Go.Oper)) (v := ?_) rfl (by kernel_rfl) (by kernel_rfl) (by kernel_rfl) (fun _ _ _ h => h) (Or.inl ⟨by rfl, ?_⟩) (by assumption) ?_
      rotate_left
      focus (intro w hSw; (try dsimp only at hSw); go_simp; first | done | with_reducible rfl)
      (try simp only [Act.put, List.setIfInBounds_toArray, List.set_cons_zero, List.set_cons_succ])
      refine wpAnyH_done (by kernel_rfl) ?_ _
      go_wp2
      go_roundw
      case rel => exact ⟨k + 1, by omega, by go_num, HBR.out.trans (HV36.out.mono HBR.out.size)⟩
      case measure => simp [Go.RowKit.intOf]; omega
    · have HF9 := Lib.hid (HMX.out hol)
      rw [decide_eq_false hol] at H36
      clear hol
      obtain ⟨i0, hi0, hz0, hz1, hz2⟩ := info_parts info3'
      have H14 : Hid (∀ w2, Below wr.heap.size wr w2 → ∃ v' w', (Builtin.append_ #[26, 26] 26 #[.slice none 0 0, .slice ea en ec]).run Tryz.prog w2 = .ok v' w' ∧ w'.ownsRow wr.heap.size 3 1 v' en (l.map iv1) ∧ Below wr.heap.size wr w' ∧ ∀ a v, w2.cell? a = some v → w'.cell? a = some v) := Lib.hid fun w2 h => by
        rcases (HPA.out w2 h).2 with h0 | ⟨A2, O2, rfl, hA2, hN2⟩
        · subst h0
          have hl0 : l = [] := List.eq_nil_of_length_eq_zero HNL.out
          subst hl0
          exact ⟨_, _, run_append_nilU 26 26 3 i0 Tryz.underlying26 hi0 ea ec, ⟨rfl, .inl ⟨rfl, rfl⟩⟩, h, fun _ _ h => h⟩
        · obtain ⟨v', w', hr, h2, h3, _, h5⟩ := run_append_own_at (P := Tryz.prog) (w := w2) wr.heap.size 26 26 3 i0 (.int .i64 0) 1 8 Tryz.underlying26 hi0 hz0 hz1 hz2 rfl (by decide) (.slice none 0 0) 0 [] ⟨rfl, .inl ⟨rfl, rfl⟩⟩ ⟨A2, O2, none⟩ en ec (l.map iv1) (by simp [HNL.out]) (fun j u hu => by
            have hj : j < l.length := by
              rcases Nat.lt_or_ge j l.length with h | h
              · exact h
              · rw [List.getElem?_eq_none (by simpa using h)] at hu; cases hu
            have hx := hN2 j (by rw [← HNL.out]; exact hj)
            rw [List.getElem?_map, List.getElem?_eq_getElem hj] at hu
            injection hu with hu
            rw [← hu]
            rw [lgI_get hj] at hx
            by_cases hj0 : j = 0
            · subst hj0; simpa [Addr.add, iv1] using hx
            · simpa [Addr.add, iv1, hj0] using hx) (fun u hu => by simp [iv1] at hu; obtain ⟨a, _, rfl⟩ := hu; rfl) (by unfold maxLen; omega) (by omega) h.size
          exact ⟨v', w', hr, by simpa using h2, h.grown h3 (by have := h.size; omega) (fun r e => by cases e), fun a v hv => h3.cell hv (by intro e; cases e)⟩
      have H17 : Hid (∀ w2 v2 (G : Nat), Below wr.heap.size wr w2 → w2.cell? ⟨G, 0, none⟩ = some (.int .i64 (o : Int)) → w2.ownsRow wr.heap.size 3 1 v2 en (l.map iv1) → ∃ sa sc w', (Builtin.append_ #[26, 26] 26 #[v2, .slice (some ⟨G, 0, none⟩) 1 1]).run Tryz.prog w2 = .ok (.slice sa (en + 1) sc) w' ∧ IntSl w' sa (en + 1) (lgI (l ++ [o])) ∧ Below wr.heap.size wr w') := Lib.hid fun w2 v2 G h1 hG ho2 => by
        obtain ⟨v', w', hr, h2, h3, _, h5⟩ := run_append_own_at (P := Tryz.prog) (w := w2) wr.heap.size 26 26 3 i0 (.int .i64 0) 1 8 Tryz.underlying26 hi0 hz0 hz1 hz2 rfl (by decide) v2 en (l.map iv1) ho2 ⟨G, 0, none⟩ 1 1 [.int .i64 (o : Int)] rfl (fun j u hu => by
          cases j with
          | zero => simp at hu; subst hu; simpa [Addr.add] using hG
          | succ j => simp at hu) (by intro u hu; simp at hu; subst hu; rfl) (by unfold maxLen; omega) (by omega) h1.size
        have h6 : w'.ownsRow wr.heap.size 3 1 v' (en + 1) ((l ++ [o]).map iv1) := by rw [List.map_append]; exact h2
        obtain ⟨sa, sc, rfl, hsl, _⟩ := dayNew h6
        exact ⟨sa, sc, w', hr, hsl, h1.grown h3 (by have := h1.size; omega) (fun r e => own_ge ho2 r e)⟩
      go_wp2
      refine wp_region_held_drew (S := fun w' => (w'.cell? ⟨w.heap.size, 0, none⟩ = some (.int .i64 f) ∧ w'.cell? ⟨w.heap.size, 1, none⟩ = some (.slice na ln cn) ∧ w'.cell? ⟨w.heap.size, 2, none⟩ = some (.slice oa lo co)) ∧ w'.cell? ⟨A, O + k, none⟩ = some (.slice ea en ec)) (by kernel_rfl) (HCR.out wr (Below.refl _ _)) (fun hHeld => ?_)
      refine wpAnyH_take (i := 0) (oi := ({ dst := some 118, op := Go.Op.move (Go.Operand.tmp 9), type := 59, pos := "law.go:384", after := #[], guard := none } : Go.Oper)) (v := ?_) rfl (by kernel_rfl) (by kernel_rfl) (by kernel_rfl) (fun _ _ _ h => h) (Or.inl ⟨by rfl, ?_⟩) (by assumption) ?_
      rotate_left
      focus (intro w hSw; (try dsimp only at hSw); go_simp; first | done | with_reducible rfl)
      (try simp only [Act.put, List.setIfInBounds_toArray, List.set_cons_zero, List.set_cons_succ])
      refine wpAnyH_take (i := 1) (oi := ({ dst := some 119, op := Go.Op.move (Go.Operand.tmp 15), type := 3, pos := "law.go:384", after := #[], guard := none } : Go.Oper)) (v := ?_) rfl (by kernel_rfl) (by kernel_rfl) (by kernel_rfl) (fun _ _ _ h => h) (Or.inl ⟨by rfl, ?_⟩) (by assumption) ?_
      rotate_left
      focus (intro w hSw; (try dsimp only at hSw); go_simp; first | done | with_reducible rfl)
      (try simp only [Act.put, List.setIfInBounds_toArray, List.set_cons_zero, List.set_cons_succ])
      refine wpAnyH_take (i := 2) (oi := ({ dst := some 120, op := Go.Op.indexAddr 59 (Go.Operand.tmp 118) (Go.Operand.tmp 119), type := 0, pos := "law.go:384", after := #[{ on := 0, ground := Go.Ground.data }, { on := 1, ground := Go.Ground.data }], guard := none } : Go.Oper)) (v := ?_) rfl (by kernel_rfl) (by kernel_rfl) (by kernel_rfl) (fun _ _ _ h => h) (Or.inl ⟨by rfl, ?_⟩) (by assumption) ?_
      rotate_left
      focus (intro w hSw; (try dsimp only at hSw); go_simp; first | done | with_reducible rfl)
      (try simp only [Act.put, List.setIfInBounds_toArray, List.set_cons_zero, List.set_cons_succ])
      refine wpAnyH_take (i := 3) (oi := ({ dst := some 121, op := Go.Op.load 26 (Go.Operand.tmp 120), type := 26, pos := "law.go:384", after := #[{ on := 2, ground := Go.Ground.data }], guard := none } : Go.Oper)) (v := ?_) rfl (by kernel_rfl) (by kernel_rfl) (by kernel_rfl) (fun _ _ _ h => h) (Or.inl ⟨by rfl, ?_⟩) (by assumption) ?_
      rotate_left
      focus (intro w hSw; (try dsimp only at hSw); go_simp; first | done | with_reducible rfl)
      (try simp only [Act.put, List.setIfInBounds_toArray, List.set_cons_zero, List.set_cons_succ])
      refine wpAnyH_take (i := 4) (oi := ({ dst := some 122, op := Go.Op.move (Go.Operand.tmp 2), type := 3, pos := "law.go:384", after := #[], guard := none } : Go.Oper)) (v := ?_) rfl (by kernel_rfl) (by kernel_rfl) (by kernel_rfl) (fun _ _ _ h => h) (Or.inl ⟨by rfl, ?_⟩) (by assumption) ?_
      rotate_left
      focus (intro w hSw; (try dsimp only at hSw); go_simp; first | done | with_reducible rfl)
      (try simp only [Act.put, List.setIfInBounds_toArray, List.set_cons_zero, List.set_cons_succ])
      refine wpAnyH_ready (rs := [5]) (by kernel_rfl) (by simp) ?_
      refine AllReadyH.cons (o := ({ dst := some 123, op := Go.Op.call { callee := Go.Callee.value (Go.Operand.func 36), args := #[Go.Operand.tmp 121, Go.Operand.tmp 122], argTypes := #[26, 3] }, type := 4, pos := "law.go:384", after := #[{ on := 3, ground := Go.Ground.data }, { on := 4, ground := Go.Ground.data }], guard := none } : Go.Oper)) rfl (fun K hK => ?_) AllReadyH.nil
      go_simp
      go_at_call 36; refine (H36.out _ (below_drew (Below.refl _ _))).mono ?_; rintro e w36 ⟨rfl, hv36⟩; have HV36 := Lib.hid hv36; clear hv36; go_simp
      refine hK.out _ _ (HCR.out _ HV36.out) (fun hHeld => ?_)
      clear hK K
      (try simp only [Act.put, List.setIfInBounds_toArray, List.set_cons_zero, List.set_cons_succ])
      refine wpAnyH_take (i := 6) (oi := ({ dst := some 124, op := Go.Op.unOp Go.UnOp.not 4 (Go.Operand.tmp 123), type := 4, pos := "law.go:384", after := #[{ on := 5, ground := Go.Ground.data }], guard := none } : Go.Oper)) (v := ?_) rfl (by kernel_rfl) (by kernel_rfl) (by kernel_rfl) (fun _ _ _ h => h) (Or.inl ⟨by rfl, ?_⟩) (by assumption) ?_
      rotate_left
      focus (intro w hSw; (try dsimp only at hSw); go_simp; first | done | with_reducible rfl)
      (try simp only [Act.put, List.setIfInBounds_toArray, List.set_cons_zero, List.set_cons_succ])
      refine wpAnyH_take (i := 7) (oi := ({ dst := some 125, op := Go.Op.move (Go.Operand.tmp 124), type := 4, pos := "law.go:384", after := #[{ on := 6, ground := Go.Ground.data }, { on := 5, ground := Go.Ground.chain }], guard := none } : Go.Oper)) (v := ?_) rfl (by kernel_rfl) (by kernel_rfl) (by kernel_rfl) (fun _ _ _ h => h) (Or.inl ⟨by rfl, ?_⟩) (by assumption) ?_
      rotate_left
      focus (intro w hSw; (try dsimp only at hSw); go_simp; first | done | with_reducible rfl)
      (try simp only [Act.put, List.setIfInBounds_toArray, List.set_cons_zero, List.set_cons_succ])
      refine wpAnyH_take (i := 8) (oi := ({ dst := some 126, op := Go.Op.load 25 (Go.Operand.tmp 4), type := 25, pos := "law.go:384", after := #[{ on := 7, ground := Go.Ground.guard }], guard := some (7, true) } : Go.Oper)) (v := ?_) rfl (by kernel_rfl) (by kernel_rfl) (by kernel_rfl) (fun _ _ _ h => h) (Or.inl ⟨by rfl, ?_⟩) (by assumption) ?_
      rotate_left
      focus (intro w hSw; (try dsimp only at hSw); go_simp; first | done | with_reducible rfl)
      (try simp only [Act.put, List.setIfInBounds_toArray, List.set_cons_zero, List.set_cons_succ])
      refine wpAnyH_take (i := 9) (oi := ({ dst := some 127, op := Go.Op.load 25 (Go.Operand.tmp 4), type := 25, pos := "law.go:384", after := #[{ on := 7, ground := Go.Ground.guard }], guard := some (7, true) } : Go.Oper)) (v := ?_) rfl (by kernel_rfl) (by kernel_rfl) (by kernel_rfl) (fun _ _ _ h => h) (Or.inl ⟨by rfl, ?_⟩) (by assumption) ?_
      rotate_left
      focus (intro w hSw; (try dsimp only at hSw); go_simp; first | done | with_reducible rfl)
      (try simp only [Act.put, List.setIfInBounds_toArray, List.set_cons_zero, List.set_cons_succ])
      refine wpAnyH_take (i := 10) (oi := ({ dst := some 128, op := Go.Op.move (Go.Operand.tmp 9), type := 59, pos := "law.go:384", after := #[{ on := 7, ground := Go.Ground.guard }], guard := some (7, true) } : Go.Oper)) (v := ?_) rfl (by kernel_rfl) (by kernel_rfl) (by kernel_rfl) (fun _ _ _ h => h) (Or.inl ⟨by rfl, ?_⟩) (by assumption) ?_
      rotate_left
      focus (intro w hSw; (try dsimp only at hSw); go_simp; first | done | with_reducible rfl)
      (try simp only [Act.put, List.setIfInBounds_toArray, List.set_cons_zero, List.set_cons_succ])
      refine wpAnyH_take (i := 11) (oi := ({ dst := some 129, op := Go.Op.move (Go.Operand.tmp 15), type := 3, pos := "law.go:384", after := #[{ on := 7, ground := Go.Ground.guard }], guard := some (7, true) } : Go.Oper)) (v := ?_) rfl (by kernel_rfl) (by kernel_rfl) (by kernel_rfl) (fun _ _ _ h => h) (Or.inl ⟨by rfl, ?_⟩) (by assumption) ?_
      rotate_left
      focus (intro w hSw; (try dsimp only at hSw); go_simp; first | done | with_reducible rfl)
      (try simp only [Act.put, List.setIfInBounds_toArray, List.set_cons_zero, List.set_cons_succ])
      refine wpAnyH_take (i := 12) (oi := ({ dst := some 130, op := Go.Op.indexAddr 59 (Go.Operand.tmp 128) (Go.Operand.tmp 129), type := 0, pos := "law.go:384", after := #[{ on := 10, ground := Go.Ground.data }, { on := 11, ground := Go.Ground.data }, { on := 7, ground := Go.Ground.guard }], guard := some (7, true) } : Go.Oper)) (v := ?_) rfl (by kernel_rfl) (by kernel_rfl) (by kernel_rfl) (fun _ _ _ h => h) (Or.inl ⟨by rfl, ?_⟩) (by assumption) ?_
      rotate_left
      focus (intro w hSw; (try dsimp only at hSw); go_simp; first | done | with_reducible rfl)
      (try simp only [Act.put, List.setIfInBounds_toArray, List.set_cons_zero, List.set_cons_succ])
      refine wpAnyH_take (i := 13) (oi := ({ dst := some 131, op := Go.Op.load 26 (Go.Operand.tmp 130), type := 26, pos := "law.go:384", after := #[{ on := 12, ground := Go.Ground.data }, { on := 7, ground := Go.Ground.guard }], guard := some (7, true) } : Go.Oper)) (v := ?_) rfl (by kernel_rfl) (by kernel_rfl) (by kernel_rfl) (fun _ _ _ h => h) (Or.inl ⟨by rfl, ?_⟩) (by assumption) ?_
      rotate_left
      focus (intro w hSw; (try dsimp only at hSw); go_simp; first | done | with_reducible rfl)
      (try simp only [Act.put, List.setIfInBounds_toArray, List.set_cons_zero, List.set_cons_succ])
      refine wpAnyH_take (i := 15) (oi := ({ dst := some 133, op := Go.Op.move (Go.Operand.tmp 2), type := 3, pos := "law.go:384", after := #[{ on := 7, ground := Go.Ground.guard }], guard := some (7, true) } : Go.Oper)) (v := ?_) rfl (by kernel_rfl) (by kernel_rfl) (by kernel_rfl) (fun _ _ _ h => h) (Or.inl ⟨by rfl, ?_⟩) (by assumption) ?_
      rotate_left
      focus (intro w hSw; (try dsimp only at hSw); go_simp; first | done | with_reducible rfl)
      (try simp only [Act.put, List.setIfInBounds_toArray, List.set_cons_zero, List.set_cons_succ])
      refine wpAnyH_ready (rs := [14, 16]) (by kernel_rfl) (by simp) ?_
      refine AllReadyH.cons (o := ({ dst := some 132, op := Go.Op.call { callee := Go.Callee.builtin Go.Builtin.append, args := #[Go.Operand.const (Go.Value.slice none 0 0), Go.Operand.tmp 131], argTypes := #[26, 26] }, type := 26, pos := "law.go:384", after := #[{ on := 13, ground := Go.Ground.data }, { on := 7, ground := Go.Ground.chain }, { on := 7, ground := Go.Ground.guard }], guard := some (7, true) } : Go.Oper)) rfl (fun K hK => ?_) (AllReadyH.cons (o := ({ dst := some 134, op := Go.Op.buildSlice 26 1 #[(0, Go.Operand.tmp 133)], type := 26, pos := "law.go:384", after := #[{ on := 15, ground := Go.Ground.data }, { on := 7, ground := Go.Ground.guard }], guard := some (7, true) } : Go.Oper)) rfl (fun K hK => ?_) AllReadyH.nil)
      · obtain ⟨v14, w14, hr14, ho14, hb14, hk14⟩ := H14.out w36 HV36.out; have HO14 := Lib.hid ho14; have HB14 := Lib.hid hb14; have HK14 := Lib.hid hk14; clear ho14 hb14 hk14
        rw [if_pos (by rfl)]
        refine oper_append rfl rfl rfl hr14 ?_
        refine hK.out _ _ (HCR.out _ HB14.out) (fun hHeld => ?_)
        clear hK K
        (try simp only [Act.put, List.setIfInBounds_toArray, List.set_cons_zero, List.set_cons_succ])
        refine wpAnyH_ready (rs := [16]) (by kernel_rfl) (by simp) ?_
        refine AllReadyH.cons (o := ({ dst := some 134, op := Go.Op.buildSlice 26 1 #[(0, Go.Operand.tmp 133)], type := 26, pos := "law.go:384", after := #[{ on := 15, ground := Go.Ground.data }, { on := 7, ground := Go.Ground.guard }], guard := some (7, true) } : Go.Oper)) rfl (fun K hK => ?_) AllReadyH.nil
        go_simp
        refine hK.out _ _ (HCR.out _ (HB14.out.alloc HB14.out.size _)) (fun hHeld => ?_)
        clear hK K
        (try simp only [Act.put, List.setIfInBounds_toArray, List.set_cons_zero, List.set_cons_succ])
        refine wpAnyH_ready (rs := [17]) (by kernel_rfl) (by simp) ?_
        refine AllReadyH.cons (o := ({ dst := some 135, op := Go.Op.call { callee := Go.Callee.builtin Go.Builtin.append, args := #[Go.Operand.tmp 132, Go.Operand.tmp 134], argTypes := #[26, 26] }, type := 26, pos := "law.go:384", after := #[{ on := 14, ground := Go.Ground.data }, { on := 16, ground := Go.Ground.data }, { on := 14, ground := Go.Ground.chain }, { on := 7, ground := Go.Ground.guard }], guard := some (7, true) } : Go.Oper)) rfl (fun K hK => ?_) AllReadyH.nil
        obtain ⟨sa, sc, w17, hr17, hs17, hb17⟩ := H17.out (w14.alloc (.cells #[.int .i64 (o : Int)] 3)) v14 w14.heap.size (HB14.out.alloc HB14.out.size _) (by simp) (HO14.out.alloc _); have HS17 := Lib.hid hs17; have HB17 := Lib.hid hb17; clear hs17 hb17
        rw [if_pos (by rfl)]
        refine oper_append rfl rfl rfl hr17 ?_
        refine hK.out _ _ (HCR.out _ HB17.out) (fun hHeld => ?_)
        clear hK K
        (try simp only [Act.put, List.setIfInBounds_toArray, List.set_cons_zero, List.set_cons_succ])
        refine wpAnyH_ready (rs := [18]) (by kernel_rfl) (by simp) ?_
        refine AllReadyH.cons (o := ({ dst := some 136, op := Go.Op.call { callee := Go.Callee.value (Go.Operand.func 48), args := #[Go.Operand.tmp 127, Go.Operand.tmp 135], argTypes := #[25, 26] }, type := 26, pos := "law.go:384", after := #[{ on := 9, ground := Go.Ground.data }, { on := 17, ground := Go.Ground.data }, { on := 17, ground := Go.Ground.chain }, { on := 7, ground := Go.Ground.guard }], guard := some (7, true) } : Go.Oper)) rfl (fun K hK => ?_) AllReadyH.nil
        go_simp
        go_at_call 48; refine (run48_w f na oa sa ln cn lo co (en + 1) sc (l ++ [o]) N U _ (by omega) (by rw [List.length_append, HNL.out]; rfl) (by omega) (by intro y hy; rcases List.mem_append.1 hy with h | h; exact HLT.out y h; simp at h; omega) (HCB.out _ (HBR.out.trans (HB17.out.mono HBR.out.size))).2 HS17).mono ?_; rintro e w48b ⟨⟨gb, capb, rfl, hio⟩, hv48⟩; have HIOb := Lib.hid hio; have HV48b := Lib.hid (HB17.out.trans (hv48.mono HB17.out.size)); clear hio hv48; go_simp
        refine hK.out _ _ (HCR.out _ HV48b.out) (fun hHeld => ?_)
        clear hK K
        (try simp only [Act.put, List.setIfInBounds_toArray, List.set_cons_zero, List.set_cons_succ])
        refine wpAnyH_ready (rs := [19]) (by kernel_rfl) (by simp) ?_
        refine AllReadyH.cons (o := ({ dst := some 137, op := Go.Op.call { callee := Go.Callee.value (Go.Operand.func 19), args := #[Go.Operand.tmp 126, Go.Operand.tmp 136], argTypes := #[25, 26] }, type := 4, pos := "law.go:384", after := #[{ on := 8, ground := Go.Ground.data }, { on := 18, ground := Go.Ground.data }, { on := 18, ground := Go.Ground.chain }, { on := 7, ground := Go.Ground.guard }], guard := some (7, true) } : Go.Oper)) rfl (fun K hK => ?_) AllReadyH.nil
        go_simp
        go_at_call 19; refine (fit19_w f na oa ln cn lo co gb capb _ (fun j => decide (j ∈ l ++ [o])) false N U _ HT ⟨fun h => (by cases h), fun h => absurd h HF9.out⟩ (HCB.out _ (HBR.out.trans (HV48b.out.mono HBR.out.size))).2 HIOb.out).mono ?_; rintro e w19b ⟨rfl, hv19⟩; have HV19b := Lib.hid (HV48b.out.trans (hv19.mono HV48b.out.size)); clear hv19; go_simp
        refine hK.out _ _ (HCR.out _ HV19b.out) (fun hHeld => ?_)
        clear hK K
        (try simp only [Act.put, List.setIfInBounds_toArray, List.set_cons_zero, List.set_cons_succ])
        refine wpAnyH_take (i := 20) (oi := ({ dst := some 138, op := Go.Op.pick (Go.Operand.tmp 125) (Go.Operand.tmp 137) (Go.Operand.const (Go.Value.bool false)), type := 4, pos := "law.go:384", after := #[{ on := 7, ground := Go.Ground.data }, { on := 19, ground := Go.Ground.data }], guard := none } : Go.Oper)) (v := ?_) rfl (by kernel_rfl) (by kernel_rfl) (by kernel_rfl) (fun _ _ _ h => h) (Or.inl ⟨by rfl, ?_⟩) (by assumption) ?_
        rotate_left
        focus (intro w hSw; (try dsimp only at hSw); go_simp; first | done | with_reducible rfl)
        (try simp only [Act.put, List.setIfInBounds_toArray, List.set_cons_zero, List.set_cons_succ])
        refine wpAnyH_done (by kernel_rfl) ?_ _
        go_wp2
        go_roundw
        case rel => exact ⟨k + 1, by omega, by go_num, HBR.out.trans (HV19b.out.mono HBR.out.size)⟩
        case measure => simp [Go.RowKit.intOf]; omega
      · go_simp
        refine hK.out _ _ (HCR.out _ (HV36.out.alloc HV36.out.size _)) (fun hHeld => ?_)
        clear hK K
        (try simp only [Act.put, List.setIfInBounds_toArray, List.set_cons_zero, List.set_cons_succ])
        refine wpAnyH_ready (rs := [14]) (by kernel_rfl) (by simp) ?_
        refine AllReadyH.cons (o := ({ dst := some 132, op := Go.Op.call { callee := Go.Callee.builtin Go.Builtin.append, args := #[Go.Operand.const (Go.Value.slice none 0 0), Go.Operand.tmp 131], argTypes := #[26, 26] }, type := 26, pos := "law.go:384", after := #[{ on := 13, ground := Go.Ground.data }, { on := 7, ground := Go.Ground.chain }, { on := 7, ground := Go.Ground.guard }], guard := some (7, true) } : Go.Oper)) rfl (fun K hK => ?_) AllReadyH.nil
        obtain ⟨v14, w14, hr14, ho14, hb14, hk14⟩ := H14.out (w36.alloc (.cells #[.int .i64 (o : Int)] 3)) (HV36.out.alloc HV36.out.size _); have HO14 := Lib.hid ho14; have HB14 := Lib.hid hb14; have HK14 := Lib.hid hk14; clear ho14 hb14 hk14
        rw [if_pos (by rfl)]
        refine oper_append rfl rfl rfl hr14 ?_
        refine hK.out _ _ (HCR.out _ HB14.out) (fun hHeld => ?_)
        clear hK K
        (try simp only [Act.put, List.setIfInBounds_toArray, List.set_cons_zero, List.set_cons_succ])
        refine wpAnyH_ready (rs := [17]) (by kernel_rfl) (by simp) ?_
        refine AllReadyH.cons (o := ({ dst := some 135, op := Go.Op.call { callee := Go.Callee.builtin Go.Builtin.append, args := #[Go.Operand.tmp 132, Go.Operand.tmp 134], argTypes := #[26, 26] }, type := 26, pos := "law.go:384", after := #[{ on := 14, ground := Go.Ground.data }, { on := 16, ground := Go.Ground.data }, { on := 14, ground := Go.Ground.chain }, { on := 7, ground := Go.Ground.guard }], guard := some (7, true) } : Go.Oper)) rfl (fun K hK => ?_) AllReadyH.nil
        obtain ⟨sa, sc, w17, hr17, hs17, hb17⟩ := H17.out w14 v14 w36.heap.size HB14.out (HK14.out ⟨w36.heap.size, 0, none⟩ _ (by simp)) HO14.out; have HS17 := Lib.hid hs17; have HB17 := Lib.hid hb17; clear hs17 hb17
        rw [if_pos (by rfl)]
        refine oper_append rfl rfl rfl hr17 ?_
        refine hK.out _ _ (HCR.out _ HB17.out) (fun hHeld => ?_)
        clear hK K
        (try simp only [Act.put, List.setIfInBounds_toArray, List.set_cons_zero, List.set_cons_succ])
        refine wpAnyH_ready (rs := [18]) (by kernel_rfl) (by simp) ?_
        refine AllReadyH.cons (o := ({ dst := some 136, op := Go.Op.call { callee := Go.Callee.value (Go.Operand.func 48), args := #[Go.Operand.tmp 127, Go.Operand.tmp 135], argTypes := #[25, 26] }, type := 26, pos := "law.go:384", after := #[{ on := 9, ground := Go.Ground.data }, { on := 17, ground := Go.Ground.data }, { on := 17, ground := Go.Ground.chain }, { on := 7, ground := Go.Ground.guard }], guard := some (7, true) } : Go.Oper)) rfl (fun K hK => ?_) AllReadyH.nil
        go_simp
        go_at_call 48; refine (run48_w f na oa sa ln cn lo co (en + 1) sc (l ++ [o]) N U _ (by omega) (by rw [List.length_append, HNL.out]; rfl) (by omega) (by intro y hy; rcases List.mem_append.1 hy with h | h; exact HLT.out y h; simp at h; omega) (HCB.out _ (HBR.out.trans (HB17.out.mono HBR.out.size))).2 HS17).mono ?_; rintro e w48b ⟨⟨gb, capb, rfl, hio⟩, hv48⟩; have HIOb := Lib.hid hio; have HV48b := Lib.hid (HB17.out.trans (hv48.mono HB17.out.size)); clear hio hv48; go_simp
        refine hK.out _ _ (HCR.out _ HV48b.out) (fun hHeld => ?_)
        clear hK K
        (try simp only [Act.put, List.setIfInBounds_toArray, List.set_cons_zero, List.set_cons_succ])
        refine wpAnyH_ready (rs := [19]) (by kernel_rfl) (by simp) ?_
        refine AllReadyH.cons (o := ({ dst := some 137, op := Go.Op.call { callee := Go.Callee.value (Go.Operand.func 19), args := #[Go.Operand.tmp 126, Go.Operand.tmp 136], argTypes := #[25, 26] }, type := 4, pos := "law.go:384", after := #[{ on := 8, ground := Go.Ground.data }, { on := 18, ground := Go.Ground.data }, { on := 18, ground := Go.Ground.chain }, { on := 7, ground := Go.Ground.guard }], guard := some (7, true) } : Go.Oper)) rfl (fun K hK => ?_) AllReadyH.nil
        go_simp
        go_at_call 19; refine (fit19_w f na oa ln cn lo co gb capb _ (fun j => decide (j ∈ l ++ [o])) false N U _ HT ⟨fun h => (by cases h), fun h => absurd h HF9.out⟩ (HCB.out _ (HBR.out.trans (HV48b.out.mono HBR.out.size))).2 HIOb.out).mono ?_; rintro e w19b ⟨rfl, hv19⟩; have HV19b := Lib.hid (HV48b.out.trans (hv19.mono HV48b.out.size)); clear hv19; go_simp
        refine hK.out _ _ (HCR.out _ HV19b.out) (fun hHeld => ?_)
        clear hK K
        (try simp only [Act.put, List.setIfInBounds_toArray, List.set_cons_zero, List.set_cons_succ])
        refine wpAnyH_take (i := 20) (oi := ({ dst := some 138, op := Go.Op.pick (Go.Operand.tmp 125) (Go.Operand.tmp 137) (Go.Operand.const (Go.Value.bool false)), type := 4, pos := "law.go:384", after := #[{ on := 7, ground := Go.Ground.data }, { on := 19, ground := Go.Ground.data }], guard := none } : Go.Oper)) (v := ?_) rfl (by kernel_rfl) (by kernel_rfl) (by kernel_rfl) (fun _ _ _ h => h) (Or.inl ⟨by rfl, ?_⟩) (by assumption) ?_
        rotate_left
        focus (intro w hSw; (try dsimp only at hSw); go_simp; first | done | with_reducible rfl)
        (try simp only [Act.put, List.setIfInBounds_toArray, List.set_cons_zero, List.set_cons_succ])
        refine wpAnyH_done (by kernel_rfl) ?_ _
        go_wp2
        go_roundw
        case rel => exact ⟨k + 1, by omega, by go_num, HBR.out.trans (HV19b.out.mono HBR.out.size)⟩
        case measure => simp [Go.RowKit.intOf]; omega
end Go.Kn

namespace Go.Kn
open Go Go.Proofs Go.RowKit

open Classical in
set_option maxHeartbeats 1000000 in
theorem lawut_w (f : Int) (na oa : Option Addr) (ln cn lo co : Nat) (N : Nat → N2) (U : Nat → O3) (dy ou mo : Int) (w : World) (hls : ln ≤ maxLen) (hlt : lo ≤ maxLen) (H : Tr7 w na oa ln lo N U) (K : KnownOk) :
    Calls Tryz.prog 10 #[.agg #[.int .i64 f, .slice na ln cn, .slice oa lo co], .int .i64 dy, .int .i64 ou, .int .i64 mo] w
      fun e w' => e = .returned (.bool true) ∧ Below w.heap.size w w' := by
  by_cases hq : ln ≤ 8 ∧ lo ≤ 10
  case neg => exact lawut_a f na oa ln cn lo co N U dy ou mo w hls hlt (Lib.hid H) (Lib.hid K) hq
  have l1 : ln ≤ 1000000 := by omega
  have l2 : lo ≤ 1000000 := by omega
  by_cases HR : TreeS f ln lo N U
  case neg => exact lawut_b f na oa ln cn lo co N U dy ou mo w l1 l2 (Lib.hid H) (Lib.hid K) hq (Lib.hid HR)
  by_cases h1 : dy < 0
  · exact lawut_c f na oa ln cn lo co N U dy ou mo w l1 l2 (Lib.hid H) (Lib.hid K) hq (Lib.hid HR) h1
  by_cases h2 : 10 < dy
  · exact lawut_d f na oa ln cn lo co N U dy ou mo w l1 l2 (Lib.hid H) (Lib.hid K) hq (Lib.hid HR) (by omega) h2
  cases ho : fromB 0 ((lo : Int) - 1) ou with
  | false => exact lawut_e f na oa ln cn lo co N U dy ou mo w l1 l2 (Lib.hid H) (Lib.hid K) hq (Lib.hid HR) (by omega) (by omega) (Lib.hid ho)
  | true =>
  by_cases h3 : mo < 0
  · exact lawut_f f na oa ln cn lo co N U dy ou mo w l1 l2 (Lib.hid H) (Lib.hid K) hq (Lib.hid HR) (by omega) (by omega) (Lib.hid ho) h3
  by_cases h4 : 10 - dy < mo
  · exact lawut_g f na oa ln cn lo co N U dy ou mo w l1 l2 (Lib.hid H) (Lib.hid K) hq (Lib.hid HR) (by omega) (by omega) (Lib.hid ho) (by omega) h4
  simp only [fromB, decide_eq_true_eq] at ho
  obtain ⟨d, rfl⟩ : ∃ d : Nat, dy = (d : Int) := ⟨dy.toNat, by omega⟩
  obtain ⟨o, rfl⟩ : ∃ o : Nat, ou = (o : Int) := ⟨ou.toNat, by omega⟩
  obtain ⟨m, rfl⟩ : ∃ m : Nat, mo = (m : Int) := ⟨mo.toNat, by omega⟩
  by_cases ha : aloneP f ln lo N U o
  · exact lawut_x f na oa ln cn lo co N U d o m w l1 l2 (Lib.hid H) (Lib.hid K) hq (Lib.hid HR) (by omega) (by omega) (by omega) (Lib.hid ha)
  · exact lawut_y f na oa ln cn lo co N U d o m w l1 l2 (Lib.hid H) (Lib.hid K) hq (Lib.hid HR) (by omega) (by omega) (by omega) (Lib.hid ha)
end Go.Kn
