/- Contracts of functions that the laws of this seat call, or the evaluator of closed calls and its runs. Conditions: as each theorem states them. -/
import Derived.Test.YtddlghdglknloaaGreatDoorKQ
import Derived.Test.YtddlghdglknloaaGreatDoorG3
set_option linter.unusedVariables false
set_option linter.unusedSimpArgs false
namespace Go.Kn
open Go Go.Clo Go.Proofs Go.RowKit
noncomputable section
def intA (d : List Value) (j : Nat) : Int := match nth d j with
  | some (.int .i64 n) => n
  | _ => 0
def isI (d : List Value) (j : Nat) : Bool := match nth d j with
  | some (.int .i64 _) => true
  | _ => false
def boolA (d : List Value) (j : Nat) : Bool := match nth d j with
  | some (.bool b) => b
  | _ => false
def isBo (d : List Value) (j : Nat) : Bool := match nth d j with
  | some (.bool _) => true
  | _ => false
def ptG (d : List Value) (i : Nat) : P8 := ⟨intA d (i * 3), intA d (i * 3 + 1), intA d (i * 3 + 2)⟩
def chG (d : List Value) (i : Nat) : C8 := ⟨intA d (i * 4), intA d (i * 4 + 1), intA d (i * 4 + 2), boolA d (i * 4 + 3)⟩
def okP (lp : Nat) (d : List Value) : Bool := allN (fun i => isI d (i * 3) && isI d (i * 3 + 1) && isI d (i * 3 + 2) && fromB (-20000) 20000 (ptG d i).lo && fromB (-20000) 20000 (ptG d i).hi && fromB (-20000) 20000 (ptG d i).nd) lp
def okC (lp lc : Nat) (d : List Value) : Bool := allN (fun i => isI d (i * 4) && isI d (i * 4 + 1) && isI d (i * 4 + 2) && isBo d (i * 4 + 3) && fromB 0 ((lp : Int) - 1) (chG d i).fr && fromB 0 ((lp : Int) - 1) (chG d i).to && decide ((chG d i).fr ≠ (chG d i).to) && fromB (-20000) 20000 (chG d i).cu) lc
/-- whether a network is fed, laid in place of its function -/
def fedG (args : List Value) (um : Option FrameMode) (h : Hp) : Option (Rt × Option FrameMode × Hp) :=
  match um, args with
  | none, [.agg cs, .int .i64 z] => match cs.toList with
    | .slice (some ⟨b1, 0, none⟩) lp _ :: .slice (some ⟨b2, 0, none⟩) lc _ :: ps => match h.get b1, h.get b2 with
      | some (.cells d1 _ _), some (.cells d2 _ _) =>
        cond (Nat.ble 1 lp && Nat.ble lp 7 && Nat.ble 1 lc && Nat.ble lc 10 && Nat.beq ps.length 10 && allB kBo ps && okP lp d1 && okC lp lc d2 && (decide (z = 0) || decide (z = 1)))
          (some (.ret (.bool (fedV lp (ptG d1) lc (chG d2) (boolA ps) (decide (z = 1)))), none, h)) none
      | _, _ => none
    | _ => none
  | _, _ => none
end
theorem isI_of {d : List Value} {j : Nat} (h : isI d j = true) : d[j]? = some (.int .i64 (intA d j)) := by
  unfold isI at h
  unfold intA
  rw [nth_eq] at h ⊢
  split at h
  · rename_i n e; rw [e]
  · cases h
theorem isBo_of {d : List Value} {j : Nat} (h : isBo d j = true) : d[j]? = some (.bool (boolA d j)) := by
  unfold isBo at h
  unfold boolA
  rw [nth_eq] at h ⊢
  split at h
  · rename_i n e; rw [e]
  · cases h
theorem left_of_calls {P : Program} {f : FuncId} {args : Array Value} {w : World} {v : Value} (h : Calls P f args w fun e w' => e = .returned v ∧ Below w.heap.size w w') (cs : List Frame) :
    ∃ w', Clo.Left P (lone (Frame.enter P f args .normal) cs w) f .normal (.ret v) none cs w' ∧ Below w.heap.size w w' := by
  obtain ⟨e, w', fr, ⟨rfl, hb⟩, hc, hfn, hl⟩ := h cs
  obtain ⟨h1, h2, h3, fn', h4, h5⟩ := hl
  exact ⟨w', ⟨fr, fn', hc, hfn, h3, h2, by rw [← hfn]; exact h4, h1, h5⟩, hb⟩
theorem vrs_bools {σ : Ren} : ∀ {ps qs : List Value}, allB kBo ps = true → VRs σ ps qs → qs = ps
  | [], _, _, h => by cases h; rfl
  | p :: ps, _, hb, h => by
    rw [allB_eq, List.all_cons, Bool.and_eq_true] at hb
    cases h with
    | cons h1 h2 =>
      rw [vrs_bools (by rw [allB_eq]; exact hb.2) h2]
      cases p with
      | bool b => cases h1; rfl
      | _ => simp [kBo] at hb
theorem blk_cell {T : Tb} {σ : Ren} {w : World} {d : List Value} {e : TypeId} {ex : Bool} {x c : Nat} (h : BR T σ (.cells d e ex) x w.heap[c]?) {j : Nat} {v : Value} (hv : d[j]? = some v) (hs : sc v = true) : w.cell? ⟨c, j, none⟩ = some v := by
  obtain ⟨c', h1, h2, _⟩ := h
  obtain ⟨u, h3, h4⟩ := h2 j v hv
  have := h4.sc_eq hs
  subst this
  simp [World.cell?, h1, h3]
theorem opV_of {ps : List Value} (h : ps.length = 10) (hb : allB kBo ps = true) (pa ca : Option Addr) (lp cp lc cc : Nat) : (⟨.slice pa lp cp :: .slice ca lc cc :: ps⟩ : Array Value) = opC pa ca lp cp lc cc (boolA ps) := by
  obtain ⟨bs, rfl⟩ := bools_of _ hb
  rw [List.length_map] at h
  obtain ⟨b0, b1, b2, b3, b4, b5, b6, b7, b8, b9, rfl⟩ := ten_of h
  rfl
theorem fed_ok {T : Tb} (hp : T.P = Tryz.prog) {args : List Value} {um : Option FrameMode} {h : Hp} {r : Rt} {um' : Option FrameMode} {h' : Hp} (e : fedG args um h = some (r, um', h'))
    {σ : Ren} {w : World} {args' : Array Value} {m : Option FrameMode} {cs : List Frame} (hA : VRs σ args args'.toList) (hU : UmR σ um m cs) (H : HR T σ h w) :
    ∃ σ' w' r' m', RtR σ' r r' ∧ UmR σ' um' m' cs ∧ um'.isSome = um.isSome ∧ HR T σ' h' w' ∧ Keep σ h w σ' h' w' ∧ Clo.Left T.P (lone (Frame.enter T.P 64 args' (kd um)) (upc m cs) w) 64 (kd um) r' m' cs w' := by
  unfold fedG at e
  split at e
  · rename_i acs z
    split at e
    · rename_i b1 lp k1 b2 lc k2 ps hcs
      split at e
      · rename_i d1 f1 x1 d2 f2 x2 g1 g2
        replace e := cond_none e; obtain ⟨hc, e⟩ := e
        simp only [Bool.and_eq_true, Bool.or_eq_true, decide_eq_true_eq] at hc
        obtain ⟨⟨⟨⟨⟨⟨⟨⟨q1, q2⟩, q3⟩, q4⟩, q5⟩, q6⟩, q7⟩, q8⟩, q9⟩ := hc
        have q1 := Nat.le_of_ble_eq_true q1
        have q2 := Nat.le_of_ble_eq_true q2
        have q3 := Nat.le_of_ble_eq_true q3
        have q4 := Nat.le_of_ble_eq_true q4
        have q5 := Nat.eq_of_beq_eq_true q5
        simp only [Option.some.injEq, Prod.mk.injEq] at e
        obtain ⟨rfl, rfl, rfl⟩ := e
        have hm : m = none := by cases m <;> simp_all [UmR]
        subst hm
        obtain ⟨acl⟩ := acs
        simp only at hcs
        subst hcs
        obtain ⟨args'⟩ := args'
        simp only at hA
        cases hA with
        | cons ha hA =>
        cases hA with
        | cons hz hA =>
        cases hA
        cases hz
        cases ha with
        | agg ha =>
        cases ha with
        | cons v1 ha =>
        cases ha with
        | cons v2 ha =>
        have hps := (vrs_bools q6 ha).symm
        subst hps
        cases v1 with
        | esl _ => omega
        | slice _ _ hs1 =>
        cases v2 with
        | esl _ => omega
        | slice _ _ hs2 =>
        rename_i c1 y1 c2 y2
        have hb1 := H.blk _ _ _ _ g1 hs1
        have hb2 := H.blk _ _ _ _ g2 hs2
        have hP : ∀ i, i < lp → _ := (allN_iff lp).1 q7
        have hC : ∀ i, i < lc → _ := (allN_iff lc).1 q8
        have HB : NetB lp (ptG d1) lc (chG d2) := by
          refine ⟨q2, q4, fun i hi => ?_, fun i hi => ?_⟩
          · have := hP i hi
            simp only [Bool.and_eq_true, fromB, decide_eq_true_eq] at this
            omega
          · have := hC i hi
            simp only [Bool.and_eq_true, fromB, decide_eq_true_eq] at this
            omega
        have HN : Ne8 w (some ⟨c1, 0, none⟩) (some ⟨c2, 0, none⟩) lp lc (ptG d1) (chG d2) := by
          refine ⟨.inr ⟨c1, 0, rfl, H.rng _ _ _ hs1, fun i hi => ?_⟩, .inr ⟨c2, 0, rfl, H.rng _ _ _ hs2, fun i hi => ?_⟩⟩
          · have := hP i hi
            simp only [Bool.and_eq_true] at this
            obtain ⟨⟨⟨⟨⟨t1, t2⟩, t3⟩, _⟩, _⟩, _⟩ := this
            rw [Nat.zero_add]
            exact ⟨blk_cell hb1 (isI_of t1) rfl, blk_cell hb1 (isI_of t2) rfl, blk_cell hb1 (isI_of t3) rfl⟩
          · have := hC i hi
            simp only [Bool.and_eq_true] at this
            obtain ⟨⟨⟨⟨⟨⟨⟨t1, t2⟩, t3⟩, t4⟩, _⟩, _⟩, _⟩, _⟩ := this
            rw [Nat.zero_add]
            exact ⟨blk_cell hb2 (isI_of t1) rfl, blk_cell hb2 (isI_of t2) rfl, blk_cell hb2 (isI_of t3) rfl, blk_cell hb2 (isBo_of t4) rfl⟩
        have hz : z = if decide (z = 1) then 1 else 0 := by
          rcases q9 with h | h <;> subst h <;> rfl
        have hcall := isFed_w (some ⟨c1, 0, none⟩) (some ⟨c2, 0, none⟩) lp (k1 + y1) lc (k2 + y2) (ptG d1) (chG d2) (boolA ps) (decide (z = 1)) w (Lib.hid HB) (Lib.hid HN)
        rw [← hz, ← opV_of q5 q6] at hcall
        obtain ⟨w', z1, hb⟩ := left_of_calls hcall cs
        refine ⟨σ, w', .ret (.bool (fedV lp (ptG d1) lc (chG d2) (boolA ps) (decide (z = 1)))), none, .ret (.bool _), trivial, rfl, H.world (fun c hc => hb.block c hc) hb.size, Keep.world σ h (fun c hc => hb.block c hc) hb.size hb.os hb.tape hb.output, ?_⟩
        rw [hp]
        exact z1
      · cases e
    · cases e
  · cases e
end Go.Kn
