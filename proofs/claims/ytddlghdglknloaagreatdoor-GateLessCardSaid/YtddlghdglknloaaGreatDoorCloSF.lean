/- Contracts of functions that the laws of this seat call, or the evaluator of closed calls and its runs. Conditions: as each theorem states them. -/
import Derived.Test.YtddlghdglknloaaGreatDoorCloSE
import Derived.Below
set_option linter.unusedVariables false
set_option linter.unusedSimpArgs false
/- Contracts of functions that the laws of this seat call, or the evaluator of closed calls and its runs. Conditions: as each theorem states them. -/
set_option linter.unusedVariables false
set_option linter.unusedSimpArgs false
namespace Go.Clo
open Go

variable {T : Tb} {F : Fns}

theorem fromA_tv : ∀ (l : List Value) (i : Nat) (t : Tr Value) (j : Nat), tv (fromA l i t) j = if i ≤ j ∧ j < i + l.length then (l[j - i]?).getD undef else tv t j := by
  intro l
  induction l with
  | nil => intro i t j; rw [if_neg (by simp)]; rfl
  | cons v l ih =>
    intro i t j
    have : fromA (v :: l) i t = fromA l (i + 1) (t.set i v) := rfl
    rw [this, ih]
    by_cases h1 : i + 1 ≤ j ∧ j < i + 1 + l.length
    · rw [if_pos h1, if_pos (by simp; omega)]
      have : j - i = (j - (i + 1)) + 1 := by omega
      rw [this]; simp
    · rw [if_neg h1]
      unfold tv
      rw [Tr.get_set]
      by_cases h2 : j = i
      · subst h2; rw [if_pos rfl, if_pos (by simp)]; simp
      · rw [if_neg h2, if_neg (by simp; omega)]

theorem enter_tm {σ : Ren} {args : List Value} {us : Array Value} (hr : VRs σ args us.toList) (n : Nat) :
    TmR σ (fromA args 0 .e) (Nat.add args.length (Nat.sub n args.length)) (us ++ Array.replicate (n - us.size) undef) := by
  have hl := hr.length
  simp only [Array.length_toList] at hl
  refine ⟨?_, fun i => ?_⟩
  · simp only [Array.size_append, Array.size_replicate]
    rw [← hl]; rfl
  · rw [fromA_tv]
    simp only [Nat.zero_le, true_and, Nat.zero_add, Nat.sub_zero]
    rw [Array.getD_eq_getD_getElem?]
    by_cases hi : i < args.length
    · rw [if_pos hi]
      obtain ⟨u, hu, hv⟩ := hr.get (List.getElem?_eq_getElem hi)
      rw [List.getElem?_eq_getElem hi]
      rw [Array.getElem?_append_left (by omega)]
      simp only [Array.getElem?_toList] at hu
      rw [hu]; exact hv
    · rw [if_neg hi]
      rw [Array.getElem?_append_right (by omega)]
      have : ((Array.replicate (n - us.size) undef)[i - us.size]?).getD undef = undef := by
        rw [Array.getElem?_replicate]; split <;> rfl
      rw [this]
      exact undefR σ

theorem resultsA_cons {a : AF} {h : Hp} (y : ResultVar) (l : List ResultVar) : resultsA T a h (y :: l) = match resultsA T a h l with
    | some r => (match y with
      | .tmp t => some (a.tmp t :: r)
      | .cell p t => (match a.tmp p with
        | .pointer (some p) => (match h.load T t p with
          | some v => some (v :: r)
          | none => none)
        | _ => none))
    | none => none := rfl

theorem resultsA_spec (hT : TbOK T) {σ : Ren} {h : Hp} {w : World} (H : HR T σ h w) {a : AF} {tmps : Array Value} (tm : TmR σ a.tm a.sz tmps) : ∀ {l : List ResultVar} {vs : List Value}, resultsA T a h l = some vs →
    ∃ us, (l.mapM (fun y => (match y with | .tmp t => pure (tmps.getD t undef) | .cell p t => do loadVar t (← asAddr (tmps.getD p undef)) : Sem Value))).run T.P w = .ok us w ∧ VRs σ vs us := by
  intro l
  induction l with
  | nil => intro vs e; cases e; exact ⟨[], by simp, .nil⟩
  | cons y l ih =>
    intro vs e
    rw [resultsA_cons] at e
    split at e
    · rename_i r hr
      obtain ⟨us, h1, h2⟩ := ih hr
      rw [List.mapM_cons]
      cases y with
      | tmp t =>
        simp only [Option.some.injEq] at e
        subst e
        exact ⟨tmps.getD t undef :: us, by simp only [Sem.run_bind, Sem.run_pure, Result.andThen_ok, h1], .cons (tm.val t) h2⟩
      | cell p t =>
        simp only at e
        split at e
        · rename_i pa hp
          split at e
          · rename_i v hv
            cases e
            have hpv := tm.val p
            have hp' : tv a.tm p = .pointer (some pa) := hp
            rw [hp'] at hpv
            generalize hg : tmps.getD p undef = gp at hpv
            cases hpv
            rename_i hσ
            obtain ⟨u, r1, r2⟩ := load_spec hT H hv hσ
            exact ⟨u :: us, by
              have ha : ∀ q : Addr, (asAddr (.pointer (some q))).run T.P w = .ok q w := fun q => rfl
              simp only [Sem.run_bind, hg, ha, Sem.run_pure, Result.andThen_ok, r1, h1], .cons r2 h2⟩
          · cases e
        · cases e
    · cases e

theorem results_run (hT : TbOK T) {σ : Ren} {h : Hp} {w : World} (H : HR T σ h w) {a : AF} {tmps : Array Value} (tm : TmR σ a.tm a.sz tmps) {fn : Func} {vs : List Value} (e : resultsA T a h fn.results.toList = some vs) :
    ∃ u, (results fn tmps).run T.P w = .ok u w ∧ VR σ (tuple1 vs) u := by
  obtain ⟨us, h1, h2⟩ := resultsA_spec hT H tm e
  have hm : (results fn tmps).run T.P w = .ok (if hh : us.toArray.size = 1 then us.toArray[0] else .tuple us.toArray) w := by
    unfold results
    rw [Array.mapM_eq_mapM_toList]
    simp only [Sem.run_bind, Sem.run_map]
    refine (congrArg (fun z => Result.andThen (Result.andThen z _) _) h1).trans ?_
    rfl
  refine ⟨_, hm, ?_⟩
  cases h2 with
  | nil => exact .tuple .nil
  | cons hv ht =>
    cases ht with
    | nil => exact hv
    | cons hv2 ht2 =>
      rw [dif_neg (by simp)]
      exact .tuple (.cons hv (.cons hv2 ht2))

theorem settleA_R {σ : Ren} {m n : FrameMode} (h : MR σ m n) : MR σ (settleA m) (settle n) := by
  cases h with
  | run => exact .run
  | returning => exact .returning
  | panicking h =>
    cases h with
    | nil => exact .panicking .nil
    | cons hp hl =>
      rename_i p q l l'
      obtain ⟨pv, pr, pg⟩ := hp
      obtain ⟨p1, p2, p3⟩ := p
      obtain ⟨q1, q2, q3⟩ := q
      simp only at pr pg
      subst pr; subst pg
      cases p2 with
      | false => exact .panicking (.cons ⟨pv, rfl, rfl⟩ hl)
      | true =>
        have hdw : ∀ {l l' : List PanicEntry}, All2 (PR σ) l l' → All2 (PR σ) (l.dropWhile (!·.goexit)) (l'.dropWhile (!·.goexit)) := by
          intro l l' hl
          induction hl with
          | nil => exact .nil
          | cons hp hl ih =>
            simp only [List.dropWhile_cons, hp.g]
            split
            · exact ih
            · exact .cons hp hl
        have hx := hdw hl
        simp only [settleA, settle]
        generalize l.dropWhile (!·.goexit) = y at hx
        generalize l'.dropWhile (!·.goexit) = y' at hx
        cases hx with
        | nil => exact .returning
        | cons h1 h2 => exact .panicking (.cons h1 h2)

theorem raisedA_R {σ : Ren} {m n : FrameMode} {c d : List PanicEntry} (h : MR σ m n) (hc : All2 (PR σ) c d) : MR σ (raisedA m c) (raised n d) := by
  cases h with
  | run => exact .panicking hc
  | returning => exact .panicking hc
  | panicking h => exact .panicking (hc.append h)

theorem settleA_run {m : FrameMode} (h : m ≠ .run) : settleA m ≠ .run := by
  unfold settleA
  split
  · split <;> simp
  · exact h

theorem raisedA_run {m : FrameMode} {c : List PanicEntry} : raisedA m c ≠ .run := by
  unfold raisedA; split <;> simp

/-- a deferred call's mode does not become 'run' -/
theorem MR.run_iff {σ : Ren} {m n : FrameMode} (h : MR σ m n) : m = .run ↔ n = .run := by
  cases h <;> simp

theorem defers_spec (hT : TbOK T) (hF : Snd T F) {ds : List Deferred} {m : FrameMode} {h : Hp} {m' : FrameMode} {h' : Hp} (he : defersF T F ds m h = some (m', h'))
    {σ : Ren} {w : World} {fr : Frame} {cs : List Frame} (D : All2 (DR σ) ds fr.defers) (Mm : MR σ m fr.mode) (hm : m ≠ .run) (H : HR T σ h w) (hlo : h.lo ≤ h.n) :
    ∃ σ' w' mm, MR σ' m' mm ∧ m' ≠ .run ∧ HR T σ' h' w' ∧ Keep σ h w σ' h' w' ∧ Steps T.P (lone fr cs w) (lone { fr with defers := [], mode := mm } cs w') := by
  unfold defersF at he
  have hfm : fr.mode ≠ .run := fun hh => hm (Mm.run_iff.2 hh)
  split at he
  · simp only [Option.some.injEq, Prod.mk.injEq] at he
    obtain ⟨rfl, rfl⟩ := he
    generalize hfd : fr.defers = fd at D
    cases D
    refine ⟨σ, w, fr.mode, Mm, hm, H, .refl _ _ _, ?_⟩
    have : ({ fr with defers := [], mode := fr.mode } : Frame) = fr := by cases fr; simp only at hfd; subst hfd; rfl
    rw [this]; exact .refl _ _
  · rename_i d ds
    generalize hfd : fr.defers = fd at D
    cases D with
    | cons hd D =>
      rename_i d' ds'
      obtain ⟨ht, ha⟩ := hd
      split at he
      · rename_i bl hdt
        rw [hdt] at ht
        cases hdt' : d'.target with
        | collected c =>
          rw [hdt'] at ht
          obtain ⟨xc, hσ⟩ := ht
          split at he
          · rename_i l hbk
            split at he
            · rename_i h1 hput
              have k2 := H.blk _ _ _ _ hbk hσ
              obtain ⟨l', k3, k4⟩ := k2
              obtain ⟨q1, q2⟩ := H.put (o' := .deferred none) hput hbk rfl hσ k3 (by intro a b c hh; cases hh) rfl
              have htake : (Instr.takeDeferred c).run T.P w = .ok l' { w with heap := w.heap.setIfInBounds c (.deferred none) } := by
                have hget : (getObj c).run T.P w = .ok (.deferred (some l')) w := by simp [getObj, Sem.run, k3]
                have hset : ∀ o', (setObj c o').run T.P w = .ok () { w with heap := w.heap.setIfInBounds c o' } := fun o' => by simp [setObj, Sem.run, k3]
                simp [Instr.takeDeferred, hget, hset]
              have hstep : step T.P (lone fr cs w) = .next (lone { fr with defers := l' ++ ds' } cs { w with heap := w.heap.setIfInBounds c (.deferred none) }) := by
                obtain ⟨dt, da⟩ := d'
                simp only at hdt'
                subst hdt'
                refine step_lone_go ?_
                cases hmode : fr.mode with
                | run => exact absurd hmode hfm
                | returning => simp [stepG, unwind, hmode, hfd, htake]
                | panicking ch => simp [stepG, unwind, hmode, hfd, htake]
              obtain ⟨σ2, w2, mm, g1, g2, g3, g4, g5⟩ := hF.defers he (fr := { fr with defers := l' ++ ds' }) (cs := cs) (k4.append D) Mm hm q1 (q2.lo' hlo)
              exact ⟨σ2, w2, mm, g1, g2, g3, q2.trans g4, .head hstep g5⟩
            · cases he
          · cases he
        | _ => rw [hdt'] at ht; exact ht.elim
      · rename_i fn cap hdt
        rw [hdt] at ht
        cases hdt' : d'.target with
        | fn fn' cap' =>
          rw [hdt'] at ht
          obtain ⟨hfr, hcr⟩ := ht
          split at he
          · rename_i f args h1 hinv
            obtain ⟨σ1, w1, N, H1, K1⟩ := invokeFn_spec hT H hinv hfr hcr ha
            obtain ⟨args', hr, hv⟩ := N
            split at he
            · rename_i r u h2 hcall
              obtain ⟨σ2, w2, r2, m2, g1, g2, g3, g4, g5, g6⟩ := hF.call hcall (m := some fr.mode) (cs := { fr with defers := ds' } :: cs) hv ⟨Mm.mono K1.sub, by simp⟩ H1 (K1.lo' hlo)
              cases m2 with
              | none => exact g2.elim
              | some mu =>
                obtain ⟨g2a, _⟩ := g2
                have hstep : step T.P (lone fr cs w) = .next (lone (Frame.enter T.P f args' .deferred) ({ fr with defers := ds' } :: cs) w1) := by
                  obtain ⟨dt, da⟩ := d'
                  simp only at hdt' hr
                  subst hdt'
                  refine step_lone_go ?_
                  cases hmode : fr.mode with
                  | run => exact absurd hmode hfm
                  | returning => simp [stepG, unwind, callDeferred, hmode, hfd, hr]
                  | panicking ch => simp [stepG, unwind, callDeferred, hmode, hfd, hr]
                have hup : upc (some fr.mode) ({ fr with defers := ds' } :: cs) = { fr with defers := ds' } :: cs := rfl
                rw [hup] at g6
                obtain ⟨frX, fnX, hs, hf, hk, hd0, hfn, hend⟩ := g6
                have hup2 : upc (some mu) ({ fr with defers := ds' } :: cs) = { fr with defers := ds', mode := mu } :: cs := rfl
                rw [hup2] at hs
                have K2 := K1.trans g5
                have hds : All2 (DR σ2) ds ds' := D.mono (DR.mono K2.sub)
                -- the caller of a deferred call never runs
                cases g1 with
                | ret hvv =>
                  rename_i vv uu
                  simp only at he hend
                  have h2s := step_going_returned (P := T.P) (c := { fr with defers := ds', mode := mu }) (cs := cs) (w := w2) hk (v := uu) ⟨hend.1, hd0, fnX, by rw [hf]; exact hfn, hend.2⟩
                  have hur : u ≠ .run := by intro hh; subst hh; cases he
                  have he : F.defers ds (settleA u) h2 = some (m', h') := by cases u <;> first | exact he | cases he
                  · obtain ⟨σ3, w3, mm, z1, z2, z3, z4, z5⟩ := hF.defers he (fr := { fr with defers := ds', mode := settle mu }) (cs := cs) hds (settleA_R g2a) (settleA_run hur) g4 (K2.lo' hlo)
                    exact ⟨σ3, w3, mm, z1, z2, z3, K2.trans z4, .head hstep (hs.trans (.head h2s z5))⟩
                | pan hch =>
                  rename_i cc dd
                  simp only at he hend
                  have h2s := step_going_panicked (P := T.P) (fr := frX) (c := { fr with defers := ds', mode := mu }) (cs := cs) (w := w2) (chain := dd) ⟨hend, hd0, fnX, by rw [hf]; exact hfn⟩
                  obtain ⟨σ3, w3, mm, z1, z2, z3, z4, z5⟩ := hF.defers he (fr := { fr with defers := ds', mode := raised mu dd }) (cs := cs) hds (raisedA_R g2a hch) raisedA_run g4 (K2.lo' hlo)
                  exact ⟨σ3, w3, mm, z1, z2, z3, K2.trans z4, .head hstep (hs.trans (.head h2s z5))⟩
            · cases he
          · cases he
        | _ => rw [hdt'] at ht; exact ht.elim
      · cases he
end Go.Clo

namespace Go.Clo
open Go

variable {T : Tb} {F : Fns}

theorem s_end {P : Program} {b : Frame} {x : CX} {cs : List Frame} {w : World} (hr : b.roundOf = none) : step P (M b x [] cs w) = .next (lone { fat b x [] with mode := .returning } (upc x.um cs) w) :=
  step_lone_go (by simp [stepG, stepG.exec, fat, hr])

theorem s_ret {P : Program} {b : Frame} {x : CX} {k : List Item} {cs : List Frame} {w : World} (hr : b.roundOf = none) : step P (M b x (.code .ret :: k) cs w) = .next (lone { fat b x (.code .ret :: k) with mode := .returning } (upc x.um cs) w) :=
  step_lone_go (by simp [stepG, stepG.exec, fat, hr])

/-- the contracts that are plugged in -/
def SpOK (T : Tb) : Prop := ∀ {f : FuncId} {g}, T.sp.get f = some g → ∀ {args : List Value} {um : Option FrameMode} {h : Hp} {r : Rt} {um' : Option FrameMode} {h' : Hp}, g args um h = some (r, um', h') →
    ∀ {σ : Ren} {w : World} {args' : Array Value} {m : Option FrameMode} {cs : List Frame}, VRs σ args args'.toList → UmR σ um m cs → HR T σ h w → h.lo ≤ h.n →
    ∃ σ' w' r' m', RtR σ' r r' ∧ UmR σ' um' m' cs ∧ um'.isSome = um.isSome ∧ HR T σ' h' w' ∧ Keep σ h w σ' h' w' ∧ Left T.P (lone (Frame.enter T.P f args' (kd um)) (upc m cs) w) f (kd um) r' m' cs w'

theorem fin_spec (hT : TbOK T) (hF : Snd T F) {fn : Func} {a : AF} {m : FrameMode} {h : Hp} {r : Rt} {um' : Option FrameMode} {h' : Hp} (he : finC T F fn a m h = some (r, um', h')) {f : FuncId} (hfn : T.P.funcs[f]? = some fn)
    {σ : Ren} {w : World} {fr b : Frame} {x : CX} {cs : List Frame} (A : AR σ a b x cs) (Mm : MR σ m fr.mode) (hm : m ≠ .run) (H : HR T σ h w) (hlo : h.lo ≤ h.n)
    (hfd : fr.defers = x.defers) (hft : fr.tmps = x.tmps) (hff : fr.fn = f) {kk : CallKind} (hfk : fr.kind = kk) :
    um' = a.um ∧ ∃ σ' w' r', RtR σ' r r' ∧ HR T σ' h' w' ∧ Keep σ h w σ' h' w' ∧ Left T.P (lone fr (upc x.um cs) w) f kk r' x.um cs w' := by
  unfold finC at he
  split at he
  · rename_i m1 h1 hd
    obtain ⟨σ1, w1, mm, g1, g2, g3, g4, g5⟩ := hF.defers hd (fr := fr) (cs := upc x.um cs) (by rw [hfd]; exact A.ds) Mm hm H hlo
    split at he
    · split at he
      · rename_i vs hvs
        simp only [Option.some.injEq, Prod.mk.injEq] at he
        obtain ⟨rfl, rfl, rfl⟩ := he
        obtain ⟨u, hu, hvu⟩ := results_run hT g3 (A.tm.mono g4.sub) hvs
        cases g1
        exact ⟨rfl, σ1, w1, .ret u, .ret hvu, g3, g4, _, fn, g5, hff, hfk, rfl, hfn, rfl, by simpa [hft] using hu⟩
      · cases he
    · rename_i ch
      simp only [Option.some.injEq, Prod.mk.injEq] at he
      obtain ⟨rfl, rfl, rfl⟩ := he
      cases g1 with
      | panicking hch => exact ⟨rfl, σ1, w1, .pan _, .pan hch, g3, g4, _, fn, g5, hff, hfk, rfl, hfn, rfl⟩
    · cases he
  · cases he

theorem call_spec (hT : TbOK T) (hP : SpOK T) (hF : Snd T F) {f : FuncId} {args : List Value} {um : Option FrameMode} {h : Hp} {r : Rt} {um' : Option FrameMode} {h' : Hp} (he : callF T F f args um h = some (r, um', h'))
    {σ : Ren} {w : World} {args' : Array Value} {m : Option FrameMode} {cs : List Frame} (hv : VRs σ args args'.toList) (U : UmR σ um m cs) (H : HR T σ h w) (hlo : h.lo ≤ h.n) :
    ∃ σ' w' r' m', RtR σ' r r' ∧ UmR σ' um' m' cs ∧ um'.isSome = um.isSome ∧ HR T σ' h' w' ∧ Keep σ h w σ' h' w' ∧ Left T.P (lone (Frame.enter T.P f args' (kd um)) (upc m cs) w) f (kd um) r' m' cs w' := by
  unfold callF at he
  split at he
  · rename_i g hg
    exact hP hg he hv U H hlo
  · split at he
    · rename_i fn hfn
      obtain ⟨hfn', hbs, _⟩ := hT.fn _ _ hfn
      split at he
      · rename_i body hb
        split at he
        · rename_i e a h1 hc
          let b0 : Frame := { (default : Frame) with fn := f, kind := kd um, roundOf := none }
          let x0 : CX := { tmps := args' ++ Array.replicate (fn.ntmps - args'.size) undef, defers := [], um := m }
          have henter : Frame.enter T.P f args' (kd um) = fat b0 x0 [.code body] := by
            simp [Frame.enter, hfn', hb, fat, b0, x0]
          have A0 : AR σ { tm := fromA args 0 .e, sz := Nat.add args.length (Nat.sub fn.ntmps args.length), ds := [], fn := f, um := um } b0 x0 cs :=
            ⟨enter_tm hv fn.ntmps, .nil, rfl, rfl, U⟩
          obtain ⟨σ1, w1, x1, e1, A1, H1, K1, E1, S1⟩ := hF.code hc A0 (by trivial) H hlo []
          have hstart : lone (Frame.enter T.P f args' (kd um)) (upc m cs) w = M b0 x0 [.code body] cs w := by rw [henter]; rfl
          rw [hstart]
          have hkd : a.um.isSome = um.isSome := by
            have h1 := A1.kind
            have : b0.kind = kd um := rfl
            rw [this] at h1
            cases hau : a.um <;> cases um <;> simp_all [kd]
          have finish : ∀ {mm : FrameMode} {fr : Frame}, finC T F fn a mm h1 = some (r, um', h') → MR σ1 mm fr.mode → mm ≠ .run → fr.defers = x1.defers → fr.tmps = x1.tmps → fr.fn = f → fr.kind = kd um → Steps T.P (M b0 x0 [.code body] cs w) (lone fr (upc x1.um cs) w1) →
              ∃ σ' w' r' m', RtR σ' r r' ∧ UmR σ' um' m' cs ∧ um'.isSome = um.isSome ∧ HR T σ' h' w' ∧ Keep σ h w σ' h' w' ∧ Left T.P (M b0 x0 [.code body] cs w) f (kd um) r' m' cs w' := by
            intro mm fr hfin hmr hmn d1 d2 d3 d4 hst
            obtain ⟨rfl, σ2, w2, r2, g1, g2, g3, frX, fnX, z1, z2, z3, z4, z5, z6⟩ := fin_spec hT hF hfin hfn' A1 hmr hmn H1 (K1.lo' hlo) d1 d2 d3 d4
            exact ⟨σ2, w2, r2, x1.um, g1, A1.um.mono g3.sub, hkd, g2, K1.trans g3, frX, fnX, hst.trans z1, z2, z3, z4, z5, z6⟩
          cases E1 with
          | normal => exact finish he (mm := .returning) (fr := { fat b0 x1 [] with mode := .returning }) .returning (by simp) rfl rfl rfl rfl (Steps.trans S1 (.one (s_end rfl)))
          | ret =>
            obtain ⟨k', S2⟩ := S1
            exact finish he (mm := .returning) (fr := { fat b0 x1 (.code .ret :: k') with mode := .returning }) .returning (by simp) rfl rfl rfl rfl (S2.trans (.one (s_ret rfl)))
          | panic hch =>
            obtain ⟨k', S2⟩ := S1
            exact finish he (fr := { fat b0 x1 k' with mode := .panicking _ }) (.panicking hch) (by simp) rfl rfl rfl rfl S2
          | exit id => cases he
          | goto l => cases he
        · cases he
      · cases he
    · cases he

theorem setTmps_cons (d : Tmp) (ds : List Tmp) (t : Tr Value) (sz : Nat) (v : Value) (vs : List Value) : setTmps (d :: ds) t sz (v :: vs) = cond (Nat.ble (Nat.succ d) sz) (setTmps ds (t.set d v) sz vs) none := rfl

theorem setTmps_spec {σ : Ren} {sz : Nat} : ∀ {ds : List Tmp} {t t' : Tr Value} {vs us : List Value} {tmps : Array Value}, setTmps ds t sz vs = some t' → VRs σ vs us → TmR σ t sz tmps →
    us.length = ds.length ∧ TmR σ t' sz ((ds.zip us).foldl (fun tmps (p : Tmp × Value) => tmps.setIfInBounds p.1 p.2) tmps) := by
  intro ds
  induction ds with
  | nil =>
    intro t t' vs us tmps e hr tm
    cases hr with
    | nil => cases e; exact ⟨rfl, tm⟩
    | cons => cases e
  | cons d ds ih =>
    intro t t' vs us tmps e hr tm
    cases hr with
    | nil => cases e
    | cons hv hr =>
      rw [setTmps_cons] at e
      replace e := cond_none e; obtain ⟨hb, e⟩ := e
      obtain ⟨h1, h2⟩ := ih e hr (tm.set (Nat.le_of_ble_eq_true hb) hv)
      exact ⟨by simp [h1], h2⟩

/-- the end of a round -/
theorem s_leaveRound {P : Program} {b : Frame} {x : CX} {todo : List Item} {caller : Frame} {cs : List Frame} {w w' : World} {l : Nat} {v : Value} {jump : Option Code} (hr : b.roundOf = some l) (hk : b.kind = .normal) (hu : x.um = none)
    (ht : (todo = [] ∧ jump = none) ∨ (∃ k, todo = .code .ret :: k ∧ jump = some .ret) ∨ (∃ id k, todo = .code (.exit id) :: k ∧ exitTo id k = none ∧ jump = some (.exit id)) ∨ (∃ g k, todo = .code (.goto g) :: k ∧ gotoIn g k = none ∧ jump = some (.goto g)))
    (he : (Instr.endRound l jump).run P w = .ok v w') : step P (M b x todo (caller :: cs) w) = .next (lone (caller.finish v) cs w') := by
  unfold M
  rw [hu]
  refine step_lone_go ?_
  rcases ht with ⟨rfl, rfl⟩ | ⟨k, rfl, rfl⟩ | ⟨id, k, rfl, hx, rfl⟩ | ⟨g, k, rfl, hx, rfl⟩ <;> simp [stepG, stepG.exec, fat, doReturn, upc, *]

theorem endR_spec {σ : Ren} {h h' : Hp} {w : World} {l c x0 : Nat} {jump : Option Code} {r : Rt} (he : endR h l jump = some (r, h')) (hσ : σ l = some (c, x0)) (H : HR T σ h w) :
    ∃ w', r = .ret (.bool jump.isNone) ∧ (Instr.endRound c jump).run T.P w = .ok (.bool jump.isNone) w' ∧ HR T σ h' w' ∧ Keep σ h w σ h' w' := by
  unfold endR at he
  split at he
  · rename_i st p fn tm sz ps as bd d hbk
    split at he
    · rename_i h1 hput
      simp only [Option.some.injEq, Prod.mk.injEq] at he
      obtain ⟨rfl, rfl⟩ := he
      have k2 := H.blk _ _ _ _ hbk hσ
      obtain ⟨l0, xx0, z0, z1, z2, z3, z4, z5, z6, z7, z8⟩ := k2
      obtain ⟨s1, s2⟩ := H.put (o' := .loop { l0 with state := if jump.isNone then .ready else .done, pending := jump }) hput hbk rfl hσ z0 (by intro a b c hh; cases hh)
        ⟨_, xx0, rfl, by cases jump <;> rfl, rfl, z3, z4, z5, z6, z7, z8⟩
      have hget : (getObj c).run T.P w = .ok (.loop l0) w := by simp [getObj, Sem.run, z0]
      have hset : ∀ o', (setObj c o').run T.P w = .ok () { w with heap := w.heap.setIfInBounds c o' } := fun o' => by simp [setObj, Sem.run, z0]
      exact ⟨_, rfl, by simp [Instr.endRound, Instr.getLoop, hget, hset], s1, s2⟩
    · cases he
  · cases he

theorem s_beginRound {P : Program} {b : Frame} {x : CX} {k : List Item} {cs : List Frame} {w w' : World} {l : Nat} (hr : b.roundOf = some l) (he : (Instr.beginRound l).run P w = .ok () w') :
    step P (M b x (.beginRound :: k) cs w) = .next (M b x k cs w') := by
  refine step_lone_go ?_
  simp [stepG, stepG.exec, fat, hr, stepG.apply, he, Frame.finish]

theorem round_spec (hT : TbOK T) (hF : Snd T F) {l : Nat} {args : List Value} {h : Hp} {r : Rt} {h' : Hp} (he : roundF T F l args h = some (r, h'))
    {σ : Ren} {w : World} {args' : Array Value} {c x0 : Nat} (hσ : σ l = some (c, x0)) (hv : VRs σ args args'.toList) (H : HR T σ h w) (hlo : h.lo ≤ h.n) (caller : Frame) (cs : List Frame) :
    ∃ σ' w' r', RtR σ' r r' ∧ HR T σ' h' w' ∧ Keep σ h w σ' h' w' ∧ ∃ fn tmps as bd, (Instr.yield c args').run T.P w = .ok (.round c fn tmps as bd) w ∧
      match r' with
      | .ret v => Steps T.P (lone (Frame.round c fn tmps as bd .normal) (caller :: cs) w) (lone (caller.finish v) cs w')
      | .pan ch => Steps T.P (lone (Frame.round c fn tmps as bd .normal) (caller :: cs) w) (lone (caller.raise ch) cs w') := by
  unfold roundF at he
  split at he
  · rename_i st p fn tm sz ps as bd d hbk
    have k2 := H.blk _ _ _ _ hbk hσ
    obtain ⟨l0, xx0, z0, z1, z2, z3, z4, z5, z6, z7, z8⟩ := k2
    split at he
    · rename_i tm' hst
      obtain ⟨t1, t2⟩ := setTmps_spec hst hv z4
      have hget : (getObj c).run T.P w = .ok (.loop l0) w := by simp [getObj, Sem.run, z0]
      have hyield : (Instr.yield c args').run T.P w = .ok (.round c l0.fn ((l0.params.zip args').foldl (fun tmps (t, a) => tmps.setIfInBounds t a) l0.tmps) l0.assign l0.body) w := by
        have hsz : args'.size = l0.params.size := by rw [← z5] at t1; simpa using t1
        simp [Instr.yield, Instr.getLoop, hget, hsz]
      have htm : (l0.params.zip args').foldl (fun tmps (t, a) => tmps.setIfInBounds t a) l0.tmps = (ps.zip args'.toList).foldl (fun tmps (p : Tmp × Value) => tmps.setIfInBounds p.1 p.2) l0.tmps := by
        rw [← Array.foldl_toList, Array.toList_zip, z5]
      rw [htm] at hyield
      generalize htmps : (ps.zip args'.toList).foldl (fun tmps (p : Tmp × Value) => tmps.setIfInBounds p.1 p.2) l0.tmps = tmps at hyield t2
      let b0 : Frame := { (default : Frame) with fn := l0.fn, kind := .normal, roundOf := some c }
      let y0 : CX := { tmps := tmps, defers := [], um := none }
      have hround : lone (Frame.round c l0.fn tmps l0.assign l0.body .normal) (caller :: cs) w = M b0 y0 [.code as, .beginRound, .code bd] (caller :: cs) w := by
        rw [← z6, ← z7]; rfl
      have A0 : AR σ { tm := tm', sz := sz, ds := [], fn := fn, um := none } b0 y0 (caller :: cs) := ⟨t2, .nil, z3, rfl, trivial⟩
      have R0 : RdR σ (some l) b0.roundOf := ⟨x0, hσ⟩
      split at he
      · rename_i a1 h1 hc1
        obtain ⟨σ1, w1, y1, e1, A1, H1, K1, E1, S1⟩ := hF.code hc1 A0 R0 H hlo [.beginRound, .code bd]
        cases E1
        split at he
        · rename_i p1 fn1 tm1 sz1 ps1 as1 bd1 d1 hbk1
          split at he
          · rename_i h2 hput
            have hσ1 := K1.sub _ _ hσ
            have k2 := H1.blk _ _ _ _ hbk1 hσ1
            obtain ⟨l1, xx1, v0, v1', v2, v3, v4, v5, v6, v7, v8⟩ := k2
            obtain ⟨H2, K2⟩ := H1.put (o' := .loop { l1 with state := .busy }) hput hbk1 rfl hσ1 v0 (by intro a b c hh; cases hh) ⟨{ l1 with state := .busy }, xx1, rfl, rfl, v2, v3, v4, v5, v6, v7, v8⟩
            have hbegin : (Instr.beginRound c).run T.P w1 = .ok () { w1 with heap := w1.heap.setIfInBounds c (.loop { l1 with state := .busy }) } := by
              have hget1 : (getObj c).run T.P w1 = .ok (.loop l1) w1 := by simp [getObj, Sem.run, v0]
              have hset1 : ∀ o', (setObj c o').run T.P w1 = .ok () { w1 with heap := w1.heap.setIfInBounds c o' } := fun o' => by simp [setObj, Sem.run, v0]
              simp [Instr.beginRound, Instr.getLoop, hget1, hset1, v1']
            have hlo2 := K2.lo' (K1.lo' hlo)
            have hb1 : b0.roundOf = some c := rfl
            have hbeg := s_beginRound (b := b0) (x := y1) (k := [.code bd]) (cs := caller :: cs) hb1 hbegin
            split at he
            · rename_i e2 a2 h3 hc2
              obtain ⟨σ3, w3, y3, e3, A3, H3, K3, E3, S3⟩ := hF.code hc2 (A1.mono (Sub.refl _)) (R0.mono K1.sub) H2 hlo2 []
              have hσ3 := K3.sub _ _ hσ1
              have hpre : Steps T.P (M b0 y0 [.code as, .beginRound, .code bd] (caller :: cs) w) (M b0 y1 [.code bd] (caller :: cs) { w1 with heap := w1.heap.setIfInBounds c (.loop { l1 with state := .busy }) }) := Steps.trans S1 (.one hbeg)
              have hkeep := K1.trans (K2.trans K3)
              split at he
              · rename_i hds
                have hd3 : y3.defers = [] := by have := A3.ds; rw [hds] at this; cases hh : y3.defers with | nil => rfl | cons => rw [hh] at this; cases this
                have hum3 : y3.um = none := by
                  have h1 := A3.kind
                  have h2 := A3.um
                  have : b0.kind = .normal := rfl
                  rw [this] at h1
                  cases ha : a2.um with
                  | some u => rw [ha] at h1; cases h1
                  | none => rw [ha] at h2; cases hy : y3.um with | none => rfl | some u => rw [hy] at h2; exact h2.elim
                have done : ∀ {jump : Option Code} {todo : List Item}, endR h3 l jump = some (r, h') → Steps T.P (M b0 y1 [.code bd] (caller :: cs) { w1 with heap := w1.heap.setIfInBounds c (.loop { l1 with state := .busy }) }) (M b0 y3 todo (caller :: cs) w3) →
                    ((todo = [] ∧ jump = none) ∨ (∃ k, todo = .code .ret :: k ∧ jump = some .ret) ∨ (∃ id k, todo = .code (.exit id) :: k ∧ exitTo id k = none ∧ jump = some (.exit id)) ∨ (∃ g k, todo = .code (.goto g) :: k ∧ gotoIn g k = none ∧ jump = some (.goto g))) →
                    ∃ σ' w' r', RtR σ' r r' ∧ HR T σ' h' w' ∧ Keep σ h w σ' h' w' ∧ ∃ fn tmps as bd, (Instr.yield c args').run T.P w = .ok (.round c fn tmps as bd) w ∧
                      match r' with
                      | .ret v => Steps T.P (lone (Frame.round c fn tmps as bd .normal) (caller :: cs) w) (lone (caller.finish v) cs w')
                      | .pan ch => Steps T.P (lone (Frame.round c fn tmps as bd .normal) (caller :: cs) w) (lone (caller.raise ch) cs w') := by
                  intro jump todo hend hst htodo
                  obtain ⟨w4, rfl, q2, q3, q4⟩ := endR_spec hend hσ3 H3
                  refine ⟨σ3, w4, .ret (.bool jump.isNone), .ret (.bool _), q3, hkeep.trans q4, l0.fn, tmps, l0.assign, l0.body, hyield, ?_⟩
                  show Steps T.P _ _
                  rw [hround]
                  exact hpre.trans (hst.trans (.one (s_leaveRound hb1 rfl hum3 htodo q2)))
                cases E3 with
                | normal => exact done he S3 (.inl ⟨rfl, rfl⟩)
                | ret => obtain ⟨k', S4⟩ := S3; exact done he S4 (.inr (.inl ⟨k', rfl, rfl⟩))
                | exit id => obtain ⟨k', S4, hk'⟩ := S3; exact done he S4 (.inr (.inr (.inl ⟨id, k', rfl, hk', rfl⟩)))
                | goto g => obtain ⟨k', S4, hk'⟩ := S3; exact done he S4 (.inr (.inr (.inr ⟨g, k', rfl, hk', rfl⟩)))
                | panic hch =>
                  simp only at he
                  split at he
                  · rename_i fnx hfnx
                    simp only [Option.some.injEq, Prod.mk.injEq] at he
                    obtain ⟨rfl, rfl⟩ := he
                    obtain ⟨k', S4⟩ := S3
                    obtain ⟨hfx, _⟩ := hT.fn _ _ hfnx
                    refine ⟨σ3, w3, .pan _, .pan hch, H3, hkeep, l0.fn, tmps, l0.assign, l0.body, hyield, ?_⟩
                    show Steps T.P _ _
                    rw [hround]
                    refine hpre.trans (S4.trans ?_)
                    rw [hum3]
                    exact .one (step_leave_panicked ⟨rfl, hd3, fnx, by show T.P.funcs[l0.fn]? = _; rw [z3]; exact hfx⟩)
                  · cases he
              · cases he
            · cases he
          · cases he
        · cases he
      · cases he
    · cases he
  · cases he

theorem Snd.none (T : Tb) : Snd T Fns.none :=
  { code := by intro _ _ _ _ _ _ _ he; cases he
    call := by intro _ _ _ _ _ _ _ he; cases he
    round := by intro _ _ _ _ _ he; cases he
    defers := by intro _ _ _ _ _ he; cases he }

theorem Snd.step (hT : TbOK T) (hS : StrOK T) (hD : DrawOK T) (hP : SpOK T) (hF : Snd T F) : Snd T (stepF T F) where
  code := fun he _ _ _ _ _ A R H hlo k => code_spec hT hS hD hF he A R H hlo k
  call := fun he _ _ _ _ _ hv U H hlo => call_spec hT hP hF he hv U H hlo
  round := fun he _ _ _ _ _ hσ hv H hlo c cs => round_spec hT hF he hσ hv H hlo c cs
  defers := fun he _ _ _ _ D Mm hm H hlo => defers_spec hT hF he D Mm hm H hlo

theorem ev_snd (hT : TbOK T) (hS : StrOK T) (hD : DrawOK T) (hP : SpOK T) : ∀ n, Snd T (ev T n)
  | 0 => Snd.none T
  | n + 1 => Snd.step hT hS hD hP (ev_snd hT hS hD hP n)
end Go.Clo

namespace Go.Clo
open Go

variable {T : Tb}

/-- a call that the evaluator runs to its end returns, whatever the world and the tape -/
theorem calls_of_ev (hT : TbOK T) (hS : StrOK T) (hD : DrawOK T) (hP : SpOK T) (n : Nat) {f : FuncId} {args : List Value} {h : Hp} {v : Value} {um' : Option FrameMode} {h' : Hp}
    (he : (ev T n).call f args none h = some (.ret v, um', h')) {σ : Ren} {w : World} {args' : Array Value} (hv : VRs σ args args'.toList) (H : HR T σ h w) (hlo : h.lo ≤ h.n) :
    Calls T.P f args' w fun e w' => ∃ σ' u, e = .returned u ∧ VR σ' v u ∧ HR T σ' h' w' ∧ Keep σ h w σ' h' w' := by
  intro cs
  obtain ⟨σ1, w1, r1, m1, q1, q2, q3, q4, q5, fr, fn, z1, z2, z3, z4, z5, z6⟩ := (ev_snd hT hS hD hP n).call he (m := none) (cs := cs) hv trivial H hlo
  have hm : m1 = none := by
    cases um' with
    | some u => simp at q3
    | none => cases m1 <;> simp_all [UmR]
  subst hm
  cases q1 with
  | ret hvv =>
    rename_i u
    exact ⟨.returned u, w1, fr, ⟨σ1, u, rfl, hvv, q4, q5⟩, z1, z2, z6.1, z4, z3, fn, by rw [z2]; exact z5, z6.2⟩

def Hp.empty : Hp := ⟨.e, 0, 0⟩

theorem HR.empty (T : Tb) (hg : ∀ b, T.gl b = none) (w : World) : HR T (fun _ => none) Hp.empty w :=
  ⟨fun b y e => (by cases e), fun b c x e => (by cases e), fun b y e => (by cases e), fun b y c x e => (by cases e), fun b b' y y' c x x' e => (by cases e), fun b y e => by rw [hg b] at e; cases e⟩

/-- a call on plain values -/
theorem calls_plain (hg : ∀ b, T.gl b = none) (hT : TbOK T) (hS : StrOK T) (hD : DrawOK T) (hP : SpOK T) (n : Nat) {f : FuncId} {args : List Value} {v : Value} {um' : Option FrameMode} {h' : Hp}
    (he : (ev T n).call f args none Hp.empty = some (.ret v, um', h')) (ha : args.all gr = true) (hv : gr v = true) (w : World) :
    Calls T.P f args.toArray w fun e w' => e = .returned v ∧ RowKit.Below w.heap.size w w' := by
  have hargs : VRs (fun _ => none : Ren) args args.toArray.toList := by
    induction args with
    | nil => exact .nil
    | cons a l ih =>
      simp only [List.all_cons, Bool.and_eq_true] at ha
      exact .cons (.of_gr ha.1) (VRs.of_get rfl fun i v hv => ⟨v, hv, .of_gr ((List.all_eq_true.1 ha.2) v (List.mem_of_getElem? hv))⟩)
  refine (calls_of_ev hT hS hD hP n he hargs (HR.empty T hg w) (Nat.le_refl _)).mono ?_
  rintro e w' ⟨σ', u, rfl, hu, H', K⟩
  have := hu.gr_eq hv
  subst this
  exact ⟨rfl, K.os, K.tape, K.output, K.size, fun k hk => K.mem k hk fun b y x _ hy => by cases hy⟩
end Go.Clo

namespace Go.Clo
open Go

noncomputable section
def frO {α β : Type} (f : α → Option β) (l : List α) : Nat → Tr β → Tr β :=
  List.rec (motive := fun _ => Nat → Tr β → Tr β) (fun _ t => t) (fun x _ ih i t => ih (Nat.succ i) (Option.casesOn (f x) t (fun y => t.set i y))) l

def undOf (info : Tr TypeInfo) (i : TypeInfo) : Option TypeDesc :=
  let d := match i.desc with
    | .named _ u => (match info.get u with | some i => some i.desc | none => none)
    | d => some d
  match d with
  | some (.struct fs) => cond (allB (fun f : Field => (info.get f.type).isSome) fs.toList) (some (.struct fs)) none
  | d => d

def fnOf (f : Func) : Option Func := cond (f.body.isSome && not (decide (f.name = "runtime.NumGoroutine"))) (some f) none
def zeroOf (i : TypeInfo) : Option Value := match i.zero with | some z => cond (gr z && Nat.beq (cellsL z).length i.size) (some z) none | none => none

/-- the tables of a program -/
def tables (P : Program) (types : List TypeInfo) (funcs : List Func) (ext : Tr (Array Value → Sem Value)) (cl : Tr Unit) (kq : Tr Nat) (sp : Tr (List Value → Option FrameMode → Hp → Option (Rt × Option FrameMode × Hp))) : Tb :=
  { P, info := frO some types 0 .e, und := frO (undOf (frO some types 0 .e)) types 0 .e, fn := frO fnOf funcs 0 .e, ext, cl, kq, zero := frO zeroOf types 0 .e, sp }
end

theorem frO_cons {α β : Type} (f : α → Option β) (x : α) (l : List α) (i : Nat) (t : Tr β) : frO f (x :: l) i t = frO f l (i + 1) (match f x with | some y => t.set i y | none => t) := by
  show frO f l (i + 1) (Option.casesOn (f x) t (fun y => t.set i y)) = _
  cases f x <;> rfl

theorem frO_get {α β : Type} (f : α → Option β) : ∀ (l : List α) (i : Nat) (t : Tr β) (j : Nat) (y : β), (frO f l i t).get j = some y → (∃ x, i ≤ j ∧ l[j - i]? = some x ∧ f x = some y) ∨ t.get j = some y := by
  intro l
  induction l with
  | nil => intro i t j y e; exact .inr e
  | cons x l ih =>
    intro i t j y e
    rw [frO_cons] at e
    rcases ih _ _ _ _ e with ⟨z, h1, h2, h3⟩ | h
    · refine .inl ⟨z, by omega, ?_, h3⟩
      have : j - i = (j - (i + 1)) + 1 := by omega
      rw [this]; simpa using h2
    · split at h
      · rename_i v hv
        rw [Tr.get_set] at h
        split at h
        · rename_i hji
          subst hji
          cases h
          exact .inl ⟨x, Nat.le_refl _, by simp, hv⟩
        · exact .inr h
      · exact .inr h

theorem frO_get0 {α β : Type} {f : α → Option β} {l : List α} {j : Nat} {y : β} (e : (frO f l 0 .e).get j = some y) : ∃ x, l[j]? = some x ∧ f x = some y := by
  rcases frO_get f l 0 .e j y e with ⟨x, _, h2, h3⟩ | h
  · exact ⟨x, by simpa using h2, h3⟩
  · cases h

theorem cells_len (v : Value) : (cellsL v).length = v.cells.size := by cases v <;> simp [cellsL, Value.cells]

theorem tables_ok {P : Program} {types : List TypeInfo} {funcs : List Func} {ext : Tr (Array Value → Sem Value)} {cl : Tr Unit} {kq : Tr Nat} {sp} (h1 : ∀ t i, types[t]? = some i → P.info? t = some i) (h2 : P.funcs.toList = funcs)
    (h3 : ∀ f e, ext.get f = some e → ∃ fn, P.funcs[f]? = some fn ∧ fn.name ≠ "runtime.NumGoroutine" ∧ fn.body = none ∧ Extern.findNext fn = none ∧ Extern.find fn = some e)
    (h4 : ∀ f u, cl.get f = some u → ∃ fn, P.funcs[f]? = some fn ∧ fn.name ≠ "runtime.NumGoroutine" ∧ fn.body = none ∧ Extern.findNext fn = none ∧ Extern.find fn = some Extern.MapsClone.clone)
    (h5 : ∀ t n, kq.get t = some n → ((∃ fs, P.underlying t = some (.struct fs)) ∨ ∃ m e, P.underlying t = some (.array m e)) ∧ ∀ (k1 k2 : Value), kAggN n k1 = true → kAggN n k2 = true → ∀ (w : World) (e : Bool),
      (Instr.checkKey e 10000 t k1).run P w = .ok () w ∧ (Op.equal t k1 k2).run P w = .ok (eqAgg k1 k2) w) : TbOK (tables P types funcs ext cl kq sp) ∧ StrOK (tables P types funcs ext cl kq sp) := by
  have hinfo : ∀ t i, (frO some types 0 .e).get t = some i → P.info? t = some i := by
    intro t i e
    obtain ⟨x, hx, he⟩ := frO_get0 e
    cases he
    exact h1 _ _ hx
  have hund : ∀ t d, (frO (undOf (frO some types 0 .e)) types 0 .e).get t = some d → P.underlying t = some d ∧ ∀ fs, d = .struct fs → ∀ f ∈ fs.toList, ∃ i, P.info? f.type = some i := by
    intro t d e
    obtain ⟨x, hx, he⟩ := frO_get0 e
    have hi := h1 _ _ hx
    unfold undOf at he
    have core : ∀ d', (match x.desc with | .named _ u => (match (frO some types 0 .e).get u with | some i => some i.desc | none => none) | d => some d) = some d' → P.underlying t = some d' := by
      intro d' hd'
      unfold Program.underlying
      rw [hi]
      obtain ⟨desc, r1, r2, r3, r4, r5, r6, r7, r8, r9⟩ := x
      simp only at hd' ⊢
      split at hd'
      · split at hd'
        · rename_i u _ i2 hi2
          cases hd'
          simp [hinfo _ _ hi2]
        · cases hd'
      · rename_i hnn
        cases hd'
        cases d' <;> first | rfl | exact absurd rfl (hnn _ _)
    simp only at he
    split at he
    · rename_i fs hfs
      replace he := cond_none he; obtain ⟨ha, he⟩ := he
      cases he
      refine ⟨core _ hfs, fun fs' hfs' f hf => ?_⟩
      cases hfs'
      rw [allB_eq, List.all_eq_true] at ha
      have := ha f hf
      cases hg : (frO some types 0 .e).get f.type with
      | none => rw [hg] at this; cases this
      | some i => exact ⟨i, hinfo _ _ hg⟩
    · rename_i hns
      exact ⟨core _ he, fun fs hd => absurd (hd ▸ he) (hns fs)⟩
  refine ⟨⟨hinfo, fun t d e => (hund t d e).1, ?_, h3, h4, h5, ?_⟩, fun t fs e f hf => (hund t _ e).2 fs rfl f hf⟩
  · intro f x e
    obtain ⟨y, hy, he⟩ := frO_get0 e
    unfold fnOf at he
    replace he := cond_none he; obtain ⟨ha, he⟩ := he
    cases he
    simp only [Bool.and_eq_true, Bool.not_eq_true', decide_eq_false_iff_not] at ha
    refine ⟨?_, ha.1, ha.2⟩
    show P.funcs[f]? = some x
    rw [← Array.getElem?_toList, h2]; exact hy
  · intro t z e
    obtain ⟨i, hi, he⟩ := frO_get0 e
    unfold zeroOf at he
    split at he
    · rename_i z' hz'
      replace he := cond_none he; obtain ⟨ha, he⟩ := he
      cases he
      simp only [Bool.and_eq_true] at ha
      refine ⟨ha.1, i, h1 _ _ hi, hz', ?_⟩
      rw [← cells_len]; exact Nat.eq_of_beq_eq_true ha.2
    · cases he
end Go.Clo
