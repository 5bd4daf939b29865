/- Contracts of functions that the laws of this seat call, or the evaluator of closed calls and its runs. Conditions: as each theorem states them. -/
import Derived.Test.YtddlghdglknloaaGreatDoorCloSC
import Derived.Deep.AppendSrc
set_option linter.unusedVariables false
set_option linter.unusedSimpArgs false
/- Contracts of functions that the laws of this seat call, or the evaluator of closed calls and its runs. Conditions: as each theorem states them. -/
set_option linter.unusedVariables false
set_option linter.unusedSimpArgs false
namespace Go.Clo
open Go

variable {T : Tb} {σ : Ren} {h h' : Hp} {w : World} {a : AF} {x : Act}

theorem growBy_le (newLen : Nat) : ∀ (r c : Nat), Builtin.growBy newLen r c ≤ 2 ^ r * (c + 768) := by
  intro r
  induction r with
  | zero => intro c; simp [Builtin.growBy]
  | succ r ih =>
    intro c
    unfold Builtin.growBy
    have h1 : 1 ≤ 2 ^ (r + 1) := Nat.one_le_two_pow
    split
    · calc c ≤ 1 * (c + 768) := by omega
        _ ≤ 2 ^ (r + 1) * (c + 768) := Nat.mul_le_mul_right _ h1
    · refine Nat.le_trans (ih _) ?_
      rw [Nat.pow_succ, Nat.mul_assoc]
      refine Nat.mul_le_mul_left _ ?_
      omega

theorem nextslicecap_le (need cap : Nat) (h : cap < need) : Builtin.nextslicecap need cap ≤ 16 * (need + 768) := by
  unfold Builtin.nextslicecap
  split
  · omega
  · split
    · omega
    · have := growBy_le need 4 cap
      have h16 : (2 : Nat) ^ 4 = 16 := rfl
      rw [h16] at this
      exact Nat.le_trans this (Nat.mul_le_mul_left _ (by omega))

theorem HR.drew (H : HR T σ h w) : HR T σ h w.drew := ⟨H.dom, H.rng, H.bnd, H.blk, H.inj, H.gl⟩

theorem okCell_one (v : Value) : okCell v = v.oneCell' := by cases v <;> rfl

theorem cutCells_uni (H : HR T σ h w) {b c x o n : Nat} {l r : List Value} (e : h.cells b = some l) (hσ : σ b = some (c, x)) (hc : cut l o n = some r) :
    ∃ us : Array Value, (∀ w2 : World, w2.heap = w.heap → (loadCells ⟨c, o, none⟩ n).run T.P w2 = .ok us w2) ∧ VRs σ r us.toList := by
  obtain ⟨el, ex, arr, _, h2, h3, _⟩ := H.cells e hσ
  obtain ⟨q1, q2, q3⟩ := cut_eq hc
  have hle := len_le_of_prefix h3
  have hfit : n = 0 ∨ o + n ≤ arr.size := by rcases q1 with ⟨h0, _⟩ | h0 <;> omega
  obtain ⟨us, r1, r2, r3⟩ := loadCells_run (P := T.P) (o := o) (n := n) h2 hfit
  refine ⟨us, fun w2 hw2 => ?_, VRs.of_get (by rw [q2, r2]) fun i v hv => ?_⟩
  · obtain ⟨us2, s1, s2, s3⟩ := loadCells_run (P := T.P) (w := w2) (o := o) (n := n) (by rw [hw2]; exact h2) hfit
    have : us2 = us := by
      apply Array.ext'
      apply List.ext_getElem?
      intro j
      by_cases hj : j < n
      · rw [s3 j hj, r3 j hj]
      · rw [List.getElem?_eq_none (by omega), List.getElem?_eq_none (by omega)]
    rw [← this]; exact s1
  · have hi : i < n := by rw [← q2]; exact (List.getElem?_eq_some_iff.1 hv).1
    rw [q3 i hi] at hv
    obtain ⟨u, hu, hvu⟩ := h3 _ _ hv
    exact ⟨u, by rw [r3 i hi]; exact hu, hvu⟩

theorem sliceCells_uni (H : HR T σ h w) {size n : Nat} {v u : Value} {l : List Value} (hn : ∀ k, lenA v = some k → n ≤ k) (e : sliceCells h size n v = some l) (hr : VR σ v u) :
    ∃ us : Array Value, (∀ w2 : World, w2.heap = w.heap → (Builtin.firstCells size n u).run T.P w2 = .ok us w2) ∧ VRs σ l us.toList := by
  unfold sliceCells at e
  split at e
  · split at e
    · rename_i c hc
      cases hr
      case slice =>
        rename_i hσ
        obtain ⟨us, r1, r2⟩ := cutCells_uni H hc hσ e
        exact ⟨us, fun w2 hw2 => by simpa [Builtin.firstCells] using r1 w2 hw2, r2⟩
      case esl =>
        rename_i b1 c1 o1 o2 hσ
        have hn0 : n = 0 := by have := hn 0 rfl; omega
        subst hn0
        have hz : Nat.mul 0 size = 0 := Nat.zero_mul size
        rw [hz] at e
        obtain ⟨us, r1, r2⟩ := cutCells_uni (o := o2) (n := 0) (r := l) H hc hσ (by rw [cut_zero] at e ⊢; exact e)
        exact ⟨us, fun w2 hw2 => by simpa [Builtin.firstCells] using r1 w2 hw2, r2⟩
    · cases e
  · cases e; cases hr; exact ⟨#[], fun _ _ => by simp [Builtin.firstCells], .nil⟩
  · cases e
    cases hr
    rename_i s
    refine ⟨(s.extract 0 n).data.map fun b => .int .u8 b.toNat, fun _ _ => by simp [Builtin.firstCells], ?_⟩
    have : VRs σ ((s.extract 0 n).data.toList.map fun b => Value.int .u8 b.toNat) ((s.extract 0 n).data.toList.map fun b => Value.int .u8 b.toNat) :=
      .of_sc (by rw [List.all_eq_true]; intro y hy; obtain ⟨b, _, rfl⟩ := List.mem_map.1 hy; rfl)
    simpa using this
  · cases e

/-- what the second argument of an append yields -/
theorem src_spec (hT : TbOK T) (H : HR T σ h w) {t2 : TypeId} {size n : Nat} {v u : Value} {new : List Value} (hn : lenA v = some n) (hc : sliceCells h size n v = some new) (hk : kindA T t2 size v = true) (hok : new.all okCell = true) (hl : new.length = n * size) (hr : VR σ v u) :
    ∃ news, Src T.P size t2 u n news w ∧ VRs σ new news ∧ news.all okCell = true := by
  obtain ⟨us, r1, r2⟩ := sliceCells_uni H (fun k hk' => by rw [hn] at hk'; cases hk'; exact Nat.le_refl _) hc hr
  have hok' := r2.okCell hok
  have hone : ∀ u ∈ us.toList, u.oneCell' = true := fun u hu => by rw [← okCell_one]; exact (List.all_eq_true.1 hok') u hu
  refine ⟨us.toList, ⟨?_, fun w' => lenA_spec hn hr T.P w', by simpa using r1 w rfl, by simpa using r1 w.drew rfl, by rw [← r2.length, hl], hone⟩, r2, hok'⟩
  unfold kindA at hk
  split at hk
  · rename_i hu; exact .inl ⟨_, hT.und _ _ hu⟩
  · rename_i hu; exact .inr (hT.und _ _ hu)
  · cases hk

theorem append_room_run {P : Program} {t tx ty e : TypeId} {i : TypeInfo} (ht : P.underlying t = some (.slice e)) (hi : P.info? e = some i) {ad : Addr} {sLen sCap : Nat} {x : Value} {n : Nat} {news : List Value} {w w' : World} (hs : Src P i.size tx x n news w)
    (hroom : sLen + n ≤ sCap) (hst : (storeCells (ad.add (sLen * i.size)) news 0).run P w = .ok () w') :
    (Builtin.append_ #[t, tx] ty #[.slice (some ad) sLen sCap, x]).run P w = .ok (.slice (some ad) (sLen + n) sCap) w' := by
  rcases hs.kind with ⟨e', hk⟩ | hk <;> simp [Builtin.append_, run_underlying ht, run_underlying hk, sizeOf, typeInfo, hi, hs.len, hroom, hs.cells, hst]

/-- a block is given up -/
theorem HR.kill (H : HR T σ h w) {k : Nat} {h' : Hp} {y : ABlk} (hk : h.get k = some y) (e : h.put k .dead = some h') : HR T σ h' w ∧ Keep σ h w σ h' w := by
  obtain ⟨p1, p2, p3, p4⟩ := Hp.put_spec e
  refine ⟨⟨?_, H.rng, ?_, ?_, ?_, H.gl⟩, ⟨.refl σ, by rw [p2]; exact Nat.le_refl _, p3, ?_, ?_, Nat.le_refl _, fun _ _ _ => rfl, rfl, rfl, rfl, fun _ _ e _ => e, .refl _⟩⟩
  · intro b z e; rw [p2]; exact H.dom b z e
  · intro b z ez
    rw [p2]; rw [p4] at ez
    by_cases hbk : b = k
    · rw [hbk]; exact H.bnd _ _ hk
    · rw [if_neg hbk] at ez; exact H.bnd _ _ ez
  · intro b z c x ez r
    rw [p4] at ez
    by_cases hbk : b = k
    · rw [if_pos hbk] at ez; cases ez; exact trivial
    · rw [if_neg hbk] at ez; exact H.blk b z c x ez r
  · intro b b' z z' c1 x1 x2 e e' s s' r r'
    rw [p4] at e e'
    split at e
    · cases e; simp [solid] at s
    · split at e'
      · cases e'; simp [solid] at s'
      · exact H.inj b b' z z' c1 x1 x2 e e' s s' r r'
  · intro b hb'
    rw [p4, if_neg (by omega)]
  · intro b y2 c2 x2 hb2 hy2 hs2 e2
    rw [p4] at hy2
    split at hy2
    · cases hy2; simp [solid] at hs2
    · exact .inr ⟨b, y2, x2, hb2, hy2, hs2, e2⟩

theorem appendA_spec (hT : TbOK T) (H : HR T σ h w) (hlo : h.lo ≤ h.n) {st t2 ty : TypeId} {s v s' u : Value} {nx : ANx} (e : appendA T st t2 s v h = some (nx, h')) (hs : VR σ s s') (hv : VR σ v u) :
    Good T σ h w nx h' (do pure (.value (← Builtin.append_ #[st, t2] ty #[s', u]))) := by
  unfold appendA at e
  split at e
  · rename_i elem base sLen sCap n hu hn
    split at e
    · rename_i i z hi hz
      split at e
      · rename_i new hnew
        replace e := cond_none e; obtain ⟨hk, e⟩ := e
        simp only [Bool.and_eq_true, allB_eq] at hk
        have hnl := Nat.eq_of_beq_eq_true hk.2
        obtain ⟨news, hsrc, hnr, hok⟩ := src_spec hT H hn hnew hk.1.1 hk.1.2 hnl hv
        have hi' := hT.info _ _ hi
        have hu' := hT.und _ _ hu
        obtain ⟨hzg, i', hi2, hzi, hzs⟩ := hT.zero _ _ hz
        have hii : i' = i := by rw [hi'] at hi2; cases hi2; rfl
        subst hii
        cases hroom : Nat.ble (Nat.add sLen n) sCap with
        | true =>
          rw [hroom, cond_true] at e
          have hroom' : sLen + n ≤ sCap := Nat.le_of_ble_eq_true hroom
          split at e
          · replace e := cond_none e; obtain ⟨h0, e⟩ := e
            have h0 := Nat.eq_of_beq_eq_true h0
            cases hs
            subst h0
            refine good_v1 H e (u := .slice none (sLen + 0) sCap) ?_ (.nilSlice _ _)
            rcases hsrc.kind with ⟨e', hk⟩ | hk <;> simp [Builtin.append_, run_underlying hu', run_underlying hk, sizeOf, typeInfo, hi', hsrc.len, hsrc.cells]
            all_goals (intro hh; omega)
          · split at e
            · rename_i h1 hst
              simp only [v1, Option.some.injEq, Prod.mk.injEq] at e
              obtain ⟨rfl, rfl⟩ := e
              cases hs
              case slice =>
                rename_i b c xx o' hσ
                rw [addr_eq] at hst
                obtain ⟨w', s1, s2, s3⟩ := storeC_spec H hst hσ hnr hk.1.2
                refine ⟨σ, w', ⟨.slice (some ⟨c, o', none⟩) (sLen + n) (sCap + xx), ?_, .slice _ _ hσ⟩, s2, s3⟩
                have := append_room_run (ty := ty) hu' hi' hsrc (show sLen + n ≤ sCap + xx by omega) (ad := ⟨c, o', none⟩) (w' := w') (by rw [add_mk]; exact s1)
                simp [this]
              case esl =>
                rename_i b c o1 o2 hσ
                have hn0 : n = 0 := by omega
                subst hn0
                have hnew0 : new = [] := by
                  have : new.length = 0 := by rw [hnl]; exact Nat.zero_mul _
                  exact List.length_eq_zero_iff.1 this
                subst hnew0
                rw [addr_eq] at hst
                rw [storeC_nil h b _ (o2 + 0 * i'.size)] at hst
                obtain ⟨w', s1, s2, s3⟩ := storeC_spec H hst hσ hnr hk.1.2
                refine ⟨σ, w', ⟨.slice (some ⟨c, o2, none⟩) (0 + 0) 0, ?_, .esl hσ⟩, s2, s3⟩
                have := append_room_run (ty := ty) hu' hi' hsrc (show 0 + 0 ≤ 0 by omega) (ad := ⟨c, o2, none⟩) (w' := w') (by rw [add_mk]; exact s1)
                simp [this]
            · cases e
        | false =>
          rw [hroom, cond_false] at e
          have hroom' : sCap < sLen + n := by
            rcases Nat.lt_or_ge sCap (sLen + n) with hh | hh
            · exact hh
            · change Nat.ble (sLen + n) sCap = false at hroom
              rw [Nat.ble_eq_true_of_le hh] at hroom; cases hroom
          replace e := cond_none e; obtain ⟨hb, e⟩ := e
          simp only [Bool.and_eq_true] at hb
          have b1 : (sLen + n) * i'.bytes ≤ 100000 := Nat.le_of_ble_eq_true hb.1.1
          have b2 : sLen + n ≤ 10000 := Nat.le_of_ble_eq_true hb.1.2
          have b3 : i'.bytes ≤ 100000 := Nat.le_of_ble_eq_true hb.2
          have hfit : ∀ cap, cap < sLen + n → Builtin.nextslicecap (sLen + n) cap * i'.bytes ≤ 281474976710656 := by
            intro cap hcap
            have h1 := nextslicecap_le (sLen + n) cap hcap
            calc Builtin.nextslicecap (sLen + n) cap * i'.bytes ≤ (16 * (10000 + 768)) * 100000 := Nat.mul_le_mul (Nat.le_trans h1 (by omega)) b3
              _ ≤ 281474976710656 := by omega
          -- a new row
          have grow : ∀ (bs : Option Addr) (cap : Nat) (olds : List Value) (old : List Value), cap < sLen + n → VRs σ old olds →
              ((Builtin.firstCells i'.size sLen (.slice bs sLen cap)).run T.P w.drew = .ok olds.toArray w.drew) → old.length = sLen * i'.size → ∀ h1 : Hp, HR T σ h1 w.drew → h1.lo ≤ h1.n → Keep σ h w σ h1 w.drew →
              newSl h1 (old ++ new) elem false (sLen + n) (sLen + n) = some (nx, h') →
              Good T σ h w nx h' (do pure (.value (← Builtin.append_ #[st, t2] ty #[.slice bs sLen cap, u]))) := by
            intro bs cap olds old hcap hold hrun holdl h1 H1 hlo1 K1 e
            have hgr := run_append_grow_src (P := T.P) w st t2 ty elem i' z hu' hi' hzi bs sLen cap olds hrun u n news hsrc hcap (by omega) (hfit cap hcap)
            simp only [newSl, Option.some.injEq, Prod.mk.injEq] at e
            obtain ⟨rfl, rfl⟩ := e
            have hge := grownCap_ge w (sLen + n) cap elem
            generalize grownCap w (sLen + n) cap elem = gc at hgr hge
            obtain ⟨k1, k2⟩ := H1.new (.cells (old ++ new) elem false) (gc - (sLen + n)) (.cells ((olds ++ news).toArray ++ Builtin.zeroCells z.cells (gc - (sLen + n))) elem (0, 0)) ⟨_, rfl, fun k v hv => by
                obtain ⟨u', hu2, hvu⟩ := (VRs.append hold hnr).get hv
                refine ⟨u', ?_, hvu.mono (Ren.sub_up H1 _)⟩
                have hlt : k < (olds ++ news).length := (List.getElem?_eq_some_iff.1 hu2).1
                rw [Array.getElem?_append_left (by simpa using hlt)]
                simpa using hu2, fun hx => (by cases hx), fun _ => ⟨i', hi, by
                  simp only [Array.size_append, List.size_toArray, List.length_append, Builtin.zeroCells, Array.size_map, Array.size_range]
                  rw [hzs, hold.length, hnr.length]
                  omega⟩⟩ hlo1
            refine ⟨_, _, ⟨.slice (some ⟨w.heap.size, 0, none⟩) (sLen + n) gc, ?_, ?_⟩, k1, K1.trans k2⟩
            · simp only [Sem.run_bind, hgr, Result.andThen_ok, Sem.run_pure]; rfl
            · have := VR.slice (σ := σ.up h1.n (w.drew.heap.size, gc - (sLen + n))) (o := 0) (sLen + n) (sLen + n) (Ren.up_self σ h1.n (w.drew.heap.size, gc - (sLen + n)))
              have hgc : sLen + n + (gc - (sLen + n)) = gc := by omega
              rw [hgc] at this
              exact this
          have Kd : Keep σ h w σ h w.drew := ⟨.refl σ, Nat.le_refl _, rfl, fun _ _ => rfl, fun b y c x hb hy hs e => .inr ⟨b, y, x, hb, hy, hs, e⟩, Nat.le_refl _, fun _ _ _ => rfl, rfl, rfl, rfl, fun _ _ e _ => e, .refl _⟩
          split at e
          · replace e := cond_none e; obtain ⟨h0, e⟩ := e
            have h0 := Nat.eq_of_beq_eq_true h0
            cases hs
            refine grow none sCap [] [] hroom' .nil ?_ (by rw [h0]; simp) h H.drew hlo Kd e
            simp [Builtin.firstCells]
          · split at e
            · rename_i ad _ c el ex hbk
              split at e
              · rename_i old hold
                cases hs
                case slice =>
                  rename_i b cc xx o' hσ
                  have hcl : h.cells b = some c := by unfold Hp.cells; rw [hbk]
                  obtain ⟨us, r1, r2⟩ := cutCells_uni H hcl hσ hold
                  have hol : old.length = sLen * i'.size := (cut_eq hold).2.1
                  have g2 := H.blk _ _ _ _ hbk hσ
                  obtain ⟨arr, a1, a2, a3, a4⟩ := g2
                  have hrun : ∀ cap, (Builtin.firstCells i'.size sLen (.slice (some ⟨cc, o', none⟩) sLen cap)).run T.P w.drew = .ok us.toList.toArray w.drew := by
                    intro cap
                    simpa [Builtin.firstCells] using r1 w.drew rfl
                  cases hex : ex with
                  | true =>
                    rw [hex, cond_true] at e
                    have hxx := a3 hex
                    subst hxx
                    exact grow (some ⟨cc, o', none⟩) (sCap + 0) us.toList old (by omega) r2 (hrun _) hol h H.drew hlo Kd e
                  | false =>
                    rw [hex, cond_false] at e
                    replace e := cond_none e; obtain ⟨hq, e⟩ := e
                    simp only [Bool.and_eq_true] at hq
                    have q1 := Nat.eq_of_beq_eq_true hq.1.1.1
                    have q2 := Nat.eq_of_beq_eq_true hq.1.1.2
                    have q3 : sCap * i'.size = c.length := Nat.eq_of_beq_eq_true hq.1.2
                    have q4 := Nat.le_of_ble_eq_true hq.2
                    split at e
                    · rename_i h1 hput
                      have hsol : solid (.cells c el ex) = true := by cases c with | nil => simp at q4 | cons => rfl
                      have hel : el = elem := q1
                      have ho' : o' = 0 := q2
                      subst ho'
                      obtain ⟨p1, p2, p3, p4⟩ := Hp.put_spec hput
                      by_cases hin : sLen + n ≤ sCap + xx
                      · obtain ⟨i2, i2a, i2b⟩ := a4 hex
                        have : i2 = i' := by rw [hel, hi] at i2a; cases i2a; rfl
                        subst this
                        have hmul : (sLen + n) * i2.size ≤ arr.size := by
                          calc (sLen + n) * i2.size ≤ (sCap + xx) * i2.size := Nat.mul_le_mul_right _ hin
                            _ = c.length + xx * i2.size := by rw [Nat.add_mul, q3]
                            _ ≤ arr.size := i2b
                        have hnlen := hnr.length
                        obtain ⟨arr', t1, t2', t3⟩ := storeCells_run (P := T.P) news 0 w cc (sLen * i2.size) arr el a1 hok (.inr (by rw [← hnlen, hnl]; show sLen * i2.size + 0 + n * i2.size ≤ _; rw [Nat.add_zero, ← Nat.add_mul]; exact hmul))
                        have hcs : cc < w.heap.size := H.rng _ _ _ hσ
                        simp only [newSl, Option.some.injEq, Prod.mk.injEq] at e
                        obtain ⟨rfl, rfl⟩ := e
                        obtain ⟨k1, k2⟩ := H.killNew hbk hsol hσ hput (.cells (old ++ new) elem false) (sCap + xx - (sLen + n)) { w with heap := w.heap.setIfInBounds cc (.cells arr' el (0, 0)) } hlo (by simp)
                          (by intro c' hc'; simp only [Array.getElem?_setIfInBounds]; rw [if_neg (fun hh => hc' hh.symm)])
                          (by intro ob hob; rw [a1] at hob; cases hob; exact ⟨.cells arr' el (0, 0), by simp [hcs], by intro cs e f hh; cases hh; exact ⟨arr', rfl, t2'⟩⟩) ⟨rfl, rfl, rfl⟩
                          ⟨arr', by simp [hcs, hel], by
                            intro j v hv
                            have hs' := Ren.sub_up H (cc, sCap + xx - (sLen + n))
                            rw [t3 j]
                            simp only [Nat.add_zero]
                            by_cases hj : j < old.length
                            · rw [List.getElem?_append_left hj] at hv
                              rw [if_neg (by omega)]
                              obtain ⟨_, _, z3⟩ := cut_eq hold
                              rw [z3 j (by show j < sLen * i2.size; rw [← hol]; exact hj)] at hv
                              simp only [Nat.zero_add] at hv
                              obtain ⟨u', u1, u2⟩ := a2 _ _ hv
                              exact ⟨u', u1, u2.mono hs'⟩
                            · rw [List.getElem?_append_right (by omega)] at hv
                              have hjl : j - old.length < new.length := (List.getElem?_eq_some_iff.1 hv).1
                              rw [if_pos (by omega)]
                              obtain ⟨u', u1, u2⟩ := hnr.get hv
                              exact ⟨u', by rw [← hol]; exact u1, u2.mono hs'⟩, fun hx => (by cases hx), fun _ => ⟨i2, hi, by
                            rw [t2', List.length_append, hol, hnl]
                            show sLen * i2.size + n * i2.size + (sCap + xx - (sLen + n)) * i2.size ≤ _
                            rw [← Nat.add_mul, ← Nat.add_mul]
                            have : sLen + n + (sCap + xx - (sLen + n)) = sCap + xx := by omega
                            rw [this, Nat.add_mul, q3]; exact i2b⟩⟩
                        refine ⟨_, _, ⟨.slice (some ⟨cc, 0, none⟩) (sLen + n) (sCap + xx), ?_, ?_⟩, k1, k2⟩
                        · have := append_room_run (ty := ty) hu' hi' hsrc hin (ad := ⟨cc, 0, none⟩) (by rw [add_mk, Nat.zero_add]; exact t1)
                          simp [this]
                        · have hgc : sLen + n + (sCap + xx - (sLen + n)) = sCap + xx := by omega
                          have := VR.slice (σ := σ.up h.n (cc, sCap + xx - (sLen + n))) (o := 0) (sLen + n) (sLen + n) (Ren.up_self σ h.n (cc, sCap + xx - (sLen + n)))
                          rw [hgc] at this
                          rw [p2]; exact this
                      · obtain ⟨k1, k2⟩ := H.kill hbk hput
                        have Kd' : Keep σ h w σ h1 w.drew := k2.trans ⟨.refl σ, Nat.le_refl _, rfl, fun _ _ => rfl, fun b y c x hb hy hs e => .inr ⟨b, y, x, hb, hy, hs, e⟩, Nat.le_refl _, fun _ _ _ => rfl, rfl, rfl, rfl, fun _ _ e _ => e, .refl _⟩
                        exact grow (some ⟨cc, 0, none⟩) (sCap + xx) us.toList old (by omega) r2 (hrun _) hol h1 k1.drew (by rw [p2, p3]; exact hlo) Kd' e
                    · cases e
                case esl =>
                  rename_i b cc o1 o2 hσ
                  have hm0 : Nat.mul 0 i'.size = 0 := Nat.zero_mul _
                  rw [hm0] at hold
                  have hcl : h.cells b = some c := by unfold Hp.cells; rw [hbk]
                  obtain ⟨us, r1, r2⟩ := cutCells_uni (o := o2) (n := 0) (r := old) H hcl hσ (by rw [cut_zero] at hold ⊢; exact hold)
                  have hol : old.length = 0 := (cut_eq hold).2.1
                  have hrun : ∀ cap, (Builtin.firstCells i'.size 0 (.slice (some ⟨cc, o2, none⟩) 0 cap)).run T.P w.drew = .ok us.toList.toArray w.drew := by
                    intro cap
                    simpa [Builtin.firstCells] using r1 w.drew rfl
                  cases hex : ex with
                  | true =>
                    rw [hex, cond_true] at e
                    exact grow (some ⟨cc, o2, none⟩) 0 us.toList old (by omega) r2 (hrun _) (by rw [hol]; simp) h H.drew hlo Kd e
                  | false =>
                    rw [hex, cond_false] at e
                    replace e := cond_none e; obtain ⟨hq, e⟩ := e
                    simp only [Bool.and_eq_true] at hq
                    have q3 : Nat.mul 0 i'.size = c.length := Nat.eq_of_beq_eq_true hq.1.2
                    have q4 := Nat.le_of_ble_eq_true hq.2
                    omega
              · cases e
            · cases e
      · cases e
    · cases e
  · cases e
end Go.Clo

namespace Go.Clo
open Go

variable {T : Tb} {σ : Ren} {h h' : Hp} {w : World} {a : AF} {x : Act}

theorem cons_of_VRs {r : Value} {rest : List Value} {us : Array Value} (hr : VRs σ (r :: rest) us.toList) : ∃ u, us[0]? = some u ∧ VR σ r u ∧ VRs σ rest (us.extract 1 us.size).toList := by
  obtain ⟨l⟩ := us
  cases hr with
  | cons h1 h2 =>
    refine ⟨_, rfl, h1, ?_⟩
    simpa using h2

theorem invokeFn_spec (hT : TbOK T) (H : HR T σ h w) {fn fn' : Fn} {cap cap' : Array Value} {args : List Value} {us : Array Value} {nx : ANx} (e : invokeA T (.fn fn cap) args h = some (nx, h'))
    (hf : FnR σ fn fn') (hc : VRs σ cap.toList cap'.toList) (hr : VRs σ args us.toList) : Good T σ h w nx h' (invoke (.fn fn' cap') us) := by
  cases fn with
  | func f =>
    have : fn' = .func f := by cases fn' <;> simp_all [FnR]
    subst this
    exact callFn_spec hT H e (by simpa using VRs.append hr hc)
  | yield l =>
    cases fn' with
    | yield c =>
      obtain ⟨xx, hσ⟩ := hf
      simp only [invokeA, Option.some.injEq, Prod.mk.injEq] at e
      obtain ⟨rfl, rfl⟩ := e
      exact ⟨σ, w, ⟨c, xx, us, hσ, hr, rfl⟩, H, .refl _ _ _⟩
    | _ => cases hf
  | method name =>
    have : fn' = .method name := by cases fn' <;> simp_all [FnR]
    subst this
    simp only [invokeA] at e
    split at e
    · obtain ⟨u, h1, h2, h3⟩ := cons_of_VRs hr
      have := callM_spec hT H e h2 h3
      simpa [invoke, h1] using this
    · cases e
  | methodOf t name =>
    have : fn' = .methodOf t name := by cases fn' <;> simp_all [FnR]
    subst this
    simp only [invokeA] at e
    split at e
    · obtain ⟨u, h1, h2, h3⟩ := cons_of_VRs hr
      split at e
      · rename_i ms hu
        obtain ⟨σ', w', g1, g2, g3⟩ := callM_spec hT H e h2 h3
        refine ⟨σ', w', ?_, g2, g3⟩
        simpa [invoke, h1, run_underlying (hT.und _ _ hu)] using g1
      · rename_i d hni hu
        obtain ⟨σ', w', g1, g2, g3⟩ := callM_spec hT H e (.iface t h2) h3
        refine ⟨σ', w', ?_, g2, g3⟩
        have hd : ∀ ms, d ≠ .interface ms := fun ms hd => hni ms hd
        simp only [invoke, h1, Sem.run_bind, run_underlying (hT.und _ _ hu), Result.andThen_ok]
        cases d <;> simp_all
      · cases e
    · cases e
  | via t path f ptr =>
    have : fn' = .via t path f ptr := by cases fn' <;> simp_all [FnR]
    subst this
    simp only [invokeA] at e
    split at e
    · rename_i r rest d hpath hu
      replace e := cond_none e; obtain ⟨hp, e⟩ := e
      obtain ⟨u, h1, h2, h3⟩ := cons_of_VRs hr
      obtain ⟨σ', w', g1, g2, g3⟩ := callFn_spec hT H e (us := #[u] ++ us.extract 1 us.size) (by simpa using VRs.cons h2 (by simpa using h3))
      refine ⟨σ', w', ?_, g2, g3⟩
      simpa [invoke, h1, receiverVia, hpath, follow, plainRecv_run (hT.und _ _ hu) hp] using g1
    · cases e

theorem builtinA_spec (hT : TbOK T) (H : HR T σ h w) (hlo : h.lo ≤ h.n) {b : Builtin} {ats : Array TypeId} {ty : TypeId} {cs : Array Bool} {args : List Value} {us : Array Value} {nx : ANx}
    (e : builtinA T b ats.toList ty args h = some (nx, h')) (hr : VRs σ args us.toList) : Good T σ h w nx h' (builtin b ats ty cs us) := by
  obtain ⟨us⟩ := us
  obtain ⟨ats⟩ := ats
  simp only at hr e
  unfold builtinA at e
  split at e
  · cases hr with
    | cons h1 hr => cases hr with
      | cons h2 hr =>
        cases hr
        exact appendA_spec hT H hlo e h1 h2
  · cases hr with
    | cons h1 hr =>
      cases hr
      exact lenB_spec hT H e h1
  · cases hr
    simp only [Option.some.injEq, Prod.mk.injEq] at e
    obtain ⟨rfl, rfl⟩ := e
    exact ⟨σ, w, rfl, H, .refl _ _ _⟩
  · cases hr with
    | cons h1 hr => cases hr with
      | cons h2 hr =>
        cases hr
        exact copyA_spec hT H e h1 h2
  · cases hr with
    | cons h1 hr => cases hr with
      | cons h2 hr =>
        cases hr
        obtain ⟨v, rfl, w', q1, rfl, q2, q3⟩ := deleteA_spec hT H e h1 h2
        exact ⟨σ, w', ⟨.tuple #[], by simp only [builtin, Sem.run_bind]; rw [q1]; rfl, .tuple .nil⟩, q2, q3⟩
  · cases hr with
    | cons h1 hr =>
      cases hr
      exact clearA_spec hT H e h1
  · replace e := cond_none e; obtain ⟨hg, e⟩ := e
    rw [allB_eq] at hg
    have heq := VRs.sc_eq hr hg
    subst heq
    split at e
    · rename_i v hv
      replace e := cond_none e; obtain ⟨hgv, e⟩ := e
      have := pureRun_run T.P _ _ w hv
      refine good_v1 H e (u := v) ?_ (.of_sc hgv)
      simp [builtin, this]
    · cases e
  · replace e := cond_none e; obtain ⟨hg, e⟩ := e
    rw [allB_eq] at hg
    have heq := VRs.sc_eq hr hg
    subst heq
    split at e
    · rename_i v hv
      replace e := cond_none e; obtain ⟨hgv, e⟩ := e
      have := pureRun_run T.P _ _ w hv
      refine good_v1 H e (u := v) ?_ (.of_sc hgv)
      simp [builtin, this]
    · cases e
  · cases e

theorem evalL_arr (E : EvR σ a x) {l : Array Operand} {vs : List Value} (e : evalL a l.toList = some vs) : VRs σ vs (l.map x.eval).toList := by
  simpa using evalL_spec E e

theorem op_call (hT : TbOK T) (H : HR T σ h w) (hlo : h.lo ≤ h.n) (E : EvR σ a x) {o : Oper} {c : Call} {nx : ANx} (ho : o.op = .call c)
    (e : aop T a o h = some (nx, h')) : Good T σ h w nx h' (execOp x.eval o) := by
  simp only [aop, opPickA, opAllocA, opBoxA, opLoadA, opStoreA, opNilCheckA, opFieldAddrA, opFieldA, opIndexAddrA, opIndexA, opSliceA, opBuildA, opBuildSliceA, opMakeSliceA, opMakeMapA, opLookupA, opMapUpdateA, opRangeA, opNextA, opExtractA, opMakeInterfaceA, opMakeFuncA, opTypeAssertA, opCallA, opDeferA, opPanicA, opBinOpA, opConvertA, opUnOpA, ho] at e
  split at e
  · rename_i t args hres
    unfold resolveA at hres
    split at hres
    · rename_i args0 hargs
      have hra := evalL_arr E hargs
      split at hres
      · rename_i b hcb
        cases hres
        have hex : ∃ cs, execOp x.eval o = builtin b c.argTypes o.type cs (c.args.map x.eval) := by
          refine ⟨c.args.map (fun | .const _ => true | _ => false), ?_⟩
          simp only [execOp, ho, resolve, hcb]
          rfl
        obtain ⟨cs, hcs⟩ := hex
        rw [hcs]
        exact builtinA_spec hT H hlo e hra
      · rename_i recv name hcb
        split at hres
        · rename_i r hr
          cases hres
          have := invokeFn_spec hT H (fn' := .method name) (cap' := #[]) (us := #[x.eval recv] ++ c.args.map x.eval) e rfl .nil (by simpa using VRs.cons (E.eval hr) (by simpa using hra))
          simpa [execOp, ho, resolve, hcb] using this
        · cases hres
      · rename_i f hcb
        split at hres
        · rename_i fn first captured hr
          cases hres
          have hv := E.eval hr
          generalize hxf : x.eval f = cf at hv
          cases hv
          rename_i g l1 l2 l3 l4 hq1 hq2 hfr
          have := invokeFn_spec hT H (fn' := g) (cap' := ⟨l4⟩) (us := ⟨l2⟩ ++ c.args.map x.eval) e hfr (by simpa using hq2) (by simpa using VRs.append hq1 (by simpa using hra))
          simpa [execOp, ho, resolve, hcb, hxf, Deferred.ofValue] using this
        · cases hres
    · cases hres
  · cases e

theorem op_defer (H : HR T σ h w) (E : EvR σ a x) {o : Oper} {c : Call} {nx : ANx} (ho : o.op = .defer c)
    (e : aop T a o h = some (nx, h')) : Good T σ h w nx h' (execOp x.eval o) := by
  simp only [aop, opPickA, opAllocA, opBoxA, opLoadA, opStoreA, opNilCheckA, opFieldAddrA, opFieldA, opIndexAddrA, opIndexA, opSliceA, opBuildA, opBuildSliceA, opMakeSliceA, opMakeMapA, opLookupA, opMapUpdateA, opRangeA, opNextA, opExtractA, opMakeInterfaceA, opMakeFuncA, opTypeAssertA, opCallA, opDeferA, opPanicA, opBinOpA, opConvertA, opUnOpA, ho] at e
  split at e
  · rename_i fn cap args hres
    simp only [Option.some.injEq, Prod.mk.injEq] at e
    obtain ⟨rfl, rfl⟩ := e
    unfold resolveA at hres
    split at hres
    · rename_i args0 hargs
      have hra := evalL_arr E hargs
      split at hres
      · cases hres
      · rename_i recv name hcb
        split at hres
        · rename_i r hr
          cases hres
          refine ⟨σ, w, ⟨{ target := .fn (.method name) #[], args := #[x.eval recv] ++ c.args.map x.eval }, ?_, ⟨rfl, .nil⟩, by simpa using VRs.cons (E.eval hr) (by simpa using hra)⟩, H, .refl _ _ _⟩
          simp [execOp, ho, resolve, hcb]
        · cases hres
      · rename_i f hcb
        split at hres
        · rename_i fn first captured hr
          cases hres
          have hv := E.eval hr
          generalize hxf : x.eval f = cf at hv
          cases hv
          rename_i g l1 l2 l3 l4 hq1 hq2 hfr
          refine ⟨σ, w, ⟨{ target := .fn g ⟨l4⟩, args := ⟨l2⟩ ++ c.args.map x.eval }, ?_, ⟨hfr, by simpa using hq2⟩, by simpa using VRs.append hq1 (by simpa using hra)⟩, H, .refl _ _ _⟩
          simp [execOp, ho, resolve, hcb, hxf, Deferred.ofValue]
        · cases hres
    · cases hres
  · cases e

theorem aop_spec (hT : TbOK T) (hS : StrOK T) (H : HR T σ h w) (hlo : h.lo ≤ h.n) (E : EvR σ a x) {o : Oper} {nx : ANx}
    (e : aop T a o h = some (nx, h')) : Good T σ h w nx h' (execOp x.eval o) := by
  cases ho : o.op with
  | move y => exact op_move H E (by simpa [aop, ho] using e) (by simp [execOp, ho])
  | assign y => exact op_move H E (by simpa [aop, ho] using e) (by simp [execOp, ho])
  | pick c y z => exact op_pick H E ho e
  | alloc el => exact op_alloc hT H hlo ho e
  | box el y => exact op_box H hlo E ho e
  | build t ps => exact op_build hT hS H E ho e
  | buildSlice t len ps => exact op_buildSlice hT H hlo E ho e
  | load t y => exact op_load hT H E ho e
  | store t y z => exact op_store hT H E ho e
  | nilCheck y => exact op_nilCheck H E ho e
  | binOp op t y z t' => exact op_binOp hT H E ho e
  | unOp op t y => exact op_unOp H E ho e
  | convert s d y => exact op_convert hT H E ho e
  | makeInterface t y => exact op_makeInterface hT H E ho e
  | makeFunc fn f c => exact op_makeFunc H E ho e
  | makeMap t r => exact op_makeMap H hlo ho e
  | makeSlice t y z => exact op_makeSlice hT H hlo E ho e
  | slice t y lo hi mx => exact op_slice hT H hlo E ho e
  | fieldAddr s y f => exact op_fieldAddr hT H E ho e
  | field s y f => exact op_field hT H E ho e
  | indexAddr t y z => exact op_indexAddr hT H E ho e
  | index t y z => exact op_index hT H E ho e
  | lookup t y z ok => exact op_lookup hT H E ho e
  | mapUpdate t m y z => exact op_mapUpdate hT H E ho e
  | range t y => exact op_range hT H hlo E ho e
  | next y b => exact op_next H E ho e
  | typeAssert y xt t ok => exact op_typeAssert hT H E ho e
  | extract y i => exact op_extract H E ho e
  | call c => exact op_call hT H hlo E ho e
  | defer c => exact op_defer H E ho e
  | panic y => exact op_panic H E ho e
  | insert | ready | waits | sliceToArrayPointer | makeChan | mapEntry | entryStore | entry | go | send | recv | select => simp [aop, ho] at e
end Go.Clo

namespace Go.Clo
open Go

structure CX where
  tmps : Array Value
  defers : List Deferred
  um : Option FrameMode

def CX.act (x : CX) : Act := ⟨x.tmps, x.defers⟩
def CX.put (x : CX) (d : Option Tmp) (v : Value) : CX := match d with | some d => { x with tmps := x.tmps.setIfInBounds d v } | none => x

def fat (b : Frame) (x : CX) (todo : List Item) : Frame := { b with tmps := x.tmps, defers := x.defers, todo, mode := .run }
def upc (um : Option FrameMode) (cs : List Frame) : List Frame := match um, cs with | some m, c :: r => { c with mode := m } :: r | _, cs => cs
def M (b : Frame) (x : CX) (k : List Item) (cs : List Frame) (w : World) : Machine := lone (fat b x k) (upc x.um cs) w

section steps
variable {P : Program} {b : Frame} {x : CX} {k : List Item} {cs : List Frame} {w : World}

theorem fat_eval (o : Operand) : (fat b x k).eval o = x.act.eval o := by cases o <;> rfl

theorem s_skip : step P (M b x (.code .skip :: k) cs w) = .next (M b x k cs w) := step_lone_go (by simp [stepG, stepG.exec, fat])
theorem s_label {l : Nat} : step P (M b x (.code (.label l) :: k) cs w) = .next (M b x k cs w) := step_lone_go (by simp [stepG, stepG.exec, fat])
theorem s_inBlock {id : Nat} : step P (M b x (.inBlock id :: k) cs w) = .next (M b x k cs w) := step_lone_go (by simp [stepG, stepG.exec, fat])
theorem s_inScope {c : Code} : step P (M b x (.inScope c :: k) cs w) = .next (M b x k cs w) := step_lone_go (by simp [stepG, stepG.exec, fat])
theorem s_seq {c d : Code} : step P (M b x (.code (.seq c d) :: k) cs w) = .next (M b x (.code c :: .code d :: k) cs w) := step_lone_go (by simp [stepG, stepG.exec, fat])
theorem s_cond {o : Operand} {c d : Code} {t : Bool} (h : x.act.eval o = .bool t) : step P (M b x (.code (.cond o c d) :: k) cs w) = .next (M b x (.code (if t then c else d) :: k) cs w) :=
  step_lone_go (by
    have := fat_eval (b := b) (x := x) (k := .code (.cond o c d) :: k) o
    simp only [fat] at this
    simp [stepG, stepG.exec, fat, this, h])
theorem s_block {id : Nat} {c : Code} : step P (M b x (.code (.block id c) :: k) cs w) = .next (M b x (.code c :: .inBlock id :: k) cs w) := step_lone_go (by simp [stepG, stepG.exec, fat])
theorem s_loop {c : Code} : step P (M b x (.code (.loop c) :: k) cs w) = .next (M b x (.code c :: .inLoop c :: k) cs w) := step_lone_go (by simp [stepG, stepG.exec, fat])
theorem s_inLoop {c : Code} : step P (M b x (.inLoop c :: k) cs w) = .next (M b x (.code c :: .inLoop c :: k) cs w) := step_lone_go (by simp [stepG, stepG.exec, fat])
theorem s_scope {c : Code} : step P (M b x (.code (.scope c) :: k) cs w) = .next (M b x (.code c :: .inScope c :: k) cs w) := step_lone_go (by simp [stepG, stepG.exec, fat])
theorem s_exit {id : Nat} {k' : List Item} (h : exitTo id k = some k') : step P (M b x (.code (.exit id) :: k) cs w) = .next (M b x k' cs w) := step_lone_go (by simp [stepG, stepG.exec, fat, h])
theorem s_region {id : Nat} {ops : Array Oper} : step P (M b x (.code (.region id ops false) :: k) cs w) = .next (M b x (.inRegion ops (List.range ops.size) :: k) cs w) := step_lone_go (by simp [stepG, stepG.exec, fat])
theorem s_draw {id : Nat} {ops : Array Oper} : step P (M b x (.code (.region id ops true) :: k) cs w) =
    .next (M b x (.inRegion ops (Region.schedule (P.follows .mixedOrders) ops (w.tape w.drawn (.order b.fn id))) :: k) cs { w with drawn := w.drawn + 1 }) :=
  step_lone_go (by simp [stepG, stepG.exec, fat, choose, Sem.run, Question.forced, Question.cut])
theorem s_regionEnd {ops : Array Oper} : step P (M b x (.inRegion ops [] :: k) cs w) = .next (M b x k cs w) := step_lone_go (by simp [stepG, stepG.exec, fat])

theorem fat_finish {ops : Array Oper} {i : Nat} {rest : List Nat} {o : Oper} (ho : ops[i]? = some o) (v : Value) :
    (fat b x (.inRegion ops (i :: rest) :: k)).finish v = fat b (x.put o.dst v) (.inRegion ops rest :: k) := by
  obtain ⟨dst, op, ty, pos, after, gd⟩ := o
  cases dst <;> simp [Frame.finish, fat, CX.put, ho]

theorem s_opSkip {ops : Array Oper} {i : Nat} {rest : List Nat} {o : Oper} (ho : ops[i]? = some o) (hw : Region.wanted o (yielded ops x.tmps) = false) :
    step P (M b x (.inRegion ops (i :: rest) :: k) cs w) = .next (M b (x.put o.dst undef) (.inRegion ops rest :: k) cs w) := by
  have hu : (x.put o.dst undef).um = x.um := by unfold CX.put; split <;> rfl
  unfold M
  rw [hu, ← fat_finish (x := x) ho]
  exact step_lone_go (by
    simp only [fat] at *
    simp [stepG, stepG.exec, ho, hw])

/-- an operation that is no defer in a round comes to 'apply' -/
theorem g_op {ops : Array Oper} {i : Nat} {rest : List Nat} {o : Oper} (ho : ops[i]? = some o) (hw : Region.wanted o (yielded ops x.tmps) = true) (hd : b.roundOf = none ∨ ∀ c, o.op ≠ .defer c) {cs' : List Frame} :
    stepG P true { frame := fat b x (.inRegion ops (i :: rest) :: k), callers := cs', status := .running, dying := none } w =
      stepG.apply P true (fat b x (.inRegion ops (i :: rest) :: k)) cs' none (execOp x.act.eval o) w := by
  have he : (fat b x (.inRegion ops (i :: rest) :: k)).eval = x.act.eval := funext fun o => fat_eval o
  have hro : (fat b x (.inRegion ops (i :: rest) :: k)).roundOf = b.roundOf := rfl
  have : stepG P true { frame := fat b x (.inRegion ops (i :: rest) :: k), callers := cs', status := .running, dying := none } w = stepG.oper P true (fat b x (.inRegion ops (i :: rest) :: k)) cs' none w := by
    simp [stepG, stepG.exec, fat, ho, hw]
  rw [this]
  unfold stepG.oper
  have ho' : (fat b x (.inRegion ops (i :: rest) :: k)).oper? = some o := by simp [Frame.oper?, fat, ho]
  rw [ho']
  simp only [hro, he]
  rcases hd with hd | hd
  · rw [hd]
  · cases hr : b.roundOf with
    | none => rfl
    | some l =>
      split
      · exact absurd (by assumption) (hd _)
      · rfl

variable {ops : Array Oper} {i : Nat} {rest : List Nat} {o : Oper}

theorem s_value (ho : ops[i]? = some o) (hw : Region.wanted o (yielded ops x.tmps) = true) (hd : b.roundOf = none ∨ ∀ c, o.op ≠ .defer c) {v : Value} {w' : World}
    (hr : (execOp x.act.eval o).run P w = .ok (.value v) w') : step P (M b x (.inRegion ops (i :: rest) :: k) cs w) = .next (M b (x.put o.dst v) (.inRegion ops rest :: k) cs w') := by
  have hu : (x.put o.dst v).um = x.um := by unfold CX.put; split <;> rfl
  unfold M
  rw [hu, ← fat_finish (x := x) ho]
  exact step_lone_go (by rw [g_op ho hw hd]; simp [stepG.apply, hr])

theorem s_skipOp (ho : ops[i]? = some o) (hw : Region.wanted o (yielded ops x.tmps) = true) (hd : b.roundOf = none ∨ ∀ c, o.op ≠ .defer c) {w' : World}
    (hr : (execOp x.act.eval o).run P w = .ok .skip w') : step P (M b x (.inRegion ops (i :: rest) :: k) cs w) = .next (M b (x.put o.dst undef) (.inRegion ops rest :: k) cs w') := by
  have hu : (x.put o.dst undef).um = x.um := by unfold CX.put; split <;> rfl
  unfold M
  rw [hu, ← fat_finish (x := x) ho]
  exact step_lone_go (by rw [g_op ho hw hd]; simp [stepG.apply, hr])

theorem s_enter (ho : ops[i]? = some o) (hw : Region.wanted o (yielded ops x.tmps) = true) (hd : b.roundOf = none ∨ ∀ c, o.op ≠ .defer c) {f : FuncId} {args : Array Value} {w' : World}
    (hr : (execOp x.act.eval o).run P w = .ok (.enter f args) w') : step P (M b x (.inRegion ops (i :: rest) :: k) cs w) =
      .next (lone (Frame.enter P f args .normal) (fat b x (.inRegion ops (i :: rest) :: k) :: upc x.um cs) w') :=
  step_lone_go (by rw [g_op ho hw hd]; simp [stepG.apply, hr, fat])

theorem s_round (ho : ops[i]? = some o) (hw : Region.wanted o (yielded ops x.tmps) = true) (hd : b.roundOf = none ∨ ∀ c, o.op ≠ .defer c) {l : Nat} {f : FuncId} {tmps : Array Value} {as bd : Code} {w' : World}
    (hr : (execOp x.act.eval o).run P w = .ok (.round l f tmps as bd) w') : step P (M b x (.inRegion ops (i :: rest) :: k) cs w) =
      .next (lone (Frame.round l f tmps as bd .normal) (fat b x (.inRegion ops (i :: rest) :: k) :: upc x.um cs) w') :=
  step_lone_go (by rw [g_op ho hw hd]; simp [stepG.apply, hr])

theorem s_defer (ho : ops[i]? = some o) (hw : Region.wanted o (yielded ops x.tmps) = true) (hd : b.roundOf = none) {d : Deferred} {w' : World}
    (hr : (execOp x.act.eval o).run P w = .ok (.defer d) w') : step P (M b x (.inRegion ops (i :: rest) :: k) cs w) =
      .next (M b ({ x with defers := d :: x.defers }.put o.dst undef) (.inRegion ops rest :: k) cs w') := by
  have hu : ({ x with defers := d :: x.defers }.put o.dst undef).um = x.um := by unfold CX.put; split <;> rfl
  unfold M
  rw [hu, ← fat_finish (x := { x with defers := d :: x.defers }) ho]
  exact step_lone_go (by rw [g_op ho hw (.inl hd)]; simp [stepG.apply, hr, fat])

theorem s_panic (ho : ops[i]? = some o) (hw : Region.wanted o (yielded ops x.tmps) = true) (hd : b.roundOf = none ∨ ∀ c, o.op ≠ .defer c) {v : Value} {w' : World}
    (hr : (execOp x.act.eval o).run P w = .halt (.panic v) w') : step P (M b x (.inRegion ops (i :: rest) :: k) cs w) =
      .next (lone { fat b x (.inRegion ops (i :: rest) :: k) with mode := .panicking [{ v, recovered := false }] } (upc x.um cs) w') :=
  step_lone_go (by rw [g_op ho hw hd]; simp [stepG.apply, hr, Frame.raise, fat])

theorem s_recoverNone (ho : ops[i]? = some o) (hw : Region.wanted o (yielded ops x.tmps) = true) (hd : b.roundOf = none) {w' : World}
    (hr : (execOp x.act.eval o).run P w = .ok .recover w') (ht : tryRecover (fat b x (.inRegion ops (i :: rest) :: k)) (upc x.um cs) = none) :
    step P (M b x (.inRegion ops (i :: rest) :: k) cs w) = .next (M b (x.put o.dst .nilIface) (.inRegion ops rest :: k) cs w') := by
  have hu : (x.put o.dst .nilIface).um = x.um := by unfold CX.put; split <;> rfl
  unfold M
  rw [hu, ← fat_finish (x := x) ho]
  have hro : (fat b x (.inRegion ops (i :: rest) :: k)).roundOf = none := hd
  exact step_lone_go (by rw [g_op ho hw (.inl hd)]; simp [stepG.apply, hr, hro, ht])

theorem s_recoverSome (ho : ops[i]? = some o) (hw : Region.wanted o (yielded ops x.tmps) = true) (hd : b.roundOf = none) {w' : World} {v : Value} {cs' : List Frame}
    (hr : (execOp x.act.eval o).run P w = .ok .recover w') (ht : tryRecover (fat b x (.inRegion ops (i :: rest) :: k)) (upc x.um cs) = some (v, cs')) :
    step P (M b x (.inRegion ops (i :: rest) :: k) cs w) = .next (lone (fat b (x.put o.dst v) (.inRegion ops rest :: k)) cs' w') := by
  unfold M
  rw [← fat_finish (x := x) ho]
  have hro : (fat b x (.inRegion ops (i :: rest) :: k)).roundOf = none := hd
  exact step_lone_go (by rw [g_op ho hw (.inl hd)]; simp [stepG.apply, hr, hro, ht])
end steps
end Go.Clo
