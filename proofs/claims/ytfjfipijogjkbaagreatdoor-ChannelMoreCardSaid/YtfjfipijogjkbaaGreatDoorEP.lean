/- Walks of functions of layer 2 (contracts that the laws of this seat use). Conditions: as each theorem states them. -/
import Derived.Test.YtfjfipijogjkbaaGreatDoorEY
set_option linter.unusedVariables false
set_option linter.unusedSimpArgs false
namespace Go.Kn
open Go Go.Proofs Go.RowKit

/-- a list of classes as it lies in memory -/
def LstAt (W : World) (v : Value) (t : List Nat) : Prop :=
  (t = [] ∧ v = .slice none 0 0) ∨ ∃ g cap cur, v = .slice (some ⟨g, 0, none⟩) t.length cap ∧ W.heap[g]? = some (.cells cur 3 (0, 0)) ∧ ∀ i, i < t.length → cur[i]? = some (.int .i64 (t.getD i 0 : Nat))
theorem LstAt.kept {W W' : World} {v : Value} {t : List Nat} (h : LstAt W v t) (hb : ∀ (k : Nat) (cur : Array Value), W.heap[k]? = some (.cells cur 3 (0, 0)) → W'.heap[k]? = W.heap[k]?) : LstAt W' v t := by
  rcases h with h | ⟨g, cap, cur, h1, h2, h3⟩
  · exact .inl h
  · exact .inr ⟨g, cap, cur, h1, (hb g cur h2).trans h2, h3⟩
theorem LstAt.below {W W' : World} {v : Value} {t : List Nat} (h : LstAt W v t) (hb : Below W.heap.size W W') : LstAt W' v t := h.kept fun k _ hk => hb.block k (Array.getElem?_eq_some_iff.1 hk).1
theorem lstAt_of_owns {W : World} {base n : Nat} {v : Value} {t : List Nat} (h : W.ownsRow base 3 1 v n (t.map fun j => .int .i64 (j : Nat))) : LstAt W v t := by
  have hn : n = t.length := by have := h.1; simp at this; omega
  subst hn
  rcases h.2 with ⟨h1, h2⟩ | ⟨g, cap, cur, h1, h2, h3, h4, h5, h6, h7⟩
  · exact .inl ⟨List.length_eq_zero_iff.1 h2, h1⟩
  · refine .inr ⟨g, cap, cur, h1, h3, fun i hi => ?_⟩
    have e : (t.map fun j => Value.int .i64 (j : Nat))[i]? = some (.int .i64 (t.getD i 0 : Nat)) := by simp [List.getD, hi]
    rw [← h7, List.getElem?_take] at e
    split at e
    · simpa using e
    · cases e
theorem LstAt.num {W : World} {v : Value} {t : List Nat} (h : LstAt W v t) (ht : t ≠ []) : ∃ g cap, v = .slice (some ⟨g, 0, none⟩) t.length cap ∧ g < W.heap.size ∧ NumAt W g 0 t.length (fun i => ((t.getD i 0 : Nat) : Int)) := by
  rcases h with ⟨h, _⟩ | ⟨g, cap, cur, h1, h2, h3⟩
  · exact (ht h).elim
  · exact ⟨g, cap, h1, (Array.getElem?_eq_some_iff.1 h2).1, fun i hi => by simp [World.cell?, h2, h3 i hi]⟩

/-- a list of such lists -/
def LLAt (W : World) (base : Nat) (v : Value) (ts : List (List Nat)) : Prop :=
  ∃ vs : List Value, W.ownsRow base 22 1 v ts.length vs ∧ ∀ (i : Nat) (t : List Nat), ts[i]? = some t → ∃ u, vs[i]? = some u ∧ LstAt W u t
theorem LLAt.below {W W' : World} {base : Nat} {v : Value} {ts : List (List Nat)} (h : LLAt W base v ts) (hb : Below W.heap.size W W') : LLAt W' base v ts := by
  obtain ⟨vs, h1, h2⟩ := h
  refine ⟨vs, owns_below h1 hb, fun i t hi => ?_⟩
  obtain ⟨u, hu, hl⟩ := h2 i t hi
  exact ⟨u, hu, hl.below hb⟩
theorem LLAt.nil (W : World) (base : Nat) : LLAt W base (.slice none 0 0) [] := ⟨[], World.ownsRow_nil _ _ _ _, fun i t hi => by cases hi⟩
theorem LLAt.at {W : World} {base : Nat} {v : Value} {ts : List (List Nat)} (h : LLAt W base v ts) {i : Nat} {t : List Nat} (hi : ts[i]? = some t) : ∃ G cap u, v = .slice (some ⟨G, 0, none⟩) ts.length cap ∧ W.cell? ⟨G, i, none⟩ = some u ∧ LstAt W u t ∧ G < W.heap.size ∧ base ≤ G := by
  obtain ⟨vs, h1, h2⟩ := h
  obtain ⟨u, hu, hl⟩ := h2 i t hi
  have hlt := (List.getElem?_eq_some_iff.1 hi).1
  rcases h1.2 with ⟨_, h0⟩ | ⟨g, cap, cur, e1, e2, e3, e4, e5, e6, e7⟩
  · omega
  · refine ⟨g, cap, u, e1, ?_, hl, (Array.getElem?_eq_some_iff.1 e3).1, e2⟩
    rw [← e7, List.getElem?_take] at hu
    split at hu
    · simp only [Array.getElem?_toList] at hu
      simp [World.cell?, e3, hu]
    · cases hu
theorem LLAt.len {W : World} {base : Nat} {v : Value} {ts : List (List Nat)} (h : LLAt W base v ts) : ∃ a cap, v = .slice a ts.length cap := by
  obtain ⟨vs, h1, _⟩ := h
  rcases h1.2 with ⟨e, h0⟩ | ⟨g, cap, cur, e1, _⟩
  · exact ⟨none, 0, by rw [e, h0]⟩
  · exact ⟨_, _, e1⟩

theorem allC_len (kk : Nat) (hk : kk ≤ 4) : ∀ r, (allC kk r).length ≤ 4 ^ r := by
  intro r
  induction r with
  | zero => simp [allC]
  | succ r ih =>
    have : ∀ m, m ≤ kk → ((List.range m).flatMap fun j => (allC kk r).map (j :: ·)).length ≤ m * 4 ^ r := by
      intro m
      induction m with
      | zero => intro _; simp
      | succ m ihm =>
        intro h
        rw [List.range_succ, List.flatMap_append, List.length_append]
        have := ihm (by omega)
        simp only [List.flatMap_singleton, List.length_map]
        rw [Nat.succ_mul]
        omega
    simp only [allC]
    refine Nat.le_trans (this kk (Nat.le_refl _)) ?_
    rw [Nat.pow_succ, Nat.mul_comm]
    exact Nat.mul_le_mul_left _ hk

/-- what has been made when the first c classes, and the first i lists with the class c, are gone through -/
def madeC (ts : List (List Nat)) (c i : Nat) : List (List Nat) := ((List.range c).flatMap fun j => ts.map (j :: ·)) ++ (ts.take i).map (c :: ·)
theorem madeC_zero (ts : List (List Nat)) : madeC ts 0 0 = [] := by simp [madeC]
theorem madeC_next {ts : List (List Nat)} {c i : Nat} {t : List Nat} (h : ts[i]? = some t) : madeC ts c (i + 1) = madeC ts c i ++ [c :: t] := by
  unfold madeC
  rw [List.take_add_one, h]
  simp
theorem madeC_row (ts : List (List Nat)) (c : Nat) : madeC ts c ts.length = madeC ts (c + 1) 0 := by
  unfold madeC
  rw [List.take_length, List.range_succ, List.flatMap_append]
  simp
theorem madeC_len {ts : List (List Nat)} {c i : Nat} : (madeC ts c i).length ≤ (c + 1) * ts.length := by
  unfold madeC
  rw [List.length_append, List.length_map, List.length_take]
  have : ∀ m, ((List.range m).flatMap fun j => ts.map (j :: ·)).length = m * ts.length := by
    intro m
    induction m with
    | zero => simp
    | succ m ih => rw [List.range_succ, List.flatMap_append, List.length_append, ih]; simp [Nat.succ_mul]
  rw [this, Nat.succ_mul]
  have := Nat.min_le_right i ts.length
  omega

theorem info22' : (Tryz.prog.info? 22).map (fun i => (i.zero, i.size, i.bytes)) = some (some (.slice none 0 0), 1, 24) := by kernel_rfl
theorem run_append_nilx {P : Program} {w : World} (t ty e : TypeId) (i : TypeInfo) (ht : P.underlying t = some (.slice e)) (hi : P.info? e = some i) (a : Addr) (n c : Nat) (hc : n ≤ c) :
    (Builtin.append_ #[t, t] ty #[.slice (some a) n c, .slice none 0 0]).run P w = .ok (.slice (some a) n c) w := by
  simp [Builtin.append_, run_underlying ht, sizeOf, typeInfo, hi, Builtin.lenOf, Builtin.firstCells, loadCells, loadCellsFrom, hc, storeCells]

theorem LLAt.push {W w9 : World} {base : Nat} {v v9 u : Value} {ts : List (List Nat)} {t : List Nat} {vs : List Value} (h1 : W.ownsRow base 22 1 v ts.length vs) (h2 : ∀ (i : Nat) (t : List Nat), ts[i]? = some t → ∃ u, vs[i]? = some u ∧ LstAt W u t) (hl : LstAt W u t) {o : Obj}
    (hown : w9.ownsRow base 22 1 v9 (ts.length + 1) (vs ++ [u])) (hgrow : (W.alloc o).grownBy w9 v.ownBlock) : LLAt w9 base v9 (ts ++ [t]) := by
  have hk : ∀ (k : Nat) (cur : Array Value), W.heap[k]? = some (.cells cur 3 (0, 0)) → w9.heap[k]? = W.heap[k]? := fun k cur hk => by
    have hlt := (Array.getElem?_eq_some_iff.1 hk).1
    refine (hgrow.block k (by simp; omega) ?_).trans (Below.heap_alloc _ _ _ hlt)
    rcases h1.2 with ⟨e, _⟩ | ⟨g, cap, cur', e, _, e3, _⟩
    · rw [e]; simp [Value.ownBlock]
    · rw [e]
      intro e9
      obtain rfl : k = g := by simpa [Value.ownBlock] using e9
      rw [hk] at e3
      cases e3
  have hvl : vs.length = ts.length := by have := h1.1; simpa using this
  refine ⟨vs ++ [u], by rw [List.length_append]; exact hown, fun i t' hi => ?_⟩
  by_cases e : i < ts.length
  · rw [List.getElem?_append_left e] at hi
    obtain ⟨u', hu', hl'⟩ := h2 i t' hi
    exact ⟨u', by rw [List.getElem?_append_left (by omega)]; exact hu', hl'.kept hk⟩
  · have e2 : i = ts.length := by
      have := (List.getElem?_eq_some_iff.1 hi).1
      simp at this
      omega
    subst e2
    simp at hi
    subst hi
    exact ⟨u, by rw [← hvl]; simp, hl.kept hk⟩

theorem lies_one {W : World} {b : Nat} {x : Value} (h : W.cell? ⟨b, 0, none⟩ = some x) : ∀ (j : Nat) (u : Value), [x][j]? = some u → W.cell? ((⟨b, 0, none⟩ : Addr).add j) = some u := by
  intro j u hj
  match j, hj with
  | 0, hj => simp at hj; subst hj; exact h
theorem al_top1 {W : World} {n : Nat} (hn : W.heap.size = n) (x : Value) (T : TypeId) : (W.alloc (.cells #[x] T)).cell? ⟨n, 0, none⟩ = some x := by subst hn; simp

theorem listOne {W : World} (x : Nat) : (W.alloc (.cells #[.int .i64 (x : Nat)] 3)).ownsRow W.heap.size 3 1 (.slice (some ⟨W.heap.size, 0, none⟩) 1 1) 1 [.int .i64 (x : Nat)] := World.ownsRow_lit (e := 3) (size := 1) W #[.int .i64 (x : Nat)] 1 (Nat.le_refl _) (by decide) rfl

set_option maxRecDepth 100000 in
set_option maxHeartbeats 4000000 in
theorem choices_w (kk : Nat) (hkk : kk ≤ 4) : ∀ (r : Nat) (w : World), r ≤ 7 →
    Calls Tryz.prog 62 #[.int .i64 r, .int .i64 kk] w fun e w' => (∃ v, e = .returned v ∧ LLAt w' w.heap.size v (allC kk r)) ∧ Below w.heap.size w w' := by
  intro r
  induction r with
  | zero =>
    intro w _
    go_enter Tryz.func62, Tryz.ntmps62
    go_wp2
    go_ret
    refine ⟨⟨_, rfl, [.slice none 0 0], ?_, fun i t hi => ?_⟩, (Below.refl _ _).alloc (Nat.le_refl _) _⟩
    · exact World.ownsRow_lit (e := 22) (size := 1) w #[.slice none 0 0] 1 (Nat.le_refl _) (by decide) rfl
    · have : i = 0 := by have := (List.getElem?_eq_some_iff.1 hi).1; simp [allC] at this; omega
      subst this
      simp [allC] at hi
      subst hi
      exact ⟨_, rfl, .inl ⟨rfl, rfl⟩⟩
  | succ r ih =>
    intro w hr
    have IH := Lib.hid ih
    clear ih
    obtain ⟨i0, hi, hz0, hz1', hz2⟩ := info_parts info22'
    obtain ⟨i3, hi3, hy0, hy1, hy2⟩ := info_parts info3'
    have hr0 : (((r + 1 : Nat) : Int) == 0) = false := by simp; omega
    have hw1 : IntKind.i64.wrap ((r : Int)) = (r : Int) := IntWalk.i64_in _ (by omega)
    have hlen := allC_len kk hkk r
    have h47 : 4 ^ r ≤ 16384 := Nat.le_trans (Nat.pow_le_pow_right (by omega) (show r ≤ 7 by omega)) (by decide)
    have HLEN : Hid ((allC kk r).length ≤ 16384) := Lib.hid (Nat.le_trans hlen h47)
    clear hlen h47
    go_enter Tryz.func62, Tryz.ntmps62
    go_wp2_with (go_at_call 62; refine (IH.out _ (by omega)).mono ?_; rintro e w1 ⟨⟨v, rfl, hv⟩, hb1⟩; obtain ⟨va, vc, rfl⟩ := hv.len; have HV := Lib.hid hv; clear hv)
    obtain ⟨ts, hts⟩ : ∃ ts, allC kk r = ts := ⟨_, rfl⟩
    have HTS := Lib.hid hts
    rw [hts] at HLEN HV ⊢
    have hap : ∀ (w' : World) (b : Nat), (Builtin.append_ #[22, 22] 22 #[.slice (some ⟨b, 0, none⟩) 1 1, .slice none 0 0]).run Tryz.prog w' = .ok (.slice (some ⟨b, 0, none⟩) 1 1) w' := fun w' b => run_append_nilx 22 22 3 i3 Tryz.underlying22 hi3 _ _ _ (Nat.le_refl _)
    clear hts
    have hn16 := HLEN.out
    go_loopw [6, 7] (fun o c wr => ∃ k : Nat, k ≤ kk ∧ c = .int .i64 k ∧ LLAt wr w1.heap.size o (madeC ts k 0) ∧ Below w1.heap.size w1 wr) (fun _ c _ => kk - (intOf c).toNat)
    case atStart => exact ⟨0, Nat.zero_le _, rfl, by rw [madeC_zero]; exact LLAt.nil _ _, Below.refl _ _⟩
    case round =>
      obtain ⟨k, hk, rfl, hll, hbw⟩ := hrel
      by_cases hlt : k < kk
      · have HLL := Lib.hid hll
        have HBW := Lib.hid hbw
        clear hll hbw
        go_wp2
        go_loopw [6, 8] (fun o i wr => ∃ j : Nat, j ≤ ts.length ∧ i = .int .i64 j ∧ LLAt wr w1.heap.size o (madeC ts k j) ∧ Below w1.heap.size w1 wr) (fun _ i _ => ts.length - (intOf i).toNat)
        case atStart => exact ⟨0, Nat.zero_le _, rfl, HLL.out, HBW.out⟩
        case round =>
          clear HLL HBW
          obtain ⟨j, hj, rfl, hll, hbw⟩ := hrel
          have HBW := Lib.hid hbw
          clear hbw
          by_cases hjl : j < ts.length
          · obtain ⟨t, ht⟩ : ∃ t, ts[j]? = some t := ⟨_, List.getElem?_eq_getElem hjl⟩
            obtain ⟨G, gc, u, hve, y0, hlu, hG, _⟩ := (HV.out.below HBW.out).at ht
            cases hve
            obtain ⟨vs, h1, h2⟩ := hll
            have hml := madeC_len (ts := ts) (c := k) (i := j)
            have hb20 : (k + 1) * ts.length ≤ 4 * 16384 := Nat.mul_le_mul (by omega) hn16
            obtain ⟨ln, hln⟩ : ∃ ln, (madeC ts k j).length = ln := ⟨_, rfl⟩
            have hln2 : ln ≤ 65536 := by omega
            have HT := Lib.hid ht
            have HH1 := Lib.hid h1
            have HH1' := Lib.hid h1
            rw [hln] at HH1'
            have HH2 := Lib.hid h2
            have HLU := Lib.hid hlu
            clear ht h1 h2 hml hb20 hlu
            have n1 : (0 : Int) ≤ (j : Int) := by omega
            have n2 : (j : Int) < (ts.length : Int) := by omega
            have hG2 : ∀ o : Obj, (wr.alloc o).cell? ⟨G, j, none⟩ = some u := fun o => (World.cell?_alloc_lt wr o ⟨G, j, none⟩ hG).trans y0
            have A2 : Hid (∀ (W : World) (nv : Value), Below wr.heap.size wr W → (W.alloc (.cells #[nv] 22)).ownsRow w1.heap.size 22 1 u6 ln vs) := Lib.hid fun W nv hb => by rw [← hln]; exact owns_below HH1.out (hb.alloc hb.size _)
            have hz1 := HBW.out.size
            rcases HLU.out with ⟨rfl, rfl⟩ | ⟨g, gcap, cur, rfl, hg1, hg2⟩
            · go_wp2_with (at_builtin; refine wpList_append_own _ rfl _ _ 104 rfl w1.heap.size 22 i0 _ 1 24 Tryz.underlying104 hi hz0 hz1' hz2 rfl (by decide) _ ln vs rfl (A2.out _ _ ((Below.refl _ _).alloc (Nat.le_refl _) _)) ⟨_, 0, none⟩ 1 1 [.slice (some ⟨wr.heap.size, 0, none⟩) 1 1] rfl rfl (lies_one (al_top1 (by simp) _ _)) (by intro u hu; simp at hu; subst hu; rfl) (by unfold maxLen; omega) (by omega) (by simp; omega) ?_; intro v9 w9 hown9 hgrow9 _)
              have hb7 : Below wr.heap.size wr (wr.alloc (.cells #[.int .i64 (k : Nat)] 3)) := (Below.refl _ _).alloc (Nat.le_refl _) _
              have hl7 : LstAt (wr.alloc (.cells #[.int .i64 (k : Nat)] 3)) (.slice (some ⟨wr.heap.size, 0, none⟩) 1 1) [k] := lstAt_of_owns (base := wr.heap.size) (n := 1) (by simpa using listOne (W := wr) k)
              have hh1 : wr.ownsRow w1.heap.size 22 1 u6 (madeC ts k j).length vs := by rw [hln]; exact HH1'.out
              have hq := LLAt.push (owns_below hh1 hb7) (fun i t hi => by obtain ⟨u, h1, h2⟩ := HH2.out i t hi; exact ⟨u, h1, h2.below hb7⟩) hl7 (by rw [hln]; exact hown9) hgrow9
              rw [← madeC_next HT.out] at hq
              refine ⟨⟨j + 1, by omega, by go_num, hq, ((HBW.out.alloc hz1 _).alloc (by simp; omega) _).grown hgrow9 (by simp; omega) (fun r e => own_ge HH1'.out r e)⟩, by simp [intOf]; omega⟩
            · have htl : t.length = r := by
                have hm : t ∈ ts := List.mem_of_getElem? HT.out
                rw [← HTS.out] at hm
                exact (mem_allC.1 hm).1
              have HTL := Lib.hid htl
              have hg3 := (Array.getElem?_eq_some_iff.1 hg1).1
              have HNW : Hid (∀ (j : Nat) (u : Value), (t.map fun j => Value.int .i64 (j : Nat))[j]? = some u → (wr.alloc (.cells #[.int .i64 (k : Nat)] 3)).cell? ((⟨g, 0, none⟩ : Addr).add j) = some u) := Lib.hid fun j u hu => by
                have hjl : j < t.length := by
                  have := (List.getElem?_eq_some_iff.1 hu).1
                  simpa using this
                have e : u = .int .i64 (t.getD j 0 : Nat) := by simpa [List.getD, hjl] using hu.symm
                have ea : (⟨g, 0, none⟩ : Addr).add j = ⟨g, j, none⟩ := by
                  unfold Addr.add
                  split
                  · rename_i h; subst h; rfl
                  · simp
                rw [ea, e]
                exact (World.cell?_alloc_lt wr _ ⟨g, j, none⟩ hg3).trans (by simp [World.cell?, hg1, hg2 j hjl])
              have htl2 : t.length ≤ 7 := by omega
              clear hg1 hg2 htl
              go_wp2_with (first
                | (at_builtin; refine wpList_append_own _ rfl _ _ 22 rfl wr.heap.size 3 i3 _ 1 8 Tryz.underlying22 hi3 hy0 hy1 hy2 rfl (by decide) (.slice (some ⟨wr.heap.size, 0, none⟩) 1 1) 1 [.int .i64 (k : Nat)] rfl (listOne k) ⟨g, 0, none⟩ t.length gcap (t.map fun j => Value.int .i64 (j : Nat)) rfl (by simp) HNW.out (by intro u hu; simp at hu; obtain ⟨x, _, rfl⟩ := hu; rfl) (by unfold maxLen; omega) (by omega) (by simp) ?_; intro v7 w7 hown7 hgrow7 _; rw [Nat.add_comm] at hown7; obtain ⟨g7, c7, rfl⟩ := ownsRow_succ hown7; have hb7 := (((Below.refl wr.heap.size wr).alloc (Nat.le_refl _) (.cells #[.int .i64 (k : Nat)] 3)).grown hgrow7 (by simp) (fun r e => by simp [Value.ownBlock] at e; omega)); have HB7 := Lib.hid hb7; have hz7 := hb7.size; have HO7 := Lib.hid hown7; clear hown7 hgrow7 hb7)
                | (at_builtin; refine wpList_append_own _ rfl _ _ 104 rfl w1.heap.size 22 i0 _ 1 24 Tryz.underlying104 hi hz0 hz1' hz2 rfl (by decide) _ ln vs rfl (A2.out _ _ HB7.out) ⟨_, 0, none⟩ 1 1 [.slice (some ⟨g7, 0, none⟩) (t.length + 1) c7] rfl rfl (lies_one (al_top1 rfl _ _)) (by intro u hu; simp at hu; subst hu; rfl) (by unfold maxLen; omega) (by omega) (by simp; omega) ?_; intro v9 w9 hown9 hgrow9 _))
              have hb7 := HB7.out
              have hl7 : LstAt w7 (.slice (some ⟨g7, 0, none⟩) (t.length + 1) c7) (k :: t) := lstAt_of_owns HO7.out
              have hh1 : wr.ownsRow w1.heap.size 22 1 u6 (madeC ts k j).length vs := by rw [hln]; exact HH1'.out
              have hq := LLAt.push (owns_below hh1 hb7) (fun i t hi => by obtain ⟨u, h1, h2⟩ := HH2.out i t hi; exact ⟨u, h1, h2.below hb7⟩) hl7 (by rw [hln]; exact hown9) hgrow9
              rw [← madeC_next HT.out] at hq
              refine ⟨⟨j + 1, by omega, by go_num, hq, ((HBW.out.trans (hb7.mono hz1)).alloc (by omega) _).grown hgrow9 (by simp; omega) (fun r e => own_ge HH1'.out r e)⟩, by simp [intOf]; omega⟩
          · obtain rfl : j = ts.length := by omega
            have HLL := Lib.hid hll
            clear hll
            go_wp2
            go_roundw
            case rel => exact ⟨k + 1, by omega, by go_num, by rw [← madeC_row]; exact HLL.out, HBW.out⟩
            case measure => simp [intOf]; omega
      · obtain rfl : k = kk := by omega
        have HLL := Lib.hid hll
        clear hll
        go_wp2
        go_ret
        refine ⟨⟨_, rfl, ?_⟩, hb1.trans (hbw.mono hb1.size)⟩
        have h9 : allC k (r + 1) = madeC ts k 0 := by rw [← HTS.out]; simp [allC, madeC]
        rw [h9]
        obtain ⟨vs, h1, h2⟩ := HLL.out
        exact ⟨vs, own_base h1 hb1.size, h2⟩
end Go.Kn

namespace Go.Kn
open Go Go.Proofs Go.RowKit

/-- the first k lists that suffice, with their prices -/
def sufTo (ok : List Nat → Bool) (pr : List Nat → Int) (ts : List (List Nat)) (k : Nat) : List (List Nat × Int) := ((ts.take k).filter ok).map fun t => (t, pr t)
theorem sufTo_zero (ok : List Nat → Bool) (pr : List Nat → Int) (ts : List (List Nat)) : sufTo ok pr ts 0 = [] := by simp [sufTo]
theorem sufTo_no {ok : List Nat → Bool} {pr : List Nat → Int} {ts : List (List Nat)} {k : Nat} {t : List Nat} (h : ts[k]? = some t) (ho : ok t = false) : sufTo ok pr ts (k + 1) = sufTo ok pr ts k := by
  unfold sufTo
  rw [List.take_add_one, h]
  simp [ho]
theorem sufTo_yes {ok : List Nat → Bool} {pr : List Nat → Int} {ts : List (List Nat)} {k : Nat} {t : List Nat} (h : ts[k]? = some t) (ho : ok t = true) : sufTo ok pr ts (k + 1) = sufTo ok pr ts k ++ [(t, pr t)] := by
  unfold sufTo
  rw [List.take_add_one, h]
  simp [ho]
theorem sufTo_all (kk r : Nat) (il ih : Int) (p : Nat → Sp2) (l : Nat → Int) (c : Nat → Cl3) : sufTo (okV il ih p l c) (priceT l (cPr c) 0) (allC kk r) (allC kk r).length = sufL kk (cBu c (prOf il ih p)) l (cSt c) (cPr c) r := by
  unfold sufTo
  rw [List.take_length, sufL_eq]
  rfl
theorem choP_of {lk ll : Nat} {t : List Nat} (h : t ∈ allC lk ll) : t.length = ll ∧ ChoP lk ll ll (fun i => ((t.getD i 0 : Nat) : Int)) ∧ chL (fun i => ((t.getD i 0 : Nat) : Int)) ll = t := by
  obtain ⟨h1, h2⟩ := mem_allC.1 h
  refine ⟨h1, ⟨rfl, fun i hi => ?_⟩, by rw [← h1]; exact chL_self t⟩
  have h8 : t.getD i 0 ∈ t := by
    have hi' : i < t.length := by omega
    simp [List.getD, List.getElem?_eq_getElem hi']
  have := h2 _ h8
  simp only [fromB, decide_eq_true_eq]
  omega

set_option maxRecDepth 100000 in
set_option maxHeartbeats 4000000 in
theorem rpipes_w (il ih : Int) (C P cp A O ll cl : Nat) (p : Nat → Sp2) (l : Nat → Int) (C2 P2 lk ck : Nat) (c : Nat → Cl3) (w : World) (H : Hid (SipAt w C P (ll + 1) A O ll il ih p l)) (hC2 : C2 < w.heap.size) (HC : Hid (ClAt w C2 P2 lk c)) (HK : Hid (ClsP lk c)) :
    Calls Tryz.prog 24 #[.agg #[.int .i64 il, .int .i64 ih, .slice (some ⟨C, P, none⟩) (ll + 1) cp, .slice (some ⟨A, O, none⟩) ll cl], .slice (some ⟨C2, P2, none⟩) lk ck] w
      fun e w' => Below w.heap.size w w' ∧ ((cheap (sufL lk (cBu c (prOf il ih p)) l (cSt c) (cPr c) ll) = none ∧ e = .returned (.tuple #[.slice none 0 0, .bool false])) ∨
        ∃ y g cap, cheap (sufL lk (cBu c (prOf il ih p)) l (cSt c) (cPr c) ll) = some y ∧ e = .returned (.tuple #[.slice (some ⟨g, 0, none⟩) ll cap, .bool true]) ∧ g < w'.heap.size ∧ NumAt w' g 0 ll (fun i => ((y.1.getD i 0 : Nat) : Int))) := by
  have BX := Lib.hid (fun (w1 : World) (hb : Below (w.alloc (.cells #[.int .i64 il, .int .i64 ih, .slice (some ⟨C, P, none⟩) (ll + 1) cp, .slice (some ⟨A, O, none⟩) ll cl] 40)).heap.size (w.alloc (.cells #[.int .i64 il, .int .i64 ih, .slice (some ⟨C, P, none⟩) (ll + 1) cp, .slice (some ⟨A, O, none⟩) ll cl] 40)) w1) => bcell4 hb)
  have HL : Hid (∀ w1, Below (w.alloc (.cells #[.int .i64 il, .int .i64 ih, .slice (some ⟨C, P, none⟩) (ll + 1) cp, .slice (some ⟨A, O, none⟩) ll cl] 40)).heap.size (w.alloc (.cells #[.int .i64 il, .int .i64 ih, .slice (some ⟨C, P, none⟩) (ll + 1) cp, .slice (some ⟨A, O, none⟩) ll cl] 40)) w1 → SipAt w1 C P (ll + 1) A O ll il ih p l ∧ ClAt w1 C2 P2 lk c ∧ C2 < w1.heap.size) := Lib.hid fun w1 h => ⟨H.out.below (below_al h), HC.out.below hC2 (below_al h), Nat.lt_of_lt_of_le hC2 (below_al h).size⟩
  have q1 := H.out.lp1
  have q2 := H.out.lp2
  have k1 := HK.out.n1
  have k2 := HK.out.n2
  have hlen := allC_len lk k2 ll
  have h47 : 4 ^ ll ≤ 16384 := Nat.le_trans (Nat.pow_le_pow_right (by omega) (show ll ≤ 7 by omega)) (by decide)
  obtain ⟨ts, hts⟩ : ∃ ts, allC lk ll = ts := ⟨_, rfl⟩
  have hm : ∀ t ∈ ts, t.length = ll ∧ ChoP lk ll ll (fun i => ((t.getD i 0 : Nat) : Int)) ∧ chL (fun i => ((t.getD i 0 : Nat) : Int)) ll = t := fun t h => choP_of (hts ▸ h)
  have hn16 : ts.length ≤ 16384 := hts ▸ Nat.le_trans hlen h47
  have HALL := Lib.hid (sufTo_all lk ll il ih p l c)
  rw [hts] at HALL
  have HM := Lib.hid hm
  have HTS := Lib.hid hts
  clear hm hlen h47 hts
  go_enter Tryz.func24, Tryz.ntmps24
  go_wp2_with (go_at_call 62; refine (choices_w lk k2 ll _ (by omega)).mono ?_; rw [HTS.out]; rintro e w1 ⟨⟨v, rfl, hv⟩, hb1⟩; obtain ⟨va, vc, rfl⟩ := hv.len; have HV := Lib.hid hv; have HB1 := Lib.hid hb1; clear hv hb1)
  obtain ⟨pr, hpr⟩ : ∃ pr : List Nat → Int, pr = priceT l (cPr c) 0 := ⟨_, rfl⟩
  obtain ⟨ok, hok⟩ : ∃ ok : List Nat → Bool, ok = okV il ih p l c := ⟨_, rfl⟩
  rw [← hpr, ← hok] at HALL
  have HPR := Lib.hid hpr
  have HOK := Lib.hid hok
  clear hpr hok
  have hbs := HB1.out.size
  go_loopw [7, 8] (fun v i wr => ∃ k : Nat, k ≤ ts.length ∧ i = .int .i64 k ∧ Below w1.heap.size w1 wr ∧ ((v = .int .i64 (-1) ∧ cheap (sufTo ok pr ts k) = none) ∨ ∃ (j : Nat) (t : List Nat), j < k ∧ ts[j]? = some t ∧ v = .int .i64 (j : Nat) ∧ cheap (sufTo ok pr ts k) = some (t, pr t))) (fun _ i _ => ts.length - (intOf i).toNat)
  case atStart => exact ⟨0, Nat.zero_le _, rfl, Below.refl _ _, .inl ⟨rfl, by rw [sufTo_zero]; rfl⟩⟩
  case round =>
    obtain ⟨k, hk, rfl, hbw, hat⟩ := hrel
    have HBW := Lib.hid hbw
    have HFB := Lib.hid (HB1.out.trans (hbw.mono hbs))
    clear hbw
    by_cases hlt : k < ts.length
    · obtain ⟨t, ht⟩ : ∃ t, ts[k]? = some t := ⟨_, List.getElem?_eq_getElem hlt⟩
      obtain ⟨hl1, hl2, hl3⟩ := HM.out t (List.mem_of_getElem? ht)
      obtain ⟨G, gc, u, hve, y0, hlu, hG, _⟩ := (HV.out.below HBW.out).at ht
      cases hve
      obtain ⟨g, gcap, rfl, hg, hnum⟩ := hlu.num (by intro h; subst h; simp at hl1; omega)
      rw [hl1] at hnum y0
      have FT : Hid (∀ w', Below wr.heap.size wr w' → Calls Tryz.prog 27 #[.agg #[.int .i64 il, .int .i64 ih, .slice (some ⟨C, P, none⟩) (ll + 1) cp, .slice (some ⟨A, O, none⟩) ll cl], .slice (some ⟨C2, P2, none⟩) lk ck, .slice (some ⟨g, 0, none⟩) ll gcap] w' fun e w2 => e = .returned (.bool (ok t)) ∧ Below w'.heap.size w' w2) := Lib.hid fun w' h => by
        have hh := HFB.out.trans (h.mono HFB.out.size)
        have := rsuff_w il ih C P cp A O ll cl p l C2 P2 lk ck c g 0 gcap (fun i => ((t.getD i 0 : Nat) : Int)) w' (Lib.hid (HL.out _ hh).1) (HL.out _ hh).2.2 (Lib.hid (HL.out _ hh).2.1) HK (Nat.lt_of_lt_of_le hg h.size) (Lib.hid (hnum.below hg h)) (Lib.hid hl2)
        rw [hl3, ← HOK.out] at this
        exact this
      have FP : Hid (∀ w', Below wr.heap.size wr w' → Calls Tryz.prog 26 #[.agg #[.int .i64 il, .int .i64 ih, .slice (some ⟨C, P, none⟩) (ll + 1) cp, .slice (some ⟨A, O, none⟩) ll cl], .slice (some ⟨C2, P2, none⟩) lk ck, .slice (some ⟨g, 0, none⟩) ll gcap] w' fun e w2 => e = .returned (.int .i64 (pr t)) ∧ Below w'.heap.size w' w2) := Lib.hid fun w' h => by
        have hh := HFB.out.trans (h.mono HFB.out.size)
        have := rprice_w il ih C P cp A O ll cl p l C2 P2 lk ck c g 0 gcap (fun i => ((t.getD i 0 : Nat) : Int)) w' (Lib.hid (HL.out _ hh).1) (HL.out _ hh).2.2 (Lib.hid (HL.out _ hh).2.1) HK (Nat.lt_of_lt_of_le hg h.size) (Lib.hid (hnum.below hg h)) (Lib.hid hl2)
        rw [hl3, ← HPR.out] at this
        exact this
      have FY : Hid (∀ w', Below wr.heap.size wr w' → (w'.cell? ⟨w.heap.size, 0, none⟩ = some (.int .i64 il) ∧ w'.cell? ⟨w.heap.size, 1, none⟩ = some (.int .i64 ih) ∧ w'.cell? ⟨w.heap.size, 2, none⟩ = some (.slice (some ⟨C, P, none⟩) (ll + 1) cp) ∧ w'.cell? ⟨w.heap.size, 3, none⟩ = some (.slice (some ⟨A, O, none⟩) ll cl)) ∧ w'.cell? ⟨G, k, none⟩ = some (.slice (some ⟨g, 0, none⟩) ll gcap)) := Lib.hid fun w' h => by
        obtain ⟨z0, z1, z2, z3, z4⟩ := BX.out _ (HFB.out.trans (h.mono HFB.out.size))
        exact ⟨⟨z0, z1, z2, z3⟩, (h.cell (p := ⟨G, k, none⟩) hG).trans y0⟩
      have HT := Lib.hid ht
      have n1 : (0 : Int) ≤ (k : Int) := by omega
      have n2 : (k : Int) < (ts.length : Int) := by omega
      clear hl1 hl2 hl3 hnum y0 hlu ht
      cases hot : ok t with
      | false =>
        have HOT := Lib.hid hot
        have HST := Lib.hid (sufTo_no (pr := pr) HT.out hot)
        have HAT := Lib.hid hat
        clear hot hat
        go_wp2
        refine wp_region_calm (W := wr) (by kernel_rfl) (by kernel_rfl) (Below.refl _ _) ?_
        repeat (first
          | (refine calm_no (by rfl) ?_
             (try simp only [Act.put, List.setIfInBounds_toArray, List.set_cons_zero, List.set_cons_succ]))
          | (apply calm_yes
             focus rfl
             focus
               intro w' hw'
               obtain ⟨⟨z0, z1, z2, z3⟩, y0⟩ := FY.out w' hw'
               go_simp
               first
                 | done
                 | with_reducible rfl
                 | (go_at_call 27; refine (FT.out w' hw').mono ?_; rw [HOT.out]; rintro e w8 ⟨rfl, hb8⟩; exact ⟨rfl, hw'.trans (hb8.mono hw'.size)⟩)
                 | fail
             (try simp only [Act.put, List.setIfInBounds_toArray, List.set_cons_zero, List.set_cons_succ])))
        refine calm_nil ?_
        intro w20 hb20
        have HB20 := Lib.hid hb20
        clear hb20
        go_wp2
        go_roundw
        case rel => exact ⟨k + 1, by omega, by go_num, HBW.out.trans (HB20.out.mono HBW.out.size), by
          rw [HST.out]
          rcases HAT.out with h | ⟨j, t', h1, h2⟩
          · exact .inl h
          · exact .inr ⟨j, t', by omega, h2⟩⟩
        case measure => simp [intOf]; omega
      | true =>
        have HOT := Lib.hid hot
        have HST := Lib.hid (sufTo_yes (pr := pr) HT.out hot)
        clear hot
        obtain ⟨x, hx⟩ : ∃ x, pr t = x := ⟨_, rfl⟩
        have HPT := Lib.hid hx
        clear hx
        rcases hat with ⟨rfl, hch⟩ | ⟨j, t2, hj, ht2, rfl, hch⟩
        · have HCH := Lib.hid hch
          clear hch
          have hneg : ((-1 : Int) < 0) = True := by simp
          go_wp2
          refine wp_region_calm (W := wr) (by kernel_rfl) (by kernel_rfl) (Below.refl _ _) ?_
          repeat (first
            | (refine calm_no (by rfl) ?_
               (try simp only [Act.put, List.setIfInBounds_toArray, List.set_cons_zero, List.set_cons_succ]))
            | (apply calm_yes
               focus rfl
               focus
                 intro w' hw'
                 obtain ⟨⟨z0, z1, z2, z3⟩, y0⟩ := FY.out w' hw'
                 go_simp
                 first
                   | done
                   | with_reducible rfl
                   | (go_at_call 27; refine (FT.out w' hw').mono ?_; rw [HOT.out]; rintro e w8 ⟨rfl, hb8⟩; exact ⟨rfl, hw'.trans (hb8.mono hw'.size)⟩)
                   | fail
               (try simp only [Act.put, List.setIfInBounds_toArray, List.set_cons_zero, List.set_cons_succ])))
          refine calm_nil ?_
          intro w20 hb20
          have HB20 := Lib.hid hb20
          clear hb20
          go_wp2
          go_roundw
          case rel => exact ⟨k + 1, by omega, by go_num, HBW.out.trans (HB20.out.mono HBW.out.size), by
            rw [HST.out]
            exact .inr ⟨k, t, by omega, HT.out, rfl, cheap_snoc_none _ HCH.out⟩⟩
          case measure => simp [intOf]; omega
        · have HCH := Lib.hid hch
          have HT2 := Lib.hid ht2
          obtain ⟨hl1, hl2, hl3⟩ := HM.out t2 (List.mem_of_getElem? ht2)
          obtain ⟨G2, gc2, u2, hve2, y02, hlu2, hG2, _⟩ := (HV.out.below HBW.out).at ht2
          cases hve2
          obtain ⟨g2, gcap2, rfl, hg2, hnum2⟩ := hlu2.num (by intro h; subst h; simp at hl1; omega)
          rw [hl1] at hnum2 y02
          have FP2 : Hid (∀ w', Below wr.heap.size wr w' → Calls Tryz.prog 26 #[.agg #[.int .i64 il, .int .i64 ih, .slice (some ⟨C, P, none⟩) (ll + 1) cp, .slice (some ⟨A, O, none⟩) ll cl], .slice (some ⟨C2, P2, none⟩) lk ck, .slice (some ⟨g2, 0, none⟩) ll gcap2] w' fun e w2 => e = .returned (.int .i64 (pr t2)) ∧ Below w'.heap.size w' w2) := Lib.hid fun w' h => by
            have hh := HFB.out.trans (h.mono HFB.out.size)
            have := rprice_w il ih C P cp A O ll cl p l C2 P2 lk ck c g2 0 gcap2 (fun i => ((t2.getD i 0 : Nat) : Int)) w' (Lib.hid (HL.out _ hh).1) (HL.out _ hh).2.2 (Lib.hid (HL.out _ hh).2.1) HK (Nat.lt_of_lt_of_le hg2 h.size) (Lib.hid (hnum2.below hg2 h)) (Lib.hid hl2)
            rw [hl3, ← HPR.out] at this
            exact this
          have FY2 : Hid (∀ w', Below wr.heap.size wr w' → (w'.cell? ⟨w.heap.size, 0, none⟩ = some (.int .i64 il) ∧ w'.cell? ⟨w.heap.size, 1, none⟩ = some (.int .i64 ih) ∧ w'.cell? ⟨w.heap.size, 2, none⟩ = some (.slice (some ⟨C, P, none⟩) (ll + 1) cp) ∧ w'.cell? ⟨w.heap.size, 3, none⟩ = some (.slice (some ⟨A, O, none⟩) ll cl)) ∧ w'.cell? ⟨G, k, none⟩ = some (.slice (some ⟨g, 0, none⟩) ll gcap) ∧ w'.cell? ⟨G, j, none⟩ = some (.slice (some ⟨g2, 0, none⟩) ll gcap2)) := Lib.hid fun w' h => ⟨(FY.out w' h).1, (FY.out w' h).2, (h.cell (p := ⟨G, j, none⟩) hG).trans y02⟩
          obtain ⟨x2, hx2⟩ : ∃ x2, pr t2 = x2 := ⟨_, rfl⟩
          have HPT2 := Lib.hid hx2
          have hneg : ¬ ((j : Int) < 0) := by omega
          have n3 : (0 : Int) ≤ (j : Int) := by omega
          have n4 : (j : Int) < (ts.length : Int) := by omega
          have HJ := Lib.hid hj
          clear hch ht2 hl1 hl2 hl3 hnum2 y02 hlu2 hx2
          by_cases hlx : x < x2
          · have hd : decide (x < x2) = true := decide_eq_true hlx
            go_wp2
            refine wp_region_calm (W := wr) (by kernel_rfl) (by kernel_rfl) (Below.refl _ _) ?_
            repeat (first
              | (refine calm_no (by rfl) ?_
                 (try simp only [Act.put, List.setIfInBounds_toArray, List.set_cons_zero, List.set_cons_succ]))
              | (apply calm_yes
                 focus rfl
                 focus
                   intro w' hw'
                   obtain ⟨⟨z0, z1, z2, z3⟩, y0, y02⟩ := FY2.out w' hw'
                   go_simp
                   first
                     | done
                     | with_reducible rfl
                     | (go_at_call 27; refine (FT.out w' hw').mono ?_; rw [HOT.out]; rintro e w8 ⟨rfl, hb8⟩; exact ⟨rfl, hw'.trans (hb8.mono hw'.size)⟩)
                     | (go_at_call_of 26 (some (Addr.mk g 0 none)); refine (FP.out w' hw').mono ?_; rw [HPT.out]; rintro e w8 ⟨rfl, hb8⟩; exact ⟨rfl, hw'.trans (hb8.mono hw'.size)⟩)
                     | (go_at_call_of 26 (some (Addr.mk g2 0 none)); refine (FP2.out w' hw').mono ?_; rw [HPT2.out]; rintro e w8 ⟨rfl, hb8⟩; exact ⟨rfl, hw'.trans (hb8.mono hw'.size)⟩)
                     | fail
                 (try simp only [Act.put, List.setIfInBounds_toArray, List.set_cons_zero, List.set_cons_succ])))
            refine calm_nil ?_
            intro w20 hb20
            have HB20 := Lib.hid hb20
            clear hb20
            go_wp2
            go_roundw
            case rel => exact ⟨k + 1, by omega, by go_num, HBW.out.trans (HB20.out.mono HBW.out.size), by
              rw [HST.out]
              exact .inr ⟨k, t, by omega, HT.out, rfl, by rw [cheap_snoc_some _ HCH.out]; simp only [HPT.out, HPT2.out]; rw [if_pos hlx]⟩⟩
            case measure => simp [intOf]; omega
          · have hd : decide (x < x2) = false := decide_eq_false hlx
            go_wp2
            refine wp_region_calm (W := wr) (by kernel_rfl) (by kernel_rfl) (Below.refl _ _) ?_
            repeat (first
              | (refine calm_no (by rfl) ?_
                 (try simp only [Act.put, List.setIfInBounds_toArray, List.set_cons_zero, List.set_cons_succ]))
              | (apply calm_yes
                 focus rfl
                 focus
                   intro w' hw'
                   obtain ⟨⟨z0, z1, z2, z3⟩, y0, y02⟩ := FY2.out w' hw'
                   go_simp
                   first
                     | done
                     | with_reducible rfl
                     | (go_at_call 27; refine (FT.out w' hw').mono ?_; rw [HOT.out]; rintro e w8 ⟨rfl, hb8⟩; exact ⟨rfl, hw'.trans (hb8.mono hw'.size)⟩)
                     | (go_at_call_of 26 (some (Addr.mk g 0 none)); refine (FP.out w' hw').mono ?_; rw [HPT.out]; rintro e w8 ⟨rfl, hb8⟩; exact ⟨rfl, hw'.trans (hb8.mono hw'.size)⟩)
                     | (go_at_call_of 26 (some (Addr.mk g2 0 none)); refine (FP2.out w' hw').mono ?_; rw [HPT2.out]; rintro e w8 ⟨rfl, hb8⟩; exact ⟨rfl, hw'.trans (hb8.mono hw'.size)⟩)
                     | fail
                 (try simp only [Act.put, List.setIfInBounds_toArray, List.set_cons_zero, List.set_cons_succ])))
            refine calm_nil ?_
            intro w20 hb20
            have HB20 := Lib.hid hb20
            clear hb20
            go_wp2
            go_roundw
            case rel => exact ⟨k + 1, by omega, by go_num, HBW.out.trans (HB20.out.mono HBW.out.size), by
              rw [HST.out]
              exact .inr ⟨j, t2, by omega, HT2.out, rfl, by rw [cheap_snoc_some _ HCH.out]; simp only [HPT.out, HPT2.out]; rw [if_neg (by omega)]⟩⟩
            case measure => simp [intOf]; omega
    · obtain rfl : k = ts.length := by omega
      rw [HALL.out] at hat
      rcases hat with ⟨rfl, hch⟩ | ⟨j, t2, hj, ht2, rfl, hch⟩
      · have hneg : ((-1 : Int) < 0) = True := by simp
        go_wp2
        refine bodyPost_ret (v := .tuple #[.slice none 0 0, .bool false]) (by simp [results, Tryz.results24, go_sem]) rfl ?_
        exact ⟨below_al HFB.out, .inl ⟨hch, rfl⟩⟩
      · obtain ⟨hl1, _, _⟩ := HM.out t2 (List.mem_of_getElem? ht2)
        obtain ⟨G2, gc2, u2, hve2, y02, hlu2, hG2, _⟩ := (HV.out.below HBW.out).at ht2
        cases hve2
        obtain ⟨g2, gcap2, rfl, hg2, hnum2⟩ := hlu2.num (by intro h; subst h; simp at hl1; omega)
        rw [hl1] at hnum2 y02
        have hneg : ¬ ((j : Int) < 0) := by omega
        have n3 : (0 : Int) ≤ (j : Int) := by omega
        have n4 : (j : Int) < (ts.length : Int) := by omega
        have HCH := Lib.hid hch
        have HNU := Lib.hid hnum2
        clear hch hnum2 hlu2
        go_wp2
        refine bodyPost_ret (v := .tuple #[.slice (some ⟨g2, 0, none⟩) ll gcap2, .bool true]) (by simp [results, Tryz.results24, go_sem]) rfl ?_
        exact ⟨below_al HFB.out, .inr ⟨t2, ⟨_, HCH.out⟩, g2, ⟨gcap2, rfl⟩, hg2, HNU.out⟩⟩
end Go.Kn

namespace Go.Kn
open Go Go.Proofs Go.RowKit

set_option maxRecDepth 100000 in
set_option maxHeartbeats 2000000 in
theorem ppipes_f1 (il ih : Int) (pa la ka : Option Addr) (lp cp ll cl lk ck : Nat) (p : Nat → Sp2) (l : Nat → Int) (c : Nat → Cl3) (w : World) (hlp : lp ≤ 1000000) (hll : ll ≤ 1000000) (hlk : lk ≤ 1000000) (H : Hid (AnySip w pa la lp ll p l)) (HC : Hid (ClSl w ka lk c)) (HR : Hid (¬ SipP il ih lp ll p l)) :
    Calls Tryz.prog 22 #[.agg #[.int .i64 il, .int .i64 ih, .slice pa lp cp, .slice la ll cl], .slice ka lk ck] w
      fun e w' => e = .returned (.tuple #[.slice none 0 0, .int .i64 0, .int .i64 2]) ∧ Below w.heap.size w w' := by
  have BX := Lib.hid (fun (w1 : World) (hb : Below (w.alloc (.cells #[.int .i64 il, .int .i64 ih, .slice pa lp cp, .slice la ll cl] 40)).heap.size (w.alloc (.cells #[.int .i64 il, .int .i64 ih, .slice pa lp cp, .slice la ll cl] 40)) w1) => bcell4 hb)
  have HL : Hid (∀ w1, Below (w.alloc (.cells #[.int .i64 il, .int .i64 ih, .slice pa lp cp, .slice la ll cl] 40)).heap.size (w.alloc (.cells #[.int .i64 il, .int .i64 ih, .slice pa lp cp, .slice la ll cl] 40)) w1 → AnySip w1 pa la lp ll p l ∧ ClSl w1 ka lk c) := Lib.hid fun w1 h => ⟨H.out.below (below_al h), HC.out.below (below_al h)⟩
  go_enter Tryz.func22, Tryz.ntmps22
  go_wp2_with (first
    | (go_at_call 54; refine (isSip_f _ _ hlp hll (HL.out _ (Below.refl _ _)).1 HR.out).mono ?_; rintro e w1 ⟨rfl, hb1⟩; obtain ⟨x0, x1, x2, x3, x4⟩ := BX.out _ hb1))
  refine bodyPost_ret (v := .tuple #[.slice none 0 0, .int .i64 0, .int .i64 2]) (by simp [results, Tryz.results22, go_sem]) rfl ?_
  exact ⟨rfl, below_al hb1⟩

set_option maxRecDepth 100000 in
set_option maxHeartbeats 2000000 in
theorem ppipes_f2 (il ih : Int) (pa la ka : Option Addr) (lp cp ll cl lk ck : Nat) (p : Nat → Sp2) (l : Nat → Int) (c : Nat → Cl3) (w : World) (hlp : lp ≤ 1000000) (hll : ll ≤ 1000000) (hlk : lk ≤ 1000000) (H : Hid (AnySip w pa la lp ll p l)) (HC : Hid (ClSl w ka lk c)) (HR : Hid (SipP il ih lp ll p l)) (HK : Hid (¬ ClsP lk c)) :
    Calls Tryz.prog 22 #[.agg #[.int .i64 il, .int .i64 ih, .slice pa lp cp, .slice la ll cl], .slice ka lk ck] w
      fun e w' => e = .returned (.tuple #[.slice none 0 0, .int .i64 0, .int .i64 2]) ∧ Below w.heap.size w w' := by
  have BX := Lib.hid (fun (w1 : World) (hb : Below (w.alloc (.cells #[.int .i64 il, .int .i64 ih, .slice pa lp cp, .slice la ll cl] 40)).heap.size (w.alloc (.cells #[.int .i64 il, .int .i64 ih, .slice pa lp cp, .slice la ll cl] 40)) w1) => bcell4 hb)
  have HL : Hid (∀ w1, Below (w.alloc (.cells #[.int .i64 il, .int .i64 ih, .slice pa lp cp, .slice la ll cl] 40)).heap.size (w.alloc (.cells #[.int .i64 il, .int .i64 ih, .slice pa lp cp, .slice la ll cl] 40)) w1 → AnySip w1 pa la lp ll p l ∧ ClSl w1 ka lk c) := Lib.hid fun w1 h => ⟨H.out.below (below_al h), HC.out.below (below_al h)⟩
  go_enter Tryz.func22, Tryz.ntmps22
  go_wp2_with (first
    | (go_at_call 54; refine (isSiphon_w il ih _ _ lp _ ll _ p l _ hlp hll (Lib.hid (HL.out _ (Below.refl _ _)).1)).mono ?_; rintro e w1 ⟨⟨rb, rfl, hrb⟩, hb1⟩; obtain rfl : rb = true := hrb.2 HR.out; clear hrb; obtain ⟨x0, x1, x2, x3, x4⟩ := BX.out _ hb1)
    | (go_at_call 55; refine (areCl_w _ _ _ c _ hlk (Lib.hid (HL.out _ hb1).2)).mono ?_; rintro e w2 ⟨⟨rb, rfl, hrb⟩, hb2⟩; obtain rfl : rb = false := (by cases rb <;> first | rfl | exact (HK.out (hrb.1 rfl)).elim); clear hrb))
  refine bodyPost_ret (v := .tuple #[.slice none 0 0, .int .i64 0, .int .i64 2]) (by simp [results, Tryz.results22, go_sem]) rfl ?_
  exact ⟨rfl, below_al (hb1.trans (hb2.mono hb1.size))⟩

theorem rpipes_none (il ih : Int) (C P cp A O ll cl : Nat) (p : Nat → Sp2) (l : Nat → Int) (C2 P2 lk ck : Nat) (c : Nat → Cl3) (w : World) (H : Hid (SipAt w C P (ll + 1) A O ll il ih p l)) (hC2 : C2 < w.heap.size) (HC : Hid (ClAt w C2 P2 lk c)) (HK : Hid (ClsP lk c)) (HCH : Hid (cheap (sufL lk (cBu c (prOf il ih p)) l (cSt c) (cPr c) ll) = none)) :
    Calls Tryz.prog 24 #[.agg #[.int .i64 il, .int .i64 ih, .slice (some ⟨C, P, none⟩) (ll + 1) cp, .slice (some ⟨A, O, none⟩) ll cl], .slice (some ⟨C2, P2, none⟩) lk ck] w
      fun e w' => e = .returned (.tuple #[.slice none 0 0, .bool false]) ∧ Below w.heap.size w w' :=
  (rpipes_w il ih C P cp A O ll cl p l C2 P2 lk ck c w H hC2 HC HK).mono (by
    rintro e w' ⟨hb, (⟨_, rfl⟩ | ⟨y, g, cap, h, _⟩)⟩
    · exact ⟨rfl, hb⟩
    · rw [HCH.out] at h; cases h)
theorem rpipes_some (il ih : Int) (C P cp A O ll cl : Nat) (p : Nat → Sp2) (l : Nat → Int) (C2 P2 lk ck : Nat) (c : Nat → Cl3) (y : List Nat × Int) (w : World) (H : Hid (SipAt w C P (ll + 1) A O ll il ih p l)) (hC2 : C2 < w.heap.size) (HC : Hid (ClAt w C2 P2 lk c)) (HK : Hid (ClsP lk c)) (HCH : Hid (cheap (sufL lk (cBu c (prOf il ih p)) l (cSt c) (cPr c) ll) = some y)) :
    Calls Tryz.prog 24 #[.agg #[.int .i64 il, .int .i64 ih, .slice (some ⟨C, P, none⟩) (ll + 1) cp, .slice (some ⟨A, O, none⟩) ll cl], .slice (some ⟨C2, P2, none⟩) lk ck] w
      fun e w' => (∃ g cap, e = .returned (.tuple #[.slice (some ⟨g, 0, none⟩) ll cap, .bool true]) ∧ g < w'.heap.size ∧ NumAt w' g 0 ll (fun i => ((y.1.getD i 0 : Nat) : Int))) ∧ Below w.heap.size w w' :=
  (rpipes_w il ih C P cp A O ll cl p l C2 P2 lk ck c w H hC2 HC HK).mono (by
    rintro e w' ⟨hb, (⟨h, _⟩ | ⟨y', g, cap, h, he, hg, hn⟩)⟩
    · rw [HCH.out] at h; cases h
    · rw [HCH.out] at h
      cases h
      exact ⟨⟨g, cap, he, hg, hn⟩, hb⟩)

set_option maxRecDepth 100000 in
set_option maxHeartbeats 4000000 in
theorem lawpi_a (il ih : Int) (pa la ka : Option Addr) (lp cp ll cl lk ck : Nat) (p : Nat → Sp2) (l : Nat → Int) (c : Nat → Cl3) (w : World) (hlp : lp ≤ maxLen) (hll : ll ≤ maxLen) (hlk : lk ≤ maxLen) (H : Hid (AnySip w pa la lp ll p l)) (HC : Hid (ClSl w ka lk c)) (K : Hid KnownOk')
    (hq : ¬ (lp ≤ 10 ∧ ll ≤ 10 ∧ lk ≤ 6)) :
    Calls Tryz.prog 5 #[.agg #[.int .i64 il, .int .i64 ih, .slice pa lp cp, .slice la ll cl], .slice ka lk ck] w
      fun e w' => e = .returned (.bool true) ∧ Below w.heap.size w w' := by
  have BX := Lib.hid (fun (w1 : World) (hb : Below (w.alloc (.cells #[.int .i64 il, .int .i64 ih, .slice pa lp cp, .slice la ll cl] 40)).heap.size (w.alloc (.cells #[.int .i64 il, .int .i64 ih, .slice pa lp cp, .slice la ll cl] 40)) w1) => bcell4 hb)
  have HL : Hid (∀ w1, Below (w.alloc (.cells #[.int .i64 il, .int .i64 ih, .slice pa lp cp, .slice la ll cl] 40)).heap.size (w.alloc (.cells #[.int .i64 il, .int .i64 ih, .slice pa lp cp, .slice la ll cl] 40)) w1 → AnySip w1 pa la lp ll p l ∧ ClSl w1 ka lk c) := Lib.hid fun w1 h => ⟨H.out.below (below_al h), HC.out.below (below_al h)⟩
  have hsh : decide (lp ≤ 10 ∧ ll ≤ 10 ∧ lk ≤ 6) = false := decide_eq_false hq
  go_enter Tryz.func5, Tryz.ntmps5
  go_wp2_with (first
    | (go_at_call 16; refine (slim_w _ _ _ _ _ _ _ _ _ _ _ _ hlp hll hlk).mono ?_; rw [hsh]; rintro e w1 ⟨rfl, hb1⟩; obtain ⟨x0, x1, x2, x3, x4⟩ := BX.out _ hb1)
    | (go_at_call 9; refine (K.out _).mono ?_; rintro e w11 ⟨rfl, hb11⟩))
  go_ret
  exact ⟨rfl, below_al (hb1.trans (hb11.mono hb1.size))⟩

set_option maxRecDepth 100000 in
set_option maxHeartbeats 4000000 in
theorem lawpi_b1 (il ih : Int) (pa la ka : Option Addr) (lp cp ll cl lk ck : Nat) (p : Nat → Sp2) (l : Nat → Int) (c : Nat → Cl3) (w : World) (hlp : lp ≤ maxLen) (hll : ll ≤ maxLen) (hlk : lk ≤ maxLen) (H : Hid (AnySip w pa la lp ll p l)) (HC : Hid (ClSl w ka lk c)) (K : Hid KnownOk')
    (hq : lp ≤ 10 ∧ ll ≤ 10 ∧ lk ≤ 6) (HR : Hid (¬ SipP il ih lp ll p l)) :
    Calls Tryz.prog 5 #[.agg #[.int .i64 il, .int .i64 ih, .slice pa lp cp, .slice la ll cl], .slice ka lk ck] w
      fun e w' => e = .returned (.bool true) ∧ Below w.heap.size w w' := by
  have BX := Lib.hid (fun (w1 : World) (hb : Below (w.alloc (.cells #[.int .i64 il, .int .i64 ih, .slice pa lp cp, .slice la ll cl] 40)).heap.size (w.alloc (.cells #[.int .i64 il, .int .i64 ih, .slice pa lp cp, .slice la ll cl] 40)) w1) => bcell4 hb)
  have HL : Hid (∀ w1, Below (w.alloc (.cells #[.int .i64 il, .int .i64 ih, .slice pa lp cp, .slice la ll cl] 40)).heap.size (w.alloc (.cells #[.int .i64 il, .int .i64 ih, .slice pa lp cp, .slice la ll cl] 40)) w1 → AnySip w1 pa la lp ll p l ∧ ClSl w1 ka lk c) := Lib.hid fun w1 h => ⟨H.out.below (below_al h), HC.out.below (below_al h)⟩
  have hsh : decide (lp ≤ 10 ∧ ll ≤ 10 ∧ lk ≤ 6) = true := decide_eq_true hq
  obtain ⟨hq1, hq2, hq3⟩ := hq
  go_enter Tryz.func5, Tryz.ntmps5
  go_wp2_with (first
    | (go_at_call 16; refine (slim_w _ _ _ _ _ _ _ _ _ _ _ _ hlp hll hlk).mono ?_; rw [hsh]; rintro e w1 ⟨rfl, hb1⟩; obtain ⟨x0, x1, x2, x3, x4⟩ := BX.out _ hb1)
    | (go_at_call 22; refine (ppipes_f1 _ _ _ _ _ _ _ _ _ _ _ p l c _ (by omega) (by omega) (by omega) (Lib.hid (HL.out _ hb1).1) (Lib.hid (HL.out _ hb1).2) HR).mono ?_; rintro e w5 ⟨rfl, hb5⟩; have chb5 := hb1.trans (hb5.mono hb1.size); clear x0 x1 x2 x3 x4; obtain ⟨x0, x1, x2, x3, x4⟩ := BX.out _ chb5)
    | (go_at_call 17; refine (rsiph_w _ _ _ _ _ _ _ _ p l _ (by omega) (by omega) (Lib.hid (HL.out _ chb5).1)).mono ?_; rintro e w2 ⟨⟨rb, rfl, hrb⟩, hb2⟩; obtain rfl : rb = false := (by cases rb <;> first | rfl | exact (HR.out (hrb.1 rfl)).elim); clear hrb; have chb2 := chb5.trans (hb2.mono chb5.size); clear x0 x1 x2 x3 x4; obtain ⟨x0, x1, x2, x3, x4⟩ := BX.out _ chb2)
    | (go_at_call 9; refine (K.out _).mono ?_; rintro e w11 ⟨rfl, hb11⟩))
  go_ret
  exact ⟨rfl, below_al (chb2.trans (hb11.mono chb2.size))⟩

set_option maxRecDepth 100000 in
set_option maxHeartbeats 4000000 in
theorem lawpi_b2 (il ih : Int) (pa la ka : Option Addr) (lp cp ll cl lk ck : Nat) (p : Nat → Sp2) (l : Nat → Int) (c : Nat → Cl3) (w : World) (hlp : lp ≤ maxLen) (hll : ll ≤ maxLen) (hlk : lk ≤ maxLen) (H : Hid (AnySip w pa la lp ll p l)) (HC : Hid (ClSl w ka lk c)) (K : Hid KnownOk')
    (hq : lp ≤ 10 ∧ ll ≤ 10 ∧ lk ≤ 6) (HR : Hid (SipP il ih lp ll p l)) (HK : Hid (¬ ClsP lk c)) :
    Calls Tryz.prog 5 #[.agg #[.int .i64 il, .int .i64 ih, .slice pa lp cp, .slice la ll cl], .slice ka lk ck] w
      fun e w' => e = .returned (.bool true) ∧ Below w.heap.size w w' := by
  have BX := Lib.hid (fun (w1 : World) (hb : Below (w.alloc (.cells #[.int .i64 il, .int .i64 ih, .slice pa lp cp, .slice la ll cl] 40)).heap.size (w.alloc (.cells #[.int .i64 il, .int .i64 ih, .slice pa lp cp, .slice la ll cl] 40)) w1) => bcell4 hb)
  have HL : Hid (∀ w1, Below (w.alloc (.cells #[.int .i64 il, .int .i64 ih, .slice pa lp cp, .slice la ll cl] 40)).heap.size (w.alloc (.cells #[.int .i64 il, .int .i64 ih, .slice pa lp cp, .slice la ll cl] 40)) w1 → AnySip w1 pa la lp ll p l ∧ ClSl w1 ka lk c) := Lib.hid fun w1 h => ⟨H.out.below (below_al h), HC.out.below (below_al h)⟩
  have hsh : decide (lp ≤ 10 ∧ ll ≤ 10 ∧ lk ≤ 6) = true := decide_eq_true hq
  obtain ⟨hq1, hq2, hq3⟩ := hq
  go_enter Tryz.func5, Tryz.ntmps5
  go_wp2_with (first
    | (go_at_call 16; refine (slim_w _ _ _ _ _ _ _ _ _ _ _ _ hlp hll hlk).mono ?_; rw [hsh]; rintro e w1 ⟨rfl, hb1⟩; obtain ⟨x0, x1, x2, x3, x4⟩ := BX.out _ hb1)
    | (go_at_call 22; refine (ppipes_f2 _ _ _ _ _ _ _ _ _ _ _ p l c _ (by omega) (by omega) (by omega) (Lib.hid (HL.out _ hb1).1) (Lib.hid (HL.out _ hb1).2) HR HK).mono ?_; rintro e w5 ⟨rfl, hb5⟩; have chb5 := hb1.trans (hb5.mono hb1.size); clear x0 x1 x2 x3 x4; obtain ⟨x0, x1, x2, x3, x4⟩ := BX.out _ chb5)
    | (go_at_call 17; refine (rsiph_w _ _ _ _ _ _ _ _ p l _ (by omega) (by omega) (Lib.hid (HL.out _ chb5).1)).mono ?_; rintro e w2 ⟨⟨rb, rfl, hrb⟩, hb2⟩; obtain rfl : rb = true := hrb.2 HR.out; clear hrb; have chb2 := chb5.trans (hb2.mono chb5.size); clear x0 x1 x2 x3 x4; obtain ⟨x0, x1, x2, x3, x4⟩ := BX.out _ chb2)
    | (go_at_call 18; refine (rcls_w _ _ _ c _ (by omega) (Lib.hid (HL.out _ chb2).2)).mono ?_; rintro e w3 ⟨⟨rb, rfl, hrb⟩, rfl⟩; obtain rfl : rb = false := (by cases rb <;> first | rfl | exact (HK.out (hrb.1 rfl)).elim); clear hrb)
    | (go_at_call 9; refine (K.out _).mono ?_; rintro e w11 ⟨rfl, hb11⟩))
  go_ret
  exact ⟨rfl, below_al (chb2.trans (hb11.mono chb2.size))⟩

set_option maxRecDepth 100000 in
set_option maxHeartbeats 4000000 in
theorem lawpi_d0 (il ih : Int) (C P cp A O ll cl : Nat) (p : Nat → Sp2) (l : Nat → Int) (C2 P2 lk ck : Nat) (c : Nat → Cl3) (w : World) (H : Hid (SipAt w C P (ll + 1) A O ll il ih p l)) (hC2 : C2 < w.heap.size) (HC : Hid (ClAt w C2 P2 lk c)) (HK : Hid (ClsP lk c)) (K : Hid KnownOk') (HCH : Hid (cheap (sufL lk (cBu c (prOf il ih p)) l (cSt c) (cPr c) ll) = none)) :
    Calls Tryz.prog 5 #[.agg #[.int .i64 il, .int .i64 ih, .slice (some ⟨C, P, none⟩) (ll + 1) cp, .slice (some ⟨A, O, none⟩) ll cl], .slice (some ⟨C2, P2, none⟩) lk ck] w
      fun e w' => e = .returned (.bool true) ∧ Below w.heap.size w w' := by
  have BX := Lib.hid (fun (w1 : World) (hb : Below (w.alloc (.cells #[.int .i64 il, .int .i64 ih, .slice (some ⟨C, P, none⟩) (ll + 1) cp, .slice (some ⟨A, O, none⟩) ll cl] 40)).heap.size (w.alloc (.cells #[.int .i64 il, .int .i64 ih, .slice (some ⟨C, P, none⟩) (ll + 1) cp, .slice (some ⟨A, O, none⟩) ll cl] 40)) w1) => bcell4 hb)
  have HL : Hid (∀ w1, Below (w.alloc (.cells #[.int .i64 il, .int .i64 ih, .slice (some ⟨C, P, none⟩) (ll + 1) cp, .slice (some ⟨A, O, none⟩) ll cl] 40)).heap.size (w.alloc (.cells #[.int .i64 il, .int .i64 ih, .slice (some ⟨C, P, none⟩) (ll + 1) cp, .slice (some ⟨A, O, none⟩) ll cl] 40)) w1 → SipAt w1 C P (ll + 1) A O ll il ih p l ∧ ClAt w1 C2 P2 lk c ∧ True ∧ C2 < w1.heap.size) := Lib.hid fun w1 h => ⟨H.out.below (below_al h), HC.out.below hC2 (below_al h), trivial, Nat.lt_of_lt_of_le hC2 (below_al h).size⟩
  have q1 := H.out.lp1
  have q2 := H.out.lp2
  have g1 := HK.out.n1
  have g2 := HK.out.n2
  have hlp : ll + 1 ≤ maxLen := by unfold maxLen; omega
  have hll : ll ≤ maxLen := by unfold maxLen; omega
  have hlk : lk ≤ maxLen := by unfold maxLen; omega
  have hsh : decide (ll + 1 ≤ 10 ∧ ll ≤ 10 ∧ lk ≤ 6) = true := decide_eq_true ⟨by omega, by omega, by omega⟩
  have HR : Hid (SipP il ih (ll + 1) ll p l) := Lib.hid H.out.ok
  have hf1 : fstV none = .slice none 0 0 := rfl
  have hf2 : ∀ y : Yd, fstV (some y) = .slice (some ⟨y.g, 0, none⟩) y.c.length y.cap := fun _ => rfl
  have hf3 : fstQ none = 0 := rfl
  have hf4 : ∀ y : Yd, fstQ (some y) = y.q := fun _ => rfl
  go_enter Tryz.func5, Tryz.ntmps5
  go_wp2_with (first
    | (go_at_call 16; refine (slim_w _ _ _ _ _ _ _ _ _ _ _ _ hlp hll hlk).mono ?_; rw [hsh]; rintro e w1 ⟨rfl, hb1⟩; obtain ⟨x0, x1, x2, x3, x4⟩ := BX.out _ hb1)
    | (go_at_call 22; refine (ppipes_w _ _ _ _ _ _ _ _ _ p l _ _ _ _ c _ (Lib.hid (HL.out _ hb1).1) (HL.out _ hb1).2.2.2 (Lib.hid (HL.out _ hb1).2.1) HK).mono ?_; rintro e w5 ⟨hb5, o, ho, rfl, hy⟩; obtain rfl : o = none := (by rw [HCH.out] at ho; cases o <;> first | rfl | cases ho); clear ho hy; have chb5 := hb1.trans (hb5.mono hb1.size); clear x0 x1 x2 x3 x4; obtain ⟨x0, x1, x2, x3, x4⟩ := BX.out _ chb5)
    | (go_at_call 17; refine (rsiph_w _ _ _ _ _ _ _ _ p l _ (by omega) (by omega) (Lib.hid (HL.out _ chb5).1.any)).mono ?_; rintro e w2 ⟨⟨rb, rfl, hrb⟩, hb2⟩; obtain rfl : rb = true := hrb.2 HR.out; clear hrb; have chb2 := chb5.trans (hb2.mono chb5.size); clear x0 x1 x2 x3 x4; obtain ⟨x0, x1, x2, x3, x4⟩ := BX.out _ chb2)
    | (go_at_call 18; refine (rcls_w _ _ _ c _ (by omega) (Lib.hid (.inr ⟨C2, P2, rfl, (HL.out _ chb2).2.2.2, (HL.out _ chb2).2.1⟩))).mono ?_; rintro e w3 ⟨⟨rb, rfl, hrb⟩, rfl⟩; obtain rfl : rb = true := hrb.2 HK.out; clear hrb)
    | (go_at_call 24; refine (rpipes_none _ _ _ _ _ _ _ _ _ p l _ _ _ _ c _ (Lib.hid (HL.out _ chb2).1) (HL.out _ chb2).2.2.2 (Lib.hid (HL.out _ chb2).2.1) HK HCH).mono ?_; rintro e w6 ⟨rfl, hb6⟩; have chb6 := chb2.trans (hb6.mono chb2.size); clear x0 x1 x2 x3 x4; obtain ⟨x0, x1, x2, x3, x4⟩ := BX.out _ chb6)
    | (go_at_call 9; refine (K.out _).mono ?_; rintro e w11 ⟨rfl, hb11⟩))
  go_ret
  exact ⟨rfl, below_al (chb6.trans (hb11.mono chb6.size))⟩

set_option maxRecDepth 100000 in
set_option maxHeartbeats 4000000 in
theorem lawpi_d1 (il ih : Int) (C P cp A O ll cl : Nat) (p : Nat → Sp2) (l : Nat → Int) (C2 P2 lk ck : Nat) (c : Nat → Cl3) (y : List Nat × Int) (w : World) (H : Hid (SipAt w C P (ll + 1) A O ll il ih p l)) (hC2 : C2 < w.heap.size) (HC : Hid (ClAt w C2 P2 lk c)) (HK : Hid (ClsP lk c)) (K : Hid KnownOk') (HCH : Hid (cheap (sufL lk (cBu c (prOf il ih p)) l (cSt c) (cPr c) ll) = some y)) (HY1 : Hid (y.1.length = ll)) (HCY : Hid (ChoP lk ll ll fun i => ((y.1.getD i 0 : Nat) : Int))) (HPY : Hid (priceT l (cPr c) 0 (chL (fun i => ((y.1.getD i 0 : Nat) : Int)) ll) = y.2)) :
    Calls Tryz.prog 5 #[.agg #[.int .i64 il, .int .i64 ih, .slice (some ⟨C, P, none⟩) (ll + 1) cp, .slice (some ⟨A, O, none⟩) ll cl], .slice (some ⟨C2, P2, none⟩) lk ck] w
      fun e w' => e = .returned (.bool true) ∧ Below w.heap.size w w' := by
  have BX := Lib.hid (fun (w1 : World) (hb : Below (w.alloc (.cells #[.int .i64 il, .int .i64 ih, .slice (some ⟨C, P, none⟩) (ll + 1) cp, .slice (some ⟨A, O, none⟩) ll cl] 40)).heap.size (w.alloc (.cells #[.int .i64 il, .int .i64 ih, .slice (some ⟨C, P, none⟩) (ll + 1) cp, .slice (some ⟨A, O, none⟩) ll cl] 40)) w1) => bcell4 hb)
  have HL : Hid (∀ w1, Below (w.alloc (.cells #[.int .i64 il, .int .i64 ih, .slice (some ⟨C, P, none⟩) (ll + 1) cp, .slice (some ⟨A, O, none⟩) ll cl] 40)).heap.size (w.alloc (.cells #[.int .i64 il, .int .i64 ih, .slice (some ⟨C, P, none⟩) (ll + 1) cp, .slice (some ⟨A, O, none⟩) ll cl] 40)) w1 → SipAt w1 C P (ll + 1) A O ll il ih p l ∧ ClAt w1 C2 P2 lk c ∧ True ∧ C2 < w1.heap.size) := Lib.hid fun w1 h => ⟨H.out.below (below_al h), HC.out.below hC2 (below_al h), trivial, Nat.lt_of_lt_of_le hC2 (below_al h).size⟩
  have q1 := H.out.lp1
  have q2 := H.out.lp2
  have g1 := HK.out.n1
  have g2 := HK.out.n2
  have hlp : ll + 1 ≤ maxLen := by unfold maxLen; omega
  have hll : ll ≤ maxLen := by unfold maxLen; omega
  have hlk : lk ≤ maxLen := by unfold maxLen; omega
  have hsh : decide (ll + 1 ≤ 10 ∧ ll ≤ 10 ∧ lk ≤ 6) = true := decide_eq_true ⟨by omega, by omega, by omega⟩
  have HR : Hid (SipP il ih (ll + 1) ll p l) := Lib.hid H.out.ok
  have hf1 : fstV none = .slice none 0 0 := rfl
  have hf2 : ∀ y : Yd, fstV (some y) = .slice (some ⟨y.g, 0, none⟩) y.c.length y.cap := fun _ => rfl
  have hf3 : fstQ none = 0 := rfl
  have hf4 : ∀ y : Yd, fstQ (some y) = y.q := fun _ => rfl
  go_enter Tryz.func5, Tryz.ntmps5
  go_wp2_with (first
    | (go_at_call 16; refine (slim_w _ _ _ _ _ _ _ _ _ _ _ _ hlp hll hlk).mono ?_; rw [hsh]; rintro e w1 ⟨rfl, hb1⟩; obtain ⟨x0, x1, x2, x3, x4⟩ := BX.out _ hb1)
    | (go_at_call 22; refine (ppipes_w _ _ _ _ _ _ _ _ _ p l _ _ _ _ c _ (Lib.hid (HL.out _ hb1).1) (HL.out _ hb1).2.2.2 (Lib.hid (HL.out _ hb1).2.1) HK).mono ?_; rintro e w5 ⟨hb5, o, ho, rfl, hy⟩; obtain ⟨yd, rfl⟩ : ∃ yd, o = some yd := (by rw [HCH.out] at ho; cases o <;> first | exact ⟨_, rfl⟩ | cases ho); have hpr : yd.pr = y := (by rw [HCH.out] at ho; simpa using ho); obtain ⟨hyc, hyq⟩ : yd.c = y.1 ∧ yd.q = y.2 := ⟨congrArg Prod.fst hpr, congrArg Prod.snd hpr⟩; have hlen : yd.c.length = ll := (by rw [hyc]; exact HY1.out); have HNY := Lib.hid (atY_num (hy yd rfl).2); have HGY := Lib.hid (hy yd rfl).2.1; rw [hyc, HY1.out] at HNY; have HYQ := Lib.hid hyq; clear ho hy hpr hyc; have chb5 := hb1.trans (hb5.mono hb1.size); clear x0 x1 x2 x3 x4; obtain ⟨x0, x1, x2, x3, x4⟩ := BX.out _ chb5)
    | (go_at_call 17; refine (rsiph_w _ _ _ _ _ _ _ _ p l _ (by omega) (by omega) (Lib.hid (HL.out _ chb5).1.any)).mono ?_; rintro e w2 ⟨⟨rb, rfl, hrb⟩, hb2⟩; have hn2 := hb2; obtain rfl : rb = true := hrb.2 HR.out; clear hrb; have chb2 := chb5.trans (hb2.mono chb5.size); clear x0 x1 x2 x3 x4; obtain ⟨x0, x1, x2, x3, x4⟩ := BX.out _ chb2)
    | (go_at_call 18; refine (rcls_w _ _ _ c _ (by omega) (Lib.hid (.inr ⟨C2, P2, rfl, (HL.out _ chb2).2.2.2, (HL.out _ chb2).2.1⟩))).mono ?_; rintro e w3 ⟨⟨rb, rfl, hrb⟩, rfl⟩; obtain rfl : rb = true := hrb.2 HK.out; clear hrb)
    | (go_at_call 24; refine (rpipes_some _ _ _ _ _ _ _ _ _ p l _ _ _ _ c y _ (Lib.hid (HL.out _ chb2).1) (HL.out _ chb2).2.2.2 (Lib.hid (HL.out _ chb2).2.1) HK HCH).mono ?_; rintro e w6 ⟨⟨g, gcap, rfl, hg, hgn⟩, hb6⟩; have HGN := Lib.hid hgn; have hn6 := hn2.trans (hb6.mono hn2.size); clear hgn; have chb6 := chb2.trans (hb6.mono chb2.size); clear x0 x1 x2 x3 x4; obtain ⟨x0, x1, x2, x3, x4⟩ := BX.out _ chb6)
    | (go_at_call 25; refine (same_w _ _ _ _ _ (fun i => ((y.1.getD i 0 : Nat) : Int)) _ hll (Lib.hid (.inr ⟨yd.g, 0, rfl, Nat.lt_of_lt_of_le HGY.out hn6.size, HNY.out.below HGY.out hn6⟩)) (Lib.hid (.inr ⟨g, 0, rfl, hg, HGN.out⟩))).mono ?_; rintro e w7 ⟨rfl, hb7⟩; have chb7 := chb6.trans (hb7.mono chb6.size); clear x0 x1 x2 x3 x4; obtain ⟨x0, x1, x2, x3, x4⟩ := BX.out _ chb7)
    | (go_at_call 26; refine (rprice_w _ _ _ _ _ _ _ _ _ p l _ _ _ _ c _ _ _ (fun i => ((y.1.getD i 0 : Nat) : Int)) _ (Lib.hid (HL.out _ chb7).1) (HL.out _ chb7).2.2.2 (Lib.hid (HL.out _ chb7).2.1) HK (Nat.lt_of_lt_of_le hg hb7.size) (Lib.hid (HGN.out.below hg hb7)) HCY).mono ?_; rw [HPY.out]; rintro e w9 ⟨rfl, hb9⟩; have chb9 := chb7.trans (hb9.mono chb7.size); clear x0 x1 x2 x3 x4; obtain ⟨x0, x1, x2, x3, x4⟩ := BX.out _ chb9)
    | (go_at_call 9; refine (K.out _).mono ?_; rintro e w11 ⟨rfl, hb11⟩))
  go_ret
  exact ⟨rfl, below_al (chb9.trans (hb11.mono chb9.size))⟩

theorem lawpi_w (il ih : Int) (pa la ka : Option Addr) (lp cp ll cl lk ck : Nat) (p : Nat → Sp2) (l : Nat → Int) (c : Nat → Cl3) (w : World) (hlp : lp ≤ maxLen) (hll : ll ≤ maxLen) (hlk : lk ≤ maxLen) (H : AnySip w pa la lp ll p l) (HC : ClSl w ka lk c) (K : Hid KnownOk') :
    Calls Tryz.prog 5 #[.agg #[.int .i64 il, .int .i64 ih, .slice pa lp cp, .slice la ll cl], .slice ka lk ck] w
      fun e w' => e = .returned (.bool true) ∧ Below w.heap.size w w' := by
  by_cases hq : lp ≤ 10 ∧ ll ≤ 10 ∧ lk ≤ 6
  case neg => exact lawpi_a il ih pa la ka lp cp ll cl lk ck p l c w hlp hll hlk (Lib.hid H) (Lib.hid HC) K hq
  by_cases hR : SipP il ih lp ll p l
  case neg => exact lawpi_b1 il ih pa la ka lp cp ll cl lk ck p l c w hlp hll hlk (Lib.hid H) (Lib.hid HC) K hq (Lib.hid hR)
  by_cases hK : ClsP lk c
  case neg => exact lawpi_b2 il ih pa la ka lp cp ll cl lk ck p l c w hlp hll hlk (Lib.hid H) (Lib.hid HC) K hq (Lib.hid hR) (Lib.hid hK)
  obtain rfl := hR.lpe
  obtain ⟨C, P, rfl, hC, hsp⟩ := H.hp.resolve_left (by have := hR.lp1; omega)
  obtain ⟨A, O, rfl, hA, hln⟩ := H.hl.resolve_left (by have := hR.lp1; omega)
  obtain ⟨C2, P2, rfl, hC2, hcl⟩ := HC.resolve_left (by have := hK.n1; omega)
  have HSA : Hid (SipAt w C P (ll + 1) A O ll il ih p l) := Lib.hid ⟨hC, hA, hsp, hln, hR.lp1, hR.lp2, rfl, hR.iok, hR.pok, hR.lok⟩
  cases hch : cheap (sufL lk (cBu c (prOf il ih p)) l (cSt c) (cPr c) ll) with
  | none => exact lawpi_d0 il ih C P cp A O ll cl p l C2 P2 lk ck c w HSA hC2 (Lib.hid hcl) (Lib.hid hK) K (Lib.hid hch)
  | some y =>
    obtain ⟨h1, h2, h3, h4, _⟩ := best_of hch
    exact lawpi_d1 il ih C P cp A O ll cl p l C2 P2 lk ck c y w HSA hC2 (Lib.hid hcl) (Lib.hid hK) K (Lib.hid hch) (Lib.hid h1) (Lib.hid h2) (Lib.hid h4)
end Go.Kn
