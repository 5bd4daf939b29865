/- Walks of functions of layer 2 (contracts that the laws of this seat use). Conditions: as each theorem states them. -/
import Derived.Test.YtgjgcgonibldmaaGreatDoorFR
set_option linter.unusedVariables false
set_option linter.unusedSimpArgs false
namespace Go.Kn
open Go Go.Proofs Go.RowKit

theorem years_yes (p : Option Addr) (n c : Nat) (ls : List Int) (w : World) (hn : ls.length = n) (hnl : n ≤ 1000) (hls : ∀ x ∈ ls, x ≤ 40) (H1 : Hid (IntSl w p n (fun i => ls.getD i 0))) (HY : Hid (∃ ys, Greedy ls [] ys)) :
    Calls Tryz.prog 53 #[.slice p n c] w
      fun e w' => (∃ (vo : Value) (out : List Int), e = .returned (.tuple #[vo, .bool true]) ∧ w'.ownsRow w.heap.size 3 1 vo out.length (out.map (Value.int .i64)) ∧ Opt ls [] out ∧ (∀ x ∈ out, x ≤ 40)) ∧ Below w.heap.size w w' :=
  (years_w p n c ls w hn hnl hls H1).mono (by
    rintro e w' ⟨⟨vo, out, b, rfl, h1, (⟨rfl, h2⟩ | ⟨rfl, h2⟩)⟩, hb⟩
    · exact ⟨⟨vo, out, rfl, h1, h2⟩, hb⟩
    · obtain ⟨ys, hy⟩ := HY.out
      exact (noyears_no h2 ys (greedy_asg hy)).elim)
theorem years_none (p : Option Addr) (n c : Nat) (ls : List Int) (w : World) (hn : ls.length = n) (hnl : n ≤ 1000) (hls : ∀ x ∈ ls, x ≤ 40) (H1 : Hid (IntSl w p n (fun i => ls.getD i 0))) (HY : Hid (NoYears ls [])) :
    Calls Tryz.prog 53 #[.slice p n c] w
      fun e w' => (∃ (vo : Value), e = .returned (.tuple #[vo, .bool false])) ∧ Below w.heap.size w w' :=
  (years_w p n c ls w hn hnl hls H1).mono (by
    rintro e w' ⟨⟨vo, out, b, rfl, h1, (⟨rfl, h2, _⟩ | ⟨rfl, h2⟩)⟩, hb⟩
    · obtain ⟨⟨zs, hz, _⟩, _⟩ := h2
      exact (noyears_no HY.out zs hz).elim
    · exact ⟨⟨vo, rfl⟩, hb⟩)

theorem without_sl (A O m c at' : Nat) (xs : List Int) (w : World) (hm : xs.length = m) (hat : at' < m) (hmc : m ≤ c) (hc : c ≤ maxLen) (hml : m ≤ 1000) (hA : A < w.heap.size) (HX : Hid (NumAt w A O m (fun i => xs.getD i 0))) :
    Calls Tryz.prog 55 #[.slice (some ⟨A, O, none⟩) m c, .int .i64 (at' : Int)] w
      fun e w' => (∃ sa ca, e = .returned (.slice sa (xs.eraseIdx at').length ca) ∧ IntSl w' sa (xs.eraseIdx at').length (fun i => (xs.eraseIdx at').getD i 0)) ∧ Below w.heap.size w w' :=
  (without_w A O m c at' xs w hm hat hmc hc hml hA HX).mono (by
    rintro e w' ⟨⟨v, rfl, h1⟩, hb⟩
    have hel : (xs.eraseIdx at').length = at' + (m - (at' + 1)) := by rw [List.length_eraseIdx, if_pos (by omega)]; omega
    rw [← hel] at h1
    obtain ⟨sa, ca, rfl, _, h2⟩ := intSl_of_owns h1
    exact ⟨⟨sa, ca, rfl, h2⟩, hb⟩)

theorem IntSl.grown {w w' : World} {p : Option Addr} {n : Nat} {f : Nat → Int} {row : Option Nat} (h : IntSl w p n f) (hg : w.grownBy w' row) (hr : ∀ A O, p = some ⟨A, O, none⟩ → n ≠ 0 → row ≠ some A) : IntSl w' p n f := by
  rcases h with h | ⟨A, O, h1, h2, h3⟩
  · exact .inl h
  · by_cases h0 : n = 0
    · exact .inl h0
    · exact .inr ⟨A, O, h1, Nat.lt_of_lt_of_le h2 hg.size, h3.grown hg h2 (fun e => hr A O h1 h0 e.symm)⟩

theorem upto_plF_t {du : Nat → Bool} {pre : List Int} {j : Nat} (hp : pre.length = cnt du j) (hd : du j = true) (y : Int) :
    (upto (plF du (pre ++ [y]) (cnt du (j + 1))) (j + 1)).map (Value.int .i64) = (upto (plF du pre (cnt du j)) j).map (Value.int .i64) ++ [.int .i64 y] := by
  rw [upto_succ, List.map_append, plF_at hp hd y (by rw [cnt_t hd]; omega)]
  congr 1
  unfold upto
  rw [List.map_map, List.map_map]
  refine List.map_congr_left (fun q hq => ?_)
  rw [List.mem_range] at hq
  show Value.int .i64 _ = Value.int .i64 _
  rw [plF_pre hp y hq _ (by rw [cnt_t hd]; omega)]
theorem upto_plF_f {du : Nat → Bool} {pre : List Int} {j : Nat} (hd : du j = false) :
    (upto (plF du pre (cnt du (j + 1))) (j + 1)).map (Value.int .i64) = (upto (plF du pre (cnt du j)) j).map (Value.int .i64) ++ [.int .i64 (-1)] := by
  rw [upto_succ, List.map_append, plF_not hd, cnt_f hd]
  rfl

set_option maxRecDepth 100000 in
set_option maxHeartbeats 16000000 in
theorem rplan_w (A O C P ls cs lt ct D F cq : Nat) (s : Nat → Int) (t : Nat → St5) (g aN : Nat → Int) (bN : Nat → Bool) (nd un : Int) (w : World) (H : Hid (LineAt w A O C P ls lt s t)) (hD : D < w.heap.size) (HD : Hid (NumAt w D F lt g)) (HQ : Hid (AgeP lt lt g))
    (hun : fromB 0 40 un = true) (HA : Hid (∀ i, i < lt → Great s (t i) nd (aN i) (bN i))) :
    Calls Tryz.prog 18 #[.agg #[.slice (some ⟨A, O, none⟩) ls cs, .slice (some ⟨C, P, none⟩) lt ct], .slice (some ⟨D, F, none⟩) lt cq, .int .i64 nd, .int .i64 un] w
      fun e w' => (((∃ i, i < lt ∧ bN i = false) ∧ e = .returned (.tuple #[.slice none 0 0, .bool false])) ∨
          ((∀ i, i < lt → bN i = true) ∧ NoYears (lst (duF aN g un) (laF aN g) lt) [] ∧ e = .returned (.tuple #[.slice none 0 0, .bool false])) ∨
          ((∀ i, i < lt → bN i = true) ∧ ∃ S out v, Opt (lst (duF aN g un) (laF aN g) lt) [] S ∧ Pl (lst (duF aN g un) (laF aN g) lt) S out ∧ e = .returned (.tuple #[v, .bool true]) ∧ w'.ownsRow (w.heap.size + 1) 3 1 v lt ((upto (plF (duF aN g un) out (cnt (duF aN g un) lt)) lt).map (Value.int .i64)))) ∧ Below w.heap.size w w' := by
  obtain ⟨W0, hW0⟩ : ∃ W0, W0 = w.alloc (.cells #[.slice (some ⟨A, O, none⟩) ls cs, .slice (some ⟨C, P, none⟩) lt ct] 25) := ⟨_, rfl⟩
  have hz : W0.heap.size = w.heap.size + 1 := by rw [hW0]; simp
  have hB0 : Below w.heap.size w W0 := by rw [hW0]; exact (Below.refl _ _).alloc (Nat.le_refl _) _
  have FX : Hid (∀ w', Below W0.heap.size W0 w' → w'.cell? ⟨w.heap.size, 0, none⟩ = some (.slice (some ⟨A, O, none⟩) ls cs) ∧ w'.cell? ⟨w.heap.size, 1, none⟩ = some (.slice (some ⟨C, P, none⟩) lt ct) ∧ LineAt w' A O C P ls lt s t ∧ NumAt w' D F lt g) := Lib.hid fun w' h => by
    have q : ∀ b o, b < W0.heap.size → w'.cell? ⟨b, o, none⟩ = W0.cell? ⟨b, o, none⟩ := (bcell h).1
    have hall := hB0.trans (h.mono (by omega))
    exact ⟨(q _ _ (by omega)).trans (by rw [hW0]; simp), (q _ _ (by omega)).trans (by rw [hW0]; simp), H.out.below hall, HD.out.below hD hall⟩
  have q1 := H.out.lt1
  have q2 := H.out.lt2
  have hun' : 0 ≤ un ∧ un ≤ 40 := by simpa [fromB] using hun
  have HAB : Hid (∀ i, i < lt → (0 ≤ aN i ∧ aN i ≤ 200) ∧ (0 ≤ g i ∧ g i ≤ 200)) := Lib.hid fun i hi => by
    have h2 := HQ.out.ok i hi
    simp only [fromB, decide_eq_true_eq] at h2
    refine ⟨?_, h2⟩
    rcases HA.out i hi with ⟨_, a, b, _⟩ | ⟨_, a, _⟩
    · exact ⟨a, b⟩
    · omega
  obtain ⟨i0, hi, hz0, hz1, hz22⟩ := info_parts info3'
  go_enter Tryz.func18, Tryz.ntmps18
  go_wp2
  rw [← hW0]
  have FXZ := FX.out _ (Below.refl _ _)
  clear FXZ
  go_loopw [10, 11] (fun v ii wr => ∃ i : Nat, i ≤ lt ∧ ii = .int .i64 (i : Int) ∧ wr.ownsRow (w.heap.size + 1) 3 1 v (cnt (duF aN g un) i) ((lst (duF aN g un) (laF aN g) i).map (Value.int .i64)) ∧ Hid (∀ j, j < i → bN j = true) ∧ Below W0.heap.size W0 wr) (fun _ ii _ => lt - (intOf ii).toNat)
  case atStart => exact ⟨0, Nat.zero_le _, rfl, World.ownsRow_nil _ _ _ _, fun j hj => absurd hj (by omega), Below.refl _ _⟩
  case round =>
    obtain ⟨i, hi', rfl, hown, hall, hbw⟩ := hrel
    obtain ⟨x1, x2, x3, x4⟩ := FX.out _ hbw
    have HO := Lib.hid hown
    have HBW := Lib.hid hbw
    have hzw := hbw.size
    rw [hz] at hzw
    clear hown hbw
    have hcl := cnt_le (duF aN g un) i
    by_cases hlt : i < lt
    · have HLW := Lib.hid x3
      obtain ⟨⟨a1, a2⟩, g1, g2⟩ := HAB.out i hlt
      have HGR := Lib.hid (HA.out i hlt)
      have hlti : (i : Int) < (lt : Int) := by omega
      clear x3 x4
      cases hbi : bN i
      · rw [hbi] at HGR
        go_wp2_with (go_at_call 51; refine (rLate_is cs ct HLW hlt HGR.out).mono ?_; simp only [cond_false]; rintro e w5 ⟨rfl, hb5⟩)
        refine bodyPost_ret (v := .tuple #[.slice none 0 0, .bool false]) (by simp [results, Tryz.results18, go_sem]) rfl ⟨.inl ⟨⟨i, hlt, hbi⟩, rfl⟩, hB0.trans ((HBW.out.trans (hb5.mono HBW.out.size)).mono (by omega))⟩
      · rw [hbi] at HGR
        have HBI := Lib.hid hbi
        clear hbi
        have hall' : Hid (∀ j, j < i + 1 → bN j = true) := Lib.hid fun j hj => by
          by_cases e : j = i
          · rw [e]; exact HBI.out
          · exact hall.out j (by omega)
        have HGA : Hid (∀ w', Below wr.heap.size wr w' → Calls Tryz.prog 51 #[.agg #[.slice (some ⟨A, O, none⟩) ls cs, .slice (some ⟨C, P, none⟩) lt ct], .int .i64 (i : Int), .int .i64 nd] w' fun e w2 => e = .returned (.int .i64 (aN i)) ∧ Below w'.heap.size w' w2) := Lib.hid fun w' h => rLate_is cs ct (Lib.hid (HLW.out.below h)) hlt HGR.out
        have HGL : Hid (∀ w', Below wr.heap.size wr w' → Calls Tryz.prog 52 #[.agg #[.slice (some ⟨A, O, none⟩) ls cs, .slice (some ⟨C, P, none⟩) lt ct], .int .i64 (i : Int), .int .i64 (g i), .int .i64 nd, .int .i64 un] w' fun e w2 => e = .returned (.int .i64 (laR (aN i) (g i) un)) ∧ Below w'.heap.size w' w2) := Lib.hid fun w' h => last_w cs ct (Lib.hid (HLW.out.below h)) hlt HGR ⟨g1, g2⟩ hun'
        have FY : Hid (∀ w', Below wr.heap.size wr w' → w'.cell? ⟨w.heap.size, 0, none⟩ = some (.slice (some ⟨A, O, none⟩) ls cs) ∧ w'.cell? ⟨w.heap.size, 1, none⟩ = some (.slice (some ⟨C, P, none⟩) lt ct) ∧ w'.cell? ⟨D, F + i, none⟩ = some (.int .i64 (g i))) := Lib.hid fun w' h => by
          obtain ⟨p1, p2, p3, p4⟩ := FX.out _ (HBW.out.trans (h.mono HBW.out.size))
          exact ⟨p1, p2, p4 i hlt⟩
        obtain ⟨a, ha⟩ : ∃ a, aN i = a := ⟨_, rfl⟩
        obtain ⟨b, hb⟩ : ∃ b, g i = b := ⟨_, rfl⟩
        have hx1 := laR_t (aN := aN) (g := g) (un := un) (i := i) a2
        have hx2 := laR_f (aN := aN) (g := g) (un := un) (i := i) a2
        obtain ⟨x, hx⟩ : ∃ x, laR (aN i) (g i) un = x := ⟨_, rfl⟩
        rw [hx] at HGL hx1 hx2
        have hlf : duF aN g un i = true → -200 ≤ x ∧ x < 40 := fun h => by
          have := laF_lt h
          rw [hx1 h]
          have e : laF aN g i = aN i - g i := rfl
          omega
        rw [ha] at a1 a2 HGA
        rw [hb] at g1 g2 HGL FY
        clear ha hb hx
        cases hdu : duF aN g un i
        · have HDU := Lib.hid hdu
          have hx := hx2 hdu
          clear hx1 hx2 hlf hdu
          subst hx
          have hne : ((1000 : Int) != 1000) = false := by simp
          go_wp2_with (go_at_call 51; refine (HGA.out _ (Below.refl _ _)).mono ?_; rintro e w5 ⟨rfl, hb5⟩; have HB5 := Lib.hid hb5; clear hb5)
          have FY5 : Hid (∀ w', Below w5.heap.size w5 w' → w'.cell? ⟨w.heap.size, 0, none⟩ = some (.slice (some ⟨A, O, none⟩) ls cs) ∧ w'.cell? ⟨w.heap.size, 1, none⟩ = some (.slice (some ⟨C, P, none⟩) lt ct) ∧ w'.cell? ⟨D, F + i, none⟩ = some (.int .i64 b)) := Lib.hid fun w' h => FY.out w' (HB5.out.trans (h.mono HB5.out.size))
          have HGL5 : Hid (∀ w', Below w5.heap.size w5 w' → Calls Tryz.prog 52 #[.agg #[.slice (some ⟨A, O, none⟩) ls cs, .slice (some ⟨C, P, none⟩) lt ct], .int .i64 (i : Int), .int .i64 b, .int .i64 nd, .int .i64 un] w' fun e w2 => e = .returned (.int .i64 1000) ∧ Below w'.heap.size w' w2) := Lib.hid fun w' h => HGL.out w' (HB5.out.trans (h.mono HB5.out.size))
          refine wp_region_calm (W := w5) (by kernel_rfl) (by kernel_rfl) (Below.refl _ _) ?_
          repeat (first
            | (refine calm_no (by rfl) ?_
               (try simp only [Act.put, List.setIfInBounds_toArray, List.set_cons_zero, List.set_cons_succ]))
            | (apply calm_yes
               focus rfl
               focus
                 intro w' hw'
                 obtain ⟨z1, z2, z3⟩ := FY5.out w' hw'
                 go_simp
                 first
                   | done
                   | with_reducible rfl
                   | (go_at_call 52; refine (HGL5.out w' hw').mono ?_; rintro e w8 ⟨rfl, hb8⟩; exact ⟨rfl, hw'.trans (hb8.mono hw'.size)⟩)
                   | fail
               (try simp only [Act.put, List.setIfInBounds_toArray, List.set_cons_zero, List.set_cons_succ])))
          refine calm_nil ?_
          intro w20 hb20
          have HB20 : Hid (Below wr.heap.size wr w20) := Lib.hid (HB5.out.trans (hb20.mono HB5.out.size))
          have hz20 := HB20.out.size
          clear hb20 HB5 FY5 HGL5
          go_wp2
          go_roundw
          case rel => exact ⟨i + 1, by omega, by go_num, by rw [cnt_f HDU.out, lst_f _ HDU.out]; exact owns_below HO.out HB20.out, hall', HBW.out.trans (HB20.out.mono HBW.out.size)⟩
          case measure => simp [intOf]; omega
        · have HDU := Lib.hid hdu
          have HX := Lib.hid (hx1 hdu)
          obtain ⟨hl1, hl2⟩ := hlf hdu
          clear hx1 hx2 hlf hdu
          have hne : (x != 1000) = true := by simp; omega
          go_wp2_with (go_at_call 51; refine (HGA.out _ (Below.refl _ _)).mono ?_; rintro e w5 ⟨rfl, hb5⟩; have HB5 := Lib.hid hb5; clear hb5)
          have FY5 : Hid (∀ w', Below w5.heap.size w5 w' → w'.cell? ⟨w.heap.size, 0, none⟩ = some (.slice (some ⟨A, O, none⟩) ls cs) ∧ w'.cell? ⟨w.heap.size, 1, none⟩ = some (.slice (some ⟨C, P, none⟩) lt ct) ∧ w'.cell? ⟨D, F + i, none⟩ = some (.int .i64 b)) := Lib.hid fun w' h => FY.out w' (HB5.out.trans (h.mono HB5.out.size))
          have HGL5 : Hid (∀ w', Below w5.heap.size w5 w' → Calls Tryz.prog 52 #[.agg #[.slice (some ⟨A, O, none⟩) ls cs, .slice (some ⟨C, P, none⟩) lt ct], .int .i64 (i : Int), .int .i64 b, .int .i64 nd, .int .i64 un] w' fun e w2 => e = .returned (.int .i64 x) ∧ Below w'.heap.size w' w2) := Lib.hid fun w' h => HGL.out w' (HB5.out.trans (h.mono HB5.out.size))
          refine wp_region_calm (W := w5) (by kernel_rfl) (by kernel_rfl) (Below.refl _ _) ?_
          repeat (first
            | (refine calm_no (by rfl) ?_
               (try simp only [Act.put, List.setIfInBounds_toArray, List.set_cons_zero, List.set_cons_succ]))
            | (apply calm_yes
               focus rfl
               focus
                 intro w' hw'
                 obtain ⟨z1, z2, z3⟩ := FY5.out w' hw'
                 go_simp
                 first
                   | done
                   | with_reducible rfl
                   | (go_at_call 52; refine (HGL5.out w' hw').mono ?_; rintro e w8 ⟨rfl, hb8⟩; exact ⟨rfl, hw'.trans (hb8.mono hw'.size)⟩)
                   | fail
               (try simp only [Act.put, List.setIfInBounds_toArray, List.set_cons_zero, List.set_cons_succ])))
          refine calm_nil ?_
          intro w20 hb20
          have HB20 : Hid (Below wr.heap.size wr w20) := Lib.hid (HB5.out.trans (hb20.mono HB5.out.size))
          have hz20 := HB20.out.size
          clear hb20 HB5 FY5 HGL5
          have HO20 := Lib.hid (owns_below HO.out HB20.out)
          go_wp2_with (at_builtin; refine wpList_append_own_at _ rfl (.tmp 43) (.tmp 45) 22 rfl (w.heap.size + 1) 3 i0 (.int .i64 0) 1 8 Tryz.underlying22 hi hz0 hz1 hz22 rfl (by decide) _ (cnt (duF aN g un) i) _ rfl (HO20.out.alloc _) ⟨_, 0, none⟩ 1 1 [.int .i64 x] rfl rfl (lies_any (by first | exact al_top rfl _ _ | exact al_top (by simp) _ _)) (by intro u hu; simp at hu; subst hu; rfl) (by unfold maxLen; omega) (by omega) (by simp; omega) ?_; intro v7 w7 hown7 hgrow7 _ hloc7)
          have HB7 : Hid (Below W0.heap.size W0 w7) := Lib.hid (((HBW.out.trans (HB20.out.mono HBW.out.size)).alloc (by omega) _).grown hgrow7 (by simp; omega) (fun r e => by have := own_ge HO20.out r e; omega))
          have HO7 := Lib.hid hown7
          clear hown7 hgrow7 hloc7
          go_roundw
          case rel => exact ⟨i + 1, by omega, by go_num, by rw [cnt_t HDU.out, lst_t _ HDU.out, List.map_append, ← HX.out]; exact HO7.out, hall', HB7.out⟩
          case measure => simp [intOf]; omega
    · obtain rfl : i = lt := by omega
      obtain ⟨sl, cl, rfl, hnl, hc1, hc2, hsl⟩ := intSl_of_owns' HO.out
      have HSL := Lib.hid hsl
      have hn0 : (lst (duF aN g un) (laF aN g) i).length = cnt (duF aN g un) i := lst_len _ _ _
      have HN0 := Lib.hid hn0
      have hmx : Hid (∀ x ∈ lst (duF aN g un) (laF aN g) i, x ≤ 40) := Lib.hid (by
        have key : ∀ k, ∀ x ∈ lst (duF aN g un) (laF aN g) k, x ≤ 40 := by
          intro k
          induction k with
          | zero => intro x hx; cases hx
          | succ k ih =>
            intro x hx
            cases hd : duF aN g un k
            · rw [lst_f _ hd] at hx; exact ih x hx
            · rw [lst_t _ hd, List.mem_append, List.mem_singleton] at hx
              rcases hx with hx | rfl
              · exact ih x hx
              · have := laF_lt hd; omega
        exact key i)
      obtain ⟨LL, hLL⟩ : ∃ LL, lst (duF aN g un) (laF aN g) i = LL := ⟨_, rfl⟩
      rw [hLL] at HSL HN0 hmx
      have HLL := Lib.hid hLL
      clear hsl hn0 hnl hLL x3 x4
      rcases years_or LL [] with hyes | hno
      · have HYES := Lib.hid hyes
        clear hyes
        go_wp2_with (go_at_call 53; refine (years_yes sl (cnt (duF aN g un) i) cl LL _ HN0.out (by omega) hmx.out HSL HYES).mono ?_; rintro e w5 ⟨⟨vo, S0, rfl, hown5, hopt5, h405⟩, hb5⟩)
        have HB5 : Hid (Below W0.heap.size W0 w5) := Lib.hid (HBW.out.trans (hb5.mono HBW.out.size))
        have HO5 := Lib.hid (own_base hown5 (b' := w.heap.size + 1) (by omega))
        have HSL5 := Lib.hid (HSL.out.below hb5)
        have HOP := Lib.hid hopt5
        have H40 := Lib.hid h405
        clear hb5 hown5 hopt5 h405
        go_loopw [10, 13, 15, 16] (fun vl vs vo ii wr => ∃ (j : Nat) (L S pre T : List Int) (pl : Option Addr) (cl : Nat), j ≤ i ∧ ii = .int .i64 (j : Int) ∧ vl = .slice pl L.length cl ∧ IntSl wr pl L.length (fun q => L.getD q 0) ∧ L.length ≤ cl ∧ cl ≤ maxLen ∧ Hid (L = LL.drop (cnt (duF aN g un) j)) ∧
          wr.ownsRow (w.heap.size + 1) 3 1 vs S.length (S.map (Value.int .i64)) ∧ wr.ownsRow (w.heap.size + 1) 3 1 vo j ((upto (plF (duF aN g un) pre (cnt (duF aN g un) j)) j).map (Value.int .i64)) ∧ Hid (∀ r, vo.ownBlock = some r → vs.ownBlock ≠ some r) ∧ Hid (∀ A O, pl = some ⟨A, O, none⟩ → L.length ≠ 0 → vo.ownBlock ≠ some A) ∧
          pre.length = cnt (duF aN g un) j ∧ Hid (Opt L T S) ∧ Hid (∀ r, Pl L S r → Pl LL S0 (pre ++ r)) ∧ Hid (∀ x ∈ S, x ≤ 40) ∧ Below W0.heap.size W0 wr) (fun _ _ _ ii _ => i - (intOf ii).toNat)
        case atStart => exact ⟨0, LL, S0, [], [], sl, cl, Nat.zero_le _, rfl, by rw [HN0.out], by rw [HN0.out]; exact HSL5.out, by rw [HN0.out]; exact hc1, hc2, rfl, HO5.out, World.ownsRow_nil _ _ _ _, (fun r h => by simp [Value.ownBlock] at h), (fun A' O' h1 h2 h3 => by simp [Value.ownBlock] at h3), rfl, HOP.out, fun r h => h, H40.out, HB5.out⟩
        case round =>
          rename_i w7
          obtain ⟨j, L, S, pre, T, pl, cl, hj', rfl, rfl, hls, hlc, hcm, hL, hown1, hown2, hd1, hd2, hpre, hopt, hcon, h40, hbw⟩ := hrel
          have HLS := Lib.hid hls
          have HO1 := Lib.hid hown1
          have HO2 := Lib.hid hown2
          have HB7 := Lib.hid hbw
          have HPRE := Lib.hid hpre
          have hzw7 := hbw.size
          rw [hz] at hzw7
          obtain ⟨x1, x2, x3, x4⟩ := FX.out _ hbw
          clear hls hown1 hown2 hbw hpre
          have hcj := cnt_le (duF aN g un) j
          have hLlen : L.length ≤ 8 := by
            have e := hL.out
            rw [e, List.length_drop, HN0.out]
            omega
          by_cases hji : j < i
          · have HLW := Lib.hid x3
            obtain ⟨⟨a1, a2⟩, g1, g2⟩ := HAB.out j hji
            have HGR := Lib.hid (HA.out j hji)
            have hjlt : (j : Int) < (i : Int) := by omega
            rw [hall.out j hji] at HGR
            clear x3 x4
            have HGL : Hid (∀ w', Below wr.heap.size wr w' → Calls Tryz.prog 52 #[.agg #[.slice (some ⟨A, O, none⟩) ls cs, .slice (some ⟨C, P, none⟩) i ct], .int .i64 (j : Int), .int .i64 (g j), .int .i64 nd, .int .i64 un] w' fun e w2 => e = .returned (.int .i64 (laR (aN j) (g j) un)) ∧ Below w'.heap.size w' w2) := Lib.hid fun w' h => last_w cs ct (Lib.hid (HLW.out.below h)) hji HGR ⟨g1, g2⟩ hun'
            have FY : Hid (∀ w', Below wr.heap.size wr w' → w'.cell? ⟨w.heap.size, 0, none⟩ = some (.slice (some ⟨A, O, none⟩) ls cs) ∧ w'.cell? ⟨w.heap.size, 1, none⟩ = some (.slice (some ⟨C, P, none⟩) i ct) ∧ w'.cell? ⟨D, F + j, none⟩ = some (.int .i64 (g j))) := Lib.hid fun w' h => by
              obtain ⟨p1, p2, p3, p4⟩ := FX.out _ (HB7.out.trans (h.mono HB7.out.size))
              exact ⟨p1, p2, p4 j hji⟩
            have hx1 := laR_t (aN := aN) (g := g) (un := un) (i := j) a2
            have hx2 := laR_f (aN := aN) (g := g) (un := un) (i := j) a2
            obtain ⟨b, hb⟩ : ∃ b, g j = b := ⟨_, rfl⟩
            obtain ⟨x, hx⟩ : ∃ x, laR (aN j) (g j) un = x := ⟨_, rfl⟩
            rw [hx] at HGL hx1 hx2
            have hlf : duF aN g un j = true → -200 ≤ x ∧ x < 40 := fun h => by
              have := laF_lt h
              rw [hx1 h]
              have e : laF aN g j = aN j - g j := rfl
              omega
            rw [hb] at g1 g2 HGL FY
            clear hb hx HGR
            cases hdu : duF aN g un j
            · have HDU := Lib.hid hdu
              have hx := hx2 hdu
              clear hx1 hx2 hlf hdu
              subst hx
              have hne : ((1000 : Int) == 1000) = true := by simp
              go_wp2
              refine wp_region_calm (W := wr) (by kernel_rfl) (by kernel_rfl) (Below.refl _ _) ?_
              repeat (first
                | (refine calm_no (by rfl) ?_
                   (try simp only [Act.put, List.setIfInBounds_toArray, List.set_cons_zero, List.set_cons_succ]))
                | (apply calm_yes
                   focus rfl
                   focus
                     intro w' hw'
                     obtain ⟨z1, z2, z3⟩ := FY.out w' hw'
                     go_simp
                     first
                       | done
                       | with_reducible rfl
                       | (go_at_call 52; refine (HGL.out w' hw').mono ?_; rintro e w8 ⟨rfl, hb8⟩; exact ⟨rfl, hw'.trans (hb8.mono hw'.size)⟩)
                       | fail
                   (try simp only [Act.put, List.setIfInBounds_toArray, List.set_cons_zero, List.set_cons_succ])))
              refine calm_nil ?_
              intro w20 hb20
              have HB20 := Lib.hid hb20
              have hz20 := hb20.size
              have HO20 := Lib.hid (owns_below HO2.out hb20)
              clear hb20
              go_wp2_with (at_builtin; refine wpList_append_own_at _ rfl (.tmp 71) (.tmp 72) 22 rfl (w.heap.size + 1) 3 i0 (.int .i64 0) 1 8 Tryz.underlying22 hi hz0 hz1 hz22 rfl (by decide) _ j _ rfl (HO20.out.alloc _) ⟨_, 0, none⟩ 1 1 [.int .i64 (-1)] rfl rfl (lies_any (by first | exact al_top rfl _ _ | exact al_top (by simp) _ _)) (by intro u hu; simp at hu; subst hu; rfl) (by unfold maxLen; omega) (by omega) (by simp; omega) ?_; intro v7 w8 hown8 hgrow8 _ hloc8)
              have HLS20 := Lib.hid ((HLS.out.below HB20.out).below ((Below.refl _ _).alloc (Nat.le_refl _) (.cells #[.int .i64 (-1)] 3)))
              have HLSN := Lib.hid (HLS20.out.grown hgrow8 (fun A' O' e1 e2 e3 => hd2.out A' O' e1 e2 e3))
              have HS20 := Lib.hid (owns_below HO1.out HB20.out)
              have HSN := Lib.hid (keep2 (HS20.out.alloc _) hgrow8 hd1.out)
              have HB8 : Hid (Below W0.heap.size W0 w8) := Lib.hid (((HB7.out.trans (HB20.out.mono (by omega))).alloc (by omega) _).grown hgrow8 (by simp; omega) (fun r e => by have := own_ge HO20.out r e; omega))
              have HO8 := Lib.hid hown8
              have hdn1 : Hid (∀ r, Value.ownBlock v7 = some r → Value.ownBlock u13 ≠ some r) := Lib.hid fun r h1 h2 => by
                rcases hloc8 with e | e
                · exact hd1.out r (e ▸ h1) h2
                · have := own_lt HS20.out r h2
                  rw [e] at h1
                  simp at h1
                  omega
              have hdn2 : Hid (∀ A' O', pl = some ⟨A', O', none⟩ → L.length ≠ 0 → Value.ownBlock v7 ≠ some A') := Lib.hid fun A' O' e1 e2 e3 => by
                rcases hloc8 with e | e
                · exact hd2.out A' O' e1 e2 (e ▸ e3)
                · obtain ⟨A2, O2, e4, e5, _⟩ := (HLS.out.below HB20.out).resolve_left e2
                  rw [e1] at e4
                  cases e4
                  rw [e] at e3
                  simp at e3
                  omega
              clear hown8 hgrow8 hloc8
              go_roundw
              case rel => exact ⟨j + 1, L, S, pre, T, pl, cl, by omega, by go_num, rfl, HLSN.out, hlc, hcm, by rw [cnt_f HDU.out]; exact hL, HSN.out, by rw [upto_plF_f HDU.out]; exact HO8.out, hdn1, hdn2, by rw [cnt_f HDU.out]; exact HPRE.out, hopt, hcon, h40, HB8.out⟩
              case measure => simp [intOf]; omega
            · have HDU := Lib.hid hdu
              have HX := Lib.hid (hx1 hdu)
              obtain ⟨hl1, hl2⟩ := hlf hdu
              have hdc := drop_cnt_t (la := laF aN g) hji hdu
              rw [HLL.out, ← HX.out] at hdc
              obtain ⟨L', hL'⟩ : ∃ L', L' = LL.drop (cnt (duF aN g un) (j + 1)) := ⟨_, rfl⟩
              rw [← hL'] at hdc
              have hLe : L = x :: L' := hL.out.trans hdc
              subst hLe
              have HL' := Lib.hid hL'
              clear hx1 hx2 hlf hdu hdc hL'
              have hne : (x == 1000) = false := by simp; omega
              simp only [List.length_cons] at hlc hLlen HLS hd2
              obtain ⟨A1, O1, rfl, hA1, hn1⟩ := HLS.out.resolve_left (by omega)
              have y0 := hn1 0 (by omega)
              have HN1 := Lib.hid hn1
              clear hn1
              simp only [Nat.add_zero, List.getD_cons_zero] at y0
              have FYY : Hid (∀ w', Below wr.heap.size wr w' → w'.cell? ⟨A1, O1, none⟩ = some (.int .i64 x)) := Lib.hid fun w' h => (h.cell (p := ⟨A1, O1, none⟩) hA1).trans y0
              clear y0
              obtain ⟨O1', hO1', hslice⟩ := slice_run A1 O1 (L'.length + 1) cl 1 (by omega) hlc
              have hslice1 : ∀ w' : World, (Instr.slice 22 (.slice (some ⟨A1, O1, none⟩) (L'.length + 1) cl) (some (.int .i64 1)) none none).run Tryz.prog w' = .ok (.slice (some ⟨A1, O1', none⟩) L'.length (cl - 1)) w' := hslice
              clear hslice
              have HO' := Lib.hid hO1'
              clear hO1'
              obtain ⟨ps, cs', rfl, -, hmc, hcm2, hss⟩ := intSl_of_owns' HO1.out
              have HSS := Lib.hid hss
              obtain ⟨m, hm⟩ : ∃ m, S.length = m := ⟨_, rfl⟩
              rw [hm] at hmc HSS HO1
              have HM := Lib.hid hm
              have HSM : Hid (m = L'.length + 1) := Lib.hid (by have := hopt.out.len; rw [hm] at this; simpa using this)
              have hm8 : m ≤ 8 := by rw [HSM.out]; exact hLlen
              have hm1 : 1 ≤ m := by rw [HSM.out]; omega
              have hex := Lib.hid (step_exists hopt.out)
              clear hss
              rw [hm, List.length_cons]
              go_wp2
              refine wp_region_calm (W := wr) (by kernel_rfl) (by kernel_rfl) (Below.refl _ _) ?_
              repeat (first
                | (refine calm_no (by rfl) ?_
                   (try simp only [Act.put, List.setIfInBounds_toArray, List.set_cons_zero, List.set_cons_succ]))
                | (apply calm_yes
                   focus rfl
                   focus
                     intro w' hw'
                     obtain ⟨z1, z2, z3⟩ := FY.out w' hw'
                     go_simp
                     first
                       | done
                       | with_reducible rfl
                       | (go_at_call 52; refine (HGL.out w' hw').mono ?_; rintro e w8 ⟨rfl, hb8⟩; exact ⟨rfl, hw'.trans (hb8.mono hw'.size)⟩)
                       | fail
                   (try simp only [Act.put, List.setIfInBounds_toArray, List.set_cons_zero, List.set_cons_succ])))
              refine calm_nil ?_
              intro w20 hb20
              have HB20 := Lib.hid hb20
              have hz20 := hb20.size
              have HO20 := Lib.hid (owns_below HO2.out hb20)
              have HOS20 := Lib.hid (owns_below HO1.out hb20)
              have HSS20 := Lib.hid (HSS.out.below hb20)
              have HN20 := Lib.hid (HN1.out.below hA1 hb20)
              have y20 := FYY.out _ hb20
              clear hb20
              go_wp2
              have hxx : (x != 1000) = true := by simp; omega
              go_loopw [18, 19] (fun aa kk w2 => ∃ k : Nat, k ≤ m ∧ kk = .int .i64 (k : Int) ∧ ((aa = .int .i64 (-1) ∧ Hid (∀ q, q < k → ¬ OkY x L' S (S.getD q 0))) ∨ (∃ a : Nat, aa = .int .i64 (a : Int) ∧ a < k ∧ Hid (OkY x L' S (S.getD a 0) ∧ ∀ q, q < k → OkY x L' S (S.getD q 0) → S.getD a 0 ≤ S.getD q 0))) ∧ Below w20.heap.size w20 w2) (fun _ kk _ => m - (intOf kk).toNat)
              case atStart => exact ⟨0, Nat.zero_le _, rfl, .inl ⟨rfl, fun q hq => absurd hq (by omega)⟩, Below.refl _ _⟩
              case round =>
                obtain ⟨k, hk, rfl, hat, hb2⟩ := hrel
                by_cases hkm : k < m
                · obtain ⟨A2, O2, rfl, hA2, hnS⟩ := HSS20.out.resolve_left (by omega)
                  have hA25 : A2 < wr.heap.size := Nat.lt_of_lt_of_le hA2 hb2.size
                  have hnw := hnS.below hA2 hb2
                  have y1 := hnw k hkm
                  simp only [] at y1
                  have HN25 : Hid (∀ w', Below wr.heap.size wr w' → NumAt w' A2 O2 m (fun q => S.getD q 0)) := Lib.hid fun w' h => hnw.below hA25 h
                  have HL25 : Hid (∀ w', Below wr.heap.size wr w' → IntSl w' (some ⟨A1, O1', none⟩) L'.length (fun q => L'.getD q 0)) := Lib.hid fun w' h => by
                    rcases HO'.out with e | e
                    · refine .inr ⟨A1, O1', rfl, Nat.lt_of_lt_of_le hA1 (Nat.le_trans (Nat.le_trans hz20 hb2.size) h.size), fun q hq => ?_⟩
                      have q1 := ((HN20.out.below (Nat.lt_of_lt_of_le hA1 hz20) hb2).below (Nat.lt_of_lt_of_le hA1 (Nat.le_trans hz20 hb2.size)) h) (q + 1) (by omega)
                      simp only [List.getD_cons_succ] at q1
                      rw [e, Nat.add_assoc, Nat.add_comm 1 q]
                      exact q1
                    · exact .inl (by omega)
                  have hO := okY_iff (S := S) (ls := L') (d := x) (j := k) (by rw [HM.out]; exact hkm)
                  have hF := fillB_iff (ls := L') (S := S.eraseIdx k) (fun z hz => hopt.out.lasts z (List.mem_cons_of_mem _ hz)) (fun z hz => h40.out z (List.mem_of_mem_eraseIdx hz))
                  have HOF : Hid (OkY x L' S (S.getD k 0) ↔ S.getD k 0 ≤ x ∧ fillB L' (S.eraseIdx k) = true) := Lib.hid (by rw [hO, hF])
                  have hE8 : (S.eraseIdx k).length ≤ 8 := Nat.le_trans (List.length_eraseIdx_le S k) (by rw [HM.out]; exact hm8)
                  obtain ⟨u, hu⟩ : ∃ u, S.getD k 0 = u := ⟨_, rfl⟩
                  rw [hu] at y1 HOF
                  have HU := Lib.hid hu
                  have n1 : (0 : Int) ≤ (k : Int) := by omega
                  have n2 : (k : Int) < (m : Int) := by omega
                  clear hu hO hF hnS hnw x1 x2 y20
                  by_cases hux : u ≤ x
                  · have hd1 : decide (u ≤ x) = true := decide_eq_true hux
                    obtain ⟨f, hf⟩ : ∃ f, fillB L' (S.eraseIdx k) = f := ⟨_, rfl⟩
                    rw [hf] at HOF
                    have HFF := Lib.hid hf
                    clear hf
                    rcases hat with ⟨rfl, hall2⟩ | ⟨a, rfl, ha, hoa⟩
                    · have hneg : ((-1 : Int) < 0) = True := by simp
                      have hneg2 : decide ((-1 : Int) < 0) = true := by simp
                      have FS : Hid (∀ w', Below wr.heap.size wr w' → w'.cell? ⟨A2, O2 + k, none⟩ = some (.int .i64 u)) := Lib.hid fun w' h => (h.cell (p := ⟨A2, O2 + k, none⟩) hA25).trans y1
                      cases f
                      · skip
                        go_wp2
                        have hS := FS.out _ (Below.refl _ _)
                        refine wp_region_held_drew (S := fun w' => w'.cell? ⟨A2, O2 + k, none⟩ = some (.int .i64 u)) (by kernel_rfl) ?_ (fun hHeld => ?_)
                        · exact FS.out _ (by repeat (first | exact Below.refl _ _ | refine Below.drew ?_))
                        refine' wpAnyH_take (i := 0) (oi := { dst := some 85, op := Go.Op.move (Go.Operand.tmp 13), type := 22, pos := "ref.go:275", after := #[], guard := none }) (v := _) rfl (by kernel_rfl) (by kernel_rfl) (by kernel_rfl) (fun _ _ _ h => h) (Or.inl ⟨by rfl, ?hyQa0⟩) (by assumption) ?restQa0
                        case hyQa0 =>
                          intro w' hSw
                          (try dsimp only at hSw)
                          go_simp
                          (first | done | with_reducible rfl)
                        (try simp only [Act.put, List.setIfInBounds_toArray, List.set_cons_zero, List.set_cons_succ])
                        refine' wpAnyH_take (i := 1) (oi := { dst := some 86, op := Go.Op.move (Go.Operand.tmp 19), type := 3, pos := "ref.go:275", after := #[], guard := none }) (v := _) rfl (by kernel_rfl) (by kernel_rfl) (by kernel_rfl) (fun _ _ _ h => h) (Or.inl ⟨by rfl, ?hyQa1⟩) (by assumption) ?restQa1
                        case hyQa1 =>
                          intro w' hSw
                          (try dsimp only at hSw)
                          go_simp
                          (first | done | with_reducible rfl)
                        (try simp only [Act.put, List.setIfInBounds_toArray, List.set_cons_zero, List.set_cons_succ])
                        refine' wpAnyH_take (i := 2) (oi := { dst := some 87, op := Go.Op.indexAddr 22 (Go.Operand.tmp 85) (Go.Operand.tmp 86), type := 0, pos := "ref.go:275", after := #[{ on := 0, ground := Go.Ground.data }, { on := 1, ground := Go.Ground.data }], guard := none }) (v := _) rfl (by kernel_rfl) (by kernel_rfl) (by kernel_rfl) (fun _ _ _ h => h) (Or.inl ⟨by rfl, ?hyQa2⟩) (by assumption) ?restQa2
                        case hyQa2 =>
                          intro w' hSw
                          (try dsimp only at hSw)
                          go_simp
                          (first | done | with_reducible rfl)
                        (try simp only [Act.put, List.setIfInBounds_toArray, List.set_cons_zero, List.set_cons_succ])
                        refine' wpAnyH_take (i := 3) (oi := { dst := some 88, op := Go.Op.load 3 (Go.Operand.tmp 87), type := 3, pos := "ref.go:275", after := #[{ on := 2, ground := Go.Ground.data }], guard := none }) (v := _) rfl (by kernel_rfl) (by kernel_rfl) (by kernel_rfl) (fun _ _ _ h => h) (Or.inl ⟨by rfl, ?hyQa3⟩) (by assumption) ?restQa3
                        case hyQa3 =>
                          intro w' hSw
                          (try dsimp only at hSw)
                          go_simp
                          (first | done | with_reducible rfl)
                        (try simp only [Act.put, List.setIfInBounds_toArray, List.set_cons_zero, List.set_cons_succ])
                        refine' wpAnyH_take (i := 4) (oi := { dst := some 89, op := Go.Op.move (Go.Operand.tmp 17), type := 3, pos := "ref.go:275", after := #[], guard := none }) (v := _) rfl (by kernel_rfl) (by kernel_rfl) (by kernel_rfl) (fun _ _ _ h => h) (Or.inl ⟨by rfl, ?hyQa4⟩) (by assumption) ?restQa4
                        case hyQa4 =>
                          intro w' hSw
                          (try dsimp only at hSw)
                          go_simp
                          (first | done | with_reducible rfl)
                        (try simp only [Act.put, List.setIfInBounds_toArray, List.set_cons_zero, List.set_cons_succ])
                        refine' wpAnyH_take (i := 5) (oi := { dst := some 90, op := Go.Op.binOp Go.BinOp.leq 3 (Go.Operand.tmp 88) (Go.Operand.tmp 89) 3, type := 4, pos := "ref.go:275", after := #[{ on := 3, ground := Go.Ground.data }, { on := 4, ground := Go.Ground.data }], guard := none }) (v := _) rfl (by kernel_rfl) (by kernel_rfl) (by kernel_rfl) (fun _ _ _ h => h) (Or.inl ⟨by rfl, ?hyQa5⟩) (by assumption) ?restQa5
                        case hyQa5 =>
                          intro w' hSw
                          (try dsimp only at hSw)
                          go_simp
                          (first | done | with_reducible rfl)
                        (try simp only [Act.put, List.setIfInBounds_toArray, List.set_cons_zero, List.set_cons_succ])
                        refine' wpAnyH_take (i := 6) (oi := { dst := some 91, op := Go.Op.move (Go.Operand.tmp 90), type := 4, pos := "ref.go:275", after := #[{ on := 5, ground := Go.Ground.data }], guard := none }) (v := _) rfl (by kernel_rfl) (by kernel_rfl) (by kernel_rfl) (fun _ _ _ h => h) (Or.inl ⟨by rfl, ?hyQa6⟩) (by assumption) ?restQa6
                        case hyQa6 =>
                          intro w' hSw
                          (try dsimp only at hSw)
                          go_simp
                          (first | done | with_reducible rfl)
                        (try simp only [Act.put, List.setIfInBounds_toArray, List.set_cons_zero, List.set_cons_succ])
                        refine' wpAnyH_take (i := 7) (oi := { dst := some 92, op := Go.Op.move (Go.Operand.tmp 18), type := 3, pos := "ref.go:275", after := #[{ on := 6, ground := Go.Ground.guard }], guard := some (6, true) }) (v := _) rfl (by kernel_rfl) (by kernel_rfl) (by kernel_rfl) (fun _ _ _ h => h) (Or.inl ⟨by rfl, ?hyQa7⟩) (by assumption) ?restQa7
                        case hyQa7 =>
                          intro w' hSw
                          (try dsimp only at hSw)
                          go_simp
                          (first | done | with_reducible rfl)
                        (try simp only [Act.put, List.setIfInBounds_toArray, List.set_cons_zero, List.set_cons_succ])
                        refine' wpAnyH_take (i := 8) (oi := { dst := some 93, op := Go.Op.binOp Go.BinOp.lss 3 (Go.Operand.tmp 92) (Go.Operand.const (Go.Value.int Go.IntKind.i64 0)) 3, type := 4, pos := "ref.go:275", after := #[{ on := 7, ground := Go.Ground.data }, { on := 6, ground := Go.Ground.guard }], guard := some (6, true) }) (v := _) rfl (by kernel_rfl) (by kernel_rfl) (by kernel_rfl) (fun _ _ _ h => h) (Or.inl ⟨by rfl, ?hyQa8⟩) (by assumption) ?restQa8
                        case hyQa8 =>
                          intro w' hSw
                          (try dsimp only at hSw)
                          go_simp
                          (first | done | with_reducible rfl)
                        (try simp only [Act.put, List.setIfInBounds_toArray, List.set_cons_zero, List.set_cons_succ])
                        refine' wpAnyH_take (i := 9) (oi := { dst := some 94, op := Go.Op.move (Go.Operand.tmp 93), type := 4, pos := "ref.go:275", after := #[{ on := 8, ground := Go.Ground.data }, { on := 6, ground := Go.Ground.chain }, { on := 6, ground := Go.Ground.guard }], guard := some (6, true) }) (v := _) rfl (by kernel_rfl) (by kernel_rfl) (by kernel_rfl) (fun _ _ _ h => h) (Or.inl ⟨by rfl, ?hyQa9⟩) (by assumption) ?restQa9
                        case hyQa9 =>
                          intro w' hSw
                          (try dsimp only at hSw)
                          go_simp
                          (first | done | with_reducible rfl)
                        (try simp only [Act.put, List.setIfInBounds_toArray, List.set_cons_zero, List.set_cons_succ])
                        refine wpAnyH_take (i := 10) (oi := { dst := some 95, op := Go.Op.move (Go.Operand.tmp 13), type := 22, pos := "ref.go:275", after := #[{ on := 9, ground := Go.Ground.guard }], guard := some (9, false) }) (v := undef) rfl (by kernel_rfl) (by kernel_rfl) (by kernel_rfl) (fun _ _ _ h => h) (Or.inr ⟨by rfl, rfl⟩) (by assumption) ?_
                        (try simp only [Act.put, List.setIfInBounds_toArray, List.set_cons_zero, List.set_cons_succ])
                        refine wpAnyH_take (i := 11) (oi := { dst := some 96, op := Go.Op.move (Go.Operand.tmp 19), type := 3, pos := "ref.go:275", after := #[{ on := 9, ground := Go.Ground.guard }], guard := some (9, false) }) (v := undef) rfl (by kernel_rfl) (by kernel_rfl) (by kernel_rfl) (fun _ _ _ h => h) (Or.inr ⟨by rfl, rfl⟩) (by assumption) ?_
                        (try simp only [Act.put, List.setIfInBounds_toArray, List.set_cons_zero, List.set_cons_succ])
                        refine wpAnyH_take (i := 12) (oi := { dst := some 97, op := Go.Op.indexAddr 22 (Go.Operand.tmp 95) (Go.Operand.tmp 96), type := 0, pos := "ref.go:275", after := #[{ on := 10, ground := Go.Ground.data }, { on := 11, ground := Go.Ground.data }, { on := 9, ground := Go.Ground.guard }], guard := some (9, false) }) (v := undef) rfl (by kernel_rfl) (by kernel_rfl) (by kernel_rfl) (fun _ _ _ h => h) (Or.inr ⟨by rfl, rfl⟩) (by assumption) ?_
                        (try simp only [Act.put, List.setIfInBounds_toArray, List.set_cons_zero, List.set_cons_succ])
                        refine wpAnyH_take (i := 13) (oi := { dst := some 98, op := Go.Op.load 3 (Go.Operand.tmp 97), type := 3, pos := "ref.go:275", after := #[{ on := 12, ground := Go.Ground.data }, { on := 9, ground := Go.Ground.guard }], guard := some (9, false) }) (v := undef) rfl (by kernel_rfl) (by kernel_rfl) (by kernel_rfl) (fun _ _ _ h => h) (Or.inr ⟨by rfl, rfl⟩) (by assumption) ?_
                        (try simp only [Act.put, List.setIfInBounds_toArray, List.set_cons_zero, List.set_cons_succ])
                        refine wpAnyH_take (i := 14) (oi := { dst := some 99, op := Go.Op.move (Go.Operand.tmp 13), type := 22, pos := "ref.go:275", after := #[{ on := 9, ground := Go.Ground.guard }], guard := some (9, false) }) (v := undef) rfl (by kernel_rfl) (by kernel_rfl) (by kernel_rfl) (fun _ _ _ h => h) (Or.inr ⟨by rfl, rfl⟩) (by assumption) ?_
                        (try simp only [Act.put, List.setIfInBounds_toArray, List.set_cons_zero, List.set_cons_succ])
                        refine wpAnyH_take (i := 15) (oi := { dst := some 100, op := Go.Op.move (Go.Operand.tmp 18), type := 3, pos := "ref.go:275", after := #[{ on := 9, ground := Go.Ground.guard }], guard := some (9, false) }) (v := undef) rfl (by kernel_rfl) (by kernel_rfl) (by kernel_rfl) (fun _ _ _ h => h) (Or.inr ⟨by rfl, rfl⟩) (by assumption) ?_
                        (try simp only [Act.put, List.setIfInBounds_toArray, List.set_cons_zero, List.set_cons_succ])
                        refine wpAnyH_take (i := 16) (oi := { dst := some 101, op := Go.Op.indexAddr 22 (Go.Operand.tmp 99) (Go.Operand.tmp 100), type := 0, pos := "ref.go:275", after := #[{ on := 14, ground := Go.Ground.data }, { on := 15, ground := Go.Ground.data }, { on := 9, ground := Go.Ground.guard }], guard := some (9, false) }) (v := undef) rfl (by kernel_rfl) (by kernel_rfl) (by kernel_rfl) (fun _ _ _ h => h) (Or.inr ⟨by rfl, rfl⟩) (by assumption) ?_
                        (try simp only [Act.put, List.setIfInBounds_toArray, List.set_cons_zero, List.set_cons_succ])
                        refine wpAnyH_take (i := 17) (oi := { dst := some 102, op := Go.Op.load 3 (Go.Operand.tmp 101), type := 3, pos := "ref.go:275", after := #[{ on := 16, ground := Go.Ground.data }, { on := 9, ground := Go.Ground.guard }], guard := some (9, false) }) (v := undef) rfl (by kernel_rfl) (by kernel_rfl) (by kernel_rfl) (fun _ _ _ h => h) (Or.inr ⟨by rfl, rfl⟩) (by assumption) ?_
                        (try simp only [Act.put, List.setIfInBounds_toArray, List.set_cons_zero, List.set_cons_succ])
                        refine wpAnyH_take (i := 18) (oi := { dst := some 103, op := Go.Op.binOp Go.BinOp.lss 3 (Go.Operand.tmp 98) (Go.Operand.tmp 102) 3, type := 4, pos := "ref.go:275", after := #[{ on := 13, ground := Go.Ground.data }, { on := 17, ground := Go.Ground.data }, { on := 9, ground := Go.Ground.guard }], guard := some (9, false) }) (v := undef) rfl (by kernel_rfl) (by kernel_rfl) (by kernel_rfl) (fun _ _ _ h => h) (Or.inr ⟨by rfl, rfl⟩) (by assumption) ?_
                        (try simp only [Act.put, List.setIfInBounds_toArray, List.set_cons_zero, List.set_cons_succ])
                        refine' wpAnyH_take (i := 19) (oi := { dst := some 104, op := Go.Op.pick (Go.Operand.tmp 94) (Go.Operand.const (Go.Value.bool true)) (Go.Operand.tmp 103), type := 4, pos := "ref.go:275", after := #[{ on := 9, ground := Go.Ground.data }, { on := 18, ground := Go.Ground.data }, { on := 6, ground := Go.Ground.guard }], guard := some (6, true) }) (v := _) rfl (by kernel_rfl) (by kernel_rfl) (by kernel_rfl) (fun _ _ _ h => h) (Or.inl ⟨by rfl, ?hyQa19⟩) (by assumption) ?restQa19
                        case hyQa19 =>
                          intro w' hSw
                          (try dsimp only at hSw)
                          go_simp
                          (first | done | with_reducible rfl)
                        (try simp only [Act.put, List.setIfInBounds_toArray, List.set_cons_zero, List.set_cons_succ])
                        refine' wpAnyH_take (i := 20) (oi := { dst := some 105, op := Go.Op.pick (Go.Operand.tmp 91) (Go.Operand.tmp 104) (Go.Operand.const (Go.Value.bool false)), type := 4, pos := "ref.go:275", after := #[{ on := 6, ground := Go.Ground.data }, { on := 19, ground := Go.Ground.data }], guard := none }) (v := _) rfl (by kernel_rfl) (by kernel_rfl) (by kernel_rfl) (fun _ _ _ h => h) (Or.inl ⟨by rfl, ?hyQa20⟩) (by assumption) ?restQa20
                        case hyQa20 =>
                          intro w' hSw
                          (try dsimp only at hSw)
                          go_simp
                          (first | done | with_reducible rfl)
                        (try simp only [Act.put, List.setIfInBounds_toArray, List.set_cons_zero, List.set_cons_succ])
                        refine' wpAnyH_take (i := 21) (oi := { dst := some 106, op := Go.Op.move (Go.Operand.tmp 105), type := 4, pos := "ref.go:275", after := #[{ on := 20, ground := Go.Ground.data }, { on := 9, ground := Go.Ground.chain }], guard := none }) (v := _) rfl (by kernel_rfl) (by kernel_rfl) (by kernel_rfl) (fun _ _ _ h => h) (Or.inl ⟨by rfl, ?hyQa21⟩) (by assumption) ?restQa21
                        case hyQa21 =>
                          intro w' hSw
                          (try dsimp only at hSw)
                          go_simp
                          (first | done | with_reducible rfl)
                        (try simp only [Act.put, List.setIfInBounds_toArray, List.set_cons_zero, List.set_cons_succ])
                        refine' wpAnyH_take (i := 22) (oi := { dst := some 107, op := Go.Op.move (Go.Operand.tmp 10), type := 22, pos := "ref.go:275", after := #[{ on := 21, ground := Go.Ground.guard }], guard := some (21, true) }) (v := _) rfl (by kernel_rfl) (by kernel_rfl) (by kernel_rfl) (fun _ _ _ h => h) (Or.inl ⟨by rfl, ?hyQa22⟩) (by assumption) ?restQa22
                        case hyQa22 =>
                          intro w' hSw
                          (try dsimp only at hSw)
                          go_simp
                          (first | done | with_reducible rfl)
                        (try simp only [Act.put, List.setIfInBounds_toArray, List.set_cons_zero, List.set_cons_succ])
                        refine' wpAnyH_take (i := 23) (oi := { dst := some 108, op := Go.Op.move (Go.Operand.tmp 13), type := 22, pos := "ref.go:275", after := #[{ on := 21, ground := Go.Ground.guard }], guard := some (21, true) }) (v := _) rfl (by kernel_rfl) (by kernel_rfl) (by kernel_rfl) (fun _ _ _ h => h) (Or.inl ⟨by rfl, ?hyQa23⟩) (by assumption) ?restQa23
                        case hyQa23 =>
                          intro w' hSw
                          (try dsimp only at hSw)
                          go_simp
                          (first | done | with_reducible rfl)
                        (try simp only [Act.put, List.setIfInBounds_toArray, List.set_cons_zero, List.set_cons_succ])
                        refine' wpAnyH_take (i := 24) (oi := { dst := some 109, op := Go.Op.move (Go.Operand.tmp 19), type := 3, pos := "ref.go:275", after := #[{ on := 21, ground := Go.Ground.guard }], guard := some (21, true) }) (v := _) rfl (by kernel_rfl) (by kernel_rfl) (by kernel_rfl) (fun _ _ _ h => h) (Or.inl ⟨by rfl, ?hyQa24⟩) (by assumption) ?restQa24
                        case hyQa24 =>
                          intro w' hSw
                          (try dsimp only at hSw)
                          go_simp
                          (first | done | with_reducible rfl)
                        (try simp only [Act.put, List.setIfInBounds_toArray, List.set_cons_zero, List.set_cons_succ])
                        refine wpAnyH_ready (rs := [25]) (by kernel_rfl) (by simp) ?_
                        refine AllReadyH.cons (o := { dst := some 110, op := Go.Op.call { callee := Go.Callee.value (Go.Operand.func 55), args := #[Go.Operand.tmp 108, Go.Operand.tmp 109], argTypes := #[22, 3] }, type := 22, pos := "ref.go:275", after := #[{ on := 23, ground := Go.Ground.data }, { on := 24, ground := Go.Ground.data }, { on := 21, ground := Go.Ground.chain }, { on := 21, ground := Go.Ground.guard }], guard := some (21, true) }) rfl (fun K hK => ?_) AllReadyH.nil
                        go_simp
                        refine (without_sl A2 O2 m cs' k S _ HM.out hkm hmc hcm2 (by omega) (by first | exact hA25 | (simp; exact hA25)) (Lib.hid (HN25.out _ (by repeat (first | exact Below.refl _ _ | refine Below.drew ?_))))).mono ?_
                        rintro e w26 ⟨⟨sa, ca, rfl, hslA⟩, hbA'⟩
                        have hbA : Below wr.heap.size wr w26 := Below.trans (by repeat (first | exact Below.refl _ _ | refine Below.drew ?_)) (hbA'.mono (by first | exact Nat.le_refl _ | simp))
                        (try go_wp2_with fail)
                        refine hK.out _ _ ?_ (fun hHeld2 => ?_)
                        · exact FS.out _ (by repeat (first | exact hbA | refine Below.drew ?_))
                        clear hK K
                        (try simp only [Act.put, List.setIfInBounds_toArray, List.set_cons_zero, List.set_cons_succ])
                        refine wpAnyH_ready (rs := [26]) (by kernel_rfl) (by simp) ?_
                        refine AllReadyH.cons (o := { dst := some 111, op := Go.Op.call { callee := Go.Callee.value (Go.Operand.func 54), args := #[Go.Operand.tmp 107, Go.Operand.tmp 110], argTypes := #[22, 22] }, type := 4, pos := "ref.go:275", after := #[{ on := 22, ground := Go.Ground.data }, { on := 25, ground := Go.Ground.data }, { on := 25, ground := Go.Ground.chain }, { on := 21, ground := Go.Ground.guard }], guard := some (21, true) }) rfl (fun K hK => ?_) AllReadyH.nil
                        go_simp
                        refine (fills_w _ _ _ _ _ _ L' (S.eraseIdx k) _ rfl rfl (by omega) (by omega) (Lib.hid (HL25.out _ (by repeat (first | exact hbA | refine Below.drew ?_)))) (Lib.hid (by first | exact hslA | exact hslA.below (by repeat (first | exact Below.refl _ _ | refine Below.drew ?_))))).mono ?_
                        rw [HFF.out]
                        rintro e w27 ⟨rfl, hbF⟩
                        have hbB : Below wr.heap.size wr w27 := Below.trans (by repeat (first | exact hbA | refine Below.drew ?_)) (hbF.mono (by first | exact hbA.size | (simp; exact hbA.size)))
                        (try go_wp2_with fail)
                        refine hK.out _ _ ?_ (fun hHeld3 => ?_)
                        · exact FS.out _ (by repeat (first | exact hbB | refine Below.drew ?_))
                        clear hK K
                        (try simp only [Act.put, List.setIfInBounds_toArray, List.set_cons_zero, List.set_cons_succ])
                        refine' wpAnyH_take (i := 27) (oi := { dst := some 112, op := Go.Op.pick (Go.Operand.tmp 106) (Go.Operand.tmp 111) (Go.Operand.const (Go.Value.bool false)), type := 4, pos := "ref.go:275", after := #[{ on := 21, ground := Go.Ground.data }, { on := 26, ground := Go.Ground.data }], guard := none }) (v := _) rfl (by kernel_rfl) (by kernel_rfl) (by kernel_rfl) (fun _ _ _ h => h) (Or.inl ⟨by rfl, ?hyQa27⟩) (by assumption) ?restQa27
                        case hyQa27 =>
                          intro w' hSw
                          (try dsimp only at hSw)
                          go_simp
                          (first | done | with_reducible rfl)
                        (try simp only [Act.put, List.setIfInBounds_toArray, List.set_cons_zero, List.set_cons_succ])
                        refine wpAnyH_done (by kernel_rfl) ?_ _
                        have HB21 := Lib.hid hbB
                        clear hbA hbA' hbB hbF hslA hS hHeld hHeld2 hHeld3
                        go_wp2
                        go_roundw
                        case rel => exact ⟨k + 1, by omega, by go_num, .inl ⟨rfl, fun q hq ho => by
                          by_cases e : q = k
                          · rw [e, HU.out, HOF.out] at ho; cases ho.2
                          · exact hall2.out q (by omega) ho⟩, hb2.trans (HB21.out.mono hb2.size)⟩
                        case measure => simp [intOf]; omega
                      · skip
                        go_wp2
                        have hS := FS.out _ (Below.refl _ _)
                        refine wp_region_held_drew (S := fun w' => w'.cell? ⟨A2, O2 + k, none⟩ = some (.int .i64 u)) (by kernel_rfl) ?_ (fun hHeld => ?_)
                        · exact FS.out _ (by repeat (first | exact Below.refl _ _ | refine Below.drew ?_))
                        refine' wpAnyH_take (i := 0) (oi := { dst := some 85, op := Go.Op.move (Go.Operand.tmp 13), type := 22, pos := "ref.go:275", after := #[], guard := none }) (v := _) rfl (by kernel_rfl) (by kernel_rfl) (by kernel_rfl) (fun _ _ _ h => h) (Or.inl ⟨by rfl, ?hyQb0⟩) (by assumption) ?restQb0
                        case hyQb0 =>
                          intro w' hSw
                          (try dsimp only at hSw)
                          go_simp
                          (first | done | with_reducible rfl)
                        (try simp only [Act.put, List.setIfInBounds_toArray, List.set_cons_zero, List.set_cons_succ])
                        refine' wpAnyH_take (i := 1) (oi := { dst := some 86, op := Go.Op.move (Go.Operand.tmp 19), type := 3, pos := "ref.go:275", after := #[], guard := none }) (v := _) rfl (by kernel_rfl) (by kernel_rfl) (by kernel_rfl) (fun _ _ _ h => h) (Or.inl ⟨by rfl, ?hyQb1⟩) (by assumption) ?restQb1
                        case hyQb1 =>
                          intro w' hSw
                          (try dsimp only at hSw)
                          go_simp
                          (first | done | with_reducible rfl)
                        (try simp only [Act.put, List.setIfInBounds_toArray, List.set_cons_zero, List.set_cons_succ])
                        refine' wpAnyH_take (i := 2) (oi := { dst := some 87, op := Go.Op.indexAddr 22 (Go.Operand.tmp 85) (Go.Operand.tmp 86), type := 0, pos := "ref.go:275", after := #[{ on := 0, ground := Go.Ground.data }, { on := 1, ground := Go.Ground.data }], guard := none }) (v := _) rfl (by kernel_rfl) (by kernel_rfl) (by kernel_rfl) (fun _ _ _ h => h) (Or.inl ⟨by rfl, ?hyQb2⟩) (by assumption) ?restQb2
                        case hyQb2 =>
                          intro w' hSw
                          (try dsimp only at hSw)
                          go_simp
                          (first | done | with_reducible rfl)
                        (try simp only [Act.put, List.setIfInBounds_toArray, List.set_cons_zero, List.set_cons_succ])
                        refine' wpAnyH_take (i := 3) (oi := { dst := some 88, op := Go.Op.load 3 (Go.Operand.tmp 87), type := 3, pos := "ref.go:275", after := #[{ on := 2, ground := Go.Ground.data }], guard := none }) (v := _) rfl (by kernel_rfl) (by kernel_rfl) (by kernel_rfl) (fun _ _ _ h => h) (Or.inl ⟨by rfl, ?hyQb3⟩) (by assumption) ?restQb3
                        case hyQb3 =>
                          intro w' hSw
                          (try dsimp only at hSw)
                          go_simp
                          (first | done | with_reducible rfl)
                        (try simp only [Act.put, List.setIfInBounds_toArray, List.set_cons_zero, List.set_cons_succ])
                        refine' wpAnyH_take (i := 4) (oi := { dst := some 89, op := Go.Op.move (Go.Operand.tmp 17), type := 3, pos := "ref.go:275", after := #[], guard := none }) (v := _) rfl (by kernel_rfl) (by kernel_rfl) (by kernel_rfl) (fun _ _ _ h => h) (Or.inl ⟨by rfl, ?hyQb4⟩) (by assumption) ?restQb4
                        case hyQb4 =>
                          intro w' hSw
                          (try dsimp only at hSw)
                          go_simp
                          (first | done | with_reducible rfl)
                        (try simp only [Act.put, List.setIfInBounds_toArray, List.set_cons_zero, List.set_cons_succ])
                        refine' wpAnyH_take (i := 5) (oi := { dst := some 90, op := Go.Op.binOp Go.BinOp.leq 3 (Go.Operand.tmp 88) (Go.Operand.tmp 89) 3, type := 4, pos := "ref.go:275", after := #[{ on := 3, ground := Go.Ground.data }, { on := 4, ground := Go.Ground.data }], guard := none }) (v := _) rfl (by kernel_rfl) (by kernel_rfl) (by kernel_rfl) (fun _ _ _ h => h) (Or.inl ⟨by rfl, ?hyQb5⟩) (by assumption) ?restQb5
                        case hyQb5 =>
                          intro w' hSw
                          (try dsimp only at hSw)
                          go_simp
                          (first | done | with_reducible rfl)
                        (try simp only [Act.put, List.setIfInBounds_toArray, List.set_cons_zero, List.set_cons_succ])
                        refine' wpAnyH_take (i := 6) (oi := { dst := some 91, op := Go.Op.move (Go.Operand.tmp 90), type := 4, pos := "ref.go:275", after := #[{ on := 5, ground := Go.Ground.data }], guard := none }) (v := _) rfl (by kernel_rfl) (by kernel_rfl) (by kernel_rfl) (fun _ _ _ h => h) (Or.inl ⟨by rfl, ?hyQb6⟩) (by assumption) ?restQb6
                        case hyQb6 =>
                          intro w' hSw
                          (try dsimp only at hSw)
                          go_simp
                          (first | done | with_reducible rfl)
                        (try simp only [Act.put, List.setIfInBounds_toArray, List.set_cons_zero, List.set_cons_succ])
                        refine' wpAnyH_take (i := 7) (oi := { dst := some 92, op := Go.Op.move (Go.Operand.tmp 18), type := 3, pos := "ref.go:275", after := #[{ on := 6, ground := Go.Ground.guard }], guard := some (6, true) }) (v := _) rfl (by kernel_rfl) (by kernel_rfl) (by kernel_rfl) (fun _ _ _ h => h) (Or.inl ⟨by rfl, ?hyQb7⟩) (by assumption) ?restQb7
                        case hyQb7 =>
                          intro w' hSw
                          (try dsimp only at hSw)
                          go_simp
                          (first | done | with_reducible rfl)
                        (try simp only [Act.put, List.setIfInBounds_toArray, List.set_cons_zero, List.set_cons_succ])
                        refine' wpAnyH_take (i := 8) (oi := { dst := some 93, op := Go.Op.binOp Go.BinOp.lss 3 (Go.Operand.tmp 92) (Go.Operand.const (Go.Value.int Go.IntKind.i64 0)) 3, type := 4, pos := "ref.go:275", after := #[{ on := 7, ground := Go.Ground.data }, { on := 6, ground := Go.Ground.guard }], guard := some (6, true) }) (v := _) rfl (by kernel_rfl) (by kernel_rfl) (by kernel_rfl) (fun _ _ _ h => h) (Or.inl ⟨by rfl, ?hyQb8⟩) (by assumption) ?restQb8
                        case hyQb8 =>
                          intro w' hSw
                          (try dsimp only at hSw)
                          go_simp
                          (first | done | with_reducible rfl)
                        (try simp only [Act.put, List.setIfInBounds_toArray, List.set_cons_zero, List.set_cons_succ])
                        refine' wpAnyH_take (i := 9) (oi := { dst := some 94, op := Go.Op.move (Go.Operand.tmp 93), type := 4, pos := "ref.go:275", after := #[{ on := 8, ground := Go.Ground.data }, { on := 6, ground := Go.Ground.chain }, { on := 6, ground := Go.Ground.guard }], guard := some (6, true) }) (v := _) rfl (by kernel_rfl) (by kernel_rfl) (by kernel_rfl) (fun _ _ _ h => h) (Or.inl ⟨by rfl, ?hyQb9⟩) (by assumption) ?restQb9
                        case hyQb9 =>
                          intro w' hSw
                          (try dsimp only at hSw)
                          go_simp
                          (first | done | with_reducible rfl)
                        (try simp only [Act.put, List.setIfInBounds_toArray, List.set_cons_zero, List.set_cons_succ])
                        refine wpAnyH_take (i := 10) (oi := { dst := some 95, op := Go.Op.move (Go.Operand.tmp 13), type := 22, pos := "ref.go:275", after := #[{ on := 9, ground := Go.Ground.guard }], guard := some (9, false) }) (v := undef) rfl (by kernel_rfl) (by kernel_rfl) (by kernel_rfl) (fun _ _ _ h => h) (Or.inr ⟨by rfl, rfl⟩) (by assumption) ?_
                        (try simp only [Act.put, List.setIfInBounds_toArray, List.set_cons_zero, List.set_cons_succ])
                        refine wpAnyH_take (i := 11) (oi := { dst := some 96, op := Go.Op.move (Go.Operand.tmp 19), type := 3, pos := "ref.go:275", after := #[{ on := 9, ground := Go.Ground.guard }], guard := some (9, false) }) (v := undef) rfl (by kernel_rfl) (by kernel_rfl) (by kernel_rfl) (fun _ _ _ h => h) (Or.inr ⟨by rfl, rfl⟩) (by assumption) ?_
                        (try simp only [Act.put, List.setIfInBounds_toArray, List.set_cons_zero, List.set_cons_succ])
                        refine wpAnyH_take (i := 12) (oi := { dst := some 97, op := Go.Op.indexAddr 22 (Go.Operand.tmp 95) (Go.Operand.tmp 96), type := 0, pos := "ref.go:275", after := #[{ on := 10, ground := Go.Ground.data }, { on := 11, ground := Go.Ground.data }, { on := 9, ground := Go.Ground.guard }], guard := some (9, false) }) (v := undef) rfl (by kernel_rfl) (by kernel_rfl) (by kernel_rfl) (fun _ _ _ h => h) (Or.inr ⟨by rfl, rfl⟩) (by assumption) ?_
                        (try simp only [Act.put, List.setIfInBounds_toArray, List.set_cons_zero, List.set_cons_succ])
                        refine wpAnyH_take (i := 13) (oi := { dst := some 98, op := Go.Op.load 3 (Go.Operand.tmp 97), type := 3, pos := "ref.go:275", after := #[{ on := 12, ground := Go.Ground.data }, { on := 9, ground := Go.Ground.guard }], guard := some (9, false) }) (v := undef) rfl (by kernel_rfl) (by kernel_rfl) (by kernel_rfl) (fun _ _ _ h => h) (Or.inr ⟨by rfl, rfl⟩) (by assumption) ?_
                        (try simp only [Act.put, List.setIfInBounds_toArray, List.set_cons_zero, List.set_cons_succ])
                        refine wpAnyH_take (i := 14) (oi := { dst := some 99, op := Go.Op.move (Go.Operand.tmp 13), type := 22, pos := "ref.go:275", after := #[{ on := 9, ground := Go.Ground.guard }], guard := some (9, false) }) (v := undef) rfl (by kernel_rfl) (by kernel_rfl) (by kernel_rfl) (fun _ _ _ h => h) (Or.inr ⟨by rfl, rfl⟩) (by assumption) ?_
                        (try simp only [Act.put, List.setIfInBounds_toArray, List.set_cons_zero, List.set_cons_succ])
                        refine wpAnyH_take (i := 15) (oi := { dst := some 100, op := Go.Op.move (Go.Operand.tmp 18), type := 3, pos := "ref.go:275", after := #[{ on := 9, ground := Go.Ground.guard }], guard := some (9, false) }) (v := undef) rfl (by kernel_rfl) (by kernel_rfl) (by kernel_rfl) (fun _ _ _ h => h) (Or.inr ⟨by rfl, rfl⟩) (by assumption) ?_
                        (try simp only [Act.put, List.setIfInBounds_toArray, List.set_cons_zero, List.set_cons_succ])
                        refine wpAnyH_take (i := 16) (oi := { dst := some 101, op := Go.Op.indexAddr 22 (Go.Operand.tmp 99) (Go.Operand.tmp 100), type := 0, pos := "ref.go:275", after := #[{ on := 14, ground := Go.Ground.data }, { on := 15, ground := Go.Ground.data }, { on := 9, ground := Go.Ground.guard }], guard := some (9, false) }) (v := undef) rfl (by kernel_rfl) (by kernel_rfl) (by kernel_rfl) (fun _ _ _ h => h) (Or.inr ⟨by rfl, rfl⟩) (by assumption) ?_
                        (try simp only [Act.put, List.setIfInBounds_toArray, List.set_cons_zero, List.set_cons_succ])
                        refine wpAnyH_take (i := 17) (oi := { dst := some 102, op := Go.Op.load 3 (Go.Operand.tmp 101), type := 3, pos := "ref.go:275", after := #[{ on := 16, ground := Go.Ground.data }, { on := 9, ground := Go.Ground.guard }], guard := some (9, false) }) (v := undef) rfl (by kernel_rfl) (by kernel_rfl) (by kernel_rfl) (fun _ _ _ h => h) (Or.inr ⟨by rfl, rfl⟩) (by assumption) ?_
                        (try simp only [Act.put, List.setIfInBounds_toArray, List.set_cons_zero, List.set_cons_succ])
                        refine wpAnyH_take (i := 18) (oi := { dst := some 103, op := Go.Op.binOp Go.BinOp.lss 3 (Go.Operand.tmp 98) (Go.Operand.tmp 102) 3, type := 4, pos := "ref.go:275", after := #[{ on := 13, ground := Go.Ground.data }, { on := 17, ground := Go.Ground.data }, { on := 9, ground := Go.Ground.guard }], guard := some (9, false) }) (v := undef) rfl (by kernel_rfl) (by kernel_rfl) (by kernel_rfl) (fun _ _ _ h => h) (Or.inr ⟨by rfl, rfl⟩) (by assumption) ?_
                        (try simp only [Act.put, List.setIfInBounds_toArray, List.set_cons_zero, List.set_cons_succ])
                        refine' wpAnyH_take (i := 19) (oi := { dst := some 104, op := Go.Op.pick (Go.Operand.tmp 94) (Go.Operand.const (Go.Value.bool true)) (Go.Operand.tmp 103), type := 4, pos := "ref.go:275", after := #[{ on := 9, ground := Go.Ground.data }, { on := 18, ground := Go.Ground.data }, { on := 6, ground := Go.Ground.guard }], guard := some (6, true) }) (v := _) rfl (by kernel_rfl) (by kernel_rfl) (by kernel_rfl) (fun _ _ _ h => h) (Or.inl ⟨by rfl, ?hyQb19⟩) (by assumption) ?restQb19
                        case hyQb19 =>
                          intro w' hSw
                          (try dsimp only at hSw)
                          go_simp
                          (first | done | with_reducible rfl)
                        (try simp only [Act.put, List.setIfInBounds_toArray, List.set_cons_zero, List.set_cons_succ])
                        refine' wpAnyH_take (i := 20) (oi := { dst := some 105, op := Go.Op.pick (Go.Operand.tmp 91) (Go.Operand.tmp 104) (Go.Operand.const (Go.Value.bool false)), type := 4, pos := "ref.go:275", after := #[{ on := 6, ground := Go.Ground.data }, { on := 19, ground := Go.Ground.data }], guard := none }) (v := _) rfl (by kernel_rfl) (by kernel_rfl) (by kernel_rfl) (fun _ _ _ h => h) (Or.inl ⟨by rfl, ?hyQb20⟩) (by assumption) ?restQb20
                        case hyQb20 =>
                          intro w' hSw
                          (try dsimp only at hSw)
                          go_simp
                          (first | done | with_reducible rfl)
                        (try simp only [Act.put, List.setIfInBounds_toArray, List.set_cons_zero, List.set_cons_succ])
                        refine' wpAnyH_take (i := 21) (oi := { dst := some 106, op := Go.Op.move (Go.Operand.tmp 105), type := 4, pos := "ref.go:275", after := #[{ on := 20, ground := Go.Ground.data }, { on := 9, ground := Go.Ground.chain }], guard := none }) (v := _) rfl (by kernel_rfl) (by kernel_rfl) (by kernel_rfl) (fun _ _ _ h => h) (Or.inl ⟨by rfl, ?hyQb21⟩) (by assumption) ?restQb21
                        case hyQb21 =>
                          intro w' hSw
                          (try dsimp only at hSw)
                          go_simp
                          (first | done | with_reducible rfl)
                        (try simp only [Act.put, List.setIfInBounds_toArray, List.set_cons_zero, List.set_cons_succ])
                        refine' wpAnyH_take (i := 22) (oi := { dst := some 107, op := Go.Op.move (Go.Operand.tmp 10), type := 22, pos := "ref.go:275", after := #[{ on := 21, ground := Go.Ground.guard }], guard := some (21, true) }) (v := _) rfl (by kernel_rfl) (by kernel_rfl) (by kernel_rfl) (fun _ _ _ h => h) (Or.inl ⟨by rfl, ?hyQb22⟩) (by assumption) ?restQb22
                        case hyQb22 =>
                          intro w' hSw
                          (try dsimp only at hSw)
                          go_simp
                          (first | done | with_reducible rfl)
                        (try simp only [Act.put, List.setIfInBounds_toArray, List.set_cons_zero, List.set_cons_succ])
                        refine' wpAnyH_take (i := 23) (oi := { dst := some 108, op := Go.Op.move (Go.Operand.tmp 13), type := 22, pos := "ref.go:275", after := #[{ on := 21, ground := Go.Ground.guard }], guard := some (21, true) }) (v := _) rfl (by kernel_rfl) (by kernel_rfl) (by kernel_rfl) (fun _ _ _ h => h) (Or.inl ⟨by rfl, ?hyQb23⟩) (by assumption) ?restQb23
                        case hyQb23 =>
                          intro w' hSw
                          (try dsimp only at hSw)
                          go_simp
                          (first | done | with_reducible rfl)
                        (try simp only [Act.put, List.setIfInBounds_toArray, List.set_cons_zero, List.set_cons_succ])
                        refine' wpAnyH_take (i := 24) (oi := { dst := some 109, op := Go.Op.move (Go.Operand.tmp 19), type := 3, pos := "ref.go:275", after := #[{ on := 21, ground := Go.Ground.guard }], guard := some (21, true) }) (v := _) rfl (by kernel_rfl) (by kernel_rfl) (by kernel_rfl) (fun _ _ _ h => h) (Or.inl ⟨by rfl, ?hyQb24⟩) (by assumption) ?restQb24
                        case hyQb24 =>
                          intro w' hSw
                          (try dsimp only at hSw)
                          go_simp
                          (first | done | with_reducible rfl)
                        (try simp only [Act.put, List.setIfInBounds_toArray, List.set_cons_zero, List.set_cons_succ])
                        refine wpAnyH_ready (rs := [25]) (by kernel_rfl) (by simp) ?_
                        refine AllReadyH.cons (o := { dst := some 110, op := Go.Op.call { callee := Go.Callee.value (Go.Operand.func 55), args := #[Go.Operand.tmp 108, Go.Operand.tmp 109], argTypes := #[22, 3] }, type := 22, pos := "ref.go:275", after := #[{ on := 23, ground := Go.Ground.data }, { on := 24, ground := Go.Ground.data }, { on := 21, ground := Go.Ground.chain }, { on := 21, ground := Go.Ground.guard }], guard := some (21, true) }) rfl (fun K hK => ?_) AllReadyH.nil
                        go_simp
                        refine (without_sl A2 O2 m cs' k S _ HM.out hkm hmc hcm2 (by omega) (by first | exact hA25 | (simp; exact hA25)) (Lib.hid (HN25.out _ (by repeat (first | exact Below.refl _ _ | refine Below.drew ?_))))).mono ?_
                        rintro e w26 ⟨⟨sa, ca, rfl, hslA⟩, hbA'⟩
                        have hbA : Below wr.heap.size wr w26 := Below.trans (by repeat (first | exact Below.refl _ _ | refine Below.drew ?_)) (hbA'.mono (by first | exact Nat.le_refl _ | simp))
                        (try go_wp2_with fail)
                        refine hK.out _ _ ?_ (fun hHeld2 => ?_)
                        · exact FS.out _ (by repeat (first | exact hbA | refine Below.drew ?_))
                        clear hK K
                        (try simp only [Act.put, List.setIfInBounds_toArray, List.set_cons_zero, List.set_cons_succ])
                        refine wpAnyH_ready (rs := [26]) (by kernel_rfl) (by simp) ?_
                        refine AllReadyH.cons (o := { dst := some 111, op := Go.Op.call { callee := Go.Callee.value (Go.Operand.func 54), args := #[Go.Operand.tmp 107, Go.Operand.tmp 110], argTypes := #[22, 22] }, type := 4, pos := "ref.go:275", after := #[{ on := 22, ground := Go.Ground.data }, { on := 25, ground := Go.Ground.data }, { on := 25, ground := Go.Ground.chain }, { on := 21, ground := Go.Ground.guard }], guard := some (21, true) }) rfl (fun K hK => ?_) AllReadyH.nil
                        go_simp
                        refine (fills_w _ _ _ _ _ _ L' (S.eraseIdx k) _ rfl rfl (by omega) (by omega) (Lib.hid (HL25.out _ (by repeat (first | exact hbA | refine Below.drew ?_)))) (Lib.hid (by first | exact hslA | exact hslA.below (by repeat (first | exact Below.refl _ _ | refine Below.drew ?_))))).mono ?_
                        rw [HFF.out]
                        rintro e w27 ⟨rfl, hbF⟩
                        have hbB : Below wr.heap.size wr w27 := Below.trans (by repeat (first | exact hbA | refine Below.drew ?_)) (hbF.mono (by first | exact hbA.size | (simp; exact hbA.size)))
                        (try go_wp2_with fail)
                        refine hK.out _ _ ?_ (fun hHeld3 => ?_)
                        · exact FS.out _ (by repeat (first | exact hbB | refine Below.drew ?_))
                        clear hK K
                        (try simp only [Act.put, List.setIfInBounds_toArray, List.set_cons_zero, List.set_cons_succ])
                        refine' wpAnyH_take (i := 27) (oi := { dst := some 112, op := Go.Op.pick (Go.Operand.tmp 106) (Go.Operand.tmp 111) (Go.Operand.const (Go.Value.bool false)), type := 4, pos := "ref.go:275", after := #[{ on := 21, ground := Go.Ground.data }, { on := 26, ground := Go.Ground.data }], guard := none }) (v := _) rfl (by kernel_rfl) (by kernel_rfl) (by kernel_rfl) (fun _ _ _ h => h) (Or.inl ⟨by rfl, ?hyQb27⟩) (by assumption) ?restQb27
                        case hyQb27 =>
                          intro w' hSw
                          (try dsimp only at hSw)
                          go_simp
                          (first | done | with_reducible rfl)
                        (try simp only [Act.put, List.setIfInBounds_toArray, List.set_cons_zero, List.set_cons_succ])
                        refine wpAnyH_done (by kernel_rfl) ?_ _
                        have HB21 := Lib.hid hbB
                        clear hbA hbA' hbB hbF hslA hS hHeld hHeld2 hHeld3
                        go_wp2
                        go_roundw
                        case rel => exact ⟨k + 1, by omega, by go_num, .inr ⟨k, rfl, by omega, by rw [HU.out]; exact ⟨HOF.out.mpr ⟨hux, by first | rfl | trivial⟩, fun q hq ho => by
                          by_cases e : q = k
                          · rw [e, HU.out]; exact Int.le_refl _
                          · exact (hall2.out q (by omega) ho).elim⟩⟩, hb2.trans (HB21.out.mono hb2.size)⟩
                        case measure => simp [intOf]; omega
                    · have y2 := HN25.out _ (Below.refl _ _) a (by omega)
                      simp only [] at y2
                      obtain ⟨v, hv⟩ : ∃ v, S.getD a 0 = v := ⟨_, rfl⟩
                      rw [hv] at y2 hoa
                      have n3 : (0 : Int) ≤ (a : Int) := by omega
                      have n4 : (a : Int) < (m : Int) := by omega
                      have n5 : decide ((a : Int) < 0) = false := decide_eq_false (by omega)
                      have FS : Hid (∀ w', Below wr.heap.size wr w' → w'.cell? ⟨A2, O2 + k, none⟩ = some (.int .i64 u) ∧ w'.cell? ⟨A2, O2 + a, none⟩ = some (.int .i64 v)) := Lib.hid fun w' h => ⟨(h.cell (p := ⟨A2, O2 + k, none⟩) hA25).trans y1, (h.cell (p := ⟨A2, O2 + a, none⟩) hA25).trans y2⟩
                      have HV := Lib.hid hv
                      clear hv
                      by_cases huv : u < v
                      · have hd2 : decide (u < v) = true := decide_eq_true huv
                        cases f
                        · skip
                          go_wp2
                          have hS := FS.out _ (Below.refl _ _)
                          go_region_held3 (fun w' => w'.cell? ⟨A2, O2 + k, none⟩ = some (.int .i64 u) ∧ w'.cell? ⟨A2, O2 + a, none⟩ = some (.int .i64 v)) ((first | exact hS | (refine FS.out _ ?_; repeat (first | exact Below.refl _ _ | exact hbB | exact hbA | refine Below.drew ?_)))) ((first
                            | (have hxA := hbA; go_at_call 54; refine (fills_w _ _ _ _ _ _ L' (S.eraseIdx k) _ rfl rfl (by omega) (by omega) (Lib.hid (HL25.out _ (by repeat (first | exact hbA | refine Below.drew ?_)))) (Lib.hid (by first | exact hslA | exact hslA.below (by repeat (first | exact Below.refl _ _ | refine Below.drew ?_))))).mono ?_; rw [HFF.out]; rintro e w27 ⟨rfl, hbF⟩; have hbB : Below wr.heap.size wr w27 := Below.trans (by repeat (first | exact hbA | refine Below.drew ?_)) (hbF.mono (by first | exact hbA.size | (simp; exact hbA.size))); have hS := FS.out _ hbB)
                            | (go_at_call 55; refine (without_sl A2 O2 m cs' k S _ HM.out hkm hmc hcm2 (by omega) (by first | exact hA25 | (simp; exact hA25)) (Lib.hid (HN25.out _ (by repeat (first | exact Below.refl _ _ | refine Below.drew ?_))))).mono ?_; rintro e w26 ⟨⟨sa, ca, rfl, hslA⟩, hbA'⟩; have hbA : Below wr.heap.size wr w26 := Below.trans (by repeat (first | exact Below.refl _ _ | refine Below.drew ?_)) (hbA'.mono (by first | exact Nat.le_refl _ | simp)); have hS := FS.out _ hbA)))
                          all_goals
                            have HB21 := Lib.hid hbB
                            clear hbA hbA' hbB hbF hslA hS hxA
                            go_wp2
                            go_roundw
                            case rel => exact ⟨k + 1, by omega, by go_num, .inr ⟨a, rfl, by omega, by rw [HV.out]; exact ⟨hoa.out.1, fun q hq ho => by
                            by_cases e : q = k
                            · rw [e, HU.out, HOF.out] at ho; cases ho.2
                            · exact hoa.out.2 q (by omega) ho⟩⟩, hb2.trans (HB21.out.mono hb2.size)⟩
                            case measure => simp [intOf]; omega
                        · skip
                          go_wp2
                          have hS := FS.out _ (Below.refl _ _)
                          go_region_held3 (fun w' => w'.cell? ⟨A2, O2 + k, none⟩ = some (.int .i64 u) ∧ w'.cell? ⟨A2, O2 + a, none⟩ = some (.int .i64 v)) ((first | exact hS | (refine FS.out _ ?_; repeat (first | exact Below.refl _ _ | exact hbB | exact hbA | refine Below.drew ?_)))) ((first
                            | (have hxA := hbA; go_at_call 54; refine (fills_w _ _ _ _ _ _ L' (S.eraseIdx k) _ rfl rfl (by omega) (by omega) (Lib.hid (HL25.out _ (by repeat (first | exact hbA | refine Below.drew ?_)))) (Lib.hid (by first | exact hslA | exact hslA.below (by repeat (first | exact Below.refl _ _ | refine Below.drew ?_))))).mono ?_; rw [HFF.out]; rintro e w27 ⟨rfl, hbF⟩; have hbB : Below wr.heap.size wr w27 := Below.trans (by repeat (first | exact hbA | refine Below.drew ?_)) (hbF.mono (by first | exact hbA.size | (simp; exact hbA.size))); have hS := FS.out _ hbB)
                            | (go_at_call 55; refine (without_sl A2 O2 m cs' k S _ HM.out hkm hmc hcm2 (by omega) (by first | exact hA25 | (simp; exact hA25)) (Lib.hid (HN25.out _ (by repeat (first | exact Below.refl _ _ | refine Below.drew ?_))))).mono ?_; rintro e w26 ⟨⟨sa, ca, rfl, hslA⟩, hbA'⟩; have hbA : Below wr.heap.size wr w26 := Below.trans (by repeat (first | exact Below.refl _ _ | refine Below.drew ?_)) (hbA'.mono (by first | exact Nat.le_refl _ | simp)); have hS := FS.out _ hbA)))
                          all_goals
                            have HB21 := Lib.hid hbB
                            clear hbA hbA' hbB hbF hslA hS hxA
                            go_wp2
                            go_roundw
                            case rel => exact ⟨k + 1, by omega, by go_num, .inr ⟨k, rfl, by omega, by rw [HU.out]; exact ⟨HOF.out.mpr ⟨hux, by first | rfl | trivial⟩, fun q hq ho => by
                            by_cases e : q = k
                            · rw [e, HU.out]; exact Int.le_refl _
                            · have := hoa.out.2 q (by omega) ho
                              omega⟩⟩, hb2.trans (HB21.out.mono hb2.size)⟩
                            case measure => simp [intOf]; omega
                      · have hd2 : decide (u < v) = false := decide_eq_false huv
                        go_wp2
                        refine wp_region_calm (W := wr) (by kernel_rfl) (by kernel_rfl) (Below.refl _ _) ?_
                        repeat (first
                          | (refine calm_no (by rfl) ?_
                             (try simp only [Act.put, List.setIfInBounds_toArray, List.set_cons_zero, List.set_cons_succ]))
                          | (apply calm_yes
                             focus rfl
                             focus
                               intro w' hw'
                               obtain ⟨z1, z2⟩ := FS.out w' hw'
                               go_simp
                               first
                                 | done
                                 | with_reducible rfl
                                 | fail
                             (try simp only [Act.put, List.setIfInBounds_toArray, List.set_cons_zero, List.set_cons_succ])))
                        refine calm_nil ?_
                        intro w20 hb20
                        have HB21 := Lib.hid hb20
                        clear hb20
                        go_wp2
                        go_roundw
                        case rel => exact ⟨k + 1, by omega, by go_num, .inr ⟨a, rfl, by omega, by rw [HV.out]; exact ⟨hoa.out.1, fun q hq ho => by
                          by_cases e : q = k
                          · rw [e, HU.out]; omega
                          · exact hoa.out.2 q (by omega) ho⟩⟩, hb2.trans (HB21.out.mono hb2.size)⟩
                        case measure => simp [intOf]; omega
                  · have hd1 : decide (u ≤ x) = false := decide_eq_false hux
                    have hnok : Hid (¬ OkY x L' S (S.getD k 0)) := Lib.hid (by rw [HU.out, HOF.out]; exact fun h => hux h.1)
                    have FS : Hid (∀ w', Below wr.heap.size wr w' → w'.cell? ⟨A2, O2 + k, none⟩ = some (.int .i64 u) ∧ True) := Lib.hid fun w' h => ⟨(h.cell (p := ⟨A2, O2 + k, none⟩) hA25).trans y1, trivial⟩
                    rcases hat with ⟨rfl, hall2⟩ | ⟨a, rfl, ha, hoa⟩
                    · skip
                      go_wp2
                      refine wp_region_calm (W := wr) (by kernel_rfl) (by kernel_rfl) (Below.refl _ _) ?_
                      repeat (first
                        | (refine calm_no (by rfl) ?_
                           (try simp only [Act.put, List.setIfInBounds_toArray, List.set_cons_zero, List.set_cons_succ]))
                        | (apply calm_yes
                           focus rfl
                           focus
                             intro w' hw'
                             obtain ⟨z1, z2⟩ := FS.out w' hw'
                             go_simp
                             first
                               | done
                               | with_reducible rfl
                               | fail
                           (try simp only [Act.put, List.setIfInBounds_toArray, List.set_cons_zero, List.set_cons_succ])))
                      refine calm_nil ?_
                      intro w20 hb20
                      have HB21 := Lib.hid hb20
                      clear hb20
                      go_wp2
                      go_roundw
                      case rel => exact ⟨k + 1, by omega, by go_num, .inl ⟨rfl, fun q hq => by
                        by_cases e : q = k
                        · rw [e]; exact hnok.out
                        · exact hall2.out q (by omega)⟩, hb2.trans (HB21.out.mono hb2.size)⟩
                      case measure => simp [intOf]; omega
                    · skip
                      go_wp2
                      refine wp_region_calm (W := wr) (by kernel_rfl) (by kernel_rfl) (Below.refl _ _) ?_
                      repeat (first
                        | (refine calm_no (by rfl) ?_
                           (try simp only [Act.put, List.setIfInBounds_toArray, List.set_cons_zero, List.set_cons_succ]))
                        | (apply calm_yes
                           focus rfl
                           focus
                             intro w' hw'
                             obtain ⟨z1, z2⟩ := FS.out w' hw'
                             go_simp
                             first
                               | done
                               | with_reducible rfl
                               | fail
                           (try simp only [Act.put, List.setIfInBounds_toArray, List.set_cons_zero, List.set_cons_succ])))
                      refine calm_nil ?_
                      intro w20 hb20
                      have HB21 := Lib.hid hb20
                      clear hb20
                      go_wp2
                      go_roundw
                      case rel => exact ⟨k + 1, by omega, by go_num, .inr ⟨a, rfl, by omega, ⟨hoa.out.1, fun q hq ho => by
                        by_cases e : q = k
                        · rw [e] at ho; exact (hnok.out ho).elim
                        · exact hoa.out.2 q (by omega) ho⟩⟩, hb2.trans (HB21.out.mono hb2.size)⟩
                      case measure => simp [intOf]; omega
                · obtain rfl : k = m := by omega
                  rcases hat with ⟨rfl, hall2⟩ | ⟨a, rfl, ha, hoa⟩
                  · exfalso
                    obtain ⟨z, hz'⟩ := hex.out
                    obtain ⟨q, hq, e⟩ := mem_getD hz'.1
                    exact hall2.out q (by rw [← HM.out]; exact hq) (by rw [e]; exact hz')
                  · obtain ⟨A2, O2, rfl, hA2, hnS⟩ := HSS20.out.resolve_left (by omega)
                    have hA25 : A2 < wr.heap.size := Nat.lt_of_lt_of_le hA2 hb2.size
                    have hnw := hnS.below hA2 hb2
                    have y1 := hnw a (by omega)
                    simp only [] at y1
                    obtain ⟨u, hu⟩ : ∃ u, S.getD a 0 = u := ⟨_, rfl⟩
                    rw [hu] at y1 hoa
                    have HU := Lib.hid hu
                    have HNW := Lib.hid hnw
                    have n1 : (0 : Int) ≤ (a : Int) := by omega
                    have n2 : (a : Int) < (k : Int) := by omega
                    have hz2 := hb2.size
                    have HOW := Lib.hid (owns_below HO20.out hb2)
                    have HB2 := Lib.hid hb2
                    clear hu hnS hnw x1 x2 y20 hb2
                    have HAN := Lib.hid (fun h : Value.ownBlock u15 = some A2 => hd1.out A2 h rfl)
                    have HAN1 := Lib.hid (fun h : Value.ownBlock u15 = some A1 => hd2.out A1 O1 rfl (by omega) h)
                    have HLN : Hid (IntSl wr (some ⟨A1, O1', none⟩) L'.length (fun q => L'.getD q 0)) := Lib.hid (by
                      rcases HO'.out with e | e
                      · refine .inr ⟨A1, O1', rfl, Nat.lt_of_lt_of_le hA1 (Nat.le_trans hz20 hz2), fun q hq => ?_⟩
                        have q1 := (HN20.out.below (Nat.lt_of_lt_of_le hA1 hz20) HB2.out) (q + 1) (by omega)
                        simp only [List.getD_cons_succ] at q1
                        rw [e, Nat.add_assoc, Nat.add_comm 1 q]
                        exact q1
                      · exact .inl (by omega))
                    have hBX : Hid (Below W0.heap.size W0 wr) := Lib.hid ((HB7.out.trans (HB20.out.mono (by omega))).trans (HB2.out.mono (by omega)))
                    have hwz : w.heap.size + 1 ≤ wr.heap.size := by omega
                    go_wp2_with (first
                      | (at_builtin; refine wpList_append_own_at _ rfl (.tmp 114) (.tmp 119) 22 rfl (w.heap.size + 1) 3 i0 (.int .i64 0) 1 8 Tryz.underlying22 hi hz0 hz1 hz22 rfl (by decide) _ j _ rfl (HOW.out.alloc _) ⟨_, 0, none⟩ 1 1 [.int .i64 u] rfl rfl (lies_any (by first | exact al_top rfl _ _ | exact al_top (by simp) _ _)) (by intro u hu; simp at hu; subst hu; rfl) (by unfold maxLen; omega) (by omega) (by simp; omega) ?_; intro v7 w8 hown8 hgrow8 _ hloc8; have hz8 : wr.heap.size + 1 ≤ w8.heap.size := (by have := hgrow8.size; simpa using this); have HN8 : Hid (NumAt w8 A2 O2 k (fun q => S.getD q 0)) := Lib.hid ((HNW.out.below hA25 ((Below.refl _ _).alloc (Nat.le_refl _) _)).grown hgrow8 (by simp; omega) (fun e => HAN.out e.symm)); have HL8 := Lib.hid ((HLN.out.below ((Below.refl _ _).alloc (Nat.le_refl _) _)).grown hgrow8 (fun A' O'' e1 e2 e3 => by cases e1; exact HAN1.out e3)); have HB8 : Hid (Below W0.heap.size W0 w8) := Lib.hid ((hBX.out.alloc (by omega) _).grown hgrow8 (by simp; omega) (fun r e => by have := own_ge HOW.out r e; omega)); have HO8 := Lib.hid hown8; have HLOC := Lib.hid hloc8; clear hown8 hgrow8 hloc8)
                      | (go_at_call 55; refine (without_w A2 O2 k cs' a S _ HM.out ha hmc hcm2 (by omega) (by omega) HN8).mono ?_; rintro e w9 ⟨⟨v9, rfl, hown9⟩, hb9⟩))
                    have hel : (S.eraseIdx a).length = a + (k - (a + 1)) := by rw [List.length_eraseIdx, if_pos (by rw [HM.out]; exact ha), HM.out]; omega
                    rw [← hel] at hown9
                    have HO9 := Lib.hid hown9
                    have HB9 := Lib.hid hb9
                    have hz9 := hb9.size
                    have hpe : (S.eraseIdx a).Perm (S.erase u) := by
                      have := eraseIdx_perm (S := S) (j := a) (by rw [HM.out]; exact ha)
                      rwa [HU.out] at this
                    have HPE := Lib.hid hpe
                    clear hel hown9 hb9 hpe
                    go_roundw
                    case rel =>
                      refine ⟨j + 1, L', S.eraseIdx a, pre ++ [u], u :: T, some ⟨A1, O1', none⟩, cl - 1, by omega, by go_num, rfl, HL8.out.below HB9.out, by omega, by omega, HL', own_base HO9.out (by omega), ?_, fun r h1 h2 => ?_, fun A' O'' e1 e2 e3 => ?_, ?_, (step_opt hopt.out hoa.out.1).perm HPE.out.symm, fun r hr => ?_, fun z hz => h40.out z (List.mem_of_mem_eraseIdx hz), HB8.out.trans (HB9.out.mono (by omega))⟩
                      · rw [upto_plF_t HPRE.out HDU.out u]
                        exact owns_below HO8.out HB9.out
                      · have q1 := own_lt HO8.out r h1
                        have q2 := own_ge HO9.out r h2
                        omega
                      · cases e1
                        rcases HLOC.out with e | e
                        · exact HAN1.out (e ▸ e3)
                        · rw [e] at e3
                          simp at e3
                          omega
                      · rw [cnt_t HDU.out, List.length_append, HPRE.out]; rfl
                      · have := hcon.out (u :: r) ⟨u, r, rfl, hoa.out.1, fun z hz ho => by
                          obtain ⟨q, hq, e⟩ := mem_getD ho.1
                          have := hoa.out.2 q (by rw [← HM.out]; exact hq) (by rw [e]; exact ho)
                          omega, hr.perm HPE.out⟩
                        simpa using this
                    case measure => simp [intOf]; omega
          · obtain rfl : j = i := by omega
            go_wp2
            have hLnil : L = [] := by rw [hL.out, ← HLL.out, drop_cnt_all]
            subst hLnil
            have hpl := hcon.out [] rfl
            rw [List.append_nil] at hpl
            refine bodyPost_ret (v := .tuple #[u15, .bool true]) (by simp [results, Tryz.results18, go_sem]) rfl ⟨.inr (.inr ⟨hall.out, S0, pre, u15, by rw [HLL.out]; exact HOP.out, by rw [HLL.out]; exact hpl, rfl, HO2.out⟩), hB0.trans (HB7.out.mono (by omega))⟩
      · have HNO := Lib.hid hno
        have HNO2 : Hid (NoYears (lst (duF aN g un) (laF aN g) i) []) := Lib.hid (by rw [HLL.out]; exact hno)
        clear hno
        go_wp2_with (go_at_call 53; refine (years_none sl (cnt (duF aN g un) i) cl LL _ HN0.out (by omega) hmx.out HSL HNO).mono ?_; rintro e w5 ⟨⟨vo, rfl⟩, hb5⟩)
        refine bodyPost_ret (v := .tuple #[.slice none 0 0, .bool false]) (by simp [results, Tryz.results18, go_sem]) rfl ⟨.inr (.inl ⟨hall.out, HNO2.out, rfl⟩), hB0.trans ((HBW.out.trans (hb5.mono HBW.out.size)).mono (by omega))⟩

end Go.Kn
