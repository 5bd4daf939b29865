/- Walks of functions of layer 2 (contracts that the laws of this seat use). Conditions: as each theorem states them. -/
import Derived.Test.YtnlbofaiihlniaaGreatDoorGA
set_option linter.unusedVariables false
set_option linter.unusedSimpArgs false
namespace Go.Kn
open Go Go.Proofs Go.RowKit

theorem info87' : (Tryz.prog.info? 87).map (fun i => (i.zero, i.size, i.bytes)) = some (some (.nilIface), 1, 16) := by kernel_rfl

theorem own_lit {w : World} {base : Nat} (hb : base ≤ w.heap.size) (x : Value) (T : TypeId) : (w.alloc (.cells #[x] T)).ownsRow base T 1 (.slice (some ⟨w.heap.size, 0, none⟩) 1 1) 1 [x] := by
  refine ⟨by simp, .inr ⟨w.heap.size, 1, #[x], rfl, hb, (by show (w.heap.push _)[w.heap.size]? = _; simp), by decide, by decide, by simp, by simp⟩⟩

def stV (x : St5) : Value := .agg #[.int .i64 x.b, .int .i64 x.d, .int .i64 x.f, .int .i64 x.lo, .int .i64 x.hi]
def ifs (sa : Option Addr) (ls cs : Nat) (t : Nat → St5) (k : Nat) : List Value := .iface 82 (.slice sa ls cs) :: (upto t k).map (fun x => .iface 84 (stV x))
theorem ifs_succ (sa : Option Addr) (ls cs : Nat) (t : Nat → St5) (k : Nat) : ifs sa ls cs t (k + 1) = ifs sa ls cs t k ++ [.iface 84 (stV (t k))] := by
  simp [ifs, upto_succ]
theorem ifs_len (sa : Option Addr) (ls cs : Nat) (t : Nat → St5) (k : Nat) : (ifs sa ls cs t k).length = k + 1 := by simp [ifs, upto_length]
/-- the lines of a line, but for the last one -/
def rowsL (ls : Nat) (s : Nat → Int) (t : Nat → St5) (k : Nat) : List (List UInt8) := rowL speedsW (upto s ls) :: (upto t k).map (fun x => rowL stretchW (stL x))
theorem rowsL_succ (ls : Nat) (s : Nat → Int) (t : Nat → St5) (k : Nat) : rowsL ls s t (k + 1) = rowsL ls s t k ++ [rowL stretchW (stL (t k))] := by
  simp [rowsL, upto_succ]

theorem vals_of_owns {w : World} {base e n : Nat} {v : Value} {xs : List Value} (h : w.ownsRow base e 1 v n xs) (h0 : n ≠ 0) :
    ∃ G cap, v = .slice (some ⟨G, 0, none⟩) n cap ∧ n ≤ cap ∧ base ≤ G ∧ G < w.heap.size ∧ ∀ (j : Nat) (x : Value), xs[j]? = some x → w.cell? ⟨G, j, none⟩ = some x := by
  rcases h.2 with ⟨rfl, rfl⟩ | ⟨g, cap, cur, rfl, hb, hg, hn, hc, hs, hx⟩
  · exact (h0 rfl).elim
  · refine ⟨g, cap, rfl, by omega, hb, (Array.getElem?_eq_some_iff.1 hg).1, fun i x hj => ?_⟩
    rw [← hx, List.getElem?_take] at hj
    split at hj
    · simp only [Array.getElem?_toList] at hj
      simp [World.cell?, hg, hj]
    · cases hj

theorem rows_take (ls : Nat) (s : Nat → Int) (t : Nat → St5) : ∀ (n k : Nat), k ≤ n → (rowsL ls s t n).take (k + 1) = rowsL ls s t k
  | 0, k, h => by obtain rfl : k = 0 := by omega
                  simp [rowsL, upto]
  | n + 1, k, h => by
    by_cases e : k = n + 1
    · subst e
      rw [List.take_of_length_le]
      simp [rowsL, upto_length]
    · rw [rowsL_succ, List.take_append_of_le_length (by simp [rowsL, upto_length]; omega)]
      exact rows_take ls s t n k (by omega)

theorem rows_short {A O C P ls lt : Nat} {s : Nat → Int} {t : Nat → St5} {w : World} (H : LineAt w A O C P ls lt s t) : ∀ x ∈ rowsL ls s t lt, x.length ≤ 1000 := by
  intro x hx
  have h2 := H.ls2
  have hs : ∀ y ∈ upto s ls, 0 ≤ y ∧ y ≤ 1000000 := fun y hy => by
    obtain ⟨i, hi, rfl⟩ := mem_upto hy
    have := H.sok i hi
    simp only [fromB, decide_eq_true_eq] at this
    omega
  simp only [rowsL, List.mem_cons, List.mem_map] at hx
  rcases hx with rfl | ⟨y, hy, rfl⟩
  · have h := rowL_len speedsW (upto s ls) hs
    rw [upto_length] at h
    have : speedsW.length = 6 := rfl
    omega
  · obtain ⟨i, hi, rfl⟩ : ∃ i, i < lt ∧ t i = y := by simpa [upto] using hy
    obtain ⟨b1, b2, b3, b4, b5⟩ := H.bds hi
    have hb : ∀ z ∈ stL (t i), 0 ≤ z ∧ z ≤ 1000000 := fun z hz => by
      have hls := H.ls2
      simp only [stL, List.mem_cons, List.not_mem_nil, or_false] at hz
      rcases hz with rfl | rfl | rfl | rfl | rfl <;> omega
    have h := rowL_len stretchW (stL (t i)) hb
    have e1 : (stL (t i)).length = 5 := rfl
    have e2 : stretchW.length = 7 := rfl
    omega

theorem st5_ok {A O C P ls lt : Nat} {s : Nat → Int} {t : Nat → St5} {w : World} (H : LineAt w A O C P ls lt s t) {i : Nat} (hi : i < lt) : St5Ok (t i) := by
  obtain ⟨b1, b2, b3, b4, b5⟩ := H.bds hi
  have := H.ls2
  unfold St5Ok
  omega

theorem meth1 (v : Value) (w : World) : (method 337 82 v "quinaria/channel.text").run Tryz.prog w = .ok (190, v) w := by kernel_rfl
theorem meth2 (v : Value) (w : World) : (method 337 84 v "quinaria/channel.text").run Tryz.prog w = .ok (193, v) w := by kernel_rfl

set_option maxRecDepth 100000 in
set_option maxHeartbeats 4000000 in
theorem print_w (A O C P ls cs lt ct : Nat) (s : Nat → Int) (t : Nat → St5) (w : World) (H : Hid (LineAt w A O C P ls lt s t)) (hp : Hid (Pow w)) (hT : Hid ((textL (rowsL ls s t lt)).length ≤ 1000000)) :
    Calls Tryz.prog 14 #[.agg #[.slice (some ⟨A, O, none⟩) ls cs, .slice (some ⟨C, P, none⟩) lt ct]] w
      fun e w' => e = .returned (.tuple #[.string (bs (textL (rowsL ls s t lt))), .int .i64 0]) ∧ Below w.heap.size w w' := by
  obtain ⟨W0, hW0⟩ : ∃ W0, W0 = w.alloc (.cells #[.slice (some ⟨A, O, none⟩) ls cs, .slice (some ⟨C, P, none⟩) lt ct] 25) := ⟨_, rfl⟩
  have hz : W0.heap.size = w.heap.size + 1 := by rw [hW0]; simp
  have hB0 : Below w.heap.size w W0 := by rw [hW0]; exact (Below.refl _ _).alloc (Nat.le_refl _) _
  have FX : Hid (∀ w', Below W0.heap.size W0 w' → w'.cell? ⟨w.heap.size, 0, none⟩ = some (.slice (some ⟨A, O, none⟩) ls cs) ∧ w'.cell? ⟨w.heap.size, 1, none⟩ = some (.slice (some ⟨C, P, none⟩) lt ct) ∧ LineAt w' A O C P ls lt s t ∧ Pow w' ∧ w.heap.size < w'.heap.size) := Lib.hid fun w' h => by
    have q : ∀ b o, b < W0.heap.size → w'.cell? ⟨b, o, none⟩ = W0.cell? ⟨b, o, none⟩ := (bcell h).1
    have hall := hB0.trans (h.mono (by omega))
    exact ⟨(q _ _ (by omega)).trans (by rw [hW0]; simp), (q _ _ (by omega)).trans (by rw [hW0]; simp), H.out.below hall, hp.out.on hall, (by have := h.size; omega)⟩
  have q1 := H.out.lt1
  have q2 := H.out.lt2
  have q0 := H.out.ls2
  have HR : Hid (RightP ls lt s t) := Lib.hid ⟨H.out.ls1, H.out.ls2, H.out.lt1, H.out.lt2, H.out.sok, H.out.tok⟩
  have hAny : Hid (∀ w', Below W0.heap.size W0 w' → Hid (AnyLine w' (some ⟨A, O, none⟩) (some ⟨C, P, none⟩) ls lt s t)) := Lib.hid fun w' h => Lib.hid ⟨.inr ⟨A, O, rfl, (FX.out w' h).2.2.1.hA, (FX.out w' h).2.2.1.sp⟩, .inr ⟨C, P, rfl, (FX.out w' h).2.2.1.hC, (FX.out w' h).2.2.1.st⟩⟩
  obtain ⟨x1, x2, _, _, x5⟩ := FX.out _ (Below.refl _ _)
  have B0 := Lib.hid (Below.refl W0.heap.size W0)
  go_enter Tryz.func14, Tryz.ntmps14
  go_wp2_with (first
    | (go_at_call 33; rw [← hW0]; refine (isLine2_w _ _ _ _ _ _ s t _ (by omega) (by omega) (hAny.out _ (Below.refl _ _))).mono ?_; rintro e w1 ⟨⟨rb, rfl, hrb⟩, hb1⟩; obtain rfl : rb = true := hrb.2 HR.out; clear hrb; clear x1 x2; obtain ⟨x1, x2, _, _, x6⟩ := FX.out _ hb1)
    | (rw [← hW0]; fail))
  have hb1' := Lib.hid hb1
  have hw1 := hb1.size
  have HOL := Lib.hid (own_lit (w := w1) (base := w.heap.size + 1) (by omega) (.iface 82 (.slice (some ⟨A, O, none⟩) ls cs)) 87)
  have HW1 : Hid (Below W0.heap.size W0 (w1.alloc (.cells #[.iface 82 (.slice (some ⟨A, O, none⟩) ls cs)] 87))) := Lib.hid (hb1.alloc (by omega) _)
  obtain ⟨i0, hi, hz0, hz1, hz2⟩ := info_parts info87'
  clear x1 x2 x5 x6 hb1
  go_loopw [4, 20] (fun v ii wr => ∃ k : Nat, k ≤ lt ∧ ii = .int .i64 (k : Int) ∧ wr.ownsRow (w.heap.size + 1) 87 1 v (k + 1) (ifs (some ⟨A, O, none⟩) ls cs t k) ∧ Below W0.heap.size W0 wr) (fun _ ii _ => lt - (intOf ii).toNat)
  case atStart => exact ⟨0, Nat.zero_le _, rfl, HOL.out, HW1.out⟩
  case round =>
    obtain ⟨k, hk, rfl, hown, hbw⟩ := hrel
    obtain ⟨x1, x2, x3, _, x5⟩ := FX.out _ hbw
    have HO := Lib.hid hown
    have HBW := Lib.hid hbw
    have hzw := hbw.size
    rw [hz] at hzw
    clear hown hbw
    by_cases hlt : k < lt
    · obtain ⟨c0, c1, c2, c3, c4⟩ := x3.st k hlt
      have n1 : (0 : Int) ≤ (k : Int) := by omega
      have n2 : (k : Int) < (lt : Int) := by omega
      clear x3
      go_wp2_with (at_builtin; refine wpList_append_own_at _ rfl (.tmp 24) (.tmp 27) 83 rfl (w.heap.size + 1) 87 i0 (.nilIface) 1 16 Tryz.underlying83 hi hz0 hz1 hz2 rfl (by decide) _ (k + 1) _ rfl ((HO.out.alloc _).alloc _) ⟨_, 0, none⟩ 1 1 [.iface 84 (stV (t k))] rfl rfl (lies_any (by first | exact al_top rfl _ _ | exact al_top (by simp) _ _)) (by intro u hu; simp at hu; subst hu; rfl) (by unfold maxLen; omega) (by omega) (by simp; omega) ?_; intro v7 w7 hown7 hgrow7 _ hloc7)
      have HB7 : Hid (Below W0.heap.size W0 w7) := Lib.hid (((HBW.out.alloc (by omega) _).alloc (by simp; omega) _).grown hgrow7 (by simp; omega) (fun r e => by have := own_ge HO.out r e; omega))
      have HO7 := Lib.hid hown7
      clear hown7 hgrow7 hloc7
      go_roundw
      case rel => exact ⟨k + 1, by omega, by go_num, by rw [ifs_succ]; exact HO7.out, HB7.out⟩
      case measure => simp [intOf]; omega
    · obtain rfl : lt = k := by omega
      obtain ⟨G, cap, hu, g1, g2, g3, g4⟩ := vals_of_owns HO.out (by omega)
      subst hu
      have HG : Hid (∀ w', Below wr.heap.size wr w' → ∀ (j : Nat) (x : Value), (ifs (some ⟨A, O, none⟩) ls cs t lt)[j]? = some x → w'.cell? ⟨G, j, none⟩ = some x) := Lib.hid fun w' h j x hx => by
        rw [(bcell h).1 _ _ g3]; exact g4 j x hx
      have hRl : (rowsL ls s t lt).length = lt + 1 := by simp [rowsL, upto_length]
      have HRL := Lib.hid hRl
      have HSH : Hid (∀ x ∈ rowsL ls s t lt, x.length ≤ 1000) := Lib.hid (rows_short H.out)
      have HT1 : Hid (∀ w', Below wr.heap.size wr w' → Calls Tryz.prog 190 #[.slice (some ⟨A, O, none⟩) ls cs] w' fun e w2 => e = .returned (.string (bs (rowL speedsW (upto s ls)))) ∧ Below w'.heap.size w' w2) := Lib.hid fun w' h => by
        obtain ⟨_, _, p3, p4, _⟩ := FX.out _ (HBW.out.trans (h.mono HBW.out.size))
        exact text1_w _ ls cs s w' (by omega) (Lib.hid fun i hi => by
          have := p3.sok i hi
          simp only [fromB, decide_eq_true_eq] at this
          omega) (Lib.hid (.inr ⟨A, O, rfl, p3.hA, p3.sp⟩)) (Lib.hid p4)
      have HT2 : Hid (∀ j, j < lt → ∀ w', Below wr.heap.size wr w' → Calls Tryz.prog 193 #[stV (t j)] w' fun e w2 => e = .returned (.string (bs (rowL stretchW (stL (t j))))) ∧ Below w'.heap.size w' w2) := Lib.hid fun j hj w' h => by
        obtain ⟨_, _, p3, p4, _⟩ := FX.out _ (HBW.out.trans (h.mono HBW.out.size))
        exact text2_w (t j) w' (Lib.hid (st5_ok p3 hj)) (Lib.hid p4)
      clear g4 HO x1 x2 x3 hRl
      obtain ⟨i9, hi9, h90, h91, h92⟩ := info_parts info9'
      obtain ⟨W2, hW2⟩ : ∃ W2, W2 = wr := ⟨_, rfl⟩
      go_wp2
      rw [← hW2] at HBW HG HT1 HT2 hzw g3 x5 ⊢
      clear hW2
      go_loopw [7, 32] (fun v ii wk => ∃ k : Nat, k ≤ lt + 1 ∧ ii = .int .i64 (k : Int) ∧ wk.ownsRow W2.heap.size 9 1 v k (((rowsL ls s t lt).take k).map strV) ∧ Below W2.heap.size W2 wk) (fun _ ii _ => lt + 1 - (intOf ii).toNat)
      case atStart => exact ⟨0, Nat.zero_le _, rfl, World.ownsRow_nil _ _ _ _, Below.refl _ _⟩
      case round =>
        obtain ⟨wm, rfl⟩ : ∃ wm, wm = wr := ⟨_, rfl⟩
        obtain ⟨k, hk, rfl, hown, hbk⟩ := hrel
        have HO := Lib.hid hown
        clear hown
        by_cases hlt : k < lt + 1
        · have n1 : (0 : Int) ≤ (k : Int) := by omega
          have n2 : (k : Int) < (lt : Int) + 1 := by omega
          have hzk := hbk.size
          match k, HO with
          | 0, HO =>
            have c0 := HG.out _ hbk 0 _ rfl
            have hm1 := meth1 (.slice (some ⟨A, O, none⟩) ls cs)
            go_wp2_with (first
              | (go_at_call 190; refine (HT1.out _ hbk).mono ?_; rintro e w5 ⟨rfl, hb5⟩; have hz5 := hb5.size)
              | (at_builtin; refine wpList_append_own_at _ rfl (.tmp 36) (.tmp 39) 85 rfl W2.heap.size 9 i9 (.string ByteArray.empty) 1 16 Tryz.underlying85 hi9 h90 h91 h92 rfl (by decide) _ 0 _ rfl ((owns_below HO.out hb5).alloc _) ⟨_, 0, none⟩ 1 1 [.string (bs (rowL speedsW (upto s ls)))] rfl rfl (lies_any (by first | exact al_top rfl _ _ | exact al_top (by simp) _ _)) (by intro u hu; simp at hu; subst hu; rfl) (by unfold maxLen; omega) (by omega) (by simp; omega) ?_; intro v7 w7 hown7 hgrow7 _ hloc7))
            have HB7 : Hid (Below W2.heap.size W2 w7) := Lib.hid (((hbk.trans (hb5.mono hbk.size)).alloc (by omega) _).grown hgrow7 (by simp; omega) (fun r e => by have := own_ge HO.out r e; omega))
            have HO7 := Lib.hid hown7
            clear hown7 hgrow7 hloc7
            go_roundw
            case rel => exact ⟨0 + 1, by omega, by go_num, by rw [rows_take ls s t lt 0 (by omega)]; exact HO7.out, HB7.out⟩
            case measure => first | (simp [intOf]; done) | (simp [intOf]; omega)
          | k + 1, HO =>
            have hklt : k < lt := by omega
            have c0 := HG.out _ hbk (k + 1) (.iface 84 (stV (t k))) (by simp [ifs, upto, hklt])
            have hm2 := meth2 (stV (t k))
            go_wp2_with (first
              | (go_at_call 193; refine (HT2.out k hklt _ hbk).mono ?_; rintro e w5 ⟨rfl, hb5⟩; have hz5 := hb5.size)
              | (at_builtin; refine wpList_append_own_at _ rfl (.tmp 36) (.tmp 39) 85 rfl W2.heap.size 9 i9 (.string ByteArray.empty) 1 16 Tryz.underlying85 hi9 h90 h91 h92 rfl (by decide) _ (k + 1) _ rfl ((owns_below HO.out hb5).alloc _) ⟨_, 0, none⟩ 1 1 [.string (bs (rowL stretchW (stL (t k))))] rfl rfl (lies_any (by first | exact al_top rfl _ _ | exact al_top (by simp) _ _)) (by intro u hu; simp at hu; subst hu; rfl) (by unfold maxLen; omega) (by omega) (by simp; omega) ?_; intro v7 w7 hown7 hgrow7 _ hloc7))
            have HB7 : Hid (Below W2.heap.size W2 w7) := Lib.hid (((hbk.trans (hb5.mono hbk.size)).alloc (by omega) _).grown hgrow7 (by simp; omega) (fun r e => by have := own_ge HO.out r e; omega))
            have HO7 := Lib.hid hown7
            clear hown7 hgrow7 hloc7
            go_roundw
            case rel => exact ⟨(k + 1) + 1, by omega, by go_num, by rw [rows_take ls s t lt (k + 1) (by omega), rowsL_succ, List.map_append, ← rows_take ls s t lt k (by omega)]; exact HO7.out, HB7.out⟩
            case measure => simp [intOf]; omega
        · obtain rfl : k = lt + 1 := by omega
          have hO := HO.out
          rw [List.take_of_length_le (by rw [HRL.out]; exact Nat.le_refl _)] at hO
          obtain ⟨G2, cap2, hu, e1, e2, e3, e4, e5⟩ := strSl_of_owns hO (by omega)
          subst hu
          have HTX : Hid (Calls Tryz.prog 41 #[.slice (some ⟨G2, 0, none⟩) (lt + 1) cap2, .int .i64 139] wm fun e w' => e = .returned (.string (bs (textL (rowsL ls s t lt)))) ∧ Below wm.heap.size wm w') := Lib.hid (by
            have h := text_w G2 0 cap2 (rowsL ls s t lt) wm (by rw [HRL.out]; omega) (by rw [HRL.out]; omega) HSH e4 (Lib.hid e5) (Lib.hid (FX.out _ (HBW.out.trans (hbk.mono HBW.out.size))).2.2.2.1) hT.out
            rw [HRL.out] at h
            exact h)
          clear hO e5 e1
          go_wp2_with (go_at_call 41; refine HTX.out.mono ?_; rintro e w9 ⟨rfl, hb9⟩)
          refine bodyPost_ret (v := .tuple #[.string (bs (textL (rowsL ls s t lt))), .int .i64 0]) (by simp [results, Tryz.results14, go_sem]) rfl ⟨rfl, ?_⟩
          exact hB0.trans ((HBW.out.trans ((hbk.trans (hb9.mono hbk.size)).mono HBW.out.size)).mono (by omega))
end Go.Kn
