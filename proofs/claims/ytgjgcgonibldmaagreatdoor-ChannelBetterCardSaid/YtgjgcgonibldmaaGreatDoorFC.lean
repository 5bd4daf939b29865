/- Walks of functions of layer 2 (contracts that the laws of this seat use). Conditions: as each theorem states them. -/
import Derived.Test.YtgjgcgonibldmaaGreatDoorFS
import Derived.Test.YtgjgcgonibldmaaGreatDoorFP
import Derived.Test.YtgjgcgonibldmaaGreatDoorFZ
import Derived.Maps.AppendAt
set_option linter.unusedVariables false
set_option linter.unusedSimpArgs false
namespace Go.Kn
open Go Go.Proofs Go.RowKit

theorem keep2 {W W' : World} {n0 e size k : Nat} {v v' : Value} {xs : List Value} (h : W.ownsRow n0 e size v k xs) (hg : W.grownBy W' v'.ownBlock) (hd : ∀ r, v'.ownBlock = some r → v.ownBlock ≠ some r) : W'.ownsRow n0 e size v k xs := by
  refine h.kept hg ?_
  rcases h.2 with ⟨rfl, _⟩ | ⟨g, cap, cur, rfl, _⟩
  · exact .inl rfl
  · refine .inr fun he => ?_
    have h1 : (Value.slice (some ⟨g, 0, none⟩) k cap).ownBlock = some g := rfl
    exact hd g (he ▸ h1) h1
theorem own_lt {W : World} {n0 e size k : Nat} {v : Value} {xs : List Value} (h : W.ownsRow n0 e size v k xs) (r : Nat) (hr : v.ownBlock = some r) : r < W.heap.size := by
  rcases h.2 with ⟨rfl, _⟩ | ⟨g, cap, cur, rfl, hb, hg, _⟩
  · simp [Value.ownBlock] at hr
  · obtain rfl : g = r := by simpa [Value.ownBlock] using hr
    exact (Array.getElem?_eq_some_iff.1 hg).1

theorem lies_any {W : World} {b : Nat} {x : Value} (h : W.cell? ⟨b, 0, none⟩ = some x) : ∀ (j : Nat) (u : Value), [x][j]? = some u → W.cell? ((⟨b, 0, none⟩ : Addr).add j) = some u := by
  intro j u hj
  match j, hj with
  | 0, hj => simp at hj; subst hj; exact h
theorem al_top {W : World} {n : Nat} (hn : W.heap.size = n) (x : Value) (T : TypeId) : (W.alloc (.cells #[x] T)).cell? ⟨n, 0, none⟩ = some x := by subst hn; simp

theorem NumAt.below' {w w1 : World} {A O n B : Nat} {f : Nat → Int} (h : NumAt w A O n f) (hA : A < B) (hb : Below B w w1) : NumAt w1 A O n f := fun i hi => (hb.cell (p := ⟨A, O + i, none⟩) hA).trans (h i hi)

theorem num_set {w : World} {G n m j : Nat} {f : Nat → Int} {v : Int} (h : ∀ i, i < n → i ≠ j → w.cell? ⟨G, i, none⟩ = some (.int .i64 (f i))) (hr : RowAt w G m) (hj : j < m) (hv : f j = v) : NumAt (w.setCell ⟨G, j, none⟩ (.int .i64 v)) G 0 n f := by
  intro i hi
  rw [Nat.zero_add]
  by_cases e : i = j
  · subst e
    obtain ⟨⟨v0, hv0⟩, _⟩ := hr.2 i hj
    rw [hv]
    exact World.cell?_setCell_same' _ _ _ (by rw [hv0]; rfl)
  · exact (World.cell?_setCell_other _ _ _ _ (by intro he; cases he; exact e rfl)).trans (h i hi e)

/-- a slice of one's own, with its room -/
theorem intSl_of_owns' {w : World} {base n : Nat} {v : Value} {xs : List Int} (h : w.ownsRow base 3 1 v n (xs.map (Value.int .i64))) :
    ∃ sa cap, v = .slice sa n cap ∧ n = xs.length ∧ n ≤ cap ∧ cap ≤ maxLen ∧ IntSl w sa n (fun i => xs.getD i 0) := by
  obtain ⟨sa, cap, h1, h2, h3⟩ := intSl_of_owns h
  refine ⟨sa, cap, h1, h2, ?_, ?_, h3⟩
  · rcases h.2 with ⟨e, _⟩ | ⟨g, cap', cur, e, _, _, hn, _⟩
    · rw [h1] at e; cases e; exact Nat.le_refl _
    · rw [h1] at e; cases e; exact hn
  · rcases h.2 with ⟨e, _⟩ | ⟨g, cap', cur, e, _, _, _, hc, _⟩
    · rw [h1] at e; cases e; exact Nat.zero_le _
    · rw [h1] at e; cases e; exact hc

theorem KB.set {m : Nat} {A W : World} (h : KB m A W) {a : Addr} (ha : a.block = m) (x : Value) : KB m A (W.setCell a x) :=
  h.trans ⟨rfl, rfl, rfl, by simp [World.setCell], fun k _ hm => Below.heap_setCell _ _ _ _ (by omega)⟩
theorem KB.row {m G n B : Nat} {W W' : World} (h : RowAt W G n) (hb : Below B W W') (hG : G < B) : RowAt W' G n := h.below hG hb

theorem from_getD : ∀ (l : List Int) (pre : List Int), from' (fun i => (pre ++ l).getD i 0) pre.length l.length = l
  | [], _ => rfl
  | x :: l, pre => by
    have ih := from_getD l (pre ++ [x])
    simp only [List.append_assoc, List.singleton_append, List.length_append, List.length_cons, List.length_nil, Nat.zero_add] at ih
    simp only [from', List.length_cons]
    rw [ih]
    simp [List.getD]
theorem from_getD0 (l : List Int) : from' (fun i => l.getD i 0) 0 l.length = l := from_getD l []

theorem getD_bd {l : List Int} {a b : Int} (h : ∀ x ∈ l, a ≤ x ∧ x ≤ b) (h0 : a ≤ 0 ∧ 0 ≤ b) (k : Nat) : a ≤ l.getD k 0 ∧ l.getD k 0 ≤ b := by
  by_cases hk : k < l.length
  · rw [show l.getD k 0 = l[k] by simp [List.getD, hk]]
    exact h _ (List.getElem_mem hk)
  · rw [show l.getD k 0 = 0 by simp [List.getD, List.getElem?_eq_none (by omega : l.length ≤ k)]]
    exact h0

theorem great_same {s : Nat → Int} {x : St5} {nd a a2 : Int} {b b2 : Bool} (h : Great s x nd a b) (h2 : Great s x nd a2 b2) : a2 = a ∧ b2 = b := by
  rcases h with ⟨rfl, p1, p2, p3, p4⟩ | ⟨rfl, rfl, p1⟩ <;> rcases h2 with ⟨rfl, q1, q2, q3, q4⟩ | ⟨rfl, rfl, q1⟩
  · refine ⟨?_, rfl⟩
    rcases Int.lt_trichotomy a2 a with h | h | h
    · have := q4 a h p2; omega
    · exact h
    · have := p4 a2 h q2; omega
  · have := q1 a p1 p2; omega
  · have := p1 a2 q1 q2; omega
  · exact ⟨rfl, rfl⟩

theorem great_exists (s : Nat → Int) (x : St5) (nd : Int) : ∃ a b, Great s x nd a b := by
  have key : ∀ k : Nat, k ≤ 201 → (∃ a, 0 ≤ a ∧ a ≤ 200 ∧ nd ≤ cupsL s x a x.hi ∧ ∀ a', a < a' → a' ≤ 200 → cupsL s x a' x.hi < nd) ∨ (∀ a' : Int, 200 - (k : Int) < a' → a' ≤ 200 → cupsL s x a' x.hi < nd) := by
    intro k
    induction k with
    | zero => intro _; exact .inr (fun a' h1 h2 => by omega)
    | succ k ih =>
      intro hk
      rcases ih (by omega) with h | h
      · exact .inl h
      · by_cases hv : nd ≤ cupsL s x (200 - (k : Int)) x.hi
        · exact .inl ⟨200 - (k : Int), by omega, by omega, hv, h⟩
        · refine .inr (fun a' h1 h2 => ?_)
          by_cases e : a' = 200 - (k : Int)
          · rw [e]; omega
          · exact h a' (by omega) h2
  rcases key 201 (by omega) with ⟨a, h1, h2, h3, h4⟩ | h
  · exact ⟨a, true, .inl ⟨rfl, h1, h2, h3, h4⟩⟩
  · exact ⟨0, false, .inr ⟨rfl, rfl, fun a' h1 h2 => h a' (by omega) h2⟩⟩

theorem gAge_is {A O C P ls lt : Nat} (cs ct : Nat) {n : Nat} {s : Nat → Int} {t : Nat → St5} {nd a : Int} {b : Bool} {w : World} (H : Hid (LineAt w A O C P ls lt s t)) (hn : n < lt) (hG : Great s (t n) nd a b) :
    Calls Tryz.prog 49 #[.agg #[.slice (some ⟨A, O, none⟩) ls cs, .slice (some ⟨C, P, none⟩) lt ct], .int .i64 (n : Int), .int .i64 nd] w
      fun e w' => e = .returned (.tuple #[.int .i64 a, .bool b]) ∧ Below w.heap.size w w' :=
  (greatestAge_w A O C P ls cs lt ct n s t nd w H hn).mono (by
    rintro e w' ⟨⟨a2, b2, rfl, h2⟩, hb⟩
    obtain ⟨rfl, rfl⟩ := great_same hG h2
    exact ⟨rfl, hb⟩)

end Go.Kn

namespace Go.Kn
open Go Go.Proofs Go.RowKit

/-- which stretches are due, and their last years -/
def duF (aN g : Nat → Int) (un : Int) (i : Nat) : Bool := decide (aN i < 200 ∧ aN i - g i < un)
def laF (aN g : Nat → Int) (i : Nat) : Int := aN i - g i

set_option maxRecDepth 100000 in
set_option maxHeartbeats 1500000 in
theorem pplan_w (A O C P ls cs lt ct D F cq : Nat) (s : Nat → Int) (t : Nat → St5) (g aN : Nat → Int) (bN : Nat → Bool) (nd un : Int) (w : World) (H : Hid (LineAt w A O C P ls lt s t)) (hD : D < w.heap.size) (HD : Hid (NumAt w D F lt g)) (HQ : Hid (AgeP lt lt g)) (hnd : fromB 1 10000000 nd = true)
    (hun : fromB 0 40 un = true) (HA : Hid (∀ i, i < lt → Great s (t i) nd (aN i) (bN i))) :
    Calls Tryz.prog 14 #[.agg #[.slice (some ⟨A, O, none⟩) ls cs, .slice (some ⟨C, P, none⟩) lt ct], .slice (some ⟨D, F, none⟩) lt cq, .int .i64 nd, .int .i64 un] w
      fun e w' => (((∃ i, i < lt ∧ bN i = false) ∧ e = .returned (.tuple #[.slice none 0 0, .int .i64 5])) ∨
          ((∀ i, i < lt → bN i = true) ∧ NoYears (lst (duF aN g un) (laF aN g) lt) [] ∧ e = .returned (.tuple #[.slice none 0 0, .int .i64 5])) ∨
          ((∀ i, i < lt → bN i = true) ∧ ∃ ys out G, Greedy (lst (duF aN g un) (laF aN g) lt) [] ys ∧ Pl (lst (duF aN g un) (laF aN g) lt) ys out ∧ e = .returned (.tuple #[.slice (some ⟨G, 0, none⟩) lt lt, .int .i64 0]) ∧ w.heap.size ≤ G ∧ G < w'.heap.size ∧ NumAt w' G 0 lt (plF (duF aN g un) out (cnt (duF aN g un) lt)))) ∧ Below w.heap.size w w' := by
  obtain ⟨W0, hW0⟩ : ∃ W0, W0 = w.alloc (.cells #[.slice (some ⟨A, O, none⟩) ls cs, .slice (some ⟨C, P, none⟩) lt ct] 25) := ⟨_, rfl⟩
  have hz : W0.heap.size = w.heap.size + 1 := by rw [hW0]; simp
  have hB0 : Below w.heap.size w W0 := by rw [hW0]; exact (Below.refl _ _).alloc (Nat.le_refl _) _
  have FX : Hid (∀ w', Below W0.heap.size W0 w' → w'.cell? ⟨w.heap.size, 0, none⟩ = some (.slice (some ⟨A, O, none⟩) ls cs) ∧ w'.cell? ⟨w.heap.size, 1, none⟩ = some (.slice (some ⟨C, P, none⟩) lt ct) ∧ LineAt w' A O C P ls lt s t ∧ NumAt w' D F lt g) := Lib.hid fun w' h => by
    have q : ∀ b o, b < W0.heap.size → w'.cell? ⟨b, o, none⟩ = W0.cell? ⟨b, o, none⟩ := (bcell h).1
    have hall := hB0.trans (h.mono (by omega))
    exact ⟨(q _ _ (by omega)).trans (by rw [hW0]; simp), (q _ _ (by omega)).trans (by rw [hW0]; simp), H.out.below hall, HD.out.below hD hall⟩
  have HN : Hid (∀ w1, Below W0.heap.size W0 w1 → Hid (AnyLine w1 (some ⟨A, O, none⟩) (some ⟨C, P, none⟩) ls lt s t)) := Lib.hid fun w1 h => Lib.hid ⟨.inr ⟨A, O, rfl, (FX.out w1 h).2.2.1.hA, (FX.out w1 h).2.2.1.sp⟩, .inr ⟨C, P, rfl, (FX.out w1 h).2.2.1.hC, (FX.out w1 h).2.2.1.st⟩⟩
  have HI : Hid (∀ w1, Below W0.heap.size W0 w1 → Hid (IntSl w1 (some ⟨D, F, none⟩) lt g)) := Lib.hid fun w1 h => Lib.hid (.inr ⟨D, F, rfl, Nat.lt_of_lt_of_le hD (hB0.trans (h.mono (by omega))).size, (FX.out w1 h).2.2.2⟩)
  have HR : Hid (RightP ls lt s t) := Lib.hid ⟨H.out.ls1, H.out.ls2, H.out.lt1, H.out.lt2, H.out.sok, H.out.tok⟩
  have q0 := H.out.ls2
  have q1 := H.out.lt1
  have q2 := H.out.lt2
  have hltm : lt ≤ maxLen := by unfold maxLen; omega
  have hun' : 0 ≤ un ∧ un ≤ 40 := by simpa [fromB] using hun
  have HAB : Hid (∀ i, i < lt → (0 ≤ aN i ∧ aN i ≤ 200) ∧ (0 ≤ g i ∧ g i ≤ 200)) := Lib.hid fun i hi => by
    have h2 := HQ.out.ok i hi
    simp only [fromB, decide_eq_true_eq] at h2
    refine ⟨?_, h2⟩
    rcases HA.out i hi with ⟨_, a, b, _⟩ | ⟨_, a, _⟩
    · exact ⟨a, b⟩
    · omega
  obtain ⟨i0, hi, hz0, hz1, hz22⟩ := info_parts info3'
  go_enter Tryz.func14, Tryz.ntmps14
  go_wp2_with (first
    | (go_at_call 38; rw [← hW0]; refine (isLine2_w _ _ _ _ _ _ s t _ (by omega) (by omega) (HN.out _ (Below.refl _ _))).mono ?_; rintro e w1 ⟨⟨rb, rfl, hrb⟩, hb1⟩; obtain rfl : rb = true := hrb.2 HR.out; clear hrb; obtain ⟨x1, x2, x3⟩ := FX.out _ hb1; clear x3)
    | (go_at_call 46; refine (areAges_w _ _ _ _ _ _ _ g _ ⟨q1, by omega⟩ hltm (HI.out _ hb1)).mono ?_; rintro e w2 ⟨⟨rb, rfl, hrb⟩, hb2⟩; obtain rfl : rb = true := hrb.2 HQ.out; clear hrb; have hb12 := hb1.trans (hb2.mono hb1.size); clear x1 x2; obtain ⟨x1, x2, x3⟩ := FX.out _ hb12; clear x3)
    | (go_at_call 47; refine (isNeed_w _ _).mono ?_; rintro e w' ⟨rfl, rfl⟩)
    | (go_at_call 48; refine (isFrom_w _ _ _ _).mono ?_; rintro e w' ⟨rfl, rfl⟩)
    | (at_make; refine wpList_make_full _ rfl _ _ 22 rfl w.heap.size 3 i0 _ 1 Tryz.underlying22 hi hz0 hz1 _ _ _ _ lt rfl rfl rfl rfl (by rw [hz22]; omega) hltm (by have := hb12.size; omega) ?_; intro w4 hown hgrow; have hb3 := (Below.refl w2.heap.size w2).grown hgrow (Nat.le_refl _) (fun k h => by cases h); have hrow := rowAt_of_owns hown))
  have HG : Hid (w.heap.size + 1 ≤ w2.heap.size) := Lib.hid (by have := hb12.size; omega)
  have HB4 : Hid (Below W0.heap.size W0 w4) := Lib.hid (hb12.trans (hb3.mono hb12.size))
  obtain ⟨G, hGe⟩ : ∃ G, G = w2.heap.size := ⟨_, rfl⟩
  rw [← hGe] at hrow ⊢
  have hG1 := HG.out
  rw [← hGe] at hG1
  have HRW : Hid (RowAt w4 G (lt * 1)) := Lib.hid hrow
  clear hown hgrow hrow x1 x2 hb1 hb2 hb12 hb3 HG hGe
  have hz0' := hz
  go_loopw [11, 12, 46] (fun v1 v2 ii wr => ∃ i : Nat, i ≤ lt ∧ ii = .int .i64 i ∧ wr.ownsRow (G + 1) 3 1 v1 (cnt (duF aN g un) i) ((dux (duF aN g un) i).map (Value.int .i64)) ∧ wr.ownsRow (G + 1) 3 1 v2 (cnt (duF aN g un) i) ((lst (duF aN g un) (laF aN g) i).map (Value.int .i64)) ∧
      (∀ r, v1.ownBlock = some r → v2.ownBlock ≠ some r) ∧ RowAt wr G (lt * 1) ∧ NumAt wr G 0 i (fun _ => -1) ∧ Hid (∀ j, j < i → bN j = true) ∧ Below G w4 wr ∧ G + 1 ≤ wr.heap.size) (fun _ _ i _ => lt - (intOf i).toNat)
  case atStart => exact ⟨0, Nat.zero_le _, rfl, World.ownsRow_nil _ _ _ _, World.ownsRow_nil _ _ _ _, fun r h => by simp [Value.ownBlock] at h, HRW.out, fun j hj => absurd hj (by omega), fun j hj => absurd hj (by omega), Below.refl _ _, HRW.out.1⟩
  case round =>
    obtain ⟨i, hi', rfl, hown1, hown2, hdis, hrow, hnum, hall, hbw, hwz⟩ := hrel
    have hbW : Below W0.heap.size W0 wr := HB4.out.trans (hbw.mono (by omega))
    obtain ⟨x1, x2, x3, x4⟩ := FX.out _ hbW
    have HA1 := Lib.hid hown1
    have HA2 := Lib.hid hown2
    have HDIS := Lib.hid hdis
    have HROW := Lib.hid hrow
    have HNUM := Lib.hid hnum
    have HBW := Lib.hid hbw
    have HBX := Lib.hid hbW
    clear hown1 hown2 hdis hrow hnum hbw hbW
    have hcl := cnt_le (duF aN g un) i
    by_cases hlt : i < lt
    · have y0 := x4 i hlt
      have HLW := Lib.hid x3
      obtain ⟨⟨a1, a2⟩, g1, g2⟩ := HAB.out i hlt
      have HGR := Lib.hid (HA.out i hlt)
      clear x3 x4
      cases hbi : bN i
      · rw [hbi] at HGR
        go_wp2_with (go_at_call 49; refine (gAge_is cs ct HLW hlt HGR.out).mono ?_; rintro e w5 ⟨rfl, hb5⟩)
        refine bodyPost_ret (v := .tuple #[.slice none 0 0, .int .i64 5]) (by simp [results, Tryz.results14, go_sem]) rfl ⟨.inl ⟨⟨i, hlt, hbi⟩, rfl⟩, hB0.trans ((HBX.out.trans (hb5.mono HBX.out.size)).mono (by omega))⟩
      · rw [hbi] at HGR
        have HBI := Lib.hid hbi
        clear hbi
        obtain ⟨a, ha⟩ : ∃ a, a = aN i := ⟨_, rfl⟩
        obtain ⟨b, hb⟩ : ∃ b, b = g i := ⟨_, rfl⟩
        rw [← ha] at a1 a2 HGR
        rw [← hb] at g1 g2 y0
        have HAE := Lib.hid ha
        have HGE := Lib.hid hb
        clear ha hb
        have hr5 : ∀ w5, Below wr.heap.size wr w5 → RowAt w5 G (lt * 1) ∧ (w5.setCell ⟨G, i, none⟩ (.int .i64 (-1))).ownsRow (G + 1) 3 1 u11 (cnt (duF aN g un) i) ((dux (duF aN g un) i).map (Value.int .i64)) ∧
            (w5.setCell ⟨G, i, none⟩ (.int .i64 (-1))).ownsRow (G + 1) 3 1 u12 (cnt (duF aN g un) i) ((lst (duF aN g un) (laF aN g) i).map (Value.int .i64)) ∧ NumAt (w5.setCell ⟨G, i, none⟩ (.int .i64 (-1))) G 0 (i + 1) (fun _ => -1) ∧ RowAt (w5.setCell ⟨G, i, none⟩ (.int .i64 (-1))) G (lt * 1) ∧ Below G w4 (w5.setCell ⟨G, i, none⟩ (.int .i64 (-1))) ∧ G + 1 ≤ (w5.setCell ⟨G, i, none⟩ (.int .i64 (-1))).heap.size := fun w5 hb5 => by
          have r5 := HROW.out.below (Nat.lt_succ_self G) (hb5.mono hwz)
          refine ⟨r5, ownsRow_setCell_below (owns_below HA1.out hb5) (Nat.lt_succ_self G) _, ownsRow_setCell_below (owns_below HA2.out hb5) (Nat.lt_succ_self G) _, num_set (fun j hj hne => ?_) r5 (by omega) rfl, r5.set _ _, (HBW.out.trans (hb5.mono (by omega))).setCell (Nat.le_refl _) _, ?_⟩
          · have := (HNUM.out.below' (Nat.lt_succ_self G) (hb5.mono hwz)) j (by omega)
            rwa [Nat.zero_add] at this
          · rw [World.size_setCell]; exact Nat.le_trans hwz hb5.size
        have HR5 := Lib.hid hr5
        clear hr5
        have hall' : Hid (∀ j, j < i + 1 → bN j = true) := Lib.hid fun j hj => by
          by_cases e : j = i
          · rw [e]; exact HBI.out
          · exact hall.out j (by omega)
        by_cases hq : a < 200 ∧ a - b < un
        · have hdu : duF aN g un i = true := by unfold duF; rw [← HAE.out, ← HGE.out]; exact decide_eq_true hq
          have HDU := Lib.hid hdu
          clear hdu
          obtain ⟨hq1, hq2⟩ := hq
          go_wp2_with (first
            | (go_at_call 49; refine (gAge_is cs ct HLW hlt HGR.out).mono ?_; rintro e w5 ⟨rfl, hb5⟩; have HX := Lib.hid (HR5.out _ hb5); obtain ⟨⟨v0, hv0⟩, hf0⟩ := HX.out.1.2 i (by omega); have hz5 := HX.out.2.2.2.2.2.2)
            | (at_builtin; refine wpList_append_own_at _ rfl (.tmp 73) (.tmp 75) 22 rfl (G + 1) 3 i0 (.int .i64 0) 1 8 Tryz.underlying22 hi hz0 hz1 hz22 rfl (by decide) _ (cnt (duF aN g un) i) _ rfl (HX.out.2.1.alloc _) ⟨_, 0, none⟩ 1 1 [.int .i64 (i : Int)] rfl rfl (lies_any (by first | exact al_top rfl _ _ | exact al_top (by simp) _ _)) (by intro u hu; simp at hu; subst hu; rfl) (by unfold maxLen; omega) (by omega) (by simp at hz5 ⊢; omega) ?_; intro v1' w7 hown7 hgrow7 _ hloc7; have hz7 : G + 1 ≤ w7.heap.size := (by have := hgrow7.size; simp at this hz5; omega))
            | (at_builtin; refine wpList_append_own_at _ rfl (.tmp 77) (.tmp 79) 22 rfl (G + 1) 3 i0 (.int .i64 0) 1 8 Tryz.underlying22 hi hz0 hz1 hz22 rfl (by decide) _ (cnt (duF aN g un) i) _ rfl ((keep2 (HX.out.2.2.1.alloc _) hgrow7 HDIS.out).alloc _) ⟨_, 0, none⟩ 1 1 [.int .i64 (a - b)] rfl rfl (lies_any (by first | exact al_top rfl _ _ | exact al_top (by simp) _ _)) (by intro u hu; simp at hu; subst hu; rfl) (by unfold maxLen; omega) (by omega) (by simp; omega) ?_; intro v2' w8 hown8 hgrow8 _ hloc8))
          have D1 : ∀ r, Value.ownBlock u12 = some r → Value.ownBlock v1' ≠ some r := fun r h2 h1 => by
            rcases hloc7 with e | e
            · exact HDIS.out r (e ▸ h1) h2
            · have := own_lt HX.out.2.2.1 r h2
              rw [e] at h1
              simp at h1 this
              omega
          have D2 : ∀ r, Value.ownBlock v1' = some r → Value.ownBlock v2' ≠ some r := fun r h1 h2 => by
            rcases hloc8 with e | e
            · exact D1 r (e ▸ h2) h1
            · have := own_lt hown7 r h1
              rw [e] at h2
              simp at h2
              omega
          have hB8 : Below (G + 1) (w5.setCell ⟨G, i, none⟩ (.int .i64 (-1))) w8 := ((((Below.refl _ _).alloc hz5 _).grown hgrow7 (by simp at hz5 ⊢; omega) (fun r e => own_ge HX.out.2.1 r e)).alloc hz7 _).grown hgrow8 (by simp; omega) (fun r e => own_ge HX.out.2.2.1 r e)
          have HB8 := Lib.hid hB8
          have HK1 := Lib.hid (keep2 (hown7.alloc _) hgrow8 D1)
          have HK2 := Lib.hid hown8
          have HD2 := Lib.hid D2
          have hz8 := hgrow8.size
          clear hB8 hown7 hown8 D1 D2 hgrow7 hgrow8 hloc7 hloc8
          go_roundw
          case rel =>
            refine ⟨i + 1, by omega, by go_num, ?_, ?_, HD2.out, HX.out.2.2.2.2.1.below (Nat.lt_succ_self G) HB8.out, HX.out.2.2.2.1.below' (Nat.lt_succ_self G) HB8.out, hall', HX.out.2.2.2.2.2.1.trans (HB8.out.mono (by omega)), by simp at hz8; omega⟩
            · rw [cnt_t HDU.out, dux_t HDU.out, List.map_append]; exact HK1.out
            · rw [cnt_t HDU.out, lst_t _ HDU.out, List.map_append, show laF aN g i = a - b by unfold laF; rw [← HAE.out, ← HGE.out]]; exact HK2.out
          case measure => simp [intOf]; omega
        · have hdu : duF aN g un i = false := by unfold duF; rw [← HAE.out, ← HGE.out]; exact decide_eq_false hq
          have HDU := Lib.hid hdu
          clear hdu
          by_cases hq1 : a < 200
          · have hq2 : ¬ (a - b < un) := fun h => hq ⟨hq1, h⟩
            clear hq
            go_wp2_with (go_at_call 49; refine (gAge_is cs ct HLW hlt HGR.out).mono ?_; rintro e w5 ⟨rfl, hb5⟩; have HX := Lib.hid (HR5.out _ hb5); obtain ⟨⟨v0, hv0⟩, hf0⟩ := HX.out.1.2 i (by omega))
            go_roundw
            case rel => exact ⟨i + 1, by omega, by go_num, by rw [cnt_f HDU.out, dux_f HDU.out]; exact HX.out.2.1, by rw [cnt_f HDU.out, lst_f _ HDU.out]; exact HX.out.2.2.1, HDIS.out, HX.out.2.2.2.2.1, HX.out.2.2.2.1, hall', HX.out.2.2.2.2.2.1, HX.out.2.2.2.2.2.2⟩
            case measure => simp [intOf]; omega
          · clear hq
            go_wp2_with (go_at_call 49; refine (gAge_is cs ct HLW hlt HGR.out).mono ?_; rintro e w5 ⟨rfl, hb5⟩; have HX := Lib.hid (HR5.out _ hb5); obtain ⟨⟨v0, hv0⟩, hf0⟩ := HX.out.1.2 i (by omega))
            go_roundw
            case rel => exact ⟨i + 1, by omega, by go_num, by rw [cnt_f HDU.out, dux_f HDU.out]; exact HX.out.2.1, by rw [cnt_f HDU.out, lst_f _ HDU.out]; exact HX.out.2.2.1, HDIS.out, HX.out.2.2.2.2.1, HX.out.2.2.2.1, hall', HX.out.2.2.2.2.2.1, HX.out.2.2.2.2.2.2⟩
            case measure => simp [intOf]; omega
    · obtain rfl : i = lt := by omega
      clear x3 x4
      have hL := lst_len (duF aN g un) (laF aN g) i
      have hX := dux_len (duF aN g un) i
      obtain ⟨m, hm⟩ : ∃ m, m = cnt (duF aN g un) i := ⟨_, rfl⟩
      rw [← hm] at hL hX hcl HA1 HA2
      obtain ⟨sa, c1, rfl, -, -, -, hs1⟩ := intSl_of_owns' HA1.out
      obtain ⟨sb, c2, rfl, -, hr1, hr2, hs2⟩ := intSl_of_owns' HA2.out
      have HS1 := Lib.hid hs1
      have HS2 := Lib.hid hs2
      have HLL := Lib.hid hL
      have HXX := Lib.hid hX
      have HM := Lib.hid hm
      clear hs1 hs2 hL hX hm
      have hbd : Hid (∀ k, -1000 ≤ (lst (duF aN g un) (laF aN g) i).getD k 0 ∧ (lst (duF aN g un) (laF aN g) i).getD k 0 ≤ 1000) := Lib.hid fun k => getD_bd (fun x hx => lst_bd (n := i) (p := fun x => -1000 ≤ x ∧ x ≤ 1000) (fun j hj => by
        have := HAB.out j hj
        unfold laF
        omega) i (Nat.le_refl _) x hx) (by omega) k
      have hfr : Hid (from' (fun k => (lst (duF aN g un) (laF aN g) i).getD k 0) 0 m = lst (duF aN g un) (laF aN g) i) := Lib.hid (by
        have := from_getD0 (lst (duF aN g un) (laF aN g) i)
        rwa [HLL.out] at this)
      rcases years_or (lst (duF aN g un) (laF aN g) i) [] with ⟨ys, hys⟩ | hno
      · have HYS := Lib.hid hys
        have HOPT : Hid (Opt (from' (fun k => (lst (duF aN g un) (laF aN g) i).getD k 0) 0 m) [] ys) := Lib.hid (by rw [hfr.out]; exact greedy_opt hys)
        clear hys
        go_wp2_with (go_at_call 50; refine (bestYears_w sb m c2 (fun k => (lst (duF aN g un) (laF aN g) i).getD k 0) _ (by omega) hr1 hr2 hbd.out HS2 ys HOPT).mono ?_; rintro e w6 ⟨⟨v, out, rfl, hpl, hown⟩, hb6⟩)
        have HPL : Hid (Pl (lst (duF aN g un) (laF aN g) i) ys out) := Lib.hid (by have := hpl; rwa [hfr.out] at this)
        obtain ⟨sc, c3, rfl, -, -, -, hs3⟩ := intSl_of_owns' hown
        have hyge := own_ge hown
        have hdge := own_ge HA1.out
        have HS3 := Lib.hid hs3
        have HGE3 := Lib.hid hyge
        have HGE1 := Lib.hid hdge
        have HB6 := Lib.hid hb6
        have hz6 := hb6.size
        have HR6 := Lib.hid (HROW.out.below (Nat.lt_succ_self G) (hb6.mono hwz))
        have HN6 := Lib.hid (HNUM.out.below' (Nat.lt_succ_self G) (hb6.mono hwz))
        clear hpl hown hs3 hyge hdge hb6 x1 x2
        go_loopw [91] (fun ii w7 => ∃ k : Nat, k ≤ m ∧ ii = .int .i64 k ∧ RowAt w7 G (i * 1) ∧ NumAt w7 G 0 i (plF (duF aN g un) out k) ∧ KB G w6 w7) (fun ii _ => m - (intOf ii).toNat)
        case atStart => exact ⟨0, Nat.zero_le _, rfl, HR6.out, fun j hj => by rw [plF_zero]; exact HN6.out j hj, KB.refl _ _⟩
        case round =>
          rename_i w7
          obtain ⟨k, hk, rfl, hrow7, hnum7, hkb7⟩ := hrel
          have HROW7 := Lib.hid hrow7
          have HNUM7 := Lib.hid hnum7
          have HKB7 := Lib.hid hkb7
          clear hrow7 hnum7 hkb7
          by_cases hkm : k < m
          · obtain ⟨A1, O1, rfl, hA1, hn1⟩ := HS1.out.resolve_left (by omega)
            obtain ⟨A2, O2, rfl, hA2, hn2⟩ := HS3.out.resolve_left (by omega)
            have e1 := HGE1.out A1 rfl
            have e2 := HGE3.out A2 rfl
            have y1 := (KB.num (hn1.below hA1 HB6.out) (Nat.lt_of_lt_of_le hA1 hz6) (by omega) HKB7.out) k hkm
            have y2 := (KB.num hn2 hA2 (by omega) HKB7.out) k hkm
            obtain ⟨j, hj1, hj2, hj3, hj4⟩ := dux_get (du := duF aN g un) (n := i) (k := k) (by rw [← HM.out]; exact hkm)
            simp only [] at y1 y2
            rw [hj4] at y1
            have HJ2 := Lib.hid hj2
            have HJ3 := Lib.hid hj3
            obtain ⟨q, hq⟩ : ∃ q, q = out.getD k 0 := ⟨_, rfl⟩
            rw [← hq] at y2
            have HQQ := Lib.hid hq
            clear hj2 hj3 hj4 hq hn1 hn2
            obtain ⟨⟨v0, hv0⟩, hf0⟩ := HROW7.out.2 j (by omega)
            have n1 : (0 : Int) ≤ (j : Int) := by omega
            have n2 : (j : Int) < (i : Int) := by omega
            go_wp2
            go_roundw
            case rel => exact ⟨k + 1, by omega, by go_num, HROW7.out.set _ _, num_set (fun p hp hne => by
              have := HNUM7.out p hp
              rw [Nat.zero_add] at this
              rw [plF_step out HJ2.out HJ3.out p, if_neg hne]
              exact this) HROW7.out (by omega) (by rw [plF_step out HJ2.out HJ3.out j, if_pos rfl, HQQ.out]), HKB7.out.set rfl _⟩
            case measure => simp [intOf]; omega
          · obtain rfl : k = m := by omega
            go_wp2
            refine bodyPost_ret (v := .tuple #[.slice (some ⟨G, 0, none⟩) i i, .int .i64 0]) (by simp [results, Tryz.results14, go_sem]) rfl ⟨.inr (.inr ⟨hall.out, ys, out, G, HYS.out, HPL.out, rfl, by omega, HROW7.out.1, by rw [← HM.out]; exact HNUM7.out⟩), ?_⟩
            have h1 := HBX.out.trans (HB6.out.mono HBX.out.size)
            exact hB0.trans ((KB.below h1 HKB7.out (by omega) h1.size).mono (by omega))
      · have HNO : Hid (NoYears (from' (fun k => (lst (duF aN g un) (laF aN g) i).getD k 0) 0 m) []) := Lib.hid (by rw [hfr.out]; exact hno)
        have HNO2 := Lib.hid hno
        clear hno
        go_wp2_with (go_at_call 50; refine (bestYears_no sb m c2 (fun k => (lst (duF aN g un) (laF aN g) i).getD k 0) _ (by omega) hbd.out HS2 HNO).mono ?_; rintro e w6 ⟨rfl, hb6⟩)
        refine bodyPost_ret (v := .tuple #[.slice none 0 0, .int .i64 5]) (by simp [results, Tryz.results14, go_sem]) rfl ⟨.inr (.inl ⟨hall.out, HNO2.out, rfl⟩), hB0.trans ((HBX.out.trans (hb6.mono HBX.out.size)).mono (by omega))⟩

end Go.Kn
