/- Walks of functions of layer 2 (contracts that the laws of this seat use). Conditions: as each theorem states them. -/
import Derived.Test.YtfjfipijogjkbaaGreatDoorEV
import Derived.Laws.EntriesVeiled
import Derived.Test.YtfjfipijogjkbaaGreatDoorES
set_option linter.unusedVariables false
set_option linter.unusedSimpArgs false
namespace Go.Kn
open Go Go.Proofs Go.RowKit Go.Shelf

theorem yieldAt_any {m : Nat} (m' : Nat) {P : Program} {l : Nat} {args : Array Value} {W : World} {R : Ending → World → Prop} (h : YieldAt Fence.wide m P l args W R) : YieldAt Fence.wide m' P l args W R := by
  obtain ⟨fn, tmps, assign, body, hy, hR⟩ := h
  exact ⟨fn, tmps, assign, body, hy, hR.1, fun c cs _ => hR.2 c cs (fun d h => by cases h)⟩

/-- what the classes and the pressures say of the search -/
def cBu (c : Nat → Cl3) (sp : Nat → Sp2) (j k : Nat) : Bool := decide ((c j).be < (sp k).hi)
def cSt (c : Nat → Cl3) (j : Nat) : Int := (c j).st
def cPr (c : Nat → Cl3) (j : Nat) : Int := (c j).pr

theorem us_zero {W : World} {B : Nat} {t : TypeId} (h : W.heap[B]? = some (.cells #[.int .i64 0, .int .i64 0, .int .i64 0, .int .i64 0] t (0, 0))) : ∀ j, j < 4 → W.cell? ⟨B, j, none⟩ = some (.int .i64 0) ∧ W.frozen? ⟨B, j, none⟩ = false := by
  intro j hj
  match j, hj with
  | 0, _ => simp [World.cell?, World.frozen?, h]
  | 1, _ => simp [World.cell?, World.frozen?, h]
  | 2, _ => simp [World.cell?, World.frozen?, h]
  | 3, _ => simp [World.cell?, World.frozen?, h]

set_option maxRecDepth 100000 in
set_option maxHeartbeats 4000000 in
/-- the iterator that sufficing hands back -/
theorem seq_w (il ih : Int) (C P cp A O ll cl : Nat) (p : Nat → Sp2) (l : Nat → Int) (C2 P2 kk ck : Nat) (c : Nat → Cl3) (Bs Bk : Nat) (w : World) (H : Hid (SipAt w C P (ll + 1) A O ll il ih p l)) (hC2 : C2 < w.heap.size) (HC : Hid (ClAt w C2 P2 kk c)) (HK : Hid (ClsP kk c))
    (hBs : Bs < w.heap.size) (hBk : Bk < w.heap.size) (s0 : w.cell? ⟨Bs, 0, none⟩ = some (.int .i64 il)) (s1 : w.cell? ⟨Bs, 1, none⟩ = some (.int .i64 ih)) (s2 : w.cell? ⟨Bs, 2, none⟩ = some (.slice (some ⟨C, P, none⟩) (ll + 1) cp)) (s3 : w.cell? ⟨Bs, 3, none⟩ = some (.slice (some ⟨A, O, none⟩) ll cl))
    (s4 : w.cell? ⟨Bk, 0, none⟩ = some (.slice (some ⟨C2, P2, none⟩) kk ck)) :
    SeqY w 95 #[.pointer (some ⟨Bs, 0, none⟩), .pointer (some ⟨Bk, 0, none⟩)] (sufL kk (cBu c (prOf il ih p)) l (cSt c) (cPr c) ll) := by
  intro y J W hz hB hJ hY h0
  have HJ := Lib.hid hJ
  have HY := Lib.hid hY
  have H0 := Lib.hid h0
  have q1 := H.out.lp1
  have q2 := H.out.lp2
  have t0 := (hB.cell (p := ⟨Bs, 0, none⟩) hBs).trans s0
  have t1 := (hB.cell (p := ⟨Bs, 1, none⟩) hBs).trans s1
  have t2 := (hB.cell (p := ⟨Bs, 2, none⟩) hBs).trans s2
  have t3 := (hB.cell (p := ⟨Bs, 3, none⟩) hBs).trans s3
  have t4 := (hB.cell (p := ⟨Bk, 0, none⟩) hBk).trans s4
  have hBs2 : Bs < W.heap.size := by omega
  have a0 := fun o : Obj => (World.cell?_alloc_lt W o ⟨Bs, 0, none⟩ hBs2).trans t0
  have a1 := fun o : Obj => (World.cell?_alloc_lt W o ⟨Bs, 1, none⟩ hBs2).trans t1
  have a2 := fun o : Obj => (World.cell?_alloc_lt W o ⟨Bs, 2, none⟩ hBs2).trans t2
  have a3 := fun o : Obj => (World.cell?_alloc_lt W o ⟨Bs, 3, none⟩ hBs2).trans t3
  clear hJ hY h0 s0 s1 s2 s3 s4
  have HT3 := Lib.hid t3
  have HT4 := Lib.hid t4
  have HSW : Hid (SipAt W C P (ll + 1) A O ll il ih p l) := Lib.hid (H.out.below hB)
  refine callsIn_wide.2 ?_
  show Calls Tryz.prog 95 #[.func (.yield y) #[] #[], .pointer (some ⟨Bs, 0, none⟩), .pointer (some ⟨Bk, 0, none⟩)] W _
  go_enter Tryz.func95, Tryz.ntmps95
  go_wp2_with (go_at_call 57; refine (pressures_w _ _ _ _ _ _ _ _ _ _ p l _ (Lib.hid (HSW.out.below ((Below.refl _ _).alloc (Nat.le_refl _) _)))).mono ?_; rintro e w1 ⟨⟨G, rfl, hG1, hG2, hG3⟩, hb1⟩)
  obtain ⟨Wz, hWz⟩ : ∃ Wz, Wz = ((((w1.alloc (.cells #[.slice (some ⟨G, 0, none⟩) ll ll] 38)).alloc (.cells #[.slice none 0 0] 22)).alloc (.cells #[.int .i64 0, .int .i64 0, .int .i64 0, .int .i64 0] 130)).alloc
      (.cells #[.func (.func 96) #[] #[.pointer (some ⟨w1.heap.size + 1, 0, none⟩), .pointer (some ⟨Bs, 0, none⟩), .pointer (some ⟨w.heap.size + 5, 0, none⟩), .pointer (some ⟨Bk, 0, none⟩), .pointer (some ⟨w1.heap.size, 0, none⟩), .pointer (some ⟨w1.heap.size + 1 + 1, 0, none⟩), .pointer (some ⟨w1.heap.size + 1 + 1 + 1, 0, none⟩)]] 35)) := ⟨_, rfl⟩
  rw [← hWz]
  have hz1 : w.heap.size + 6 ≤ w1.heap.size := by have := hb1.size; simp at this; omega
  have hzz : Wz.heap.size = w1.heap.size + 4 := by rw [hWz]; simp
  have hbz : Below w1.heap.size w1 Wz := by rw [hWz]; exact ((((Below.refl _ _).alloc (Nat.le_refl _) _).alloc (by simp) _).alloc (by simp; omega) _).alloc (by simp; omega) _
  have g0 : Wz.heap[w1.heap.size]? = some (.cells #[.slice (some ⟨G, 0, none⟩) ll ll] 38 (0, 0)) := by
    rw [hWz]
    exact (Below.heap_alloc _ _ _ (by simp <;> omega)).trans ((Below.heap_alloc _ _ _ (by simp <;> omega)).trans ((Below.heap_alloc _ _ _ (by simp)).trans (World.alloc_heap_new w1 _)))
  have g1 : Wz.heap[w1.heap.size + 1]? = some (.cells #[.slice none 0 0] 22 (0, 0)) := by
    rw [hWz]
    have := World.alloc_heap_new (w1.alloc (.cells #[.slice (some ⟨G, 0, none⟩) ll ll] 38)) (.cells #[.slice none 0 0] 22)
    rw [World.size_alloc] at this
    exact (Below.heap_alloc _ _ _ (by simp <;> omega)).trans ((Below.heap_alloc _ _ _ (by simp)).trans this)
  have g2 : Wz.heap[w1.heap.size + 1 + 1]? = some (.cells #[.int .i64 0, .int .i64 0, .int .i64 0, .int .i64 0] 130 (0, 0)) := by
    rw [hWz]
    have := World.alloc_heap_new ((w1.alloc (.cells #[.slice (some ⟨G, 0, none⟩) ll ll] 38)).alloc (.cells #[.slice none 0 0] 22)) (.cells #[.int .i64 0, .int .i64 0, .int .i64 0, .int .i64 0] 130)
    rw [World.size_alloc, World.size_alloc] at this
    exact (Below.heap_alloc _ _ _ (by simp)).trans this
  have g3 : Wz.cell? ⟨w1.heap.size + 1 + 1 + 1, 0, none⟩ = some (.func (.func 96) #[] #[.pointer (some ⟨w1.heap.size + 1, 0, none⟩), .pointer (some ⟨Bs, 0, none⟩), .pointer (some ⟨w.heap.size + 5, 0, none⟩), .pointer (some ⟨Bk, 0, none⟩), .pointer (some ⟨w1.heap.size, 0, none⟩), .pointer (some ⟨w1.heap.size + 1 + 1, 0, none⟩), .pointer (some ⟨w1.heap.size + 1 + 1 + 1, 0, none⟩)]) := by
    rw [hWz]
    have := World.alloc_heap_new (((w1.alloc (.cells #[.slice (some ⟨G, 0, none⟩) ll ll] 38)).alloc (.cells #[.slice none 0 0] 22)).alloc (.cells #[.int .i64 0, .int .i64 0, .int .i64 0, .int .i64 0] 130))
      (.cells #[.func (.func 96) #[] #[.pointer (some ⟨w1.heap.size + 1, 0, none⟩), .pointer (some ⟨Bs, 0, none⟩), .pointer (some ⟨w.heap.size + 5, 0, none⟩), .pointer (some ⟨Bk, 0, none⟩), .pointer (some ⟨w1.heap.size, 0, none⟩), .pointer (some ⟨w1.heap.size + 1 + 1, 0, none⟩), .pointer (some ⟨w1.heap.size + 1 + 1 + 1, 0, none⟩)]] 35)
    rw [World.size_alloc, World.size_alloc, World.size_alloc] at this
    unfold World.cell?
    simp only []
    rw [this]
    rfl
  clear hWz
  have hBW : Below W.heap.size W (W.alloc (.cells #[.func (.yield y) #[] #[]] 129)) := (Below.refl _ _).alloc (Nat.le_refl _) _
  have hbW1 : Below W.heap.size W w1 := hBW.trans (hb1.mono hBW.size)
  have hbWz : Below W.heap.size W Wz := hbW1.trans (hbz.mono (by omega))
  have cy : Wz.cell? ⟨w.heap.size + 5, 0, none⟩ = some (.func (.yield y) #[] #[]) := by
    refine (hbz.cell (p := ⟨w.heap.size + 5, 0, none⟩) (by simp only []; omega)).trans ((hb1.cell (p := ⟨w.heap.size + 5, 0, none⟩) (by simp; omega)).trans ?_)
    rw [← hz]; simp
  have hCw : C2 < W.heap.size := by omega
  have hAw := HSW.out.hA
  have k1 := HK.out.n1
  have k2 := HK.out.n2
  have hA0 := H.out.hA
  have ok : GE.Ok ⟨Wz, w.heap.size, w1.heap.size + 1, Bs, w.heap.size + 5, Bk, w1.heap.size, w1.heap.size + 1 + 1, w1.heap.size + 1 + 1 + 1, A, O, ll, cl, C2, P2, kk, ck, G, ll, y, l, c, prOf il ih p, J⟩ := by
    refine ⟨⟨?_, ?_, ?_, ?_⟩, ⟨?_, ?_, ?_, ?_⟩, ⟨?_, ?_, ?_, ?_⟩, ⟨?_, ?_, ?_, ?_⟩, ⟨?_, ?_, ?_, ?_⟩, ⟨?_, ?_, ?_, ?_⟩, ⟨?_, ?_, ?_, ?_⟩, ⟨?_, ?_, ?_, ?_⟩, (hbWz.cell (p := ⟨Bs, 3, none⟩) (by simp only []; omega)).trans HT3.out, cy, (hbWz.cell (p := ⟨Bk, 0, none⟩) (by simp only []; omega)).trans HT4.out, by simp [World.cell?, g0], g3, HSW.out.ln.below HSW.out.hA hbWz, (HC.out.below hC2 hB).below hCw hbWz, hG3.below hG2 hbz, by show 1 ≤ ll; omega, by show ll ≤ 7; omega, k1, k2, fun i hi => ?_, HK.out.ok, ?_, ?_, ?_, ?_, ?_, HJ.out, fun k pre x W1 hj => yieldAt_any k (HY.out pre x W1 hj)⟩
    case refine_33 =>
      have := HSW.out.lok i hi
      simp only [fromB, decide_eq_true_eq] at this
      exact this
    all_goals (simp only [ne_eq]; try simp at hG1; omega)
  have st : (GE.mk Wz w.heap.size (w1.heap.size + 1) Bs (w.heap.size + 5) Bk w1.heap.size (w1.heap.size + 1 + 1) (w1.heap.size + 1 + 1 + 1) A O ll cl C2 P2 kk ck G ll y l c (prOf il ih p) J).St Wz [] (fun _ => 0) [] :=
    ⟨Nat.le_refl _, fun _ _ => rfl, ⟨.slice none 0 0, g1, World.ownsRow_nil _ _ _ _, fun _ h => (by cases h)⟩, us_zero g2, fun _ h => (by cases h), HJ.out _ _ _ H0.out (hbWz.mono (by omega))⟩
  have HB1 := Lib.hid (hbWz)
  refine (goOn_w _ (Lib.hid ok) ll [] (fun _ => 0) [] 0 Wz (by simp) (Lib.hid fun j _ => ⟨by simp, by simp⟩) (Int.le_refl _) (by simp) (Lib.hid st)).mono ?_
  rintro e w2 ⟨rfl, zs, hzs, hst⟩
  go_wp2
  go_end0
  exact ⟨⟨_, rfl⟩, zs, ⟨hzs, fun x hx => ⟨by have := (hst.yy x hx).1; simp only [] at this; omega, (hst.yy x hx).2⟩⟩, hst.J⟩

set_option maxHeartbeats 1000000 in
/-- sufficing: both arguments boxed -/
theorem suff_w (il ih : Int) (pa la : Option Addr) (lp cp ll cl : Nat) (ka : Option Addr) (kk ck : Nat) (w : World) :
    Calls Tryz.prog 60 #[.agg #[.int .i64 il, .int .i64 ih, .slice pa lp cp, .slice la ll cl], .slice ka kk ck] w
      fun e w' => e = .returned (.func (.func 95) #[] #[.pointer (some ⟨w.heap.size, 0, none⟩), .pointer (some ⟨w.heap.size + 1, 0, none⟩)]) ∧ w' = (w.alloc (.cells #[.int .i64 il, .int .i64 ih, .slice pa lp cp, .slice la ll cl] 40)).alloc (.cells #[.slice ka kk ck] 41) := by
  go_enter Tryz.func60, Tryz.ntmps60
  go_wp2
  go_ret
  exact ⟨rfl, rfl⟩

theorem seq2_w (il ih : Int) (C P cp A O ll cl : Nat) (p : Nat → Sp2) (l : Nat → Int) (C2 P2 kk ck : Nat) (c : Nat → Cl3) (w2 : World) (H : SipAt w2 C P (ll + 1) A O ll il ih p l) (hC2 : C2 < w2.heap.size) (HC : ClAt w2 C2 P2 kk c) (HK : Hid (ClsP kk c)) :
    SeqY ((w2.alloc (.cells #[.int .i64 il, .int .i64 ih, .slice (some ⟨C, P, none⟩) (ll + 1) cp, .slice (some ⟨A, O, none⟩) ll cl] 40)).alloc (.cells #[.slice (some ⟨C2, P2, none⟩) kk ck] 41)) 95 #[.pointer (some ⟨w2.heap.size, 0, none⟩), .pointer (some ⟨w2.heap.size + 1, 0, none⟩)] (sufL kk (cBu c (prOf il ih p)) l (cSt c) (cPr c) ll) := by
  obtain ⟨w3, hw3⟩ : ∃ w3, w3 = (w2.alloc (.cells #[.int .i64 il, .int .i64 ih, .slice (some ⟨C, P, none⟩) (ll + 1) cp, .slice (some ⟨A, O, none⟩) ll cl] 40)).alloc (.cells #[.slice (some ⟨C2, P2, none⟩) kk ck] 41) := ⟨_, rfl⟩
  rw [← hw3]
  have hb3 : Below w2.heap.size w2 w3 := by rw [hw3]; exact ((Below.refl _ _).alloc (Nat.le_refl _) _).alloc (by simp) _
  have hz3 : w3.heap.size = w2.heap.size + 2 := by rw [hw3]; simp
  have g2 : w3.heap[w2.heap.size]? = some (.cells #[.int .i64 il, .int .i64 ih, .slice (some ⟨C, P, none⟩) (ll + 1) cp, .slice (some ⟨A, O, none⟩) ll cl] 40 (0, 0)) := by
    rw [hw3]; exact (Below.heap_alloc _ _ _ (by simp)).trans (World.alloc_heap_new w2 _)
  have g3 : w3.heap[w2.heap.size + 1]? = some (.cells #[.slice (some ⟨C2, P2, none⟩) kk ck] 41 (0, 0)) := by
    rw [hw3]
    have := World.alloc_heap_new (w2.alloc (.cells #[.int .i64 il, .int .i64 ih, .slice (some ⟨C, P, none⟩) (ll + 1) cp, .slice (some ⟨A, O, none⟩) ll cl] 40)) (.cells #[.slice (some ⟨C2, P2, none⟩) kk ck] 41)
    rw [World.size_alloc] at this
    exact this
  exact seq_w il ih C P cp A O ll cl p l C2 P2 kk ck c w2.heap.size (w2.heap.size + 1) w3 (Lib.hid (H.below hb3)) (Nat.lt_of_lt_of_le hC2 hb3.size) (Lib.hid (HC.below hC2 hb3)) HK (by omega) (by omega)
    (by simp [World.cell?, g2]) (by simp [World.cell?, g2]) (by simp [World.cell?, g2]) (by simp [World.cell?, g2]) (by simp [World.cell?, g3])

set_option maxRecDepth 100000 in
set_option maxHeartbeats 4000000 in
/-- Pipes, at a siphon and classes that are as defined -/
theorem ppipes_w (il ih : Int) (C P cp A O ll cl : Nat) (p : Nat → Sp2) (l : Nat → Int) (C2 P2 kk ck : Nat) (c : Nat → Cl3) (w : World) (H : Hid (SipAt w C P (ll + 1) A O ll il ih p l)) (hC2 : C2 < w.heap.size) (HC : Hid (ClAt w C2 P2 kk c)) (HK : Hid (ClsP kk c)) :
    Calls Tryz.prog 22 #[.agg #[.int .i64 il, .int .i64 ih, .slice (some ⟨C, P, none⟩) (ll + 1) cp, .slice (some ⟨A, O, none⟩) ll cl], .slice (some ⟨C2, P2, none⟩) kk ck] w
      fun e w' => Below w.heap.size w w' ∧ ∃ o : Option Yd, o.map Yd.pr = cheap (sufL kk (cBu c (prOf il ih p)) l (cSt c) (cPr c) ll) ∧
        e = .returned (.tuple #[fstV o, .int .i64 (fstQ o), .int .i64 (match o with | none => 5 | some _ => 0)]) ∧ ∀ y, o = some y → w.heap.size ≤ y.g ∧ AtY w' y := by
  have BX := Lib.hid (fun (w1 : World) (hb : Below (w.alloc (.cells #[.int .i64 il, .int .i64 ih, .slice (some ⟨C, P, none⟩) (ll + 1) cp, .slice (some ⟨A, O, none⟩) ll cl] 40)).heap.size (w.alloc (.cells #[.int .i64 il, .int .i64 ih, .slice (some ⟨C, P, none⟩) (ll + 1) cp, .slice (some ⟨A, O, none⟩) ll cl] 40)) w1) => bcell4 hb)
  have HL : Hid (∀ w1, Below (w.alloc (.cells #[.int .i64 il, .int .i64 ih, .slice (some ⟨C, P, none⟩) (ll + 1) cp, .slice (some ⟨A, O, none⟩) ll cl] 40)).heap.size (w.alloc (.cells #[.int .i64 il, .int .i64 ih, .slice (some ⟨C, P, none⟩) (ll + 1) cp, .slice (some ⟨A, O, none⟩) ll cl] 40)) w1 → SipAt w1 C P (ll + 1) A O ll il ih p l ∧ ClAt w1 C2 P2 kk c ∧ C2 < w1.heap.size) := Lib.hid fun w1 h => ⟨H.out.below (below_al h), HC.out.below hC2 (below_al h), Nat.lt_of_lt_of_le hC2 (below_al h).size⟩
  have q1 := H.out.lp1
  have q2 := H.out.lp2
  have k1 := HK.out.n1
  have k2 := HK.out.n2
  have hf1 : fstV none = .slice none 0 0 := rfl
  have hf2 : ∀ y : Yd, fstV (some y) = .slice (some ⟨y.g, 0, none⟩) y.c.length y.cap := fun _ => rfl
  have hf3 : fstQ none = 0 := rfl
  have hf4 : ∀ y : Yd, fstQ (some y) = y.q := fun _ => rfl
  go_enter Tryz.func22, Tryz.ntmps22
  go_wp2_with (first
    | (go_at_call 54; refine (isSip_t _ _ (HL.out _ (Below.refl _ _)).1).mono ?_; rintro e w1 ⟨rfl, hb1⟩; obtain ⟨x0, x1, x2, x3, x4⟩ := BX.out _ hb1)
    | (go_at_call 55; refine (areCl_w _ _ _ c _ (by omega) (Lib.hid (.inr ⟨C2, P2, rfl, (HL.out _ hb1).2.2, (HL.out _ hb1).2.1⟩))).mono ?_; rintro e w2 ⟨⟨rb, rfl, hrb⟩, hb2⟩; obtain rfl : rb = true := hrb.2 HK.out; clear hrb; have hb12 := hb1.trans (hb2.mono hb1.size); clear x0 x1 x2 x3 x4; obtain ⟨x0, x1, x2, x3, x4⟩ := BX.out _ hb12)
    | (go_at_call 60; refine (suff_w _ _ _ _ _ _ _ _ _ _ _ _).mono ?_; rintro e w3 ⟨rfl, rfl⟩)
    | (go_at_call 59; refine (callsIn_wide.1 (bestP_w _ _ _ (seq2_w il ih C P cp A O ll cl p l C2 P2 kk ck c _ (HL.out _ hb12).1 (HL.out _ hb12).2.2 (HL.out _ hb12).2.1 HK))).mono ?_; rintro e w4 ⟨hb4, (_ | yd), ho, rfl, hy⟩ <;> have HO := Lib.hid ho <;> have HYY := Lib.hid hy <;> clear ho hy))
  · refine bodyPost_ret (v := .tuple #[.slice none 0 0, .int .i64 0, .int .i64 5]) (by simp [results, Tryz.results22, go_sem]) rfl ?_
    have hB2 : Below w.heap.size w w2 := below_al hb12
    have hB4 := ((hB2.alloc hB2.size (.cells #[.int .i64 il, .int .i64 ih, .slice (some ⟨C, P, none⟩) (ll + 1) cp, .slice (some ⟨A, O, none⟩) ll cl] 40)).alloc (by have := hB2.size; simp; omega) (.cells #[.slice (some ⟨C2, P2, none⟩) kk ck] 41)).trans (hb4.mono (by have := hB2.size; simp; omega))
    exact ⟨hB4.alloc hB4.size _, none, HO.out, rfl, fun y h => (by cases h)⟩
  · go_quiet (fail)
    go_wp2
    refine bodyPost_ret (v := .tuple #[.slice (some ⟨yd.g, 0, none⟩) yd.c.length yd.cap, .int .i64 yd.q, .int .i64 0]) (by simp [results, Tryz.results22, go_sem]) rfl ?_
    have hB2 : Below w.heap.size w w2 := below_al hb12
    have hB4 := ((hB2.alloc hB2.size (.cells #[.int .i64 il, .int .i64 ih, .slice (some ⟨C, P, none⟩) (ll + 1) cp, .slice (some ⟨A, O, none⟩) ll cl] 40)).alloc (by have := hB2.size; simp; omega) (.cells #[.slice (some ⟨C2, P2, none⟩) kk ck] 41)).trans (hb4.mono (by have := hB2.size; simp; omega))
    have hB5 := hB4.alloc hB4.size (.cells #[.slice (some ⟨yd.g, 0, none⟩) yd.c.length yd.cap, .int .i64 yd.q] 97)
    have hb9 : Below w4.heap.size w4 (w4.alloc (.cells #[.slice (some ⟨yd.g, 0, none⟩) yd.c.length yd.cap, .int .i64 yd.q] 97)) := (Below.refl _ _).alloc (Nat.le_refl _) _
    refine ⟨below_drewM hB5 _, some yd, HO.out, rfl, fun y h => ?_⟩
    cases h
    have h1 := HYY.out yd rfl
    have h2 := below_drewM hb9 1
    refine ⟨by have h3 := h1.1; have h4 := hB2.size; simp at h3; omega, ?_⟩
    exact ⟨Nat.lt_of_lt_of_le h1.2.1 hb9.size, fun i hi => (hb9.cell (p := ⟨yd.g, i, none⟩) h1.2.1).trans (h1.2.2 i hi)⟩
end Go.Kn

namespace Go.Kn
open Go Go.Proofs Go.RowKit

/-- the list of a choice -/
def chL (s : Nat → Int) (n : Nat) : List Nat := (List.range n).map fun i => (s i).toNat
theorem chL_succ (s : Nat → Int) (n : Nat) : chL s (n + 1) = chL s n ++ [(s n).toNat] := by simp [chL, List.range_succ]
theorem chL_len (s : Nat → Int) (n : Nat) : (chL s n).length = n := by simp [chL]
theorem chL_get {s : Nat → Int} {n i : Nat} (h : i < n) : (chL s n)[i]? = some (s i).toNat := by simp [chL, h]
theorem useT_snoc (len : Nat → Int) (c : Nat) : ∀ (t : List Nat) (a j : Nat), useT len c a (t ++ [j]) = useT len c a t + if j = c then len (a + t.length) else 0 := by
  intro t
  induction t with
  | nil => intro a j; simp [useT]
  | cons x t ih =>
    intro a j
    simp only [List.cons_append, useT, ih, List.length_cons]
    rw [show a + 1 + t.length = a + (t.length + 1) by omega]
    omega
theorem priceT_snoc (len pr : Nat → Int) : ∀ (t : List Nat) (a j : Nat), priceT len pr a (t ++ [j]) = priceT len pr a t + len (a + t.length) * pr j := by
  intro t
  induction t with
  | nil => intro a j; simp [priceT]
  | cons x t ih =>
    intro a j
    simp only [List.cons_append, priceT, ih, List.length_cons]
    rw [show a + 1 + t.length = a + (t.length + 1) by omega]
    omega

theorem useT_bd {len : Nat → Int} {n : Nat} (hl : ∀ i, i < n → 1 ≤ len i ∧ len i ≤ 100) (s : Nat → Int) (c : Nat) : ∀ k, k ≤ n → 0 ≤ useT len c 0 (chL s k) ∧ useT len c 0 (chL s k) ≤ 100 * k := by
  intro k
  induction k with
  | zero => intro _; simp [chL, useT]
  | succ k ih =>
    intro h
    have h1 := ih (by omega)
    have h2 := hl k (by omega)
    rw [chL_succ, useT_snoc, chL_len, Nat.zero_add]
    split <;> omega
theorem priceT_bd {len pr : Nat → Int} {n : Nat} {s : Nat → Int} (hl : ∀ i, i < n → 1 ≤ len i ∧ len i ≤ 100) (hp : ∀ i, i < n → 0 ≤ pr (s i).toNat ∧ pr (s i).toNat ≤ 100) : ∀ k, k ≤ n → 0 ≤ priceT len pr 0 (chL s k) ∧ priceT len pr 0 (chL s k) ≤ 10000 * k := by
  intro k
  induction k with
  | zero => intro _; simp [chL, priceT]
  | succ k ih =>
    intro h
    have h1 := ih (by omega)
    have h2 := hl k (by omega)
    have h3 := hp k (by omega)
    have h4 := mul_bd (a := len k) (b := pr (s k).toNat) (A := 100) (B := 100) (by omega) h2.2 h3.1 h3.2
    rw [chL_succ, priceT_snoc, chL_len, Nat.zero_add]
    omega

theorem pick_nil {b : Nat → Bool} : ∀ n, pick b n = [] ↔ ∀ k, k < n → b k = false := by
  intro n
  induction n with
  | zero => simp [pick]
  | succ n ih =>
    cases e : b n
    · rw [pick_f e, ih]
      constructor
      · intro h k hk
        by_cases e2 : k = n
        · subst e2; exact e
        · exact h k (by omega)
      · intro h k hk; exact h k (by omega)
    · rw [pick_t e]
      constructor
      · intro h; simp at h
      · intro h; have := h n (by omega); rw [e] at this; cases this

/-- the document's words for a choice that suffices -/
theorem okT_chL {kk n : Nat} {sp : Nat → Sp2} {c : Nat → Cl3} {len s : Nat → Int} (hl : ∀ i, i < n → 1 ≤ len i ∧ len i ≤ 100) (hs : ∀ i, i < n → 0 ≤ s i ∧ s i < kk) (hc : ∀ j, j < kk → 0 ≤ (c j).st) :
    okT (cBu c sp) len (cSt c) 0 (fun _ => 0) (chL s n) = true ↔ (∀ j, j < kk → useT len j 0 (chL s n) ≤ (c j).st) ∧ pick (burB sp c s) n = [] := by
  have hlen : ∃ len' : Nat → Int, (∀ i, 0 ≤ len' i) ∧ ∀ i, i < n → len' i = len i := ⟨fun i => if i < n then len i else 0, fun i => (by show (0 : Int) ≤ if i < n then len i else 0; split; (have := hl i (by assumption); omega); omega), fun i h => if_pos h⟩
  obtain ⟨len', hp, he⟩ := hlen
  have key : ∀ (t : List Nat) (a : Nat) (U : Nat → Int), a + t.length ≤ n → okT (cBu c sp) len (cSt c) a U t = okT (cBu c sp) len' (cSt c) a U t := by
    intro t
    induction t with
    | nil => intro a U _; rfl
    | cons j t ih =>
      intro a U h
      simp only [List.length_cons] at h
      simp only [okT]
      rw [he a (by omega), ih (a + 1) _ (by omega)]
  have keyU : ∀ (t : List Nat) (c a : Nat), a + t.length ≤ n → useT len c a t = useT len' c a t := by
    intro t
    induction t with
    | nil => intro c a _; rfl
    | cons j t ih =>
      intro c a h
      simp only [List.length_cons] at h
      simp only [useT]
      rw [he a (by omega), ih c (a + 1) (by omega)]
  rw [key _ _ _ (by rw [chL_len]; omega), okT_iff (kk := kk) hp _ _ _ (by
    intro j hj
    simp only [chL, List.mem_map, List.mem_range] at hj
    obtain ⟨i, hi, rfl⟩ := hj
    have := hs i hi
    omega) (stock := cSt c) (fun j hj => hc j hj), pick_nil, and_comm]
  refine and_congr ⟨fun h j hj => ?_, fun h j hj => ?_⟩ ⟨fun h k hk => ?_, fun h i j hj => ?_⟩
  · have := h j hj; rw [keyU _ _ _ (by rw [chL_len]; omega)]; simp only [cSt] at this; omega
  · have := h j hj; rw [keyU _ _ _ (by rw [chL_len]; omega)] at this; simp only [cSt]; omega
  · have := h k _ (chL_get hk); simpa [cBu, burB] using this
  · have hi : i < n := by
      have := (List.getElem?_eq_some_iff.1 hj).1
      rwa [chL_len] at this
    rw [chL_get hi] at hj
    cases hj
    have := h i hi
    simpa [cBu, burB] using this

/-- where two lists part -/
theorem lexB_at : ∀ (k : Nat) (a b : List Nat), (∀ j, j < k → a.getD j 0 = b.getD j 0) → k < a.length → k < b.length → a.getD k 0 ≠ b.getD k 0 → lexB a b = decide (a.getD k 0 < b.getD k 0) := by
  intro k
  induction k with
  | zero =>
    intro a b _ ha hb hne
    cases a with
    | nil => simp at ha
    | cons x a =>
      cases b with
      | nil => simp at hb
      | cons y b =>
        simp at hne ⊢
        simp only [lexB, if_neg hne]
  | succ k ih =>
    intro a b h ha hb hne
    cases a with
    | nil => simp at ha
    | cons x a =>
      cases b with
      | nil => simp at hb
      | cons y b =>
        have e := h 0 (by omega)
        simp at e
        subst e
        simp only [lexB, if_pos]
        have := ih a b (fun j hj => by simpa using h (j + 1) (by omega)) (by simpa using ha) (by simpa using hb) (by simpa using hne)
        simpa using this
theorem lexB_same : ∀ (a b : List Nat), a.length = b.length → (∀ j, j < a.length → a.getD j 0 = b.getD j 0) → lexB a b = false := by
  intro a b hl h
  have : a = b := by
    apply List.ext_getElem? 
    intro i
    by_cases hi : i < a.length
    · have := h i hi
      simp only [List.getD, List.getElem?_eq_getElem hi, List.getElem?_eq_getElem (hl ▸ hi), Option.getD_some] at this
      rw [List.getElem?_eq_getElem hi, List.getElem?_eq_getElem (hl ▸ hi), this]
    · rw [List.getElem?_eq_none (by omega), List.getElem?_eq_none (by omega)]
  subst this
  exact lexB_irrefl a

set_option maxRecDepth 100000 in
set_option maxHeartbeats 2000000 in
theorem before_w (A O ca B U cb n : Nat) (a b : List Nat) (w : World) (hn : n ≤ 1000000) (ha : a.length = n) (hb : b.length = n) (hA : A < w.heap.size) (hB : B < w.heap.size) (H1 : Hid (NumAt w A O n fun i => ((a.getD i 0 : Nat) : Int))) (H2 : Hid (NumAt w B U n fun i => ((b.getD i 0 : Nat) : Int))) :
    Calls Tryz.prog 28 #[.slice (some ⟨A, O, none⟩) n ca, .slice (some ⟨B, U, none⟩) n cb] w fun e w' => e = .returned (.bool (lexB a b)) ∧ Below w.heap.size w w' := by
  have HA' := Lib.hid ha
  have HB' := Lib.hid hb
  clear ha hb
  go_enter Tryz.func28, Tryz.ntmps28
  go_wp2
  go_loopw [5] (fun i wr => ∃ k : Nat, k ≤ n ∧ i = .int .i64 k ∧ Below w.heap.size w wr ∧ ∀ j, j < k → a.getD j 0 = b.getD j 0) (fun i _ => n - (intOf i).toNat)
  case atStart => exact ⟨0, Nat.zero_le _, rfl, Below.refl _ _, fun j hj => absurd hj (by omega)⟩
  case round =>
    obtain ⟨k, hk, rfl, hbw, hall⟩ := hrel
    have HALL := Lib.hid hall
    clear hall
    by_cases hlt : k < n
    · have y0 := (H1.out.below hA hbw) k hlt
      have y1 := (H2.out.below hB hbw) k hlt
      have n1 : (0 : Int) ≤ (k : Int) := by omega
      have n2 : (k : Int) < (n : Int) := by omega
      have HLA : Hid (k < a.length) := Lib.hid (by rw [HA'.out]; exact hlt)
      have HLB : Hid (k < b.length) := Lib.hid (by rw [HB'.out]; exact hlt)
      obtain ⟨x, hx⟩ : ∃ x, a.getD k 0 = x := ⟨_, rfl⟩
      obtain ⟨y, hy⟩ : ∃ y, b.getD k 0 = y := ⟨_, rfl⟩
      simp only [hx] at y0
      simp only [hy] at y1
      have HX := Lib.hid hx
      have HY := Lib.hid hy
      clear hx hy
      by_cases e : x = y
      · have e2 : ((x : Int) == (y : Int)) = true := by simp; omega
        have E := Lib.hid e
        clear e
        go_wp2
        go_quiet (fail)
        go_wp2
        go_roundw
        case rel => exact ⟨k + 1, by omega, by go_num, below_drewM hbw _, fun j hj => by
          rcases Nat.lt_succ_iff_lt_or_eq.1 hj with h | h
          · exact HALL.out j h
          · rw [h, HX.out, HY.out]; exact E.out⟩
        case measure => simp [intOf]; omega
      · have e2 : ((x : Int) == (y : Int)) = false := by simp; omega
        have hlx := lexB_at k a b HALL.out HLA.out HLB.out (by rw [HX.out, HY.out]; exact e)
        rw [HX.out, HY.out] at hlx
        have HLX := Lib.hid hlx
        clear hlx
        by_cases h3 : x < y
        · have h3' : (x : Int) < (y : Int) := by omega
          have h4 : decide (x < y) = true := decide_eq_true h3
          go_wp2
          go_quiet (fail)
          go_wp2
          go_quiet (fail)
          go_wp2
          go_ret
          exact ⟨by rw [HLX.out, h4]; rfl, below_drewM (below_drewM hbw _) _⟩
        · have h3' : ¬ (x : Int) < (y : Int) := by omega
          have h4 : decide (x < y) = false := decide_eq_false h3
          go_wp2
          go_quiet (fail)
          go_wp2
          go_quiet (fail)
          go_wp2
          go_ret
          exact ⟨by rw [HLX.out, h4]; rfl, below_drewM (below_drewM hbw _) _⟩
    · obtain rfl : k = n := by omega
      have hls := lexB_same a b (by rw [HA'.out, HB'.out]) (fun j hj => HALL.out j (by rw [HA'.out] at hj; exact hj))
      have HLS := Lib.hid hls
      clear hls
      go_wp2
      go_ret
      exact ⟨by rw [HLS.out]; rfl, hbw⟩

def okV (il ih : Int) (p : Nat → Sp2) (l : Nat → Int) (c : Nat → Cl3) (t : List Nat) : Bool := okT (cBu c (prOf il ih p)) l (cSt c) 0 (fun _ => 0) t

set_option maxRecDepth 100000 in
set_option maxHeartbeats 2000000 in
theorem rprice_w (il ih : Int) (C P cp A O ll cl : Nat) (p : Nat → Sp2) (l : Nat → Int) (C2 P2 lk ck : Nat) (c : Nat → Cl3) (D F cq : Nat) (s : Nat → Int) (w : World) (H : Hid (SipAt w C P (ll + 1) A O ll il ih p l)) (hC2 : C2 < w.heap.size) (HC : Hid (ClAt w C2 P2 lk c)) (HK : Hid (ClsP lk c)) (hD : D < w.heap.size) (HD : Hid (NumAt w D F ll s)) (hQ : Hid (ChoP lk ll ll s)) :
    Calls Tryz.prog 26 #[.agg #[.int .i64 il, .int .i64 ih, .slice (some ⟨C, P, none⟩) (ll + 1) cp, .slice (some ⟨A, O, none⟩) ll cl], .slice (some ⟨C2, P2, none⟩) lk ck, .slice (some ⟨D, F, none⟩) ll cq] w
      fun e w' => e = .returned (.int .i64 (priceT l (cPr c) 0 (chL s ll))) ∧ Below w.heap.size w w' := by
  have BX := Lib.hid (fun (w1 : World) (hb : Below (w.alloc (.cells #[.int .i64 il, .int .i64 ih, .slice (some ⟨C, P, none⟩) (ll + 1) cp, .slice (some ⟨A, O, none⟩) ll cl] 40)).heap.size (w.alloc (.cells #[.int .i64 il, .int .i64 ih, .slice (some ⟨C, P, none⟩) (ll + 1) cp, .slice (some ⟨A, O, none⟩) ll cl] 40)) w1) => bcell4 hb)
  have HL : Hid (∀ w1, Below (w.alloc (.cells #[.int .i64 il, .int .i64 ih, .slice (some ⟨C, P, none⟩) (ll + 1) cp, .slice (some ⟨A, O, none⟩) ll cl] 40)).heap.size (w.alloc (.cells #[.int .i64 il, .int .i64 ih, .slice (some ⟨C, P, none⟩) (ll + 1) cp, .slice (some ⟨A, O, none⟩) ll cl] 40)) w1 → NumAt w1 A O ll l ∧ ClAt w1 C2 P2 lk c ∧ NumAt w1 D F ll s) := Lib.hid fun w1 h => ⟨H.out.ln.below H.out.hA (below_al h), HC.out.below hC2 (below_al h), HD.out.below hD (below_al h)⟩
  have q1 := H.out.lp1
  have q2 := H.out.lp2
  have k1 := HK.out.n1
  have k2 := HK.out.n2
  have HLK : Hid (∀ i, i < ll → 1 ≤ l i ∧ l i ≤ 100) := Lib.hid fun i hi => by have := H.out.lok i hi; simp only [fromB, decide_eq_true_eq] at this; exact this
  have HPR : Hid (∀ i, i < ll → 0 ≤ cPr c (s i).toNat ∧ cPr c (s i).toNat ≤ 100) := Lib.hid fun i hi => by
    have h1 := hQ.out.ok i hi
    simp only [fromB, decide_eq_true_eq] at h1
    have h2 := HK.out.ok (s i).toNat (by omega)
    simp only [clB, decide_eq_true_eq] at h2
    simp only [cPr]; omega
  have HBD := Lib.hid (priceT_bd HLK.out HPR.out)
  go_enter Tryz.func26, Tryz.ntmps26
  go_wp2
  go_loopw [7, 8] (fun v i wr => ∃ k : Nat, k ≤ ll ∧ i = .int .i64 k ∧ v = .int .i64 (priceT l (cPr c) 0 (chL s k)) ∧ Below (w.alloc (.cells #[.int .i64 il, .int .i64 ih, .slice (some ⟨C, P, none⟩) (ll + 1) cp, .slice (some ⟨A, O, none⟩) ll cl] 40)).heap.size (w.alloc (.cells #[.int .i64 il, .int .i64 ih, .slice (some ⟨C, P, none⟩) (ll + 1) cp, .slice (some ⟨A, O, none⟩) ll cl] 40)) wr) (fun _ i _ => ll - (intOf i).toNat)
  case atStart => exact ⟨0, Nat.zero_le _, rfl, rfl, Below.refl _ _⟩
  case round =>
    obtain ⟨k, hk, rfl, rfl, hbw⟩ := hrel
    obtain ⟨x0, x1, x2, x3, x4⟩ := BX.out _ hbw
    by_cases hlt : k < ll
    · obtain ⟨z1, z2, z3⟩ := HL.out _ hbw
      have hq := hQ.out.ok k hlt
      simp only [fromB, decide_eq_true_eq] at hq
      obtain ⟨j, hj⟩ : ∃ j : Nat, s k = (j : Int) := ⟨(s k).toNat, by omega⟩
      have hjn : (s k).toNat = j := by omega
      have y0 := z1 k hlt
      have y2 := z3 k hlt
      rw [hj] at y2
      obtain ⟨y3, y4, y5⟩ := z2 j (by omega)
      have n1 : (0 : Int) ≤ (k : Int) := by omega
      have n2 : (k : Int) < (ll : Int) := by omega
      have n3 : (0 : Int) ≤ (j : Int) := by omega
      have n4 : (j : Int) < (lk : Int) := by omega
      have b1 := HBD.out k (by omega)
      have b2 := HLK.out k hlt
      have b3 := HPR.out k hlt
      rw [hjn] at b3
      simp only [cPr] at b3
      have b4 := mul_bd (a := l k) (b := (c j).pr) (A := 100) (B := 100) (by omega) b2.2 b3.1 b3.2
      have HST : Hid (priceT l (cPr c) 0 (chL s (k + 1)) = priceT l (cPr c) 0 (chL s k) + l k * (c j).pr) := Lib.hid (by rw [chL_succ, priceT_snoc, chL_len, Nat.zero_add, hjn]; rfl)
      obtain ⟨T, hT⟩ : ∃ T, priceT l (cPr c) 0 (chL s k) = T := ⟨_, rfl⟩
      rw [hT] at b1 HST ⊢
      have m1 : IntKind.i64.wrap (l k * (c j).pr) = l k * (c j).pr := IntWalk.i64_in _ (by omega)
      have m2 : IntKind.i64.wrap (T + l k * (c j).pr) = T + l k * (c j).pr := IntWalk.i64_in _ (by omega)
      clear z1 z2 z3 b1 b2 b3 b4 hT
      go_wp2
      go_quiet (fail)
      go_wp2
      go_roundw
      case rel => exact ⟨k + 1, by omega, by go_num, by rw [HST.out], below_drewM hbw _⟩
      case measure => simp [intOf]; omega
    · obtain rfl : k = ll := by omega
      go_wp2
      go_ret
      exact ⟨rfl, below_al hbw⟩

set_option maxRecDepth 100000 in
set_option maxHeartbeats 4000000 in
theorem rsuff_w (il ih : Int) (C P cp A O ll cl : Nat) (p : Nat → Sp2) (l : Nat → Int) (C2 P2 lk ck : Nat) (c : Nat → Cl3) (D F cq : Nat) (s : Nat → Int) (w : World) (H : Hid (SipAt w C P (ll + 1) A O ll il ih p l)) (hC2 : C2 < w.heap.size) (HC : Hid (ClAt w C2 P2 lk c)) (HK : Hid (ClsP lk c)) (hD : D < w.heap.size) (HD : Hid (NumAt w D F ll s)) (hQ : Hid (ChoP lk ll ll s)) :
    Calls Tryz.prog 27 #[.agg #[.int .i64 il, .int .i64 ih, .slice (some ⟨C, P, none⟩) (ll + 1) cp, .slice (some ⟨A, O, none⟩) ll cl], .slice (some ⟨C2, P2, none⟩) lk ck, .slice (some ⟨D, F, none⟩) ll cq] w
      fun e w' => e = .returned (.bool (okV il ih p l c (chL s ll))) ∧ Below w.heap.size w w' := by
  have BX := Lib.hid (fun (w1 : World) (hb : Below (w.alloc (.cells #[.int .i64 il, .int .i64 ih, .slice (some ⟨C, P, none⟩) (ll + 1) cp, .slice (some ⟨A, O, none⟩) ll cl] 40)).heap.size (w.alloc (.cells #[.int .i64 il, .int .i64 ih, .slice (some ⟨C, P, none⟩) (ll + 1) cp, .slice (some ⟨A, O, none⟩) ll cl] 40)) w1) => bcell4 hb)
  have HL : Hid (∀ w1, Below (w.alloc (.cells #[.int .i64 il, .int .i64 ih, .slice (some ⟨C, P, none⟩) (ll + 1) cp, .slice (some ⟨A, O, none⟩) ll cl] 40)).heap.size (w.alloc (.cells #[.int .i64 il, .int .i64 ih, .slice (some ⟨C, P, none⟩) (ll + 1) cp, .slice (some ⟨A, O, none⟩) ll cl] 40)) w1 → SipAt w1 C P (ll + 1) A O ll il ih p l ∧ ClAt w1 C2 P2 lk c ∧ NumAt w1 D F ll s ∧ C2 < w1.heap.size ∧ D < w1.heap.size) := Lib.hid fun w1 h => ⟨H.out.below (below_al h), HC.out.below hC2 (below_al h), HD.out.below hD (below_al h), Nat.lt_of_lt_of_le hC2 (below_al h).size, Nat.lt_of_lt_of_le hD (below_al h).size⟩
  have q1 := H.out.lp1
  have q2 := H.out.lp2
  have k1 := HK.out.n1
  have k2 := HK.out.n2
  have HLK : Hid (∀ i, i < ll → 1 ≤ l i ∧ l i ≤ 100) := Lib.hid fun i hi => by have := H.out.lok i hi; simp only [fromB, decide_eq_true_eq] at this; exact this
  have HBD := Lib.hid (fun j => useT_bd HLK.out s j)
  have HOK : Hid (okV il ih p l c (chL s ll) = true ↔ (∀ j, j < lk → useT l j 0 (chL s ll) ≤ (c j).st) ∧ pick (burB (prOf il ih p) c s) ll = []) := Lib.hid (okT_chL HLK.out (fun i hi => by
    have h1 := hQ.out.ok i hi
    simp only [fromB, decide_eq_true_eq] at h1
    omega) (fun j hj => by
    have h2 := HK.out.ok j hj
    simp only [clB, decide_eq_true_eq] at h2
    omega))
  go_enter Tryz.func27, Tryz.ntmps27
  go_wp2
  go_loopw [7] (fun v wr => ∃ j : Nat, j ≤ lk ∧ v = .int .i64 j ∧ (∀ i, i < j → useT l i 0 (chL s ll) ≤ (c i).st) ∧ Below (w.alloc (.cells #[.int .i64 il, .int .i64 ih, .slice (some ⟨C, P, none⟩) (ll + 1) cp, .slice (some ⟨A, O, none⟩) ll cl] 40)).heap.size (w.alloc (.cells #[.int .i64 il, .int .i64 ih, .slice (some ⟨C, P, none⟩) (ll + 1) cp, .slice (some ⟨A, O, none⟩) ll cl] 40)) wr) (fun v _ => lk - (intOf v).toNat)
  case atStart => exact ⟨0, Nat.zero_le _, rfl, fun i hi => absurd hi (by omega), Below.refl _ _⟩
  case round =>
    obtain ⟨j, hj, rfl, hall, hbw⟩ := hrel
    have HALL := Lib.hid hall
    clear hall
    obtain ⟨x0, x1, x2, x3, x4⟩ := BX.out _ hbw
    by_cases hlt : j < lk
    · have n3 : (0 : Int) ≤ (j : Int) := by omega
      have n4 : (j : Int) < (lk : Int) := by omega
      go_wp2
      go_loopw [8, 9] (fun v i w2 => ∃ k : Nat, k ≤ ll ∧ i = .int .i64 k ∧ v = .int .i64 (useT l j 0 (chL s k)) ∧ w2 = wr) (fun _ i _ => ll - (intOf i).toNat)
      case atStart => exact ⟨0, Nat.zero_le _, rfl, rfl, rfl⟩
      case round =>
        obtain ⟨k, hk, rfl, rfl, rfl⟩ := hrel
        by_cases hlk : k < ll
        · obtain ⟨z1, _, z3, _, _⟩ := HL.out _ hbw
          have y0 := z1.ln k hlk
          have y2 := z3 k hlk
          have n1 : (0 : Int) ≤ (k : Int) := by omega
          have n2 : (k : Int) < (ll : Int) := by omega
          have hq := hQ.out.ok k hlk
          simp only [fromB, decide_eq_true_eq] at hq
          have b1 := HBD.out j k (by omega)
          have b2 := HLK.out k hlk
          have HST : Hid (useT l j 0 (chL s (k + 1)) = useT l j 0 (chL s k) + if (s k).toNat = j then l k else 0) := Lib.hid (by rw [chL_succ, useT_snoc, chL_len, Nat.zero_add])
          obtain ⟨T, hT⟩ : ∃ T, useT l j 0 (chL s k) = T := ⟨_, rfl⟩
          rw [hT] at b1 HST ⊢
          have m2 : IntKind.i64.wrap (T + l k) = T + l k := IntWalk.i64_in _ (by omega)
          clear hT z1 z3
          by_cases e : s k = (j : Int)
          · have e' : (s k == (j : Int)) = true := by simp [e]
            have HE := Lib.hid e
            rw [e] at y2
            clear e e' hq
            have e3 : ((j : Int) == (j : Int)) = true := by simp
            go_wp2
            go_roundw
            case rel => exact ⟨k + 1, by omega, by go_num, by rw [HST.out, if_pos (by have := HE.out; omega)], trivial⟩
            case measure => simp [intOf]; omega
          · have e' : (s k == (j : Int)) = false := by simp [e]
            have HE := Lib.hid e
            obtain ⟨sk, hsk⟩ : ∃ sk, s k = sk := ⟨_, rfl⟩
            have HQ2 : Hid (¬ (s k).toNat = j) := Lib.hid (by omega)
            rw [hsk] at y2 e'
            clear e hq hsk
            go_wp2
            go_roundw
            case rel => exact ⟨k + 1, by omega, by go_num, by rw [HST.out, if_neg HQ2.out]; simp, trivial⟩
            case measure => simp [intOf]; omega
        · obtain rfl : k = ll := by omega
          obtain ⟨_, z2, _, _, _⟩ := HL.out _ hbw
          obtain ⟨y3, y4, y5⟩ := z2 j hlt
          obtain ⟨T, hT⟩ : ∃ T, useT l j 0 (chL s k) = T := ⟨_, rfl⟩
          have HT := Lib.hid hT
          rw [hT]
          clear hT z2
          by_cases h5 : (c j).st < T
          · have HF : Hid (okV il ih p l c (chL s k) = false) := Lib.hid (by
              have h6 := HOK.out
              cases h7 : okV il ih p l c (chL s k) with
              | false => rfl
              | true => have := (h6.1 h7).1 j hlt; rw [HT.out] at this; omega)
            go_wp2
            go_ret
            exact ⟨by rw [HF.out]; rfl, below_al hbw⟩
          · have h5' : ¬ (c j).st < T := h5
            go_wp2
            go_roundw
            case rel => exact ⟨j + 1, by omega, by go_num, fun i hi => by
              rcases Nat.lt_succ_iff_lt_or_eq.1 hi with h | h
              · exact HALL.out i h
              · subst h; rw [HT.out]; omega, hbw⟩
            case measure => simp [intOf]; omega
    · obtain rfl : j = lk := by omega
      have hb0 := hbw
      go_wp2_with (go_at_call 63; refine (rbursts_w _ _ _ _ _ _ _ _ _ p l _ _ _ _ c _ _ _ s _ (Lib.hid (HL.out _ hbw).1) (HL.out _ hbw).2.2.2.1 (Lib.hid (HL.out _ hbw).2.1) (by omega) (HL.out _ hbw).2.2.2.2 (Lib.hid (HL.out _ hbw).2.2.1) hQ).mono ?_; rintro e w6 ⟨⟨v2, n2, rfl, hv2⟩, hb6⟩; obtain ⟨va2, vc2, rfl, hn2, hvs2⟩ := intSl_of_owns hv2; have HN2 := Lib.hid hn2; have hn3 := (by have := pick_len (burB (prOf il ih p) c s) ll; omega : n2 ≤ ll); clear hvs2 hv2 hn2)
      go_ret
      refine ⟨?_, below_al (hbw.trans (hb6.mono hbw.size))⟩
      show Ending.returned (.bool ((n2 : Int) == (0 : Int))) = _
      have h1 : ((n2 : Int) == (0 : Int)) = okV il ih p l c (chL s ll) := by
        rw [Bool.eq_iff_iff, HOK.out]
        constructor
        · intro h
          have h0 : (n2 : Int) = 0 := by simpa using h
          exact ⟨fun i hi => HALL.out i hi, List.length_eq_zero_iff.1 (by have := HN2.out; omega)⟩
        · rintro ⟨_, h⟩
          have := HN2.out
          rw [h] at this
          simp at this
          subst this
          rfl
      rw [h1]
end Go.Kn
