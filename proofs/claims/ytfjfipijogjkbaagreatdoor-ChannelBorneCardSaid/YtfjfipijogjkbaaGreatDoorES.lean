/- Walks of functions of layer 2 (contracts that the laws of this seat use). Conditions: as each theorem states them. -/
import Derived.Test.YtfjfipijogjkbaaGreatDoorEN
import Derived.Deep.RegionWith
import Derived.Deep.RegionHeld3
import Derived.Test.YtfjfipijogjkbaaGreatDoorEW
import Derived.OwnWalk
import Derived.Deep.Slices
import Derived.Deep.Fields
import Derived.ChangeSame
import Derived.Lib.SmallJoins
import Derived.Deep.QuietTactic
import Derived.BigQuiet
import Derived.WalkSmall
import Derived.Deep.AppendLies
import Derived.ProofKit
import Derived.OpenShut
import Derived.LaidMore
import Derived.Lay
import Derived.SevenTiedAt
import Derived.Stop.Joined
set_option linter.unusedVariables false
set_option linter.unusedSimpArgs false
namespace Go.Kn
open Go Go.Proofs Go.RowKit

theorem below_drew' {B : Nat} {a w : World} (h : Below B a w) : Below B a w.drew := h.drew

theorem least2 (b cap : Nat) (x y : Int) (w : World) (hb : b < w.heap.size) (h0 : w.cell? ⟨b, 0, none⟩ = some (.int .i64 x)) (h1 : w.cell? ⟨b, 1, none⟩ = some (.int .i64 y)) :
    Calls Tryz.prog 99 #[.slice (some ⟨b, 0, none⟩) 2 cap] w fun e W' => e = .returned (.int .i64 (min x y)) ∧ Below w.heap.size w W' := by
  refine (leastN_w b 0 2 cap (fun j => if j = 0 then x else y) (by omega) (by omega) w hb ?_).mono ?_
  · intro j hj
    match j, hj with
    | 0, _ => simpa using h0
    | 1, _ => simpa using h1
  · rintro e w' ⟨rfl, hb⟩
    exact ⟨by simp [upto, bmin, List.range_succ], hb⟩

theorem new0 {W0 : World} {n : Nat} (hz : W0.heap.size = n) (x y : Value) (T : TypeId) : (W0.alloc (.cells #[x, y] T)).cell? ⟨n, 0, none⟩ = some x := by subst hz; simp
theorem new1 {W0 : World} {n : Nat} (hz : W0.heap.size = n) (x y : Value) (T : TypeId) : (W0.alloc (.cells #[x, y] T)).cell? ⟨n, 1, none⟩ = some y := by subst hz; simp

def hOk (x : Int) : Prop := 0 ≤ x ∧ x ≤ 1000

theorem prWrap {i a b : Int} (h1 : hOk i) (h2 : hOk a) (h3 : hOk b) : IntKind.i64.wrap (i - min a b) = i - min a b := by
  obtain ⟨a1, a2⟩ := h1
  obtain ⟨b1, b2⟩ := h2
  obtain ⟨c1, c2⟩ := h3
  exact IntWalk.i64_in (i - min a b) (by omega)

set_option maxRecDepth 100000 in
set_option maxHeartbeats 2000000 in
theorem leastPr_w (il ih al ah bl bh : Int) (w : World) (h1 : hOk il) (h2 : hOk ah) (h3 : hOk bh) :
    Calls Tryz.prog 93 #[.agg #[.int .i64 il, .int .i64 ih, .int .i64 al, .int .i64 ah, .int .i64 bl, .int .i64 bh]] w
      fun e w' => e = .returned (.int .i64 (max 0 (il - min ah bh))) ∧ Below w.heap.size w w' := by
  obtain ⟨W0, hW0⟩ : ∃ W0, W0 = w.alloc (.cells #[.int .i64 il, .int .i64 ih, .int .i64 al, .int .i64 ah, .int .i64 bl, .int .i64 bh] 128) := ⟨_, rfl⟩
  have hz : W0.heap.size = w.heap.size + 1 := by rw [hW0]; simp
  have FX : Hid (∀ w', Below W0.heap.size W0 w' → w'.cell? ⟨w.heap.size, 0, none⟩ = some (.int .i64 il) ∧ w'.cell? ⟨w.heap.size, 3, none⟩ = some (.int .i64 ah) ∧ w'.cell? ⟨w.heap.size, 5, none⟩ = some (.int .i64 bh)) := Lib.hid fun w' h => by
    have q : ∀ b o, b < W0.heap.size → w'.cell? ⟨b, o, none⟩ = W0.cell? ⟨b, o, none⟩ := (bcell h).1
    exact ⟨(q _ _ (by omega)).trans (by rw [hW0]; simp), (q _ _ (by omega)).trans (by rw [hW0]; simp), (q _ _ (by omega)).trans (by rw [hW0]; simp)⟩
  have B0 : Below W0.heap.size W0 W0.drew := (Below.refl _ _).drew
  have hB : Hid (Below w.heap.size w W0) := Lib.hid (by rw [hW0]; exact (Below.refl _ _).alloc (Nat.le_refl _) _)
  go_enter Tryz.func93, Tryz.ntmps93
  go_wp2
  rw [← hW0]
  clear hW0
  obtain ⟨k0, k1, k2⟩ := FX.out _ (Below.refl _ _)
  go_region_held3 (fun w' => w'.cell? ⟨w.heap.size, 0, none⟩ = some (.int .i64 il) ∧ w'.cell? ⟨w.heap.size, 3, none⟩ = some (.int .i64 ah) ∧ w'.cell? ⟨w.heap.size, 5, none⟩ = some (.int .i64 bh))
    ((first | exact FX.out _ hB2 | exact FX.out _ B0 | exact FX.out _ (B0.alloc B0.size _)))
    ((go_at_call 99; refine (least2 _ _ ah bh _ (by simp; omega) (by simp only [World.cell?_drew]; exact new0 hz _ _ _) (by simp only [World.cell?_drew]; exact new1 hz _ _ _)).mono ?_; rintro e w1 ⟨rfl, hb1⟩; have hB2 := (B0.alloc B0.size (.cells #[.int .i64 ah, .int .i64 bh] 3)).trans (hb1.mono (Nat.le_trans B0.size (by simp)))))
  have hpw := prWrap h1 h2 h3
  go_wp2
  all_goals
    go_ret
    refine ⟨ret_int (by omega), hB.out.trans (hB2.mono (by omega))⟩
set_option maxRecDepth 100000 in
set_option maxHeartbeats 2000000 in
theorem mostPr_w (il ih al ah bl bh : Int) (w : World) (h1 : hOk ih) (h2 : hOk al) (h3 : hOk bl) :
    Calls Tryz.prog 94 #[.agg #[.int .i64 il, .int .i64 ih, .int .i64 al, .int .i64 ah, .int .i64 bl, .int .i64 bh]] w
      fun e w' => e = .returned (.int .i64 (max 0 (ih - min al bl))) ∧ Below w.heap.size w w' := by
  obtain ⟨W0, hW0⟩ : ∃ W0, W0 = w.alloc (.cells #[.int .i64 il, .int .i64 ih, .int .i64 al, .int .i64 ah, .int .i64 bl, .int .i64 bh] 128) := ⟨_, rfl⟩
  have hz : W0.heap.size = w.heap.size + 1 := by rw [hW0]; simp
  have FX : Hid (∀ w', Below W0.heap.size W0 w' → w'.cell? ⟨w.heap.size, 1, none⟩ = some (.int .i64 ih) ∧ w'.cell? ⟨w.heap.size, 2, none⟩ = some (.int .i64 al) ∧ w'.cell? ⟨w.heap.size, 4, none⟩ = some (.int .i64 bl)) := Lib.hid fun w' h => by
    have q : ∀ b o, b < W0.heap.size → w'.cell? ⟨b, o, none⟩ = W0.cell? ⟨b, o, none⟩ := (bcell h).1
    exact ⟨(q _ _ (by omega)).trans (by rw [hW0]; simp), (q _ _ (by omega)).trans (by rw [hW0]; simp), (q _ _ (by omega)).trans (by rw [hW0]; simp)⟩
  have B0 : Below W0.heap.size W0 W0.drew := (Below.refl _ _).drew
  have hB : Hid (Below w.heap.size w W0) := Lib.hid (by rw [hW0]; exact (Below.refl _ _).alloc (Nat.le_refl _) _)
  go_enter Tryz.func94, Tryz.ntmps94
  go_wp2
  rw [← hW0]
  clear hW0
  obtain ⟨k0, k1, k2⟩ := FX.out _ (Below.refl _ _)
  go_region_held3 (fun w' => w'.cell? ⟨w.heap.size, 1, none⟩ = some (.int .i64 ih) ∧ w'.cell? ⟨w.heap.size, 2, none⟩ = some (.int .i64 al) ∧ w'.cell? ⟨w.heap.size, 4, none⟩ = some (.int .i64 bl))
    ((first | exact FX.out _ hB2 | exact FX.out _ B0 | exact FX.out _ (B0.alloc B0.size _)))
    ((go_at_call 99; refine (least2 _ _ al bl _ (by simp; omega) (by simp only [World.cell?_drew]; exact new0 hz _ _ _) (by simp only [World.cell?_drew]; exact new1 hz _ _ _)).mono ?_; rintro e w1 ⟨rfl, hb1⟩; have hB2 := (B0.alloc B0.size (.cells #[.int .i64 al, .int .i64 bl] 3)).trans (hb1.mono (Nat.le_trans B0.size (by simp)))))
  have hpw := prWrap h1 h2 h3
  go_wp2
  all_goals
    go_ret
    refine ⟨ret_int (by omega), hB.out.trans (hB2.mono (by omega))⟩

abbrev segV (il ih al ah bl bh : Int) : Value := .agg #[.int .i64 il, .int .i64 ih, .int .i64 al, .int .i64 ah, .int .i64 bl, .int .i64 bh]
def prLo (il ah bh : Int) : Int := max 0 (il - min ah bh)
def prHi (ih al bl : Int) : Int := max 0 (ih - min al bl)

set_option maxRecDepth 100000 in
set_option maxHeartbeats 2000000 in
theorem segSpan_w (il ih al ah bl bh : Int) (w : World) (h1 : hOk il) (h2 : hOk ih) (h3 : hOk al) (h4 : hOk ah) (h5 : hOk bl) (h6 : hOk bh) :
    Calls Tryz.prog 83 #[.agg #[.func (.func 93) #[.agg #[.int .i64 il, .int .i64 ih, .int .i64 al, .int .i64 ah, .int .i64 bl, .int .i64 bh]] #[], .func (.func 94) #[.agg #[.int .i64 il, .int .i64 ih, .int .i64 al, .int .i64 ah, .int .i64 bl, .int .i64 bh]] #[]]] w
      fun e w' => e = .returned (.agg #[.int .i64 (prLo il ah bh), .int .i64 (prHi ih al bl)]) ∧ Below w.heap.size w w' := by
  go_enter Tryz.func83, Tryz.ntmps83
  go_wp2
  go_region_with (first
    | (go_at_call 93; refine (leastPr_w _ _ _ _ _ _ _ h1 h4 h6).mono ?_; rintro e w1 ⟨rfl, hb1⟩; obtain ⟨hc1, hf1⟩ := bcell hb1; have hz1 : w.heap.size + 1 < w1.heap.size := by (have := hb1.size; simp at this; omega))
    | (go_at_call 94; refine (mostPr_w _ _ _ _ _ _ _ h2 h3 h5).mono ?_; rintro e w2 ⟨rfl, hb2⟩; obtain ⟨hc2, hf2⟩ := bcell hb2; have hz2 : w.heap.size + 1 < w2.heap.size := by (have := hb2.size; omega)))
  all_goals
    have k0 : w2.cell? ⟨w.heap.size + 1, 0, none⟩ = some (.int .i64 0) := (hc2 (w.heap.size + 1) 0 hz1).trans ((hc1 (w.heap.size + 1) 0 (by simp)).trans (by simp))
    have k1 : w2.cell? ⟨w.heap.size + 1, 1, none⟩ = some (.int .i64 0) := (hc2 (w.heap.size + 1) 1 hz1).trans ((hc1 (w.heap.size + 1) 1 (by simp)).trans (by simp))
    clear hc1 hf1
    go_wp2
    refine bodyPost_ret (v := .agg #[.int .i64 (max 0 (il - min ah bh)), .int .i64 (max 0 (ih - min al bl))]) (by simp [results, Tryz.results83, go_sem, k0, k1]) rfl ⟨rfl, ?_⟩
    have hB : Below w.heap.size w w1 := by
      refine Below.trans ?_ (hb1.mono (by simp; omega))
      first
        | exact (((Below.refl _ _).alloc (Nat.le_refl _) _).alloc (by simp) _).drew
        | exact ((Below.refl _ _).alloc (Nat.le_refl _) _).alloc (by simp) _
    exact ((hB.trans (hb2.mono (by omega))).setCell (by simp) _).setCell (by simp) _
end Go.Kn

namespace Go.Kn
open Go Go.Proofs Go.RowKit

/-- a siphon as it lies in memory, and as it should be -/
structure SipAt (w : World) (C P lp A O ll : Nat) (il ih : Int) (p : Nat → Sp2) (l : Nat → Int) : Prop where
  hC : C < w.heap.size
  hA : A < w.heap.size
  sp : SpAt w C P lp p
  ln : NumAt w A O ll l
  lp1 : 2 ≤ lp
  lp2 : lp ≤ 8
  lpe : lp = ll + 1
  iok : spanB 1000 il ih = true
  pok : SpOk lp p
  lok : ∀ k, k < ll → fromB 1 100 (l k) = true

theorem SipAt.below {w w1 : World} {C P lp A O ll : Nat} {il ih : Int} {p : Nat → Sp2} {l : Nat → Int} (h : SipAt w C P lp A O ll il ih p l) (hb : Below w.heap.size w w1) : SipAt w1 C P lp A O ll il ih p l :=
  ⟨Nat.lt_of_lt_of_le h.hC hb.size, Nat.lt_of_lt_of_le h.hA hb.size, h.sp.below h.hC hb, h.ln.below h.hA hb, h.lp1, h.lp2, h.lpe, h.iok, h.pok, h.lok⟩
theorem spanB_h {lo hi : Int} (h : spanB 1000 lo hi = true) : hOk lo ∧ hOk hi ∧ lo ≤ hi := by
  simp only [spanB, decide_eq_true_eq] at h
  exact ⟨⟨by omega, by omega⟩, ⟨by omega, by omega⟩, by omega⟩

/-- n spans' cells, which can be written -/
def RowAt (w : World) (G m : Nat) : Prop := G < w.heap.size ∧ ∀ j, j < m → (∃ v, w.cell? ⟨G, j, none⟩ = some v) ∧ w.frozen? ⟨G, j, none⟩ = false
theorem RowAt.below {w w1 : World} {B G m : Nat} (h : RowAt w G m) (hG : G < B) (hb : Below B w w1) : RowAt w1 G m :=
  ⟨Nat.lt_of_lt_of_le h.1 hb.size, fun j hj => by
    obtain ⟨⟨v, hv⟩, hf⟩ := h.2 j hj
    exact ⟨⟨v, (hb.cell (p := ⟨G, j, none⟩) hG).trans hv⟩, (hb.frozen (p := ⟨G, j, none⟩) hG).trans hf⟩⟩
theorem RowAt.set {w : World} {G m : Nat} (h : RowAt w G m) (j : Nat) (u : Value) : RowAt (w.setCell ⟨G, j, none⟩ u) G m := by
  refine ⟨by rw [World.size_setCell]; exact h.1, fun i hi => ?_⟩
  obtain ⟨⟨v, hv⟩, hf⟩ := h.2 i hi
  refine ⟨?_, by rw [World.frozen?_setCell]; exact hf⟩
  by_cases e : i = j
  · subst e; exact ⟨u, World.cell?_setCell_same' _ _ _ (by rw [hv]; rfl)⟩
  · exact ⟨v, (World.cell?_setCell_other _ _ _ _ (by intro he; cases he; exact e rfl)).trans hv⟩
theorem rowAt_of_owns {w : World} {base e size g n cap : Nat} {xs : List Value} (h : w.ownsRow base e size (.slice (some ⟨g, 0, none⟩) n cap) n xs) : RowAt w g (n * size) := by
  rcases h.2 with ⟨h1, _⟩ | ⟨g', cap', cur, h1, hb, hg, hn, hc, hs, hx⟩
  · cases h1
  · cases h1
    refine ⟨(Array.getElem?_eq_some_iff.1 hg).1, fun j hj => ?_⟩
    have hj' : j < cur.size := by rw [hs]; exact Nat.lt_of_lt_of_le hj (Nat.mul_le_mul_right _ hn)
    refine ⟨⟨cur[j], ?_⟩, ?_⟩
    · simp [World.cell?, hg, hj']
    · simp [World.frozen?, hg]

theorem SpAt.snoc {w : World} {G k m : Nat} {p : Nat → Sp2} (h : SpAt w G 0 k p) (hr : RowAt w G m) (hm : k * 2 + 1 < m) :
    SpAt ((w.setCell ⟨G, k * 2, none⟩ (.int .i64 (p k).lo)).setCell ⟨G, k * 2 + 1, none⟩ (.int .i64 (p k).hi)) G 0 (k + 1) p := by
  intro i hi
  have g0 := (hr.2 (k * 2) (by omega)).1
  have g1 := (hr.set (k * 2) (.int .i64 (p k).lo)).2 (k * 2 + 1) (by omega)
  have hne : ∀ a b c : Nat, a ≠ b → (⟨c, a, none⟩ : Addr) ≠ ⟨c, b, none⟩ := fun a b c h e => h (by cases e; rfl)
  by_cases e : i = k
  · subst e
    simp only [Nat.zero_add]
    obtain ⟨v0, hv0⟩ := g0
    obtain ⟨⟨v1, hv1⟩, _⟩ := g1
    exact ⟨(World.cell?_setCell_other _ _ _ _ (hne _ _ _ (by omega))).trans (World.cell?_setCell_same' _ _ _ (by rw [hv0]; rfl)), World.cell?_setCell_same' _ _ _ (by rw [hv1]; rfl)⟩
  · obtain ⟨h0, h1⟩ := h i (by omega)
    simp only [Nat.zero_add] at *
    exact ⟨(World.cell?_setCell_other _ _ _ _ (hne _ _ _ (by omega))).trans ((World.cell?_setCell_other _ _ _ _ (hne _ _ _ (by omega))).trans h0),
      (World.cell?_setCell_other _ _ _ _ (hne _ _ _ (by omega))).trans ((World.cell?_setCell_other _ _ _ _ (hne _ _ _ (by omega))).trans h1)⟩
theorem info31 : (Tryz.prog.info? 31).map (fun i => (i.zero, i.size, i.bytes)) = some (some (.agg #[.int .i64 0, .int .i64 0]), 2, 16) := by kernel_rfl
end Go.Kn

namespace Go.Kn
open Go Go.Proofs Go.RowKit

/-- the pressures of the segments -/
def prOf (il ih : Int) (p : Nat → Sp2) (k : Nat) : Sp2 := ⟨prLo il (p k).hi (p (k + 1)).hi, prHi ih (p k).lo (p (k + 1)).lo⟩

abbrev sipV (il ih : Int) (C P lp cp A O ll cl : Nat) : Value := .agg #[.int .i64 il, .int .i64 ih, .slice (some ⟨C, P, none⟩) lp cp, .slice (some ⟨A, O, none⟩) ll cl]

set_option maxRecDepth 100000 in
set_option maxHeartbeats 4000000 in
theorem pressures_w (il ih : Int) (C P lp cp A O ll cl : Nat) (p : Nat → Sp2) (l : Nat → Int) (w : World) (H : Hid (SipAt w C P lp A O ll il ih p l)) :
    Calls Tryz.prog 57 #[.agg #[.int .i64 il, .int .i64 ih, .slice (some ⟨C, P, none⟩) lp cp, .slice (some ⟨A, O, none⟩) ll cl]] w
      fun e w' => (∃ G, e = .returned (.slice (some ⟨G, 0, none⟩) ll ll) ∧ w.heap.size ≤ G ∧ G < w'.heap.size ∧ SpAt w' G 0 ll (prOf il ih p)) ∧ Below w.heap.size w w' := by
  have q1 := H.out.lp1
  have q2 := H.out.lp2
  obtain rfl := H.out.lpe
  obtain ⟨W0, hW0⟩ : ∃ W0, W0 = w.alloc (.cells #[.int .i64 il, .int .i64 ih, .slice (some ⟨C, P, none⟩) (ll + 1) cp, .slice (some ⟨A, O, none⟩) ll cl] 40) := ⟨_, rfl⟩
  have hz : W0.heap.size = w.heap.size + 1 := by rw [hW0]; simp
  have hB0 : Below w.heap.size w W0 := by rw [hW0]; exact (Below.refl _ _).alloc (Nat.le_refl _) _
  have FX : Hid (∀ w', Below W0.heap.size W0 w' → w'.cell? ⟨w.heap.size, 0, none⟩ = some (.int .i64 il) ∧ w'.cell? ⟨w.heap.size, 1, none⟩ = some (.int .i64 ih) ∧ w'.cell? ⟨w.heap.size, 2, none⟩ = some (.slice (some ⟨C, P, none⟩) (ll + 1) cp) ∧ w'.cell? ⟨w.heap.size, 3, none⟩ = some (.slice (some ⟨A, O, none⟩) ll cl) ∧ SpAt w' C P (ll + 1) p) := Lib.hid fun w' h => by
    have q : ∀ b o, b < W0.heap.size → w'.cell? ⟨b, o, none⟩ = W0.cell? ⟨b, o, none⟩ := (bcell h).1
    have hall := hB0.trans (h.mono (by omega))
    exact ⟨(q _ _ (by omega)).trans (by rw [hW0]; simp), (q _ _ (by omega)).trans (by rw [hW0]; simp), (q _ _ (by omega)).trans (by rw [hW0]; simp), (q _ _ (by omega)).trans (by rw [hW0]; simp), (H.out.below hall).sp⟩
  obtain ⟨k0, k1, k2, k3, _⟩ := FX.out _ (Below.refl _ _)
  obtain ⟨i0, hi, hz0, hz1, hz2⟩ := info_parts info31
  go_enter Tryz.func57, Tryz.ntmps57
  go_wp2_with (at_make; refine wpList_make_full _ rfl _ _ 38 rfl w.heap.size 31 i0 _ 2 Tryz.underlying38 hi hz0 hz1 _ _ _ _ ll rfl rfl rfl rfl (by rw [hz2]; omega) (by unfold maxLen; omega) (by simp) ?_; intro w1 hown hgrow; rw [← hW0] at hown hgrow; have hb1 : Below W0.heap.size W0 w1 := (Below.refl _ _).grown hgrow (Nat.le_refl _) (fun k h => by cases h); have hrow := rowAt_of_owns hown; rw [hz] at hrow; obtain ⟨x0, x1, x2, x3, _⟩ := FX.out _ hb1)
  have HR0 : Hid (RowAt w1 (w.heap.size + 1) (ll * 2)) := Lib.hid hrow
  clear hown hgrow hrow
  go_loopw [13] (fun i wr => ∃ k : Nat, k ≤ ll ∧ i = .int .i64 k ∧ Below W0.heap.size W0 wr ∧ RowAt wr (w.heap.size + 1) (ll * 2) ∧ SpAt wr (w.heap.size + 1) 0 k (prOf il ih p)) (fun i _ => ll - (intOf i).toNat)
  case atStart => exact ⟨0, Nat.zero_le _, rfl, hb1, HR0.out, fun i hi => absurd hi (by omega)⟩
  case round =>
    clear x0 x1 x2 x3 hb1
    obtain ⟨k, hk, rfl, hbw, hrow, hsp⟩ := hrel
    have HROW := Lib.hid hrow
    have HSP := Lib.hid hsp
    clear hrow hsp
    obtain ⟨x0, x1, x2, x3, xs⟩ := FX.out _ hbw
    by_cases hlt : k < ll
    · obtain ⟨y0, y1⟩ := xs k (by omega)
      obtain ⟨y2, y3⟩ := xs (k + 1) (by omega)
      clear xs
      have hgz := HROW.out.1
      have FY : Hid (∀ w', Below wr.heap.size wr w' → w'.cell? ⟨w.heap.size, 0, none⟩ = some (.int .i64 il) ∧ w'.cell? ⟨w.heap.size, 1, none⟩ = some (.int .i64 ih) ∧ w'.cell? ⟨w.heap.size, 2, none⟩ = some (.slice (some ⟨C, P, none⟩) (ll + 1) cp) ∧ w'.cell? ⟨C, P + k * 2, none⟩ = some (.int .i64 (p k).lo) ∧ w'.cell? ⟨C, P + k * 2 + 1, none⟩ = some (.int .i64 (p k).hi) ∧ w'.cell? ⟨C, P + (k + 1) * 2, none⟩ = some (.int .i64 (p (k + 1)).lo) ∧ w'.cell? ⟨C, P + (k + 1) * 2 + 1, none⟩ = some (.int .i64 (p (k + 1)).hi)) := Lib.hid fun w' h => by
        obtain ⟨z0, z1, z2, z3, zs⟩ := FX.out _ (hbw.trans (h.mono hbw.size))
        obtain ⟨y0, y1⟩ := zs k (by omega)
        obtain ⟨y2, y3⟩ := zs (k + 1) (by omega)
        exact ⟨z0, z1, z2, y0, y1, y2, y3⟩
      go_wp2
      have n1 : (0 : Int) ≤ (k : Int) := by omega
      have n2 : (k : Int) < ((ll + 1 : Nat) : Int) := by omega
      have n3 : IntKind.i64.wrap ((k : Int) + 1) = (k : Int) + 1 := IntWalk.i64_in _ (by omega)
      have n4 : (0 : Int) ≤ (k : Int) + 1 := by omega
      have n5 : (k : Int) + 1 < ((ll + 1 : Nat) : Int) := by omega
      have n6 : ((k : Int) + 1).toNat = k + 1 := by omega
      have n7 : (k : Int) ≤ (ll : Int) := by omega
      have n8 : (k : Int) < (ll : Int) + 1 := by omega
      have n9 : (k : Int) + 1 < (ll : Int) + 1 := by omega
      go_region_held3 (fun w' => w'.cell? ⟨w.heap.size, 0, none⟩ = some (.int .i64 il) ∧ w'.cell? ⟨w.heap.size, 1, none⟩ = some (.int .i64 ih) ∧ w'.cell? ⟨w.heap.size, 2, none⟩ = some (.slice (some ⟨C, P, none⟩) (ll + 1) cp) ∧ w'.cell? ⟨C, P + k * 2, none⟩ = some (.int .i64 (p k).lo) ∧ w'.cell? ⟨C, P + k * 2 + 1, none⟩ = some (.int .i64 (p k).hi) ∧ w'.cell? ⟨C, P + (k + 1) * 2, none⟩ = some (.int .i64 (p (k + 1)).lo) ∧ w'.cell? ⟨C, P + (k + 1) * 2 + 1, none⟩ = some (.int .i64 (p (k + 1)).hi))
        ((refine FY.out _ ?_; repeat (first | exact Below.refl _ _ | refine Below.setCell ?_ (by simp) _ | refine Below.alloc ?_ (by simp) _ | refine Below.drew ?_)))
        ((fail))
      have h0 := spanB_h H.out.iok
      have h1 := spanB_h (H.out.pok k (by omega))
      have h2 := spanB_h (H.out.pok (k + 1) (by omega))
      clear FY x0 x1 x2 x3 y0 y1 y2 y3
      go_wp2_with (go_at_call 83; refine (segSpan_w _ _ _ _ _ _ _ h0.1 h0.2.1 h1.1 h1.2.1 h2.1 h2.2.1).mono ?_; rintro e w2 ⟨rfl, hb2⟩; have hbr : Below wr.heap.size wr w2 := Below.trans (by repeat (first | exact Below.refl _ _ | refine Below.setCell ?_ (by simp) _ | refine Below.alloc ?_ (by simp) _ | refine Below.drew ?_)) (hb2.mono (by simp)); have hr2 := HROW.out.below hgz hbr; obtain ⟨⟨v0, hv0⟩, hf0⟩ := hr2.2 (k * 2) (by omega); obtain ⟨⟨v1, hv1⟩, hf1⟩ := hr2.2 (k * 2 + 1) (by omega))
      go_roundw
      case rel => exact ⟨k + 1, by omega, by go_num, ((hbw.trans (hbr.mono hbw.size)).setCell (by simp; omega) _).setCell (by simp; omega) _, (hr2.set _ _).set _ _, (HSP.out.below hgz hbr).snoc hr2 (by omega)⟩
      case measure => simp [intOf]; omega
    · clear xs
      go_wp2
      go_ret
      obtain rfl : k = ll := by omega
      exact ⟨⟨_, rfl, by omega, HROW.out.1, HSP.out⟩, hB0.trans (hbw.mono (by omega))⟩
end Go.Kn

namespace Go.Kn
open Go Go.Proofs Go.RowKit

def IntSl (w : World) (sa : Option Addr) (ls : Nat) (s : Nat → Int) : Prop := ls = 0 ∨ ∃ A O, sa = some ⟨A, O, none⟩ ∧ A < w.heap.size ∧ NumAt w A O ls s
def SpSl (w : World) (ta : Option Addr) (lt : Nat) (t : Nat → Sp2) : Prop := lt = 0 ∨ ∃ C P, ta = some ⟨C, P, none⟩ ∧ C < w.heap.size ∧ SpAt w C P lt t
theorem IntSl.below {w w1 : World} {sa : Option Addr} {ls : Nat} {s : Nat → Int} (h : IntSl w sa ls s) (hb : Below w.heap.size w w1) : IntSl w1 sa ls s := by
  rcases h with h | ⟨A, O, h1, h2, h3⟩
  · exact .inl h
  · exact .inr ⟨A, O, h1, Nat.lt_of_lt_of_le h2 hb.size, h3.below h2 hb⟩
theorem SpSl.below {w w1 : World} {ta : Option Addr} {lt : Nat} {t : Nat → Sp2} (h : SpSl w ta lt t) (hb : Below w.heap.size w w1) : SpSl w1 ta lt t := by
  rcases h with h | ⟨A, O, h1, h2, h3⟩
  · exact .inl h
  · exact .inr ⟨A, O, h1, Nat.lt_of_lt_of_le h2 hb.size, h3.below h2 hb⟩
structure AnySip (w : World) (pa la : Option Addr) (lp ll : Nat) (p : Nat → Sp2) (l : Nat → Int) : Prop where
  hp : SpSl w pa lp p
  hl : IntSl w la ll l
theorem AnySip.below {w w1 : World} {pa la : Option Addr} {lp ll : Nat} {p : Nat → Sp2} {l : Nat → Int} (h : AnySip w pa la lp ll p l) (hb : Below w.heap.size w w1) : AnySip w1 pa la lp ll p l := ⟨h.hp.below hb, h.hl.below hb⟩
structure SipP (il ih : Int) (lp ll : Nat) (p : Nat → Sp2) (l : Nat → Int) : Prop where
  iok : spanB 1000 il ih = true
  lp1 : 2 ≤ lp
  lp2 : lp ≤ 8
  lpe : lp = ll + 1
  pok : SpOk lp p
  lok : ∀ k, k < ll → fromB 1 100 (l k) = true
theorem no_iff' {p : Prop} (h : p → False) : (false = true ↔ p) := ⟨fun e => Bool.noConfusion e, fun x => (h x).elim⟩
theorem bcell4 {w w1 : World} {x y z u : Value} {T : TypeId} (hb : Below (w.alloc (.cells #[x, y, z, u] T)).heap.size (w.alloc (.cells #[x, y, z, u] T)) w1) :
    w1.cell? ⟨w.heap.size, 0, none⟩ = some x ∧ w1.cell? ⟨w.heap.size, 1, none⟩ = some y ∧ w1.cell? ⟨w.heap.size, 2, none⟩ = some z ∧ w1.cell? ⟨w.heap.size, 3, none⟩ = some u ∧ w.heap.size < w1.heap.size := by
  obtain ⟨hc, _⟩ := bcell hb
  refine ⟨(hc _ _ (by simp)).trans (by simp), (hc _ _ (by simp)).trans (by simp), (hc _ _ (by simp)).trans (by simp), (hc _ _ (by simp)).trans (by simp), ?_⟩
  have := hb.size
  simp at this; omega

set_option maxRecDepth 100000 in
set_option maxHeartbeats 4000000 in
theorem isSiphon_w (il ih : Int) (pa la : Option Addr) (lp cp ll cl : Nat) (p : Nat → Sp2) (l : Nat → Int) (w : World) (hlp : lp ≤ 1000000) (hll : ll ≤ 1000000) (H : Hid (AnySip w pa la lp ll p l)) :
    Calls Tryz.prog 54 #[.agg #[.int .i64 il, .int .i64 ih, .slice pa lp cp, .slice la ll cl]] w
      fun e w' => (∃ rb : Bool, e = .returned (.bool rb) ∧ (rb = true ↔ SipP il ih lp ll p l)) ∧ Below w.heap.size w w' := by
  have BX := Lib.hid (fun (w1 : World) (hb : Below (w.alloc (.cells #[.int .i64 il, .int .i64 ih, .slice pa lp cp, .slice la ll cl] 40)).heap.size (w.alloc (.cells #[.int .i64 il, .int .i64 ih, .slice pa lp cp, .slice la ll cl] 40)) w1) => bcell4 hb)
  have HL : Hid (∀ w1, Below (w.alloc (.cells #[.int .i64 il, .int .i64 ih, .slice pa lp cp, .slice la ll cl] 40)).heap.size (w.alloc (.cells #[.int .i64 il, .int .i64 ih, .slice pa lp cp, .slice la ll cl] 40)) w1 → AnySip w1 pa la lp ll p l) := Lib.hid fun w1 h => H.out.below (below_al h)
  cases HI : spanB 1000 il ih
  case false =>
    go_enter Tryz.func54, Tryz.ntmps54
    go_wp2_with (first
      | (go_at_call 87; refine (isHeight_w _ _ _).mono ?_; rw [HI]; rintro e w1 ⟨rfl, hb1⟩; obtain ⟨x0, x1, x2, x3, x4⟩ := BX.out _ hb1))
    go_ret

    exact ⟨⟨false, rfl, no_iff' (fun h => by rw [h.iok] at HI; cases HI)⟩, below_al hb1⟩
  cases f2 : fromB 2 8 (lp : Int)
  case false =>
    go_enter Tryz.func54, Tryz.ntmps54
    go_wp2_with (first
      | (go_at_call 87; refine (isHeight_w _ _ _).mono ?_; rw [HI]; rintro e w1 ⟨rfl, hb1⟩; obtain ⟨x0, x1, x2, x3, x4⟩ := BX.out _ hb1)
      | (go_at_call 70; refine (isFrom_w _ _ _ _).mono ?_; rintro e w' ⟨rfl, rfl⟩))
    go_ret

    exact ⟨⟨false, rfl, no_iff' (fun h => by have := h.lp1; have := h.lp2; simp only [fromB, decide_eq_false_iff_not] at f2; omega)⟩, below_al hb1⟩
  have g2 : 2 ≤ lp ∧ lp ≤ 8 := by simp only [fromB, decide_eq_true_eq] at f2; omega
  obtain ⟨C, P, rfl, hC, hst⟩ := H.out.hp.resolve_left (by omega)
  have HSPA : Hid (∀ w1, Below (w.alloc (.cells #[.int .i64 il, .int .i64 ih, .slice (some ⟨C, P, none⟩) lp cp, .slice la ll cl] 40)).heap.size (w.alloc (.cells #[.int .i64 il, .int .i64 ih, .slice (some ⟨C, P, none⟩) lp cp, .slice la ll cl] 40)) w1 → SpAt w1 C P lp p) := Lib.hid fun w1 h => hst.below hC (below_al h)
  clear hst
  by_cases hs : SpOk lp p
  case neg =>
    have HS := Lib.hid hs
    clear hs
    go_enter Tryz.func54, Tryz.ntmps54
    go_wp2_with (first
      | (go_at_call 87; refine (isHeight_w _ _ _).mono ?_; rw [HI]; rintro e w1 ⟨rfl, hb1⟩; obtain ⟨x0, x1, x2, x3, x4⟩ := BX.out _ hb1)
      | (go_at_call 70; refine (isFrom_w _ _ _ _).mono ?_; rintro e w' ⟨rfl, rfl⟩)
      | (go_at_call 88; refine (allHeight_w _ _ _ _ p _ (by omega) (by omega) (HSPA.out _ hb1)).mono ?_; rintro e w2 ⟨⟨rb, rfl, hrb⟩, hb2⟩; obtain rfl : rb = false := (by cases rb <;> first | rfl | exact (HS.out (hrb.1 rfl)).elim); clear hrb; have hb12 := hb1.trans (hb2.mono hb1.size); clear x0 x1 x2 x3 x4; obtain ⟨x0, x1, x2, x3, x4⟩ := BX.out _ hb12))
    go_ret

    exact ⟨⟨false, rfl, no_iff' (fun h => HS.out h.pok)⟩, below_al hb12⟩
  have HS := Lib.hid hs
  clear hs
  by_cases hle : lp = ll + 1
  case neg =>
    go_enter Tryz.func54, Tryz.ntmps54
    go_wp2_with (first
      | (go_at_call 87; refine (isHeight_w _ _ _).mono ?_; rw [HI]; rintro e w1 ⟨rfl, hb1⟩; obtain ⟨x0, x1, x2, x3, x4⟩ := BX.out _ hb1)
      | (go_at_call 70; refine (isFrom_w _ _ _ _).mono ?_; rintro e w' ⟨rfl, rfl⟩)
      | (go_at_call 88; refine (allHeight_w _ _ _ _ p _ (by omega) (by omega) (HSPA.out _ hb1)).mono ?_; rintro e w2 ⟨⟨rb, rfl, hrb⟩, hb2⟩; obtain rfl : rb = true := hrb.2 HS.out; clear hrb; have hb12 := hb1.trans (hb2.mono hb1.size); clear x0 x1 x2 x3 x4; obtain ⟨x0, x1, x2, x3, x4⟩ := BX.out _ hb12))
    go_ret

    exact ⟨⟨false, rfl, no_iff' (fun h => hle h.lpe)⟩, below_al hb12⟩
  subst hle
  obtain ⟨A, O, rfl, hA, hln⟩ := H.out.hl.resolve_left (by omega)
  have HLN : Hid (∀ w1, Below (w.alloc (.cells #[.int .i64 il, .int .i64 ih, .slice (some ⟨C, P, none⟩) (ll + 1) cp, .slice (some ⟨A, O, none⟩) ll cl] 40)).heap.size (w.alloc (.cells #[.int .i64 il, .int .i64 ih, .slice (some ⟨C, P, none⟩) (ll + 1) cp, .slice (some ⟨A, O, none⟩) ll cl] 40)) w1 → NumAt w1 A O ll l) := Lib.hid fun w1 h => hln.below hA (below_al h)
  clear hln
  go_enter Tryz.func54, Tryz.ntmps54
  go_wp2_with (first
    | (go_at_call 87; refine (isHeight_w _ _ _).mono ?_; rw [HI]; rintro e w1 ⟨rfl, hb1⟩; obtain ⟨x0, x1, x2, x3, x4⟩ := BX.out _ hb1)
    | (go_at_call 70; refine (isFrom_w _ _ _ _).mono ?_; rintro e w' ⟨rfl, rfl⟩)
    | (go_at_call 88; refine (allHeight_w _ _ _ _ p _ (by omega) (by omega) (HSPA.out _ hb1)).mono ?_; rintro e w2 ⟨⟨rb, rfl, hrb⟩, hb2⟩; obtain rfl : rb = true := hrb.2 HS.out; clear hrb; have hb12 := hb1.trans (hb2.mono hb1.size); clear x0 x1 x2 x3 x4; obtain ⟨x0, x1, x2, x3, x4⟩ := BX.out _ hb12)
    | (go_at_call 78; refine (allLength_w _ _ _ _ l _ (by unfold maxLen; omega) (by omega) (HLN.out _ hb12)).mono ?_; rintro e w3 ⟨⟨rb, rfl, hrb⟩, hb3⟩; have HR := Lib.hid hrb; clear hrb))
  go_ret
  exact ⟨⟨rb, rfl, HR.out.trans ⟨fun h => ⟨HI, g2.1, g2.2, rfl, HS.out, h⟩, fun h => h.lok⟩⟩, below_al (hb12.trans (hb3.mono hb12.size))⟩
end Go.Kn

namespace Go.Kn
open Go Go.Proofs Go.RowKit Go.ChangeShapes Go.WideShapes Go.Deep

def numOf' : Value → Int
  | .int _ k => k
  | _ => 0

theorem cel3 : Tryz.prog.cellsOf 3 = 1 := by kernel_rfl
theorem cel22 : Tryz.prog.cellsOf 22 = 1 := by kernel_rfl
theorem cel31 : Tryz.prog.cellsOf 31 = 2 := by kernel_rfl
theorem cel68 : Tryz.prog.cellsOf 38 = 1 := by kernel_rfl
theorem cel70 : Tryz.prog.cellsOf 40 = 4 := by kernel_rfl

section
variable {H : Type} {enc : TypeId × Value → H} {w : World} {base : Nat} {spare : Nat → Bool} {held : Bool}

theorem addr_mk' {a : Addr} {v : Value} (h : w.cell? a = some v) : a = ⟨a.block, a.off, none⟩ := by
  have := World.cell?_spot h
  obtain ⟨b, o, s⟩ := a
  simp at this
  subst this; rfl

theorem add_mk' (b o i : Nat) : (⟨b, o, none⟩ : Addr).add i = ⟨b, o + i, none⟩ := by
  unfold Addr.add
  split
  · rename_i h; subst h; rfl
  · rfl

theorem int_open {n : Nat} {v : Value} {y : DataW H × List MemPlace} (h : DataW.trod enc Tryz.prog w base spare held n 22 [v] = some y) :
    ∃ (sa : Option Addr) (ls cs : Nat) (s : Nat → Int), v = .slice sa ls cs ∧ ls ≤ maxLen ∧ IntSl w sa ls s := by
  rcases open_slice1 Tryz.underlying22 cel3 h with ⟨h1, _⟩ | ⟨a, len, cap, m, n', V, D, Pl, h1, _, hl, hm, hmm, _, hi⟩
  · exact ⟨none, 0, 0, fun _ => 0, by simpa using h1, by decide, .inl rfl⟩
  · refine ⟨some a, len, cap, fun i => numOf' (V i), by simpa using h1, by omega, ?_⟩
    by_cases h0 : len = 0
    · exact .inl h0
    · have hml : len ≤ m := by rw [hmm]; split <;> omega
      have hc0 := (hi 0 (by omega)).1
      have ea : a.add 0 = a := rfl
      rw [ea] at hc0
      have e := addr_mk' hc0
      refine .inr ⟨a.block, a.off, by rw [← e], World.block_lt_of_cell? w a hc0, fun i hil => ?_⟩
      obtain ⟨hc, ht⟩ := hi i (by omega)
      obtain ⟨k, hk, _⟩ := DataW.trod_int Tryz.underlying3 ht
      have hv : V i = .int .i64 k := by simpa using hk
      have q : a.add i = ⟨a.block, a.off + i, none⟩ := (congrArg (fun x => Addr.add x i) e).trans (add_mk' _ _ _)
      rw [q] at hc
      show w.cell? _ = some (.int .i64 (numOf' (V i)))
      rw [hc, hv]; rfl

theorem li2 {α : Type} {l : List α} (h : l.length = 2) : ∃ a b, l = [a, b] := by
  match l, h with
  | [a, b], _ => exact ⟨a, b, rfl⟩
theorem li3 {α : Type} {l : List α} (h : l.length = 3) : ∃ a b c, l = [a, b, c] := by
  match l, h with
  | [a, b, c], _ => exact ⟨a, b, c, rfl⟩
theorem li4 {α : Type} {l : List α} (h : l.length = 4) : ∃ a b c d, l = [a, b, c, d] := by
  match l, h with
  | [a, b, c, d], _ => exact ⟨a, b, c, d, rfl⟩

theorem sp_cells {n : Nat} {cs : List Value} {y : DataW H × List MemPlace} (h : DataW.trod enc Tryz.prog w base spare held n 31 cs = some y) :
    ∃ a b : Int, cs = [.int .i64 a, .int .i64 b] := by
  obtain ⟨zs, n2, _, _, hlen2, hzl, hg⟩ := DataW.trod_struct Tryz.underlying31 h
  rw [cel31] at hlen2
  obtain ⟨c0, c1, rfl⟩ := li2 hlen2
  obtain ⟨z0, z1, rfl⟩ := li2 hzl
  have g0 : DataW.trod enc Tryz.prog w base spare held n2 3 ((([c0, c1].drop 0)).take (Tryz.prog.cellsOf 3)) = some z0 := hg 0 _ rfl
  rw [cel3] at g0
  have g1 : DataW.trod enc Tryz.prog w base spare held n2 3 ((([c0, c1].drop 1)).take (Tryz.prog.cellsOf 3)) = some z1 := hg 1 _ rfl
  rw [cel3] at g1
  obtain ⟨k3, e3, _⟩ := DataW.trod_int Tryz.underlying3 g0
  obtain ⟨k4, e4, _⟩ := DataW.trod_int Tryz.underlying3 g1
  simp at e3 e4
  exact ⟨k3, k4, by rw [e3, e4]⟩

theorem sp_open {n : Nat} {v : Value} {y : DataW H × List MemPlace} (h : DataW.trod enc Tryz.prog w base spare held n 38 [v] = some y) :
    ∃ (ta : Option Addr) (lt ct : Nat) (t : Nat → Sp2), v = .slice ta lt ct ∧ lt ≤ maxLen ∧ SpSl w ta lt t := by
  rcases open_slice Tryz.underlying38 h with ⟨h1, _⟩ | ⟨a, len, cap, m, n', D, Pl, h1, _, hl, hm, hmm, _, hi⟩
  · exact ⟨none, 0, 0, fun _ => ⟨0, 0⟩, by simpa using h1, by decide, .inl rfl⟩
  · have hml : len ≤ m := by rw [hmm]; split <;> omega
    have key : ∀ i, i < len → ∃ x : Sp2, ∀ j c, [x.lo, x.hi][j]? = some c → w.cell? (a.add (i * 2 + j)) = some (.int .i64 c) := by
      intro i hil
      obtain ⟨cs', hc, ht⟩ := hi i (by omega)
      rw [cel31] at hc
      obtain ⟨_, hcl, hat⟩ := World.cells?_some hc
      obtain ⟨k0, k1, rfl⟩ := sp_cells ht
      refine ⟨⟨k0, k1⟩, fun j c hj => ?_⟩
      have hj5 : j < 2 := by
        have := (List.getElem?_eq_some_iff.1 hj).1
        simpa using this
      have h1 := hat j hj5
      rw [← Go.Deep.add_add] at *
      rw [h1]
      match j, hj5, hj with
      | 0, _, hj => simpa using hj
      | 1, _, hj => simpa using hj
    by_cases h0 : len = 0
    · exact ⟨some a, len, cap, fun _ => ⟨0, 0⟩, by simpa using h1, by omega, .inl h0⟩
    · obtain ⟨x0, hx0⟩ := key 0 (by omega)
      have hc0 := hx0 0 _ rfl
      have ea : a.add (0 * 2 + 0) = a := rfl
      rw [ea] at hc0
      have e := addr_mk' hc0
      refine ⟨some a, len, cap, fun i => if h : i < len then Classical.choose (key i h) else ⟨0, 0⟩, by simpa using h1, by omega, .inr ⟨a.block, a.off, by rw [← e], World.block_lt_of_cell? w a hc0, fun i hil => ?_⟩⟩
      simp only [hil, dif_pos]
      have hk := Classical.choose_spec (key i hil)
      have q : ∀ j, a.add (i * 2 + j) = ⟨a.block, a.off + (i * 2 + j), none⟩ := fun j => (congrArg (fun x => Addr.add x (i * 2 + j)) e).trans (add_mk' _ _ _)
      have c0 := hk 0 _ rfl
      have c1 := hk 1 _ rfl
      rw [q] at c0 c1
      exact ⟨c0, c1⟩

set_option maxRecDepth 100000 in
theorem sip_open {r : Reach} {b0 : Nat} {v : Value} {d : DataW H} {p : List MemPlace} {t : TypeId} (ht : t = 40) (hv : Value.okWide Tryz.prog w r b0 t v) (h : DataW.Trod enc Tryz.prog w base spare held t v d p) :
    ∃ (il ih : Int) (pa la : Option Addr) (lp cp ll cl : Nat) (q : Nat → Sp2) (l : Nat → Int), v = .agg #[.int .i64 il, .int .i64 ih, .slice pa lp cp, .slice la ll cl] ∧ lp ≤ maxLen ∧ ll ≤ maxLen ∧ AnySip w pa la lp ll q l := by
  obtain ⟨cs, rfl, hsz⟩ := okWide_struct (by rw [ht]; exact Tryz.underlying40) hv
  subst ht
  obtain ⟨l⟩ := cs
  obtain ⟨fuel, hf⟩ := h
  obtain ⟨xs, n, _, _, hlen, hxl, hg⟩ := DataW.trod_struct Tryz.underlying40 hf
  have hl4 : l.length = 4 := by
    exact hsz.trans cel70
  obtain ⟨c0, c1, c2, c3, rfl⟩ := li4 hl4
  obtain ⟨x0, x1, x2, rfl⟩ := li3 hxl
  have f0 : DataW.trod enc Tryz.prog w base spare held n 31 (([c0, c1, c2, c3].drop 0).take (Tryz.prog.cellsOf 31)) = some x0 := hg 0 _ rfl
  rw [cel31] at f0
  have f1 : DataW.trod enc Tryz.prog w base spare held n 38 (([c0, c1, c2, c3].drop 2).take (Tryz.prog.cellsOf 38)) = some x1 := hg 1 _ rfl
  rw [cel68] at f1
  have f2 : DataW.trod enc Tryz.prog w base spare held n 22 (([c0, c1, c2, c3].drop 3).take (Tryz.prog.cellsOf 22)) = some x2 := hg 2 _ rfl
  rw [cel22] at f2
  obtain ⟨il, ih, e0⟩ := sp_cells f0
  have e1 : c0 = .int .i64 il := (List.cons.inj e0).1
  have e2 : c1 = .int .i64 ih := (List.cons.inj (List.cons.inj e0).2).1
  subst e1
  subst e2
  clear e0
  obtain ⟨pa, lp, cp, q, rfl, hlp, HP⟩ := sp_open f1
  obtain ⟨la, ll, cl, l, rfl, hll, HL⟩ := int_open f2
  exact ⟨il, ih, pa, la, lp, cp, ll, cl, q, l, rfl, hlp, hll, HP, HL⟩
end
end Go.Kn

namespace Go.Kn
open Go Go.Proofs Go.RowKit

theorem SipAt.any {w : World} {C P lp A O ll : Nat} {il ih : Int} {p : Nat → Sp2} {l : Nat → Int} (h : SipAt w C P lp A O ll il ih p l) : AnySip w (some ⟨C, P, none⟩) (some ⟨A, O, none⟩) lp ll p l :=
  ⟨.inr ⟨C, P, rfl, h.hC, h.sp⟩, .inr ⟨A, O, rfl, h.hA, h.ln⟩⟩
theorem SipAt.ok {w : World} {C P lp A O ll : Nat} {il ih : Int} {p : Nat → Sp2} {l : Nat → Int} (h : SipAt w C P lp A O ll il ih p l) : SipP il ih lp ll p l :=
  ⟨h.iok, h.lp1, h.lp2, h.lpe, h.pok, h.lok⟩

theorem isSip_t {w : World} {C P lp A O ll : Nat} {il ih : Int} {p : Nat → Sp2} {l : Nat → Int} (cp cl : Nat) (h : SipAt w C P lp A O ll il ih p l) :
    Calls Tryz.prog 54 #[.agg #[.int .i64 il, .int .i64 ih, .slice (some ⟨C, P, none⟩) lp cp, .slice (some ⟨A, O, none⟩) ll cl]] w
      fun e w' => e = .returned (.bool true) ∧ Below w.heap.size w w' :=
  (isSiphon_w il ih _ _ lp cp ll cl p l w (by have := h.lp2; omega) (by have := h.lp2; have := h.lpe; omega) (Lib.hid h.any)).mono (by
    rintro e w' ⟨⟨rb, rfl, hrb⟩, hb⟩
    rw [hrb.2 h.ok]
    exact ⟨rfl, hb⟩)
theorem isSip_f {w : World} {pa la : Option Addr} {lp ll : Nat} {il ih : Int} {p : Nat → Sp2} {l : Nat → Int} (cp cl : Nat) (hlp : lp ≤ 1000000) (hll : ll ≤ 1000000) (h : AnySip w pa la lp ll p l) (hn : ¬ SipP il ih lp ll p l) :
    Calls Tryz.prog 54 #[.agg #[.int .i64 il, .int .i64 ih, .slice pa lp cp, .slice la ll cl]] w
      fun e w' => e = .returned (.bool false) ∧ Below w.heap.size w w' :=
  (isSiphon_w il ih _ _ lp cp ll cl p l w hlp hll (Lib.hid h)).mono (by
    rintro e w' ⟨⟨rb, rfl, hrb⟩, hb⟩
    cases rb
    · exact ⟨rfl, hb⟩
    · exact (hn (hrb.1 rfl)).elim)

set_option maxRecDepth 100000 in
set_option maxHeartbeats 2000000 in
theorem ppress_w (il ih : Int) (C P lp cp A O ll cl : Nat) (p : Nat → Sp2) (l : Nat → Int) (w : World) (H : Hid (SipAt w C P lp A O ll il ih p l)) :
    Calls Tryz.prog 38 #[.agg #[.int .i64 il, .int .i64 ih, .slice (some ⟨C, P, none⟩) lp cp, .slice (some ⟨A, O, none⟩) ll cl]] w
      fun e w' => (∃ G, e = .returned (.tuple #[.slice (some ⟨G, 0, none⟩) ll ll, .int .i64 0]) ∧ w.heap.size ≤ G ∧ G < w'.heap.size ∧ SpAt w' G 0 ll (prOf il ih p)) ∧ Below w.heap.size w w' := by
  have BX := Lib.hid (fun (w1 : World) (hb : Below (w.alloc (.cells #[.int .i64 il, .int .i64 ih, .slice (some ⟨C, P, none⟩) lp cp, .slice (some ⟨A, O, none⟩) ll cl] 40)).heap.size (w.alloc (.cells #[.int .i64 il, .int .i64 ih, .slice (some ⟨C, P, none⟩) lp cp, .slice (some ⟨A, O, none⟩) ll cl] 40)) w1) => bcell4 hb)
  have HL : Hid (∀ w1, Below (w.alloc (.cells #[.int .i64 il, .int .i64 ih, .slice (some ⟨C, P, none⟩) lp cp, .slice (some ⟨A, O, none⟩) ll cl] 40)).heap.size (w.alloc (.cells #[.int .i64 il, .int .i64 ih, .slice (some ⟨C, P, none⟩) lp cp, .slice (some ⟨A, O, none⟩) ll cl] 40)) w1 → SipAt w1 C P lp A O ll il ih p l) := Lib.hid fun w1 h => H.out.below (below_al h)
  go_enter Tryz.func38, Tryz.ntmps38
  go_wp2_with (first
    | (go_at_call 54; refine (isSip_t _ _ (HL.out _ (Below.refl _ _))).mono ?_; rintro e w1 ⟨rfl, hb1⟩; obtain ⟨x0, x1, x2, x3, x4⟩ := BX.out _ hb1)
    | (go_at_call 57; refine (pressures_w _ _ _ _ _ _ _ _ _ _ p l _ (Lib.hid (HL.out _ hb1))).mono ?_; rintro e w2 ⟨⟨G, rfl, hG1, hG2, hG3⟩, hb2⟩; have HG := Lib.hid hG3; clear hG3))
  have hb12 := hb1.trans (hb2.mono hb1.size)
  exact bodyPost_ret (v := .tuple #[.slice (some ⟨G, 0, none⟩) ll ll, .int .i64 0]) (by simp [results, Tryz.results38, go_sem]) rfl ⟨⟨G, rfl, by omega, hG2, HG.out⟩, below_al hb12⟩

set_option maxRecDepth 100000 in
set_option maxHeartbeats 2000000 in
theorem ppressF_w (il ih : Int) (pa la : Option Addr) (lp cp ll cl : Nat) (p : Nat → Sp2) (l : Nat → Int) (w : World) (hlp : lp ≤ 1000000) (hll : ll ≤ 1000000) (H : Hid (AnySip w pa la lp ll p l)) (hn : Hid (¬ SipP il ih lp ll p l)) :
    Calls Tryz.prog 38 #[.agg #[.int .i64 il, .int .i64 ih, .slice pa lp cp, .slice la ll cl]] w
      fun e w' => e = .returned (.tuple #[.slice none 0 0, .int .i64 2]) ∧ Below w.heap.size w w' := by
  have HL : Hid (∀ o : Obj, AnySip (w.alloc o) pa la lp ll p l) := Lib.hid fun o => H.out.below ((Below.refl _ _).alloc (Nat.le_refl _) _)
  go_enter Tryz.func38, Tryz.ntmps38
  go_wp2_with (go_at_call 54; refine (isSip_f _ _ hlp hll (HL.out _) hn.out).mono ?_; rintro e w1 ⟨rfl, hb1⟩)
  exact bodyPost_ret (v := .tuple #[.slice none 0 0, .int .i64 2]) (by simp [results, Tryz.results38, go_sem]) rfl ⟨rfl, below_al hb1⟩

/-- whether a siphon flows: 3 surely, 1 never, 2 perhaps -/
def flowV (il ih : Int) (x : Sp2) : Int := if x.hi < il then 3 else if ih ≤ x.lo then 1 else 2

set_option maxRecDepth 100000 in
set_option maxHeartbeats 4000000 in
theorem pflows_w (il ih : Int) (C P cp A O ll cl : Nat) (p : Nat → Sp2) (l : Nat → Int) (w : World) (H : Hid (SipAt w C P (ll + 1) A O ll il ih p l)) :
    Calls Tryz.prog 40 #[.agg #[.int .i64 il, .int .i64 ih, .slice (some ⟨C, P, none⟩) (ll + 1) cp, .slice (some ⟨A, O, none⟩) ll cl]] w
      fun e w' => e = .returned (.tuple #[.int .i64 (flowV il ih (p ll)), .int .i64 0]) ∧ Below w.heap.size w w' := by
  have BX := Lib.hid (fun (w1 : World) (hb : Below (w.alloc (.cells #[.int .i64 il, .int .i64 ih, .slice (some ⟨C, P, none⟩) (ll + 1) cp, .slice (some ⟨A, O, none⟩) ll cl] 40)).heap.size (w.alloc (.cells #[.int .i64 il, .int .i64 ih, .slice (some ⟨C, P, none⟩) (ll + 1) cp, .slice (some ⟨A, O, none⟩) ll cl] 40)) w1) => bcell4 hb)
  have HL : Hid (∀ w1, Below (w.alloc (.cells #[.int .i64 il, .int .i64 ih, .slice (some ⟨C, P, none⟩) (ll + 1) cp, .slice (some ⟨A, O, none⟩) ll cl] 40)).heap.size (w.alloc (.cells #[.int .i64 il, .int .i64 ih, .slice (some ⟨C, P, none⟩) (ll + 1) cp, .slice (some ⟨A, O, none⟩) ll cl] 40)) w1 → SipAt w1 C P (ll + 1) A O ll il ih p l) := Lib.hid fun w1 h => H.out.below (below_al h)
  have q1 := H.out.lp1
  have q2 := H.out.lp2
  by_cases h1 : (p ll).hi < il <;> by_cases h2 : ih ≤ (p ll).lo
  all_goals
    go_enter Tryz.func40, Tryz.ntmps40
    go_wp2_with (go_at_call 54; refine (isSip_t _ _ (HL.out _ (Below.refl _ _))).mono ?_; rintro e w1 ⟨rfl, hb1⟩; obtain ⟨x0, x1, x2, x3, x4⟩ := BX.out _ hb1; obtain ⟨y0, y1⟩ := (HL.out _ hb1).sp ll (by omega))
    have hb1' := below_al hb1
    refine bodyPost_ret (v := .tuple #[.int .i64 (flowV il ih (p ll)), .int .i64 0]) (by simp only [flowV]; (repeat' split) <;> first | omega | simp [results, Tryz.results40, go_sem]) rfl ⟨rfl, ?_⟩
    repeat (first | exact hb1' | refine Below.setCell ?_ (by simp) _ | refine Below.alloc ?_ (by have := hb1.size; simp at this ⊢; omega) _ | refine Below.drew ?_)

set_option maxRecDepth 100000 in
set_option maxHeartbeats 2000000 in
theorem pflowsF_w (il ih : Int) (pa la : Option Addr) (lp cp ll cl : Nat) (p : Nat → Sp2) (l : Nat → Int) (w : World) (hlp : lp ≤ 1000000) (hll : ll ≤ 1000000) (H : Hid (AnySip w pa la lp ll p l)) (hn : Hid (¬ SipP il ih lp ll p l)) :
    Calls Tryz.prog 40 #[.agg #[.int .i64 il, .int .i64 ih, .slice pa lp cp, .slice la ll cl]] w
      fun e w' => e = .returned (.tuple #[.int .i64 0, .int .i64 2]) ∧ Below w.heap.size w w' := by
  have HL : Hid (∀ o : Obj, AnySip (w.alloc o) pa la lp ll p l) := Lib.hid fun o => H.out.below ((Below.refl _ _).alloc (Nat.le_refl _) _)
  go_enter Tryz.func40, Tryz.ntmps40
  go_wp2_with (go_at_call 54; refine (isSip_f _ _ hlp hll (HL.out _) hn.out).mono ?_; rintro e w1 ⟨rfl, hb1⟩)
  exact bodyPost_ret (v := .tuple #[.int .i64 0, .int .i64 2]) (by simp [results, Tryz.results40, go_sem]) rfl ⟨rfl, below_al hb1⟩
end Go.Kn

namespace Go.Kn
open Go Go.Proofs Go.RowKit

theorem below_drewM {B : Nat} {a w : World} (h : Below B a w) (n : Nat) : Below B a (w.drewN n) := h.trans ⟨rfl, rfl, rfl, Nat.le_refl _, fun _ _ => rfl⟩

set_option maxHeartbeats 400000 in
theorem rheight_w (lo hi : Int) (w : World) :
    Calls Tryz.prog 53 #[.agg #[.int .i64 lo, .int .i64 hi]] w fun e w' => e = .returned (.bool (spanB 1000 lo hi)) ∧ Below w.heap.size w w' := by
  have hb : betB lo hi 0 1000 = spanB 1000 lo hi := by simp only [betB, spanB]; rw [decide_eq_decide]; omega
  go_enter Tryz.func53, Tryz.ntmps53
  go_wp2_with (go_at_call 86; refine (between_w _ _ _ _ _).mono ?_; rw [hb]; rintro e w1 ⟨rfl, hb1⟩)
  go_ret
  exact ⟨rfl, below_al hb1⟩

set_option maxRecDepth 100000 in
set_option maxHeartbeats 4000000 in
theorem rsiph_w (il ih : Int) (pa la : Option Addr) (lp cp ll cl : Nat) (p : Nat → Sp2) (l : Nat → Int) (w : World) (hlp : lp ≤ 1000000) (hll : ll ≤ 1000000) (H : Hid (AnySip w pa la lp ll p l)) :
    Calls Tryz.prog 17 #[.agg #[.int .i64 il, .int .i64 ih, .slice pa lp cp, .slice la ll cl]] w
      fun e w' => (∃ rb : Bool, e = .returned (.bool rb) ∧ (rb = true ↔ SipP il ih lp ll p l)) ∧ Below w.heap.size w w' := by
  have BX := Lib.hid (fun (w1 : World) (hb : Below (w.alloc (.cells #[.int .i64 il, .int .i64 ih, .slice pa lp cp, .slice la ll cl] 40)).heap.size (w.alloc (.cells #[.int .i64 il, .int .i64 ih, .slice pa lp cp, .slice la ll cl] 40)) w1) => bcell4 hb)
  have HL : Hid (∀ w1, Below (w.alloc (.cells #[.int .i64 il, .int .i64 ih, .slice pa lp cp, .slice la ll cl] 40)).heap.size (w.alloc (.cells #[.int .i64 il, .int .i64 ih, .slice pa lp cp, .slice la ll cl] 40)) w1 → AnySip w1 pa la lp ll p l) := Lib.hid fun w1 h => H.out.below (below_al h)
  go_enter Tryz.func17, Tryz.ntmps17
  go_wp2
  go_loopw [3] (fun i wr => ∃ k : Nat, k ≤ lp ∧ i = .int .i64 k ∧ Below (w.alloc (.cells #[.int .i64 il, .int .i64 ih, .slice pa lp cp, .slice la ll cl] 40)).heap.size (w.alloc (.cells #[.int .i64 il, .int .i64 ih, .slice pa lp cp, .slice la ll cl] 40)) wr ∧ ∀ j, j < k → spanB 1000 (p j).lo (p j).hi = true) (fun i _ => lp - (intOf i).toNat)
  case atStart => exact ⟨0, Nat.zero_le _, rfl, Below.refl _ _, fun j hj => absurd hj (by omega)⟩
  case round =>
    obtain ⟨k, hk, rfl, hbw, hall⟩ := hrel
    have HALL := Lib.hid hall
    clear hall
    obtain ⟨x0, x1, x2, x3, x4⟩ := BX.out _ hbw
    by_cases hlt1 : k < lp
    · obtain ⟨C, P, rfl, hC, hcells⟩ := (HL.out _ hbw).hp.resolve_left (by omega)
      obtain ⟨y0, y1⟩ := hcells k hlt1
      clear hcells
      cases hv : spanB 1000 (p k).lo (p k).hi
      · go_wp2_with (go_at_call 53; refine (rheight_w _ _ _).mono ?_; rw [hv]; rintro e w1 ⟨rfl, hb1⟩)
        go_ret
        exact ⟨⟨false, rfl, no_iff' (fun h => by have := h.pok k hlt1; rw [hv] at this; exact Bool.noConfusion this)⟩, below_al (hbw.trans (hb1.mono hbw.size))⟩
      · go_wp2_with (go_at_call 53; refine (rheight_w _ _ _).mono ?_; rw [hv]; rintro e w1 ⟨rfl, hb1⟩)
        go_roundw
        case rel => exact ⟨k + 1, by omega, by go_num, hbw.trans (hb1.mono hbw.size), fun j hj => by
          rcases Nat.lt_succ_iff_lt_or_eq.1 hj with h | h
          · exact HALL.out j h
          · rw [h]; exact hv⟩
        case measure => simp [intOf]; omega
    · have HSP : Hid (SpOk lp p) := Lib.hid fun j hj => HALL.out j (by omega)
      go_wp2
      go_loopw [4] (fun i wr => ∃ k : Nat, k ≤ ll ∧ i = .int .i64 k ∧ Below (w.alloc (.cells #[.int .i64 il, .int .i64 ih, .slice pa lp cp, .slice la ll cl] 40)).heap.size (w.alloc (.cells #[.int .i64 il, .int .i64 ih, .slice pa lp cp, .slice la ll cl] 40)) wr ∧ (∀ j, j < k → fromB 1 100 (l j) = true)) (fun i _ => ll - (intOf i).toNat)
      case atStart => exact ⟨0, Nat.zero_le _, rfl, hbw, fun j hj => absurd hj (by omega)⟩
      case round =>
        clear x0 x1 x2 x3 x4 hbw
        obtain ⟨j, hj, rfl, hbw, hall⟩ := hrel
        have HALL2 := Lib.hid hall
        clear hall
        obtain ⟨x0, x1, x2, x3, x4⟩ := BX.out _ hbw
        by_cases hlt2 : j < ll
        · obtain ⟨A, O, rfl, hA, hcells⟩ := (HL.out _ hbw).hl.resolve_left (by omega)
          have y0 := hcells j hlt2
          clear hcells
          cases hv : fromB 1 100 (l j)
          · go_wp2_with (go_at_call 50; refine (in_w _ _ _ _).mono ?_; rw [hv]; rintro e w1 ⟨rfl, rfl⟩)
            go_ret
            exact ⟨⟨false, rfl, no_iff' (fun h => by rw [h.lok j hlt2] at hv; exact Bool.noConfusion hv)⟩, below_al hbw⟩
          · go_wp2_with (go_at_call 50; refine (in_w _ _ _ _).mono ?_; rw [hv]; rintro e w1 ⟨rfl, rfl⟩)
            go_roundw
            case rel => exact ⟨j + 1, by omega, by go_num, hbw, fun i hi => by
              rcases Nat.lt_succ_iff_lt_or_eq.1 hi with h | h
              · exact HALL2.out i h
              · rw [h]; exact hv⟩
            case measure => simp [intOf]; omega
        · have HTOK : Hid (∀ k, k < ll → fromB 1 100 (l k) = true) := Lib.hid fun i hi => HALL2.out i (by omega)
          clear HALL2
          cases hv : spanB 1000 il ih
          · go_wp2_with (go_at_call 53; refine (rheight_w _ _ _).mono ?_; rw [hv]; rintro e w1 ⟨rfl, hb1⟩)
            go_ret
            exact ⟨⟨false, rfl, no_iff' (fun h => by rw [h.iok] at hv; exact Bool.noConfusion hv)⟩, below_al (hbw.trans (hb1.mono hbw.size))⟩
          cases hv2 : fromB 2 8 (lp : Int)
          · go_wp2_with (first | (go_at_call 53; refine (rheight_w _ _ _).mono ?_; rw [hv]; rintro e w1 ⟨rfl, hb1⟩; have hb2 := hbw.trans (hb1.mono hbw.size); clear x0 x1 x2 x3 x4; obtain ⟨x0, x1, x2, x3, x4⟩ := BX.out _ hb2) | (go_at_call 50; refine (in_w _ _ _ _).mono ?_; rw [hv2]; rintro e w2 ⟨rfl, rfl⟩))
            go_ret
            exact ⟨⟨false, rfl, no_iff' (fun h => by have := h.lp1; have := h.lp2; simp only [fromB, decide_eq_false_iff_not] at hv2; omega)⟩, below_al hb2⟩
          have g2 : 2 ≤ lp ∧ lp ≤ 8 := by simp only [fromB, decide_eq_true_eq] at hv2; omega
          go_wp2_with (first | (go_at_call 53; refine (rheight_w _ _ _).mono ?_; rw [hv]; rintro e w1 ⟨rfl, hb1⟩; have hb2 := hbw.trans (hb1.mono hbw.size); clear x0 x1 x2 x3 x4; obtain ⟨x0, x1, x2, x3, x4⟩ := BX.out _ hb2) | (go_at_call 50; refine (in_w _ _ _ _).mono ?_; rw [hv2]; rintro e w2 ⟨rfl, rfl⟩))
          go_ret
          refine ⟨⟨_, rfl, ?_⟩, below_al hb2⟩
          rw [beq_iff_eq]
          exact ⟨fun h => ⟨hv, g2.1, g2.2, by omega, HSP.out, HTOK.out⟩, fun h => by have := h.lpe; omega⟩

set_option maxHeartbeats 1000000 in
theorem slim_w (il ih : Int) (pa la ka : Option Addr) (lp cp ll cl lk ck : Nat) (w : World) (hlp : lp ≤ maxLen) (hll : ll ≤ maxLen) (hlk : lk ≤ maxLen) :
    Calls Tryz.prog 16 #[.agg #[.int .i64 il, .int .i64 ih, .slice pa lp cp, .slice la ll cl], .slice ka lk ck] w fun e w' => e = .returned (.bool (decide (lp ≤ 10 ∧ ll ≤ 10 ∧ lk ≤ 6))) ∧ Below w.heap.size w w' := by
  unfold maxLen at hlp hll hlk
  by_cases h : lp ≤ 10 <;> by_cases h2 : ll ≤ 10
  all_goals
    go_enter Tryz.func16, Tryz.ntmps16
    go_wp2
    go_ret
    exact ⟨by (simp [h, h2]; try omega), (Below.refl _ _).alloc (Nat.le_refl _) _⟩

def presV (i a b : Int) : Int := max (max 0 (i - a)) (i - b)

set_option maxHeartbeats 1000000 in
theorem pressure_w (i a b : Int) (w : World) (h1 : hOk i) (h2 : hOk a) (h3 : hOk b) :
    Calls Tryz.prog 23 #[.int .i64 i, .int .i64 a, .int .i64 b] w fun e w' => e = .returned (.int .i64 (presV i a b)) ∧ w = w' := by
  obtain ⟨a1, a2⟩ := h1
  obtain ⟨b1, b2⟩ := h2
  obtain ⟨c1, c2⟩ := h3
  go_enter Tryz.func23, Tryz.ntmps23
  go_wp2
  all_goals
    go_ret
    refine ⟨ret_int ?_, rfl⟩
    unfold presV
    omega

/-- heights of the inlet and the points that are possible -/
structure HeiP (il ih : Int) (lp : Nat) (p : Nat → Sp2) (n : Int) (lq : Nat) (s : Nat → Int) : Prop where
  n1 : il ≤ n
  n2 : n ≤ ih
  lq : lq = lp
  at_ : ∀ k, k < lp → (p k).lo ≤ s k ∧ s k ≤ (p k).hi

set_option maxRecDepth 100000 in
set_option maxHeartbeats 4000000 in
theorem heights_w (il ih : Int) (C P lp cp A O ll cl : Nat) (p : Nat → Sp2) (l : Nat → Int) (n : Int) (sq : Option Addr) (lq cq : Nat) (s : Nat → Int) (w : World) (hlq : lq ≤ maxLen) (H : Hid (SipAt w C P lp A O ll il ih p l)) (HS : Hid (IntSl w sq lq s)) :
    Calls Tryz.prog 20 #[.agg #[.int .i64 il, .int .i64 ih, .slice (some ⟨C, P, none⟩) lp cp, .slice (some ⟨A, O, none⟩) ll cl], .int .i64 n, .slice sq lq cq] w
      fun e w' => (∃ rb : Bool, e = .returned (.bool rb) ∧ (rb = true ↔ HeiP il ih lp p n lq s)) ∧ Below w.heap.size w w' := by
  unfold maxLen at hlq
  have BX := Lib.hid (fun (w1 : World) (hb : Below (w.alloc (.cells #[.int .i64 il, .int .i64 ih, .slice (some ⟨C, P, none⟩) lp cp, .slice (some ⟨A, O, none⟩) ll cl] 40)).heap.size (w.alloc (.cells #[.int .i64 il, .int .i64 ih, .slice (some ⟨C, P, none⟩) lp cp, .slice (some ⟨A, O, none⟩) ll cl] 40)) w1) => bcell4 hb)
  have HL : Hid (∀ w1, Below (w.alloc (.cells #[.int .i64 il, .int .i64 ih, .slice (some ⟨C, P, none⟩) lp cp, .slice (some ⟨A, O, none⟩) ll cl] 40)).heap.size (w.alloc (.cells #[.int .i64 il, .int .i64 ih, .slice (some ⟨C, P, none⟩) lp cp, .slice (some ⟨A, O, none⟩) ll cl] 40)) w1 → SipAt w1 C P lp A O ll il ih p l ∧ IntSl w1 sq lq s) := Lib.hid fun w1 h => ⟨H.out.below (below_al h), HS.out.below (below_al h)⟩
  have q1 := H.out.lp1
  have q2 := H.out.lp2
  by_cases h1 : n < il
  · go_enter Tryz.func20, Tryz.ntmps20
    go_wp2
    go_ret
    exact ⟨⟨false, rfl, no_iff' (fun h => by have := h.n1; omega)⟩, (Below.refl _ _).alloc (Nat.le_refl _) _⟩
  by_cases h2 : ih < n
  · go_enter Tryz.func20, Tryz.ntmps20
    go_wp2
    go_ret
    exact ⟨.inl ⟨rfl, fun h => by have := h.n2; omega⟩, (Below.refl _ _).alloc (Nat.le_refl _) _⟩
  by_cases h3 : lq = lp
  case neg =>
    have h3' : ((lq : Int) != (lp : Int)) = true := by simp; omega
    go_enter Tryz.func20, Tryz.ntmps20
    go_wp2
    go_ret
    exact ⟨.inl ⟨rfl, fun h => h3 h.lq⟩, (Below.refl _ _).alloc (Nat.le_refl _) _⟩
  subst h3
  obtain ⟨D, F, rfl, hD, hcs⟩ := HS.out.resolve_left (by omega)
  have HD : Hid (∀ w1, Below (w.alloc (.cells #[.int .i64 il, .int .i64 ih, .slice (some ⟨C, P, none⟩) lq cp, .slice (some ⟨A, O, none⟩) ll cl] 40)).heap.size (w.alloc (.cells #[.int .i64 il, .int .i64 ih, .slice (some ⟨C, P, none⟩) lq cp, .slice (some ⟨A, O, none⟩) ll cl] 40)) w1 → NumAt w1 D F lq s) := Lib.hid fun w1 h => hcs.below hD (below_al h)
  clear hcs
  go_enter Tryz.func20, Tryz.ntmps20
  go_wp2
  go_loopw [7] (fun i wr => ∃ k : Nat, k ≤ lq ∧ i = .int .i64 k ∧ Below (w.alloc (.cells #[.int .i64 il, .int .i64 ih, .slice (some ⟨C, P, none⟩) lq cp, .slice (some ⟨A, O, none⟩) ll cl] 40)).heap.size (w.alloc (.cells #[.int .i64 il, .int .i64 ih, .slice (some ⟨C, P, none⟩) lq cp, .slice (some ⟨A, O, none⟩) ll cl] 40)) wr ∧ ∀ j, j < k → (p j).lo ≤ s j ∧ s j ≤ (p j).hi) (fun i _ => lq - (intOf i).toNat)
  case atStart => exact ⟨0, Nat.zero_le _, rfl, Below.refl _ _, fun j hj => absurd hj (by omega)⟩
  case round =>
    obtain ⟨k, hk, rfl, hbw, hall⟩ := hrel
    have HALL := Lib.hid hall
    clear hall
    obtain ⟨x0, x1, x2, x3, x4⟩ := BX.out _ hbw
    by_cases hlt1 : k < lq
    · obtain ⟨y0, y1⟩ := (HL.out _ hbw).1.sp k hlt1
      have y2 := HD.out _ hbw k hlt1
      have n1 : (0 : Int) ≤ (k : Int) := by omega
      have n2 : (k : Int) < (lq : Int) := by omega
      by_cases g1 : s k < (p k).lo
      · have d1 : decide (s k < (p k).lo) = true := decide_eq_true g1
        go_wp2
        go_quiet (fail)
        go_wp2
        go_ret
        exact ⟨⟨false, rfl, no_iff' (fun h => by have := (h.at_ k hlt1).1; omega)⟩, below_al (below_drewM hbw _)⟩
      · have d1 : decide (s k < (p k).lo) = false := decide_eq_false g1
        by_cases g2 : (p k).hi < s k
        · have d2 : decide ((p k).hi < s k) = true := decide_eq_true g2
          go_wp2
          go_quiet (fail)
          go_wp2
          go_ret
          exact ⟨⟨false, rfl, no_iff' (fun h => by have := (h.at_ k hlt1).2; omega)⟩, below_al (below_drewM hbw _)⟩
        · have d2 : decide ((p k).hi < s k) = false := decide_eq_false g2
          go_wp2
          go_quiet (fail)
          go_wp2
          go_roundw
          case rel => exact ⟨k + 1, by omega, by go_num, (below_drewM hbw _), fun j hj => by
            rcases Nat.lt_succ_iff_lt_or_eq.1 hj with h | h
            · exact HALL.out j h
            · rw [h]; omega⟩
          case measure => simp [intOf]; omega
    · go_wp2
      go_ret
      exact ⟨⟨true, rfl, fun _ => ⟨by omega, by omega, rfl, fun j hj => HALL.out j (by omega)⟩, fun _ => rfl⟩, below_al hbw⟩
end Go.Kn

namespace Go.Kn
open Go Go.Proofs Go.RowKit

set_option maxRecDepth 100000 in
set_option maxHeartbeats 2000000 in
theorem sameSp_w (G G2 ll c1 c2 : Nat) (p : Nat → Sp2) (w : World) (hll : ll ≤ 1000000) (h1 : Hid (SpAt w G 0 ll p)) (h2 : Hid (SpAt w G2 0 ll p)) :
    Calls Tryz.prog 43 #[.slice (some ⟨G, 0, none⟩) ll c1, .slice (some ⟨G2, 0, none⟩) ll c2] w
      fun e w' => e = .returned (.bool true) ∧ Below w.heap.size w w' := by
  go_enter Tryz.func43, Tryz.ntmps43
  go_wp2
  go_loopw [5] (fun i wr => ∃ k : Nat, k ≤ ll ∧ i = .int .i64 k ∧ Below w.heap.size w wr ∧ ∀ b o, wr.cell? ⟨b, o, none⟩ = w.cell? ⟨b, o, none⟩) (fun i _ => ll - (intOf i).toNat)
  case atStart => exact ⟨0, Nat.zero_le _, rfl, Below.refl _ _, fun _ _ => rfl⟩
  case round =>
    obtain ⟨k, hk, rfl, hbw, hsame⟩ := hrel
    by_cases hlt : k < ll
    · obtain ⟨y0, y1⟩ := h1.out k hlt
      obtain ⟨y2, y3⟩ := h2.out k hlt
      simp only [Nat.zero_add] at y0 y1 y2 y3
      have z0 := (hsame _ _).trans y0
      have z1 := (hsame _ _).trans y1
      have z2 := (hsame _ _).trans y2
      have z3 := (hsame _ _).trans y3
      have HSM := Lib.hid hsame
      clear y0 y1 y2 y3 hsame
      have n1 : (0 : Int) ≤ (k : Int) := by omega
      have n2 : (k : Int) < (ll : Int) := by omega
      go_wp2
      go_quiet (fail)
      go_wp2
      go_roundw
      case rel => exact ⟨k + 1, by omega, by go_num, (below_drewM hbw _), fun b o => HSM.out b o⟩
      case measure => simp [intOf]; omega
    · clear hsame
      go_wp2
      go_ret
      exact ⟨rfl, hbw⟩
end Go.Kn

namespace Go.Kn
open Go Go.Proofs Go.RowKit

/-- the cells of the first n spans -/
def flat (p : Nat → Sp2) : Nat → List Value
  | 0 => []
  | n + 1 => flat p n ++ [.int .i64 (p n).lo, .int .i64 (p n).hi]
theorem flat_len (p : Nat → Sp2) (n : Nat) : (flat p n).length = n * 2 := by
  induction n with
  | zero => rfl
  | succ n ih => simp [flat, ih]; omega
theorem flat_at (p : Nat → Sp2) : ∀ (n i : Nat), i < n → (flat p n)[i * 2]? = some (.int .i64 (p i).lo) ∧ (flat p n)[i * 2 + 1]? = some (.int .i64 (p i).hi) := by
  intro n
  induction n with
  | zero => intro i h; omega
  | succ n ih =>
    intro i h
    have hl := flat_len p n
    by_cases e : i = n
    · subst e
      simp only [flat]
      rw [List.getElem?_append_right (by omega), List.getElem?_append_right (by omega), hl]
      simp
    · obtain ⟨h1, h2⟩ := ih i (by omega)
      simp only [flat]
      rw [List.getElem?_append_left (by omega), List.getElem?_append_left (by omega)]
      exact ⟨h1, h2⟩
theorem spAt_of_owns {w : World} {base g n cap : Nat} {p : Nat → Sp2} (h : w.ownsRow base 31 2 (.slice (some ⟨g, 0, none⟩) n cap) n (flat p n)) : SpAt w g 0 n p := by
  intro i hi
  obtain ⟨h1, h2⟩ := flat_at p n i hi
  have key : ∀ j v, (flat p n)[j]? = some v → w.cell? ⟨g, j, none⟩ = some v := by
    rcases h.2 with ⟨e, _⟩ | ⟨g', cap', cur, e, hb, hg, hn, hc, hs, hx⟩
    · cases e
    · cases e
      intro j v hj
      rw [← hx] at hj
      rw [List.getElem?_take] at hj
      split at hj
      · simp only [Array.getElem?_toList] at hj
        simp [World.cell?, hg, hj]
      · cases hj
  simp only [Nat.zero_add]
  exact ⟨key _ _ h1, key _ _ h2⟩
theorem own_ne {W : World} {n0 e size k B : Nat} {v : Value} {xs : List Value} (h : W.ownsRow n0 e size v k xs) (hB : B < n0 ∨ W.heap.size ≤ B) : some B ≠ v.ownBlock := by
  rcases h.2 with ⟨rfl, _⟩ | ⟨g, cap, cur, rfl, hb, hg, _⟩
  · simp [Value.ownBlock]
  · intro e'
    obtain rfl : B = g := by simpa [Value.ownBlock] using e'
    have := (Array.getElem?_eq_some_iff.1 hg).1
    omega
theorem own_ge {W : World} {n0 e size k : Nat} {v : Value} {xs : List Value} (h : W.ownsRow n0 e size v k xs) (r : Nat) (hr : v.ownBlock = some r) : n0 ≤ r := by
  rcases h.2 with ⟨rfl, _⟩ | ⟨g, cap, cur, rfl, hb, hg, _⟩
  · simp [Value.ownBlock] at hr
  · obtain rfl : g = r := by simpa [Value.ownBlock] using hr
    exact hb
theorem lies2 {W2 : World} {n : Nat} (hz : W2.heap.size = n) (x y : Value) (T : TypeId) : ∀ (j : Nat) (u : Value), [x, y][j]? = some u → (W2.drew.alloc (.cells #[x, y] T)).cell? ((⟨n, 0, none⟩ : Addr).add j) = some u := by
  subst hz
  intro j u h
  match j, h with
  | 0, h =>
    simp at h; subst h
    show (W2.alloc (.cells #[x, y] T)).cell? _ = _
    simp [Addr.add]
  | 1, h =>
    simp at h; subst h
    show (W2.alloc (.cells #[x, y] T)).cell? _ = _
    simp [Addr.add]

set_option maxRecDepth 100000 in
set_option maxHeartbeats 4000000 in
theorem rpress_w (il ih : Int) (C P cp A O ll cl : Nat) (p : Nat → Sp2) (l : Nat → Int) (w : World) (H : Hid (SipAt w C P (ll + 1) A O ll il ih p l)) :
    Calls Tryz.prog 98 #[.agg #[.int .i64 il, .int .i64 ih, .slice (some ⟨C, P, none⟩) (ll + 1) cp, .slice (some ⟨A, O, none⟩) ll cl]] w
      fun e w' => (∃ v, e = .returned v ∧ w'.ownsRow (w.heap.size + 1) 31 2 v ll (flat (prOf il ih p) ll)) ∧ Below w.heap.size w w' := by
  have BX := Lib.hid (fun (w1 : World) (hb : Below (w.alloc (.cells #[.int .i64 il, .int .i64 ih, .slice (some ⟨C, P, none⟩) (ll + 1) cp, .slice (some ⟨A, O, none⟩) ll cl] 40)).heap.size (w.alloc (.cells #[.int .i64 il, .int .i64 ih, .slice (some ⟨C, P, none⟩) (ll + 1) cp, .slice (some ⟨A, O, none⟩) ll cl] 40)) w1) => bcell4 hb)
  have HL : Hid (∀ w1, Below (w.alloc (.cells #[.int .i64 il, .int .i64 ih, .slice (some ⟨C, P, none⟩) (ll + 1) cp, .slice (some ⟨A, O, none⟩) ll cl] 40)).heap.size (w.alloc (.cells #[.int .i64 il, .int .i64 ih, .slice (some ⟨C, P, none⟩) (ll + 1) cp, .slice (some ⟨A, O, none⟩) ll cl] 40)) w1 → SipAt w1 C P (ll + 1) A O ll il ih p l) := Lib.hid fun w1 h => H.out.below (below_al h)
  have q1 := H.out.lp1
  have q2 := H.out.lp2
  have hP := Lib.hid H.out.pok
  obtain ⟨hi1, hi2, hi3⟩ := spanB_h H.out.iok
  obtain ⟨i0, hi, hz0, hz1, hz22⟩ := info_parts info31
  go_enter Tryz.func98, Tryz.ntmps98
  go_wp2
  go_loopw [3, 4] (fun v i wr => ∃ k : Nat, k ≤ ll ∧ i = .int .i64 k ∧ wr.ownsRow (w.heap.size + 1) 31 2 v k (flat (prOf il ih p) k) ∧ Below (w.alloc (.cells #[.int .i64 il, .int .i64 ih, .slice (some ⟨C, P, none⟩) (ll + 1) cp, .slice (some ⟨A, O, none⟩) ll cl] 40)).heap.size (w.alloc (.cells #[.int .i64 il, .int .i64 ih, .slice (some ⟨C, P, none⟩) (ll + 1) cp, .slice (some ⟨A, O, none⟩) ll cl] 40)) wr) (fun _ i _ => ll - (intOf i).toNat)
  case atStart => exact ⟨0, Nat.zero_le _, rfl, World.ownsRow_nil _ _ _ _, Below.refl _ _⟩
  case round =>
    obtain ⟨k, hk, rfl, hown, hbw⟩ := hrel
    have HOWN := Lib.hid hown
    clear hown
    obtain ⟨x0, x1, x2, x3, x4⟩ := BX.out _ hbw
    by_cases hlt : k < ll
    · obtain ⟨y0, y1⟩ := (HL.out _ hbw).sp k (by omega)
      obtain ⟨y2, y3⟩ := (HL.out _ hbw).sp (k + 1) (by omega)
      have FY : Hid (∀ w', Below wr.heap.size wr w' → w'.cell? ⟨w.heap.size, 2, none⟩ = some (.slice (some ⟨C, P, none⟩) (ll + 1) cp) ∧ w'.cell? ⟨C, P + k * 2, none⟩ = some (.int .i64 (p k).lo) ∧ w'.cell? ⟨C, P + k * 2 + 1, none⟩ = some (.int .i64 (p k).hi) ∧ w'.cell? ⟨C, P + (k + 1) * 2, none⟩ = some (.int .i64 (p (k + 1)).lo) ∧ w'.cell? ⟨C, P + (k + 1) * 2 + 1, none⟩ = some (.int .i64 (p (k + 1)).hi)) := Lib.hid fun w' h => by
        have hh := hbw.trans (h.mono hbw.size)
        obtain ⟨z0, z1, z2, z3, _⟩ := BX.out _ hh
        obtain ⟨y0, y1⟩ := (HL.out _ hh).sp k (by omega)
        obtain ⟨y2, y3⟩ := (HL.out _ hh).sp (k + 1) (by omega)
        exact ⟨z2, y0, y1, y2, y3⟩
      obtain ⟨ha1, ha2, ha3⟩ := spanB_h (hP.out k (by omega))
      obtain ⟨hc1, hc2, hc3⟩ := spanB_h (hP.out (k + 1) (by omega))
      have e1 : presV ih (p k).lo (p (k + 1)).lo = (prOf il ih p k).hi := by simp only [presV, prOf, prHi]; omega
      have e2 : presV il (p k).hi (p (k + 1)).hi = (prOf il ih p k).lo := by simp only [presV, prOf, prLo]; omega
      clear ha3 hc3 hi3
      have n1 : (0 : Int) ≤ (k : Int) := by omega
      have n2 : (k : Int) < ((ll + 1 : Nat) : Int) := by omega
      have n3 : IntKind.i64.wrap ((k : Int) + 1) = (k : Int) + 1 := IntWalk.i64_in _ (by omega)
      have n4 : (0 : Int) ≤ (k : Int) + 1 := by omega
      have n5 : (k : Int) + 1 < ((ll + 1 : Nat) : Int) := by omega
      have n6 : ((k : Int) + 1).toNat = k + 1 := by omega
      have n8 : (k : Int) < (ll : Int) + 1 := by omega
      have n9 : (k : Int) + 1 < (ll : Int) + 1 := by omega
      have n10 : (k : Int) < (ll : Int) := by omega
      go_wp2
      go_region_held3 (fun w' => w'.cell? ⟨w.heap.size, 2, none⟩ = some (.slice (some ⟨C, P, none⟩) (ll + 1) cp) ∧ w'.cell? ⟨C, P + k * 2, none⟩ = some (.int .i64 (p k).lo) ∧ w'.cell? ⟨C, P + k * 2 + 1, none⟩ = some (.int .i64 (p k).hi) ∧ w'.cell? ⟨C, P + (k + 1) * 2, none⟩ = some (.int .i64 (p (k + 1)).lo) ∧ w'.cell? ⟨C, P + (k + 1) * 2 + 1, none⟩ = some (.int .i64 (p (k + 1)).hi))
        ((refine FY.out _ ?_; repeat (first | exact Below.refl _ _ | refine Below.setCell ?_ (by simp; try omega) _ | refine Below.alloc ?_ (by simp; try omega) _ | refine Below.drew ?_)))
        ((fail))
      · obtain ⟨W2, hW2⟩ : ∃ W2, W2 = ((wr.alloc (.cells #[.int .i64 (p k).lo, .int .i64 (p k).hi] 31)).alloc (.cells #[.int .i64 (p (k + 1)).lo, .int .i64 (p (k + 1)).hi] 31)).drew := ⟨_, rfl⟩
        have hz2 : W2.heap.size = wr.heap.size + 1 + 1 := by rw [hW2]; simp
        have hbr : Below wr.heap.size wr W2 := by rw [hW2]; repeat (first | exact Below.refl _ _ | refine Below.setCell ?_ (by simp; try omega) _ | refine Below.alloc ?_ (by simp; try omega) _ | refine Below.drew ?_)
        have hown2 := ((HOWN.out.alloc (.cells #[.int .i64 (p k).lo, .int .i64 (p k).hi] 31)).alloc (.cells #[.int .i64 (p (k + 1)).lo, .int .i64 (p (k + 1)).hi] 31)).drew
        rw [← hW2] at hown2
        have FZ : Hid (∀ w', Below W2.heap.size W2 w' → w'.cell? ⟨w.heap.size, 0, none⟩ = some (.int .i64 il) ∧ w'.cell? ⟨w.heap.size, 1, none⟩ = some (.int .i64 ih) ∧ w'.cell? ⟨wr.heap.size, 0, none⟩ = some (.int .i64 (p k).lo) ∧ w'.cell? ⟨wr.heap.size, 1, none⟩ = some (.int .i64 (p k).hi) ∧ w'.cell? ⟨wr.heap.size + 1, 0, none⟩ = some (.int .i64 (p (k + 1)).lo) ∧ w'.cell? ⟨wr.heap.size + 1, 1, none⟩ = some (.int .i64 (p (k + 1)).hi)) := Lib.hid fun w' h => by
          obtain ⟨x0, x1, _, _, _⟩ := BX.out _ (hbw.trans ((hbr.trans (h.mono hbr.size)).mono hbw.size))
          have q : ∀ b o, b < W2.heap.size → w'.cell? ⟨b, o, none⟩ = W2.cell? ⟨b, o, none⟩ := (bcell h).1
          exact ⟨x0, x1, (q _ _ (by omega)).trans (by rw [hW2]; simp), (q _ _ (by omega)).trans (by rw [hW2]; simp), (q _ _ (by omega)).trans (by rw [hW2]; simp), (q _ _ (by omega)).trans (by rw [hW2]; simp)⟩
        have FZ2 : Hid (∀ w' o row, (W2.drew.alloc o).grownBy w' row → some w.heap.size ≠ row → some wr.heap.size ≠ row → some (wr.heap.size + 1) ≠ row → w'.cell? ⟨w.heap.size, 0, none⟩ = some (.int .i64 il) ∧ w'.cell? ⟨w.heap.size, 1, none⟩ = some (.int .i64 ih) ∧ w'.cell? ⟨wr.heap.size, 0, none⟩ = some (.int .i64 (p k).lo) ∧ w'.cell? ⟨wr.heap.size, 1, none⟩ = some (.int .i64 (p k).hi) ∧ w'.cell? ⟨wr.heap.size + 1, 0, none⟩ = some (.int .i64 (p (k + 1)).lo) ∧ w'.cell? ⟨wr.heap.size + 1, 1, none⟩ = some (.int .i64 (p (k + 1)).hi)) := Lib.hid fun w' o row hg r0 r1 r2 => by
          have hz3 : (W2.drew.alloc o).heap.size = wr.heap.size + 1 + 1 + 1 := by simp; omega
          have hz4 : w.heap.size < wr.heap.size := x4
          obtain ⟨z0, z1, z2, z3, z4, z5⟩ := FZ.out (W2.drew.alloc o) ((Below.refl _ _).drew.alloc (Nat.le_refl _) _)
          exact ⟨(hg.cell_far _ (by simp only []; omega) r0).trans z0, (hg.cell_far _ (by simp only []; omega) r0).trans z1, (hg.cell_far _ (by simp only []; omega) (by assumption)).trans z2, (hg.cell_far _ (by simp only []; omega) (by assumption)).trans z3, (hg.cell_far _ (by simp only []; omega) (by assumption)).trans z4, (hg.cell_far _ (by simp only []; omega) (by assumption)).trans z5⟩
        rw [← hW2]
        clear hW2 x0 x1 x2 x3 y0 y1 y2 y3
        obtain ⟨x0, x1, y0, y1, y2, y3⟩ := FZ.out _ (Below.refl _ _)
        go_wp2
        go_region_held3 (fun w' => w'.cell? ⟨w.heap.size, 0, none⟩ = some (.int .i64 il) ∧ w'.cell? ⟨w.heap.size, 1, none⟩ = some (.int .i64 ih) ∧ w'.cell? ⟨wr.heap.size, 0, none⟩ = some (.int .i64 (p k).lo) ∧ w'.cell? ⟨wr.heap.size, 1, none⟩ = some (.int .i64 (p k).hi) ∧ w'.cell? ⟨wr.heap.size + 1, 0, none⟩ = some (.int .i64 (p (k + 1)).lo) ∧ w'.cell? ⟨wr.heap.size + 1, 1, none⟩ = some (.int .i64 (p (k + 1)).hi))
          ((first | exact hS | (refine FZ.out _ ?_; repeat (first | exact Below.refl _ _ | refine Below.alloc ?_ (by simp; try omega) _ | refine Below.drew ?_))))
          ((first
            | (go_at_call 23; refine (pressure_w _ _ _ _ (by assumption) (by assumption) (by assumption)).mono ?_; rintro e w' ⟨rfl, rfl⟩)
            | (refine step_append_lies _ rfl (.tmp 25) (.tmp 43) 38 rfl (w.heap.size + 1) 31 i0 _ 2 16 Tryz.underlying38 hi hz0 hz1 hz22 rfl (by decide) _ k _ rfl (hown2.drew.alloc _) ⟨_, 0, none⟩ 1 1 [.int .i64 (prOf il ih p k).lo, .int .i64 (prOf il ih p k).hi] rfl rfl (lies2 hz2 _ _ _) (by intro u hu; simp at hu; rcases hu with rfl | rfl <;> rfl) (by decide) (by unfold maxLen; omega) (by omega) (by simp; omega) _ rfl ?_; intro g cap w1 hown1 hgrow hat hlt9; have hS := FZ2.out _ _ _ hgrow (own_ne HOWN.out (.inl (by omega))) (own_ne HOWN.out (.inr (by omega))) (own_ne HOWN.out (.inr (by omega))))))
        go_wp2
        go_roundw
        case rel =>
          have hz5 : (w.alloc (.cells #[.int .i64 il, .int .i64 ih, .slice (some ⟨C, P, none⟩) (ll + 1) cp, .slice (some ⟨A, O, none⟩) ll cl] 40)).heap.size = w.heap.size + 1 := by simp
          have hbb := hbw.trans (hbr.mono hbw.size)
          exact ⟨k + 1, by omega, by go_num, hown1, (hbb.drew.alloc (by simp; omega) _).grown hgrow (by simp; omega) (fun r e => by rw [hz5]; exact own_ge HOWN.out r e)⟩
        case measure => simp [intOf]; omega
      · obtain ⟨W2, hW2⟩ : ∃ W2, W2 = ((wr.alloc (.cells #[.int .i64 (p (k + 1)).lo, .int .i64 (p (k + 1)).hi] 31)).alloc (.cells #[.int .i64 (p k).lo, .int .i64 (p k).hi] 31)).drew := ⟨_, rfl⟩
        have hz2 : W2.heap.size = wr.heap.size + 1 + 1 := by rw [hW2]; simp
        have hbr : Below wr.heap.size wr W2 := by rw [hW2]; repeat (first | exact Below.refl _ _ | refine Below.setCell ?_ (by simp; try omega) _ | refine Below.alloc ?_ (by simp; try omega) _ | refine Below.drew ?_)
        have hown2 := ((HOWN.out.alloc (.cells #[.int .i64 (p (k + 1)).lo, .int .i64 (p (k + 1)).hi] 31)).alloc (.cells #[.int .i64 (p k).lo, .int .i64 (p k).hi] 31)).drew
        rw [← hW2] at hown2
        have FZ : Hid (∀ w', Below W2.heap.size W2 w' → w'.cell? ⟨w.heap.size, 0, none⟩ = some (.int .i64 il) ∧ w'.cell? ⟨w.heap.size, 1, none⟩ = some (.int .i64 ih) ∧ w'.cell? ⟨wr.heap.size + 1, 0, none⟩ = some (.int .i64 (p k).lo) ∧ w'.cell? ⟨wr.heap.size + 1, 1, none⟩ = some (.int .i64 (p k).hi) ∧ w'.cell? ⟨wr.heap.size, 0, none⟩ = some (.int .i64 (p (k + 1)).lo) ∧ w'.cell? ⟨wr.heap.size, 1, none⟩ = some (.int .i64 (p (k + 1)).hi)) := Lib.hid fun w' h => by
          obtain ⟨x0, x1, _, _, _⟩ := BX.out _ (hbw.trans ((hbr.trans (h.mono hbr.size)).mono hbw.size))
          have q : ∀ b o, b < W2.heap.size → w'.cell? ⟨b, o, none⟩ = W2.cell? ⟨b, o, none⟩ := (bcell h).1
          exact ⟨x0, x1, (q _ _ (by omega)).trans (by rw [hW2]; simp), (q _ _ (by omega)).trans (by rw [hW2]; simp), (q _ _ (by omega)).trans (by rw [hW2]; simp), (q _ _ (by omega)).trans (by rw [hW2]; simp)⟩
        have FZ2 : Hid (∀ w' o row, (W2.drew.alloc o).grownBy w' row → some w.heap.size ≠ row → some wr.heap.size ≠ row → some (wr.heap.size + 1) ≠ row → w'.cell? ⟨w.heap.size, 0, none⟩ = some (.int .i64 il) ∧ w'.cell? ⟨w.heap.size, 1, none⟩ = some (.int .i64 ih) ∧ w'.cell? ⟨wr.heap.size + 1, 0, none⟩ = some (.int .i64 (p k).lo) ∧ w'.cell? ⟨wr.heap.size + 1, 1, none⟩ = some (.int .i64 (p k).hi) ∧ w'.cell? ⟨wr.heap.size, 0, none⟩ = some (.int .i64 (p (k + 1)).lo) ∧ w'.cell? ⟨wr.heap.size, 1, none⟩ = some (.int .i64 (p (k + 1)).hi)) := Lib.hid fun w' o row hg r0 r1 r2 => by
          have hz3 : (W2.drew.alloc o).heap.size = wr.heap.size + 1 + 1 + 1 := by simp; omega
          have hz4 : w.heap.size < wr.heap.size := x4
          obtain ⟨z0, z1, z2, z3, z4, z5⟩ := FZ.out (W2.drew.alloc o) ((Below.refl _ _).drew.alloc (Nat.le_refl _) _)
          exact ⟨(hg.cell_far _ (by simp only []; omega) r0).trans z0, (hg.cell_far _ (by simp only []; omega) r0).trans z1, (hg.cell_far _ (by simp only []; omega) (by assumption)).trans z2, (hg.cell_far _ (by simp only []; omega) (by assumption)).trans z3, (hg.cell_far _ (by simp only []; omega) (by assumption)).trans z4, (hg.cell_far _ (by simp only []; omega) (by assumption)).trans z5⟩
        rw [← hW2]
        clear hW2 x0 x1 x2 x3 y0 y1 y2 y3
        obtain ⟨x0, x1, y0, y1, y2, y3⟩ := FZ.out _ (Below.refl _ _)
        go_wp2
        go_region_held3 (fun w' => w'.cell? ⟨w.heap.size, 0, none⟩ = some (.int .i64 il) ∧ w'.cell? ⟨w.heap.size, 1, none⟩ = some (.int .i64 ih) ∧ w'.cell? ⟨wr.heap.size + 1, 0, none⟩ = some (.int .i64 (p k).lo) ∧ w'.cell? ⟨wr.heap.size + 1, 1, none⟩ = some (.int .i64 (p k).hi) ∧ w'.cell? ⟨wr.heap.size, 0, none⟩ = some (.int .i64 (p (k + 1)).lo) ∧ w'.cell? ⟨wr.heap.size, 1, none⟩ = some (.int .i64 (p (k + 1)).hi))
          ((first | exact hS | (refine FZ.out _ ?_; repeat (first | exact Below.refl _ _ | refine Below.alloc ?_ (by simp; try omega) _ | refine Below.drew ?_))))
          ((first
            | (go_at_call 23; refine (pressure_w _ _ _ _ (by assumption) (by assumption) (by assumption)).mono ?_; rintro e w' ⟨rfl, rfl⟩)
            | (refine step_append_lies _ rfl (.tmp 25) (.tmp 43) 38 rfl (w.heap.size + 1) 31 i0 _ 2 16 Tryz.underlying38 hi hz0 hz1 hz22 rfl (by decide) _ k _ rfl (hown2.drew.alloc _) ⟨_, 0, none⟩ 1 1 [.int .i64 (prOf il ih p k).lo, .int .i64 (prOf il ih p k).hi] rfl rfl (lies2 hz2 _ _ _) (by intro u hu; simp at hu; rcases hu with rfl | rfl <;> rfl) (by decide) (by unfold maxLen; omega) (by omega) (by simp; omega) _ rfl ?_; intro g cap w1 hown1 hgrow hat hlt9; have hS := FZ2.out _ _ _ hgrow (own_ne HOWN.out (.inl (by omega))) (own_ne HOWN.out (.inr (by omega))) (own_ne HOWN.out (.inr (by omega))))))
        go_wp2
        go_roundw
        case rel =>
          have hz5 : (w.alloc (.cells #[.int .i64 il, .int .i64 ih, .slice (some ⟨C, P, none⟩) (ll + 1) cp, .slice (some ⟨A, O, none⟩) ll cl] 40)).heap.size = w.heap.size + 1 := by simp
          have hbb := hbw.trans (hbr.mono hbw.size)
          exact ⟨k + 1, by omega, by go_num, hown1, (hbb.drew.alloc (by simp; omega) _).grown hgrow (by simp; omega) (fun r e => by rw [hz5]; exact own_ge HOWN.out r e)⟩
        case measure => simp [intOf]; omega
    · go_wp2
      go_ret
      obtain rfl : k = ll := by omega
      exact ⟨⟨_, rfl, HOWN.out⟩, below_al hbw⟩
end Go.Kn

namespace Go.Kn
open Go Go.Proofs Go.RowKit

theorem rpress2_w (il ih : Int) (C P cp A O ll cl : Nat) (p : Nat → Sp2) (l : Nat → Int) (w : World) (H : Hid (SipAt w C P (ll + 1) A O ll il ih p l)) :
    Calls Tryz.prog 98 #[.agg #[.int .i64 il, .int .i64 ih, .slice (some ⟨C, P, none⟩) (ll + 1) cp, .slice (some ⟨A, O, none⟩) ll cl]] w
      fun e w' => (∃ g cap, e = .returned (.slice (some ⟨g, 0, none⟩) ll cap) ∧ w.heap.size ≤ g ∧ g < w'.heap.size ∧ SpAt w' g 0 ll (prOf il ih p)) ∧ Below w.heap.size w w' :=
  (rpress_w il ih C P cp A O ll cl p l w H).mono (by
    rintro e w' ⟨⟨v, rfl, hown⟩, hb⟩
    refine ⟨?_, hb⟩
    have q1 := H.out.lp1
    have h2 := hown
    rcases h2.2 with ⟨_, h0⟩ | ⟨g, cap, cur, rfl, hbg, hg, _⟩
    · omega
    · exact ⟨g, cap, rfl, by omega, (Array.getElem?_eq_some_iff.1 hg).1, spAt_of_owns hown⟩)

end Go.Kn

namespace Go.Kn
open Go Go.Proofs Go.RowKit

structure Cl3 where
  be : Int
  pr : Int
  st : Int
def ClAt (w : World) (C P n : Nat) (c : Nat → Cl3) : Prop := ∀ i, i < n → w.cell? ⟨C, P + i * 3, none⟩ = some (.int .i64 (c i).be) ∧ w.cell? ⟨C, P + i * 3 + 1, none⟩ = some (.int .i64 (c i).pr) ∧ w.cell? ⟨C, P + i * 3 + 2, none⟩ = some (.int .i64 (c i).st)
theorem ClAt.below {w w1 : World} {C P n : Nat} {c : Nat → Cl3} (h : ClAt w C P n c) (hC : C < w.heap.size) (hb : Below w.heap.size w w1) : ClAt w1 C P n c := by
  intro i hi
  obtain ⟨h0, h1, h2⟩ := h i hi
  have e : ∀ o, w1.cell? ⟨C, o, none⟩ = w.cell? ⟨C, o, none⟩ := fun o => hb.cell (p := ⟨C, o, none⟩) hC
  exact ⟨(e _).trans h0, (e _).trans h1, (e _).trans h2⟩
def ClSl (w : World) (ka : Option Addr) (n : Nat) (c : Nat → Cl3) : Prop := n = 0 ∨ ∃ C P, ka = some ⟨C, P, none⟩ ∧ C < w.heap.size ∧ ClAt w C P n c
theorem ClSl.below {w w1 : World} {ta : Option Addr} {lt : Nat} {t : Nat → Cl3} (h : ClSl w ta lt t) (hb : Below w.heap.size w w1) : ClSl w1 ta lt t := by
  rcases h with h | ⟨A, O, h1, h2, h3⟩
  · exact .inl h
  · exact .inr ⟨A, O, h1, Nat.lt_of_lt_of_le h2 hb.size, h3.below h2 hb⟩
def clB (x : Cl3) : Bool := decide (1 ≤ x.be ∧ x.be ≤ 1000 ∧ 0 ≤ x.pr ∧ x.pr ≤ 100 ∧ 0 ≤ x.st ∧ x.st ≤ 1000)
def ClOk (n : Nat) (c : Nat → Cl3) : Prop := ∀ i, i < n → clB (c i) = true
structure ClsP (n : Nat) (c : Nat → Cl3) : Prop where
  n1 : 1 ≤ n
  n2 : n ≤ 4
  ok : ClOk n c

set_option maxHeartbeats 1000000 in
theorem isCl_w (be pr st : Int) (w : World) :
    Calls Tryz.prog 91 #[.agg #[.int .i64 be, .int .i64 pr, .int .i64 st]] w fun e w' => e = .returned (.bool (clB ⟨be, pr, st⟩)) ∧ Below w.heap.size w w' := by
  cases h1 : fromB 1 1000 be
  case false =>
    go_enter Tryz.func91, Tryz.ntmps91
    go_wp2_with (go_at_call 70; refine (isFrom_w _ _ _ _).mono ?_; rintro e w' ⟨rfl, rfl⟩)
    go_ret
    refine ⟨?_, (Below.refl _ _).alloc (Nat.le_refl _) _⟩
    have := fromB_f h1
    rw [show clB ⟨be, pr, st⟩ = false from by simp only [clB, decide_eq_false_iff_not]; omega]; rfl
  cases h2 : fromB 0 100 pr
  case false =>
    go_enter Tryz.func91, Tryz.ntmps91
    go_wp2_with (go_at_call 70; refine (isFrom_w _ _ _ _).mono ?_; rintro e w' ⟨rfl, rfl⟩)
    go_ret
    refine ⟨?_, (Below.refl _ _).alloc (Nat.le_refl _) _⟩
    have := fromB_f h2
    rw [show clB ⟨be, pr, st⟩ = false from by simp only [clB, decide_eq_false_iff_not]; omega]; rfl
  go_enter Tryz.func91, Tryz.ntmps91
  go_wp2_with (go_at_call 70; refine (isFrom_w _ _ _ _).mono ?_; rintro e w' ⟨rfl, rfl⟩)
  go_ret
  refine ⟨?_, (Below.refl _ _).alloc (Nat.le_refl _) _⟩
  have e1 := fromB_tt h1
  have e2 := fromB_tt h2
  have : fromB 0 1000 st = clB ⟨be, pr, st⟩ := by simp only [fromB, clB]; rw [decide_eq_decide]; omega
  rw [← this]; rfl
set_option maxHeartbeats 1000000 in
theorem notCl_w (B : Nat) (be pr st : Int) (w : World) (hBw : B < w.heap.size) (hB : w.cell? ⟨B, 0, none⟩ = some (.func (.func 91) #[] #[])) :
    Calls Tryz.prog 117 #[.agg #[.int .i64 be, .int .i64 pr, .int .i64 st], .pointer (some ⟨B, 0, none⟩)] w fun e w' => e = .returned (.bool (!clB ⟨be, pr, st⟩)) ∧ Below w.heap.size w w' := by
  have hal2 : ∀ (o : Obj) (k : Nat), (w.alloc o).cell? ⟨B, k, none⟩ = w.cell? ⟨B, k, none⟩ := fun o k => World.cell?_alloc_lt w o _ hBw
  go_enter Tryz.func117, Tryz.ntmps117
  go_wp2_with (go_at_call 91; refine (isCl_w _ _ _ _).mono ?_; rintro e w' ⟨rfl, hbl⟩)
  go_ret
  exact ⟨rfl, below_al hbl⟩

set_option maxRecDepth 100000 in
set_option maxHeartbeats 2000000 in
theorem idxCl_w (C P lt ct B : Nat) (p : Nat → Cl3) (w : World) (hlt : lt ≤ 1000000) (hC : C < w.heap.size) (hBw : B < w.heap.size) (hB : w.cell? ⟨B, 0, none⟩ = some (.func (.func 91) #[] #[])) (ht : ClAt w C P lt p) :
    Calls Tryz.prog 129 #[.slice (some ⟨C, P, none⟩) lt ct, .func (.func 117) #[] #[.pointer (some ⟨B, 0, none⟩)]] w
      fun e w' => (∃ i : Int, e = .returned (.int .i64 i) ∧ ((i < 0 ∧ ClOk lt p) ∨ (0 ≤ i ∧ ¬ ClOk lt p))) ∧ Below w.heap.size w w' := by
  have HT := Lib.hid ht
  clear ht
  go_enter Tryz.func129, Tryz.ntmps129
  go_wp2
  go_loopw [8] (fun i wr => ∃ k : Nat, k ≤ lt ∧ i = .int .i64 k ∧ Below w.heap.size w wr ∧ (∀ j, j < k → clB (p j) = true)) (fun i _ => lt - (intOf i).toNat)
  case atStart => exact ⟨0, Nat.zero_le _, rfl, Below.refl _ _, fun j hj => absurd hj (by omega)⟩
  case round =>
    obtain ⟨k, hk, rfl, hbw, hall⟩ := hrel
    have HALL := Lib.hid hall
    clear hall
    by_cases hlt' : k < lt
    · obtain ⟨c0, c1, c2⟩ := HT.out.below hC hbw k hlt'
      have mB : wr.cell? ⟨B, 0, none⟩ = some (.func (.func 91) #[] #[]) := (hbw.cell (p := ⟨B, 0, none⟩) hBw).trans hB
      have hz : w.heap.size ≤ wr.heap.size := hbw.size
      cases hv : clB (p k)
      · go_wp2_with (go_at_call 117; refine (notCl_w _ _ _ _ _ (by omega) mB).mono ?_; rintro e w1 ⟨rfl, hb1⟩)
        go_ret
        exact ⟨⟨_, rfl, .inr ⟨by omega, fun h => by have h2 := h k hlt'; rw [hv] at h2; cases h2⟩⟩, hbw.trans (hb1.mono hz)⟩
      · go_wp2_with (go_at_call 117; refine (notCl_w _ _ _ _ _ (by omega) mB).mono ?_; rintro e w1 ⟨rfl, hb1⟩)
        go_roundw
        case rel => exact ⟨k + 1, by omega, by go_num, hbw.trans (hb1.mono hz), fun j hj => by
          rcases Nat.lt_succ_iff_lt_or_eq.1 hj with h | h
          · exact HALL.out j h
          · rw [h]; exact hv⟩
        case measure => simp [intOf]; omega
    · go_wp2
      go_ret
      exact ⟨⟨_, rfl, .inl ⟨by omega, fun j hj => HALL.out j (by omega)⟩⟩, hbw⟩

set_option maxRecDepth 100000 in
set_option maxHeartbeats 2000000 in
theorem contCl_w (C P lt ct B : Nat) (p : Nat → Cl3) (w : World) (hlt : lt ≤ 1000000) (hC : C < w.heap.size) (hBw : B < w.heap.size) (hB : w.cell? ⟨B, 0, none⟩ = some (.func (.func 91) #[] #[])) (ht : ClAt w C P lt p) :
    Calls Tryz.prog 116 #[.slice (some ⟨C, P, none⟩) lt ct, .func (.func 117) #[] #[.pointer (some ⟨B, 0, none⟩)]] w
      fun e w' => (∃ cb : Bool, e = .returned (.bool cb) ∧ (cb = false ↔ ClOk lt p)) ∧ Below w.heap.size w w' := by
  have HT := Lib.hid ht
  clear ht
  go_enter Tryz.func116, Tryz.ntmps116
  go_wp2_with (go_at_call 129; refine (idxCl_w _ _ _ _ _ p _ hlt hC hBw hB HT.out).mono ?_; rintro e w1 ⟨⟨i, rfl, hi⟩, hb1⟩; have HI := Lib.hid hi; clear hi)
  go_ret
  refine ⟨⟨decide (0 ≤ i), rfl, ?_⟩, hb1⟩
  rcases HI.out with ⟨h1, h2⟩ | ⟨h1, h2⟩
  · exact ⟨fun _ => h2, fun _ => decide_eq_false (by omega)⟩
  · exact ⟨fun h => by have := of_decide_eq_false h; omega, fun h => (h2 h).elim⟩

set_option maxRecDepth 100000 in
set_option maxHeartbeats 2000000 in
theorem allCl_w (C P lt ct : Nat) (p : Nat → Cl3) (w : World) (hlt : lt ≤ 1000000) (hC : C < w.heap.size) (ht : ClAt w C P lt p) :
    Calls Tryz.prog 90 #[.slice (some ⟨C, P, none⟩) lt ct, .func (.func 91) #[] #[]] w
      fun e w' => (∃ rb : Bool, e = .returned (.bool rb) ∧ (rb = true ↔ ClOk lt p)) ∧ Below w.heap.size w w' := by
  have HT : Hid (∀ o : Obj, ClAt (w.alloc o) C P lt p) := Lib.hid fun o => ht.below hC ((Below.refl _ _).alloc (Nat.le_refl _) _)
  clear ht
  go_enter Tryz.func90, Tryz.ntmps90
  go_wp2_with (go_at_call 116; refine (contCl_w _ _ _ _ _ p _ hlt (by simp; omega) (by simp) (cell_newL _ _ _) (HT.out _)).mono ?_; rintro e w1 ⟨⟨cb, rfl, hcb⟩, hb1⟩; have HC := Lib.hid hcb; clear hcb)
  go_ret
  refine ⟨⟨!cb, rfl, ?_⟩, below_al hb1⟩
  rw [← HC.out]; cases cb <;> simp

set_option maxRecDepth 100000 in
set_option maxHeartbeats 2000000 in
theorem areCl_w (ka : Option Addr) (lk ck : Nat) (c : Nat → Cl3) (w : World) (hlk : lk ≤ 1000000) (H : Hid (ClSl w ka lk c)) :
    Calls Tryz.prog 55 #[.slice ka lk ck] w fun e w' => (∃ rb : Bool, e = .returned (.bool rb) ∧ (rb = true ↔ ClsP lk c)) ∧ Below w.heap.size w w' := by
  cases f2 : fromB 1 4 (lk : Int)
  case false =>
    go_enter Tryz.func55, Tryz.ntmps55
    go_wp2_with (go_at_call 70; refine (isFrom_w _ _ _ _).mono ?_; rw [f2]; rintro e w' ⟨rfl, rfl⟩)
    go_ret
    exact ⟨⟨false, rfl, no_iff' (fun h => by have := h.n1; have := h.n2; simp only [fromB, decide_eq_false_iff_not] at f2; omega)⟩, Below.refl _ _⟩
  have g2 : 1 ≤ lk ∧ lk ≤ 4 := by simp only [fromB, decide_eq_true_eq] at f2; omega
  obtain ⟨C, P, rfl, hC, hc⟩ := H.out.resolve_left (by omega)
  have HC := Lib.hid hc
  clear hc
  go_enter Tryz.func55, Tryz.ntmps55
  go_wp2_with (first
    | (go_at_call 70; refine (isFrom_w _ _ _ _).mono ?_; rw [f2]; rintro e w' ⟨rfl, rfl⟩)
    | (go_at_call 90; refine (allCl_w _ _ _ _ c _ hlk hC HC.out).mono ?_; rintro e w1 ⟨⟨rb, rfl, hrb⟩, hb1⟩; have HR := Lib.hid hrb; clear hrb))
  go_ret
  exact ⟨⟨rb, rfl, HR.out.trans ⟨fun h => ⟨g2.1, g2.2, h⟩, fun h => h.ok⟩⟩, hb1⟩

set_option maxRecDepth 100000 in
set_option maxHeartbeats 4000000 in
theorem rcls_w (ka : Option Addr) (lk ck : Nat) (c : Nat → Cl3) (w : World) (hlk : lk ≤ 1000000) (H : Hid (ClSl w ka lk c)) :
    Calls Tryz.prog 18 #[.slice ka lk ck] w fun e w' => (∃ rb : Bool, e = .returned (.bool rb) ∧ (rb = true ↔ ClsP lk c)) ∧ w = w' := by
  go_enter Tryz.func18, Tryz.ntmps18
  go_wp2
  go_loop [3] (fun i => ∃ k : Nat, k ≤ lk ∧ i = .int .i64 k ∧ ∀ j, j < k → clB (c j) = true) (fun i => lk - (intOf i).toNat)
  case atStart => exact ⟨0, Nat.zero_le _, rfl, fun j hj => absurd hj (by omega)⟩
  case round =>
    obtain ⟨k, hk, rfl, hall⟩ := hrel
    have HALL := Lib.hid hall
    clear hall
    by_cases hlt : k < lk
    · obtain ⟨C, P, rfl, hC, hc⟩ := H.out.resolve_left (by omega)
      obtain ⟨y0, y1, y2⟩ := hc k hlt
      clear hc
      cases g1 : fromB 1 1000 (c k).be
      · go_wp2_with (go_at_call 50; refine (in_w _ _ _ _).mono ?_; rintro e w1 ⟨rfl, rfl⟩)
        go_ret
        exact ⟨⟨false, rfl, no_iff' (fun h => by have h1 := h.ok k hlt; have := fromB_f g1; simp only [clB, decide_eq_true_eq] at h1; omega)⟩, rfl⟩
      cases g2 : fromB 0 100 (c k).pr
      · go_wp2_with (go_at_call 50; refine (in_w _ _ _ _).mono ?_; rintro e w1 ⟨rfl, rfl⟩)
        go_ret
        exact ⟨⟨false, rfl, no_iff' (fun h => by have h1 := h.ok k hlt; have := fromB_f g2; simp only [clB, decide_eq_true_eq] at h1; omega)⟩, rfl⟩
      cases g3 : fromB 0 1000 (c k).st
      · go_wp2_with (go_at_call 50; refine (in_w _ _ _ _).mono ?_; rintro e w1 ⟨rfl, rfl⟩)
        go_ret
        exact ⟨⟨false, rfl, no_iff' (fun h => by have h1 := h.ok k hlt; have := fromB_f g3; simp only [clB, decide_eq_true_eq] at h1; omega)⟩, rfl⟩
      · go_wp2_with (go_at_call 50; refine (in_w _ _ _ _).mono ?_; rintro e w1 ⟨rfl, rfl⟩)
        go_round
        case rel => exact ⟨k + 1, by omega, by go_num, fun j hj => by
          rcases Nat.lt_succ_iff_lt_or_eq.1 hj with h | h
          · exact HALL.out j h
          · rw [h]; have a := fromB_tt g1; have b := fromB_tt g2; have d := fromB_tt g3; simp only [clB, decide_eq_true_eq]; omega⟩
        case measure => simp [intOf]; omega
    · have HOK : Hid (ClOk lk c) := Lib.hid fun j hj => HALL.out j (by omega)
      go_wp2_with (go_at_call 50; refine (in_w _ _ _ _).mono ?_; rintro e w1 ⟨rfl, rfl⟩)
      go_ret
      refine ⟨⟨fromB 1 4 (lk : Int), rfl, ?_⟩, rfl⟩
      simp only [fromB, decide_eq_true_eq]
      exact ⟨fun h => ⟨by omega, by omega, HOK.out⟩, fun h => by have := h.n1; have := h.n2; omega⟩
end Go.Kn

namespace Go.Kn
open Go Go.Proofs Go.RowKit

set_option maxHeartbeats 400000 in
theorem isCh_w (n : Int) (X lk ck : Nat) (ka : Option Addr) (hlk : lk ≤ 1000000) (w : World) (hX : w.cell? ⟨X, 0, none⟩ = some (.slice ka lk ck)) :
    Calls Tryz.prog 92 #[.int .i64 n, .pointer (some ⟨X, 0, none⟩)] w fun e w' => e = .returned (.bool (fromB 0 ((lk : Int) - 1) n)) ∧ w = w' := by
  go_enter Tryz.func92, Tryz.ntmps92
  go_wp2_with (go_at_call 70; refine (isFrom_w _ _ _ _).mono ?_; rintro e w' ⟨rfl, rfl⟩)
  go_ret
  exact ⟨rfl, rfl⟩

set_option maxHeartbeats 400000 in
theorem notCh_w (B : Nat) (x : Int) (X lk ck : Nat) (ka : Option Addr) (hlk : lk ≤ 1000000) (w : World) (hX : w.cell? ⟨X, 0, none⟩ = some (.slice ka lk ck)) (hB : w.cell? ⟨B, 0, none⟩ = some (.func (.func 92) #[] #[.pointer (some ⟨X, 0, none⟩)])) :
    Calls Tryz.prog 110 #[.int .i64 x, .pointer (some ⟨B, 0, none⟩)] w fun e w' => e = .returned (.bool (!fromB 0 ((lk : Int) - 1) x)) ∧ w = w' := by
  go_enter Tryz.func110, Tryz.ntmps110
  go_wp2_with (go_at_call 92; refine (isCh_w _ _ _ _ _ hlk _ hX).mono ?_; rintro e w1 ⟨rfl, rfl⟩)
  go_ret
  exact ⟨rfl, rfl⟩

set_option maxRecDepth 100000 in
set_option maxHeartbeats 1000000 in
theorem idxCh_w (A O ls cs B : Nat) (s : Nat → Int) (X lk ck : Nat) (ka : Option Addr) (hlk : lk ≤ 1000000) (w : World) (hX : w.cell? ⟨X, 0, none⟩ = some (.slice ka lk ck)) (hls : ls ≤ maxLen) (hB : w.cell? ⟨B, 0, none⟩ = some (.func (.func 92) #[] #[.pointer (some ⟨X, 0, none⟩)]))
    (hA : ∀ i, i < ls → w.cell? ⟨A, O + i, none⟩ = some (.int .i64 (s i))) :
    Calls Tryz.prog 126 #[.slice (some ⟨A, O, none⟩) ls cs, .func (.func 110) #[] #[.pointer (some ⟨B, 0, none⟩)]] w
      fun e w' => (∃ i : Int, e = .returned (.int .i64 i) ∧ ((i < 0 ∧ ∀ k, k < ls → fromB 0 ((lk : Int) - 1) (s k) = true) ∨ (0 ≤ i ∧ ∃ k, k < ls ∧ fromB 0 ((lk : Int) - 1) (s k) = false))) ∧ w = w' := by
  unfold maxLen at hls
  go_enter Tryz.func126, Tryz.ntmps126
  go_wp2
  go_loop [8] (fun i => ∃ k : Nat, k ≤ ls ∧ i = .int .i64 k ∧ ∀ j, j < k → fromB 0 ((lk : Int) - 1) (s j) = true) (fun i => ls - (intOf i).toNat)
  case atStart => exact ⟨0, Nat.zero_le _, rfl, fun j hj => absurd hj (by omega)⟩
  case round =>
    obtain ⟨k, hk, rfl, hall⟩ := hrel
    have HA := Lib.hid hall
    clear hall
    by_cases hlt : k < ls
    · have hcell := hA k hlt
      clear hA
      cases hv : fromB 0 ((lk : Int) - 1) (s k)
      · go_wp2_with (go_at_call 110; refine (notCh_w _ _ _ _ _ _ hlk _ hX hB).mono ?_; rintro e w1 ⟨rfl, rfl⟩)
        go_ret
        exact ⟨⟨_, rfl, .inr ⟨by omega, k, hlt, hv⟩⟩, rfl⟩
      · go_wp2_with (go_at_call 110; refine (notCh_w _ _ _ _ _ _ hlk _ hX hB).mono ?_; rintro e w1 ⟨rfl, rfl⟩)
        go_round
        case rel => exact ⟨k + 1, by omega, by go_num, fun j hj => by
          rcases Nat.lt_succ_iff_lt_or_eq.1 hj with h | h
          · exact HA.out j h
          · rw [h]; exact hv⟩
        case measure => simp [intOf]; omega
    · clear hA
      go_wp2
      go_ret
      exact ⟨⟨_, rfl, .inl ⟨by omega, fun j hj => HA.out j (by omega)⟩⟩, rfl⟩

set_option maxRecDepth 100000 in
set_option maxHeartbeats 1000000 in
theorem contCh_w (A O ls cs B : Nat) (s : Nat → Int) (X lk ck : Nat) (ka : Option Addr) (hlk : lk ≤ 1000000) (w : World) (hX : w.cell? ⟨X, 0, none⟩ = some (.slice ka lk ck)) (hls : ls ≤ maxLen) (hB : w.cell? ⟨B, 0, none⟩ = some (.func (.func 92) #[] #[.pointer (some ⟨X, 0, none⟩)]))
    (hA : ∀ i, i < ls → w.cell? ⟨A, O + i, none⟩ = some (.int .i64 (s i))) :
    Calls Tryz.prog 109 #[.slice (some ⟨A, O, none⟩) ls cs, .func (.func 110) #[] #[.pointer (some ⟨B, 0, none⟩)]] w
      fun e w' => (∃ cb : Bool, e = .returned (.bool cb) ∧ (cb = false ↔ ∀ k, k < ls → fromB 0 ((lk : Int) - 1) (s k) = true)) ∧ w = w' := by
  have HA := Lib.hid hA
  clear hA
  go_enter Tryz.func109, Tryz.ntmps109
  go_wp2_with (go_at_call 126; refine (idxCh_w _ _ _ _ _ s _ _ _ _ hlk _ hX hls hB HA.out).mono ?_; rintro e w1 ⟨⟨i, rfl, hi⟩, rfl⟩; have HI := Lib.hid hi; clear hi)
  go_ret
  refine ⟨⟨decide (0 ≤ i), rfl, ?_⟩, rfl⟩
  rcases HI.out with ⟨h1, h2⟩ | ⟨h1, k, h2, h3⟩
  · exact ⟨fun _ => h2, fun _ => decide_eq_false (by omega)⟩
  · exact ⟨fun h => by have := of_decide_eq_false h; omega, fun h => by rw [h k h2] at h3; cases h3⟩

set_option maxRecDepth 100000 in
set_option maxHeartbeats 1000000 in
theorem allCh_w (A O ls cs : Nat) (s : Nat → Int) (X lk ck : Nat) (ka : Option Addr) (hlk : lk ≤ 1000000) (w : World) (hXw : X < w.heap.size) (hX : w.cell? ⟨X, 0, none⟩ = some (.slice ka lk ck)) (hls : ls ≤ maxLen) (hAw : A < w.heap.size)
    (hA : ∀ i, i < ls → w.cell? ⟨A, O + i, none⟩ = some (.int .i64 (s i))) :
    Calls Tryz.prog 78 #[.slice (some ⟨A, O, none⟩) ls cs, .func (.func 92) #[] #[.pointer (some ⟨X, 0, none⟩)]] w
      fun e w' => (∃ rb : Bool, e = .returned (.bool rb) ∧ (rb = true ↔ ∀ k, k < ls → fromB 0 ((lk : Int) - 1) (s k) = true)) ∧ Below w.heap.size w w' := by
  have HA : Hid (∀ (o : Obj) (i : Nat), i < ls → (w.alloc o).cell? ⟨A, O + i, none⟩ = some (.int .i64 (s i))) := Lib.hid (fun o i hi => (World.cell?_alloc_lt w o _ hAw).trans (hA i hi))
  have hXA : ∀ o : Obj, (w.alloc o).cell? ⟨X, 0, none⟩ = some (.slice ka lk ck) := fun o => (World.cell?_alloc_lt w o _ hXw).trans hX
  clear hA
  go_enter Tryz.func78, Tryz.ntmps78
  go_wp2_with (go_at_call 109; refine (contCh_w _ _ _ _ _ s _ _ _ _ hlk _ (hXA _) hls (cell_newL _ _ _) (HA.out _)).mono ?_; rintro e w1 ⟨⟨cb, rfl, hcb⟩, rfl⟩; have HC := Lib.hid hcb; clear hcb)
  go_ret
  refine ⟨⟨!cb, rfl, ?_⟩, (Below.refl _ _).alloc (Nat.le_refl _) _⟩
  rw [← HC.out]; cases cb <;> simp
end Go.Kn

namespace Go.Kn
open Go Go.Proofs Go.RowKit

structure ChoP (lk ll lq : Nat) (s : Nat → Int) : Prop where
  eq : lq = ll
  ok : ∀ i, i < lq → fromB 0 ((lk : Int) - 1) (s i) = true

set_option maxRecDepth 100000 in
set_option maxHeartbeats 2000000 in
theorem isChoice_w (il ih : Value) (pv : Value) (la ka sq : Option Addr) (ll cl lk ck lq cq : Nat) (s : Nat → Int) (w : World) (hll : 1 ≤ ll ∧ ll ≤ 1000000) (hlk : lk ≤ 1000000) (hlq : lq ≤ maxLen) (HS : Hid (IntSl w sq lq s)) :
    Calls Tryz.prog 56 #[.agg #[il, ih, pv, .slice la ll cl], .slice ka lk ck, .slice sq lq cq] w fun e w' => (∃ rb : Bool, e = .returned (.bool rb) ∧ (rb = true ↔ ChoP lk ll lq s)) ∧ Below w.heap.size w w' := by
  unfold maxLen at hlq
  by_cases h : lq = ll
  case neg =>
    have h3 : ((lq : Int) == (ll : Int)) = false := by simp; omega
    go_enter Tryz.func56, Tryz.ntmps56
    go_wp2
    go_ret
    first
      | exact ⟨⟨false, rfl, no_iff' (fun hh => h hh.eq)⟩, ((Below.refl _ _).alloc (Nat.le_refl _) _).alloc (by simp) _⟩
      | exact ⟨.inl ⟨rfl, fun hh => h hh.eq⟩, ((Below.refl _ _).alloc (Nat.le_refl _) _).alloc (by simp) _⟩
  subst h
  obtain ⟨D, F, rfl, hD, hs⟩ := HS.out.resolve_left (by omega)
  have HD : Hid (∀ o o' : Obj, NumAt ((w.alloc o).alloc o') D F lq s) := Lib.hid fun o o' => hs.below hD (((Below.refl _ _).alloc (Nat.le_refl _) _).alloc (by simp) _)
  clear hs
  go_enter Tryz.func56, Tryz.ntmps56
  go_wp2_with (go_at_call 78; refine (allCh_w _ _ _ _ s (w.heap.size + 1) lk ck ka hlk _ (by simp) (by simp) (by unfold maxLen; omega) (by simp; omega) (HD.out _ _)).mono ?_; rintro e w1 ⟨⟨rb, rfl, hrb⟩, hb1⟩; have HR := Lib.hid hrb; clear hrb)
  go_ret
  exact ⟨⟨rb, rfl, HR.out.trans ⟨fun h => ⟨rfl, h⟩, fun h => h.ok⟩⟩, (((Below.refl _ _).alloc (Nat.le_refl _) _).alloc (by simp) _).trans (hb1.mono (by simp; omega))⟩

set_option maxRecDepth 100000 in
set_option maxHeartbeats 2000000 in
theorem rchosen_w (il ih : Value) (pv : Value) (la ka sq : Option Addr) (ll cl lk ck lq cq : Nat) (s : Nat → Int) (w : World) (hll : ll ≤ 1000000) (hlk : lk ≤ 1000000) (hlq : lq ≤ maxLen) (HS : Hid (IntSl w sq lq s)) :
    Calls Tryz.prog 19 #[.agg #[il, ih, pv, .slice la ll cl], .slice ka lk ck, .slice sq lq cq] w fun e w' => (∃ rb : Bool, e = .returned (.bool rb) ∧ (rb = true ↔ ChoP lk ll lq s)) ∧ Below w.heap.size w w' := by
  unfold maxLen at hlq
  go_enter Tryz.func19, Tryz.ntmps19
  go_wp2
  go_loop [7] (fun i => ∃ k : Nat, k ≤ lq ∧ i = .int .i64 k ∧ ∀ j, j < k → fromB 0 ((lk : Int) - 1) (s j) = true) (fun i => lq - (intOf i).toNat)
  case atStart => exact ⟨0, Nat.zero_le _, rfl, fun j hj => absurd hj (by omega)⟩
  case round =>
    obtain ⟨k, hk, rfl, hall⟩ := hrel
    have HALL := Lib.hid hall
    clear hall
    by_cases hlt : k < lq
    · obtain ⟨D, F, rfl, hD, hs⟩ := HS.out.resolve_left (by omega)
      have y0 := (World.cell?_alloc_lt w (.cells #[il, ih, pv, .slice la ll cl] 40) ⟨D, F + k, none⟩ hD).trans (hs k hlt)
      clear hs
      cases hv : fromB 0 ((lk : Int) - 1) (s k)
      · go_wp2_with (go_at_call 50; refine (in_w _ _ _ _).mono ?_; rw [hv]; rintro e w1 ⟨rfl, rfl⟩)
        go_ret
        exact ⟨⟨false, rfl, no_iff' (fun h => by rw [h.ok k hlt] at hv; exact Bool.noConfusion hv)⟩, (Below.refl _ _).alloc (Nat.le_refl _) _⟩
      · go_wp2_with (go_at_call 50; refine (in_w _ _ _ _).mono ?_; rw [hv]; rintro e w1 ⟨rfl, rfl⟩)
        go_round
        case rel => exact ⟨k + 1, by omega, by go_num, fun j hj => by
          rcases Nat.lt_succ_iff_lt_or_eq.1 hj with h | h
          · exact HALL.out j h
          · rw [h]; exact hv⟩
        case measure => simp [intOf]; omega
    · have HOK : Hid (∀ i, i < lq → fromB 0 ((lk : Int) - 1) (s i) = true) := Lib.hid fun j hj => HALL.out j (by omega)
      by_cases e : lq = ll
      · have h3 : ((lq : Int) == (ll : Int)) = true := by simp; omega
        have E := Lib.hid e
        clear e
        go_wp2
        go_ret
        first
          | exact ⟨⟨true, rfl, fun _ => ⟨E.out, HOK.out⟩, fun _ => rfl⟩, (Below.refl _ _).alloc (Nat.le_refl _) _⟩
          | exact ⟨.inr ⟨rfl, E.out, HOK.out⟩, (Below.refl _ _).alloc (Nat.le_refl _) _⟩
      · have h3 : ((lq : Int) == (ll : Int)) = false := by simp; omega
        go_wp2
        go_ret
        first
          | exact ⟨⟨false, rfl, no_iff' (fun hh => e hh.eq)⟩, (Below.refl _ _).alloc (Nat.le_refl _) _⟩
          | exact ⟨.inl ⟨rfl, fun hh => e hh.eq⟩, (Below.refl _ _).alloc (Nat.le_refl _) _⟩

set_option maxHeartbeats 1000000 in
theorem canBurst_w (be pr st lo hi : Int) (w : World) :
    Calls Tryz.prog 58 #[.agg #[.int .i64 be, .int .i64 pr, .int .i64 st], .agg #[.int .i64 lo, .int .i64 hi]] w fun e w' => e = .returned (.bool (decide (be < hi))) ∧ Below w.heap.size w w' := by
  go_enter Tryz.func58, Tryz.ntmps58
  go_wp2
  go_ret
  exact ⟨rfl, ((Below.refl _ _).alloc (Nat.le_refl _) _).alloc (by simp) _⟩

theorem intSl_of_owns {w : World} {base n : Nat} {v : Value} {xs : List Int} (h : w.ownsRow base 3 1 v n (xs.map (Value.int .i64))) :
    ∃ sa cap, v = .slice sa n cap ∧ n = xs.length ∧ IntSl w sa n (fun i => xs.getD i 0) := by
  have hl : n = xs.length := by have := h.1; simp at this; omega
  rcases h.2 with ⟨rfl, rfl⟩ | ⟨g, cap, cur, rfl, hb, hg, hn, hc, hs, hx⟩
  · exact ⟨none, 0, rfl, hl, .inl rfl⟩
  · refine ⟨_, cap, rfl, hl, ?_⟩
    by_cases h0 : n = 0
    · exact .inl h0
    refine .inr ⟨g, 0, rfl, (Array.getElem?_eq_some_iff.1 hg).1, fun i hi => ?_⟩
    have hj : (xs.map (Value.int .i64))[i]? = some (.int .i64 (xs.getD i 0)) := by
      have hi' : i < xs.length := by omega
      simp [List.getD, hi']
    rw [← hx] at hj
    rw [List.getElem?_take] at hj
    split at hj
    · simp only [Array.getElem?_toList] at hj
      simp [World.cell?, hg, hj]
    · cases hj

set_option maxRecDepth 100000 in
set_option maxHeartbeats 2000000 in
theorem same_w (sa sb : Option Addr) (ls c1 c2 : Nat) (s : Nat → Int) (w : World) (hls : ls ≤ maxLen) (H1 : Hid (IntSl w sa ls s)) (H2 : Hid (IntSl w sb ls s)) :
    Calls Tryz.prog 25 #[.slice sa ls c1, .slice sb ls c2] w fun e w' => e = .returned (.bool true) ∧ Below w.heap.size w w' := by
  unfold maxLen at hls
  go_enter Tryz.func25, Tryz.ntmps25
  go_wp2
  go_loopw [5] (fun i wr => ∃ k : Nat, k ≤ ls ∧ i = .int .i64 k ∧ Below w.heap.size w wr) (fun i _ => ls - (intOf i).toNat)
  case atStart => exact ⟨0, Nat.zero_le _, rfl, Below.refl _ _⟩
  case round =>
    obtain ⟨k, hk, rfl, hbw⟩ := hrel
    by_cases hlt : k < ls
    · obtain ⟨A, O, rfl, hA, h1⟩ := H1.out.resolve_left (by omega)
      obtain ⟨B, U, rfl, hB, h2⟩ := H2.out.resolve_left (by omega)
      have y0 := (h1.below hA hbw) k hlt
      have y1 := (h2.below hB hbw) k hlt
      clear h1 h2
      have n1 : (0 : Int) ≤ (k : Int) := by omega
      have n2 : (k : Int) < (ls : Int) := by omega
      go_wp2
      go_quiet (fail)
      go_wp2
      go_roundw
      case rel => exact ⟨k + 1, by omega, by go_num, below_drewM hbw _⟩
      case measure => simp [intOf]; omega
    · go_wp2
      go_ret
      exact ⟨rfl, hbw⟩
end Go.Kn

namespace Go.Kn
open Go Go.Proofs Go.RowKit

theorem info3' : (Tryz.prog.info? 3).map (fun i => (i.zero, i.size, i.bytes)) = some (some (.int .i64 0), 1, 8) := by kernel_rfl

/-- the numbers below n that meet b -/
def pick (b : Nat → Bool) : Nat → List Int
  | 0 => []
  | n + 1 => cond (b n) (pick b n ++ [(n : Int)]) (pick b n)
theorem pick_t {b : Nat → Bool} {n : Nat} (h : b n = true) : pick b (n + 1) = pick b n ++ [(n : Int)] := by simp [pick, h]
theorem pick_f {b : Nat → Bool} {n : Nat} (h : b n = false) : pick b (n + 1) = pick b n := by simp [pick, h]
theorem pick_len (b : Nat → Bool) (n : Nat) : (pick b n).length ≤ n := by
  induction n with
  | zero => simp [pick]
  | succ n ih => simp only [pick]; cases b n <;> simp <;> omega
theorem one_lies {W : World} (x : Value) (T : TypeId) : ∀ (j : Nat) (u : Value), [x][j]? = some u → (W.alloc (.cells #[x] T)).cell? ((⟨W.heap.size, 0, none⟩ : Addr).add j) = some u := by
  intro j u h
  match j, h with
  | 0, h => simp at h; subst h; simp [Addr.add]

theorem own_base {w : World} {b b' e size n : Nat} {v : Value} {xs : List Value} (h : w.ownsRow b e size v n xs) (hb : b' ≤ b) : w.ownsRow b' e size v n xs := by
  refine ⟨h.1, ?_⟩
  rcases h.2 with h2 | ⟨g, cap, cur, h1, h2, h3⟩
  · exact .inl h2
  · exact .inr ⟨g, cap, cur, h1, by omega, h3⟩
theorem owns_below {w w1 : World} {base e size n : Nat} {v : Value} {xs : List Value} (h : w.ownsRow base e size v n xs) (hb : Below w.heap.size w w1) : w1.ownsRow base e size v n xs := by
  refine ⟨h.1, ?_⟩
  rcases h.2 with h2 | ⟨g, cap, cur, h1, h2, h3, h4⟩
  · exact .inl h2
  · exact .inr ⟨g, cap, cur, h1, h2, (hb.block g (Array.getElem?_eq_some_iff.1 h3).1).trans h3, h4⟩

/-- whether a segment can burst -/
def burB (q : Nat → Sp2) (c : Nat → Cl3) (s : Nat → Int) (k : Nat) : Bool := decide ((c (s k).toNat).be < (q k).hi)

set_option maxRecDepth 100000 in
set_option maxHeartbeats 4000000 in
theorem pbursts_w (il ih : Int) (C P cp A O ll cl : Nat) (p : Nat → Sp2) (l : Nat → Int) (C2 P2 lk ck : Nat) (c : Nat → Cl3) (D F cq : Nat) (s : Nat → Int) (w : World) (H : Hid (SipAt w C P (ll + 1) A O ll il ih p l)) (hC2 : C2 < w.heap.size) (HC : Hid (ClAt w C2 P2 lk c)) (hk1 : ClsP lk c) (hD : D < w.heap.size) (HD : Hid (NumAt w D F ll s)) (hQ : Hid (ChoP lk ll ll s)) :
    Calls Tryz.prog 21 #[.agg #[.int .i64 il, .int .i64 ih, .slice (some ⟨C, P, none⟩) (ll + 1) cp, .slice (some ⟨A, O, none⟩) ll cl], .slice (some ⟨C2, P2, none⟩) lk ck, .slice (some ⟨D, F, none⟩) ll cq] w
      fun e w' => (∃ v n, e = .returned (.tuple #[v, .int .i64 0]) ∧ w'.ownsRow w.heap.size 3 1 v n ((pick (burB (prOf il ih p) c s) ll).map (Value.int .i64))) ∧ Below w.heap.size w w' := by
  have BX := Lib.hid (fun (w1 : World) (hb : Below (w.alloc (.cells #[.int .i64 il, .int .i64 ih, .slice (some ⟨C, P, none⟩) (ll + 1) cp, .slice (some ⟨A, O, none⟩) ll cl] 40)).heap.size (w.alloc (.cells #[.int .i64 il, .int .i64 ih, .slice (some ⟨C, P, none⟩) (ll + 1) cp, .slice (some ⟨A, O, none⟩) ll cl] 40)) w1) => bcell4 hb)
  have HL : Hid (∀ w1, Below (w.alloc (.cells #[.int .i64 il, .int .i64 ih, .slice (some ⟨C, P, none⟩) (ll + 1) cp, .slice (some ⟨A, O, none⟩) ll cl] 40)).heap.size (w.alloc (.cells #[.int .i64 il, .int .i64 ih, .slice (some ⟨C, P, none⟩) (ll + 1) cp, .slice (some ⟨A, O, none⟩) ll cl] 40)) w1 → SipAt w1 C P (ll + 1) A O ll il ih p l ∧ ClAt w1 C2 P2 lk c ∧ NumAt w1 D F ll s) := Lib.hid fun w1 h => ⟨H.out.below (below_al h), HC.out.below hC2 (below_al h), HD.out.below hD (below_al h)⟩
  have q1 := H.out.lp1
  have q2 := H.out.lp2
  have g1 := hk1.n1
  have g2 := hk1.n2
  have HK := Lib.hid hk1
  clear hk1
  obtain ⟨i0, hi, hz0, hz1, hz22⟩ := info_parts info3'
  go_enter Tryz.func21, Tryz.ntmps21
  go_wp2_with (first
    | (go_at_call 54; refine (isSip_t _ _ (HL.out _ (Below.refl _ _)).1).mono ?_; rintro e w1 ⟨rfl, hb1⟩; obtain ⟨x0, x1, x2, x3, x4⟩ := BX.out _ hb1)
    | (go_at_call 55; refine (areCl_w _ _ _ c _ (by omega) (Lib.hid (.inr ⟨C2, P2, rfl, Nat.lt_of_lt_of_le hC2 (below_al hb1).size, (HL.out _ hb1).2.1⟩))).mono ?_; rintro e w2 ⟨⟨rb, rfl, hrb⟩, hb2⟩; obtain rfl : rb = true := hrb.2 HK.out; clear hrb; have hb12 := hb1.trans (hb2.mono hb1.size); clear x0 x1 x2 x3 x4; obtain ⟨x0, x1, x2, x3, x4⟩ := BX.out _ hb12)
    | (go_at_call 56; refine (isChoice_w _ _ _ _ _ _ _ _ _ _ _ _ s _ ⟨by omega, by omega⟩ (by omega) (by unfold maxLen; omega) (Lib.hid (.inr ⟨D, F, rfl, Nat.lt_of_lt_of_le hD (below_al hb12).size, (HL.out _ hb12).2.2⟩))).mono ?_; rintro e w3 ⟨⟨rb, rfl, hrb⟩, hb3⟩; obtain rfl : rb = true := hrb.2 hQ.out; clear hrb; have hb13 := hb12.trans (hb3.mono hb12.size); clear x0 x1 x2 x3 x4; obtain ⟨x0, x1, x2, x3, x4⟩ := BX.out _ hb13)
    | (go_at_call 57; refine (pressures_w _ _ _ _ _ _ _ _ _ _ p l _ (Lib.hid (HL.out _ hb13).1)).mono ?_; rintro e w4 ⟨⟨G, rfl, hG1, hG2, hG3⟩, hb4⟩; have HG := Lib.hid hG3; clear hG3; have hb14 := hb13.trans (hb4.mono hb13.size); clear x0 x1 x2 x3 x4; obtain ⟨x0, x1, x2, x3, x4⟩ := BX.out _ hb14))
  have hwz : w.heap.size < w4.heap.size := x4
  have FX : Hid (∀ w', Below w4.heap.size w4 w' → ClAt w' C2 P2 lk c ∧ NumAt w' D F ll s ∧ SpAt w' G 0 ll (prOf il ih p)) := Lib.hid fun w' h => by
    have hh := hb14.trans (h.mono hb14.size)
    exact ⟨(HL.out _ hh).2.1, (HL.out _ hh).2.2, HG.out.below hG2 h⟩
  have hB14 : Below w.heap.size w w4 := below_al hb14
  clear x0 x1 x2 x3 x4 hb1 hb2 hb12 hb3 hb13 hb4 hb14 BX HL HG
  go_loopw [8, 29] (fun v i wr => ∃ (k n : Nat), k ≤ ll ∧ i = .int .i64 k ∧ wr.ownsRow w4.heap.size 3 1 v n ((pick (burB (prOf il ih p) c s) k).map (Value.int .i64)) ∧ Below w4.heap.size w4 wr) (fun _ i _ => ll - (intOf i).toNat)
  case atStart => exact ⟨0, 0, Nat.zero_le _, rfl, World.ownsRow_nil _ _ _ _, Below.refl _ _⟩
  case round =>
    obtain ⟨k, n, hk, rfl, hown, hbw⟩ := hrel
    have hnl : n ≤ k := by
      have h1 := hown.1
      have h2 := pick_len (burB (prOf il ih p) c s) k
      simp at h1; omega
    have HOWN := Lib.hid hown
    clear hown
    by_cases hlt : k < ll
    · obtain ⟨z1, z2, z3⟩ := FX.out _ hbw
      have hq := hQ.out.ok k hlt
      simp only [fromB, decide_eq_true_eq] at hq
      obtain ⟨j, hj⟩ : ∃ j : Nat, s k = (j : Int) := ⟨(s k).toNat, by omega⟩
      have hjn : (s k).toNat = j := by omega
      obtain ⟨y0, y1⟩ := z3 k hlt
      simp only [Nat.zero_add] at y0 y1
      have y2 := z2 k hlt
      rw [hj] at y2
      obtain ⟨y3, y4, y5⟩ := z1 j (by omega)
      clear z1 z2 z3
      have S9 : Hid (∀ w', Below wr.heap.size wr w' → w'.cell? ⟨D, F + k, none⟩ = some (.int .i64 (j : Int)) ∧ w'.cell? ⟨C2, P2 + j * 3, none⟩ = some (.int .i64 (c j).be) ∧ w'.cell? ⟨C2, P2 + j * 3 + 1, none⟩ = some (.int .i64 (c j).pr) ∧ w'.cell? ⟨C2, P2 + j * 3 + 2, none⟩ = some (.int .i64 (c j).st)) := Lib.hid fun w' h => by
        obtain ⟨z1, z2, z3⟩ := FX.out _ (hbw.trans (h.mono hbw.size))
        have y2 := z2 k hlt
        rw [hj] at y2
        obtain ⟨y3, y4, y5⟩ := z1 j (by omega)
        exact ⟨y2, y3, y4, y5⟩
      have n1 : (0 : Int) ≤ (k : Int) := by omega
      have n2 : (k : Int) < (ll : Int) := by omega
      have n3 : (0 : Int) ≤ (j : Int) := by omega
      have n4 : (j : Int) < (lk : Int) := by omega
      obtain ⟨W2, hW2⟩ : ∃ W2, W2 = wr.alloc (.cells #[.int .i64 (prOf il ih p k).lo, .int .i64 (prOf il ih p k).hi] 31) := ⟨_, rfl⟩
      have hz2 : W2.heap.size = wr.heap.size + 1 := by rw [hW2]; simp
      have hbr : Below wr.heap.size wr W2 := by rw [hW2]; exact (Below.refl _ _).alloc (Nat.le_refl _) _
      have FZ : Hid (∀ w', Below W2.heap.size W2 w' → w'.cell? ⟨D, F + k, none⟩ = some (.int .i64 (j : Int)) ∧ w'.cell? ⟨C2, P2 + j * 3, none⟩ = some (.int .i64 (c j).be) ∧ w'.cell? ⟨C2, P2 + j * 3 + 1, none⟩ = some (.int .i64 (c j).pr) ∧ w'.cell? ⟨C2, P2 + j * 3 + 2, none⟩ = some (.int .i64 (c j).st) ∧ w'.cell? ⟨wr.heap.size, 0, none⟩ = some (.int .i64 (prOf il ih p k).lo) ∧ w'.cell? ⟨wr.heap.size, 1, none⟩ = some (.int .i64 (prOf il ih p k).hi)) := Lib.hid fun w' h => by
        have q : ∀ b o, b < W2.heap.size → w'.cell? ⟨b, o, none⟩ = W2.cell? ⟨b, o, none⟩ := (bcell h).1
        obtain ⟨a1, a2, a3, a4⟩ := S9.out _ (hbr.trans (h.mono hbr.size))
        exact ⟨a1, a2, a3, a4, (q _ _ (by omega)).trans (by rw [hW2]; simp), (q _ _ (by omega)).trans (by rw [hW2]; simp)⟩
      cases hv : burB (prOf il ih p) c s k
      all_goals
        have hd := hv
        simp only [burB, hjn] at hd
        go_wp2
        rw [← hW2]
        clear hW2
        obtain ⟨u0, u1, u2, u3, u4, u5⟩ := FZ.out _ (Below.refl _ _)
        go_region_held3 (fun w' => w'.cell? ⟨D, F + k, none⟩ = some (.int .i64 (j : Int)) ∧ w'.cell? ⟨C2, P2 + j * 3, none⟩ = some (.int .i64 (c j).be) ∧ w'.cell? ⟨C2, P2 + j * 3 + 1, none⟩ = some (.int .i64 (c j).pr) ∧ w'.cell? ⟨C2, P2 + j * 3 + 2, none⟩ = some (.int .i64 (c j).st) ∧ w'.cell? ⟨wr.heap.size, 0, none⟩ = some (.int .i64 (prOf il ih p k).lo) ∧ w'.cell? ⟨wr.heap.size, 1, none⟩ = some (.int .i64 (prOf il ih p k).hi))
          ((first | exact FZ.out _ hB5 | (refine FZ.out _ ?_; repeat (first | exact Below.refl _ _ | refine Below.drew ?_))))
          ((go_at_call 58; refine (canBurst_w _ _ _ _ _ _).mono ?_; rw [hd]; rintro e w5 ⟨rfl, hb5⟩; have hB5 : Below W2.heap.size W2 w5 := (Below.refl _ _).drew.trans (hb5.mono (Nat.le_refl _))))
        clear u0 u1 u2 u3 u4 u5 y0 y1 y2 y3 y4 y5
        have hbr5 : Below wr.heap.size wr w5 := hbr.trans (hB5.mono hbr.size)
        have hown5 := owns_below HOWN.out hbr5
        have hz5 := hbr5.size
        have hz6 := hbw.size
      · go_wp2
        go_roundw
        case rel => exact ⟨k + 1, n, by omega, by go_num, by rw [pick_f hv]; exact hown5, hbw.trans (hbr5.mono hbw.size)⟩
        case measure => simp [intOf]; omega
      · go_wp2_with (at_builtin; refine wpList_append_own _ rfl _ _ 22 rfl w4.heap.size 3 i0 (.int .i64 0) 1 8 Tryz.underlying22 hi hz0 hz1 hz22 rfl (by decide) _ n _ rfl (hown5.alloc _) ⟨_, 0, none⟩ 1 1 [.int .i64 (k : Int)] rfl rfl (one_lies _ _) (by intro u hu; simp at hu; subst hu; rfl) (by unfold maxLen; omega) (by omega) (by simp; omega) ?_; intro v' w6 hown6 hgrow6 _)
        go_roundw
        case rel => exact ⟨k + 1, n + 1, by omega, by go_num, by rw [pick_t hv]; simpa using hown6, ((hbw.trans (hbr5.mono hbw.size)).alloc (by omega) _).grown hgrow6 (by simp; omega) (fun r e => own_ge hown5 r e)⟩
        case measure => simp [intOf]; omega
    · obtain rfl : k = ll := by omega
      go_wp2
      go_ret2
      exact ⟨⟨_, n, rfl, own_base HOWN.out (by omega)⟩, hB14.trans (hbw.mono (by omega))⟩
end Go.Kn

namespace Go.Kn
open Go Go.Proofs Go.RowKit

set_option maxRecDepth 100000 in
set_option maxHeartbeats 4000000 in
theorem rbursts_w (il ih : Int) (C P cp A O ll cl : Nat) (p : Nat → Sp2) (l : Nat → Int) (C2 P2 lk ck : Nat) (c : Nat → Cl3) (D F cq : Nat) (s : Nat → Int) (w : World) (H : Hid (SipAt w C P (ll + 1) A O ll il ih p l)) (hC2 : C2 < w.heap.size) (HC : Hid (ClAt w C2 P2 lk c)) (hk2 : lk ≤ 4) (hD : D < w.heap.size) (HD : Hid (NumAt w D F ll s)) (hQ : Hid (ChoP lk ll ll s)) :
    Calls Tryz.prog 63 #[.agg #[.int .i64 il, .int .i64 ih, .slice (some ⟨C, P, none⟩) (ll + 1) cp, .slice (some ⟨A, O, none⟩) ll cl], .slice (some ⟨C2, P2, none⟩) lk ck, .slice (some ⟨D, F, none⟩) ll cq] w
      fun e w' => (∃ v n, e = .returned v ∧ w'.ownsRow w.heap.size 3 1 v n ((pick (burB (prOf il ih p) c s) ll).map (Value.int .i64))) ∧ Below w.heap.size w w' := by
  have BX := Lib.hid (fun (w1 : World) (hb : Below (w.alloc (.cells #[.int .i64 il, .int .i64 ih, .slice (some ⟨C, P, none⟩) (ll + 1) cp, .slice (some ⟨A, O, none⟩) ll cl] 40)).heap.size (w.alloc (.cells #[.int .i64 il, .int .i64 ih, .slice (some ⟨C, P, none⟩) (ll + 1) cp, .slice (some ⟨A, O, none⟩) ll cl] 40)) w1) => bcell4 hb)
  have HL : Hid (∀ w1, Below (w.alloc (.cells #[.int .i64 il, .int .i64 ih, .slice (some ⟨C, P, none⟩) (ll + 1) cp, .slice (some ⟨A, O, none⟩) ll cl] 40)).heap.size (w.alloc (.cells #[.int .i64 il, .int .i64 ih, .slice (some ⟨C, P, none⟩) (ll + 1) cp, .slice (some ⟨A, O, none⟩) ll cl] 40)) w1 → SipAt w1 C P (ll + 1) A O ll il ih p l ∧ ClAt w1 C2 P2 lk c ∧ NumAt w1 D F ll s) := Lib.hid fun w1 h => ⟨H.out.below (below_al h), HC.out.below hC2 (below_al h), HD.out.below hD (below_al h)⟩
  have q1 := H.out.lp1
  have q2 := H.out.lp2
  obtain ⟨i0, hi, hz0, hz1, hz22⟩ := info_parts info3'
  go_enter Tryz.func63, Tryz.ntmps63
  go_wp2_with (go_at_call 98; refine (rpress2_w _ _ _ _ _ _ _ _ _ p l _ (Lib.hid (HL.out _ (Below.refl _ _)).1)).mono ?_; rintro e w4 ⟨⟨G, cap, rfl, hG1, hG2, hG3⟩, hb14⟩; have HG := Lib.hid hG3; clear hG3; obtain ⟨x0, x1, x2, x3, x4⟩ := BX.out _ hb14)
  have hwz : w.heap.size < w4.heap.size := x4
  have FX : Hid (∀ w', Below w4.heap.size w4 w' → ClAt w' C2 P2 lk c ∧ NumAt w' D F ll s ∧ SpAt w' G 0 ll (prOf il ih p)) := Lib.hid fun w' h => by
    have hh := hb14.trans (h.mono hb14.size)
    exact ⟨(HL.out _ hh).2.1, (HL.out _ hh).2.2, HG.out.below hG2 h⟩
  have hB14 : Below w.heap.size w w4 := below_al hb14
  clear x0 x1 x2 x3 x4 hb14 BX HL HG
  go_loopw [8, 9] (fun v i wr => ∃ (k n : Nat), k ≤ ll ∧ i = .int .i64 k ∧ wr.ownsRow w4.heap.size 3 1 v n ((pick (burB (prOf il ih p) c s) k).map (Value.int .i64)) ∧ Below w4.heap.size w4 wr) (fun _ i _ => ll - (intOf i).toNat)
  case atStart => exact ⟨0, 0, Nat.zero_le _, rfl, World.ownsRow_nil _ _ _ _, Below.refl _ _⟩
  case round =>
    obtain ⟨k, n, hk, rfl, hown, hbw⟩ := hrel
    have hnl : n ≤ k := by
      have h1 := hown.1
      have h2 := pick_len (burB (prOf il ih p) c s) k
      simp at h1; omega
    have HOWN := Lib.hid hown
    clear hown
    by_cases hlt : k < ll
    · obtain ⟨z1, z2, z3⟩ := FX.out _ hbw
      have hq := hQ.out.ok k hlt
      simp only [fromB, decide_eq_true_eq] at hq
      obtain ⟨j, hj⟩ : ∃ j : Nat, s k = (j : Int) := ⟨(s k).toNat, by omega⟩
      have hjn : (s k).toNat = j := by omega
      obtain ⟨y0, y1⟩ := z3 k hlt
      simp only [Nat.zero_add] at y0 y1
      have y2 := z2 k hlt
      rw [hj] at y2
      obtain ⟨y3, y4, y5⟩ := z1 j (by omega)
      clear z1 z2 z3
      have n1 : (0 : Int) ≤ (k : Int) := by omega
      have n2 : (k : Int) < (ll : Int) := by omega
      have n3 : (0 : Int) ≤ (j : Int) := by omega
      have n4 : (j : Int) < (lk : Int) := by omega
      have hz6 := hbw.size
      cases hv : burB (prOf il ih p) c s k
      · have hd := hv
        simp only [burB, hjn] at hd
        go_wp2
        go_quiet (fail)
        go_wp2
        go_roundw
        case rel => exact ⟨k + 1, n, by omega, by go_num, by rw [pick_f hv]; exact owns_below HOWN.out (below_drewM (Below.refl _ _) _), below_drewM hbw _⟩
        case measure => simp [intOf]; omega
      · have hd := hv
        simp only [burB, hjn] at hd
        go_wp2
        go_quiet (fail)
        go_wp2_with (at_builtin; refine wpList_append_own _ rfl _ _ 22 rfl w4.heap.size 3 i0 (.int .i64 0) 1 8 Tryz.underlying22 hi hz0 hz1 hz22 rfl (by decide) _ n _ rfl ((owns_below HOWN.out (below_drewM (Below.refl _ _) _)).alloc _) ⟨_, 0, none⟩ 1 1 [.int .i64 (k : Int)] rfl rfl (one_lies _ _) (by intro u hu; simp at hu; subst hu; rfl) (by unfold maxLen; omega) (by omega) (by simp; omega) ?_; intro v' w6 hown6 hgrow6 _)
        go_roundw
        case rel => exact ⟨k + 1, n + 1, by omega, by go_num, by rw [pick_t hv]; simpa using hown6, ((below_drewM hbw _).alloc (by simp; omega) _).grown hgrow6 (by simp; omega) (fun r e => own_ge HOWN.out r e)⟩
        case measure => simp [intOf]; omega
    · obtain rfl : k = ll := by omega
      go_wp2
      go_ret
      exact ⟨⟨_, n, rfl, own_base HOWN.out (by omega)⟩, hB14.trans (hbw.mono (by omega))⟩

set_option maxRecDepth 100000 in
set_option maxHeartbeats 4000000 in
theorem pburF1 (il ih : Int) (pa la ka sq : Option Addr) (lp cp ll cl lk ck lq cq : Nat) (p : Nat → Sp2) (l : Nat → Int) (c : Nat → Cl3) (s : Nat → Int) (w : World) (hlp : lp ≤ 1000000) (hll : ll ≤ 1000000) (hlk : lk ≤ 1000000) (hlq : lq ≤ maxLen) (H : Hid (AnySip w pa la lp ll p l)) (HC : Hid (ClSl w ka lk c)) (HS : Hid (IntSl w sq lq s))
    (HR : Hid (¬ SipP il ih lp ll p l)) :
    Calls Tryz.prog 21 #[.agg #[.int .i64 il, .int .i64 ih, .slice pa lp cp, .slice la ll cl], .slice ka lk ck, .slice sq lq cq] w
      fun e w' => e = .returned (.tuple #[.slice none 0 0, .int .i64 2]) ∧ Below w.heap.size w w' := by
  have BX := Lib.hid (fun (w1 : World) (hb : Below (w.alloc (.cells #[.int .i64 il, .int .i64 ih, .slice pa lp cp, .slice la ll cl] 40)).heap.size (w.alloc (.cells #[.int .i64 il, .int .i64 ih, .slice pa lp cp, .slice la ll cl] 40)) w1) => bcell4 hb)
  have HL : Hid (∀ w1, Below (w.alloc (.cells #[.int .i64 il, .int .i64 ih, .slice pa lp cp, .slice la ll cl] 40)).heap.size (w.alloc (.cells #[.int .i64 il, .int .i64 ih, .slice pa lp cp, .slice la ll cl] 40)) w1 → AnySip w1 pa la lp ll p l ∧ ClSl w1 ka lk c ∧ IntSl w1 sq lq s) := Lib.hid fun w1 h => ⟨H.out.below (below_al h), HC.out.below (below_al h), HS.out.below (below_al h)⟩
  go_enter Tryz.func21, Tryz.ntmps21
  go_wp2_with (first
    | (go_at_call 54; refine (isSiphon_w _ _ _ _ _ _ _ _ p l _ (by omega) (by omega) (Lib.hid (HL.out _ (Below.refl _ _)).1)).mono ?_; rintro e w1 ⟨⟨rb, rfl, hrb⟩, hb1⟩; obtain rfl : rb = false := (by cases rb <;> first | rfl | exact (HR.out (hrb.1 rfl)).elim); clear hrb; obtain ⟨x0, x1, x2, x3, x4⟩ := BX.out _ hb1))
  exact bodyPost_ret (v := .tuple #[.slice none 0 0, .int .i64 2]) (by simp [results, Tryz.results21, go_sem]) rfl ⟨rfl, below_al hb1⟩

set_option maxRecDepth 100000 in
set_option maxHeartbeats 4000000 in
theorem pburF2 (il ih : Int) (pa la ka sq : Option Addr) (lp cp ll cl lk ck lq cq : Nat) (p : Nat → Sp2) (l : Nat → Int) (c : Nat → Cl3) (s : Nat → Int) (w : World) (hlp : lp ≤ 1000000) (hll : ll ≤ 1000000) (hlk : lk ≤ 1000000) (hlq : lq ≤ maxLen) (H : Hid (AnySip w pa la lp ll p l)) (HC : Hid (ClSl w ka lk c)) (HS : Hid (IntSl w sq lq s))
    (HR : Hid (SipP il ih lp ll p l)) (HK : Hid (¬ ClsP lk c)) :
    Calls Tryz.prog 21 #[.agg #[.int .i64 il, .int .i64 ih, .slice pa lp cp, .slice la ll cl], .slice ka lk ck, .slice sq lq cq] w
      fun e w' => e = .returned (.tuple #[.slice none 0 0, .int .i64 2]) ∧ Below w.heap.size w w' := by
  have BX := Lib.hid (fun (w1 : World) (hb : Below (w.alloc (.cells #[.int .i64 il, .int .i64 ih, .slice pa lp cp, .slice la ll cl] 40)).heap.size (w.alloc (.cells #[.int .i64 il, .int .i64 ih, .slice pa lp cp, .slice la ll cl] 40)) w1) => bcell4 hb)
  have HL : Hid (∀ w1, Below (w.alloc (.cells #[.int .i64 il, .int .i64 ih, .slice pa lp cp, .slice la ll cl] 40)).heap.size (w.alloc (.cells #[.int .i64 il, .int .i64 ih, .slice pa lp cp, .slice la ll cl] 40)) w1 → AnySip w1 pa la lp ll p l ∧ ClSl w1 ka lk c ∧ IntSl w1 sq lq s) := Lib.hid fun w1 h => ⟨H.out.below (below_al h), HC.out.below (below_al h), HS.out.below (below_al h)⟩
  go_enter Tryz.func21, Tryz.ntmps21
  go_wp2_with (first
    | (go_at_call 54; refine (isSiphon_w _ _ _ _ _ _ _ _ p l _ (by omega) (by omega) (Lib.hid (HL.out _ (Below.refl _ _)).1)).mono ?_; rintro e w1 ⟨⟨rb, rfl, hrb⟩, hb1⟩; obtain rfl : rb = true := hrb.2 HR.out; clear hrb; obtain ⟨x0, x1, x2, x3, x4⟩ := BX.out _ hb1)
    | (go_at_call 55; refine (areCl_w _ _ _ c _ (by omega) (Lib.hid (HL.out _ hb1).2.1)).mono ?_; rintro e w2 ⟨⟨rb, rfl, hrb⟩, hb2⟩; obtain rfl : rb = false := (by cases rb <;> first | rfl | exact (HK.out (hrb.1 rfl)).elim); clear hrb; have hb12 := hb1.trans (hb2.mono hb1.size); clear x0 x1 x2 x3 x4; obtain ⟨x0, x1, x2, x3, x4⟩ := BX.out _ hb12))
  exact bodyPost_ret (v := .tuple #[.slice none 0 0, .int .i64 2]) (by simp [results, Tryz.results21, go_sem]) rfl ⟨rfl, below_al hb12⟩

set_option maxRecDepth 100000 in
set_option maxHeartbeats 4000000 in
theorem pburF3 (il ih : Int) (pa la ka sq : Option Addr) (lp cp ll cl lk ck lq cq : Nat) (p : Nat → Sp2) (l : Nat → Int) (c : Nat → Cl3) (s : Nat → Int) (w : World) (hlp : lp ≤ 1000000) (hll : ll ≤ 1000000) (hlk : lk ≤ 1000000) (hlq : lq ≤ maxLen) (H : Hid (AnySip w pa la lp ll p l)) (HC : Hid (ClSl w ka lk c)) (HS : Hid (IntSl w sq lq s))
    (HR : Hid (SipP il ih lp ll p l)) (HK : Hid (ClsP lk c)) (HQ : Hid (¬ ChoP lk ll lq s)) :
    Calls Tryz.prog 21 #[.agg #[.int .i64 il, .int .i64 ih, .slice pa lp cp, .slice la ll cl], .slice ka lk ck, .slice sq lq cq] w
      fun e w' => e = .returned (.tuple #[.slice none 0 0, .int .i64 2]) ∧ Below w.heap.size w w' := by
  have BX := Lib.hid (fun (w1 : World) (hb : Below (w.alloc (.cells #[.int .i64 il, .int .i64 ih, .slice pa lp cp, .slice la ll cl] 40)).heap.size (w.alloc (.cells #[.int .i64 il, .int .i64 ih, .slice pa lp cp, .slice la ll cl] 40)) w1) => bcell4 hb)
  have HL : Hid (∀ w1, Below (w.alloc (.cells #[.int .i64 il, .int .i64 ih, .slice pa lp cp, .slice la ll cl] 40)).heap.size (w.alloc (.cells #[.int .i64 il, .int .i64 ih, .slice pa lp cp, .slice la ll cl] 40)) w1 → AnySip w1 pa la lp ll p l ∧ ClSl w1 ka lk c ∧ IntSl w1 sq lq s) := Lib.hid fun w1 h => ⟨H.out.below (below_al h), HC.out.below (below_al h), HS.out.below (below_al h)⟩
  go_enter Tryz.func21, Tryz.ntmps21
  go_wp2_with (first
    | (go_at_call 54; refine (isSiphon_w _ _ _ _ _ _ _ _ p l _ (by omega) (by omega) (Lib.hid (HL.out _ (Below.refl _ _)).1)).mono ?_; rintro e w1 ⟨⟨rb, rfl, hrb⟩, hb1⟩; obtain rfl : rb = true := hrb.2 HR.out; clear hrb; obtain ⟨x0, x1, x2, x3, x4⟩ := BX.out _ hb1)
    | (go_at_call 55; refine (areCl_w _ _ _ c _ (by omega) (Lib.hid (HL.out _ hb1).2.1)).mono ?_; rintro e w2 ⟨⟨rb, rfl, hrb⟩, hb2⟩; obtain rfl : rb = true := hrb.2 HK.out; clear hrb; have hb12 := hb1.trans (hb2.mono hb1.size); clear x0 x1 x2 x3 x4; obtain ⟨x0, x1, x2, x3, x4⟩ := BX.out _ hb12)
    | (go_at_call 56; refine (isChoice_w _ _ _ _ _ _ _ _ _ _ _ _ s _ ⟨by have := HR.out.lp1; have := HR.out.lpe; omega, by omega⟩ (by omega) hlq (Lib.hid (HL.out _ hb12).2.2)).mono ?_; rintro e w3 ⟨⟨rb, rfl, hrb⟩, hb3⟩; obtain rfl : rb = false := (by cases rb <;> first | rfl | exact (HQ.out (hrb.1 rfl)).elim); clear hrb; have hb13 := hb12.trans (hb3.mono hb12.size)))
  exact bodyPost_ret (v := .tuple #[.slice none 0 0, .int .i64 2]) (by simp [results, Tryz.results21, go_sem]) rfl ⟨rfl, below_al hb13⟩
end Go.Kn

namespace Go.Kn
open Go Go.Proofs Go.RowKit Go.ChangeShapes Go.WideShapes Go.Deep
theorem cel91 : Tryz.prog.cellsOf 54 = 3 := by kernel_rfl
section
variable {H : Type} {enc : TypeId × Value → H} {w : World} {base : Nat} {spare : Nat → Bool} {held : Bool}
theorem cl_cells {n : Nat} {cs : List Value} {y : DataW H × List MemPlace} (h : DataW.trod enc Tryz.prog w base spare held n 54 cs = some y) :
    ∃ a b c : Int, cs = [.int .i64 a, .int .i64 b, .int .i64 c] := by
  obtain ⟨zs, n2, _, _, hlen2, hzl, hg⟩ := DataW.trod_struct Tryz.underlying54 h
  rw [cel91] at hlen2
  obtain ⟨c0, c1, c2, rfl⟩ := li3 hlen2
  obtain ⟨z0, z1, z2, rfl⟩ := li3 hzl
  have g0 : DataW.trod enc Tryz.prog w base spare held n2 3 ((([c0, c1, c2].drop 0)).take (Tryz.prog.cellsOf 3)) = some z0 := hg 0 _ rfl
  rw [cel3] at g0
  have g1 : DataW.trod enc Tryz.prog w base spare held n2 3 ((([c0, c1, c2].drop 1)).take (Tryz.prog.cellsOf 3)) = some z1 := hg 1 _ rfl
  rw [cel3] at g1
  have g2 : DataW.trod enc Tryz.prog w base spare held n2 3 ((([c0, c1, c2].drop 2)).take (Tryz.prog.cellsOf 3)) = some z2 := hg 2 _ rfl
  rw [cel3] at g2
  obtain ⟨k0, e0, _⟩ := DataW.trod_int Tryz.underlying3 g0
  obtain ⟨k1, e1, _⟩ := DataW.trod_int Tryz.underlying3 g1
  obtain ⟨k2, e2, _⟩ := DataW.trod_int Tryz.underlying3 g2
  simp at e0 e1 e2
  exact ⟨k0, k1, k2, by rw [e0, e1, e2]⟩

theorem cl_open {n : Nat} {v : Value} {y : DataW H × List MemPlace} (h : DataW.trod enc Tryz.prog w base spare held n 41 [v] = some y) :
    ∃ (ta : Option Addr) (lt ct : Nat) (t : Nat → Cl3), v = .slice ta lt ct ∧ lt ≤ maxLen ∧ ClSl w ta lt t := by
  rcases open_slice Tryz.underlying41 h with ⟨h1, _⟩ | ⟨a, len, cap, m, n', D, Pl, h1, _, hl, hm, hmm, _, hi⟩
  · exact ⟨none, 0, 0, fun _ => ⟨0, 0, 0⟩, by simpa using h1, by decide, .inl rfl⟩
  · have hml : len ≤ m := by rw [hmm]; split <;> omega
    have key : ∀ i, i < len → ∃ x : Cl3, ∀ j c, [x.be, x.pr, x.st][j]? = some c → w.cell? (a.add (i * 3 + j)) = some (.int .i64 c) := by
      intro i hil
      obtain ⟨cs', hc, ht⟩ := hi i (by omega)
      rw [cel91] at hc
      obtain ⟨_, hcl, hat⟩ := World.cells?_some hc
      obtain ⟨k0, k1, k2, rfl⟩ := cl_cells ht
      refine ⟨⟨k0, k1, k2⟩, fun j c hj => ?_⟩
      have hj5 : j < 3 := by
        have := (List.getElem?_eq_some_iff.1 hj).1
        simpa using this
      have h1 := hat j hj5
      rw [← Go.Deep.add_add] at *
      rw [h1]
      match j, hj5, hj with
      | 0, _, hj => simpa using hj
      | 1, _, hj => simpa using hj
      | 2, _, hj => simpa using hj
    by_cases h0 : len = 0
    · exact ⟨some a, len, cap, fun _ => ⟨0, 0, 0⟩, by simpa using h1, by omega, .inl h0⟩
    · obtain ⟨x0, hx0⟩ := key 0 (by omega)
      have hc0 := hx0 0 _ rfl
      have ea : a.add (0 * 3 + 0) = a := rfl
      rw [ea] at hc0
      have e := addr_mk' hc0
      refine ⟨some a, len, cap, fun i => if h : i < len then Classical.choose (key i h) else ⟨0, 0, 0⟩, by simpa using h1, by omega, .inr ⟨a.block, a.off, by rw [← e], World.block_lt_of_cell? w a hc0, fun i hil => ?_⟩⟩
      simp only [hil, dif_pos]
      have hk := Classical.choose_spec (key i hil)
      have q : ∀ j, a.add (i * 3 + j) = ⟨a.block, a.off + (i * 3 + j), none⟩ := fun j => (congrArg (fun x => Addr.add x (i * 3 + j)) e).trans (add_mk' _ _ _)
      have c0 := hk 0 _ rfl
      have c1 := hk 1 _ rfl
      have c2 := hk 2 _ rfl
      rw [q] at c0 c1 c2
      exact ⟨c0, c1, c2⟩
end
end Go.Kn
