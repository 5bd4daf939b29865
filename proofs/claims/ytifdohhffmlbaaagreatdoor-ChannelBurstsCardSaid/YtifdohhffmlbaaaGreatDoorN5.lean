/- Walks of the functions of layer 2 that ChannelHeights calls, and the law itself (a part of it). Conditions: as each theorem states them. -/
import Derived.Test.YtifdohhffmlbaaaGreatDoorN2
import Derived.Test.YtifdohhffmlbaaaGreatDoorN4
import Derived.Deep.RegionWith
import Derived.Deep.RegionHeld3
set_option linter.unusedVariables false
set_option linter.unusedSimpArgs false
namespace Go.Kn
open Go Go.Proofs Go.RowKit

theorem below_drew' {B : Nat} {a w : World} (h : Below B a w) : Below B a w.drew := h.drew

theorem least2 (b cap : Nat) (x y : Int) (w : World) (hb : b < w.heap.size) (h0 : w.cell? ⟨b, 0, none⟩ = some (.int .i64 x)) (h1 : w.cell? ⟨b, 1, none⟩ = some (.int .i64 y)) :
    Calls Tryz.prog 101 #[.slice (some ⟨b, 0, none⟩) 2 cap] w fun e W' => e = .returned (.int .i64 (min x y)) ∧ Below w.heap.size w W' := by
  refine (leastN_w b 0 2 cap (fun j => if j = 0 then x else y) (by omega) (by omega) w hb ?_).mono ?_
  · intro j hj
    match j, hj with
    | 0, _ => simpa using h0
    | 1, _ => simpa using h1
  · rintro e w' ⟨rfl, hb⟩
    exact ⟨by simp [upto, bmin, List.range_succ], hb⟩

theorem new0 {W0 : World} {n : Nat} (hz : W0.heap.size = n) (x y : Value) (T : TypeId) : (W0.alloc (.cells #[x, y] T)).cell? ⟨n, 0, none⟩ = some x := by subst hz; simp
theorem new1 {W0 : World} {n : Nat} (hz : W0.heap.size = n) (x y : Value) (T : TypeId) : (W0.alloc (.cells #[x, y] T)).cell? ⟨n, 1, none⟩ = some y := by subst hz; simp

def hOk (x : Int) : Prop := 0 ≤ x ∧ x ≤ 1000

theorem prWrap {i a b : Int} (h1 : hOk i) (h2 : hOk a) (h3 : hOk b) : IntKind.i64.wrap (i - min a b) = i - min a b := by
  obtain ⟨a1, a2⟩ := h1
  obtain ⟨b1, b2⟩ := h2
  obtain ⟨c1, c2⟩ := h3
  exact IntWalk.i64_in (i - min a b) (by omega)

set_option maxRecDepth 100000 in
set_option maxHeartbeats 2000000 in
theorem leastPr_w (il ih al ah bl bh : Int) (w : World) (h1 : hOk il) (h2 : hOk ah) (h3 : hOk bh) :
    Calls Tryz.prog 110 #[.agg #[.int .i64 il, .int .i64 ih, .int .i64 al, .int .i64 ah, .int .i64 bl, .int .i64 bh]] w
      fun e w' => e = .returned (.int .i64 (max 0 (il - min ah bh))) ∧ Below w.heap.size w w' := by
  obtain ⟨W0, hW0⟩ : ∃ W0, W0 = w.alloc (.cells #[.int .i64 il, .int .i64 ih, .int .i64 al, .int .i64 ah, .int .i64 bl, .int .i64 bh] 141) := ⟨_, rfl⟩
  have hz : W0.heap.size = w.heap.size + 1 := by rw [hW0]; simp
  have FX : Hid (∀ w', Below W0.heap.size W0 w' → w'.cell? ⟨w.heap.size, 0, none⟩ = some (.int .i64 il) ∧ w'.cell? ⟨w.heap.size, 3, none⟩ = some (.int .i64 ah) ∧ w'.cell? ⟨w.heap.size, 5, none⟩ = some (.int .i64 bh)) := Lib.hid fun w' h => by
    have q : ∀ b o, b < W0.heap.size → w'.cell? ⟨b, o, none⟩ = W0.cell? ⟨b, o, none⟩ := (bcell h).1
    exact ⟨(q _ _ (by omega)).trans (by rw [hW0]; simp), (q _ _ (by omega)).trans (by rw [hW0]; simp), (q _ _ (by omega)).trans (by rw [hW0]; simp)⟩
  have B0 : Below W0.heap.size W0 W0.drew := (Below.refl _ _).drew
  have hB : Hid (Below w.heap.size w W0) := Lib.hid (by rw [hW0]; exact (Below.refl _ _).alloc (Nat.le_refl _) _)
  go_enter Tryz.func110, Tryz.ntmps110
  go_wp2
  rw [← hW0]
  clear hW0
  obtain ⟨k0, k1, k2⟩ := FX.out _ (Below.refl _ _)
  go_region_held3 (fun w' => w'.cell? ⟨w.heap.size, 0, none⟩ = some (.int .i64 il) ∧ w'.cell? ⟨w.heap.size, 3, none⟩ = some (.int .i64 ah) ∧ w'.cell? ⟨w.heap.size, 5, none⟩ = some (.int .i64 bh))
    ((first | exact FX.out _ hB2 | exact FX.out _ B0 | exact FX.out _ (B0.alloc B0.size _)))
    ((go_at_call 101; refine (least2 _ _ ah bh _ (by simp; omega) (by simp only [World.cell?_drew]; exact new0 hz _ _ _) (by simp only [World.cell?_drew]; exact new1 hz _ _ _)).mono ?_; rintro e w1 ⟨rfl, hb1⟩; have hB2 := (B0.alloc B0.size (.cells #[.int .i64 ah, .int .i64 bh] 3)).trans (hb1.mono (Nat.le_trans B0.size (by simp)))))
  have hpw := prWrap h1 h2 h3
  go_wp2
  all_goals
    go_ret
    refine ⟨ret_int (by omega), hB.out.trans (hB2.mono (by omega))⟩
set_option maxRecDepth 100000 in
set_option maxHeartbeats 2000000 in
theorem mostPr_w (il ih al ah bl bh : Int) (w : World) (h1 : hOk ih) (h2 : hOk al) (h3 : hOk bl) :
    Calls Tryz.prog 111 #[.agg #[.int .i64 il, .int .i64 ih, .int .i64 al, .int .i64 ah, .int .i64 bl, .int .i64 bh]] w
      fun e w' => e = .returned (.int .i64 (max 0 (ih - min al bl))) ∧ Below w.heap.size w w' := by
  obtain ⟨W0, hW0⟩ : ∃ W0, W0 = w.alloc (.cells #[.int .i64 il, .int .i64 ih, .int .i64 al, .int .i64 ah, .int .i64 bl, .int .i64 bh] 141) := ⟨_, rfl⟩
  have hz : W0.heap.size = w.heap.size + 1 := by rw [hW0]; simp
  have FX : Hid (∀ w', Below W0.heap.size W0 w' → w'.cell? ⟨w.heap.size, 1, none⟩ = some (.int .i64 ih) ∧ w'.cell? ⟨w.heap.size, 2, none⟩ = some (.int .i64 al) ∧ w'.cell? ⟨w.heap.size, 4, none⟩ = some (.int .i64 bl)) := Lib.hid fun w' h => by
    have q : ∀ b o, b < W0.heap.size → w'.cell? ⟨b, o, none⟩ = W0.cell? ⟨b, o, none⟩ := (bcell h).1
    exact ⟨(q _ _ (by omega)).trans (by rw [hW0]; simp), (q _ _ (by omega)).trans (by rw [hW0]; simp), (q _ _ (by omega)).trans (by rw [hW0]; simp)⟩
  have B0 : Below W0.heap.size W0 W0.drew := (Below.refl _ _).drew
  have hB : Hid (Below w.heap.size w W0) := Lib.hid (by rw [hW0]; exact (Below.refl _ _).alloc (Nat.le_refl _) _)
  go_enter Tryz.func111, Tryz.ntmps111
  go_wp2
  rw [← hW0]
  clear hW0
  obtain ⟨k0, k1, k2⟩ := FX.out _ (Below.refl _ _)
  go_region_held3 (fun w' => w'.cell? ⟨w.heap.size, 1, none⟩ = some (.int .i64 ih) ∧ w'.cell? ⟨w.heap.size, 2, none⟩ = some (.int .i64 al) ∧ w'.cell? ⟨w.heap.size, 4, none⟩ = some (.int .i64 bl))
    ((first | exact FX.out _ hB2 | exact FX.out _ B0 | exact FX.out _ (B0.alloc B0.size _)))
    ((go_at_call 101; refine (least2 _ _ al bl _ (by simp; omega) (by simp only [World.cell?_drew]; exact new0 hz _ _ _) (by simp only [World.cell?_drew]; exact new1 hz _ _ _)).mono ?_; rintro e w1 ⟨rfl, hb1⟩; have hB2 := (B0.alloc B0.size (.cells #[.int .i64 al, .int .i64 bl] 3)).trans (hb1.mono (Nat.le_trans B0.size (by simp)))))
  have hpw := prWrap h1 h2 h3
  go_wp2
  all_goals
    go_ret
    refine ⟨ret_int (by omega), hB.out.trans (hB2.mono (by omega))⟩

abbrev segV (il ih al ah bl bh : Int) : Value := .agg #[.int .i64 il, .int .i64 ih, .int .i64 al, .int .i64 ah, .int .i64 bl, .int .i64 bh]
def prLo (il ah bh : Int) : Int := max 0 (il - min ah bh)
def prHi (ih al bl : Int) : Int := max 0 (ih - min al bl)

set_option maxRecDepth 100000 in
set_option maxHeartbeats 2000000 in
theorem segSpan_w (il ih al ah bl bh : Int) (w : World) (h1 : hOk il) (h2 : hOk ih) (h3 : hOk al) (h4 : hOk ah) (h5 : hOk bl) (h6 : hOk bh) :
    Calls Tryz.prog 97 #[.agg #[.func (.func 110) #[.agg #[.int .i64 il, .int .i64 ih, .int .i64 al, .int .i64 ah, .int .i64 bl, .int .i64 bh]] #[], .func (.func 111) #[.agg #[.int .i64 il, .int .i64 ih, .int .i64 al, .int .i64 ah, .int .i64 bl, .int .i64 bh]] #[]]] w
      fun e w' => e = .returned (.agg #[.int .i64 (prLo il ah bh), .int .i64 (prHi ih al bl)]) ∧ Below w.heap.size w w' := by
  go_enter Tryz.func97, Tryz.ntmps97
  go_wp2
  go_region_with (first
    | (go_at_call 110; refine (leastPr_w _ _ _ _ _ _ _ h1 h4 h6).mono ?_; rintro e w1 ⟨rfl, hb1⟩; obtain ⟨hc1, hf1⟩ := bcell hb1; have hz1 : w.heap.size + 1 < w1.heap.size := by (have := hb1.size; simp at this; omega))
    | (go_at_call 111; refine (mostPr_w _ _ _ _ _ _ _ h2 h3 h5).mono ?_; rintro e w2 ⟨rfl, hb2⟩; obtain ⟨hc2, hf2⟩ := bcell hb2; have hz2 : w.heap.size + 1 < w2.heap.size := by (have := hb2.size; omega)))
  all_goals
    have k0 : w2.cell? ⟨w.heap.size + 1, 0, none⟩ = some (.int .i64 0) := (hc2 (w.heap.size + 1) 0 hz1).trans ((hc1 (w.heap.size + 1) 0 (by simp)).trans (by simp))
    have k1 : w2.cell? ⟨w.heap.size + 1, 1, none⟩ = some (.int .i64 0) := (hc2 (w.heap.size + 1) 1 hz1).trans ((hc1 (w.heap.size + 1) 1 (by simp)).trans (by simp))
    clear hc1 hf1
    go_wp2
    refine bodyPost_ret (v := .agg #[.int .i64 (max 0 (il - min ah bh)), .int .i64 (max 0 (ih - min al bl))]) (by simp [results, Tryz.results97, go_sem, k0, k1]) rfl ⟨rfl, ?_⟩
    have hB : Below w.heap.size w w1 := by
      refine Below.trans ?_ (hb1.mono (by simp; omega))
      first
        | exact (((Below.refl _ _).alloc (Nat.le_refl _) _).alloc (by simp) _).drew
        | exact ((Below.refl _ _).alloc (Nat.le_refl _) _).alloc (by simp) _
    exact ((hB.trans (hb2.mono (by omega))).setCell (by simp) _).setCell (by simp) _
end Go.Kn
