/- Contracts of functions that the laws of this seat call, or the evaluator of closed calls and its runs. Conditions: as each theorem states them. -/
import Derived.Test.YtddlghdglknloaaGreatDoorP1
import Derived.Test.YtddlghdglknloaaGreatDoorP2
import Derived.Shelf.RegionOpen
set_option linter.unusedVariables false
set_option linter.unusedSimpArgs false
namespace Go.Kn
open Go Go.Proofs Go.RowKit
set_option maxRecDepth 100000 in
set_option maxHeartbeats 2000000 in
theorem notK_w (fb : Nat) (xb : Nat) (P : Nat → Int) (d : Nat) (B : Bool) (w : World) (h1 : w.cell? ⟨fb, 0, none⟩ = some (.func (.func 128) #[] #[.pointer (some ⟨xb, 0, none⟩)])) (HG : Hid (∀ w2, Below w.heap.size w w2 → Calls Tryz.prog 128 #[.int .i64 (P d), .pointer (some ⟨xb, 0, none⟩)] w2 fun e w' => e = .returned (.bool B) ∧ Below w2.heap.size w2 w')) :
    Calls Tryz.prog 145 #[.int .i64 (P d), .pointer (some ⟨fb, 0, none⟩)] w fun e w' => e = .returned (.bool (!B)) ∧ Below w.heap.size w w' := by
  have HG2 := Lib.hid (HG.out _ (Below.refl _ _))
  go_enter Tryz.func145, Tryz.ntmps145
  go_wp2_with (go_at_call 128; refine HG2.out.mono ?_; rintro e w5 ⟨rfl, hv⟩)
  go_ret
  exact ⟨rfl, hv⟩

set_option maxRecDepth 100000 in
set_option maxHeartbeats 2000000 in
theorem findK_w (pa : Option Addr) (lp cp fb : Nat) (xb : Nat) (P : Nat → Int) (B : Nat → Bool) (w : World) (hlp : lp ≤ 1000000) (HP : Hid (IntSl w pa lp P)) (h1 : w.cell? ⟨fb, 0, none⟩ = some (.func (.func 128) #[] #[.pointer (some ⟨xb, 0, none⟩)])) (hfb : fb < w.heap.size)
    (HG : Hid (∀ d w2, d < lp → Below w.heap.size w w2 → Calls Tryz.prog 128 #[.int .i64 (P d), .pointer (some ⟨xb, 0, none⟩)] w2 fun e w' => e = .returned (.bool (B d)) ∧ Below w2.heap.size w2 w')) :
    Calls Tryz.prog 129 #[.slice pa lp cp, .func (.func 145) #[] #[.pointer (some ⟨fb, 0, none⟩)]] w fun e w' => (∃ r, e = .returned (.int .i64 r) ∧ ((r = -1 ∧ allN B lp = true) ∨ (0 ≤ r ∧ allN B lp = false))) ∧ Below w.heap.size w w' := by
  have H1 := Lib.hid h1
  clear h1
  go_enter Tryz.func129, Tryz.ntmps129
  go_wp2
  go_loopw [8] (fun ii wr => ∃ k : Nat, k ≤ lp ∧ ii = .int .i64 (k : Int) ∧ allN B k = true ∧ Below w.heap.size w wr) (fun ii _ => lp - (Go.RowKit.intOf ii).toNat)
  case atStart => exact ⟨0, Nat.zero_le _, rfl, rfl, Below.refl _ _⟩
  case round =>
    obtain ⟨k, hk, rfl, hal, hbr⟩ := hrel
    have HAL := Lib.hid hal
    have HBR := Lib.hid hbr
    clear hal hbr
    by_cases hlt : k < lp
    · obtain ⟨A, O, rfl, hA, hN⟩ := HP.out.resolve_left (by omega)
      have y0 := (hN.below hA HBR.out) k hlt
      have n1 : (0 : Int) ≤ (k : Int) := by omega
      have n2 : (k : Int) < (lp : Int) := by omega
      have HNC := Lib.hid (notK_w fb xb P k (B k) wr ((HBR.out.cell (p := ⟨fb, 0, none⟩) hfb).trans H1.out) (Lib.hid fun w2 h => HG.out k w2 hlt (HBR.out.trans (h.mono HBR.out.size))))
      clear hN
      cases hB : B k with
      | true =>
        have HB := Lib.hid (allN_next HAL.out hB)
        rw [hB] at HNC
        clear hB
        go_wp2_with (go_at_call 145; refine HNC.out.mono ?_; rintro e w5 ⟨rfl, hv⟩)
        go_roundw
        case rel => exact ⟨k + 1, by omega, by go_num, HB.out, HBR.out.trans (hv.mono HBR.out.size)⟩
        case measure => simp [Go.RowKit.intOf]; omega
      | false =>
        have HB := Lib.hid (allN_no hlt hB)
        rw [hB] at HNC
        clear hB
        go_wp2_with (go_at_call 145; refine HNC.out.mono ?_; rintro e w5 ⟨rfl, hv⟩)
        go_ret
        exact ⟨⟨(k : Int), rfl, .inr ⟨n1, HB.out⟩⟩, HBR.out.trans (hv.mono HBR.out.size)⟩
    · obtain rfl : k = lp := by omega
      go_wp2
      go_ret
      exact ⟨⟨-1, rfl, .inl ⟨rfl, HAL.out⟩⟩, HBR.out⟩

set_option maxRecDepth 100000 in
set_option maxHeartbeats 2000000 in
theorem allK_w (pa : Option Addr) (lp cp : Nat) (xb : Nat) (P : Nat → Int) (B : Nat → Bool) (w : World) (hlp : lp ≤ 1000000) (HP : Hid (IntSl w pa lp P))
    (HG : Hid (∀ d w2, d < lp → Below w.heap.size w w2 → Calls Tryz.prog 128 #[.int .i64 (P d), .pointer (some ⟨xb, 0, none⟩)] w2 fun e w' => e = .returned (.bool (B d)) ∧ Below w2.heap.size w2 w')) :
    Calls Tryz.prog 110 #[.slice pa lp cp, .func (.func 128) #[] #[.pointer (some ⟨xb, 0, none⟩)]] w fun e w' => e = .returned (.bool (allN B lp)) ∧ Below w.heap.size w w' := by
  have hmf : ∀ (fn : Fn) (first cap : Array Value) (w : World), (Instr.makeFunc fn first cap).run Tryz.prog w = .ok (.func fn first cap) w := fun _ _ _ _ => rfl
  have hA : Below w.heap.size w (w.alloc (.cells #[.func (.func 128) #[] #[.pointer (some ⟨xb, 0, none⟩)]] 84)) := (Below.refl _ _).alloc (Nat.le_refl _) _
  have HF := Lib.hid (findK_w pa lp cp w.heap.size xb P B (w.alloc (.cells #[.func (.func 128) #[] #[.pointer (some ⟨xb, 0, none⟩)]] 84)) hlp (Lib.hid (HP.out.below hA)) (by simp) (by simp) (Lib.hid fun d w2 hd h => HG.out d w2 hd (hA.trans (h.mono hA.size))))
  have HC : Hid (Calls Tryz.prog 144 #[.slice pa lp cp, .func (.func 145) #[] #[.pointer (some ⟨w.heap.size, 0, none⟩)]] (w.alloc (.cells #[.func (.func 128) #[] #[.pointer (some ⟨xb, 0, none⟩)]] 84)) fun e w' => e = .returned (.bool (!allN B lp)) ∧ Below (w.alloc (.cells #[.func (.func 128) #[] #[.pointer (some ⟨xb, 0, none⟩)]] 84)).heap.size (w.alloc (.cells #[.func (.func 128) #[] #[.pointer (some ⟨xb, 0, none⟩)]] 84)) w') := Lib.hid (by
    go_enter Tryz.func144, Tryz.ntmps144
    go_wp2_with (go_at_call 129; refine HF.out.mono ?_; rintro e w5 ⟨⟨r, rfl, ⟨rfl, hal⟩ | ⟨hr, hal⟩⟩, hv⟩)
    · go_ret
      exact ⟨by rw [hal]; rfl, hv⟩
    · go_wp2
      go_ret
      exact ⟨by rw [hal]; simp [hr], hv⟩)
  go_enter Tryz.func110, Tryz.ntmps110
  go_wp2_with (go_at_call 144; refine HC.out.mono ?_; rintro e w5 ⟨rfl, hv⟩)
  go_ret
  exact ⟨by cases allN B lp <;> rfl, below_al hv⟩
end Go.Kn

namespace Go.Kn
open Go Go.Proofs Go.RowKit

set_option maxRecDepth 100000 in
theorem ac1_w (B k : Nat) (b : Bool) (w : World) (hk : k < 10) (hc : w.cell? ⟨B, k, none⟩ = some (.bool b)) :
    Calls Tryz.prog 128 #[.int .i64 (k : Int), .pointer (some ⟨B, 0, none⟩)] w fun e w' => e = .returned (.bool (!b)) ∧ Below w.heap.size w w' := by
  have n1 : (0 : Int) ≤ (k : Int) := by omega
  have n2 : (k : Int) < 10 := by omega
  cases b
  all_goals
    go_enter Tryz.func128, Tryz.ntmps128
    go_wp2
    go_ret
    exact ⟨rfl, Below.refl _ _⟩
/-- whether none of some gates is open -/
def clsB (q : Nat → Bool) (t : Nat → Int) (n : Nat) : Bool := allN (fun i => !q (t i).toNat) n

set_option maxRecDepth 100000 in
set_option maxHeartbeats 2000000 in
theorem closed_w (ta : Option Addr) (n tc : Nat) (q : Nat → Bool) (t : Nat → Int) (w : World) (hn : n ≤ 1000000) (HB : Hid (∀ i, i < n → 0 ≤ t i ∧ t i < 10)) (HT : Hid (IntSl w ta n t)) :
    Calls Tryz.prog 84 #[opV q, .slice ta n tc] w fun e w' => e = .returned (.bool (clsB q t n)) ∧ Below w.heap.size w w' := by
  have hmf : ∀ (fn : Fn) (first cap : Array Value) (w : World), (Instr.makeFunc fn first cap).run Tryz.prog w = .ok (.func fn first cap) w := fun _ _ _ _ => rfl
  obtain ⟨W0, hW0⟩ : ∃ W0, W0 = w.alloc (.cells #[.bool (q 0), .bool (q 1), .bool (q 2), .bool (q 3), .bool (q 4), .bool (q 5), .bool (q 6), .bool (q 7), .bool (q 8), .bool (q 9)] 79) := ⟨_, rfl⟩
  have hA : Below w.heap.size w W0 := by rw [hW0]; exact (Below.refl _ _).alloc (Nat.le_refl _) _
  have hc : ∀ j, j < 10 → W0.cell? ⟨w.heap.size, j, none⟩ = some (.bool (q j)) := by
    rw [hW0]
    refine ten ?_ ?_ ?_ ?_ ?_ ?_ ?_ ?_ ?_ ?_
    all_goals exact al_get rfl rfl
  have hlt : w.heap.size < W0.heap.size := by rw [hW0]; simp
  have HAL : Hid (Calls Tryz.prog 110 #[.slice ta n tc, .func (.func 128) #[] #[.pointer (some ⟨w.heap.size, 0, none⟩)]] W0 fun e w' => e = .returned (.bool (clsB q t n)) ∧ Below W0.heap.size W0 w') := Lib.hid (allK_w ta n tc w.heap.size t (fun i => !q (t i).toNat) W0 hn (Lib.hid (HT.out.below hA)) (Lib.hid fun d w2 hd h => by
    have hb := HB.out d hd
    obtain ⟨k, hk⟩ : ∃ k : Nat, t d = (k : Int) := ⟨(t d).toNat, by omega⟩
    have h2 := ac1_w w.heap.size k (q k) w2 (by omega) (((bcell h).1 _ _ hlt).trans (hc k (by omega)))
    rw [hk]
    simpa using h2))
  have HA := Lib.hid hA
  obtain ⟨b, hb⟩ : ∃ b, clsB q t n = b := ⟨_, rfl⟩
  rw [hb] at HAL ⊢
  simp only [opV]
  clear hA hc hlt hb HT
  go_enter Tryz.func84, Tryz.ntmps84
  go_wp2_with (go_at_call 110; rw [← hW0]; refine HAL.out.mono ?_; rintro e w5 ⟨rfl, hv⟩)
  go_ret
  exact ⟨rfl, HA.out.trans (hv.mono HA.out.size)⟩
end Go.Kn

namespace Go.Kn
open Go Go.Proofs Go.RowKit

set_option maxRecDepth 100000 in
set_option maxHeartbeats 4000000 in
/-- gate.Moves' right: gates after which channels are emptied -/
theorem s82_w (pa ca sa ta : Option Addr) (lp cp lc cc m sc n tc nb pb ob : Nat) (P : Nat → P8) (C : Nat → C8) (p : Nat → Bool) (s t : Nat → Int) (w : World) (HB : Hid (NetB lp P lc C)) (hm : m ≤ 1000000) (hn : n ≤ 1000000) (HSB : Hid (∀ i, i < m → 0 ≤ s i ∧ s i < 10)) (HTB : Hid (∀ i, i < n → 0 ≤ t i ∧ t i < 10)) (H : Hid (Ne8 w pa ca lp lc P C)) (h0 : w.cell? ⟨nb, 0, none⟩ = some (.slice pa lp cp)) (h1 : w.cell? ⟨nb, 1, none⟩ = some (.slice ca lc cc)) (hp : Hid (∀ j, j < 10 → w.cell? ⟨pb, j, none⟩ = some (.bool (p j)))) (ho : w.cell? ⟨ob, 0, none⟩ = some (.slice ta n tc)) (HS : Hid (IntSl w sa m s)) (HT : Hid (IntSl w ta n t)) :
    Calls Tryz.prog 82 #[.slice sa m sc, .pointer (some ⟨nb, 0, none⟩), .pointer (some ⟨pb, 0, none⟩), .pointer (some ⟨ob, 0, none⟩)] w fun r w' => r = .returned (.bool (clsB (togF p s m) t n && fedV lp P lc C (togF p s m) false)) ∧ Below w.heap.size w w' := by
  have hnb : nb < w.heap.size := cell_lt h0
  have hpb : pb < w.heap.size := cell_lt (hp.out 0 (by decide))
  have hob : ob < w.heap.size := cell_lt ho
  have HMO : Hid (∀ w2, Below w.heap.size w w2 → Calls Tryz.prog 83 #[opV p, .slice sa m sc] w2 fun e w' => e = .returned (opV (togF p s m)) ∧ Below w2.heap.size w2 w') := Lib.hid fun w2 h => moved_w sa m sc p s w2 hm HSB (Lib.hid (HS.out.below h))
  have HCL : Hid (∀ w2, Below w.heap.size w w2 → Calls Tryz.prog 84 #[opV (togF p s m), .slice ta n tc] w2 fun e w' => e = .returned (.bool (clsB (togF p s m) t n)) ∧ Below w2.heap.size w2 w') := Lib.hid fun w2 h => closed_w ta n tc (togF p s m) t w2 hn HTB (Lib.hid (HT.out.below h))
  have HFD : Hid (∀ w2, Below w.heap.size w w2 → Calls Tryz.prog 64 #[.agg (opC pa ca lp cp lc cc (togF p s m)), .int .i64 0] w2 fun e w' => e = .returned (.bool (fedV lp P lc C (togF p s m) false)) ∧ Below w2.heap.size w2 w') := Lib.hid fun w2 h => isFed_w pa ca lp cp lc cc P C (togF p s m) false w2 HB (Lib.hid (H.out.below h))
  obtain ⟨q, hq⟩ : ∃ q, togF p s m = q := ⟨_, rfl⟩
  rw [hq] at HMO HCL HFD ⊢
  obtain ⟨c1, hc1⟩ : ∃ b, clsB q t n = b := ⟨_, rfl⟩
  obtain ⟨c2, hc2⟩ : ∃ b, fedV lp P lc C q false = b := ⟨_, rfl⟩
  rw [hc1] at HCL ⊢
  rw [hc2] at HFD ⊢
  simp only [opV] at HMO HCL
  simp only [opC] at HFD
  have p0 := hp.out 0 (by decide)
  have p1 := hp.out 1 (by decide)
  have p2 := hp.out 2 (by decide)
  have p3 := hp.out 3 (by decide)
  have p4 := hp.out 4 (by decide)
  have p5 := hp.out 5 (by decide)
  have p6 := hp.out 6 (by decide)
  have p7 := hp.out 7 (by decide)
  have p8 := hp.out 8 (by decide)
  have p9 := hp.out 9 (by decide)
  obtain ⟨Z, hZ⟩ : ∃ Z, Z = Obj.cells #[.slice none 0 0, .slice none 0 0, .bool false, .bool false, .bool false, .bool false, .bool false, .bool false, .bool false, .bool false, .bool false, .bool false] 81 := ⟨_, rfl⟩
  have HRA : Hid (Cel (w.drew.alloc (Obj.cells #[.slice none 0 0, .slice none 0 0, .bool false, .bool false, .bool false, .bool false, .bool false, .bool false, .bool false, .bool false, .bool false, .bool false] 81)) w.heap.size 12 (opG none none 0 0 0 0 fun _ => false)) := Lib.hid (by
    refine ⟨twelve ?_ ?_ ?_ ?_ ?_ ?_ ?_ ?_ ?_ ?_ ?_ ?_, twelve ?_ ?_ ?_ ?_ ?_ ?_ ?_ ?_ ?_ ?_ ?_ ?_⟩
    all_goals first | exact al_get rfl rfl | exact al_frz2 rfl)
  have HD : Hid (Below w.heap.size w w.drew) := Lib.hid (below_drew (Below.refl _ _))
  have HDA : Hid (Below w.heap.size w (w.drew.alloc (Obj.cells #[.slice none 0 0, .slice none 0 0, .bool false, .bool false, .bool false, .bool false, .bool false, .bool false, .bool false, .bool false, .bool false, .bool false] 81))) := Lib.hid (HD.out.alloc (Nat.le_refl _) _)
  have HSZ : Hid (w.heap.size < (w.drew.alloc (Obj.cells #[.slice none 0 0, .slice none 0 0, .bool false, .bool false, .bool false, .bool false, .bool false, .bool false, .bool false, .bool false, .bool false, .bool false] 81)).heap.size) := Lib.hid (by simp)
  have a0 : ∀ o, (w.alloc o).cell? ⟨nb, 0, none⟩ = some (.slice pa lp cp) := fun o => (World.cell?_alloc_lt _ _ ⟨nb, 0, none⟩ hnb).trans h0
  have a1 : ∀ o, (w.alloc o).cell? ⟨nb, 1, none⟩ = some (.slice ca lc cc) := fun o => (World.cell?_alloc_lt _ _ ⟨nb, 1, none⟩ hnb).trans h1
  have b0 : ∀ o, (w.alloc o).cell? ⟨pb, 0, none⟩ = some (.bool (p 0)) := fun o => (World.cell?_alloc_lt _ _ ⟨pb, 0, none⟩ hpb).trans p0
  have b1 : ∀ o, (w.alloc o).cell? ⟨pb, 1, none⟩ = some (.bool (p 1)) := fun o => (World.cell?_alloc_lt _ _ ⟨pb, 1, none⟩ hpb).trans p1
  have b2 : ∀ o, (w.alloc o).cell? ⟨pb, 2, none⟩ = some (.bool (p 2)) := fun o => (World.cell?_alloc_lt _ _ ⟨pb, 2, none⟩ hpb).trans p2
  have b3 : ∀ o, (w.alloc o).cell? ⟨pb, 3, none⟩ = some (.bool (p 3)) := fun o => (World.cell?_alloc_lt _ _ ⟨pb, 3, none⟩ hpb).trans p3
  have b4 : ∀ o, (w.alloc o).cell? ⟨pb, 4, none⟩ = some (.bool (p 4)) := fun o => (World.cell?_alloc_lt _ _ ⟨pb, 4, none⟩ hpb).trans p4
  have b5 : ∀ o, (w.alloc o).cell? ⟨pb, 5, none⟩ = some (.bool (p 5)) := fun o => (World.cell?_alloc_lt _ _ ⟨pb, 5, none⟩ hpb).trans p5
  have b6 : ∀ o, (w.alloc o).cell? ⟨pb, 6, none⟩ = some (.bool (p 6)) := fun o => (World.cell?_alloc_lt _ _ ⟨pb, 6, none⟩ hpb).trans p6
  have b7 : ∀ o, (w.alloc o).cell? ⟨pb, 7, none⟩ = some (.bool (p 7)) := fun o => (World.cell?_alloc_lt _ _ ⟨pb, 7, none⟩ hpb).trans p7
  have b8 : ∀ o, (w.alloc o).cell? ⟨pb, 8, none⟩ = some (.bool (p 8)) := fun o => (World.cell?_alloc_lt _ _ ⟨pb, 8, none⟩ hpb).trans p8
  have b9 : ∀ o, (w.alloc o).cell? ⟨pb, 9, none⟩ = some (.bool (p 9)) := fun o => (World.cell?_alloc_lt _ _ ⟨pb, 9, none⟩ hpb).trans p9
  clear hZ H hq hc1 hc2 HS HT hp
  go_enter Tryz.func82, Tryz.ntmps82
  go_wp2
  go_region_law ((first
    | (go_simp; go_at_call 83; refine (HMO.out _ HDA.out).mono ?_; rintro e wr ⟨rfl, hv⟩; have HV := Lib.hid (HDA.out.trans (hv.mono HDA.out.size)); have HR1 := Lib.hid (HRA.out.below HSZ.out hv); clear hv; replace h0 := ((bcell HV.out).1 _ _ hnb).trans h0; replace h1 := ((bcell HV.out).1 _ _ hnb).trans h1; replace ho := ((bcell HV.out).1 _ _ hob).trans ho; clear a0 a1 b0 p0 b1 p1 b2 p2 b3 p3 b4 p4 b5 p5 b6 p6 b7 p7 b8 p8 b9 p9; have r0 := HR1.out.c 0 (by decide); have r1 := HR1.out.c 1 (by decide); have r2 := HR1.out.c 2 (by decide); have r3 := HR1.out.c 3 (by decide); have r4 := HR1.out.c 4 (by decide); have r5 := HR1.out.c 5 (by decide); have r6 := HR1.out.c 6 (by decide); have r7 := HR1.out.c 7 (by decide); have r8 := HR1.out.c 8 (by decide); have r9 := HR1.out.c 9 (by decide); have r10 := HR1.out.c 10 (by decide); have r11 := HR1.out.c 11 (by decide); have f0 := HR1.out.f 0 (by decide); have f1 := HR1.out.f 1 (by decide); have f2 := HR1.out.f 2 (by decide); have f3 := HR1.out.f 3 (by decide); have f4 := HR1.out.f 4 (by decide); have f5 := HR1.out.f 5 (by decide); have f6 := HR1.out.f 6 (by decide); have f7 := HR1.out.f 7 (by decide); have f8 := HR1.out.f 8 (by decide); have f9 := HR1.out.f 9 (by decide); have f10 := HR1.out.f 10 (by decide); have f11 := HR1.out.f 11 (by decide))
    | (go_simp; go_at_call 83; refine (HMO.out _ HD.out).mono ?_; rintro e wr ⟨rfl, hv⟩; have HV := Lib.hid (HD.out.trans (hv.mono HD.out.size)); clear hv; replace h0 := ((bcell HV.out).1 _ _ hnb).trans h0; replace h1 := ((bcell HV.out).1 _ _ hnb).trans h1; replace ho := ((bcell HV.out).1 _ _ hob).trans ho; clear a0 a1 b0 p0 b1 p1 b2 p2 b3 p3 b4 p4 b5 p5 b6 p6 b7 p7 b8 p8 b9 p9; have e0 : ∀ o, (wr.alloc o).cell? ⟨nb, 0, none⟩ = some (.slice pa lp cp) := (fun o => (World.cell?_alloc_lt _ _ ⟨nb, 0, none⟩ (by have := HV.out.size; show nb < _; omega)).trans h0); have e1 : ∀ o, (wr.alloc o).cell? ⟨nb, 1, none⟩ = some (.slice ca lc cc) := (fun o => (World.cell?_alloc_lt _ _ ⟨nb, 1, none⟩ (by have := HV.out.size; show nb < _; omega)).trans h1))))
  all_goals
    first
      | (obtain ⟨W9, hW9⟩ : ∃ W9, W9 = wr.alloc (.cells #[.slice pa lp cp, .slice ca lc cc, .bool (q 0), .bool (q 1), .bool (q 2), .bool (q 3), .bool (q 4), .bool (q 5), .bool (q 6), .bool (q 7), .bool (q 8), .bool (q 9)] 81) := ⟨_, rfl⟩
         rw [← hW9]
         have hB9 : wr.heap.size < W9.heap.size := by rw [hW9]; simp
         have d0 : W9.cell? ⟨wr.heap.size, 0, none⟩ = some (Value.slice pa lp cp) := by rw [hW9]; exact al_get rfl rfl
         have d1 : W9.cell? ⟨wr.heap.size, 1, none⟩ = some (Value.slice ca lc cc) := by rw [hW9]; exact al_get rfl rfl
         have d2 : W9.cell? ⟨wr.heap.size, 2, none⟩ = some (.bool (q 0)) := by rw [hW9]; exact al_get rfl rfl
         have d3 : W9.cell? ⟨wr.heap.size, 3, none⟩ = some (.bool (q 1)) := by rw [hW9]; exact al_get rfl rfl
         have d4 : W9.cell? ⟨wr.heap.size, 4, none⟩ = some (.bool (q 2)) := by rw [hW9]; exact al_get rfl rfl
         have d5 : W9.cell? ⟨wr.heap.size, 5, none⟩ = some (.bool (q 3)) := by rw [hW9]; exact al_get rfl rfl
         have d6 : W9.cell? ⟨wr.heap.size, 6, none⟩ = some (.bool (q 4)) := by rw [hW9]; exact al_get rfl rfl
         have d7 : W9.cell? ⟨wr.heap.size, 7, none⟩ = some (.bool (q 5)) := by rw [hW9]; exact al_get rfl rfl
         have d8 : W9.cell? ⟨wr.heap.size, 8, none⟩ = some (.bool (q 6)) := by rw [hW9]; exact al_get rfl rfl
         have d9 : W9.cell? ⟨wr.heap.size, 9, none⟩ = some (.bool (q 7)) := by rw [hW9]; exact al_get rfl rfl
         have d10 : W9.cell? ⟨wr.heap.size, 10, none⟩ = some (.bool (q 8)) := by rw [hW9]; exact al_get rfl rfl
         have d11 : W9.cell? ⟨wr.heap.size, 11, none⟩ = some (.bool (q 9)) := by rw [hW9]; exact al_get rfl rfl
         have ho9 : W9.cell? ⟨ob, 0, none⟩ = some (.slice ta n tc) := by rw [hW9]; exact (World.cell?_alloc_lt _ _ ⟨ob, 0, none⟩ (by have := HV.out.size; show ob < _; omega)).trans ho
         have HV9 : Hid (Below w.heap.size w W9) := Lib.hid (by rw [hW9]; exact HV.out.alloc HV.out.size _)
         clear hW9 e0 e1
         cases c1 <;> cases c2
         all_goals
           go_wp2_with (first
             | (go_at_call 84; refine (HCL.out _ HV9.out).mono ?_; rintro e w7 ⟨rfl, hv⟩; have HV7 := Lib.hid (HV9.out.trans (hv.mono HV9.out.size)); have e0 := ((bcell hv).1 _ _ hB9).trans d0; have e1 := ((bcell hv).1 _ _ hB9).trans d1; have e2 := ((bcell hv).1 _ _ hB9).trans d2; have e3 := ((bcell hv).1 _ _ hB9).trans d3; have e4 := ((bcell hv).1 _ _ hB9).trans d4; have e5 := ((bcell hv).1 _ _ hB9).trans d5; have e6 := ((bcell hv).1 _ _ hB9).trans d6; have e7 := ((bcell hv).1 _ _ hB9).trans d7; have e8 := ((bcell hv).1 _ _ hB9).trans d8; have e9 := ((bcell hv).1 _ _ hB9).trans d9; have e10 := ((bcell hv).1 _ _ hB9).trans d10; have e11 := ((bcell hv).1 _ _ hB9).trans d11; clear hv d0 d1 d2 d3 d4 d5 d6 d7 d8 d9 d10 d11 ho9)
             | (go_at_call 64; refine (HFD.out _ HV7.out).mono ?_; rintro e w8 ⟨rfl, hv⟩; replace HV7 := Lib.hid (HV7.out.trans (hv.mono HV7.out.size)); clear hv))
           go_ret
           exact ⟨rfl, HV7.out⟩)
      | (obtain ⟨W9, hW9⟩ : ∃ W9, W9 = o12_set wr w.heap.size pa ca lp cp lc cc q := ⟨_, rfl⟩
         have HT9 : Cel W9 w.heap.size 12 (opG pa ca lp cp lc cc q) := by rw [hW9]; exact HR1.out.write _ _ _ _ _ _ _
         have HF9 : Frx [w.heap.size] wr W9 := by rw [hW9]; exact o12_frx (by simp)
         unfold o12_set at hW9
         rw [← hW9]
         have hB9 : w.heap.size < W9.heap.size := by have := HF9.size; have := cell_lt r0; omega
         have d0 := HT9.c 0 (by decide)
         have d1 := HT9.c 1 (by decide)
         have d2 := HT9.c 2 (by decide)
         have d3 := HT9.c 3 (by decide)
         have d4 := HT9.c 4 (by decide)
         have d5 := HT9.c 5 (by decide)
         have d6 := HT9.c 6 (by decide)
         have d7 := HT9.c 7 (by decide)
         have d8 := HT9.c 8 (by decide)
         have d9 := HT9.c 9 (by decide)
         have d10 := HT9.c 10 (by decide)
         have d11 := HT9.c 11 (by decide)
         simp only [opG] at d0 d1 d2 d3 d4 d5 d6 d7 d8 d9 d10 d11
         have ho9 : W9.cell? ⟨ob, 0, none⟩ = some (.slice ta n tc) := (HF9.cell (by have := HV.out.size; omega) (by simp; omega)).trans ho
         have HV9 : Hid (Below w.heap.size w W9) := Lib.hid (HV.out.trans (HF9.below (by have := HV.out.size; omega) (by simp)))
         clear hW9 r0 r1 r2 r3 r4 r5 r6 r7 r8 r9 r10 r11 f0 f1 f2 f3 f4 f5 f6 f7 f8 f9 f10 f11
         cases c1 <;> cases c2
         all_goals
           go_wp2_with (first
             | (go_at_call 84; refine (HCL.out _ HV9.out).mono ?_; rintro e w7 ⟨rfl, hv⟩; have HV7 := Lib.hid (HV9.out.trans (hv.mono HV9.out.size)); have e0 := ((bcell hv).1 _ _ hB9).trans d0; have e1 := ((bcell hv).1 _ _ hB9).trans d1; have e2 := ((bcell hv).1 _ _ hB9).trans d2; have e3 := ((bcell hv).1 _ _ hB9).trans d3; have e4 := ((bcell hv).1 _ _ hB9).trans d4; have e5 := ((bcell hv).1 _ _ hB9).trans d5; have e6 := ((bcell hv).1 _ _ hB9).trans d6; have e7 := ((bcell hv).1 _ _ hB9).trans d7; have e8 := ((bcell hv).1 _ _ hB9).trans d8; have e9 := ((bcell hv).1 _ _ hB9).trans d9; have e10 := ((bcell hv).1 _ _ hB9).trans d10; have e11 := ((bcell hv).1 _ _ hB9).trans d11; clear hv d0 d1 d2 d3 d4 d5 d6 d7 d8 d9 d10 d11 ho9)
             | (go_at_call 64; refine (HFD.out _ HV7.out).mono ?_; rintro e w8 ⟨rfl, hv⟩; replace HV7 := Lib.hid (HV7.out.trans (hv.mono HV7.out.size)); clear hv))
           go_ret
           exact ⟨rfl, HV7.out⟩)
end Go.Kn
