/- Contracts of functions that the laws of this seat call, or the evaluator of closed calls and its runs. Conditions: as each theorem states them. -/
import Derived.Test.YtddlghdglknloaaGreatDoorG2
import Derived.Recover
import Derived.Defers
import Derived.BigQuiet
set_option linter.unusedVariables false
set_option linter.unusedSimpArgs false
namespace Go.Kn
open Go Go.Proofs Go.RowKit

theorem yieldAt_any {m : Nat} (m' : Nat) {P : Program} {l : Nat} {args : Array Value} {W : World} {R : Ending → World → Prop} (h : YieldAt Fence.wide m P l args W R) : YieldAt Fence.wide m' P l args W R := by
  obtain ⟨fn, tmps, assign, body, hy, hR⟩ := h
  exact ⟨fn, tmps, assign, body, hy, hR.1, fun c cs _ => hR.2 c cs (fun d h => by cases h)⟩
/-- numbers in memory that no round writes -/
def NumK (W : World) (X : Nat → Prop) (na : Option Addr) (n : Nat) (N : List Nat) : Prop := n = 0 ∨ ∃ A O, na = some ⟨A, O, none⟩ ∧ A < W.heap.size ∧ ¬ X A ∧ NumAt W A O n (lgI N)

set_option maxRecDepth 100000 in
set_option maxHeartbeats 4000000 in
/-- the iterator that lists hands back -/
theorem lists_it (M : Nat) (X : Nat → Prop) (hX : ∀ k, X k → k < M) (l n cn Bn : Nat) (na : Option Addr) (N : List Nat) (J : List Ls → World → Prop) (Jp : List PanicEntry → World → Prop) (W : World) (hm : M ≤ W.heap.size) (hB1 : Bn < W.heap.size) (hB2 : ¬ X Bn) (hcn : W.cell? ⟨Bn, 0, none⟩ = some (.slice na n cn))
    (hnum : NumK W X na n N) (hnl : N.length = n) (hn20 : n ≤ 20) (hJ : ∀ s A B, J s A → Below M A B → J s B)
    (hY : ∀ k pre x W1, AtL W1 W.heap.size x → x.c.Sublist N → J pre W1 → YieldAt Fence.wide k Tryz.prog l #[x.v] W1 fun e W' => (e = .returned (.bool true) ∧ J (pre ++ [x]) W' ∧ KpR X W1 W') ∨ (∃ ch, e = .panicked ch ∧ Jp ch W')) (h0 : J [] W) :
    CallsIn Fence.wide 5 Tryz.prog 119 (#[.func (.yield l) #[] #[]] ++ #[.pointer (some ⟨Bn, 0, none⟩)]) W fun e W' => ((∃ v, e = .returned v) ∧ ∃ xs, (xs.map Ls.c = allLs N ∧ ∀ x ∈ xs, AtL W' W.heap.size x) ∧ J xs W') ∨ (∃ ch, e = .panicked ch ∧ Jp ch W') := by
  obtain ⟨B, hBW⟩ : ∃ B, B = W.heap.size := ⟨_, rfl⟩
  have caps : Array Value := #[]
  obtain ⟨Wz, hWz⟩ : ∃ Wz, Wz = ((W.alloc (.cells #[.func (.yield l) #[] #[]] 83)).alloc (.cells #[.slice none 0 0] 26)).alloc (.cells #[.func (.func 120) #[] #[.pointer (some ⟨W.heap.size, 0, none⟩), .pointer (some ⟨W.heap.size + 1, 0, none⟩), .pointer (some ⟨Bn, 0, none⟩), .pointer (some ⟨W.heap.size + 1 + 1, 0, none⟩)]] 84) := ⟨_, rfl⟩
  have hz : Wz.heap.size = W.heap.size + 3 := by rw [hWz]; simp
  have hbz : Below W.heap.size W Wz := by rw [hWz]; exact (((Below.refl _ _).alloc (Nat.le_refl _) _).alloc (by simp) _).alloc (by simp; omega) _
  have g0 : Wz.cell? ⟨W.heap.size, 0, none⟩ = some (.func (.yield l) #[] #[]) := by
    rw [hWz]
    exact (World.cell?_alloc_lt _ _ _ (by simp; omega)).trans ((World.cell?_alloc_lt _ _ _ (by simp)).trans (al_top rfl _ _))
  have g1 : Boxed Wz (W.heap.size + 1) 26 (.slice none 0 0) := by
    rw [hWz]
    have := Boxed.new (W.alloc (.cells #[.func (.yield l) #[] #[]] 83)) 26 (.slice none 0 0)
    rw [World.size_alloc] at this
    exact this.alloc _
  have g2 : Wz.cell? ⟨W.heap.size + 1 + 1, 0, none⟩ = some (.func (.func 120) #[] #[.pointer (some ⟨W.heap.size, 0, none⟩), .pointer (some ⟨W.heap.size + 1, 0, none⟩), .pointer (some ⟨Bn, 0, none⟩), .pointer (some ⟨W.heap.size + 1 + 1, 0, none⟩)]) := by
    rw [hWz]; exact al_top (by simp) _ _
  have g3 : Wz.cell? ⟨Bn, 0, none⟩ = some (.slice na n cn) := (hbz.cell (p := ⟨Bn, 0, none⟩) hB1).trans hcn
  let E : LE := { W0 := Wz, M := M, X := X, Bl := W.heap.size + 1, By := W.heap.size, Bn := Bn, Bg := W.heap.size + 1 + 1, na := na, n := n, cn := cn, l := l, N := N, J := J, Jp := Jp }
  have ok : E.Ok := by
    refine ⟨?_, ?_, ?_, g0, g3, g2, ?_, hnl, hn20, hX, ?_, ?_, hJ, ?_⟩
    · exact ⟨by show W.heap.size < Wz.heap.size; omega, fun (hx : X W.heap.size) => by have := hX _ hx; omega, by show W.heap.size ≠ W.heap.size + 1; omega⟩
    · exact ⟨by show Bn < Wz.heap.size; omega, hB2, by show Bn ≠ W.heap.size + 1; omega⟩
    · exact ⟨by show W.heap.size + 1 + 1 < Wz.heap.size; omega, fun (hx : X (W.heap.size + 1 + 1)) => by have := hX _ hx; omega, by show W.heap.size + 1 + 1 ≠ W.heap.size + 1; omega⟩
    · rcases hnum with h | ⟨A, O, ha, hA, hk, hN⟩
      · exact .inl h
      · exact .inr ⟨A, O, ha, ⟨by show A < Wz.heap.size; omega, hk, by show A ≠ W.heap.size + 1; omega⟩, hN.below hA hbz⟩
    · show M ≤ W.heap.size + 1; omega
    · show W.heap.size + 1 < Wz.heap.size; omega
    · intro k pre x W1 hx hs hj
      exact hY k pre x W1 (hx.low (by show W.heap.size ≤ Wz.heap.size; omega)) hs hj
  have st : E.St Wz [] [] := ⟨Nat.le_refl _, fun _ _ => rfl, ⟨_, g1, ⟨rfl, .inl ⟨rfl, rfl⟩⟩, fun y hy => (by cases hy)⟩, fun y hy => (by cases hy), hJ _ _ _ h0 (hbz.mono hm)⟩
  have HG := Lib.hid (goOn_w E (Lib.hid ok) (n + 1) N 0 [] [] Wz (by omega) (by show 0 + N.length = n; omega) (Lib.hid rfl) (Lib.hid (List.nil_sublist _)) (fun _ => g1) (Lib.hid st))
  have HZ := Lib.hid hz
  have hargs : E.args 0 = #[.int .i64 0, .pointer (some ⟨W.heap.size, 0, none⟩), .pointer (some ⟨W.heap.size + 1, 0, none⟩), .pointer (some ⟨Bn, 0, none⟩), .pointer (some ⟨W.heap.size + 1 + 1, 0, none⟩)] := rfl
  rw [hargs] at HG
  have HP : Hid (∀ (e : Ending) (W' : World), ((e = .returned (.bool true) ∧ ∃ zs, zs.map Ls.c = [] :: forL [] N ∧ E.St W' [] ([] ++ zs)) ∨ (∃ ch, e = .panicked ch ∧ E.Jp ch W')) → (e = .returned (.bool true) ∧ ∃ xs, (xs.map Ls.c = allLs N ∧ ∀ x ∈ xs, AtL W' W.heap.size x) ∧ J xs W') ∨ (∃ ch, e = .panicked ch ∧ Jp ch W')) := Lib.hid fun e W' h => by
    rcases h with ⟨he, zs, h1, h2⟩ | ⟨ch, he, hp⟩
    · exact .inl ⟨he, zs, ⟨h1, fun x hx => (h2.yy x (by simpa using hx)).low (by show W.heap.size ≤ Wz.heap.size; omega)⟩, by simpa using h2.J⟩
    · exact .inr ⟨ch, he, hp⟩
  clear hargs ok st g0 g1 g3 hY hJ h0 hnum hcn hbz hz
  clear_value E
  refine callsIn_wide.2 ?_
  show Calls Tryz.prog 119 #[.func (.yield l) #[] #[], .pointer (some ⟨Bn, 0, none⟩)] W _
  have hmf : ∀ (fn : Fn) (first cap : Array Value) (w : World), (Instr.makeFunc fn first cap).run Tryz.prog w = .ok (.func fn first cap) w := fun _ _ _ _ => rfl
  rw [hWz] at g2
  go_enter Tryz.func119, Tryz.ntmps119
  go_wp2_with (go_at_call 120; rw [← hWz]; refine HG.out.mono ?_; rintro e w10 hor; rcases (HP.out _ _ hor).symm with ⟨ch, rfl, hp⟩ | ⟨rfl, hx⟩)
  · exact ⟨rfl, .inr ⟨ch, rfl, hp⟩⟩
  · have HX := Lib.hid hx
    clear hx
    go_end0
    exact .inl ⟨⟨_, rfl⟩, HX.out⟩
end Go.Kn

namespace Go.Kn
open Go Go.Proofs Go.RowKit

theorem ta_nil1 (w : World) : (Instr.typeAssert Value.nilIface 20 126 true).run Tryz.prog w = .ok (.tuple #[.agg #[], .bool false]) w := by kernel_rfl

theorem ta_nil2 (w : World) : (Instr.typeAssert Value.nilIface 20 127 true).run Tryz.prog w = .ok (.tuple #[.agg #[], .bool false]) w := by kernel_rfl

theorem ta_rate (w : World) : (Instr.typeAssert (Value.iface 126 (.agg #[])) 20 126 true).run Tryz.prog w = .ok (.tuple #[.agg #[], .bool true]) w := by kernel_rfl

set_option maxRecDepth 100000 in
set_option maxHeartbeats 1000000 in
theorem catch_none (p : Addr) (w : World) :
    CallsD Tryz.prog 117 #[.pointer (some p)] .returning w fun e u' w' => e = .returned (.tuple #[]) ∧ u' = .returning ∧ w' = w := by
  refine callsD_of_wpS Tryz.func117 rfl fun c₀ cs hu => ?_
  have h1 := ta_nil1
  have h2 := ta_nil2
  apply wpS_seq
  apply wpS_region
  simp [wpOpsS, go_sem, recoverD, hu, Tryz.ntmps117, Exit.thenS]
  refine wpS_of_wp ?_
  go_wp2
  simp [bodyPostS, results, Tryz.results117]
  cases c₀
  simp_all

set_option maxRecDepth 100000 in
set_option maxHeartbeats 1000000 in
theorem catch_rate (p : Addr) (x : Int) (older : List PanicEntry) (w : World) (hc : w.cell? p = some (.int .i64 x)) (hz : w.frozen? p = false) :
    CallsD Tryz.prog 117 #[.pointer (some p)] (.panicking ({ v := .iface 126 (.agg #[]), recovered := false } :: older)) w fun e u' w' =>
      e = .returned (.tuple #[]) ∧ u' = .panicking ({ v := .iface 126 (.agg #[]), recovered := true } :: older) ∧ w' = w.setCell p (.int .i64 7) := by
  refine callsD_of_wpS Tryz.func117 rfl fun c₀ cs hu => ?_
  have h1 := ta_rate
  apply wpS_seq
  apply wpS_region
  simp [wpOpsS, go_sem, recoverD, hu, Tryz.ntmps117, Exit.thenS]
  refine wpS_of_wp ?_
  go_wp2
  simp [bodyPostS, results, Tryz.results117]

theorem must_f (t : TypeId) (v : Value) (w : World) : Calls Tryz.prog 118 #[.bool false, .iface t v] w fun e w' => e = .panicked [{ v := .iface t v, recovered := false }] ∧ w' = w := by
  go_enter Tryz.func118, Tryz.ntmps118
  go_wp2
  exact ⟨rfl, rfl, rfl⟩

theorem must_t (v : Value) (w : World) : Calls Tryz.prog 118 #[.bool true, v] w fun e w' => e = .returned (.tuple #[]) ∧ w' = w := by
  go_enter Tryz.func118, Tryz.ntmps118
  go_wp2
  go_end0
  exact ⟨rfl, rfl⟩


def dryC : List PanicEntry := [{ v := .iface 126 (.agg #[]), recovered := false }]

set_option maxRecDepth 100000 in
theorem lists_w (na : Option Addr) (n cn : Nat) (w : World) :
    Calls Tryz.prog 71 #[.slice na n cn] w fun e w' => e = .returned (.func (.func 119) #[] #[.pointer (some ⟨w.heap.size, 0, none⟩)]) ∧ w' = w.alloc (.cells #[.slice na n cn] 26) := by
  have hmf : ∀ (fn : Fn) (first cap : Array Value) (w : World), (Instr.makeFunc fn first cap).run Tryz.prog w = .ok (.func fn first cap) w := fun _ _ _ _ => rfl
  go_enter Tryz.func71, Tryz.ntmps71
  go_wp2
  go_ret
  exact ⟨rfl, rfl⟩

theorem keeps_of_below {N : Nat} {W W' : World} (hb : Below W.heap.size W W') : KeepsFrom N W W' := ⟨hb.size, fun k o _ hk _ => (hb.block k (Array.getElem?_eq_some_iff.1 hk).1).trans hk⟩
set_option maxRecDepth 100000 in
set_option maxHeartbeats 4000000 in
/-- feed goes through all lists, or gives up at the first cut -/
theorem feed_w (pa ca : Option Addr) (lp cp lc cc : Nat) (P : Nat → P8) (C : Nat → C8) (op : Nat → Bool) (e : Bool) (w : World) (HB : Hid (NetB lp P lc C)) (H : Hid (Ne8 w pa ca lp lc P C)) :
    Calls Tryz.prog 70 #[.agg (opC pa ca lp cp lc cc op), .int .i64 (if e then 1 else 0)] w fun r w' => Below w.heap.size w w' ∧
      ((r = .returned (.tuple #[]) ∧ ∀ L, L ∈ allLs (List.range lp) → 0 ≤ spareV P lc C op e L) ∨ (r = .panicked dryC ∧ ∃ L, L ∈ allLs (List.range lp) ∧ spareV P lc C op e L < 0)) := by
  have hl7 := HB.out.l7
  obtain ⟨z, hz⟩ : ∃ z : Int, z = (if e then 1 else 0) := ⟨_, rfl⟩
  rw [← hz]
  have HE := Lib.hid hz
  clear hz
  obtain ⟨W0, hW0⟩ : ∃ W0, W0 = (w.alloc (.cells (opC pa ca lp cp lc cc op) 81)).alloc (.cells #[.int .i64 z] 87) := ⟨_, rfl⟩
  have hA : Below w.heap.size w W0 := by rw [hW0]; exact ((Below.refl _ _).alloc (Nat.le_refl _) _).alloc (by simp) _
  have hz0 : W0.heap.size = w.heap.size + 1 + 1 := by rw [hW0]; simp
  have BX : Hid (∀ w2, Below W0.heap.size W0 w2 → B12 w2 w.heap.size pa ca lp cp lc cc op ∧ w2.cell? ⟨w.heap.size + 1, 0, none⟩ = some (.int .i64 z)) := Lib.hid fun w2 h => by
    have hb : B12 W0 w.heap.size pa ca lp cp lc cc op := by rw [hW0]; exact (B12.new _ _ _ _ _ _ _ _).below ((Below.refl _ _).alloc (Nat.le_refl _) _)
    refine ⟨hb.below h, ((bcell h).1 _ _ (by omega)).trans ?_⟩
    rw [hW0]; exact al_top (by simp) _ _
  have HN : Hid (∀ w2, Below W0.heap.size W0 w2 → Hid (Ne8 w2 pa ca lp lc P C)) := Lib.hid fun w2 h => Lib.hid (H.out.below (hA.trans (h.mono hA.size)))
  have HA := Lib.hid hA
  have HZ := Lib.hid hz0
  have HPT := Lib.hid (points_w pa ca lp cp lc cc op W0 (by omega))
  simp only [opC] at HPT hW0 ⊢
  clear hA hz0 H
  refine (callsIn_wide (n := 6)).1 ?_
  refine callsIn_of_wp_marks Tryz.func70 rfl trivial ?_ rfl
  simp only [Tryz.ntmps70, List.size_toArray, List.length_cons, List.length_nil, Nat.reduceAdd, Nat.reduceSub, Array.replicate_succ, Array.replicate_zero, List.push_toArray, List.append_toArray, List.nil_append, List.cons_append]
  gi_wp2_with (first
    | (refine ⟨trivial, ?_⟩; gi_at_call 72; rw [← hW0]; refine (callsIn_wide.2 HPT.out).mono ?_; rintro r w5 ⟨⟨v5, rfl, ho5⟩, hv5⟩; obtain ⟨sa, sc, rfl, hsl, hge⟩ := dayNew ho5; have HSL := Lib.hid hsl; have HV5 := Lib.hid hv5; clear hsl hge ho5 hv5)
    | (refine ⟨trivial, ?_⟩; gi_at_call 71; refine (callsIn_wide.2 (lists_w sa lp sc w5)).mono ?_; rintro r w6 ⟨rfl, hw6⟩; have HW6 := Lib.hid hw6; clear hw6))
  have hB6 : Below W0.heap.size W0 w6 := by rw [HW6.out]; exact HV5.out.alloc HV5.out.size _
  have hz6 : w6.heap.size = w5.heap.size + 1 := by rw [HW6.out]; simp
  have hnb : w6.cell? ⟨w5.heap.size, 0, none⟩ = some (.slice sa lp sc) := by rw [HW6.out]; exact al_top rfl _ _
  have hnum : IntSl w6 sa lp (lgI (List.range lp)) := (HSL.out.below (by rw [HW6.out]; exact (Below.refl _ _).alloc (Nat.le_refl _) _))
  have HB6 := Lib.hid hB6
  have HZ6 := Lib.hid hz6
  have HNB := Lib.hid hnb
  have HNUM := Lib.hid hnum
  clear hB6 hz6 hnb hnum
  clear hW0
  refine rangeFunc_pan7 (α := Ls) (fun a0 x => { tmps := (a0.tmps.setIfInBounds 8 x.v).setIfInBounds 4 x.v, defers := [] }) (encs := fun x : Ls => #[x.v]) (Kp := KpR fun k => w6.heap.size ≤ k ∧ k < w6.heap.size + 2) (Wr := Below (w6.heap.size + 2)) (S := fun xs _ => xs.map Ls.c = allLs (List.range lp)) (Nx := fun _ x W => AtL W (w6.heap.size + 2) x ∧ x.c.Sublist (List.range lp)) rfl (by decide) (gf := 119) (lb := #[.pointer (some ⟨w5.heap.size, 0, none⟩)]) rfl trivial (enters_of Tryz.func119 (by kernel_rfl) rfl)
    ?seq (fun h k => h.trans k) (fun W o => KpR.putObj _ _ _ _ ⟨by omega, by omega⟩) (fun _ _ _ h => h) (fun _ => rfl) (fun A B h k h1 h2 => h.block k h2) (fun pre W => Below w6.heap.size w6 W ∧ ∀ x ∈ pre, 0 ≤ spareV P lc C op e x.c) ?iw ?ib ⟨Below.refl _ _, fun x hx => by cases hx⟩
    (fun ch W => ch = dryC ∧ Below w6.heap.size w6 W ∧ ∃ L, L ∈ allLs (List.range lp) ∧ spareV P lc C op e L < 0) ?nx (fun W => KpR.refl _ _) ?assign ?body ?done ?pan
  case seq =>
    intro l J Jp W hz hb hWr hY h0
    refine (lists_it (w6.heap.size + 2) (fun k => w6.heap.size ≤ k ∧ k < w6.heap.size + 2) (fun k h => h.2) l lp sc w5.heap.size sa (List.range lp) J Jp W (by omega) (by have := HZ6.out; omega) (fun h => by have := HZ6.out; have := h.1; omega) ((hb.cell (p := ⟨w5.heap.size, 0, none⟩) (by have := HZ6.out; show w5.heap.size < _; omega)).trans HNB.out) ?_ (by simp) (by omega) hWr (fun k pre x W1 hx hs hj => yieldAt_any k (hY pre x W1 ⟨by rw [← hz]; exact hx, hs⟩ hj)) h0).mono ?_
    · rcases HNUM.out with h | ⟨A, O, ha, hA, hN⟩
      · exact .inl h
      · exact .inr ⟨A, O, ha, by omega, fun h => by have := h.1; omega, hN.below hA hb⟩
    · rintro r W' (⟨hv, xs, ⟨h1, _⟩, h3⟩ | h)
      · exact .inl ⟨hv, xs, h1, h3⟩
      · exact .inr h
  case iw =>
    rintro pre A' B' ⟨h1, h2⟩ hb
    exact ⟨h1.trans (hb.mono (by omega)), h2⟩
  case ib =>
    rintro pre A' B' ⟨h1, h2⟩ hb
    exact ⟨h1.trans hb, h2⟩
  case nx =>
    rintro pre x W o ⟨h1, h2⟩
    exact ⟨h1.blocks (by simp) fun b o' ha hlt h0 => World.putObj_heap_other (by have := h1.2 b o' ha; omega), h2⟩
  case assign =>
    rintro l x W K hK
    have hsa := @Oper.semAt_some
    gi_wp2
  case body =>
    rintro l pre x a' W ha hw ⟨hx, hsub⟩ ⟨hbw, hall⟩
    simp only [List.setIfInBounds_toArray, List.set_cons_zero, List.set_cons_succ] at ha
    subst ha
    have hb0 : Below W0.heap.size W0 W := HB6.out.trans (hbw.mono HB6.out.size)
    obtain ⟨⟨x0, x1, x2, x3, x4, x5, x6, x7, x8, x9, x10, x11, _⟩, xe⟩ := BX.out W hb0
    have hxl : x.c.length ≤ 20 := by have := hsub.length_le; simp at this; omega
    have HSP : Hid (Calls Tryz.prog 74 #[.agg (opC pa ca lp cp lc cc op), x.v, .int .i64 z] W fun r w' => r = .returned (.int .i64 (spareV P lc C op e x.c)) ∧ Below W.heap.size W w') := Lib.hid (by
      rw [HE.out]
      exact spare_w pa ca x.a lp cp lc cc x.c.length x.cap P C op e x.c W HB rfl (by omega) (Lib.hid fun y hy => List.mem_range.1 (hsub.subset hy)) (HN.out W hb0) (Lib.hid hx.1))
    simp only [opC] at HSP
    have HSUB := Lib.hid hsub
    have HBW := Lib.hid hbw
    have HALL := Lib.hid hall
    have hsa := @Oper.semAt_some
    have hbe : ∀ w : World, (Instr.build 126 #[]).run Tryz.prog w = .ok (.agg #[]) w := fun w => by kernel_rfl
    obtain ⟨sp, hsp⟩ : ∃ sp, spareV P lc C op e x.c = sp := ⟨_, rfl⟩
    rw [hsp] at HSP
    have HSPV := Lib.hid hsp
    clear hx hsub hbw hall hsp hb0
    by_cases hs : 0 ≤ sp
    · have HS := Lib.hid hs
      have hd : decide (0 ≤ sp) = true := decide_eq_true hs
      refine .inl ?_
      gi_wp2_with (first
        | (refine ⟨trivial, ?_⟩; gi_at_call 74; refine (CallsIn.inRound l (callsIn_wide.2 HSP.out)).mono ?_; rintro r w7 ⟨rfl, hv7⟩; have HV7 := Lib.hid hv7; clear hv7)
        | (refine ⟨trivial, ?_⟩; gi_at_call 118; refine (CallsIn.inRound l (callsIn_wide.2 (must_t _ w7))).mono ?_; rintro r w8 ⟨rfl, rfl⟩))
      refine ⟨keeps_of_below HV7.out, KpR.of_below HV7.out, HBW.out.trans (HV7.out.mono HBW.out.size), fun y hy => ?_⟩
      rcases List.mem_append.1 hy with hy | hy
      · exact HALL.out y hy
      · simp at hy; subst hy; rw [HSPV.out]; exact HS.out
    · have HS := Lib.hid hs
      have hd : decide (0 ≤ sp) = false := decide_eq_false hs
      refine .inr (bodyPan_text (Q := fun e' a w' => ∃ ch, e' = .panic ch ∧ a.defers = [] ∧ (KeepsFrom w6.heap.size W w' ∧ ch = dryC ∧ Below w6.heap.size w6 w' ∧ ∃ L, L ∈ allLs (List.range lp) ∧ spareV P lc C op e L < 0)) (fun _ _ _ h => h) ?_)
      gi_wp2_with (first
        | (refine ⟨trivial, ?_⟩; gi_at_call 74; refine (CallsIn.inRound l (callsIn_wide.2 HSP.out)).mono ?_; rintro r w7 ⟨rfl, hv7⟩; have HV7 := Lib.hid hv7; clear hv7)
        | (refine ⟨trivial, ?_⟩; gi_at_call 118; refine (CallsIn.inRound l (callsIn_wide.2 (must_f _ _ w7))).mono ?_; rintro r w8 ⟨rfl, rfl⟩))
      exact ⟨keeps_of_below HV7.out, rfl, HBW.out.trans (HV7.out.mono HBW.out.size), x.c, allLs_of HSUB.out, by rw [HSPV.out]; omega⟩
  case done =>
    rintro xs W hS ⟨hbw, hall⟩ hK
    gi_wp2
    refine ⟨by simp, .inl ⟨_, _, rfl, run_takeDeferred hK, ?_⟩⟩
    have hfin : Below w.heap.size w (W.putObj w6.heap.size (.deferred none)) := HA.out.trans (((HB6.out.trans (hbw.mono HB6.out.size)).trans (putObj_belowR W _ _ hK HB6.out.size)).mono HA.out.size)
    refine ⟨.tuple #[], by simp [results, Tryz.results70, go_sem], hfin, .inl ⟨rfl, fun L hL => ?_⟩⟩
    rw [← hS] at hL
    obtain ⟨x, hx, rfl⟩ := List.mem_map.1 hL
    exact hall x hx
  case pan =>
    rintro ch W ⟨rfl, hbw, hL⟩ hK
    gi_wp2
    refine ⟨by simp, .inl ⟨_, _, rfl, run_takeDeferred hK, ?_⟩⟩
    have hfin : Below w.heap.size w (W.putObj w6.heap.size (.deferred none)) := HA.out.trans (((HB6.out.trans (hbw.mono HB6.out.size)).trans (putObj_belowR W _ _ hK HB6.out.size)).mono HA.out.size)
    exact ⟨hfin, .inr ⟨rfl, hL⟩⟩
end Go.Kn

namespace Go.Kn
open Go Go.Proofs Go.RowKit

theorem fed_iff {lp : Nat} {P : Nat → P8} {lc : Nat} {C : Nat → C8} {op : Nat → Bool} {e : Bool} : fedV lp P lc C op e = true ↔ ∀ L, L ∈ allLs (List.range lp) → 0 ≤ spareV P lc C op e L := by
  simp [fedV]

set_option maxRecDepth 100000 in
set_option maxHeartbeats 1000000 in
theorem s115_w (pa ca : Option Addr) (lp cp lc cc ob eb : Nat) (P : Nat → P8) (C : Nat → C8) (op : Nat → Bool) (e : Bool) (w : World) (HB : Hid (NetB lp P lc C)) (H : Hid (Ne8 w pa ca lp lc P C)) (HO : Hid (B12 w ob pa ca lp cp lc cc op)) (he : w.cell? ⟨eb, 0, none⟩ = some (.int .i64 (if e then 1 else 0))) :
    Calls Tryz.prog 115 #[.pointer (some ⟨ob, 0, none⟩), .pointer (some ⟨eb, 0, none⟩)] w fun r w' => Below w.heap.size w w' ∧
      ((r = .returned (.tuple #[]) ∧ fedV lp P lc C op e = true) ∨ (r = .panicked dryC ∧ fedV lp P lc C op e = false)) := by
  have HG := Lib.hid (feed_w pa ca lp cp lc cc P C op e w HB H)
  obtain ⟨z, hz⟩ : ∃ z : Int, z = (if e then 1 else 0) := ⟨_, rfl⟩
  rw [← hz] at HG he
  simp only [opC] at HG
  clear hz
  obtain ⟨x0, x1, x2, x3, x4, x5, x6, x7, x8, x9, x10, x11, _⟩ := HO.out
  go_enter Tryz.func115, Tryz.ntmps115
  go_wp2_with (go_at_call 70; refine HG.out.mono ?_; rintro r w2 ⟨hb, hor⟩; rcases hor.symm with ⟨rfl, L, h1, h2⟩ | ⟨rfl, h1⟩)
  · refine ⟨rfl, hb, .inr ⟨rfl, ?_⟩⟩
    cases hf : fedV lp P lc C op e with
    | false => rfl
    | true => have := fed_iff.1 hf L h1; omega
  · have HB2 := Lib.hid hb
    have H1 := Lib.hid h1
    clear hb h1
    go_end0
    exact ⟨HB2.out, .inl ⟨rfl, fed_iff.2 H1.out⟩⟩

set_option maxRecDepth 100000 in
set_option maxHeartbeats 1000000 in
theorem att115_w (pa ca : Option Addr) (lp cp lc cc ob eb : Nat) (P : Nat → P8) (C : Nat → C8) (op : Nat → Bool) (e : Bool) (w : World) (HB : Hid (NetB lp P lc C)) (H : Hid (Ne8 w pa ca lp lc P C)) (HO : Hid (B12 w ob pa ca lp cp lc cc op)) (he : w.cell? ⟨eb, 0, none⟩ = some (.int .i64 (if e then 1 else 0))) :
    Calls Tryz.prog 68 #[.func (.func 115) #[] #[.pointer (some ⟨ob, 0, none⟩), .pointer (some ⟨eb, 0, none⟩)]] w fun r w' => Below w.heap.size w w' ∧
      r = .returned (.int .i64 (if fedV lp P lc C op e then 0 else 7)) := by
  have hmf : ∀ (fn : Fn) (first cap : Array Value) (w : World), (Instr.makeFunc fn first cap).run Tryz.prog w = .ok (.func fn first cap) w := fun _ _ _ _ => rfl
  have hA : Below w.heap.size w (w.alloc (.cells #[.int .i64 0] 29)) := (Below.refl _ _).alloc (Nat.le_refl _) _
  have HG := Lib.hid (s115_w pa ca lp cp lc cc ob eb P C op e (w.alloc (.cells #[.int .i64 0] 29)) HB (Lib.hid (H.out.below hA)) (Lib.hid (HO.out.below hA)) ((hA.cell (p := ⟨eb, 0, none⟩) (World.block_lt_of_cell? _ _ he)).trans he))
  have HC : Hid (∀ w1, Below (w.alloc (.cells #[.int .i64 0] 29)).heap.size (w.alloc (.cells #[.int .i64 0] 29)) w1 → w1.cell? ⟨w.heap.size, 0, none⟩ = some (.int .i64 0) ∧ w1.frozen? ⟨w.heap.size, 0, none⟩ = false) := Lib.hid fun w1 h =>
    ⟨(h.cell (p := ⟨w.heap.size, 0, none⟩) (by simp)).trans (by simp), (h.frozen (p := ⟨w.heap.size, 0, none⟩) (by simp)).trans (by simp)⟩
  have HA := Lib.hid hA
  clear hA he
  cases hf : fedV lp P lc C op e with
  | true =>
    rw [hf] at HG
    clear hf
    simp only [if_true]
    go_enter_defers Tryz.func68, Tryz.ntmps68
    go_wp2_with (go_at_call 115; refine HG.out.mono ?_; rintro r w2 ⟨hb, hor⟩; obtain ⟨y1, y2⟩ := HC.out _ hb; have HF := Lib.hid hb; clear hb; obtain ⟨rfl, -⟩ := hor.resolve_right (fun h => by cases h.2))
    refine leaves_cons (f := 117) (args := #[.pointer (some ⟨w.heap.size, 0, none⟩)]) (by simp) (by simp [go_sem]) ?_
    refine (catch_none ⟨w.heap.size, 0, none⟩ _).mono ?_
    rintro e u' w'' ⟨rfl, rfl, rfl⟩
    have z1 : (w2.setCell ⟨w.heap.size, 0, none⟩ (.int .i64 0)).cell? ⟨w.heap.size, 0, none⟩ = some (.int .i64 0) := World.cell?_setCell_same' _ _ _ (by rw [y1]; rfl)
    simp [Leaves, settle, results, Tryz.results68, go_sem, z1]
    exact (HA.out.trans (HF.out.mono HA.out.size)).setCell (p := ⟨w.heap.size, 0, none⟩) (Nat.le_refl _) _
  | false =>
    rw [hf] at HG
    clear hf
    simp only [Bool.false_eq_true, if_false]
    go_enter_defers Tryz.func68, Tryz.ntmps68
    go_wp2_with (go_at_call 115; refine HG.out.mono ?_; rintro r w2 ⟨hb, hor⟩; obtain ⟨y1, y2⟩ := HC.out _ hb; have HF := Lib.hid hb; clear hb; obtain ⟨rfl, -⟩ := hor.resolve_left (fun h => by cases h.2))
    refine leaves_cons (f := 117) (args := #[.pointer (some ⟨w.heap.size, 0, none⟩)]) (by simp) (by simp [go_sem]) ?_
    refine (catch_rate ⟨w.heap.size, 0, none⟩ 0 [] _ y1 y2).mono ?_
    rintro e u' w'' ⟨rfl, rfl, rfl⟩
    have z1 : (w2.setCell ⟨w.heap.size, 0, none⟩ (.int .i64 7)).cell? ⟨w.heap.size, 0, none⟩ = some (.int .i64 7) := World.cell?_setCell_same' _ _ _ (by rw [y1]; rfl)
    simp [Leaves, settle, results, Tryz.results68, go_sem, z1]
    exact (HA.out.trans (HF.out.mono HA.out.size)).setCell (p := ⟨w.heap.size, 0, none⟩) (Nat.le_refl _) _

set_option maxRecDepth 100000 in
set_option maxHeartbeats 1000000 in
/-- whether a network is fed is told by all lists -/
theorem isFed_w (pa ca : Option Addr) (lp cp lc cc : Nat) (P : Nat → P8) (C : Nat → C8) (op : Nat → Bool) (e : Bool) (w : World) (HB : Hid (NetB lp P lc C)) (H : Hid (Ne8 w pa ca lp lc P C)) :
    Calls Tryz.prog 64 #[.agg (opC pa ca lp cp lc cc op), .int .i64 (if e then 1 else 0)] w fun r w' => r = .returned (.bool (fedV lp P lc C op e)) ∧ Below w.heap.size w w' := by
  have hmf : ∀ (fn : Fn) (first cap : Array Value) (w : World), (Instr.makeFunc fn first cap).run Tryz.prog w = .ok (.func fn first cap) w := fun _ _ _ _ => rfl
  obtain ⟨z, hz⟩ : ∃ z : Int, z = (if e then 1 else 0) := ⟨_, rfl⟩
  rw [← hz]
  obtain ⟨W0, hW0⟩ : ∃ W0, W0 = (w.alloc (.cells (opC pa ca lp cp lc cc op) 81)).alloc (.cells #[.int .i64 z] 87) := ⟨_, rfl⟩
  have hA : Below w.heap.size w W0 := by rw [hW0]; exact ((Below.refl _ _).alloc (Nat.le_refl _) _).alloc (by simp) _
  have HG := Lib.hid (att115_w pa ca lp cp lc cc w.heap.size (w.heap.size + 1) P C op e W0 HB (Lib.hid (H.out.below hA)) (Lib.hid (by rw [hW0]; exact (B12.new _ _ _ _ _ _ _ _).below ((Below.refl _ _).alloc (Nat.le_refl _) _))) (by rw [hW0, hz]; exact al_top (by simp) _ _))
  have HA := Lib.hid hA
  obtain ⟨b, hb⟩ : ∃ b, fedV lp P lc C op e = b := ⟨_, rfl⟩
  rw [hb] at HG ⊢
  clear hA hb hz
  simp only [opC] at hW0 ⊢
  cases b
  all_goals
    go_enter Tryz.func64, Tryz.ntmps64
    go_wp2_with (go_at_call 68; rw [← hW0]; refine HG.out.mono ?_; rintro r w2 ⟨hb, rfl⟩; have HB2 := Lib.hid hb; clear hb; simp only [Bool.false_eq_true, if_false, if_true])
    go_ret
    exact ⟨rfl, HA.out.trans (HB2.out.mono HA.out.size)⟩
end Go.Kn
