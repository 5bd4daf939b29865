/- Contracts of functions that the laws of this seat call, or the evaluator of closed calls and its runs. Conditions: as each theorem states them. -/
import Derived.Test.YtamoigfafgfimaaGreatDoorIT
import Derived.Test.YtamoigfafgfimaaGreatDoorIN
import Derived.Test.YtamoigfafgfimaaGreatDoorIO
set_option linter.unusedVariables false
set_option linter.unusedSimpArgs false
namespace Go.Kn
open Go Go.Proofs Go.RowKit

set_option maxRecDepth 100000 in
set_option maxHeartbeats 4000000 in
theorem isBelow_w (f : Int) (na oa : Option Addr) (ln cn lo co cs cf sv SH FL i m : Nat) (N : Nat → N2) (U : Nat → O3) (s : Nat → Int) (w0 W : World)
    (HR : Hid (TreeP f ln lo N U)) (HT : Hid (Tr7 w0 na oa ln lo N U)) (hb : Below w0.heap.size w0 W) (hi : i < lo) (H : Hid (SvS W sv SH FL f na oa ln cn lo co cs cf N U s)) :
    Calls Tryz.prog 111 #[.pointer (some ⟨sv, 0, none⟩), .int .i64 (i : Int), .int .i64 (m : Int)] W fun e W' => e = .returned (.bool (decide (m ∈ path N (U i).n.toNat))) ∧ Below W.heap.size W W' := by
  have q1 := HR.out.l6
  have q2 := HR.out.lo2
  have hu := (tree_o HR.out hi).1
  obtain ⟨u, hu0⟩ : ∃ u : Nat, (U i).n.toNat = u := ⟨_, rfl⟩
  have hu1 : (U i).n = (u : Int) := by omega
  have hu2 : u ≤ ln := by omega
  rw [hu0]
  clear hu hu0
  refine (callsIn_wide (n := 6)).1 ?_
  refine callsIn_of_wp_marks Tryz.func111 rfl trivial ?_ rfl
  simp only [Tryz.ntmps111, List.size_toArray, List.length_cons, List.length_nil, Nat.reduceAdd, Nat.reduceSub, Array.replicate_succ, Array.replicate_zero, List.push_toArray, List.append_toArray, List.nil_append, List.cons_append]
  gi_wp2
  obtain ⟨W1, hW1⟩ : ∃ W1, W1 = (W.alloc (.cells #[.int .i64 (m : Int)] 3)).alloc (.cells #[.bool false] 4) := ⟨_, rfl⟩
  have hbW : Below W.heap.size W W1 := by rw [hW1]; exact ((Below.refl _ _).alloc (Nat.le_refl _) _).alloc (by simp) _
  have hzW : W1.heap.size = W.heap.size + 1 + 1 := by rw [hW1]; simp
  have b5 : Boxed W1 W.heap.size 3 (.int .i64 (m : Int)) := by rw [hW1]; exact (Boxed.new W 3 _).alloc _
  have b6 : Boxed W1 (W.heap.size + 1) 4 (.bool false) := by
    rw [hW1]
    have := Boxed.new (W.alloc (.cells #[.int .i64 (m : Int)] 3)) 4 (.bool false)
    rwa [World.size_alloc] at this
  rw [← hW1]
  have hb01 : Below w0.heap.size w0 W1 := hb.trans (hbW.mono hb.size)
  have HAB := Lib.hid (above_w sv SH FL i u f na oa ln cn lo co cs cf N U s (fun m => sumB N U s m lo) W1 q2 hi hu1 (Lib.hid (HT.out.below hb01)) (Lib.hid (H.out.at_.below hbW)))
  have HB01 := Lib.hid hb01
  have HBW := Lib.hid hbW
  have HB5 := Lib.hid b5
  have HB6 := Lib.hid b6
  have HZW := Lib.hid hzW
  clear hb01 hbW hW1 hzW b5 b6
  gi_wp2_with (refine ⟨trivial, ?_⟩; gi_at_call 104; refine (callsIn_wide.2 HAB.out).mono ?_; rintro e w3 ⟨⟨nb, tb, rfl, hub, hn1, hn2⟩, hb3⟩)
  have HB13 : Hid (Below W1.heap.size W1 w3) := Lib.hid hb3
  have HZ1 : Hid (W1.heap.size ≤ nb ∧ W1.heap.size ≤ tb ∧ nb < w3.heap.size ∧ tb < w3.heap.size ∧ nb ≠ tb) := Lib.hid ⟨hn1, hn2, hub.hn, hub.ht, hub.hnt⟩
  have HUB := Lib.hid hub
  obtain ⟨A, O, hA⟩ : ∃ A O, (1 ≤ ln → na = some ⟨A, O, none⟩ ∧ NdAt w0 A O ln N) ∧ ((1 ≤ ln → A < w0.heap.size) ∧ (A < w0.heap.size ∨ A = tb)) := by
    rcases HT.out.hn with h | ⟨A, O, h1, h2, h3⟩
    · exact ⟨tb, 0, fun h' => by omega, fun h' => by omega, .inr rfl⟩
    · by_cases hz : 1 ≤ ln
      · exact ⟨A, O, fun _ => ⟨h1, h3⟩, fun _ => h2, .inl h2⟩
      · exact ⟨tb, 0, fun h' => absurd h' hz, fun h' => absurd h' hz, .inr rfl⟩
  have HA := Lib.hid hA
  clear hb3 hub hn1 hn2 hA
  have HBND : Hid (w0.heap.size ≤ W.heap.size ∧ W1.heap.size = W.heap.size + 1 + 1) := Lib.hid ⟨hb.size, HZW.out⟩
  refine rangeFunc_st (α := Nat) (fun a0 x => { tmps := (a0.tmps.setIfInBounds 11 (.int .i64 (x : Int))).setIfInBounds 7 (.int .i64 (x : Int)), defers := [] }) (encs := fun x : Nat => #[.int .i64 (x : Int)]) (Kp := KpB [nb, tb, A]) (Wr := fun A' B' => ∃ v, B' = A'.setCell ⟨nb, 0, none⟩ v) (S := fun xs _ => xs = path N u) (Nx := fun pre x => ∃ post, pre ++ x :: post = path N u) rfl (by decide) (gf := 112) (lb := #[.pointer (some ⟨nb, 0, none⟩), .pointer (some ⟨tb, 0, none⟩)]) rfl trivial (enters_of Tryz.func112 (by kernel_rfl) rfl)
    ?seq (fun h k => h.trans k) ?kb (fun _ _ _ h => h) (fun _ => rfl) ?wr (fun pre W' => Frx [nb] w3 W' ∧ m ∉ pre) ?iw ?ib ⟨Frx.refl _ _, by simp⟩
    (fun c W' => c = .ret ∧ W'.cell? ⟨W.heap.size + 1, 0, none⟩ = some (.bool true) ∧ Frx [nb, W.heap.size + 1] w3 W' ∧ m ∈ path N u) ?ix ?assign (fun W' b _ o => ⟨rfl, rfl⟩) ?body ?done ?stop
  case seq =>
    intro l J Js W' hz hbw hWr hY h0
    obtain ⟨p1, p2, p3, p4, p5⟩ := HZ1.out
    obtain ⟨r1, r2⟩ := HBND.out
    have hU := HUB.out
    refine up_s f ln lo cn u nb tb A O l na N U [nb, tb, A] HR hu2 J Js (fun h => (HA.out.1 h).1) ⟨by simp, by simp, fun _ => by simp⟩ p5 (fun h => by rcases HA.out.2.2 with h2 | h2 <;> omega) (fun s W v h => hWr s _ _ h ⟨v, rfl⟩) hY W' ((hbw.cell (p := ⟨nb, 0, none⟩) p3).trans hU.n0) ((hbw.frozen (p := ⟨nb, 0, none⟩) p3).trans hU.nf) ((hbw.cell (p := ⟨tb, 1, none⟩) p4).trans hU.t1) (fun h => ?_) h0
    have h3 := HA.out.2.1 h
    have h4 := HB13.out.size
    exact ((HA.out.1 h).2.below (by omega) (HB01.out.trans (HB13.out.mono HB01.out.size))).below (by omega) hbw
  case kb =>
    intro W' o' b hbb o
    obtain ⟨p1, p2, p3, p4, p5⟩ := HZ1.out
    obtain ⟨r1, r2⟩ := HBND.out
    have h3 := HA.out.2.2
    have h4 := HB13.out.size
    have hlt : b < w3.heap.size := by
      simp only [List.mem_cons, List.not_mem_nil, or_false] at hbb
      omega
    exact ⟨World.cell?_of_block (w := W') (World.putObj_heap_other (by simp only []; omega)), World.frozen?_of_block (w := W') (World.putObj_heap_other (by simp only []; omega))⟩
  case wr =>
    rintro A' B' ⟨v, rfl⟩ k hk1 hk2
    have := HZ1.out.2.2.1
    exact Below.heap_setCell _ _ _ _ (by show k ≠ nb; omega)
  case iw =>
    rintro pre A' B' ⟨h1, h2⟩ ⟨v, rfl⟩
    exact ⟨h1.trans (Frx.setCell _ _ _ _ _ (by simp)), h2⟩
  case ib =>
    rintro pre A' B' ⟨h1, h2⟩ hb
    exact ⟨h1.then_below hb, h2⟩
  case ix =>
    rintro c A' B' ⟨h1, h2, h3, h4⟩ hb
    refine ⟨h1, ?_, h3.then_below hb, h4⟩
    have h5 := HB13.out.size
    have h6 := HBND.out.2
    exact (hb.cell (p := ⟨W.heap.size + 1, 0, none⟩) (by simp only []; omega)).trans h2
  case assign =>
    rintro l x W' K hK
    have hsa := @Oper.semAt_some
    gi_wp2
  case body =>
    rintro l pre x a' W' ha hw ⟨post, hnx⟩ ⟨h1, h2⟩
    simp only [List.setIfInBounds_toArray, List.set_cons_zero, List.set_cons_succ] at ha
    subst ha
    obtain ⟨p1, p2, p3, p4, p5⟩ := HZ1.out
    obtain ⟨r1, r2⟩ := HBND.out
    have h3z := HB13.out.size
    have hxp : x ∈ path N u := by rw [← hnx]; simp
    have e5 : W'.cell? ⟨W.heap.size, 0, none⟩ = some (.int .i64 (m : Int)) := (h1.cell (by omega) (by simp; omega)).trans (boxed_below HB5.out HB13.out HB5.out.lt).cell
    have e6 : W'.cell? ⟨W.heap.size + 1, 0, none⟩ = some (.bool false) := (h1.cell (by omega) (by simp; omega)).trans (boxed_below HB6.out HB13.out HB6.out.lt).cell
    have e7 : W'.frozen? ⟨W.heap.size + 1, 0, none⟩ = false := (h1.froz (by omega) (by simp; omega)).trans (boxed_below HB6.out HB13.out HB6.out.lt).frozen
    have H1 := Lib.hid h1
    have H2 := Lib.hid h2
    have HXP := Lib.hid hxp
    have HE6 := Lib.hid e6
    have hsa := @Oper.semAt_some
    clear h1 h2 hnx hxp h3z p1 p2 p3 p4 p5 r1 r2
    by_cases hx : x = m
    · subst hx
      gi_wp2
      have h3z := HB13.out.size
      have r2 := HBND.out.2
      have h1z := H1.out.size
      have hne : ∀ k, w3.heap.size ≤ k → k ≠ W.heap.size + 1 := fun k hk => by omega
      refine ⟨⟨by simp, fun k o hk hko _ => (Below.heap_setCell _ _ _ _ (by show k ≠ W.heap.size + 1; exact hne k hk)).trans hko⟩, rfl, World.cell?_setCell_same _ _ _ HE6.out, ?_, HXP.out⟩
      exact (H1.out.sub (fun k hk _ => by simp at hk ⊢; exact .inl hk)).trans (Frx.setCell _ _ _ _ _ (by simp))
    · have hd : ((x : Int) == (m : Int)) = false := by simp; omega
      have HXM := Lib.hid hx
      clear hx
      gi_wp2
      refine ⟨KeepsFrom.refl _ _, fun b _ o => ⟨rfl, rfl⟩, H1.out, ?_⟩
      rw [List.mem_append, List.mem_singleton]
      rintro (h | h)
      · exact H2.out h
      · exact HXM.out h.symm
  case done =>
    rintro xs W' rfl ⟨h1, h2⟩ hK
    have HK := Lib.hid hK
    have h3z := HB13.out.size
    obtain ⟨p1, p2, p3, p4, p5⟩ := HZ1.out
    obtain ⟨r1, r2⟩ := HBND.out
    have h1z := h1.size
    have e6 : W'.cell? ⟨W.heap.size + 1, 0, none⟩ = some (.bool false) := (h1.cell (by omega) (by simp; omega)).trans (boxed_below HB6.out HB13.out HB6.out.lt).cell
    have e7 : W'.frozen? ⟨W.heap.size + 1, 0, none⟩ = false := (h1.froz (by omega) (by simp; omega)).trans (boxed_below HB6.out HB13.out HB6.out.lt).frozen
    have H1 := Lib.hid h1
    have HE6 := Lib.hid e6
    clear hK h1
    gi_wp2
    have hKf : (W'.setCell ⟨W.heap.size + 1, 0, none⟩ (.bool false)).heap[w3.heap.size]? = some (.deferred (some [])) := (Below.heap_setCell _ _ _ _ (by show w3.heap.size ≠ W.heap.size + 1; omega)).trans HK.out
    have hcf : ((W'.setCell ⟨W.heap.size + 1, 0, none⟩ (.bool false)).putObj w3.heap.size (.deferred none)).cell? ⟨W.heap.size + 1, 0, none⟩ = some (.bool false) := (World.cell?_of_block (w := W'.setCell ⟨W.heap.size + 1, 0, none⟩ (.bool false)) (World.putObj_heap_other (by simp only []; omega))).trans (World.cell?_setCell_same _ _ _ HE6.out)
    have hbf : Below W.heap.size W ((W'.setCell ⟨W.heap.size + 1, 0, none⟩ (.bool false)).putObj w3.heap.size (.deferred none)) := (HBW.out.trans (HB13.out.mono HBW.out.size)).trans (((H1.out.below (n := W.heap.size) (by omega) (by simp; omega)).setCell (p := ⟨W.heap.size + 1, 0, none⟩) (by simp only []; omega) _).trans (putObj_belowR _ _ _ hKf (by omega)))
    refine ⟨by simp, .inl ⟨_, _, rfl, run_takeDeferred hKf, ?_⟩⟩
    refine ⟨.bool false, ?_, by rw [decide_eq_false h2], hbf⟩
    simp [results, Tryz.results111, go_sem, hcf]
  case stop =>
    rintro c W' ⟨rfl, h1, h2, h3⟩ hK
    have h3z := HB13.out.size
    obtain ⟨p1, p2, p3, p4, p5⟩ := HZ1.out
    obtain ⟨r1, r2⟩ := HBND.out
    have h1z := h2.size
    gi_wp2
    have hKf : (W').heap[w3.heap.size]? = some (.deferred (some [])) := hK
    have hcf : ((W').putObj w3.heap.size (.deferred none)).cell? ⟨W.heap.size + 1, 0, none⟩ = some (.bool true) := (World.cell?_of_block (w := W') (World.putObj_heap_other (by simp only []; omega))).trans h1
    have hbf : Below W.heap.size W ((W').putObj w3.heap.size (.deferred none)) := (HBW.out.trans (HB13.out.mono HBW.out.size)).trans ((h2.below (n := W.heap.size) (by omega) (by simp; omega)).trans (putObj_belowR _ _ _ hKf (by omega)))
    refine ⟨by simp, .inl ⟨_, _, rfl, run_takeDeferred hKf, ?_⟩⟩
    refine ⟨.bool true, ?_, by rw [decide_eq_true h3], hbf⟩
    simp [results, Tryz.results111, go_sem, hcf]
end Go.Kn

namespace Go.Kn
open Go Go.Proofs Go.RowKit

set_option maxRecDepth 100000 in
set_option maxHeartbeats 1000000 in
theorem isTight_w (f : Int) (na oa : Option Addr) (ln cn lo co cs cf sv SH FL m : Nat) (N : Nat → N2) (U : Nat → O3) (s : Nat → Int) (W : World)
    (hm : m ≤ ln) (hln : ln ≤ 1000) (HT : Hid (Tr7 W na oa ln lo N U)) (H : Hid (SvS W sv SH FL f na oa ln cn lo co cs cf N U s)) :
    Calls Tryz.prog 78 #[.pointer (some ⟨sv, 0, none⟩), .int .i64 (m : Int)] W fun e W' => e = .returned (.bool (decide (sumB N U s m lo = capN f N m))) ∧ Below W.heap.size W W' := by
  have hmx : Tryz.prog.follows .mixedOrders = true := by kernel_rfl
  have n1 : (0 : Int) ≤ (m : Int) := by omega
  have n2 : (m : Int) < ((ln + 1 : Nat) : Int) := by omega
  have n3 : (m : Int) < (ln : Int) + 1 := by omega
  have HX : Hid (∀ w', Below W.heap.size W w' → w'.cell? ⟨sv, 0, none⟩ = some (.int .i64 f) ∧ w'.cell? ⟨sv, 1, none⟩ = some (.slice na ln cn) ∧ w'.cell? ⟨sv, 2, none⟩ = some (.slice oa lo co) ∧ w'.cell? ⟨sv, 4, none⟩ = some (.slice (some ⟨FL, 0, none⟩) (ln + 1) cf) ∧ w'.cell? ⟨FL, m, none⟩ = some (.int .i64 (sumB N U s m lo))) := Lib.hid fun w' h => by
    have h2 := (H.out.below h).at_
    exact ⟨h2.c0, h2.c1, h2.c2, h2.c4, (h2.fw m (by omega)).1⟩
  have HC : Hid (∀ w', Below W.heap.size W w' → Calls Tryz.prog 105 #[.agg #[.int .i64 f, .slice na ln cn, .slice oa lo co], .int .i64 (m : Int)] w' fun e w'' => e = .returned (.int .i64 (capN f N m)) ∧ Below W.heap.size W w'') := Lib.hid fun w' h =>
    (capacity_w f na oa ln cn lo co m N U w' hm (by omega) (Lib.hid (HT.out.below h))).mono fun e w'' ⟨he, hb⟩ => ⟨he, h.trans (hb.mono h.size)⟩
  obtain ⟨z1, z2, z3, z4, z5⟩ := HX.out W (Below.refl _ _)
  obtain ⟨sb, hsb⟩ : ∃ sb, sumB N U s m lo = sb := ⟨_, rfl⟩
  obtain ⟨cp, hcp⟩ : ∃ cp, capN f N m = cp := ⟨_, rfl⟩
  rw [hsb] at HX z5 ⊢
  rw [hcp] at HC ⊢
  clear hsb hcp
  go_enter Tryz.func78, Tryz.ntmps78
  go_wp2
  refine wp_region_calm (W := W) hmx (by kernel_rfl) (Below.refl _ _) ?_
  repeat (first
    | (refine calm_no (by rfl) ?_
       (try simp only [Act.put, List.setIfInBounds_toArray, List.set_cons_zero, List.set_cons_succ]))
    | (apply calm_yes
       focus rfl
       focus
         intro w' hw'
         obtain ⟨z1, z2, z3, z4, z5⟩ := HX.out w' hw'
         go_simp
         first
           | done
           | with_reducible rfl
           | (go_at_call 105; exact HC.out w' hw')
           | fail
       (try simp only [Act.put, List.setIfInBounds_toArray, List.set_cons_zero, List.set_cons_succ])))
  refine calm_nil ?_
  intro w7 hb7
  clear z1 z2 z3 z4 z5
  go_wp2
  go_ret
  exact ⟨by simp [BEq.beq], hb7⟩

/-- this node binds this outlet -/
def BindP (f : Int) (lo : Nat) (N : Nat → N2) (U : Nat → O3) (s : Nat → Int) (i m : Nat) : Prop :=
  m ∈ path N (U i).n.toNat ∧ sumB N U s m lo = capN f N m ∧ ∀ k, k < lo → m ∈ path N (U k).n.toNat → ¬ (((U i).k < (U k).k ∧ 0 < s k) ∨ ((U k).k = (U i).k ∧ s i + 1 < s k))

set_option maxRecDepth 100000 in
set_option maxHeartbeats 4000000 in
theorem binds_w (f : Int) (na oa : Option Addr) (ln cn lo co cs cf sv SH FL i m : Nat) (N : Nat → N2) (U : Nat → O3) (s : Nat → Int) (w0 W : World)
    (HR : Hid (TreeP f ln lo N U)) (HT : Hid (Tr7 w0 na oa ln lo N U)) (hb : Below w0.heap.size w0 W) (hi : i < lo) (hm : m ≤ ln) (hs : Hid (∀ k, k < lo → 0 ≤ s k ∧ s k ≤ 200)) (H : Hid (SvS W sv SH FL f na oa ln cn lo co cs cf N U s)) :
    Calls Tryz.prog 74 #[.pointer (some ⟨sv, 0, none⟩), .int .i64 (m : Int), .int .i64 (i : Int)] W fun e W' => (∃ rb : Bool, e = .returned (.bool rb) ∧ (rb = true ↔ BindP f lo N U s i m)) ∧ Below W.heap.size W W' := by
  have q1 := HR.out.l6
  have q2 := HR.out.lo2
  have hmx : Tryz.prog.follows .mixedOrders = true := by kernel_rfl
  have HIB : Hid (∀ k w', k < lo → Below W.heap.size W w' → Calls Tryz.prog 111 #[.pointer (some ⟨sv, 0, none⟩), .int .i64 ((k : Nat) : Int), .int .i64 (m : Int)] w' fun e w'' => e = .returned (.bool (decide (m ∈ path N (U k).n.toNat))) ∧ Below W.heap.size W w'') := Lib.hid fun k w' hk h =>
    (isBelow_w f na oa ln cn lo co cs cf sv SH FL k m N U s w0 w' HR HT (hb.trans (h.mono hb.size)) hk (Lib.hid (H.out.below h))).mono fun e w'' ⟨he, hb⟩ => ⟨he, h.trans (hb.mono h.size)⟩
  have HIT : Hid (∀ w', Below W.heap.size W w' → Calls Tryz.prog 78 #[.pointer (some ⟨sv, 0, none⟩), .int .i64 (m : Int)] w' fun e w'' => e = .returned (.bool (decide (sumB N U s m lo = capN f N m))) ∧ Below W.heap.size W w'') := Lib.hid fun w' h =>
    (isTight_w f na oa ln cn lo co cs cf sv SH FL m N U s w' hm (by omega) (Lib.hid (HT.out.below (hb.trans (h.mono hb.size)))) (Lib.hid (H.out.below h))).mono fun e w'' ⟨he, hb⟩ => ⟨he, h.trans (hb.mono h.size)⟩
  obtain ⟨C, P, hoa, hC, hn⟩ := HT.out.ho.resolve_left (by omega)
  subst hoa
  have HX : Hid (∀ w', Below W.heap.size W w' → w'.cell? ⟨sv, 2, none⟩ = some (.slice (some ⟨C, P, none⟩) lo co) ∧ w'.cell? ⟨sv, 3, none⟩ = some (.slice (some ⟨SH, 0, none⟩) lo cs) ∧ ∀ k, k < lo → w'.cell? ⟨C, P + k * 3, none⟩ = some (.int .i64 (U k).n) ∧ w'.cell? ⟨C, P + k * 3 + 1, none⟩ = some (.int .i64 (U k).c) ∧ w'.cell? ⟨C, P + k * 3 + 2, none⟩ = some (.int .i64 (U k).k) ∧ w'.cell? ⟨SH, k, none⟩ = some (.int .i64 (s k))) := Lib.hid fun w' h => by
    have h2 := (H.out.below h).at_
    have hb2 := hb.trans (h.mono hb.size)
    exact ⟨h2.c2, h2.c3, fun k hk => ⟨(hb2.cell (p := ⟨C, P + k * 3, none⟩) hC).trans (hn k hk).1, (hb2.cell (p := ⟨C, P + k * 3 + 1, none⟩) hC).trans (hn k hk).2.1, (hb2.cell (p := ⟨C, P + k * 3 + 2, none⟩) hC).trans (hn k hk).2.2, (h2.sh k hk).1⟩⟩
  clear hn hb
  by_cases h1 : m ∈ path N (U i).n.toNat
  case neg =>
    have HN := Lib.hid h1
    have hd : decide (m ∈ path N (U i).n.toNat) = false := decide_eq_false h1
    have HI := Lib.hid (HIB.out i W hi (Below.refl _ _))
    rw [hd] at HI
    clear h1 hd
    go_enter Tryz.func74, Tryz.ntmps74
    go_wp2_with (go_at_call 111; refine HI.out.mono ?_; rintro e w1 ⟨rfl, hb1⟩)
    go_ret
    exact ⟨⟨false, rfl, no_iff fun h => HN.out h.1⟩, hb1⟩
  have HM := Lib.hid h1
  have hd : decide (m ∈ path N (U i).n.toNat) = true := decide_eq_true h1
  have HI := Lib.hid (HIB.out i W hi (Below.refl _ _))
  rw [hd] at HI
  clear h1 hd
  by_cases h2 : sumB N U s m lo = capN f N m
  case neg =>
    have HN := Lib.hid h2
    have hd : decide (sumB N U s m lo = capN f N m) = false := decide_eq_false h2
    rw [hd] at HIT
    clear h2 hd
    go_enter Tryz.func74, Tryz.ntmps74
    go_wp2_with (first
      | (go_at_call 111; refine HI.out.mono ?_; rintro e w1 ⟨rfl, hb1⟩)
      | (go_at_call 78; refine (HIT.out _ hb1).mono ?_; rintro e w2 ⟨rfl, hb2⟩))
    go_ret
    exact ⟨⟨false, rfl, no_iff fun h => HN.out h.2.1⟩, hb2⟩
  have HTI := Lib.hid h2
  have hd : decide (sumB N U s m lo = capN f N m) = true := decide_eq_true h2
  rw [hd] at HIT
  clear h2 hd
  have n1 : (0 : Int) ≤ (i : Int) := by omega
  have n2 : (i : Int) < (lo : Int) := by omega
  go_enter Tryz.func74, Tryz.ntmps74
  go_wp2_with (first
    | (go_at_call 111; refine HI.out.mono ?_; rintro e w1 ⟨rfl, hb1⟩)
    | (go_at_call 78; refine (HIT.out _ hb1).mono ?_; rintro e w2 ⟨rfl, hb2⟩))
  obtain ⟨x1, x2, x3⟩ := HX.out w2 hb2
  obtain ⟨x4, x5, x6, x7⟩ := x3 i hi
  clear x3
  have HB2 := Lib.hid hb2
  clear hb2
  go_quiet (fail)
  go_wp2
  have wr0 : wrap64 (s i + 1) = s i + 1 := by have := hs.out i hi; unfold wrap64; omega
  go_loopw [45] (fun ii wr => ∃ k : Nat, k ≤ lo ∧ ii = .int .i64 (k : Int) ∧ (∀ j, j < k → m ∈ path N (U j).n.toNat → ¬ ((((U i).k < (U j).k ∧ 0 < s j) ∨ ((U j).k = (U i).k ∧ s i + 1 < s j)))) ∧ Below W.heap.size W wr) (fun ii _ => lo - (Go.RowKit.intOf ii).toNat)
  case atStart => exact ⟨0, Nat.zero_le _, rfl, fun j hj => by omega, below_drewM HB2.out _⟩
  case round =>
    obtain ⟨k, hk, rfl, hno, hbw⟩ := hrel
    have HNO := Lib.hid hno
    have HBW := Lib.hid hbw
    clear hno
    by_cases hlt : k < lo
    case neg =>
      obtain rfl : lo = k := by omega
      clear hbw x1 x2 x4 x5 x6 x7
      go_wp2
      go_ret
      exact ⟨⟨true, rfl, fun _ => ⟨HM.out, HTI.out, HNO.out⟩, fun _ => rfl⟩, HBW.out⟩
    case pos =>
      clear x1 x2 x4 x5 x6 x7
      obtain ⟨x1, x2, x3⟩ := HX.out wr hbw
      obtain ⟨y4, y5, y6, y7⟩ := x3 k hlt
      obtain ⟨z4, z5, z6, z7⟩ := x3 i hi
      have n3 : (0 : Int) ≤ (k : Int) := by omega
      have n4 : (k : Int) < (lo : Int) := by omega
      have g1 : sv < wr.heap.size := Nat.lt_of_lt_of_le H.out.at_.bs hbw.size
      have g2 : SH < wr.heap.size := Nat.lt_of_lt_of_le H.out.at_.bh hbw.size
      have g3 : wr.heap.size ≠ sv := by omega
      have g4 : wr.heap.size ≠ SH := by omega
      have g5 : sv ≠ wr.heap.size := by omega
      have g6 : SH ≠ wr.heap.size := by omega
      clear x3 hbw wr0
      by_cases h1 : (U i).k < (U k).k
      · have d3 : ((U k).k == (U i).k) = false := by simp; omega
        have d1 : decide ((U i).k < (U k).k) = true := decide_eq_true h1
        by_cases h2 : 0 < s k
        · have HTK : Hid ((((U i).k < (U k).k ∧ 0 < s k) ∨ ((U k).k = (U i).k ∧ s i + 1 < s k))) := Lib.hid (.inl ⟨h1, h2⟩)
          have hwr : wrap64 (s i + 1) = s i + 1 := by have := hs.out i hi; unfold wrap64; omega
          have d2 : decide (0 < s k) = true := decide_eq_true h2
          clear h1 h2
          by_cases hp : m ∈ path N (U k).n.toNat
          · have HP := Lib.hid hp
            have hdp : decide (m ∈ path N (U k).n.toNat) = true := decide_eq_true hp
            have HJ := Lib.hid (HIB.out k)
            rw [hdp] at HJ
            clear hp hdp
            go_wp2_with (go_at_call 111; refine (HJ.out _ hlt (by first | exact HBW.out.alloc HBW.out.size _ | exact (HBW.out.alloc HBW.out.size _).setCell (by simp only []; exact HBW.out.size) _)).mono ?_; rintro e w9 ⟨rfl, hb9⟩)
            go_ret
            exact ⟨⟨false, rfl, no_iff fun h => h.2.2 k hlt HP.out HTK.out⟩, hb9⟩
          · have HP := Lib.hid hp
            have hdp : decide (m ∈ path N (U k).n.toNat) = false := decide_eq_false hp
            have HJ := Lib.hid (HIB.out k)
            rw [hdp] at HJ
            clear hp hdp
            go_wp2_with (go_at_call 111; refine (HJ.out _ hlt (by first | exact HBW.out.alloc HBW.out.size _ | exact (HBW.out.alloc HBW.out.size _).setCell (by simp only []; exact HBW.out.size) _)).mono ?_; rintro e w9 ⟨rfl, hb9⟩)
            go_roundw
            case rel => exact ⟨k + 1, by omega, by go_num, fun j hj hjm => by
              by_cases e : j = k
              · subst e; exact (HP.out hjm).elim
              · exact HNO.out j (by omega) hjm, hb9⟩
            case measure => simp [Go.RowKit.intOf]; omega
        · have HTK : Hid (¬ ((((U i).k < (U k).k ∧ 0 < s k) ∨ ((U k).k = (U i).k ∧ s i + 1 < s k)))) := Lib.hid (fun h => h.elim (fun h => h2 h.2) (fun h => by omega))
          have hwr : wrap64 (s i + 1) = s i + 1 := by have := hs.out i hi; unfold wrap64; omega
          have d2 : decide (0 < s k) = false := decide_eq_false h2
          clear h1 h2
          go_wp2
          go_roundw
          case rel => exact ⟨k + 1, by omega, by go_num, fun j hj hjm => by
            by_cases e : j = k
            · subst e; exact HTK.out
            · exact HNO.out j (by omega) hjm, by first | exact HBW.out.alloc HBW.out.size _ | exact (HBW.out.alloc HBW.out.size _).setCell (by simp only []; exact HBW.out.size) _⟩
          case measure => simp [Go.RowKit.intOf]; omega
      · have d1 : decide ((U i).k < (U k).k) = false := decide_eq_false h1
        by_cases h3 : (U k).k = (U i).k
        · have d3 : ((U k).k == (U i).k) = true := by simp; exact h3
          by_cases h4 : s i + 1 < s k
          · have HTK : Hid ((((U i).k < (U k).k ∧ 0 < s k) ∨ ((U k).k = (U i).k ∧ s i + 1 < s k))) := Lib.hid (.inr ⟨h3, h4⟩)
            have hwr : wrap64 (s i + 1) = s i + 1 := by have := hs.out i hi; unfold wrap64; omega
            have d4 : decide (s i + 1 < s k) = true := decide_eq_true h4
            clear h1 h3 h4
            by_cases hp : m ∈ path N (U k).n.toNat
            · have HP := Lib.hid hp
              have hdp : decide (m ∈ path N (U k).n.toNat) = true := decide_eq_true hp
              have HJ := Lib.hid (HIB.out k)
              rw [hdp] at HJ
              clear hp hdp
              go_wp2_with (go_at_call 111; refine (HJ.out _ hlt (by first | exact HBW.out.alloc HBW.out.size _ | exact (HBW.out.alloc HBW.out.size _).setCell (by simp only []; exact HBW.out.size) _)).mono ?_; rintro e w9 ⟨rfl, hb9⟩)
              go_ret
              exact ⟨⟨false, rfl, no_iff fun h => h.2.2 k hlt HP.out HTK.out⟩, hb9⟩
            · have HP := Lib.hid hp
              have hdp : decide (m ∈ path N (U k).n.toNat) = false := decide_eq_false hp
              have HJ := Lib.hid (HIB.out k)
              rw [hdp] at HJ
              clear hp hdp
              go_wp2_with (go_at_call 111; refine (HJ.out _ hlt (by first | exact HBW.out.alloc HBW.out.size _ | exact (HBW.out.alloc HBW.out.size _).setCell (by simp only []; exact HBW.out.size) _)).mono ?_; rintro e w9 ⟨rfl, hb9⟩)
              go_roundw
              case rel => exact ⟨k + 1, by omega, by go_num, fun j hj hjm => by
                by_cases e : j = k
                · subst e; exact (HP.out hjm).elim
                · exact HNO.out j (by omega) hjm, hb9⟩
              case measure => simp [Go.RowKit.intOf]; omega
          · have HTK : Hid (¬ ((((U i).k < (U k).k ∧ 0 < s k) ∨ ((U k).k = (U i).k ∧ s i + 1 < s k)))) := Lib.hid (fun h => h.elim (fun h => h1 h.1) (fun h => h4 h.2))
            have hwr : wrap64 (s i + 1) = s i + 1 := by have := hs.out i hi; unfold wrap64; omega
            have d4 : decide (s i + 1 < s k) = false := decide_eq_false h4
            clear h1 h3 h4
            go_wp2
            go_roundw
            case rel => exact ⟨k + 1, by omega, by go_num, fun j hj hjm => by
              by_cases e : j = k
              · subst e; exact HTK.out
              · exact HNO.out j (by omega) hjm, by first | exact HBW.out.alloc HBW.out.size _ | exact (HBW.out.alloc HBW.out.size _).setCell (by simp only []; exact HBW.out.size) _⟩
            case measure => simp [Go.RowKit.intOf]; omega
        · have HTK : Hid (¬ ((((U i).k < (U k).k ∧ 0 < s k) ∨ ((U k).k = (U i).k ∧ s i + 1 < s k)))) := Lib.hid (fun h => h.elim (fun h => h1 h.1) (fun h => h3 h.1))
          have hwr : wrap64 (s i + 1) = s i + 1 := by have := hs.out i hi; unfold wrap64; omega
          have d3 : ((U k).k == (U i).k) = false := by simp; omega
          clear h1 h3
          go_wp2
          go_roundw
          case rel => exact ⟨k + 1, by omega, by go_num, fun j hj hjm => by
            by_cases e : j = k
            · subst e; exact HTK.out
            · exact HNO.out j (by omega) hjm, by first | exact HBW.out.alloc HBW.out.size _ | exact (HBW.out.alloc HBW.out.size _).setCell (by simp only []; exact HBW.out.size) _⟩
          case measure => simp [Go.RowKit.intOf]; omega
end Go.Kn

namespace Go.Kn
open Go Go.Proofs Go.RowKit

theorem bind_ex {f : Int} {ln lo : Nat} {N : Nat → N2} {U : Nat → O3} (HT : TreeP f ln lo N U) {t : Nat → Int} (h : Ord f lo N U (fun _ => 0) [0, 1, 2, 3] t) {i : Nat} (hi : i < lo) (hne : t i ≠ (U i).c) : ∃ m, m ≤ ln ∧ BindP f lo N U t i m := by
  obtain ⟨hv, hd⟩ := law_dn HT h
  rcases hd i hi with h1 | ⟨m, h1, h2, h3⟩
  · exact (hne h1).elim
  · have hml := path_le HT _ (node_le HT hi) m h1
    refine ⟨m, Nat.le_trans hml (node_le HT hi), h1, h2, fun k hk hm => ?_⟩
    have hk3 := (tree_o HT hk).2.2
    have h4 := h3 k hk hm
    rintro (⟨h5, h6⟩ | ⟨h5, h6⟩)
    · have := h4.1 ⟨h5, by omega⟩; omega
    · have := h4.2 h5; omega

/-- the first node that binds an outlet, or none -/
def WhyR (f : Int) (ln lo : Nat) (N : Nat → N2) (U : Nat → O3) (t : Nat → Int) (i : Nat) (rn re : Int) : Prop :=
  (re = 5 ∧ rn = 0 ∧ t i = (U i).c) ∨ (re = 0 ∧ t i ≠ (U i).c ∧ ∃ n : Nat, rn = (n : Int) ∧ n ≤ ln ∧ BindP f lo N U t i n ∧ ∀ m, m < n → ¬ BindP f lo N U t i m)

theorem shares200 {f : Int} {ln lo : Nat} {N : Nat → N2} {U : Nat → O3} (HT : TreeP f ln lo N U) {t : Nat → Int} (h : Ord f lo N U (fun _ => 0) [0, 1, 2, 3] t) : ∀ k, k < lo → 0 ≤ t k ∧ t k ≤ 200 := fun k hk => by
  have h1 := (h.vd (vd_zero HT)).bd k hk
  have h2 := (tree_o HT hk).2.1
  omega

set_option maxRecDepth 100000 in
set_option maxHeartbeats 2000000 in
theorem dbinds_w (f : Int) (na oa : Option Addr) (ln cn lo co i m : Nat) (N : Nat → N2) (U : Nat → O3) (t : Nat → Int) (w : World) (hi : i < lo) (hm : m ≤ ln) (HR : Hid (TreeP f ln lo N U)) (H : Hid (Tr7 w na oa ln lo N U)) (HO : Hid (Ord f lo N U (fun _ => 0) [0, 1, 2, 3] t)) :
    Calls Tryz.prog 27 #[.agg #[.int .i64 f, .slice na ln cn, .slice oa lo co], .int .i64 (i : Int), .int .i64 (m : Int)] w fun e w' => (∃ rb : Bool, e = .returned (.tuple #[.bool rb, .int .i64 0]) ∧ (rb = true ↔ BindP f lo N U t i m)) ∧ Below w.heap.size w w' := by
  have q1 := HR.out.l6
  have q2 := HR.out.lo2
  have BX := Lib.hid (fun (w1 : World) (hb : Below (w.alloc (.cells #[.int .i64 f, .slice na ln cn, .slice oa lo co] 25)).heap.size (w.alloc (.cells #[.int .i64 f, .slice na ln cn, .slice oa lo co] 25)) w1) => box7 hb)
  have HN : Hid (∀ w1, Below (w.alloc (.cells #[.int .i64 f, .slice na ln cn, .slice oa lo co] 25)).heap.size (w.alloc (.cells #[.int .i64 f, .slice na ln cn, .slice oa lo co] 25)) w1 → Hid (Tr7 w1 na oa ln lo N U)) := Lib.hid fun w1 h => Lib.hid (H.out.below (below_al h))
  have hb : Below (w.alloc (.cells #[.int .i64 f, .slice na ln cn, .slice oa lo co] 25)).heap.size (w.alloc (.cells #[.int .i64 f, .slice na ln cn, .slice oa lo co] 25)) (w.alloc (.cells #[.int .i64 f, .slice na ln cn, .slice oa lo co] 25)) := Below.refl _ _
  obtain ⟨x1, x2, x3, x4⟩ := BX.out _ hb
  have hio : fromB 0 ((lo : Int) - 1) (i : Int) = true := by simp only [fromB, decide_eq_true_eq]; omega
  have hno : fromB 0 (ln : Int) (m : Int) = true := by simp only [fromB, decide_eq_true_eq]; omega
  have HIO := Lib.hid hio
  have HNO := Lib.hid hno
  have HS2 := Lib.hid (shares200 HR.out HO.out)
  clear H hio hno
  go_enter Tryz.func27, Tryz.ntmps27
  go_wp2_with (first
    | (go_at_call 61; refine (isTree_w f na oa ln cn lo co N U _ (by omega) (by omega) (HN.out _ hb)).mono ?_; rintro e wl ⟨⟨rb, rfl, hrb⟩, hv⟩; obtain rfl : rb = true := hrb.2 HR.out; clear hrb; replace hb := hb.trans (hv.mono hb.size); clear x1 x2 x3 x4; obtain ⟨x1, x2, x3, x4⟩ := BX.out _ hb)
    | (go_at_call 72; refine (isOutlet_w f (i : Int) na oa ln cn lo co _ (by omega)).mono ?_; rw [HIO.out]; rintro e wl ⟨rfl, hv⟩; replace hb := hb.trans (hv.mono hb.size); clear x1 x2 x3 x4; obtain ⟨x1, x2, x3, x4⟩ := BX.out _ hb)
    | (go_at_call 73; refine (isNode_w f (m : Int) na oa ln cn lo co _).mono ?_; rw [HNO.out]; rintro e wl ⟨rfl, hv⟩; replace hb := hb.trans (hv.mono hb.size); clear x1 x2 x3 x4; obtain ⟨x1, x2, x3, x4⟩ := BX.out _ hb)
    | (go_at_call 68; refine (lawful_w f na oa ln cn lo co N U _ HR (HN.out _ hb)).mono ?_; rintro e wl ⟨⟨sv, SH, FL, k1, k2, t', rfl, h1, h2, h3, h4, h5⟩, hv⟩; replace hb := hb.trans (hv.mono hb.size); clear x1 x2 x3 x4; obtain ⟨x1, x2, x3, x4⟩ := BX.out _ hb; obtain rfl : t' = t := h2.det HO.out; have HSV := Lib.hid h1; clear h1 h2 h3 h4 h5)
    | (go_at_call 74; refine (binds_w f na oa ln cn lo co k1 k2 sv SH FL i m N U t' _ _ HR (HN.out _ hb) (Below.refl _ _) hi hm HS2 HSV).mono ?_; rintro e wl ⟨⟨rb, rfl, hrb⟩, hv⟩; replace hb := hb.trans (hv.mono hb.size); have HRB := Lib.hid hrb; clear hrb))
  refine bodyPost_ret (v := .tuple #[.bool rb, .int .i64 0]) (by simp [results, Tryz.results27, go_sem]) rfl ⟨⟨rb, rfl, HRB.out⟩, below_al hb⟩

set_option maxRecDepth 100000 in
set_option maxHeartbeats 2000000 in
theorem dwhy_w (f : Int) (na oa : Option Addr) (ln cn lo co i : Nat) (N : Nat → N2) (U : Nat → O3) (t : Nat → Int) (w : World) (hi : i < lo) (HR : Hid (TreeP f ln lo N U)) (H : Hid (Tr7 w na oa ln lo N U)) (HO : Hid (Ord f lo N U (fun _ => 0) [0, 1, 2, 3] t)) :
    Calls Tryz.prog 28 #[.agg #[.int .i64 f, .slice na ln cn, .slice oa lo co], .int .i64 (i : Int)] w fun e w' => (∃ rn re, e = .returned (.tuple #[.int .i64 rn, .int .i64 re]) ∧ WhyR f ln lo N U t i rn re) ∧ Below w.heap.size w w' := by
  have q1 := HR.out.l6
  have q2 := HR.out.lo2
  have BX := Lib.hid (fun (w1 : World) (hb : Below (w.alloc (.cells #[.int .i64 f, .slice na ln cn, .slice oa lo co] 25)).heap.size (w.alloc (.cells #[.int .i64 f, .slice na ln cn, .slice oa lo co] 25)) w1) => box7 hb)
  have HN : Hid (∀ w1, Below (w.alloc (.cells #[.int .i64 f, .slice na ln cn, .slice oa lo co] 25)).heap.size (w.alloc (.cells #[.int .i64 f, .slice na ln cn, .slice oa lo co] 25)) w1 → Hid (Tr7 w1 na oa ln lo N U)) := Lib.hid fun w1 h => Lib.hid (H.out.below (below_al h))
  have hb : Below (w.alloc (.cells #[.int .i64 f, .slice na ln cn, .slice oa lo co] 25)).heap.size (w.alloc (.cells #[.int .i64 f, .slice na ln cn, .slice oa lo co] 25)) (w.alloc (.cells #[.int .i64 f, .slice na ln cn, .slice oa lo co] 25)) := Below.refl _ _
  obtain ⟨x1, x2, x3, x4⟩ := BX.out _ hb
  have hio : fromB 0 ((lo : Int) - 1) (i : Int) = true := by simp only [fromB, decide_eq_true_eq]; omega
  have HIO := Lib.hid hio
  have HS2 := Lib.hid (shares200 HR.out HO.out)
  have HEX := Lib.hid (bind_ex HR.out HO.out hi)
  clear H hio
  go_enter Tryz.func28, Tryz.ntmps28
  go_wp2_with (first
    | (go_at_call 61; refine (isTree_w f na oa ln cn lo co N U _ (by omega) (by omega) (HN.out _ hb)).mono ?_; rintro e wl ⟨⟨rb, rfl, hrb⟩, hv⟩; obtain rfl : rb = true := hrb.2 HR.out; clear hrb; replace hb := hb.trans (hv.mono hb.size); clear x1 x2 x3 x4; obtain ⟨x1, x2, x3, x4⟩ := BX.out _ hb)
    | (go_at_call 72; refine (isOutlet_w f (i : Int) na oa ln cn lo co _ (by omega)).mono ?_; rw [HIO.out]; rintro e wl ⟨rfl, hv⟩; replace hb := hb.trans (hv.mono hb.size); clear x1 x2 x3 x4; obtain ⟨x1, x2, x3, x4⟩ := BX.out _ hb)
    | (go_at_call 68; refine (lawful_w f na oa ln cn lo co N U _ HR (HN.out _ hb)).mono ?_; rintro e wl ⟨⟨sv, SH, FL, k1, k2, t', rfl, h1, h2, h3, h4, h5⟩, hv⟩; replace hb := hb.trans (hv.mono hb.size); clear x1 x2 x3 x4; obtain ⟨x1, x2, x3, x4⟩ := BX.out _ hb; obtain rfl : t' = t := h2.det HO.out; have HSV := Lib.hid h1; have y4 := h1.at_.c4; clear h1 h2 h3 h4 h5; obtain ⟨wq, hwq⟩ : ∃ wq, wq = wl := ⟨_, rfl⟩; subst hwq; have HTQ := HN.out _ hb)
    | (go_at_call 75; refine (isServed_w f na oa ln cn lo co k1 k2 sv SH FL i N U t' _ hi (HN.out _ hb) HSV).mono ?_; rintro e wl ⟨rfl, hv⟩; have HB5 := Lib.hid hv; have HSV5 := Lib.hid (HSV.out.below hv); have y5 := HSV5.out.at_.c4; replace hb := hb.trans (hv.mono hb.size); clear x1 x2 x3 x4 y4; obtain ⟨x1, x2, x3, x4⟩ := BX.out _ hb; cases hsd : decide (t' i = (U i).c) <;> (have HSD := Lib.hid hsd; clear hsd)))
  · have hne : t' i ≠ (U i).c := of_decide_eq_false HSD.out
    have HNE := Lib.hid hne
    have HBW0 := Lib.hid hb
    clear hne x1 x2 x3 x4 y5 hb
    go_loopw [28] (fun ii wr => ∃ k : Nat, k ≤ ln + 1 ∧ ii = .int .i64 (k : Int) ∧ (∀ m, m < k → ¬ BindP f lo N U t' i m) ∧ Below wl.heap.size wl wr) (fun ii _ => ln + 1 - (Go.RowKit.intOf ii).toNat)
    case atStart => exact ⟨0, Nat.zero_le _, rfl, fun j hj => by omega, Below.refl _ _⟩
    case round =>
      obtain ⟨k, hk, rfl, hno, hbw⟩ := hrel
      have HNO := Lib.hid hno
      have HBW := Lib.hid hbw
      clear hno hbw
      by_cases hlt : k < ln + 1
      · have n1 : (k : Int) < ((ln + 1 : Nat) : Int) := by omega
        have n2 : (k : Int) < (ln : Int) + 1 := by omega
        have HBI := Lib.hid (binds_w f na oa ln cn lo co k1 k2 sv SH FL i k N U t' wq wr HR HTQ ((HB5.out.trans (HBW.out.mono HB5.out.size))) hi (by omega) HS2 (Lib.hid (HSV5.out.below HBW.out)))
        go_wp2_with (go_at_call 74; refine HBI.out.mono ?_; rintro e w9 ⟨⟨rb, rfl, hrb⟩, hb9⟩; have HRB := Lib.hid hrb; clear hrb; have HB9 := Lib.hid (HBW.out.trans (hb9.mono HBW.out.size)); cases hrv : rb <;> (have HRV := Lib.hid hrv; clear hrv))
        · go_roundw
          case rel => exact ⟨k + 1, by omega, by go_num, fun m hm hp => by
            by_cases e : m = k
            · subst e; have := HRB.out.2 hp; rw [HRV.out] at this; cases this
            · exact HNO.out m (by omega) hp, HB9.out⟩
          case measure => simp [Go.RowKit.intOf]; omega
        · refine bodyPost_ret (v := .tuple #[.int .i64 (k : Int), .int .i64 0]) (by simp [results, Tryz.results28, go_sem]) rfl ⟨⟨(k : Int), 0, rfl, .inr ⟨rfl, HNE.out, k, rfl, by omega, HRB.out.1 HRV.out, HNO.out⟩⟩, below_al (HBW0.out.trans (HB9.out.mono HBW0.out.size))⟩
      · exact absurd (HEX.out HNE.out) (fun ⟨m, hm, hp⟩ => HNO.out m (by omega) hp)
  · have heq : t' i = (U i).c := of_decide_eq_true HSD.out
    refine bodyPost_ret (v := .tuple #[.int .i64 0, .int .i64 5]) (by simp [results, Tryz.results28, go_sem]) rfl ⟨⟨0, 5, rfl, .inl ⟨rfl, rfl, heq⟩⟩, below_al hb⟩
end Go.Kn
