/- Contracts of functions that the laws of this seat call, or the evaluator of closed calls and its runs. Conditions: as each theorem states them. -/
import Derived.Test.YtpfbfdcpibajoaaGreatDoorHG
import Derived.Test.YtpfbfdcpibajoaaGreatDoorHP
import Derived.Test.YtpfbfdcpibajoaaGreatDoorHR
set_option linter.unusedVariables false
set_option linter.unusedSimpArgs false
/- Contracts of functions that the laws of this seat call, or the evaluator of closed calls and its runs. Conditions: as each theorem states them. -/
set_option linter.unusedVariables false
set_option linter.unusedSimpArgs false
namespace Go.Kn
open Go Go.Proofs Go.RowKit Go.Shelf
attribute [local go_sem] Oper.semAt_some

theorem boxed_below {W W' : World} {B N : Nat} {t : TypeId} {v : Value} (h : Boxed W B t v) (hb : Below N W W') (hB : B < N) : Boxed W' B t v := (hb.block B hB).trans h

theorem keeps_of_below {N : Nat} {W W' : World} (hb : Below W.heap.size W W') : KeepsFrom N W W' := ⟨hb.size, fun k o _ hk _ => (hb.block k (Array.getElem?_eq_some_iff.1 hk).1).trans hk⟩
theorem kpB_of_below {bs : List Nat} {W W' : World} (h : ∀ b ∈ bs, b < W.heap.size) (hb : Below W.heap.size W W') : KpB bs W W' := fun b hbb o => ⟨hb.cell (p := ⟨b, o, none⟩) (h b hbb), hb.frozen (p := ⟨b, o, none⟩) (h b hbb)⟩
theorem Frx.of_belowN {X : List Nat} {A B : World} {m : Nat} (hn : A.heap.size ≤ m) (h : Below m A B) : Frx X A B := ⟨h.os, h.tape, h.output, h.size, fun k hk _ => h.block k (by omega)⟩
theorem Frx.then_below {X : List Nat} {A B C : World} (h : Frx X A B) (k : Below A.heap.size B C) : Frx X A C := ⟨k.os.trans h.os, k.tape.trans h.tape, k.output.trans h.output, Nat.le_trans h.size k.size, fun i hi hx => (k.block i hi).trans (h.block i hi hx)⟩

theorem bodyPan_last (n : Nat) {P : Program} {id id2 r m : Nat} {l : List Oper} {R : List PanicEntry → World → Prop} {a : Act} {w W : World} (hm : P.follows .mixedOrders = true) (hB : tailOk l n = true) (h0 : Below W.heap.size W w)
    (h : Calm P (l.take n).toArray (fun w' => Below W.heap.size W w') (fun a' => ∀ w', Below W.heap.size W w' → wpOp P l.toArray (fun e a w => ∃ ch, e = .panic ch ∧ a.defers = [] ∧ R ch w) n (fun a w => ∃ ch, Exit.normal = .panic ch ∧ a.defers = [] ∧ R ch w) a' w') (l.take n) a) :
    BodyPan (Fence.wide.inRound r) m P (.block id (.region id2 l.toArray true)) R a w := by
  refine bodyPan_of (Q := fun e a w => ∃ ch, e = .panic ch ∧ a.defers = [] ∧ R ch w) (fun e a w h => h) fun t => ?_
  simp only [Region.schedule, hm, Bool.true_or, if_true]
  exact wpAnyIn_sound _ t _ a _ (wpAnyIn_of (fun o ho c => (tailP_of hB).nod o (by simpa using ho) c) (fun h => by obtain ⟨a, w, ch, e, _⟩ := h; cases e) _ _ _ _ (wpAny_quiet_last (tailP_of hB) (below_drew h0) h.out))

theorem SvAt.setSh {w : World} {sv SH FL i : Nat} {f c : Int} {na oa : Option Addr} {ln cn lo co cs cf : Nat} {s fl : Nat → Int} (h : SvAt w sv SH FL f na oa ln cn lo co cs cf s fl) (hi : i < lo) : SvAt (w.setCell ⟨SH, i, none⟩ (.int .i64 (s i + c))) sv SH FL f na oa ln cn lo co cs cf (put s i c) fl := by
  have hx := Frx.setCell [SH] w SH i (.int .i64 (s i + c)) (by simp)
  have e1 := h.e1
  have e2 := h.e2
  have n1 : sv ∉ [SH] := by simpa using e2
  have n2 : FL ∉ [SH] := by simpa using e1.symm
  refine ⟨(hx.cell h.bs n1).trans h.c0, (hx.cell h.bs n1).trans h.c1, (hx.cell h.bs n1).trans h.c2, (hx.cell h.bs n1).trans h.c3, (hx.cell h.bs n1).trans h.c4, fun j hj => ?_, fun j hj => ⟨(hx.cell h.bf n2).trans (h.fw j hj).1, (hx.froz h.bf n2).trans (h.fw j hj).2⟩, by simpa [World.setCell] using h.bs, by simpa [World.setCell] using h.bh, by simpa [World.setCell] using h.bf, e1, e2, h.e3⟩
  refine ⟨?_, by rw [World.frozen?_setCell]; exact (h.sh j hj).2⟩
  by_cases e : j = i
  · subst e
    rw [put_same]
    exact World.cell?_setCell_same' _ _ _ (by rw [(h.sh j hj).1]; rfl)
  · rw [put_other e, World.cell?_setCell_other _ _ _ _ (by intro e2; injection e2; omega)]
    exact (h.sh j hj).1
theorem SvAt.setFl {w : World} {sv SH FL x : Nat} {f v : Int} {na oa : Option Addr} {ln cn lo co cs cf : Nat} {s fl : Nat → Int} (h : SvAt w sv SH FL f na oa ln cn lo co cs cf s fl) (hi : x < ln + 1) : SvAt (w.setCell ⟨FL, x, none⟩ (.int .i64 v)) sv SH FL f na oa ln cn lo co cs cf s (fun m => if m = x then v else fl m) := by
  have hx := Frx.setCell [FL] w FL x (.int .i64 v) (by simp)
  have e1 := h.e1
  have e3 := h.e3
  have n1 : sv ∉ [FL] := by simpa using e3
  have n2 : SH ∉ [FL] := by simpa using e1
  refine ⟨(hx.cell h.bs n1).trans h.c0, (hx.cell h.bs n1).trans h.c1, (hx.cell h.bs n1).trans h.c2, (hx.cell h.bs n1).trans h.c3, (hx.cell h.bs n1).trans h.c4, fun j hj => ⟨(hx.cell h.bh n2).trans (h.sh j hj).1, (hx.froz h.bh n2).trans (h.sh j hj).2⟩, fun j hj => ?_, by simpa [World.setCell] using h.bs, by simpa [World.setCell] using h.bh, by simpa [World.setCell] using h.bf, e1, h.e2, e3⟩
  refine ⟨?_, by rw [World.frozen?_setCell]; exact (h.fw j hj).2⟩
  by_cases e : j = x
  · subst e
    rw [if_pos rfl]
    exact World.cell?_setCell_same' _ _ _ (by rw [(h.fw j hj).1]; rfl)
  · rw [if_neg e, World.cell?_setCell_other _ _ _ _ (by intro e2; injection e2; omega)]
    exact (h.fw j hj).1
/-- some node on the way can't carry it -/
structure Mis (f : Int) (N : Nat → N2) (fl : Nat → Int) (c : Int) (l : List Nat) : Prop where
  out : ¬ ∀ m ∈ l, fl m + c ≤ capN f N m

/-- what has flown when some nodes have been passed -/
def flP (fl : Nat → Int) (c : Int) (pre : List Nat) (m : Nat) : Int := fl m + (if m ∈ pre then c else 0)
theorem flP_snoc {fl : Nat → Int} {c : Int} {pre : List Nat} {x : Nat} (h : x ∉ pre) : (fun m => if m = x then fl x + c else flP fl c pre m) = flP fl c (pre ++ [x]) := by
  funext m
  unfold flP
  by_cases e : m = x
  · subst e; simp
  · simp [e]

set_option maxRecDepth 100000 in
set_option maxHeartbeats 4000000 in
theorem give_w (f : Int) (na oa : Option Addr) (ln cn lo co cs cf sv SH FL i : Nat) (c : Int) (N : Nat → N2) (U : Nat → O3) (s fl : Nat → Int) (w0 W : World)
    (HR : Hid (TreeP f ln lo N U)) (HT : Hid (Tr7 w0 na oa ln lo N U)) (hb : Below w0.heap.size w0 W) (hi : i < lo) (hc : 0 ≤ c ∧ c ≤ 200)
    (h1 : w0.heap.size ≤ sv) (h2 : w0.heap.size ≤ SH) (h3 : w0.heap.size ≤ FL) (H : Hid (SvAt W sv SH FL f na oa ln cn lo co cs cf s fl))
    (hs : 0 ≤ s i ∧ s i ≤ 200) (hf : Hid (∀ m, m ≤ ln → 0 ≤ fl m ∧ fl m ≤ 2000)) :
    Calls Tryz.prog 67 #[.pointer (some ⟨sv, 0, none⟩), .int .i64 (i : Int), .int .i64 c] W fun e W' => Frx [SH, FL] W W' ∧
      ((e = .returned (.tuple #[]) ∧ (s i + c ≤ (U i).c ∧ ∀ m ∈ path N (U i).n.toNat, fl m + c ≤ capN f N m) ∧ SvAt W' sv SH FL f na oa ln cn lo co cs cf (put s i c) (fun m => fl m + (if m ∈ path N (U i).n.toNat then c else 0))) ∨
       (e = .panicked [{ v := .iface 130 (.agg #[]), recovered := false }] ∧ ¬ (s i + c ≤ (U i).c ∧ ∀ m ∈ path N (U i).n.toNat, fl m + c ≤ capN f N m) ∧ SvAt W' sv SH FL f na oa ln cn lo co cs cf s fl)) := by
  have q1 := HR.out.l6
  have q2 := HR.out.lo2
  have hu := (tree_o HR.out hi).1
  have huc := (tree_o HR.out hi).2.1
  obtain ⟨u, hu0⟩ : ∃ u : Nat, (U i).n.toNat = u := ⟨_, rfl⟩
  have hu1 : (U i).n = (u : Int) := by omega
  have hu2 : u ≤ ln := by omega
  have hpl : ∀ m ∈ path N u, m ≤ ln := fun m hm => Nat.le_trans (path_le HR.out u (by omega) m hm) (by omega)
  have hnd := path_nodup HR.out u (by omega)
  obtain ⟨C, P, hoa, hC, hcells⟩ := HT.out.ho.resolve_left (by omega)
  subst hoa
  obtain ⟨y0, y1, _⟩ := hcells i hi
  rw [hu1] at y0
  rw [hu0]
  have n1 : (0 : Int) ≤ (i : Int) := by omega
  have n2 : (i : Int) < (lo : Int) := by omega
  clear hcells hu hu0
  refine (callsIn_wide (n := 6)).1 ?_
  refine callsIn_of_wp_marks Tryz.func67 rfl trivial ?_ rfl
  simp only [Tryz.ntmps67, List.size_toArray, List.length_cons, List.length_nil, Nat.reduceAdd, Nat.reduceSub, Array.replicate_succ, Array.replicate_zero, List.push_toArray, List.append_toArray, List.nil_append, List.cons_append]
  gi_wp2
  obtain ⟨W1, hW1⟩ : ∃ W1, W1 = (W.alloc (.cells #[.pointer (some ⟨sv, 0, none⟩)] 90)).alloc (.cells #[.int .i64 c] 3) := ⟨_, rfl⟩
  have hbW : Below W.heap.size W W1 := by rw [hW1]; exact ((Below.refl _ _).alloc (Nat.le_refl _) _).alloc (by simp) _
  have hzW : W1.heap.size = W.heap.size + 1 + 1 := by rw [hW1]; simp
  have b3 : Boxed W1 W.heap.size 90 (.pointer (some ⟨sv, 0, none⟩)) := by rw [hW1]; exact (Boxed.new W 90 _).alloc _
  have b5 : Boxed W1 (W.heap.size + 1) 3 (.int .i64 c) := by
    rw [hW1]
    have := Boxed.new (W.alloc (.cells #[.pointer (some ⟨sv, 0, none⟩)] 90)) 3 (.int .i64 c)
    rwa [World.size_alloc] at this
  have hb01 : Below w0.heap.size w0 W1 := hb.trans (hbW.mono hb.size)
  have c0 := (hb01.cell (p := ⟨C, P + i * 3, none⟩) hC).trans y0
  have c1 := (hb01.cell (p := ⟨C, P + i * 3 + 1, none⟩) hC).trans y1
  clear y0 y1
  have S1 := H.out.below hbW
  have x1 := S1.c1
  have x2 := S1.c2
  have x3 := S1.c3
  have x4 := S1.c4
  have x5 := (S1.sh i hi).1
  have x6 := b3.cell
  have x7 := b5.cell
  rw [← hW1]
  have HB01 := Lib.hid hb01
  have HBW := Lib.hid hbW
  have HS1 := Lib.hid S1
  have HZW := Lib.hid hzW
  clear hb01 hbW S1 hW1 hzW
  have hmx : Tryz.prog.follows .mixedOrders = true := by kernel_rfl
  have HX : Hid (∀ w', Below W1.heap.size W1 w' → w'.cell? ⟨W.heap.size, 0, none⟩ = some (.pointer (some ⟨sv, 0, none⟩)) ∧ w'.cell? ⟨W.heap.size + 1, 0, none⟩ = some (.int .i64 c) ∧ w'.cell? ⟨sv, 2, none⟩ = some (.slice (some ⟨C, P, none⟩) lo co) ∧ w'.cell? ⟨sv, 3, none⟩ = some (.slice (some ⟨SH, 0, none⟩) lo cs) ∧ w'.cell? ⟨SH, i, none⟩ = some (.int .i64 (s i)) ∧ w'.cell? ⟨C, P + i * 3 + 1, none⟩ = some (.int .i64 (U i).c)) := Lib.hid fun w' h => by
    have S2 := HS1.out.below h
    exact ⟨(boxed_below b3 h b3.lt).cell, (boxed_below b5 h b5.lt).cell, S2.c2, S2.c3, (S2.sh i hi).1, (h.cell (p := ⟨C, P + i * 3 + 1, none⟩) (Nat.lt_of_lt_of_le hC HB01.out.size)).trans c1⟩
  have HB3 := Lib.hid b3
  have HB5 := Lib.hid b5
  have HPL := Lib.hid hpl
  have HND := Lib.hid hnd
  have HSF := Lib.hid hs
  clear x1 x2 x3 x4 x5 x6 x7 c0 c1 b3 b5 hpl hnd
  have wr1 : IntKind.i64.wrap (s i + c) = s i + c := by simp [IntKind.wrap, IntKind.signed, IntKind.bits]; omega
  have HAB : Hid (∀ w' s' fl', Below w0.heap.size w0 w' → SvAt w' sv SH FL f na (some ⟨C, P, none⟩) ln cn lo co cs cf s' fl' → Calls Tryz.prog 116 #[.pointer (some ⟨sv, 0, none⟩), .int .i64 (i : Int)] w' fun e w'' =>
      (∃ nb tb, e = .returned (.func (.func 123) #[] #[.pointer (some ⟨nb, 0, none⟩), .pointer (some ⟨tb, 0, none⟩)]) ∧ UpB w'' nb tb u f na ln cn ∧ w'.heap.size ≤ nb ∧ w'.heap.size ≤ tb) ∧ Below w'.heap.size w' w'') := Lib.hid fun w' s' fl' h h' =>
    above_w sv SH FL i u f na (some ⟨C, P, none⟩) ln cn lo co cs cf N U s' fl' w' q2 hi hu1 (Lib.hid (HT.out.below h)) (Lib.hid h')
  clear hs
  by_cases hok : s i + c ≤ (U i).c
  · have hd : decide (s i + c ≤ (U i).c) = true := decide_eq_true hok
    have HOK := Lib.hid hok
    clear hok
    refine wpIn_wide.2 ?_
    refine calm_last 21 (W := W1) hmx (by kernel_rfl) (Below.refl _ _) ?_
    repeat (first
      | (refine calm_no (by rfl) ?_
         (try simp only [Act.put, List.setIfInBounds_toArray, List.set_cons_zero, List.set_cons_succ]))
      | (apply calm_yes
         focus rfl
         focus
           intro w' hw'
           obtain ⟨z1, z2, z3, z4, z5, z6⟩ := HX.out w' hw'
           go_simp
           first
             | done
             | with_reducible rfl
             | fail
         (try simp only [Act.put, List.setIfInBounds_toArray, List.set_cons_zero, List.set_cons_succ])))
    refine calm_nil ?_
    intro w2 hb20
    have HB20 := Lib.hid hb20
    clear hb20 hd
    refine wpOp_last rfl rfl ?_
    go_simp
    go_at_call 115
    refine (must_t _ _).mono ?_
    rintro e w2 ⟨rfl, rfl⟩
    have x6 := (HX.out _ HB20.out).1
    gi_wp2_with (refine ⟨trivial, ?_⟩; gi_at_call 116; refine (callsIn_wide.2 (HAB.out _ _ _ (HB01.out.trans (HB20.out.mono HB01.out.size)) (HS1.out.below HB20.out))).mono ?_; rintro e w3 ⟨⟨nb, tb, rfl, hub, hn1, hn2⟩, hb3⟩)
    have HB13 : Hid (Below W1.heap.size W1 w3) := Lib.hid (HB20.out.trans (hb3.mono HB20.out.size))
    have HZ1 : Hid (W1.heap.size ≤ nb ∧ W1.heap.size ≤ tb ∧ nb < w3.heap.size ∧ tb < w3.heap.size ∧ nb ≠ tb) := Lib.hid ⟨Nat.le_trans HB20.out.size hn1, Nat.le_trans HB20.out.size hn2, hub.hn, hub.ht, hub.hnt⟩
    have HUB := Lib.hid hub
    have HTR := Lib.hid (HT.out.below (HB01.out.trans (HB13.out.mono HB01.out.size)))
    obtain ⟨A, O, hA⟩ : ∃ A O, (1 ≤ ln → na = some ⟨A, O, none⟩ ∧ NdAt w0 A O ln N) ∧ ((1 ≤ ln → A < w0.heap.size) ∧ (A < w0.heap.size ∨ A = tb)) := by
      rcases HT.out.hn with h | ⟨A, O, h1, h2, h3⟩
      · exact ⟨tb, 0, fun h' => by omega, fun h' => by omega, .inr rfl⟩
      · by_cases hz : 1 ≤ ln
        · exact ⟨A, O, fun _ => ⟨h1, h3⟩, fun _ => h2, .inl h2⟩
        · exact ⟨tb, 0, fun h' => absurd h' hz, fun h' => absurd h' hz, .inr rfl⟩
    have HA := Lib.hid hA
    clear hb3 hub hn1 hn2 hA x6
    have HBND : Hid (w0.heap.size ≤ W.heap.size ∧ W1.heap.size = W.heap.size + 1 + 1 ∧ sv < W.heap.size ∧ SH < W.heap.size ∧ FL < W.heap.size) := Lib.hid ⟨hb.size, HZW.out, H.out.bs, H.out.bh, H.out.bf⟩
    refine rangeFunc_pan4 (α := Nat) (fun a0 x => { tmps := (a0.tmps.setIfInBounds 33 (.int .i64 (x : Int))).setIfInBounds 6 (.int .i64 (x : Int)), defers := [] }) (encs := fun x : Nat => #[.int .i64 (x : Int)]) (Kp := KpB [nb, tb, A]) (Wr := fun A' B' => ∃ v, B' = A'.setCell ⟨nb, 0, none⟩ v) (S := fun xs _ => xs = path N u) (Nx := fun pre x => ∃ post, pre ++ x :: post = path N u) rfl (by decide) (gf := 123) (lb := #[.pointer (some ⟨nb, 0, none⟩), .pointer (some ⟨tb, 0, none⟩)]) rfl trivial (enters_of Tryz.func123 (by kernel_rfl) rfl)
      ?seq (fun h k => h.trans k) ?kb (fun _ _ _ h => h) (fun _ => rfl) ?wr (fun pre W' => Frx [nb] w3 W' ∧ ∀ m ∈ pre, fl m + c ≤ capN f N m) ?iw ?ib ⟨Frx.refl _ _, fun m hm => by cases hm⟩
      (fun ch W' => ch = [{ v := .iface 130 (.agg #[]), recovered := false }] ∧ Frx [nb] w3 W' ∧ Mis f N fl c (path N u)) ?assign (fun W' b _ o => ⟨rfl, rfl⟩) ?body ?done ?pan
    case seq =>
      intro l J Jp W' hz hbw hWr hY h0
      obtain ⟨p1, p2, p3, p4, p5⟩ := HZ1.out
      obtain ⟨r1, r2, r3, r4, r5⟩ := HBND.out
      have hU := HUB.out
      refine up_w f ln lo cn u nb tb A O l na N U [nb, tb, A] HR hu2 J Jp (fun h => (HA.out.1 h).1) ⟨by simp, by simp, fun _ => by simp⟩ p5 (fun h => by rcases HA.out.2.2 with h2 | h2 <;> omega) (fun s W v h => hWr s _ _ h ⟨v, rfl⟩) hY W' ((hbw.cell (p := ⟨nb, 0, none⟩) p3).trans hU.n0) ((hbw.frozen (p := ⟨nb, 0, none⟩) p3).trans hU.nf) ((hbw.cell (p := ⟨tb, 1, none⟩) p4).trans hU.t1) (fun h => ?_) h0
      have h3 := HA.out.2.1 h
      exact ((HA.out.1 h).2.below (by omega) (HB01.out.trans (HB13.out.mono HB01.out.size))).below (by omega) hbw
    case kb =>
      intro W' o' b hbb o
      obtain ⟨p1, p2, p3, p4, p5⟩ := HZ1.out
      obtain ⟨r1, r2, r3, r4, r5⟩ := HBND.out
      have h3 := HA.out.2.2
      have h4 := HB13.out.size
      have hlt : b < w3.heap.size := by
        simp only [List.mem_cons, List.not_mem_nil, or_false] at hbb
        omega
      exact ⟨World.cell?_of_block (w := W') (World.putObj_heap_other (by simp only []; omega)), World.frozen?_of_block (w := W') (World.putObj_heap_other (by simp only []; omega))⟩
    case wr =>
      rintro A' B' ⟨v, rfl⟩ k hk1 hk2
      have := HZ1.out.2.2.1
      exact Below.heap_setCell _ _ _ _ (by show k ≠ nb; omega)
    case iw =>
      rintro pre A' B' ⟨h1, h2⟩ ⟨v, rfl⟩
      exact ⟨h1.trans (Frx.setCell _ _ _ _ _ (by simp)), h2⟩
    case ib =>
      rintro pre A' B' ⟨h1, h2⟩ hb
      exact ⟨h1.then_below hb, h2⟩
    case assign =>
      rintro l x W' K hK
      have hsa := @Oper.semAt_some
      gi_wp2
    case body =>
      rintro l pre x a' W' ha hw ⟨post, hnx⟩ ⟨h1, h2⟩
      simp only [List.setIfInBounds_toArray, List.set_cons_zero, List.set_cons_succ] at ha
      subst ha
      obtain ⟨p1, p2, p3, p4, p5⟩ := HZ1.out
      obtain ⟨r1, r2, r3, r4, r5⟩ := HBND.out
      have h3z := HB13.out.size
      have hxp : x ∈ path N u := by rw [← hnx]; simp
      have hxl : x ≤ ln := HPL.out x hxp
      have hbw : Below w0.heap.size w0 W' := (HB01.out.trans (HB13.out.mono HB01.out.size)).trans (h1.below (by omega) (by simp; omega))
      have SW := (HS1.out.below HB13.out).fr h1 (by simp; omega) (by simp; omega) (by simp; omega)
      have e3 : W'.cell? ⟨W.heap.size, 0, none⟩ = some (.pointer (some ⟨sv, 0, none⟩)) := (h1.cell (by omega) (by simp; omega)).trans (boxed_below HB3.out HB13.out HB3.out.lt).cell
      have e5 : W'.cell? ⟨W.heap.size + 1, 0, none⟩ = some (.int .i64 c) := (h1.cell (by omega) (by simp; omega)).trans (boxed_below HB5.out HB13.out HB5.out.lt).cell
      have HXR : Hid (∀ w', Below W'.heap.size W' w' → w'.cell? ⟨W.heap.size, 0, none⟩ = some (.pointer (some ⟨sv, 0, none⟩)) ∧ w'.cell? ⟨W.heap.size + 1, 0, none⟩ = some (.int .i64 c) ∧ w'.cell? ⟨sv, 0, none⟩ = some (.int .i64 f) ∧ w'.cell? ⟨sv, 1, none⟩ = some (.slice na ln cn) ∧ w'.cell? ⟨sv, 2, none⟩ = some (.slice (some ⟨C, P, none⟩) lo co) ∧ w'.cell? ⟨sv, 4, none⟩ = some (.slice (some ⟨FL, 0, none⟩) (ln + 1) cf) ∧ w'.cell? ⟨FL, x, none⟩ = some (.int .i64 (fl x))) := Lib.hid fun w' h => by
        have S2 := SW.below h
        exact ⟨(h.cell (p := ⟨W.heap.size, 0, none⟩) (by simp only []; omega)).trans e3, (h.cell (p := ⟨W.heap.size + 1, 0, none⟩) (by simp only []; omega)).trans e5, S2.c0, S2.c1, S2.c2, S2.c4, (S2.fw x (by omega)).1⟩
      have HCAP : Hid (∀ w', Below W'.heap.size W' w' → Calls Tryz.prog 117 #[.agg #[.int .i64 f, .slice na ln cn, .slice (some ⟨C, P, none⟩) lo co], .int .i64 (x : Int)] w' fun e w'' => e = .returned (.int .i64 (capN f N x)) ∧ Below w'.heap.size w' w'') := Lib.hid fun w' h =>
        capacity_w f na (some ⟨C, P, none⟩) ln cn lo co x N U w' hxl (by omega) (Lib.hid (HT.out.below (hbw.trans (h.mono hbw.size))))
      have hfx := hf.out x hxl
      have wr2 : IntKind.i64.wrap (fl x + c) = fl x + c := by simp [IntKind.wrap, IntKind.signed, IntKind.bits]; omega
      have n3 : (0 : Int) ≤ (x : Int) := by omega
      have n4 : (x : Int) < ((ln + 1 : Nat) : Int) := by omega
      have n5 : (x : Int) < (ln : Int) + 1 := by omega
      have H1 := Lib.hid h1
      have H2 := Lib.hid h2
      have HNX := Lib.hid hnx
      have HXP := Lib.hid hxp
      have HWZ : Hid (w3.heap.size ≤ W'.heap.size ∧ nb < W'.heap.size ∧ tb < W'.heap.size ∧ A < W'.heap.size) := Lib.hid (by
        have := h1.size
        have h6 := HA.out.2.2
        exact ⟨by omega, by omega, by omega, by omega⟩)
      obtain ⟨Kx, hKx⟩ : ∃ K, capN f N x = K := ⟨_, rfl⟩
      rw [hKx] at HCAP
      have HKX := Lib.hid hKx
      clear h1 h2 hnx hxp hxl hbw SW e3 e5 hfx hKx p1 p2 p3 p4 p5 r1 r2 r3 r4 r5 h3z hw
      by_cases hx : fl x + c ≤ Kx
      · have hd : decide (fl x + c ≤ Kx) = true := decide_eq_true hx
        have HGX := Lib.hid hx
        clear hx
        refine .inl ?_
        refine wpIn_block ?_
        refine calm_last_in 18 (W := W') hmx (by kernel_rfl) (fun h => by obtain ⟨a, w, h⟩ := h; exact h) (Below.refl _ _) ?_
        repeat (first
          | (refine calm_no (by rfl) ?_
             (try simp only [Act.put, List.setIfInBounds_toArray, List.set_cons_zero, List.set_cons_succ]))
          | (apply calm_yes
             focus rfl
             focus
               intro w' hw'
               obtain ⟨z1, z2, z3, z4, z5, z6, z7⟩ := HXR.out w' hw'
               go_simp
               first
                 | done
                 | with_reducible rfl
                 | ((go_at_call 117; refine (HCAP.out w' hw').mono ?_; rintro e w8 ⟨rfl, hb8⟩; exact ⟨rfl, hw'.trans (hb8.mono hw'.size)⟩))
                 | fail
             (try simp only [Act.put, List.setIfInBounds_toArray, List.set_cons_zero, List.set_cons_succ])))
        refine calm_nil ?_
        intro w20 hb20
        have HB22 := Lib.hid hb20
        clear hb20 hd
        refine wpOp_last rfl rfl ?_
        go_simp
        go_at_call 115
        refine (must_t _ _).mono ?_
        rintro e w2 ⟨rfl, rfl⟩
        refine ⟨keeps_of_below HB22.out, kpB_of_below (fun b hbb => ?_) HB22.out, H1.out.then_below (HB22.out.mono HWZ.out.1), fun m hm => ?_⟩
        · have := HWZ.out
          simp only [List.mem_cons, List.not_mem_nil, or_false] at hbb
          omega
        · rcases List.mem_append.1 hm with h | h
          · exact H2.out m h
          · simp at h; subst h; rw [HKX.out]; exact HGX.out
      · have hd : decide (fl x + c ≤ Kx) = false := decide_eq_false hx
        have HGX := Lib.hid hx
        clear hx
        refine .inr ?_
        refine bodyPan_last 18 (W := W') hmx (by kernel_rfl) (Below.refl _ _) ?_
        repeat (first
          | (refine calm_no (by rfl) ?_
             (try simp only [Act.put, List.setIfInBounds_toArray, List.set_cons_zero, List.set_cons_succ]))
          | (apply calm_yes
             focus rfl
             focus
               intro w' hw'
               obtain ⟨z1, z2, z3, z4, z5, z6, z7⟩ := HXR.out w' hw'
               go_simp
               first
                 | done
                 | with_reducible rfl
                 | ((go_at_call 117; refine (HCAP.out w' hw').mono ?_; rintro e w8 ⟨rfl, hb8⟩; exact ⟨rfl, hw'.trans (hb8.mono hw'.size)⟩))
                 | fail
             (try simp only [Act.put, List.setIfInBounds_toArray, List.set_cons_zero, List.set_cons_succ])))
        refine calm_nil ?_
        intro w20 hb20
        have HB22 := Lib.hid hb20
        clear hb20 hd
        refine wpOp_last rfl rfl ?_
        go_simp
        go_at_call 115
        refine (must_f _ _ _).mono ?_
        rintro e w2 ⟨rfl, rfl⟩
        refine ⟨keeps_of_below HB22.out, rfl, H1.out.then_below (HB22.out.mono HWZ.out.1), ⟨fun h => ?_⟩⟩
        have := h x HXP.out
        rw [HKX.out] at this
        exact HGX.out this
    case done =>
      rintro xs W' rfl ⟨h1, h2⟩ hK
      gi_wp2
      obtain ⟨p1, p2, p3, p4, p5⟩ := HZ1.out
      obtain ⟨r1, r2, r3, r4, r5⟩ := HBND.out
      have h3z := HB13.out.size
      have SW := (HS1.out.below HB13.out).fr h1 (by simp; omega) (by simp; omega) (by simp; omega)
      have e3 : W'.cell? ⟨W.heap.size, 0, none⟩ = some (.pointer (some ⟨sv, 0, none⟩)) := (h1.cell (by omega) (by simp; omega)).trans (boxed_below HB3.out HB13.out HB3.out.lt).cell
      have e5 : W'.cell? ⟨W.heap.size + 1, 0, none⟩ = some (.int .i64 c) := (h1.cell (by omega) (by simp; omega)).trans (boxed_below HB5.out HB13.out HB5.out.lt).cell
      have h1z := h1.size
      have HX5 : Hid (∀ w', Below W'.heap.size W' w' → w'.cell? ⟨W.heap.size, 0, none⟩ = some (.pointer (some ⟨sv, 0, none⟩)) ∧ w'.cell? ⟨W.heap.size + 1, 0, none⟩ = some (.int .i64 c) ∧ w'.cell? ⟨sv, 3, none⟩ = some (.slice (some ⟨SH, 0, none⟩) lo cs) ∧ w'.cell? ⟨SH, i, none⟩ = some (.int .i64 (s i))) := Lib.hid fun w' h => by
        have S2 := SW.below h
        exact ⟨(h.cell (p := ⟨W.heap.size, 0, none⟩) (by simp only []; omega)).trans e3, (h.cell (p := ⟨W.heap.size + 1, 0, none⟩) (by simp only []; omega)).trans e5, S2.c3, (S2.sh i hi).1⟩
      have HSW := Lib.hid SW
      have HE35 := Lib.hid (And.intro e3 e5)
      have H1 := Lib.hid h1
      have H2 := Lib.hid h2
      have HK1 := Lib.hid hK
      clear e3 e5 SW h1 h2 hK h1z h3z p1 p2 p3 p4 p5 r1 r2 r3 r4 r5
      refine wpIn_wide.2 ?_
      refine calm_last 10 (W := W') hmx (by kernel_rfl) (Below.refl _ _) ?_
      repeat (first
        | (refine calm_no (by rfl) ?_
           (try simp only [Act.put, List.setIfInBounds_toArray, List.set_cons_zero, List.set_cons_succ]))
        | (apply calm_yes
           focus rfl
           focus
             intro w' hw'
             obtain ⟨z1, z2, z3, z4⟩ := HX5.out w' hw'
             go_simp
             first
               | done
               | with_reducible rfl
               | fail
           (try simp only [Act.put, List.setIfInBounds_toArray, List.set_cons_zero, List.set_cons_succ])))
      refine calm_nil ?_
      intro w4 hb4
      have S4 := HSW.out.below hb4
      have z1 := (S4.sh i hi).1
      have z2 := (S4.sh i hi).2
      have HB4 := Lib.hid hb4
      have HS4 := Lib.hid S4
      clear hb4 S4
      refine wpOp_last rfl rfl ?_
      go_simp
      obtain ⟨w5, hw5⟩ : ∃ w5, w5 = w4.setCell ⟨SH, i, none⟩ (.int .i64 (s i + c)) := ⟨_, rfl⟩
      rw [← hw5]
      have S5 : SvAt w5 sv SH FL f na (some ⟨C, P, none⟩) ln cn lo co cs cf (put s i c) fl := by rw [hw5]; exact HS4.out.setSh hi
      have F5 : Frx [nb, SH] w3 w5 := by
        rw [hw5]
        exact ((H1.out.then_below (HB4.out.mono H1.out.size)).sub (by simp)).trans (Frx.setCell _ _ _ _ _ (by simp))
      have hz5 : w5.heap.size = w4.heap.size := by rw [hw5]; simp [World.setCell]
      have hK5 : w5.heap[w3.heap.size]? = some (.deferred (some [])) := by
        have hl := (Array.getElem?_eq_some_iff.1 HK1.out).1
        have hSH : w3.heap.size ≠ SH := by have := HBND.out; have := HB13.out.size; omega
        rw [hw5]
        exact (Below.heap_setCell _ _ _ _ hSH).trans ((HB4.out.block _ hl).trans HK1.out)
      clear hw5 z1 z2
      have hb05 : Below w0.heap.size w0 w5 := (HB01.out.trans (HB13.out.mono HB01.out.size)).trans (F5.below (by have := HB13.out.size; have := HB01.out.size; omega) (by
        have := HZ1.out; have := HB01.out.size
        simp; omega))
      have x6 : w5.cell? ⟨W.heap.size, 0, none⟩ = some (.pointer (some ⟨sv, 0, none⟩)) := by
        obtain ⟨p1, p2, p3, p4, p5⟩ := HZ1.out
        obtain ⟨r1, r2, r3, r4, r5⟩ := HBND.out
        have := HB13.out.size
        exact (F5.cell (by omega) (by simp; omega)).trans (boxed_below HB3.out HB13.out HB3.out.lt).cell
      have x7 : w5.cell? ⟨W.heap.size + 1, 0, none⟩ = some (.int .i64 c) := by
        obtain ⟨p1, p2, p3, p4, p5⟩ := HZ1.out
        obtain ⟨r1, r2, r3, r4, r5⟩ := HBND.out
        have := HB13.out.size
        exact (F5.cell (by omega) (by simp; omega)).trans (boxed_below HB5.out HB13.out HB5.out.lt).cell
      have HS5 := Lib.hid S5
      have HF5 := Lib.hid F5
      have HZ5 := Lib.hid hz5
      have HK5 := Lib.hid hK5
      have H05 := Lib.hid hb05
      clear S5 F5 hz5 hK5 hb05
      gi_wp2_with (refine ⟨trivial, ?_⟩; gi_at_call 116; refine (callsIn_wide.2 (HAB.out _ _ _ H05.out HS5.out)).mono ?_; rintro e w6 ⟨⟨nb2, tb2, rfl, hub, hn1, hn2⟩, hb6⟩)
      have HF6 : Hid (Frx [nb, SH] w3 w6) := Lib.hid (HF5.out.then_below (hb6.mono HF5.out.size))
      have HS6 := Lib.hid (HS5.out.below hb6)
      have H06 := Lib.hid (H05.out.trans (hb6.mono H05.out.size))
      have HZ6 : Hid (w3.heap.size < w5.heap.size ∧ w5.heap.size ≤ w6.heap.size ∧ w5.heap.size ≤ nb2 ∧ w5.heap.size ≤ tb2 ∧ nb2 < w6.heap.size ∧ tb2 < w6.heap.size ∧ nb2 ≠ tb2) := Lib.hid ⟨(Array.getElem?_eq_some_iff.1 HK5.out).1, hb6.size, hn1, hn2, hub.hn, hub.ht, hub.hnt⟩
      have HK6 : Hid (w6.heap[w3.heap.size]? = some (.deferred (some []))) := Lib.hid ((hb6.block _ (Array.getElem?_eq_some_iff.1 HK5.out).1).trans HK5.out)
      have HUB2 := Lib.hid hub
      have HX6 := Lib.hid (And.intro ((hb6.cell (p := ⟨W.heap.size, 0, none⟩) (World.block_lt_of_cell? _ _ x6)).trans x6) ((hb6.cell (p := ⟨W.heap.size + 1, 0, none⟩) (World.block_lt_of_cell? _ _ x7)).trans x7))
      obtain ⟨A2, hA2⟩ : ∃ A2, (1 ≤ ln → A2 = A) ∧ (A2 < w0.heap.size ∨ A2 = tb2) := by
        by_cases hz : 1 ≤ ln
        · exact ⟨A, fun _ => rfl, .inl (HA.out.2.1 hz)⟩
        · exact ⟨tb2, fun h => absurd h hz, .inr rfl⟩
      have HA2 := Lib.hid hA2
      clear hb6 hub hn1 hn2 x6 x7 hA2
      refine rangeFunc_pan4 (α := Nat) (fun a0 x => { tmps := (a0.tmps.setIfInBounds 66 (.int .i64 (x : Int))).setIfInBounds 7 (.int .i64 (x : Int)), defers := [] }) (encs := fun x : Nat => #[.int .i64 (x : Int)]) (Kp := KpB [nb2, tb2, A2]) (Wr := fun A' B' => ∃ v, B' = A'.setCell ⟨nb2, 0, none⟩ v) (S := fun xs _ => xs = path N u) (Nx := fun pre x => ∃ post, pre ++ x :: post = path N u) rfl (by decide) (gf := 123) (lb := #[.pointer (some ⟨nb2, 0, none⟩), .pointer (some ⟨tb2, 0, none⟩)]) rfl trivial (enters_of Tryz.func123 (by kernel_rfl) rfl)
        ?seq2 (fun h k => h.trans k) ?kb2 (fun _ _ _ h => h) (fun _ => rfl) ?wr2 (fun pre X => Frx [nb2, FL] w6 X ∧ SvAt X sv SH FL f na (some ⟨C, P, none⟩) ln cn lo co cs cf (put s i c) (flP fl c pre)) ?iw2 ?ib2 ⟨Frx.refl _ _, by rw [show flP fl c [] = fl from funext fun m => by simp [flP]]; exact HS6.out⟩
        (fun _ _ => False) ?assign2 (fun W' b _ o => ⟨rfl, rfl⟩) ?body2 ?done2 ?pan2
      case seq2 =>
        intro l J Jp W' hz hbw hWr hY h0
        obtain ⟨p1, p2, p3, p4, p5, p6, p7⟩ := HZ6.out
        obtain ⟨r1, r2, r3, r4, r5⟩ := HBND.out
        have r6 := HB13.out.size
        have hU := HUB2.out
        refine up_w f ln lo cn u nb2 tb2 A2 O l na N U [nb2, tb2, A2] HR hu2 J Jp (fun h => by rw [HA2.out.1 h]; exact (HA.out.1 h).1) ⟨by simp, by simp, fun _ => by simp⟩ p7 (fun h => by rcases HA2.out.2 with h2 | h2 <;> omega) (fun s W v h => hWr s _ _ h ⟨v, rfl⟩) hY W' ((hbw.cell (p := ⟨nb2, 0, none⟩) p5).trans hU.n0) ((hbw.frozen (p := ⟨nb2, 0, none⟩) p5).trans hU.nf) ((hbw.cell (p := ⟨tb2, 1, none⟩) p6).trans hU.t1) (fun h => ?_) h0
        have h3 := HA.out.2.1 h
        rw [HA2.out.1 h]
        exact ((HA.out.1 h).2.below h3 H06.out).below (by omega) hbw
      case kb2 =>
        intro W' o' b hbb o
        obtain ⟨p1, p2, p3, p4, p5, p6, p7⟩ := HZ6.out
        obtain ⟨r1, r2, r3, r4, r5⟩ := HBND.out
        have r6 := HB13.out.size
        have h3 := HA2.out.2
        have hlt : b < w6.heap.size := by
          simp only [List.mem_cons, List.not_mem_nil, or_false] at hbb
          omega
        exact ⟨World.cell?_of_block (w := W') (World.putObj_heap_other (by simp only []; omega)), World.frozen?_of_block (w := W') (World.putObj_heap_other (by simp only []; omega))⟩
      case wr2 =>
        rintro A' B' ⟨v, rfl⟩ k hk1 hk2
        have := HZ6.out.2.2.2.2.1
        exact Below.heap_setCell _ _ _ _ (by show k ≠ nb2; omega)
      case iw2 =>
        rintro pre A' B' ⟨h1, h2⟩ ⟨v, rfl⟩
        obtain ⟨p1, p2, p3, p4, p5, p6, p7⟩ := HZ6.out
        obtain ⟨r1, r2, r3, r4, r5⟩ := HBND.out
        have r6 := HB13.out.size
        exact ⟨h1.trans (Frx.setCell _ _ _ _ _ (by simp)), h2.fr (Frx.setCell [nb2] _ _ _ _ (by simp)) (by simp; omega) (by simp; omega) (by simp; omega)⟩
      case ib2 =>
        rintro pre A' B' ⟨h1, h2⟩ hb
        obtain ⟨p1, p2, p3, p4, p5, p6, p7⟩ := HZ6.out
        obtain ⟨r1, r2, r3, r4, r5⟩ := HBND.out
        have r6 := HB13.out.size
        have hs := hb.size
        refine ⟨h1.then_below hb, ?_⟩
        have c1 : ∀ b o, b < W.heap.size → B'.cell? ⟨b, o, none⟩ = A'.cell? ⟨b, o, none⟩ := fun b o h => hb.cell (p := ⟨b, o, none⟩) (by simp only []; omega)
        have c2 : ∀ b o, b < W.heap.size → B'.frozen? ⟨b, o, none⟩ = A'.frozen? ⟨b, o, none⟩ := fun b o h => hb.frozen (p := ⟨b, o, none⟩) (by simp only []; omega)
        exact ⟨(c1 _ _ r3).trans h2.c0, (c1 _ _ r3).trans h2.c1, (c1 _ _ r3).trans h2.c2, (c1 _ _ r3).trans h2.c3, (c1 _ _ r3).trans h2.c4, fun j hj => ⟨(c1 _ _ r4).trans (h2.sh j hj).1, (c2 _ _ r4).trans (h2.sh j hj).2⟩, fun j hj => ⟨(c1 _ _ r5).trans (h2.fw j hj).1, (c2 _ _ r5).trans (h2.fw j hj).2⟩, by have := h2.bs; omega, by have := h2.bh; omega, by have := h2.bf; omega, h2.e1, h2.e2, h2.e3⟩
      case assign2 =>
        rintro l x W' K hK
        have hsa := @Oper.semAt_some
        gi_wp2
      case pan2 =>
        rintro ch W' h
        exact h.elim
      case body2 =>
        rintro l pre x a' X ha hw ⟨post, hnx⟩ ⟨h1, h2⟩
        simp only [List.setIfInBounds_toArray, List.set_cons_zero, List.set_cons_succ] at ha
        subst ha
        refine .inl ?_
        obtain ⟨p1, p2, p3, p4, p5, p6, p7⟩ := HZ6.out
        obtain ⟨r1, r2, r3, r4, r5⟩ := HBND.out
        have r6 := HB13.out.size
        have hxp : x ∈ path N u := by rw [← hnx]; simp
        have hxl : x ≤ ln := HPL.out x hxp
        have hxn : x ∉ pre := fun h => by
          have hd := HND.out
          rw [← hnx] at hd
          exact (List.nodup_append.1 hd).2.2 x h x (by simp) rfl
        have efl : flP fl c pre x = fl x := by simp [flP, hxn]
        have e3 : X.cell? ⟨W.heap.size, 0, none⟩ = some (.pointer (some ⟨sv, 0, none⟩)) := (h1.cell (by omega) (by simp; omega)).trans HX6.out.1
        have e5 : X.cell? ⟨W.heap.size + 1, 0, none⟩ = some (.int .i64 c) := (h1.cell (by omega) (by simp; omega)).trans HX6.out.2
        have h1z := h1.size
        have HX8 : Hid (∀ w', Below X.heap.size X w' → w'.cell? ⟨W.heap.size, 0, none⟩ = some (.pointer (some ⟨sv, 0, none⟩)) ∧ w'.cell? ⟨W.heap.size + 1, 0, none⟩ = some (.int .i64 c) ∧ w'.cell? ⟨sv, 4, none⟩ = some (.slice (some ⟨FL, 0, none⟩) (ln + 1) cf) ∧ w'.cell? ⟨FL, x, none⟩ = some (.int .i64 (fl x))) := Lib.hid fun w' h => by
          have S2 := h2.below h
          have e8 := (S2.fw x (by omega)).1
          rw [efl] at e8
          exact ⟨(h.cell (p := ⟨W.heap.size, 0, none⟩) (by simp only []; omega)).trans e3, (h.cell (p := ⟨W.heap.size + 1, 0, none⟩) (by simp only []; omega)).trans e5, S2.c4, e8⟩
        have hfx := hf.out x hxl
        have wr2 : IntKind.i64.wrap (fl x + c) = fl x + c := by simp [IntKind.wrap, IntKind.signed, IntKind.bits]; omega
        have n3 : (0 : Int) ≤ (x : Int) := by omega
        have n4 : (x : Int) < ((ln + 1 : Nat) : Int) := by omega
        have n5 : (x : Int) < (ln : Int) + 1 := by omega
        have H1b := Lib.hid h1
        have H2b := Lib.hid h2
        have HEF := Lib.hid efl
        have HXN := Lib.hid hxn
        have HXL := Lib.hid hxl
        have HWZ : Hid (nb2 < X.heap.size ∧ tb2 < X.heap.size ∧ A2 < X.heap.size ∧ FL ≠ nb2 ∧ FL ≠ tb2 ∧ FL ≠ A2) := Lib.hid (by
          have h6 := HA2.out.2
          have h7 := H.out.bf
          exact ⟨by omega, by omega, by omega, by omega, by omega, by omega⟩)
        clear h1 h2 hnx hxp hxn efl e3 e5 hfx p1 p2 p3 p4 p5 p6 p7 r1 r2 r3 r4 r5 r6 hw h1z hxl
        refine wpIn_block ?_
        refine calm_last_in 10 (W := X) hmx (by kernel_rfl) (fun h => by obtain ⟨a, w, h⟩ := h; exact h) (Below.refl _ _) ?_
        repeat (first
          | (refine calm_no (by rfl) ?_
             (try simp only [Act.put, List.setIfInBounds_toArray, List.set_cons_zero, List.set_cons_succ]))
          | (apply calm_yes
             focus rfl
             focus
               intro w' hw'
               obtain ⟨z1, z2, z3, z4⟩ := HX8.out w' hw'
               go_simp
               first
                 | done
                 | with_reducible rfl
                 | fail
             (try simp only [Act.put, List.setIfInBounds_toArray, List.set_cons_zero, List.set_cons_succ])))
        refine calm_nil ?_
        intro w8 hb8
        have S8 := H2b.out.below hb8
        have e8 := S8.fw x (by have := HXL.out; omega)
        rw [HEF.out] at e8
        have z1 := e8.1
        have z2 := e8.2
        have HB8 := Lib.hid hb8
        have HS8 := Lib.hid S8
        clear hb8 S8 e8
        refine wpOp_last rfl rfl ?_
        go_simp
        refine ⟨(keeps_of_below HB8.out).trans ((KeepsOthers.setCell _ _ _).from _), ?_, (H1b.out.then_below (HB8.out.mono H1b.out.size)).trans (Frx.setCell _ _ _ _ _ (by simp)), ?_⟩
        · intro b hbb o
          have hz := HWZ.out
          have hbf : FL ≠ b ∧ b < X.heap.size := by
            simp only [List.mem_cons, List.not_mem_nil, or_false] at hbb
            rcases hbb with h | h | h <;> subst h <;> exact ⟨by omega, by omega⟩
          exact ⟨(World.cell?_setCell_other _ _ _ _ (nbb hbf.1)).trans (HB8.out.cell (p := ⟨b, o, none⟩) hbf.2), (World.frozen?_setCell _ _ _ _).trans (HB8.out.frozen (p := ⟨b, o, none⟩) hbf.2)⟩
        · rw [← flP_snoc HXN.out]
          exact HS8.out.setFl (by have := HXL.out; omega)
      case done2 =>
        rintro xs X rfl ⟨h1, h2⟩ hK2
        obtain ⟨p1, p2, p3, p4, p5, p6, p7⟩ := HZ6.out
        obtain ⟨r1, r2, r3, r4, r5⟩ := HBND.out
        have r6 := HB13.out.size
        obtain ⟨q1, q2, q3, q4, q5⟩ := HZ1.out
        have hK1 : X.heap[w3.heap.size]? = some (.deferred (some [])) := (h1.block _ (Array.getElem?_eq_some_iff.1 HK6.out).1 (by simp; omega)).trans HK6.out
        have hK1b : (X.putObj w6.heap.size (.deferred none)).heap[w3.heap.size]? = some (.deferred (some [])) := (World.putObj_heap_other (by omega)).trans hK1
        have b1 : Below w6.heap.size X (X.putObj w6.heap.size (.deferred none)) := putObj_belowR X _ _ hK2 (Nat.le_refl _)
        have b2 : Below w3.heap.size (X.putObj w6.heap.size (.deferred none)) ((X.putObj w6.heap.size (.deferred none)).putObj w3.heap.size (.deferred none)) := putObj_belowR _ _ _ hK1b (Nat.le_refl _)
        have hY : Frx [w6.heap.size, w3.heap.size] X ((X.putObj w6.heap.size (.deferred none)).putObj w3.heap.size (.deferred none)) :=
          ⟨b2.os.trans b1.os, b2.tape.trans b1.tape, b2.output.trans b1.output, Nat.le_trans b1.size b2.size, fun k _ hk => by
            simp only [List.mem_cons, List.not_mem_nil, or_false, not_or] at hk
            exact (World.putObj_heap_other (by omega)).trans (World.putObj_heap_other (by omega))⟩
        have hz6 := HF6.out.size
        have hfr : Frx [SH, FL] W ((X.putObj w6.heap.size (.deferred none)).putObj w3.heap.size (.deferred none)) := by
          have f1 : Frx [SH, FL] W w3 := Frx.of_below (HBW.out.trans (HB13.out.mono HBW.out.size))
          have f2 : Below W1.heap.size w3 w3 := Below.refl _ _
          refine ⟨(hY.os.trans h1.os).trans (HF6.out.os.trans f1.os), (hY.tape.trans h1.tape).trans (HF6.out.tape.trans f1.tape), (hY.output.trans h1.output).trans (HF6.out.output.trans f1.output), Nat.le_trans f1.size (Nat.le_trans hz6 (Nat.le_trans h1.size hY.size)), fun k hk hx => ?_⟩
          simp only [List.mem_cons, List.not_mem_nil, or_false, not_or] at hx
          have g1 := f1.block k hk (by simp; omega)
          have g2 := HF6.out.block k (by omega) (by simp; omega)
          have g3 := h1.block k (by omega) (by simp; omega)
          have g4 := hY.block k (by have := h1.size; omega) (by simp; omega)
          exact g4.trans (g3.trans (g2.trans g1))
        have hsv : SvAt ((X.putObj w6.heap.size (.deferred none)).putObj w3.heap.size (.deferred none)) sv SH FL f na (some ⟨C, P, none⟩) ln cn lo co cs cf (put s i c) (flP fl c (path N u)) := h2.fr hY (by simp; omega) (by simp; omega) (by simp; omega)
        have HFR := Lib.hid hfr
        have HSV := Lib.hid hsv
        have hnot : ¬ ∃ m, m ∈ path N u ∧ ¬ fl m + c ≤ capN f N m := fun ⟨m, h5, h6⟩ => h6 (H2.out m h5)
        clear hfr hsv hY h1 h2 b1 b2
        gi_wp2
        refine ⟨by simp, .inl ⟨_, _, rfl, run_takeDeferred hK2, ?_⟩⟩
        refine ⟨by simp, .inl ⟨_, _, rfl, run_takeDeferred hK1b, ?_⟩⟩
        refine ⟨.tuple #[], ?_, HFR.out, .inl ⟨rfl, ⟨HOK.out, H2.out⟩, HSV.out⟩⟩
        simp [results, Tryz.results67, go_sem]
    case pan =>
      rintro ch W' ⟨rfl, h1, h2⟩ hK
      refine ⟨by simp, .inl ⟨_, _, rfl, run_takeDeferred hK, ?_⟩⟩
      obtain ⟨p1, p2, p3, p4, p5⟩ := HZ1.out
      have hfin : Below W.heap.size W (W'.putObj w3.heap.size (.deferred none)) := HBW.out.trans (((HB13.out.trans (h1.below HB13.out.size (by simp; omega))).trans (putObj_belowR W' _ _ hK HB13.out.size)).mono HBW.out.size)
      exact ⟨Frx.of_below hfin, .inr ⟨rfl, fun h => h2.out h.2, H.out.below hfin⟩⟩
  · have hd : decide (s i + c ≤ (U i).c) = false := decide_eq_false hok
    have HOK := Lib.hid hok
    clear hok
    refine wpIn_wide.2 ?_
    refine calm_last 21 (W := W1) hmx (by kernel_rfl) (Below.refl _ _) ?_
    repeat (first
      | (refine calm_no (by rfl) ?_
         (try simp only [Act.put, List.setIfInBounds_toArray, List.set_cons_zero, List.set_cons_succ]))
      | (apply calm_yes
         focus rfl
         focus
           intro w' hw'
           obtain ⟨z1, z2, z3, z4, z5, z6⟩ := HX.out w' hw'
           go_simp
           first
             | done
             | with_reducible rfl
             | fail
         (try simp only [Act.put, List.setIfInBounds_toArray, List.set_cons_zero, List.set_cons_succ])))
    refine calm_nil ?_
    intro w2 hb20
    have HB20 := Lib.hid hb20
    clear hb20 hd
    refine wpOp_last rfl rfl ?_
    go_simp
    go_at_call 115
    refine (must_f _ _ _).mono ?_
    rintro e w2 ⟨rfl, rfl⟩
    gi_wp2
    exact ⟨Frx.of_below (HBW.out.trans (HB20.out.mono HBW.out.size)), .inr ⟨rfl, fun h => (by have e1 := HOK.out; have e2 := h.1; omega), H.out.below (HBW.out.trans (HB20.out.mono HBW.out.size))⟩⟩
end Go.Kn
