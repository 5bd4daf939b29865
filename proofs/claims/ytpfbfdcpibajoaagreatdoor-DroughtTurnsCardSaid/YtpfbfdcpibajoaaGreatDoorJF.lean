/- Contracts of functions that the laws of this seat call, or the evaluator of closed calls and its runs. Conditions: as each theorem states them. -/
import Derived.Test.YtpfbfdcpibajoaaGreatDoorJD
set_option linter.unusedVariables false
set_option linter.unusedSimpArgs false
namespace Go.Kn
open Go Go.Proofs Go.RowKit
theorem getD_el {L : List Nat} {j : Nat} (h : j < L.length) : L.getD j 0 = L[j] := by simp [List.getD, h]

/-- the first outlets that run, in their order -/
def IL (b : Nat → Bool) : Nat → List Nat
  | 0 => []
  | k + 1 => if b k = true then IL b k ++ [k] else IL b k
theorem IL_yes {b : Nat → Bool} {k : Nat} (h : b k = true) : IL b (k + 1) = IL b k ++ [k] := by simp only [IL]; rw [if_pos h]
theorem IL_no {b : Nat → Bool} {k : Nat} (h : b k = false) : IL b (k + 1) = IL b k := by simp only [IL]; rw [if_neg (by rw [h]; decide)]
theorem IL_len {b : Nat → Bool} : ∀ k, (IL b k).length ≤ k
  | 0 => by simp [IL]
  | k + 1 => by
    have := IL_len (b := b) k
    cases h : b k with
    | true => rw [IL_yes h, List.length_append]; simp; omega
    | false => rw [IL_no h]; omega
theorem IL_mem {b : Nat → Bool} {n : Nat} : ∀ k, n ∈ IL b k ↔ n < k ∧ b n = true
  | 0 => by simp [IL]
  | k + 1 => by
    have ih := IL_mem (b := b) (n := n) k
    cases h : b k with
    | true =>
      rw [IL_yes h, List.mem_append, ih, List.mem_singleton]
      constructor
      · rintro (⟨a, b⟩ | rfl)
        · exact ⟨by omega, b⟩
        · exact ⟨by omega, h⟩
      · rintro ⟨a, b⟩
        by_cases e : n = k
        · exact .inr e
        · exact .inl ⟨by omega, b⟩
    | false =>
      rw [IL_no h, ih]
      constructor
      · rintro ⟨a, b⟩; exact ⟨by omega, b⟩
      · rintro ⟨a, b⟩
        by_cases e : n = k
        · subst e; rw [h] at b; cases b
        · exact ⟨by omega, b⟩
/-- the list as numbers -/
def ils (b : Nat → Bool) (k : Nat) : Nat → Int := fun i => (((IL b k).getD i 0 : Nat) : Int)
theorem ils_has {b : Nat → Bool} {k : Nat} (x : Nat) : hasB (ils b k) (x : Int) (IL b k).length = (decide (x < k) && b x) := by
  rw [Bool.eq_iff_iff, hasB_iff, Bool.and_eq_true, decide_eq_true_eq, ← IL_mem]
  constructor
  · rintro ⟨j, h, e⟩
    have e2 : (IL b k).getD j 0 = x := by unfold ils at e; omega
    rw [← e2, getD_el h]
    exact List.getElem_mem h
  · intro h
    obtain ⟨j, hj, e⟩ := List.getElem_of_mem h
    exact ⟨j, hj, by unfold ils; rw [getD_el hj, e]⟩
theorem ils_old {b : Nat → Bool} {k i : Nat} (x : Nat) (h : i < (IL b k).length) : (IL b k ++ [x]).getD i 0 = (IL b k).getD i 0 := by
  simp [List.getD, List.getElem?_append_left h]
theorem ils_new {b : Nat → Bool} {k : Nat} (x : Nat) : (IL b k ++ [x]).getD (IL b k).length 0 = x := by simp [List.getD]
theorem dayB_congr {lo : Nat} {s t : Nat → Int} : ∀ m, (∀ i, i < m → s i = t i) → dayB lo s m = dayB lo t m
  | 0, _ => rfl
  | m + 1, h => by
    simp only [dayB]
    rw [dayB_congr m (fun i hi => h i (by omega)), h m (by omega)]
    cases m with
    | zero => rfl
    | succ m => simp only [frm]; rw [h m (by omega)]
theorem hasB_congr {s t : Nat → Int} {x : Int} : ∀ m, (∀ i, i < m → s i = t i) → hasB s x m = hasB t x m
  | 0, _ => rfl
  | m + 1, h => by simp only [hasB]; rw [hasB_congr m (fun i hi => h i (by omega)), h m (by omega)]
theorem ils_day {b : Nat → Bool} {lo : Nat} : ∀ k, k ≤ lo → dayB lo (ils b k) (IL b k).length = true
  | 0, _ => rfl
  | k + 1, hk => by
    have ih := ils_day (b := b) (lo := lo) k (by omega)
    cases h : b k with
    | false =>
      have e : ils b (k + 1) = ils b k := by unfold ils; rw [IL_no h]
      rw [e, IL_no h]; exact ih
    | true =>
      have hl : (IL b (k + 1)).length = (IL b k).length + 1 := by rw [IL_yes h]; simp
      rw [hl]
      have e : ∀ i, i < (IL b k).length → ils b (k + 1) i = ils b k i := fun i hi => by unfold ils; rw [IL_yes h, ils_old k hi]
      have e2 : ils b (k + 1) (IL b k).length = (k : Int) := by unfold ils; rw [IL_yes h, ils_new]
      refine dayB_next (by rw [dayB_congr _ e]; exact ih) ?_
      rw [e2]
      simp only [fromB, decide_eq_true_eq]
      refine ⟨?_, by omega⟩
      cases hm : (IL b k).length with
      | zero => simp [frm]
      | succ m =>
        simp only [frm]
        rw [e m (by omega)]
        have hin : (IL b k).getD m 0 ∈ IL b k := by rw [getD_el (by omega)]; exact List.getElem_mem (by omega)
        have := ((IL_mem k).1 hin).1
        unfold ils
        omega

set_option maxRecDepth 100000 in
set_option maxHeartbeats 4000000 in
theorem rinstead_w (f gone come : Int) (na oa sa : Option Addr) (ln cn lo co n c5 : Nat) (s : Nat → Int) (w : World) (hlo : lo ≤ 1000) (hn : n ≤ 1000000) (HS : Hid (IntSl w sa n s)) :
    Calls Tryz.prog 99 #[.agg #[.int .i64 f, .slice na ln cn, .slice oa lo co], .slice sa n c5, .int .i64 gone, .int .i64 come] w fun e w' =>
      (∃ v m, e = .returned v ∧ m = (IL (insB (fun j => hasB s (j : Int) n) gone come) lo).length ∧ w'.ownsRow w.heap.size 3 1 v m ((IL (insB (fun j => hasB s (j : Int) n) gone come) lo).map (fun k => Value.int .i64 ((k : Nat) : Int)))) ∧ Below w.heap.size w w' := by
  obtain ⟨i0, hi0, hz0, hz1, hz2⟩ := info_parts info3'
  obtain ⟨WA, hWA⟩ : ∃ WA, WA = w.alloc (.cells #[.int .i64 f, .slice na ln cn, .slice oa lo co] 25) := ⟨_, rfl⟩
  have hA : Below w.heap.size w WA := by rw [hWA]; exact (Below.refl _ _).alloc (Nat.le_refl _) _
  have hzA : WA.heap.size = w.heap.size + 1 := by rw [hWA]; simp
  have HX : Hid (∀ w2, Below WA.heap.size WA w2 → w2.cell? ⟨w.heap.size, 2, none⟩ = some (.slice oa lo co)) := Lib.hid fun w2 h => by
    obtain ⟨c, _⟩ := bcell h
    exact (c _ _ (by omega)).trans (by rw [hWA]; simp)
  have HSA : Hid (∀ w2, Below WA.heap.size WA w2 → IntSl w2 sa n s) := Lib.hid fun w2 h => HS.out.below (hA.trans (h.mono hA.size))
  have HA := Lib.hid hA
  have HZ : Hid (w.heap.size ≤ WA.heap.size) := Lib.hid (by omega)
  clear hA hzA
  obtain ⟨b, hb⟩ : ∃ b, insB (fun j => hasB s (j : Int) n) gone come = b := ⟨_, rfl⟩
  have HBV : Hid (∀ j : Nat, b j = (decide ((j : Int) = come) || (decide ((j : Int) ≠ gone) && hasB s (j : Int) n))) := Lib.hid fun j => by rw [← hb]; rfl
  rw [hb]
  clear hb
  go_enter Tryz.func99, Tryz.ntmps99
  go_wp2
  rw [← hWA]
  clear hWA
  go_loopw [9, 10] (fun v ii wr => ∃ k m : Nat, k ≤ lo ∧ ii = .int .i64 (k : Int) ∧ m = (IL b k).length ∧ wr.ownsRow WA.heap.size 3 1 v m ((IL b k).map (fun k => Value.int .i64 ((k : Nat) : Int))) ∧ Below WA.heap.size WA wr) (fun _ ii _ => lo - (Go.RowKit.intOf ii).toNat)
  case atStart => exact ⟨0, 0, Nat.zero_le _, rfl, rfl, ⟨rfl, .inl ⟨rfl, rfl⟩⟩, Below.refl _ _⟩
  case round =>
    obtain ⟨k, m, hk, rfl, hm, hown, hbr⟩ := hrel
    have HOW := Lib.hid hown
    have HBR := Lib.hid hbr
    have HM := Lib.hid hm
    have x0 := HX.out _ hbr
    clear hown hbr hm
    by_cases hlt : k < lo
    · have hm7 : m ≤ 1000 := by have := IL_len (b := b) k; have := HM.out; omega
      have n0 : (k : Int) < (lo : Int) := by omega
      have HAPP : Hid (∀ w2 v7 w7, Below wr.heap.size wr w2 → b k = true → w7.ownsRow WA.heap.size 3 1 v7 (m + 1) ((IL b k).map (fun k => Value.int .i64 ((k : Nat) : Int)) ++ [.int .i64 (k : Int)]) → (w2.alloc (.cells #[.int .i64 (k : Int)] 3)).grownBy w7 u9.ownBlock → m + 1 = (IL b (k + 1)).length ∧ w7.ownsRow WA.heap.size 3 1 v7 (m + 1) ((IL b (k + 1)).map (fun k => Value.int .i64 ((k : Nat) : Int))) ∧ Below WA.heap.size WA w7) := Lib.hid fun w2 v7 w7 h hb1 ho hg => by
        refine ⟨by rw [IL_yes hb1, List.length_append, ← HM.out]; rfl, by rw [IL_yes hb1, List.map_append]; exact ho, ?_⟩
        have h6 := HBR.out.trans (h.mono HBR.out.size)
        exact (h6.alloc h6.size _).grown hg (by have := h6.size; simp; omega) (fun r e => own_ge HOW.out r e)
      by_cases h1 : (k : Int) = come
      · have HB1 : Hid (b k = true) := Lib.hid (by rw [HBV.out]; simp [h1])
        clear HBV
        subst h1
        go_wp2_with (at_builtin; refine wpList_append_own_at _ rfl (.tmp 31) (.tmp 33) 26 rfl WA.heap.size 3 i0 (.int .i64 0) 1 8 Tryz.underlying26 hi0 hz0 hz1 hz2 rfl (by decide) _ m _ rfl (HOW.out.alloc _) ⟨_, 0, none⟩ 1 1 [.int .i64 (k : Int)] rfl rfl (lies_any (by first | exact al_top rfl _ _ | exact al_top (by simp) _ _)) (by intro u hu; simp at hu; subst hu; rfl) (by unfold maxLen; omega) (by omega) (by have := HBR.out.size; simp; omega) ?_; intro v7 w7 hown7 hgrow7 _ hloc7)
        obtain ⟨r1, r2, r3⟩ := HAPP.out _ v7 w7 (Below.refl _ _) HB1.out hown7 hgrow7
        refine ⟨⟨k + 1, m + 1, by omega, by go_num, r1, r2, r3⟩, by simp [Go.RowKit.intOf]; omega⟩
      · by_cases h2 : (k : Int) = gone
        · have HB1 : Hid (b k = false) := Lib.hid (by rw [HBV.out, decide_eq_false h1, decide_eq_false (fun h => h h2)]; rfl)
          clear HBV
          subst h2
          go_wp2
          refine ⟨⟨k + 1, m, by omega, by go_num, by rw [IL_no HB1.out]; exact HM.out, by rw [IL_no HB1.out]; exact HOW.out, HBR.out⟩, by simp [Go.RowKit.intOf]; omega⟩
        · have e1 : ((k : Int) == come) = false := by simpa using h1
          have e2 : ((k : Int) != gone) = true := by simpa using h2
          have HHA := Lib.hid (has_w sa n c5 s (k : Int) wr hn (Lib.hid (HSA.out _ HBR.out)))
          cases h3 : hasB s (k : Int) n with
          | true =>
            have HB1 : Hid (b k = true) := Lib.hid (by rw [HBV.out, h3]; simp [h2])
            rw [h3] at HHA
            clear h3
            go_wp2_with (first
              | (go_at_call 36; refine HHA.out.mono ?_; rintro e w5 ⟨rfl, hv5⟩; have HV5 := Lib.hid hv5; clear hv5)
              | (at_builtin; refine wpList_append_own_at _ rfl (.tmp 31) (.tmp 33) 26 rfl WA.heap.size 3 i0 (.int .i64 0) 1 8 Tryz.underlying26 hi0 hz0 hz1 hz2 rfl (by decide) _ m _ rfl ((owns_below HOW.out HV5.out).alloc _) ⟨_, 0, none⟩ 1 1 [.int .i64 (k : Int)] rfl rfl (lies_any (by first | exact al_top rfl _ _ | exact al_top (by simp) _ _)) (by intro u hu; simp at hu; subst hu; rfl) (by unfold maxLen; omega) (by omega) (by have := HBR.out.size; have := HV5.out.size; simp; omega) ?_; intro v7 w7 hown7 hgrow7 _ hloc7))
            obtain ⟨r1, r2, r3⟩ := HAPP.out _ v7 w7 HV5.out HB1.out hown7 hgrow7
            refine ⟨⟨k + 1, m + 1, by omega, by go_num, r1, r2, r3⟩, by simp [Go.RowKit.intOf]; omega⟩
          | false =>
            have HB1 : Hid (b k = false) := Lib.hid (by rw [HBV.out, h3]; simp [h1])
            rw [h3] at HHA
            clear h3
            go_wp2_with (go_at_call 36; refine HHA.out.mono ?_; rintro e w5 ⟨rfl, hv5⟩; have HV5 := Lib.hid hv5; clear hv5)
            refine ⟨⟨k + 1, m, by omega, by go_num, by rw [IL_no HB1.out]; exact HM.out, by rw [IL_no HB1.out]; exact owns_below HOW.out HV5.out, HBR.out.trans (HV5.out.mono HBR.out.size)⟩, by simp [Go.RowKit.intOf]; omega⟩
    · obtain rfl : k = lo := by omega
      go_wp2
      refine bodyPost_ret (v := u9) (by simp [results, Tryz.results99, go_sem]) rfl ⟨⟨u9, m, rfl, HM.out, own_base HOW.out HZ.out⟩, HA.out.trans (HBR.out.mono HA.out.size)⟩
end Go.Kn

namespace Go.Kn
open Go Go.Proofs Go.RowKit

theorem dayB_len {lo : Nat} {s : Nat → Int} : ∀ m, dayB lo s m = true → m ≤ lo ∧ ∀ k, k < m → (k : Int) ≤ s k := by
  intro m hd
  have key : ∀ k, k < m → (k : Int) ≤ s k := by
    intro k
    induction k with
    | zero => intro hk; have := (dayB_at hk hd).1; simp only [frm] at this; omega
    | succ k ih => intro hk; have := (dayB_at hk hd).1; simp only [frm] at this; have := ih (by omega); omega
  refine ⟨?_, key⟩
  cases m with
  | zero => omega
  | succ m =>
    have h1 := key m (Nat.lt_succ_self m)
    have h2 := (dayB_at (Nat.lt_succ_self m) hd).2
    omega
theorem runE_congr {f : Int} {ln lo : Nat} {N : Nat → N2} {U : Nat → O3} {b c : Nat → Bool} (h : ∀ j, j < lo → b j = c j) : runE f ln lo N U b = runE f ln lo N U c := by
  rw [Bool.eq_iff_iff, runE_iff, runE_iff]
  have e : ∀ m, sumB N U (runB U b) m lo = sumB N U (runB U c) m lo := fun m => sumB_congr lo fun i hi _ => by unfold runB; rw [h i hi]
  exact ⟨fun h1 m hm => by rw [← e]; exact h1 m hm, fun h1 m hm => by rw [e]; exact h1 m hm⟩

/-- a list of days in a block of one's own, none of which lies there -/
structure OutSl (w : World) (base : Nat) (v : Value) (d : Nat) (E : Nat → Dy) : Prop where
  own : w.ownsRow base 26 1 v d (upto (fun x => Value.slice (E x).a (E x).n (E x).c) d)
  day : ∀ x, x < d → IntSl w (E x).a (E x).n (E x).s
  sep : ∀ x, x < d → (E x).n ≠ 0 → ∀ b o, (E x).a = some ⟨b, o, none⟩ → v.ownBlock ≠ some b
theorem OutSl.below {w w1 : World} {base d : Nat} {v : Value} {E : Nat → Dy} (h : OutSl w base v d E) (hb : Below w.heap.size w w1) : OutSl w1 base v d E :=
  ⟨owns_below h.own hb, fun x hx => (h.day x hx).below hb, h.sep⟩
theorem IntSl.grown {w w1 : World} {a : Option Addr} {n : Nat} {s : Nat → Int} {row : Option Nat} (h : IntSl w a n s) (hg : w.grownBy w1 row) (hs : n ≠ 0 → ∀ b o, a = some ⟨b, o, none⟩ → row ≠ some b) : IntSl w1 a n s := by
  rcases h with h | ⟨A, O, rfl, hA, hn⟩
  · exact .inl h
  · by_cases h0 : n = 0
    · exact .inl h0
    · exact .inr ⟨A, O, rfl, Nat.lt_of_lt_of_le hA hg.size, fun i hi => hg.cell (hn i hi) (fun e => hs h0 A O rfl e.symm)⟩
/-- one day more -/
def cons1 (E : Nat → Dy) (d : Nat) (y : Dy) : Nat → Dy := fun x => if x = d then y else E x
theorem cons1_old {E : Nat → Dy} {d x : Nat} {y : Dy} (h : x < d) : cons1 E d y x = E x := by unfold cons1; rw [if_neg (by omega)]
theorem cons1_new {E : Nat → Dy} {d : Nat} {y : Dy} : cons1 E d y d = y := by unfold cons1; rw [if_pos rfl]
theorem upto_congr {α : Type} {f g : Nat → α} {k : Nat} (h : ∀ i, i < k → f i = g i) : upto f k = upto g k := by
  unfold upto
  exact List.map_congr_left fun i hi => h i (List.mem_range.1 hi)
theorem OutSl.push {w w1 : World} {base d : Nat} {v v1 : Value} {E : Nat → Dy} {y : Dy} (h : OutSl w base v d E) (hg : w.grownBy w1 v.ownBlock) (ho : w1.ownsRow base 26 1 v1 (d + 1) (upto (fun x => Value.slice (E x).a (E x).n (E x).c) d ++ [.slice y.a y.n y.c]))
    (hat : v1.ownBlock = v.ownBlock ∨ v1.ownBlock = some w.heap.size) (hy : IntSl w y.a y.n y.s) (hsep : y.n ≠ 0 → ∀ b o, y.a = some ⟨b, o, none⟩ → v.ownBlock ≠ some b) : OutSl w1 base v1 (d + 1) (cons1 E d y) := by
  have hold : ∀ x, x < d → cons1 E d y x = E x := fun x hx => cons1_old hx
  refine ⟨?_, fun x hx => ?_, fun x hx => ?_⟩
  · have e : upto (fun x => Value.slice (cons1 E d y x).a (cons1 E d y x).n (cons1 E d y x).c) (d + 1) = upto (fun x => Value.slice (E x).a (E x).n (E x).c) d ++ [.slice y.a y.n y.c] := by
      rw [upto_succ, cons1_new]
      congr 1
      exact upto_congr fun i hi => by rw [hold i hi]
    rw [e]; exact ho
  · by_cases e : x = d
    · subst e; rw [cons1_new]; exact hy.grown hg hsep
    · rw [hold x (by omega)]; exact (h.day x (by omega)).grown hg (h.sep x (by omega))
  · have key : (cons1 E d y x).n ≠ 0 → ∀ b o, (cons1 E d y x).a = some ⟨b, o, none⟩ → v.ownBlock ≠ some b ∧ b < w.heap.size := by
      by_cases e : x = d
      · subst e; rw [cons1_new]
        intro h0 b o hb
        refine ⟨hsep h0 b o hb, ?_⟩
        obtain ⟨A, O, e2, hA, _⟩ := hy.resolve_left h0
        rw [hb] at e2; injection e2 with e2; injection e2 with e3; omega
      · rw [hold x (by omega)]
        intro h0 b o hb
        refine ⟨h.sep x (by omega) h0 b o hb, ?_⟩
        obtain ⟨A, O, e2, hA, _⟩ := (h.day x (by omega)).resolve_left h0
        rw [hb] at e2; injection e2 with e2; injection e2 with e3; omega
    intro h0 b o hb
    obtain ⟨k1, k2⟩ := key h0 b o hb
    rcases hat with h1 | h1
    · rw [h1]; exact k1
    · rw [h1]; intro e; injection e with e; omega
theorem OutSl.plan {w : World} {base d : Nat} {v : Value} {E : Nat → Dy} (h : OutSl w base v d E) : ∃ oo co, v = .slice oo d co ∧ PlSl w oo d E := by
  rcases h.own.2 with ⟨rfl, rfl⟩ | ⟨g, cap, cur, rfl, hb, hg, hn, hc, hs, hx⟩
  · exact ⟨none, 0, rfl, .inl rfl⟩
  · refine ⟨_, cap, rfl, ?_⟩
    by_cases h0 : d = 0
    · exact .inl h0
    refine .inr ⟨g, 0, rfl, (Array.getElem?_eq_some_iff.1 hg).1, fun x hxd => ⟨?_, h.day x hxd⟩⟩
    have hj : (upto (fun x => Value.slice (E x).a (E x).n (E x).c) d)[x]? = some (.slice (E x).a (E x).n (E x).c) := by simp [upto, hxd]
    rw [← hx, List.getElem?_take] at hj
    split at hj
    · simp only [Array.getElem?_toList] at hj
      rw [Nat.zero_add]
      simp [World.cell?, hg, hj]
    · cases hj
/-- a list of outlets that was made: it lies in no older block -/
theorem dayNew {w : World} {B m : Nat} {v : Value} {L : List Nat} (h : w.ownsRow B 3 1 v m (L.map (fun k => Value.int .i64 ((k : Nat) : Int)))) : ∃ sa cc, v = .slice sa m cc ∧ IntSl w sa m (fun i => ((L.getD i 0 : Nat) : Int)) ∧ ∀ b o, sa = some ⟨b, o, none⟩ → B ≤ b := by
  obtain ⟨sa, cc, rfl, hs⟩ := cutSl h
  refine ⟨sa, cc, rfl, hs, fun b o e => ?_⟩
  subst e
  exact own_ge h b rfl
theorem own_lt {w : World} {B e size m : Nat} {v : Value} {xs : List Value} (h : w.ownsRow B e size v m xs) {b : Nat} (hb : w.heap.size ≤ b) : v.ownBlock ≠ some b := fun h2 => own_ne h (.inr hb) h2.symm
end Go.Kn

namespace Go.Kn
open Go Go.Proofs Go.RowKit

theorem info26 : (Tryz.prog.info? 26).map (fun i => (i.zero, i.size, i.bytes)) = some (some (.slice none 0 0), 1, 24) := by kernel_rfl

/-- the days behind an exchange -/
structure SwE (lo lp : Nat) (D E : Nat → Dy) (zo zt : Int) (i j : Nat) : Prop where
  ok : ∀ d, d < lp → dayB lo (E d).s (E d).n = true
  has : ∀ d, d < lp → ∀ x : Nat, x < lo → dB (E d) x = (if d = i then insB (dB (D d)) zo zt x else if d = j then insB (dB (D d)) zt zo x else dB (D d) x)
theorem SwE.push {lo k : Nat} {D E : Nat → Dy} {zo zt : Int} {i j : Nat} {y : Dy} (h : SwE lo k D E zo zt i j) (h1 : dayB lo y.s y.n = true) (h2 : ∀ x : Nat, x < lo → dB y x = (if k = i then insB (dB (D k)) zo zt x else if k = j then insB (dB (D k)) zt zo x else dB (D k) x)) : SwE lo (k + 1) D (cons1 E k y) zo zt i j := by
  refine ⟨fun d hd => ?_, fun d hd => ?_⟩
  · by_cases e : d = k
    · subst e; rw [cons1_new]; exact h1
    · rw [cons1_old (by omega)]; exact h.ok d (by omega)
  · by_cases e : d = k
    · subst e; rw [cons1_new]; exact h2
    · rw [cons1_old (by omega)]; exact h.has d (by omega)
theorem swE_run {f : Int} {ln lo lp : Nat} {N : Nat → N2} {U : Nat → O3} {D E : Nat → Dy} {zo zt : Int} {i j : Nat} (h : SwE lo lp D E zo zt i j) (hi : i < lp) (hj : j < lp) (hij : i ≠ j) (hr : allN (fun d => runD f ln lo N U (D d)) lp = true) :
    allN (fun d => runD f ln lo N U (E d)) lp = (runE f ln lo N U (insB (dB (D i)) zo zt) && runE f ln lo N U (insB (dB (D j)) zt zo)) := by
  have h1 : runD f ln lo N U (E i) = runE f ln lo N U (insB (dB (D i)) zo zt) := by rw [runD_eq]; exact runE_congr fun x hx => by rw [h.has i hi x hx, if_pos rfl]
  have h2 : runD f ln lo N U (E j) = runE f ln lo N U (insB (dB (D j)) zt zo) := by rw [runD_eq]; exact runE_congr fun x hx => by rw [h.has j hj x hx, if_neg (fun e => hij e.symm), if_pos rfl]
  rw [← h1, ← h2, Bool.eq_iff_iff, allN_iff, Bool.and_eq_true]
  refine ⟨fun h3 => ⟨h3 i hi, h3 j hj⟩, fun ⟨h3, h4⟩ d hd => ?_⟩
  by_cases e1 : d = i
  · subst e1; exact h3
  · by_cases e2 : d = j
    · subst e2; exact h4
    · have h5 : runD f ln lo N U (E d) = runD f ln lo N U (D d) := by rw [runD_eq, runD_eq]; exact runE_congr fun x hx => by rw [h.has d hd x hx, if_neg e1, if_neg e2]
      show runD f ln lo N U (E d) = true
      rw [h5]; exact (allN_iff lp).1 hr d hd
theorem swB_same {f : Int} {ln lo : Nat} {N : Nat → N2} {U : Nat → O3} {D : Nat → Dy} {zo zt : Int} (i : Nat) : SwB f ln lo N U D zo zt i i = false := by
  unfold SwB; cases hasB (D i).s zo (D i).n <;> simp
theorem ils_dB {b : Nat → Bool} {lo : Nat} {a : Option Addr} {c x : Nat} (hx : x < lo) : dB ⟨a, (IL b lo).length, c, ils b lo⟩ x = b x := by
  show hasB (ils b lo) (x : Int) (IL b lo).length = b x
  rw [ils_has, decide_eq_true hx, Bool.true_and]


set_option maxRecDepth 100000 in
set_option maxHeartbeats 2000000 in
theorem rswap_0 (f zo zt : Int) (na oa pa : Option Addr) (ln cn lo co lp cp i j : Nat) (N : Nat → N2) (U : Nat → O3) (D : Nat → Dy) (w : World) (hlp : lp ≤ 10) (hi : i < lp) (hj : j < lp) (HR : Hid (TreeS f ln lo N U)) (H : Hid (Tr7 w na oa ln lo N U)) (HP : Hid (PlSl w pa lp D)) (HDY : Hid (∀ d, d < lp → dayB lo (D d).s (D d).n = true)) (hij : i = j) :
    Calls Tryz.prog 52 #[.agg #[.int .i64 f, .slice na ln cn, .slice oa lo co], .slice pa lp cp, .int .i64 zo, .int .i64 zt, .int .i64 (i : Int), .int .i64 (j : Int)] w fun e w' => e = .returned (.tuple #[.slice none 0 0, .bool false]) ∧ Below w.heap.size w w' := by
  subst hij
  go_enter Tryz.func52, Tryz.ntmps52
  go_wp2
  exact bodyPost_ret (v := .tuple #[.slice none 0 0, .bool false]) (by simp [results, Tryz.results52, go_sem]) rfl ⟨rfl, (Below.refl _ _).alloc (Nat.le_refl _) _⟩

set_option maxRecDepth 100000 in
set_option maxHeartbeats 2000000 in
theorem rswap_1 (f zo zt : Int) (na oa pa : Option Addr) (ln cn lo co lp cp i j : Nat) (N : Nat → N2) (U : Nat → O3) (D : Nat → Dy) (w : World) (hlp : lp ≤ 10) (hi : i < lp) (hj : j < lp) (HR : Hid (TreeS f ln lo N U)) (H : Hid (Tr7 w na oa ln lo N U)) (HP : Hid (PlSl w pa lp D)) (HDY : Hid (∀ d, d < lp → dayB lo (D d).s (D d).n = true)) (hij : i ≠ j) (h0 : hasB (D i).s zo (D i).n = false) :
    Calls Tryz.prog 52 #[.agg #[.int .i64 f, .slice na ln cn, .slice oa lo co], .slice pa lp cp, .int .i64 zo, .int .i64 zt, .int .i64 (i : Int), .int .i64 (j : Int)] w fun e w' => e = .returned (.tuple #[.slice none 0 0, .bool false]) ∧ Below w.heap.size w w' := by
  have q1 := HR.out.l6
  have q2 := HR.out.lo2
  have BX := Lib.hid (fun (w1 : World) (hb : Below (w.alloc (.cells #[.int .i64 f, .slice na ln cn, .slice oa lo co] 25)).heap.size (w.alloc (.cells #[.int .i64 f, .slice na ln cn, .slice oa lo co] 25)) w1) => box7 hb)
  obtain ⟨WA, hWA⟩ : ∃ WA, WA = w.alloc (.cells #[.int .i64 f, .slice na ln cn, .slice oa lo co] 25) := ⟨_, rfl⟩
  have hA : Below w.heap.size w WA := by rw [hWA]; exact (Below.refl _ _).alloc (Nat.le_refl _) _
  rw [← hWA] at BX
  obtain ⟨A, O, rfl, hAl, hPA⟩ := HP.out.resolve_left (by omega)
  have HPB : Hid (∀ w2, Below WA.heap.size WA w2 → PlAt w2 A O lp D) := Lib.hid fun w2 h => hPA.below hAl (hA.trans (h.mono hA.size))
  have HTR : Hid (∀ w2, Below WA.heap.size WA w2 → Tr7 w2 na oa ln lo N U) := Lib.hid fun w2 h => H.out.below (hA.trans (h.mono hA.size))
  have HA := Lib.hid hA
  have hdn : ∀ d, d < lp → (D d).n ≤ 1000000 := fun d hd => by have := (dayB_len _ (HDY.out d hd)).1; omega
  have HDN := Lib.hid hdn
  have m1 : (0 : Int) ≤ (i : Int) := by omega
  have m2 : (i : Int) < (lp : Int) := by omega
  have m3 : (0 : Int) ≤ (j : Int) := by omega
  have m4 : (j : Int) < (lp : Int) := by omega
  have z1 := (HPB.out WA (Below.refl _ _) i hi).1
  have z2 := (HPB.out WA (Below.refl _ _) j hj).1
  have HH : Hid (∀ (d : Nat) (x : Int) w2, d < lp → Below WA.heap.size WA w2 → Calls Tryz.prog 36 #[.slice (D d).a (D d).n (D d).c, .int .i64 x] w2 fun e w' => e = .returned (.bool (hasB (D d).s x (D d).n)) ∧ Below WA.heap.size WA w') := Lib.hid fun d x w2 hd h => (has_w _ _ _ (D d).s x w2 (HDN.out d hd) (Lib.hid (HPB.out w2 h d hd).2)).mono fun e w' ⟨he, hv⟩ => ⟨he, h.trans (hv.mono h.size)⟩
  rw [hWA] at z1 z2
  clear hA hPA H HP hdn
  have hij2 : ((i : Int) == (j : Int)) = false := by rw [beq_eq_false_iff_ne]; omega
  have Hi := Lib.hid hi
  have Hj := Lib.hid hj
  have B0 := Lib.hid h0
  clear h0 hi hj hij
  go_enter Tryz.func52, Tryz.ntmps52
  go_wp2_with (first
    | (go_at_call 36; have hB := B0.out; rw [← hWA]; refine (HH.out i zo _ Hi.out (Below.refl _ _)).mono ?_; rw [hB]; rintro e wh1 ⟨rfl, hb1⟩; clear hB B0 z1 z2; have z1 := (HPB.out _ hb1 i Hi.out).1; have z2 := (HPB.out _ hb1 j Hj.out).1))
  exact bodyPost_ret (v := .tuple #[.slice none 0 0, .bool false]) (by simp [results, Tryz.results52, go_sem]) rfl ⟨rfl, HA.out.trans (hb1.mono HA.out.size)⟩

set_option maxRecDepth 100000 in
set_option maxHeartbeats 2000000 in
theorem rswap_2 (f zo zt : Int) (na oa pa : Option Addr) (ln cn lo co lp cp i j : Nat) (N : Nat → N2) (U : Nat → O3) (D : Nat → Dy) (w : World) (hlp : lp ≤ 10) (hi : i < lp) (hj : j < lp) (HR : Hid (TreeS f ln lo N U)) (H : Hid (Tr7 w na oa ln lo N U)) (HP : Hid (PlSl w pa lp D)) (HDY : Hid (∀ d, d < lp → dayB lo (D d).s (D d).n = true)) (hij : i ≠ j) (h0 : hasB (D i).s zo (D i).n = true) (h1 : hasB (D i).s zt (D i).n = true) :
    Calls Tryz.prog 52 #[.agg #[.int .i64 f, .slice na ln cn, .slice oa lo co], .slice pa lp cp, .int .i64 zo, .int .i64 zt, .int .i64 (i : Int), .int .i64 (j : Int)] w fun e w' => e = .returned (.tuple #[.slice none 0 0, .bool false]) ∧ Below w.heap.size w w' := by
  have q1 := HR.out.l6
  have q2 := HR.out.lo2
  have BX := Lib.hid (fun (w1 : World) (hb : Below (w.alloc (.cells #[.int .i64 f, .slice na ln cn, .slice oa lo co] 25)).heap.size (w.alloc (.cells #[.int .i64 f, .slice na ln cn, .slice oa lo co] 25)) w1) => box7 hb)
  obtain ⟨WA, hWA⟩ : ∃ WA, WA = w.alloc (.cells #[.int .i64 f, .slice na ln cn, .slice oa lo co] 25) := ⟨_, rfl⟩
  have hA : Below w.heap.size w WA := by rw [hWA]; exact (Below.refl _ _).alloc (Nat.le_refl _) _
  rw [← hWA] at BX
  obtain ⟨A, O, rfl, hAl, hPA⟩ := HP.out.resolve_left (by omega)
  have HPB : Hid (∀ w2, Below WA.heap.size WA w2 → PlAt w2 A O lp D) := Lib.hid fun w2 h => hPA.below hAl (hA.trans (h.mono hA.size))
  have HTR : Hid (∀ w2, Below WA.heap.size WA w2 → Tr7 w2 na oa ln lo N U) := Lib.hid fun w2 h => H.out.below (hA.trans (h.mono hA.size))
  have HA := Lib.hid hA
  have hdn : ∀ d, d < lp → (D d).n ≤ 1000000 := fun d hd => by have := (dayB_len _ (HDY.out d hd)).1; omega
  have HDN := Lib.hid hdn
  have m1 : (0 : Int) ≤ (i : Int) := by omega
  have m2 : (i : Int) < (lp : Int) := by omega
  have m3 : (0 : Int) ≤ (j : Int) := by omega
  have m4 : (j : Int) < (lp : Int) := by omega
  have z1 := (HPB.out WA (Below.refl _ _) i hi).1
  have z2 := (HPB.out WA (Below.refl _ _) j hj).1
  have HH : Hid (∀ (d : Nat) (x : Int) w2, d < lp → Below WA.heap.size WA w2 → Calls Tryz.prog 36 #[.slice (D d).a (D d).n (D d).c, .int .i64 x] w2 fun e w' => e = .returned (.bool (hasB (D d).s x (D d).n)) ∧ Below WA.heap.size WA w') := Lib.hid fun d x w2 hd h => (has_w _ _ _ (D d).s x w2 (HDN.out d hd) (Lib.hid (HPB.out w2 h d hd).2)).mono fun e w' ⟨he, hv⟩ => ⟨he, h.trans (hv.mono h.size)⟩
  rw [hWA] at z1 z2
  clear hA hPA H HP hdn
  have hij2 : ((i : Int) == (j : Int)) = false := by rw [beq_eq_false_iff_ne]; omega
  have Hi := Lib.hid hi
  have Hj := Lib.hid hj
  have B0 := Lib.hid h0
  have B1 := Lib.hid h1
  clear h0 h1 hi hj hij
  go_enter Tryz.func52, Tryz.ntmps52
  go_wp2_with (first
    | (go_at_call 36; have hB := B0.out; rw [← hWA]; refine (HH.out i zo _ Hi.out (Below.refl _ _)).mono ?_; rw [hB]; rintro e wh1 ⟨rfl, hb1⟩; clear hB B0 z1 z2; have z1 := (HPB.out _ hb1 i Hi.out).1; have z2 := (HPB.out _ hb1 j Hj.out).1)
    | (go_at_call 36; have hB := B1.out; refine (HH.out i zt _ Hi.out hb1).mono ?_; rw [hB]; rintro e wh2 ⟨rfl, hb2⟩; clear hB B1 z1 z2; have z1 := (HPB.out _ hb2 i Hi.out).1; have z2 := (HPB.out _ hb2 j Hj.out).1))
  exact bodyPost_ret (v := .tuple #[.slice none 0 0, .bool false]) (by simp [results, Tryz.results52, go_sem]) rfl ⟨rfl, HA.out.trans (hb2.mono HA.out.size)⟩

set_option maxRecDepth 100000 in
set_option maxHeartbeats 2000000 in
theorem rswap_3 (f zo zt : Int) (na oa pa : Option Addr) (ln cn lo co lp cp i j : Nat) (N : Nat → N2) (U : Nat → O3) (D : Nat → Dy) (w : World) (hlp : lp ≤ 10) (hi : i < lp) (hj : j < lp) (HR : Hid (TreeS f ln lo N U)) (H : Hid (Tr7 w na oa ln lo N U)) (HP : Hid (PlSl w pa lp D)) (HDY : Hid (∀ d, d < lp → dayB lo (D d).s (D d).n = true)) (hij : i ≠ j) (h0 : hasB (D i).s zo (D i).n = true) (h1 : hasB (D i).s zt (D i).n = false) (h2 : hasB (D j).s zt (D j).n = false) :
    Calls Tryz.prog 52 #[.agg #[.int .i64 f, .slice na ln cn, .slice oa lo co], .slice pa lp cp, .int .i64 zo, .int .i64 zt, .int .i64 (i : Int), .int .i64 (j : Int)] w fun e w' => e = .returned (.tuple #[.slice none 0 0, .bool false]) ∧ Below w.heap.size w w' := by
  have q1 := HR.out.l6
  have q2 := HR.out.lo2
  have BX := Lib.hid (fun (w1 : World) (hb : Below (w.alloc (.cells #[.int .i64 f, .slice na ln cn, .slice oa lo co] 25)).heap.size (w.alloc (.cells #[.int .i64 f, .slice na ln cn, .slice oa lo co] 25)) w1) => box7 hb)
  obtain ⟨WA, hWA⟩ : ∃ WA, WA = w.alloc (.cells #[.int .i64 f, .slice na ln cn, .slice oa lo co] 25) := ⟨_, rfl⟩
  have hA : Below w.heap.size w WA := by rw [hWA]; exact (Below.refl _ _).alloc (Nat.le_refl _) _
  rw [← hWA] at BX
  obtain ⟨A, O, rfl, hAl, hPA⟩ := HP.out.resolve_left (by omega)
  have HPB : Hid (∀ w2, Below WA.heap.size WA w2 → PlAt w2 A O lp D) := Lib.hid fun w2 h => hPA.below hAl (hA.trans (h.mono hA.size))
  have HTR : Hid (∀ w2, Below WA.heap.size WA w2 → Tr7 w2 na oa ln lo N U) := Lib.hid fun w2 h => H.out.below (hA.trans (h.mono hA.size))
  have HA := Lib.hid hA
  have hdn : ∀ d, d < lp → (D d).n ≤ 1000000 := fun d hd => by have := (dayB_len _ (HDY.out d hd)).1; omega
  have HDN := Lib.hid hdn
  have m1 : (0 : Int) ≤ (i : Int) := by omega
  have m2 : (i : Int) < (lp : Int) := by omega
  have m3 : (0 : Int) ≤ (j : Int) := by omega
  have m4 : (j : Int) < (lp : Int) := by omega
  have z1 := (HPB.out WA (Below.refl _ _) i hi).1
  have z2 := (HPB.out WA (Below.refl _ _) j hj).1
  have HH : Hid (∀ (d : Nat) (x : Int) w2, d < lp → Below WA.heap.size WA w2 → Calls Tryz.prog 36 #[.slice (D d).a (D d).n (D d).c, .int .i64 x] w2 fun e w' => e = .returned (.bool (hasB (D d).s x (D d).n)) ∧ Below WA.heap.size WA w') := Lib.hid fun d x w2 hd h => (has_w _ _ _ (D d).s x w2 (HDN.out d hd) (Lib.hid (HPB.out w2 h d hd).2)).mono fun e w' ⟨he, hv⟩ => ⟨he, h.trans (hv.mono h.size)⟩
  rw [hWA] at z1 z2
  clear hA hPA H HP hdn
  have hij2 : ((i : Int) == (j : Int)) = false := by rw [beq_eq_false_iff_ne]; omega
  have Hi := Lib.hid hi
  have Hj := Lib.hid hj
  have B0 := Lib.hid h0
  have B1 := Lib.hid h1
  have B2 := Lib.hid h2
  clear h0 h1 h2 hi hj hij
  go_enter Tryz.func52, Tryz.ntmps52
  go_wp2_with (first
    | (go_at_call 36; have hB := B0.out; rw [← hWA]; refine (HH.out i zo _ Hi.out (Below.refl _ _)).mono ?_; rw [hB]; rintro e wh1 ⟨rfl, hb1⟩; clear hB B0 z1 z2; have z1 := (HPB.out _ hb1 i Hi.out).1; have z2 := (HPB.out _ hb1 j Hj.out).1)
    | (go_at_call 36; have hB := B1.out; refine (HH.out i zt _ Hi.out hb1).mono ?_; rw [hB]; rintro e wh2 ⟨rfl, hb2⟩; clear hB B1 z1 z2; have z1 := (HPB.out _ hb2 i Hi.out).1; have z2 := (HPB.out _ hb2 j Hj.out).1)
    | (go_at_call 36; have hB := B2.out; refine (HH.out j zt _ Hj.out hb2).mono ?_; rw [hB]; rintro e wh3 ⟨rfl, hb3⟩; clear hB B2 z1 z2; have z1 := (HPB.out _ hb3 i Hi.out).1; have z2 := (HPB.out _ hb3 j Hj.out).1))
  exact bodyPost_ret (v := .tuple #[.slice none 0 0, .bool false]) (by simp [results, Tryz.results52, go_sem]) rfl ⟨rfl, HA.out.trans (hb3.mono HA.out.size)⟩

set_option maxRecDepth 100000 in
set_option maxHeartbeats 2000000 in
theorem rswap_4 (f zo zt : Int) (na oa pa : Option Addr) (ln cn lo co lp cp i j : Nat) (N : Nat → N2) (U : Nat → O3) (D : Nat → Dy) (w : World) (hlp : lp ≤ 10) (hi : i < lp) (hj : j < lp) (HR : Hid (TreeS f ln lo N U)) (H : Hid (Tr7 w na oa ln lo N U)) (HP : Hid (PlSl w pa lp D)) (HDY : Hid (∀ d, d < lp → dayB lo (D d).s (D d).n = true)) (hij : i ≠ j) (h0 : hasB (D i).s zo (D i).n = true) (h1 : hasB (D i).s zt (D i).n = false) (h2 : hasB (D j).s zt (D j).n = true) (h3 : hasB (D j).s zo (D j).n = true) :
    Calls Tryz.prog 52 #[.agg #[.int .i64 f, .slice na ln cn, .slice oa lo co], .slice pa lp cp, .int .i64 zo, .int .i64 zt, .int .i64 (i : Int), .int .i64 (j : Int)] w fun e w' => e = .returned (.tuple #[.slice none 0 0, .bool false]) ∧ Below w.heap.size w w' := by
  have q1 := HR.out.l6
  have q2 := HR.out.lo2
  have BX := Lib.hid (fun (w1 : World) (hb : Below (w.alloc (.cells #[.int .i64 f, .slice na ln cn, .slice oa lo co] 25)).heap.size (w.alloc (.cells #[.int .i64 f, .slice na ln cn, .slice oa lo co] 25)) w1) => box7 hb)
  obtain ⟨WA, hWA⟩ : ∃ WA, WA = w.alloc (.cells #[.int .i64 f, .slice na ln cn, .slice oa lo co] 25) := ⟨_, rfl⟩
  have hA : Below w.heap.size w WA := by rw [hWA]; exact (Below.refl _ _).alloc (Nat.le_refl _) _
  rw [← hWA] at BX
  obtain ⟨A, O, rfl, hAl, hPA⟩ := HP.out.resolve_left (by omega)
  have HPB : Hid (∀ w2, Below WA.heap.size WA w2 → PlAt w2 A O lp D) := Lib.hid fun w2 h => hPA.below hAl (hA.trans (h.mono hA.size))
  have HTR : Hid (∀ w2, Below WA.heap.size WA w2 → Tr7 w2 na oa ln lo N U) := Lib.hid fun w2 h => H.out.below (hA.trans (h.mono hA.size))
  have HA := Lib.hid hA
  have hdn : ∀ d, d < lp → (D d).n ≤ 1000000 := fun d hd => by have := (dayB_len _ (HDY.out d hd)).1; omega
  have HDN := Lib.hid hdn
  have m1 : (0 : Int) ≤ (i : Int) := by omega
  have m2 : (i : Int) < (lp : Int) := by omega
  have m3 : (0 : Int) ≤ (j : Int) := by omega
  have m4 : (j : Int) < (lp : Int) := by omega
  have z1 := (HPB.out WA (Below.refl _ _) i hi).1
  have z2 := (HPB.out WA (Below.refl _ _) j hj).1
  have HH : Hid (∀ (d : Nat) (x : Int) w2, d < lp → Below WA.heap.size WA w2 → Calls Tryz.prog 36 #[.slice (D d).a (D d).n (D d).c, .int .i64 x] w2 fun e w' => e = .returned (.bool (hasB (D d).s x (D d).n)) ∧ Below WA.heap.size WA w') := Lib.hid fun d x w2 hd h => (has_w _ _ _ (D d).s x w2 (HDN.out d hd) (Lib.hid (HPB.out w2 h d hd).2)).mono fun e w' ⟨he, hv⟩ => ⟨he, h.trans (hv.mono h.size)⟩
  rw [hWA] at z1 z2
  clear hA hPA H HP hdn
  have hij2 : ((i : Int) == (j : Int)) = false := by rw [beq_eq_false_iff_ne]; omega
  have Hi := Lib.hid hi
  have Hj := Lib.hid hj
  have B0 := Lib.hid h0
  have B1 := Lib.hid h1
  have B2 := Lib.hid h2
  have B3 := Lib.hid h3
  clear h0 h1 h2 h3 hi hj hij
  go_enter Tryz.func52, Tryz.ntmps52
  go_wp2_with (first
    | (go_at_call 36; have hB := B0.out; rw [← hWA]; refine (HH.out i zo _ Hi.out (Below.refl _ _)).mono ?_; rw [hB]; rintro e wh1 ⟨rfl, hb1⟩; clear hB B0 z1 z2; have z1 := (HPB.out _ hb1 i Hi.out).1; have z2 := (HPB.out _ hb1 j Hj.out).1)
    | (go_at_call 36; have hB := B1.out; refine (HH.out i zt _ Hi.out hb1).mono ?_; rw [hB]; rintro e wh2 ⟨rfl, hb2⟩; clear hB B1 z1 z2; have z1 := (HPB.out _ hb2 i Hi.out).1; have z2 := (HPB.out _ hb2 j Hj.out).1)
    | (go_at_call 36; have hB := B2.out; refine (HH.out j zt _ Hj.out hb2).mono ?_; rw [hB]; rintro e wh3 ⟨rfl, hb3⟩; clear hB B2 z1 z2; have z1 := (HPB.out _ hb3 i Hi.out).1; have z2 := (HPB.out _ hb3 j Hj.out).1)
    | (go_at_call 36; have hB := B3.out; refine (HH.out j zo _ Hj.out hb3).mono ?_; rw [hB]; rintro e wh4 ⟨rfl, hb4⟩; clear hB B3 z1 z2; have z1 := (HPB.out _ hb4 i Hi.out).1; have z2 := (HPB.out _ hb4 j Hj.out).1))
  exact bodyPost_ret (v := .tuple #[.slice none 0 0, .bool false]) (by simp [results, Tryz.results52, go_sem]) rfl ⟨rfl, HA.out.trans (hb4.mono HA.out.size)⟩
end Go.Kn
