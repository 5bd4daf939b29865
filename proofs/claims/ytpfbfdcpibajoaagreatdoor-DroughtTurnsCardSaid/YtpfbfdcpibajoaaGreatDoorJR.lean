/- Contracts of functions that the laws of this seat call, or the evaluator of closed calls and its runs. Conditions: as each theorem states them. -/
import Derived.Test.YtpfbfdcpibajoaaGreatDoorJO
set_option linter.unusedVariables false
set_option linter.unusedSimpArgs false
namespace Go.Kn
open Go Go.Proofs Go.RowKit

/-- sooner, as the reference has it -/
def sooB (U : Nat → O3) (r : Nat → Int) (a b : Nat) : Bool := if r a ≠ r b then decide (r a < r b) else if (U a).k ≠ (U b).k then decide ((U a).k < (U b).k) else decide (a < b)

set_option maxRecDepth 100000 in
set_option maxHeartbeats 2000000 in
theorem sooner_w (f : Int) (na oa pa : Option Addr) (ln cn lo co n cp a b : Nat) (N : Nat → N2) (U : Nat → O3) (E : Nat → Dy) (r : Nat → Int) (w : World) (hn : n ≤ 1000) (ha : a < lo) (hb : b < lo) (HE : Hid (∀ d, d < n → (E d).n ≤ 1000000)) (HR : Hid (∀ i, i < lo → cntB (dys E (i : Int)) n = r i)) (HP : Hid (PlSl w pa n E)) (H : Hid (Tr7 w na oa ln lo N U)) :
    Calls Tryz.prog 140 #[.agg #[.int .i64 f, .slice na ln cn, .slice oa lo co], .slice pa n cp, .int .i64 (a : Int), .int .i64 (b : Int)] w fun e w' => e = .returned (.bool (sooB U r a b)) ∧ Below w.heap.size w w' := by
  have BX := Lib.hid (fun (w1 : World) (hb : Below (w.alloc (.cells #[.int .i64 f, .slice na ln cn, .slice oa lo co] 25)).heap.size (w.alloc (.cells #[.int .i64 f, .slice na ln cn, .slice oa lo co] 25)) w1) => box7 hb)
  obtain ⟨C, P, rfl, hC, hM⟩ := H.out.ho.resolve_left (by omega)
  have HCE : Hid (∀ w1, Below (w.alloc (.cells #[.int .i64 f, .slice na ln cn, .slice (some ⟨C, P, none⟩) lo co] 25)).heap.size (w.alloc (.cells #[.int .i64 f, .slice na ln cn, .slice (some ⟨C, P, none⟩) lo co] 25)) w1 → w1.cell? ⟨w.heap.size, 2, none⟩ = some (.slice (some ⟨C, P, none⟩) lo co) ∧ w1.cell? ⟨C, P + a * 3 + 2, none⟩ = some (.int .i64 (U a).k) ∧ w1.cell? ⟨C, P + b * 3 + 2, none⟩ = some (.int .i64 (U b).k)) := Lib.hid fun w1 h => by
    have h2 := hM.below hC (below_al h)
    exact ⟨(BX.out _ h).2.2.1, (h2 a ha).2.2, (h2 b hb).2.2⟩
  have hb0 : Below (w.alloc (.cells #[.int .i64 f, .slice na ln cn, .slice (some ⟨C, P, none⟩) lo co] 25)).heap.size (w.alloc (.cells #[.int .i64 f, .slice na ln cn, .slice (some ⟨C, P, none⟩) lo co] 25)) (w.alloc (.cells #[.int .i64 f, .slice na ln cn, .slice (some ⟨C, P, none⟩) lo co] 25)) := Below.refl _ _
  have HDA : Hid (∀ w1, Below (w.alloc (.cells #[.int .i64 f, .slice na ln cn, .slice (some ⟨C, P, none⟩) lo co] 25)).heap.size (w.alloc (.cells #[.int .i64 f, .slice na ln cn, .slice (some ⟨C, P, none⟩) lo co] 25)) w1 → ∀ i : Nat, i < lo → Calls Tryz.prog 49 #[.slice pa n cp, .int .i64 (i : Int)] w1 fun e w' => e = .returned (.int .i64 (r i)) ∧ Below w1.heap.size w1 w') := Lib.hid fun w1 h i hi => by
    rw [← HR.out i hi]
    exact days_w pa n cp E (i : Int) w1 (by omega) HE (Lib.hid (HP.out.below (below_al h)))
  obtain ⟨ra, hra⟩ : ∃ v, r a = v := ⟨_, rfl⟩
  obtain ⟨rb, hrb⟩ : ∃ v, r b = v := ⟨_, rfl⟩
  have HDA1 := Lib.hid fun w1 h => HDA.out w1 h a ha
  have HDA2 := Lib.hid fun w1 h => HDA.out w1 h b hb
  obtain ⟨ka, hka⟩ : ∃ v, (U a).k = v := ⟨_, rfl⟩
  obtain ⟨kb, hkb⟩ : ∃ v, (U b).k = v := ⟨_, rfl⟩
  have HSB : Hid (sooB U r a b = if ra ≠ rb then decide (ra < rb) else if ka ≠ kb then decide (ka < kb) else decide (a < b)) := Lib.hid (by unfold sooB; rw [hra, hrb, hka, hkb])
  rw [hka, hkb] at HCE
  have HDA1b : Hid (∀ w1, Below (w.alloc (.cells #[.int .i64 f, .slice na ln cn, .slice (some ⟨C, P, none⟩) lo co] 25)).heap.size (w.alloc (.cells #[.int .i64 f, .slice na ln cn, .slice (some ⟨C, P, none⟩) lo co] 25)) w1 → Calls Tryz.prog 49 #[.slice pa n cp, .int .i64 (a : Int)] w1 fun e w' => e = .returned (.int .i64 ra) ∧ Below w1.heap.size w1 w') := Lib.hid fun w1 h => by rw [← hra]; exact HDA1.out w1 h
  have HDA2b : Hid (∀ w1, Below (w.alloc (.cells #[.int .i64 f, .slice na ln cn, .slice (some ⟨C, P, none⟩) lo co] 25)).heap.size (w.alloc (.cells #[.int .i64 f, .slice na ln cn, .slice (some ⟨C, P, none⟩) lo co] 25)) w1 → Calls Tryz.prog 49 #[.slice pa n cp, .int .i64 (b : Int)] w1 fun e w' => e = .returned (.int .i64 rb) ∧ Below w1.heap.size w1 w') := Lib.hid fun w1 h => by rw [← hrb]; exact HDA2.out w1 h
  have A1 := Lib.hid trivial
  have A2 := Lib.hid trivial
  have n1 : (0 : Int) ≤ (a : Int) := by omega
  have n2 : (a : Int) < (lo : Int) := by omega
  have n3 : (0 : Int) ≤ (b : Int) := by omega
  have n4 : (b : Int) < (lo : Int) := by omega
  clear hra hrb hka hkb HDA HDA1 HDA2 hM
  by_cases h1 : ra = rb
  case neg =>
    have e1 : (ra == rb) = false := by rw [beq_eq_false_iff_ne]; exact h1
    rw [if_pos h1] at HSB
    rw [HSB.out]
    clear h1 HSB
    go_enter Tryz.func140, Tryz.ntmps140
    go_wp2_with (first
      | (have hB := A1.out; go_at_call 49; refine (HDA1b.out _ hb0).mono ?_; rintro e w5 ⟨rfl, hv5⟩; clear hB A1; replace hb0 := hb0.trans (hv5.mono hb0.size))
      | (have hB := A2.out; go_at_call 49; refine (HDA2b.out _ hb0).mono ?_; rintro e w6 ⟨rfl, hv6⟩; clear hB A2; replace hb0 := hb0.trans (hv6.mono hb0.size)))
    go_ret
    exact ⟨rfl, by first | exact below_al hb0 | exact below_al (below_drew hb0) | exact below_al (below_drew (below_drew hb0))⟩
  case pos =>
  rw [if_neg (fun h => h h1)] at HSB
  have e1 : (ra == rb) = true := by rw [beq_iff_eq]; exact h1
  clear h1
  by_cases h2 : ka = kb
  case neg =>
    have e2 : (ka == kb) = false := by rw [beq_eq_false_iff_ne]; exact h2
    rw [if_pos h2] at HSB
    rw [HSB.out]
    clear h2 HSB
    go_enter Tryz.func140, Tryz.ntmps140
    go_wp2_with (first
      | (have hB := A1.out; go_at_call 49; refine (HDA1b.out _ hb0).mono ?_; rintro e w5 ⟨rfl, hv5⟩; clear hB A1; replace hb0 := hb0.trans (hv5.mono hb0.size))
      | (have hB := A2.out; go_at_call 49; refine (HDA2b.out _ hb0).mono ?_; rintro e w6 ⟨rfl, hv6⟩; clear hB A2; replace hb0 := hb0.trans (hv6.mono hb0.size)))
    obtain ⟨y1, y2, y3⟩ := HCE.out _ hb0
    go_region_held3 (fun w' => w'.cell? ⟨w.heap.size, 2, none⟩ = some (.slice (some ⟨C, P, none⟩) lo co) ∧ w'.cell? ⟨C, P + a * 3 + 2, none⟩ = some (.int .i64 ka) ∧ w'.cell? ⟨C, P + b * 3 + 2, none⟩ = some (.int .i64 kb)) (first | exact ⟨y1, y2, y3⟩ | go_keep) (first | fail)
    go_wp2
    obtain ⟨y1, y2, y3⟩ := HCE.out _ hb0
    go_region_held3 (fun w' => w'.cell? ⟨w.heap.size, 2, none⟩ = some (.slice (some ⟨C, P, none⟩) lo co) ∧ w'.cell? ⟨C, P + a * 3 + 2, none⟩ = some (.int .i64 ka) ∧ w'.cell? ⟨C, P + b * 3 + 2, none⟩ = some (.int .i64 kb)) (first | exact ⟨y1, y2, y3⟩ | go_keep) (first | fail)
    go_wp2
    go_ret
    exact ⟨rfl, by first | exact below_al hb0 | exact below_al (below_drew hb0) | exact below_al (below_drew (below_drew hb0))⟩
  case pos =>
    have e2 : (ka == kb) = true := by rw [beq_iff_eq]; exact h2
    rw [if_neg (fun h => h h2)] at HSB
    rw [HSB.out]
    clear h2 HSB
    go_enter Tryz.func140, Tryz.ntmps140
    go_wp2_with (first
      | (have hB := A1.out; go_at_call 49; refine (HDA1b.out _ hb0).mono ?_; rintro e w5 ⟨rfl, hv5⟩; clear hB A1; replace hb0 := hb0.trans (hv5.mono hb0.size))
      | (have hB := A2.out; go_at_call 49; refine (HDA2b.out _ hb0).mono ?_; rintro e w6 ⟨rfl, hv6⟩; clear hB A2; replace hb0 := hb0.trans (hv6.mono hb0.size)))
    obtain ⟨y1, y2, y3⟩ := HCE.out _ hb0
    go_region_held3 (fun w' => w'.cell? ⟨w.heap.size, 2, none⟩ = some (.slice (some ⟨C, P, none⟩) lo co) ∧ w'.cell? ⟨C, P + a * 3 + 2, none⟩ = some (.int .i64 ka) ∧ w'.cell? ⟨C, P + b * 3 + 2, none⟩ = some (.int .i64 kb)) (first | exact ⟨y1, y2, y3⟩ | go_keep) (first | fail)
    go_wp2
    go_ret
    exact ⟨by first | rfl | simp, by first | exact below_al hb0 | exact below_al (below_drew hb0) | exact below_al (below_drew (below_drew hb0))⟩
end Go.Kn

namespace Go.Kn
open Go Go.Proofs Go.RowKit

/-- the first of the best among those of the first that are right -/
def scanB (P : Nat → Bool) (lt : Nat → Nat → Bool) : Nat → Option Nat
  | 0 => none
  | i + 1 => match scanB P lt i with
    | none => if P i then some i else none
    | some b => if P i && lt i b then some i else some b
theorem scanB_lt {P : Nat → Bool} {lt : Nat → Nat → Bool} : ∀ {n b : Nat}, scanB P lt n = some b → b < n ∧ P b = true
  | 0, _, h => by cases h
  | n + 1, b, h => by
    simp only [scanB] at h
    cases hs : scanB P lt n with
    | none =>
      rw [hs] at h
      dsimp only at h
      split at h
      · rename_i e; injection h with h; subst h; exact ⟨by omega, e⟩
      · cases h
    | some c =>
      rw [hs] at h
      dsimp only at h
      split at h
      · rename_i e; injection h with h; subst h
        rw [Bool.and_eq_true] at e
        exact ⟨by omega, e.1⟩
      · injection h with h; subst h
        have := scanB_lt hs
        exact ⟨by omega, this.2⟩
theorem scanB_is (P : Nat → Bool) (lt : Nat → Nat → Bool) : ∀ n : Nat, scanB P lt n = match (List.range n).filter P with
    | [] => none
    | x :: xs => some (bestL lt x xs)
  | 0 => rfl
  | n + 1 => by
    rw [List.range_succ, List.filter_append]
    have ih := scanB_is P lt n
    simp only [scanB]
    rw [ih]
    cases hf : (List.range n).filter P with
    | nil =>
      cases hp : P n with
      | true => simp [hp, bestL]
      | false => simp [hp]
    | cons x xs =>
      cases hp : P n with
      | true => simp [hp, bestL_push]; split <;> rfl
      | false => simp [hp]
def bestV : Option Nat → Int
  | none => -1
  | some b => (b : Int)
def restL (lo : Nat) (done : List Nat) : List Nat := (List.range lo).filter fun i => !decide (i ∈ done)
theorem restL_erase {lo : Nat} {done : List Nat} {b : Nat} : (restL lo done).erase b = restL lo (done ++ [b]) := by
  unfold restL
  rw [List.Nodup.erase_eq_filter (List.Nodup.sublist List.filter_sublist List.nodup_range), List.filter_filter]
  congr 1
  funext i
  rw [Bool.eq_iff_iff]
  simp [List.mem_append]
  constructor
  · rintro ⟨h1, h2⟩; exact ⟨h2, h1⟩
  · rintro ⟨h1, h2⟩; exact ⟨h2, h1⟩
/-- an outlet that comes later in the tree is sooner just if it is before -/
theorem soo_bef {U : Nat → O3} {r : Nat → Int} {i b : Nat} (h : b < i) : sooB U r i b = befI U r i b := by
  unfold sooB befI
  by_cases h1 : r i = r b
  · by_cases h2 : (U i).k = (U b).k
    · simp [h1, h2]; omega
    · simp [h1, h2]
  · simp [h1]
structure OrT (U : Nat → O3) (r : Nat → Int) (lo B : Nat) (W0 : World) (done : List Nat) (m : Nat) (v : Value) (wr : World) : Prop where
  hm : done.length = m
  rl : (restL lo done).length + m = lo
  ord : done ++ selL (befI U r) (lo - m) (restL lo done) = ordL U r lo
  own : wr.ownsRow B 3 1 v m (done.map iv1)
  bl : Below W0.heap.size W0 wr
theorem OrT.start {U : Nat → O3} {r : Nat → Int} {lo : Nat} {W0 : World} {B : Nat} : OrT U r lo B W0 [] 0 (.slice none 0 0) W0 := by
  have h : restL lo [] = List.range lo := by unfold restL; rw [List.filter_eq_self]; intro a _; rfl
  refine ⟨rfl, by rw [h]; simp, ?_, ⟨rfl, .inl ⟨rfl, rfl⟩⟩, Below.refl _ _⟩
  rw [h]; rfl
theorem OrT.best {U : Nat → O3} {r : Nat → Int} {lo B : Nat} {W0 wr : World} {done : List Nat} {m : Nat} {v : Value} (h : OrT U r lo B W0 done m v wr) (hm : m < lo) :
    ∃ b, scanB (fun i => !decide (i ∈ done)) (befI U r) lo = some b ∧ b < lo ∧ (restL lo (done ++ [b])).length + (m + 1) = lo ∧ (done ++ [b]) ++ selL (befI U r) (lo - (m + 1)) (restL lo (done ++ [b])) = ordL U r lo := by
  have h1 := scanB_is (fun i => !decide (i ∈ done)) (befI U r) lo
  have hrl := h.rl
  have ho := h.ord
  cases hr : restL lo done with
  | nil => rw [hr] at hrl; simp at hrl; omega
  | cons x xs =>
    rw [hr] at ho
    unfold restL at hr
    rw [hr] at h1
    refine ⟨_, h1, (scanB_lt h1).1, ?_, ?_⟩
    · rw [← restL_erase]
      unfold restL
      rw [hr, List.length_erase_of_mem (bestL_mem _ _ _)]
      unfold restL at hrl
      rw [hr] at hrl
      simp at hrl ⊢; omega
    · rw [← ho, show lo - m = (lo - (m + 1)) + 1 by omega, ← restL_erase]
      simp only [selL]
      unfold restL
      rw [hr]; simp
end Go.Kn

namespace Go.Kn
open Go Go.Proofs Go.RowKit

set_option maxRecDepth 100000 in
set_option maxHeartbeats 4000000 in
theorem order_w (f : Int) (na oa pa : Option Addr) (ln cn lo co n cp : Nat) (N : Nat → N2) (U : Nat → O3) (E : Nat → Dy) (r : Nat → Int) (w : World) (hn : n ≤ 1000) (hlo : lo ≤ 8) (HE : Hid (∀ d, d < n → (E d).n ≤ 1000000)) (HR : Hid (∀ i, i < lo → cntB (dys E (i : Int)) n = r i)) (HP : Hid (PlSl w pa n E)) (H : Hid (Tr7 w na oa ln lo N U)) :
    Calls Tryz.prog 95 #[.agg #[.int .i64 f, .slice na ln cn, .slice oa lo co], .slice pa n cp] w fun e w' => (∃ v, e = .returned v ∧ w'.ownsRow w.heap.size 3 1 v (ordL U r lo).length ((ordL U r lo).map iv1)) ∧ Below w.heap.size w w' := by
  obtain ⟨i0, hi0, hz0, hz1, hz2⟩ := info_parts info3'
  have BX := Lib.hid (fun (w1 : World) (hb : Below (w.alloc (.cells #[.int .i64 f, .slice na ln cn, .slice oa lo co] 25)).heap.size (w.alloc (.cells #[.int .i64 f, .slice na ln cn, .slice oa lo co] 25)) w1) => box7 hb)
  obtain ⟨W0, hW0⟩ : ∃ W0, W0 = w.alloc (.cells #[.int .i64 f, .slice na ln cn, .slice oa lo co] 25) := ⟨_, rfl⟩
  have hA : Below w.heap.size w W0 := by rw [hW0]; exact (Below.refl _ _).alloc (Nat.le_refl _) _
  rw [← hW0] at BX
  have HSO : Hid (∀ (i b : Nat) w2, b < i → i < lo → Below W0.heap.size W0 w2 → Calls Tryz.prog 140 #[.agg #[.int .i64 f, .slice na ln cn, .slice oa lo co], .slice pa n cp, .int .i64 (i : Int), .int .i64 (b : Int)] w2 fun e w' => e = .returned (.bool (befI U r i b)) ∧ Below w2.heap.size w2 w') := Lib.hid fun i b w2 hb hi h => by
    have h2 := hA.trans (h.mono hA.size)
    rw [← soo_bef hb]
    exact sooner_w f na oa pa ln cn lo co n cp i b N U E r w2 hn hi (by omega) HE HR (Lib.hid (HP.out.below h2)) (Lib.hid (H.out.below h2))
  have HA := Lib.hid hA
  clear hA
  go_enter Tryz.func95, Tryz.ntmps95
  go_wp2
  rw [← hW0]
  clear hW0
  go_loopw [5] (fun v wr => ∃ (done : List Nat) (m : Nat), OrT U r lo W0.heap.size W0 done m v wr) (fun v _ => lo - lenV v)
  case atStart => exact ⟨[], 0, OrT.start⟩
  case round =>
    obtain ⟨done, m, hI⟩ := hrel
    obtain ⟨sa, sc, rfl, hsl, _⟩ := dayNew hI.own
    have HI := Lib.hid hI
    have HSL := Lib.hid hsl
    obtain ⟨x1, x2, x3, x4⟩ := BX.out _ hI.bl
    have hml : m ≤ lo := by have := hI.rl; omega
    clear hI hsl
    obtain ⟨w9, hw9⟩ : ∃ w9, w9 = wr := ⟨_, rfl⟩
    subst hw9
    by_cases hlt : m < lo
    case neg =>
      obtain rfl : m = lo := by omega
      have hd : done = ordL U r m := by have := HI.out.ord; rw [← this]; simp [selL]
      go_wp2
      go_ret
      refine ⟨⟨_, rfl, ?_⟩, HA.out.trans (HI.out.bl.mono HA.out.size)⟩
      rw [← hd, HI.out.hm]
      exact owns_base HI.out.own HA.out.size
    case pos =>
    have n1 : (m : Int) < (lo : Int) := by omega
    have HHA : Hid (∀ (i : Nat) w2, Below w9.heap.size w9 w2 → Calls Tryz.prog 36 #[.slice sa m sc, .int .i64 (i : Int)] w2 fun e w' => e = .returned (.bool (decide (i ∈ done))) ∧ Below w9.heap.size w9 w') := Lib.hid fun i w2 h => by
      have h1 := has_w sa m sc (lgI done) (i : Int) w2 (by omega) (Lib.hid (HSL.out.below h))
      rw [show hasB (lgI done) (i : Int) m = decide (i ∈ done) by rw [← HI.out.hm]; exact hasB_lgI] at h1
      exact h1.mono fun e w' ⟨he, hv⟩ => ⟨he, h.trans (hv.mono h.size)⟩
    have HBA : Hid (∀ w2, Below w9.heap.size w9 w2 → Below W0.heap.size W0 w2) := Lib.hid fun w2 h => HI.out.bl.trans (h.mono HI.out.bl.size)
    obtain ⟨P, hP⟩ : ∃ P : Nat → Bool, P = fun i => !decide (i ∈ done) := ⟨_, rfl⟩
    have HPP : Hid (∀ i, P i = !decide (i ∈ done)) := Lib.hid fun i => by rw [hP]
    obtain ⟨b, hb1, hb2, hb3, hb4⟩ := HI.out.best hlt
    rw [← hP] at hb1
    have HB1 := Lib.hid hb1
    have HB34 := Lib.hid (And.intro hb3 hb4)
    clear hP hb1 hb3 hb4
    go_wp2
    clear x1 x2 x3 x4
    go_loopw [6, 7] (fun v ii wr => ∃ k : Nat, k ≤ lo ∧ ii = .int .i64 (k : Int) ∧ v = .int .i64 (bestV (scanB P (befI U r) k)) ∧ Below w9.heap.size w9 wr) (fun _ ii _ => lo - (Go.RowKit.intOf ii).toNat)
    case atStart => exact ⟨0, Nat.zero_le _, rfl, rfl, Below.refl _ _⟩
    case round =>
      obtain ⟨k, hk, rfl, rfl, hbr⟩ := hrel
      have HBR := Lib.hid hbr
      obtain ⟨x1, x2, x3, x4⟩ := BX.out _ (HBA.out _ hbr)
      clear hbr
      by_cases hlt2 : k < lo
      case neg =>
        obtain rfl : k = lo := by omega
        rw [HB1.out]
        show _
        simp only [bestV]
        go_wp2_with (at_builtin; refine wpList_append_own_at _ rfl (.tmp 37) (.tmp 39) 26 rfl W0.heap.size 3 i0 (.int .i64 0) 1 8 Tryz.underlying26 hi0 hz0 hz1 hz2 rfl (by decide) _ m _ rfl ((owns_below HI.out.own HBR.out).alloc _) ⟨_, 0, none⟩ 1 1 [.int .i64 (b : Int)] rfl rfl (lies_any (by first | exact al_top rfl _ _ | exact al_top (by simp) _ _)) (by intro u hu; simp at hu; subst hu; rfl) (by unfold maxLen; omega) (by omega) (by have := (HBA.out _ HBR.out).size; simp; omega) ?_; intro v7 w7 hown7 hgrow7 _ hloc7)
        have hl7 := hown7.1
        obtain ⟨s7, c7, rfl, _, _⟩ := dayNew (L := done ++ [b]) (by rw [List.map_append]; exact hown7)
        go_roundw
        case rel =>
          refine ⟨done ++ [b], m + 1, ⟨by simp [HI.out.hm], HB34.out.1, HB34.out.2, by rw [List.map_append]; exact hown7, ?_⟩⟩
          have h2 := HBA.out _ HBR.out
          exact (h2.alloc h2.size _).grown hgrow7 (by have := h2.size; simp; omega) (fun r e => own_ge HI.out.own r e)
        case measure => show k - lenV _ < k - lenV _; simp [lenV]; omega
      case pos =>
        have n2 : (0 : Int) ≤ (k : Int) := by omega
        have n3 : (k : Int) < (lo : Int) := by omega
        have HH := Lib.hid (HHA.out k wr HBR.out)
        have hpk := HPP.out k
        have hst : scanB P (befI U r) (k + 1) = match scanB P (befI U r) k with | none => if P k then some k else none | some b => if P k && befI U r k b then some k else some b := rfl
        cases hd : decide (k ∈ done) with
        | true =>
          rw [hd] at hpk HH
          have hs2 : scanB P (befI U r) (k + 1) = scanB P (befI U r) k := by
            rw [hst]
            cases scanB P (befI U r) k <;> simp [hpk]
          have HS2 := Lib.hid hs2
          obtain ⟨bv, hbv⟩ : ∃ bv, bestV (scanB P (befI U r) k) = bv := ⟨_, rfl⟩
          have HBV := Lib.hid hbv
          rw [hbv]
          clear hst hs2 hpk hd hbv
          go_wp2_with (go_at_call 36; refine HH.out.mono ?_; rintro e w5 ⟨rfl, hv5⟩; have HV5 := Lib.hid hv5; clear hv5 x1 x2 x3 x4; obtain ⟨x1, x2, x3, x4⟩ := BX.out _ (HBA.out _ HV5.out))
          go_roundw
          case rel => exact ⟨k + 1, by omega, by go_num, by rw [HS2.out, HBV.out], HV5.out⟩
          case measure => simp [Go.RowKit.intOf]; omega
        | false =>
          rw [hd] at hpk HH
          cases hs : scanB P (befI U r) k with
          | none =>
            rw [hs] at hst
            have HS2 : Hid (scanB P (befI U r) (k + 1) = some k) := Lib.hid (by rw [hst]; simp [hpk])
            clear hst hpk hd hs
            simp only [bestV]
            go_wp2_with (go_at_call 36; refine HH.out.mono ?_; rintro e w5 ⟨rfl, hv5⟩; have HV5 := Lib.hid hv5; clear hv5 x1 x2 x3 x4; obtain ⟨x1, x2, x3, x4⟩ := BX.out _ (HBA.out _ HV5.out))
            go_roundw
            case rel => exact ⟨k + 1, by omega, by go_num, by rw [HS2.out], HV5.out⟩
            case measure => simp [Go.RowKit.intOf]; omega
          | some c =>
            rw [hs] at hst
            have hcl := (scanB_lt hs).1
            have n4 : ¬ (c : Int) < 0 := by omega
            cases hbf : befI U r k c with
            | true =>
              have HS2 : Hid (scanB P (befI U r) (k + 1) = some k) := Lib.hid (by rw [hst]; simp [hpk, hbf])
              have HC : Hid (∀ w2, Below w9.heap.size w9 w2 → Calls Tryz.prog 140 #[.agg #[.int .i64 f, .slice na ln cn, .slice oa lo co], .slice pa n cp, .int .i64 (k : Int), .int .i64 (c : Int)] w2 fun e w' => e = .returned (.bool true) ∧ Below w2.heap.size w2 w') := Lib.hid fun w2 h => by
                rw [← hbf]
                exact HSO.out k c w2 hcl hlt2 (HBA.out _ h)
              clear hst hpk hd hs hbf
              simp only [bestV]
              go_wp2_with (first
                | (go_at_call 36; refine HH.out.mono ?_; rintro e w5 ⟨rfl, hv5⟩; have HV5 := Lib.hid hv5; clear hv5 x1 x2 x3 x4; obtain ⟨x1, x2, x3, x4⟩ := BX.out _ (HBA.out _ HV5.out))
                | (go_at_call 140; refine (HC.out _ HV5.out).mono ?_; rintro e w6 ⟨rfl, hv6⟩; have HV6 := Lib.hid (HV5.out.trans (hv6.mono HV5.out.size)); clear hv6 x1 x2 x3 x4))
              go_roundw
              case rel => exact ⟨k + 1, by omega, by go_num, by rw [HS2.out], HV6.out⟩
              case measure => simp [Go.RowKit.intOf]; omega
            | false =>
              have HS2 : Hid (scanB P (befI U r) (k + 1) = some c) := Lib.hid (by rw [hst]; simp [hpk, hbf])
              have HC : Hid (∀ w2, Below w9.heap.size w9 w2 → Calls Tryz.prog 140 #[.agg #[.int .i64 f, .slice na ln cn, .slice oa lo co], .slice pa n cp, .int .i64 (k : Int), .int .i64 (c : Int)] w2 fun e w' => e = .returned (.bool false) ∧ Below w2.heap.size w2 w') := Lib.hid fun w2 h => by
                rw [← hbf]
                exact HSO.out k c w2 hcl hlt2 (HBA.out _ h)
              clear hst hpk hd hs hbf
              simp only [bestV]
              go_wp2_with (first
                | (go_at_call 36; refine HH.out.mono ?_; rintro e w5 ⟨rfl, hv5⟩; have HV5 := Lib.hid hv5; clear hv5 x1 x2 x3 x4; obtain ⟨x1, x2, x3, x4⟩ := BX.out _ (HBA.out _ HV5.out))
                | (go_at_call 140; refine (HC.out _ HV5.out).mono ?_; rintro e w6 ⟨rfl, hv6⟩; have HV6 := Lib.hid (HV5.out.trans (hv6.mono HV5.out.size)); clear hv6 x1 x2 x3 x4))
              go_roundw
              case rel => exact ⟨k + 1, by omega, by go_num, by rw [HS2.out], HV6.out⟩
              case measure => simp [Go.RowKit.intOf]; omega
end Go.Kn

namespace Go.Kn
open Go Go.Proofs Go.RowKit

theorem run_append_nilU {P : Program} {w : World} (t ty e : TypeId) (i : TypeInfo) (ht : P.underlying t = some (.slice e)) (hi : P.info? e = some i) (sq : Option Addr) (c : Nat) :
    (Builtin.append_ #[t, t] ty #[.slice none 0 0, .slice sq 0 c]).run P w = .ok (.slice none 0 0) w := by
  cases sq <;> simp [Builtin.append_, run_underlying ht, sizeOf, typeInfo, hi, Builtin.lenOf, Builtin.firstCells, loadCells, loadCellsFrom]
theorem step_app_run {P : Program} {w w2 : World} {ops : Array Oper} {o : Oper} {a : Act} {K : Act → World → Prop} {Q : Exit → Act → World → Prop} {E : Prop} (hgd : o.guard = none) (s x : Operand) (t : TypeId)
    (ho : o.op = .call { callee := .builtin .append, args := #[s, x], argTypes := #[t, t] }) {vs vx v : Value} (hs : a.eval s = vs) (hx : a.eval x = vx) (hr : (Builtin.append_ #[t, t] o.type #[vs, vx]).run P w = .ok v w2)
    (h : K (a.put o.dst v) w2) : if Region.wanted o (yielded ops a.tmps) = true then Oper.wp P o a w K Q else E := by
  have hw : Region.wanted o (yielded ops a.tmps) = true := by simp [Region.wanted, hgd]
  rw [if_pos hw]
  unfold Oper.wp
  simp [execOp, ho, resolve, invoke, builtin, hs, hx, hr, Result.andThen]
  exact h
theorem step_app_of {P : Program} {w : World} {ops : Array Oper} {o : Oper} {a : Act} {K : Act → World → Prop} {Q : Exit → Act → World → Prop} {E : Prop} (hgd : o.guard = none) (s x : Operand) (t : TypeId)
    (ho : o.op = .call { callee := .builtin .append, args := #[s, x], argTypes := #[t, t] }) {vs vx : Value} (hs : a.eval s = vs) (hx : a.eval x = vx) {R : Value → World → Prop} (hr : ∃ v w2, (Builtin.append_ #[t, t] o.type #[vs, vx]).run P w = .ok v w2 ∧ R v w2)
    (h : ∀ v w2, R v w2 → K (a.put o.dst v) w2) : if Region.wanted o (yielded ops a.tmps) = true then Oper.wp P o a w K Q else E := by
  obtain ⟨v, w2, h1, h2⟩ := hr
  exact step_app_run hgd s x t ho hs hx h1 (h v w2 h2)
set_option maxRecDepth 100000 in
theorem app_nil {wr w2 : World} {sa : Option Addr} {en ec : Nat} {l : List Nat} (hl : l.length = en) (he : en ≤ 1000) (HS : IntSl w2 sa en (lgI l)) (h : Below wr.heap.size wr w2) :
    ∃ v' w', (Builtin.append_ #[26, 26] 26 #[.slice none 0 0, .slice sa en ec]).run Tryz.prog w2 = .ok v' w' ∧ w'.ownsRow wr.heap.size 3 1 v' en (l.map iv1) ∧ Below wr.heap.size wr w' ∧ ∀ a v, w2.cell? a = some v → w'.cell? a = some v := by
  obtain ⟨i0, hi0, hz0, hz1, hz2⟩ := info_parts info3'
  rcases HS with h0 | ⟨A2, O2, rfl, hA2, hN2⟩
  · subst h0
    have hl0 : l = [] := List.eq_nil_of_length_eq_zero hl
    subst hl0
    exact ⟨_, _, run_append_nilU 26 26 3 i0 Tryz.underlying26 hi0 sa ec, ⟨rfl, .inl ⟨rfl, rfl⟩⟩, h, fun _ _ h => h⟩
  · obtain ⟨v', w', hr, h2, h3, _, h5⟩ := run_append_own_at (P := Tryz.prog) (w := w2) wr.heap.size 26 26 3 i0 (.int .i64 0) 1 8 Tryz.underlying26 hi0 hz0 hz1 hz2 rfl (by decide) (.slice none 0 0) 0 [] ⟨rfl, .inl ⟨rfl, rfl⟩⟩ ⟨A2, O2, none⟩ en ec (l.map iv1) (by simp [hl]) (fun j u hu => by
      have hj : j < l.length := by
        rcases Nat.lt_or_ge j l.length with h | h
        · exact h
        · rw [List.getElem?_eq_none (by simpa using h)] at hu; cases hu
      have hx := hN2 j (by rw [← hl]; exact hj)
      rw [List.getElem?_map, List.getElem?_eq_getElem hj] at hu
      injection hu with hu
      rw [← hu]
      rw [lgI_get hj] at hx
      by_cases hj0 : j = 0
      · subst hj0; simpa [Addr.add, iv1] using hx
      · simpa [Addr.add, iv1, hj0] using hx) (fun u hu => by simp [iv1] at hu; obtain ⟨a, _, rfl⟩ := hu; rfl) (by unfold maxLen; omega) (by omega) h.size
    exact ⟨v', w', hr, by simpa using h2, h.grown h3 (by have := h.size; omega) (fun r e => by cases e), fun a v hv => h3.cell hv (by intro e; cases e)⟩
set_option maxRecDepth 100000 in
theorem app_one {wr w2 : World} {v2 : Value} {en G o : Nat} {l : List Nat} (he : en ≤ 1000) (h1 : Below wr.heap.size wr w2) (hG : w2.cell? ⟨G, 0, none⟩ = some (.int .i64 (o : Int))) (ho2 : w2.ownsRow wr.heap.size 3 1 v2 en (l.map iv1)) :
    ∃ v' w', (Builtin.append_ #[26, 26] 26 #[v2, .slice (some ⟨G, 0, none⟩) 1 1]).run Tryz.prog w2 = .ok v' w' ∧ (∃ sa sc, v' = .slice sa (en + 1) sc ∧ IntSl w' sa (en + 1) (lgI (l ++ [o]))) ∧ Below wr.heap.size wr w' := by
  obtain ⟨i0, hi0, hz0, hz1, hz2⟩ := info_parts info3'
  obtain ⟨v', w', hr, h2, h3, _, h5⟩ := run_append_own_at (P := Tryz.prog) (w := w2) wr.heap.size 26 26 3 i0 (.int .i64 0) 1 8 Tryz.underlying26 hi0 hz0 hz1 hz2 rfl (by decide) v2 en (l.map iv1) ho2 ⟨G, 0, none⟩ 1 1 [.int .i64 (o : Int)] rfl (fun j u hu => by
    cases j with
    | zero => simp at hu; subst hu; simpa [Addr.add] using hG
    | succ j => simp at hu) (by intro u hu; simp at hu; subst hu; rfl) (by unfold maxLen; omega) (by omega) h1.size
  have h6 : w'.ownsRow wr.heap.size 3 1 v' (en + 1) ((l ++ [o]).map iv1) := by rw [List.map_append]; exact h2
  obtain ⟨sa, sc, rfl, hsl, _⟩ := dayNew h6
  exact ⟨_, w', hr, ⟨sa, sc, rfl, hsl⟩, h1.grown h3 (by have := h1.size; omega) (fun r e => own_ge ho2 r e)⟩

section
variable {f : Int} {ln lo : Nat} {N : Nat → N2} {U : Nat → O3}
/-- those of a list that run, in its order -/
noncomputable def runsL (f : Int) (lo : Nat) (N : Nat → N2) (U : Nat → O3) (l : List Nat) : List Nat := ((grd f lo N U l).2.filter (·.2)).map Prod.fst
theorem runsL_ok {l : List Nat} {i : Nat} (ho : OkP f lo N U (grd f lo N U l).1 i (U i).c) : runsL f lo N U (l ++ [i]) = runsL f lo N U l ++ [i] := by
  unfold runsL; rw [grd_ok ho]; simp
theorem runsL_no {l : List Nat} {i : Nat} (ho : ¬ OkP f lo N U (grd f lo N U l).1 i (U i).c) : runsL f lo N U (l ++ [i]) = runsL f lo N U l := by
  unfold runsL; rw [grd_no ho]; simp
theorem runsL_mem (j : Nat) (l : List Nat) : l.Nodup → (j ∈ runsL f lo N U l ↔ getB (grd f lo N U l).2 j = true) := by
  refine snoc_ind (P := fun l => l.Nodup → (j ∈ runsL f lo N U l ↔ getB (grd f lo N U l).2 j = true)) ?_ ?_ l
  · intro _; simp [runsL, grd, getB]
  · intro l i ih hn
    have hnl : l.Nodup := (List.nodup_append.1 hn).1
    have hil : i ∉ l := fun h => (List.nodup_append.1 hn).2.2 i h i (by simp) rfl
    have hik : i ∉ (grd f lo N U l).2.map Prod.fst := by rw [grd_fst]; exact hil
    have ih := ih hnl
    by_cases ho : OkP f lo N U (grd f lo N U l).1 i (U i).c
    · rw [runsL_ok ho, grd_ok ho, getB_snoc hik]
      by_cases e : j = i
      · subst e; simp
      · rw [if_neg e, ← ih]; simp [e]
    · rw [runsL_no ho, grd_no ho, getB_snoc hik]
      by_cases e : j = i
      · subst e; rw [if_pos rfl, ih, getB_none hik]
      · rw [if_neg e, ih]
theorem runsL_sub {l : List Nat} {y : Nat} (h : y ∈ runsL f lo N U l) : y ∈ l := by
  unfold runsL at h
  obtain ⟨p, hp, rfl⟩ := List.mem_map.1 h
  have h2 : p.1 ∈ (grd f lo N U l).2.map Prod.fst := List.mem_map.2 ⟨p, (List.mem_filter.1 hp).1, rfl⟩
  rwa [grd_fst] at h2
theorem runsL_len (l : List Nat) : (runsL f lo N U l).length ≤ l.length := by
  unfold runsL
  rw [List.length_map]
  have h1 := List.length_filter_le (fun p : Nat × Bool => p.2) (grd f lo N U l).2
  have h2 : ((grd f lo N U l).2.map Prod.fst).length = l.length := by rw [grd_fst]
  rw [List.length_map] at h2
  omega
theorem runsL_fit (HT : TreeP f ln lo N U) {l : List Nat} {i : Nat} (hn : (l ++ [i]).Nodup) (hl : ∀ y ∈ l, y < lo) (hi : i < lo) :
    FitP f ln lo N U (runB U fun j => decide (j ∈ runsL f lo N U l ++ [i])) ↔ OkP f lo N U (grd f lo N U l).1 i (U i).c := by
  have hnl : l.Nodup := (List.nodup_append.1 hn).1
  have hil : i ∉ l := fun h => (List.nodup_append.1 hn).2.2 i h i (by simp) rfl
  have hik : i ∉ (grd f lo N U l).2.map Prod.fst := by rw [grd_fst]; exact hil
  obtain ⟨g1, g2⟩ := grd_inv (f := f) (ln := ln) HT l hnl hl
  have h0 : (grd f lo N U l).1 i = 0 := by rw [g1 i]; unfold runB; rw [getB_none hik]; rfl
  have hc := (tree_o HT hi).2.1
  have he : ∀ j, put (grd f lo N U l).1 i (U i).c j = runB U (fun j => decide (j ∈ runsL f lo N U l ++ [i])) j := fun j => by
    by_cases e : j = i
    · subst e; rw [put_same, h0]; unfold runB; simp
    · rw [put_other e, g1 j]
      have := runsL_mem (f := f) (lo := lo) (N := N) (U := U) j l hnl
      unfold runB
      cases hb : getB (grd f lo N U l).2 j with
      | true => rw [hb] at this; simp [this.2 rfl]
      | false =>
        have hn : ¬ j ∈ runsL f lo N U l := fun h => by have h2 := this.1 h; rw [hb] at h2; cases h2
        simp [e, hn]
  rw [okP_iff HT g2 hi]
  constructor
  · intro h; exact ⟨by rw [h0]; omega, fit_congr (fun j _ => (he j).symm) h⟩
  · rintro ⟨_, h⟩; exact fit_congr (fun j _ => he j) h
end
end Go.Kn

namespace Go.Kn
open Go Go.Proofs Go.RowKit

set_option maxRecDepth 100000 in
set_option maxHeartbeats 4000000 in
theorem rturns_w (f : Int) (na oa : Option Addr) (ln cn lo co days : Nat) (N : Nat → N2) (U : Nat → O3) (w : World) (hdy : days ≤ 10) (HR : Hid (TreeS f ln lo N U)) (H : Hid (Tr7 w na oa ln lo N U)) :
    Calls Tryz.prog 45 #[.agg #[.int .i64 f, .slice na ln cn, .slice oa lo co], .int .i64 (days : Int)] w fun e w' => (∃ oo cc E, e = .returned (.slice oo days cc) ∧ PlSl w' oo days E ∧ TurE f lo N U days w.heap.size E) ∧ Below w.heap.size w w' := by
  obtain ⟨i0, hi0, hz0, hz1, hz2⟩ := info_parts info26
  obtain ⟨i3, hi3, hy0, hy1, hy2⟩ := info_parts info3'
  have q1 := HR.out.l6
  have q2 := HR.out.lo2
  have BX := Lib.hid (fun (w1 : World) (hb : Below (w.alloc (.cells #[.int .i64 f, .slice na ln cn, .slice oa lo co] 25)).heap.size (w.alloc (.cells #[.int .i64 f, .slice na ln cn, .slice oa lo co] 25)) w1) => box7 hb)
  obtain ⟨W0, hW0⟩ : ∃ W0, W0 = w.alloc (.cells #[.int .i64 f, .slice na ln cn, .slice oa lo co] 25) := ⟨_, rfl⟩
  have hA : Below w.heap.size w W0 := by rw [hW0]; exact (Below.refl _ _).alloc (Nat.le_refl _) _
  rw [← hW0] at BX
  have HTR : Hid (∀ w2, Below W0.heap.size W0 w2 → Tr7 w2 na oa ln lo N U) := Lib.hid fun w2 h => H.out.below (hA.trans (h.mono hA.size))
  have HA := Lib.hid hA
  clear hA
  go_enter Tryz.func45, Tryz.ntmps45
  go_wp2
  rw [← hW0]
  clear hW0
  go_loopw [5, 6] (fun v ii wr => ∃ (d : Nat) (E : Nat → Dy), d ≤ days ∧ ii = .int .i64 (d : Int) ∧ OutSl wr W0.heap.size v d E ∧ TurE f lo N U d W0.heap.size E ∧ Below W0.heap.size W0 wr) (fun _ ii _ => days - (Go.RowKit.intOf ii).toNat)
  case atStart => exact ⟨0, fun _ => ⟨none, 0, 0, fun _ => 0⟩, Nat.zero_le _, rfl, ⟨⟨rfl, .inl ⟨rfl, rfl⟩⟩, fun x hx => by omega, fun x hx => by omega⟩, ⟨fun x hx => by omega, fun x hx => by omega, fun x hx => by omega⟩, Below.refl _ _⟩
  case round =>
    obtain ⟨d, E, hd, rfl, hout, htu, hbr⟩ := hrel
    obtain ⟨oo, cc, rfl, hpl⟩ := hout.plan
    have HOUT := Lib.hid hout
    have HPL := Lib.hid hpl
    have HTU := Lib.hid htu
    have HBR := Lib.hid hbr
    obtain ⟨w9, hw9⟩ : ∃ w9, w9 = wr := ⟨_, rfl⟩
    subst hw9
    obtain ⟨x1, x2, x3, x4⟩ := BX.out _ hbr
    clear hout htu hbr hpl
    by_cases hlt : d < days
    case neg =>
      obtain rfl : d = days := by omega
      go_wp2
      go_ret
      refine ⟨⟨_, _, E, rfl, HPL.out, ⟨HTU.out.n, HTU.out.s, fun x hx h0 b o e => ?_⟩⟩, HA.out.trans (HBR.out.mono HA.out.size)⟩
      have := HTU.out.far x hx h0 b o e
      have := HA.out.size
      omega
    case pos =>
    have n1 : (0 : Int) ≤ (d : Int) := by omega
    have n2 : (d : Int) < (days : Int) := by omega
    have HOR := Lib.hid (order_w f na oa oo ln cn lo co d cc N U E (ranF f lo N U d) w9 (by omega) (by omega) (Lib.hid fun x hx => by rw [HTU.out.n x hx]; have := dayL_len (f := f) (lo := lo) (N := N) (U := U) (r := ranF f lo N U x); unfold turnD; omega) (Lib.hid fun i hi => turE_days HTU.out i d (Nat.le_refl _)) HPL (Lib.hid (HTR.out _ HBR.out)))
    have HBA : Hid (∀ w2, Below w9.heap.size w9 w2 → Below W0.heap.size W0 w2) := Lib.hid fun w2 h => HBR.out.trans (h.mono HBR.out.size)
    go_wp2_with (go_at_call 95; refine HOR.out.mono ?_; rintro e w5 ⟨⟨v8, rfl, how8⟩, hv5⟩; obtain ⟨sa, sc, rfl, hsl, hge⟩ := dayNew how8; have HSL := Lib.hid hsl; have HV5 := Lib.hid hv5; clear how8 hsl hge hv5 x1 x2 x3 x4)
    obtain ⟨l, hl⟩ : ∃ l, ordL U (ranF f lo N U d) lo = l := ⟨_, rfl⟩
    have HLT : Hid (∀ y ∈ l, y < lo) := Lib.hid fun y hy => ordL_lt (by rw [hl]; exact hy)
    have HDN : Hid l.Nodup := Lib.hid (by rw [← hl]; exact ordL_nd)
    have hl8 : l.length ≤ 8 := by rw [← hl]; have := selL_len (befI U (ranF f lo N U d)) lo (List.range lo); unfold ordL; omega
    have HLL := Lib.hid hl
    rw [hl] at HSL ⊢
    obtain ⟨m, hm⟩ : ∃ m, l.length = m := ⟨_, rfl⟩
    rw [hm] at HSL hl8 ⊢
    have HM := Lib.hid hm
    have HB5 := Lib.hid (HBA.out _ HV5.out)
    clear hl hm
    go_loopw [8, 9] (fun v ii wr => ∃ (k q : Nat) (sb : Option Addr) (sd : Nat), k ≤ m ∧ ii = .int .i64 (k : Int) ∧ v = .slice sb q sd ∧ (runsL f lo N U (l.take k)).length = q ∧ IntSl wr sb q (lgI (runsL f lo N U (l.take k))) ∧ Below w5.heap.size w5 wr) (fun _ ii _ => m - (Go.RowKit.intOf ii).toNat)
    case atStart => exact ⟨0, 0, none, 0, Nat.zero_le _, rfl, rfl, by simp [runsL, grd], .inl rfl, Below.refl _ _⟩
    case round =>
      obtain ⟨k, q, sb, sd, hk, rfl, rfl, hq, hsb, hbr⟩ := hrel
      have HQ := Lib.hid hq
      have HSB := Lib.hid hsb
      have HB6 := Lib.hid hbr
      have hq8 : q ≤ 8 := by
        have h1 := runsL_len (f := f) (lo := lo) (N := N) (U := U) (l.take k)
        have h2 := List.length_take_le k l
        omega
      have HBX : Hid (∀ w2, Below wr.heap.size wr w2 → Below W0.heap.size W0 w2) := Lib.hid fun w2 h => HBA.out _ (HV5.out.trans ((HB6.out.trans (h.mono HB6.out.size)).mono HV5.out.size))
      clear hq hsb hbr
      by_cases hlt2 : k < m
      case pos =>
        have hkl : k < l.length := by have := HM.out; omega
        obtain ⟨i, hi⟩ : ∃ i, l[k] = i := ⟨_, rfl⟩
        have hil : i < lo := HLT.out i (by rw [← hi]; exact List.getElem_mem _)
        have HTK : Hid (l.take (k + 1) = l.take k ++ [i]) := Lib.hid (by rw [List.take_add_one, List.getElem?_eq_getElem hkl, hi]; rfl)
        have HFI := Lib.hid (runsL_fit (f := f) (ln := ln) (N := N) (U := U) HR.out.w (l := l.take k) (i := i) (by rw [← HTK.out]; exact List.Nodup.sublist (List.take_sublist _ _) HDN.out) (fun y hy => HLT.out y (List.mem_of_mem_take hy)) hil)
        obtain ⟨A, O, rfl, hA5, hN5⟩ := HSL.out.resolve_left (by omega)
        have y1 : wr.cell? ⟨A, O + k, none⟩ = some (.int .i64 (i : Int)) := by
          rw [HB6.out.cell (p := ⟨A, O + k, none⟩) hA5, hN5 k hlt2]
          simp [hkl, hi]
        obtain ⟨R, hR⟩ : ∃ R, runsL f lo N U (l.take k) = R := ⟨_, rfl⟩
        have HRR := Lib.hid hR
        rw [hR] at HQ HSB HFI
        have HRL : Hid (∀ y ∈ R ++ [i], y < lo) := Lib.hid fun y hy => by
          rcases List.mem_append.1 hy with h | h
          · exact HLT.out y (List.mem_of_mem_take (runsL_sub (by rw [hR]; exact h)))
          · simp at h; omega
        have n3 : (0 : Int) ≤ (k : Int) := by omega
        have n4 : (k : Int) < (m : Int) := by omega
        have HA1 : Hid (∀ w2, Below wr.heap.size wr w2 → ∃ v' w', (Builtin.append_ #[26, 26] 26 #[.slice none 0 0, .slice sb q sd]).run Tryz.prog w2 = .ok v' w' ∧ w'.ownsRow wr.heap.size 3 1 v' q (R.map iv1) ∧ Below wr.heap.size wr w' ∧ ∀ a v, w2.cell? a = some v → w'.cell? a = some v) := Lib.hid fun w2 h => app_nil HQ.out (by omega) (HSB.out.below h) h
        have HA2 : Hid (∀ w2 v2 (G : Nat), Below wr.heap.size wr w2 → w2.cell? ⟨G, 0, none⟩ = some (.int .i64 (i : Int)) → w2.ownsRow wr.heap.size 3 1 v2 q (R.map iv1) → ∃ v' w', (Builtin.append_ #[26, 26] 26 #[v2, .slice (some ⟨G, 0, none⟩) 1 1]).run Tryz.prog w2 = .ok v' w' ∧ (∃ sa sc, v' = .slice sa (q + 1) sc ∧ IntSl w' sa (q + 1) (lgI (R ++ [i]))) ∧ Below wr.heap.size wr w') := Lib.hid fun w2 v2 G h1 hG ho2 => app_one (by omega) h1 hG ho2
        have HCE : Hid (∀ w2, Below wr.heap.size wr w2 → w2.cell? ⟨w.heap.size, 0, none⟩ = some (.int .i64 f) ∧ w2.cell? ⟨w.heap.size, 1, none⟩ = some (.slice na ln cn) ∧ w2.cell? ⟨w.heap.size, 2, none⟩ = some (.slice oa lo co)) := Lib.hid fun w2 h => by
          obtain ⟨y1, y2, y3, _⟩ := BX.out _ (HBX.out _ h)
          exact ⟨y1, y2, y3⟩
        clear hi hR hA5 hN5 hkl
        go_wp2
        go_region_law ((first
          | (refine step_app_of rfl (.const (.slice none 0 0)) (.tmp 27) 26 rfl rfl rfl (HA1.out _ (by first | exact below_drew (Below.refl _ _) | exact (below_drew (Below.refl _ _)).alloc (Nat.le_refl _) _ | exact below_drew ((Below.refl _ _).alloc (Nat.le_refl _) _))) ?_; rintro v6 w6 ⟨ho6, hb6, hc6⟩)
          | (refine step_app_of rfl (.tmp 28) (.tmp 33) 26 rfl rfl rfl (HA2.out _ v6 _ (by first | exact hb6 | exact hb6.alloc hb6.size _) (by first | exact al_top rfl _ _ | exact al_top (by simp) _ _ | exact hc6 _ _ (al_top rfl _ _)) (by first | exact ho6 | exact ho6.alloc _)) ?_; rintro v7 w7 ⟨⟨s7, c7, rfl, hi7⟩, hb7⟩)))
        all_goals
          have HB7 := Lib.hid hb7
          have HI7 := Lib.hid hi7
          have HCX : Hid (∀ w2, Below w7.heap.size w7 w2 → w2.cell? ⟨w.heap.size, 0, none⟩ = some (.int .i64 f) ∧ w2.cell? ⟨w.heap.size, 1, none⟩ = some (.slice na ln cn) ∧ w2.cell? ⟨w.heap.size, 2, none⟩ = some (.slice oa lo co)) := Lib.hid fun w2 h => HCE.out _ (HB7.out.trans (h.mono HB7.out.size))
          have HTX : Hid (∀ w2, Below w7.heap.size w7 w2 → Hid (Tr7 w2 na oa ln lo N U)) := Lib.hid fun w2 h => Lib.hid (HTR.out _ (HBX.out _ (HB7.out.trans (h.mono HB7.out.size))))
          clear hb7 hi7 y1
          have HRN : Hid (∀ w2, Below w7.heap.size w7 w2 → Calls Tryz.prog 48 #[.agg #[.int .i64 f, .slice na ln cn, .slice oa lo co], .slice s7 (q + 1) c7] w2 fun e w' => (∃ g cap, e = .returned (.slice (some ⟨g, 0, none⟩) lo cap) ∧ IntOwn w' w2.heap.size g lo (runB U fun j => decide (j ∈ R ++ [i]))) ∧ Below w2.heap.size w2 w') := Lib.hid fun w2 h =>
            run48_w f na oa s7 ln cn lo co (q + 1) c7 (R ++ [i]) N U w2 (by omega) (by rw [List.length_append, HQ.out]; rfl) (by omega) HRL.out (HTX.out _ h) (Lib.hid (HI7.out.below h))
          obtain ⟨rb, hrb, hnx⟩ : ∃ rb : Bool, (rb = true ↔ FitP f ln lo N U (runB U fun j => decide (j ∈ R ++ [i]))) ∧ runsL f lo N U (l.take (k + 1)) = if rb then R ++ [i] else R := by
            by_cases hok : OkP f lo N U (grd f lo N U (l.take k)).1 i (U i).c
            · exact ⟨true, ⟨fun _ => HFI.out.2 hok, fun _ => rfl⟩, by rw [HTK.out, runsL_ok hok, HRR.out]; rfl⟩
            · exact ⟨false, ⟨fun h => (by cases h), fun h => (hok (HFI.out.1 h)).elim⟩, by rw [HTK.out, runsL_no hok, HRR.out]; rfl⟩
          have HFT : Hid (∀ (g cap : Nat) w2, Below w7.heap.size w7 w2 → IntOwn w2 w7.heap.size g lo (runB U fun j => decide (j ∈ R ++ [i])) → Calls Tryz.prog 19 #[.agg #[.int .i64 f, .slice na ln cn, .slice oa lo co], .slice (some ⟨g, 0, none⟩) lo cap] w2 fun e w' => e = .returned (.bool rb) ∧ Below w2.heap.size w2 w') := Lib.hid fun g cap w2 h ho =>
            fit19_w f na oa ln cn lo co g cap w7.heap.size _ rb N U w2 (Lib.hid HR.out.w) hrb (HTX.out _ h) ho
          have HNX := Lib.hid hnx
          have hb0 : Below w7.heap.size w7 w7.drew := below_drew (Below.refl _ _)
          clear hrb hnx
          obtain ⟨x1, x2, x3⟩ := HCX.out w7 (Below.refl _ _)
          cases rb with
          | true =>
            go_wp2
            go_region_law ((first
              | (go_simp; go_at_call 48; refine (HRN.out _ hb0).mono ?_; rintro e w10 ⟨⟨g, cap, rfl, ho⟩, hv⟩; have hb10 : Below w7.heap.size w7 w10 := hb0.trans hv; have HOW := Lib.hid ho; clear x1 x2 x3 ho hv; obtain ⟨x1, x2, x3⟩ := HCX.out w10 hb10)
              | (go_simp; go_at_call 19; refine (HFT.out g cap _ hb10 HOW.out).mono ?_; rintro e w11 ⟨rfl, hv⟩; have HB11 := Lib.hid (hb10.trans (hv.mono hb10.size)); clear x1 x2 x3 hv)))
            all_goals
              go_wp2
              go_roundw
              case rel => exact ⟨k + 1, q + 1, s7, c7, by omega, by go_num, rfl, by rw [HNX.out]; simp [HQ.out], by rw [HNX.out]; exact HI7.out.below HB11.out, HB6.out.trans ((HB7.out.trans (HB11.out.mono HB7.out.size)).mono HB6.out.size)⟩
              case measure => simp [Go.RowKit.intOf]; omega
          | false =>
            go_wp2
            go_region_law ((first
              | (go_simp; go_at_call 48; refine (HRN.out _ hb0).mono ?_; rintro e w10 ⟨⟨g, cap, rfl, ho⟩, hv⟩; have hb10 : Below w7.heap.size w7 w10 := hb0.trans hv; have HOW := Lib.hid ho; clear x1 x2 x3 ho hv; obtain ⟨x1, x2, x3⟩ := HCX.out w10 hb10)
              | (go_simp; go_at_call 19; refine (HFT.out g cap _ hb10 HOW.out).mono ?_; rintro e w11 ⟨rfl, hv⟩; have HB11 := Lib.hid (hb10.trans (hv.mono hb10.size)); clear x1 x2 x3 hv)))
            all_goals
              go_wp2
              go_roundw
              case rel => exact ⟨k + 1, q, sb, sd, by omega, by go_num, rfl, by rw [HNX.out]; exact HQ.out, by rw [HNX.out]; exact HSB.out.below (HB7.out.trans (HB11.out.mono HB7.out.size)), HB6.out.trans ((HB7.out.trans (HB11.out.mono HB7.out.size)).mono HB6.out.size)⟩
              case measure => simp [Go.RowKit.intOf]; omega
      case neg =>
        obtain rfl : k = m := by omega
        have HTA : Hid (l.take k = l) := Lib.hid (by rw [← HM.out]; exact List.take_length)
        rw [HTA.out] at HQ HSB
        obtain ⟨R, hR⟩ : ∃ R, runsL f lo N U l = R := ⟨_, rfl⟩
        have HMR : Hid (∀ j : Nat, decide (j ∈ R) = getB (grd f lo N U l).2 j) := Lib.hid fun j => by
          rw [Bool.eq_iff_iff, decide_eq_true_eq, ← hR]
          exact runsL_mem j l HDN.out
        rw [hR] at HQ HSB
        have HDL : Hid (dayL f lo N U (ranF f lo N U d) = (List.range lo).filter fun j => decide (j ∈ R)) := Lib.hid (by
          unfold dayL; rw [HLL.out]; congr 1; funext j; exact (HMR.out j).symm)
        obtain ⟨w8, hw8⟩ : ∃ w8, w8 = wr := ⟨_, rfl⟩
        subst hw8
        have HHA : Hid (∀ (j : Nat) w2, Below w8.heap.size w8 w2 → Calls Tryz.prog 36 #[.slice sb q sd, .int .i64 (j : Int)] w2 fun e w' => e = .returned (.bool (decide (j ∈ R))) ∧ Below w2.heap.size w2 w') := Lib.hid fun j w2 h => by
          have h1 := has_w sb q sd (lgI R) (j : Int) w2 (by omega) (Lib.hid (HSB.out.below h))
          rw [show hasB (lgI R) (j : Int) q = decide (j ∈ R) by rw [← HQ.out]; exact hasB_lgI] at h1
          exact h1
        clear hR
        go_wp2
        go_loopw [11, 12] (fun v ii wq => ∃ j p : Nat, j ≤ lo ∧ ii = .int .i64 (j : Int) ∧ ((List.range j).filter fun i => decide (i ∈ R)).length = p ∧ wq.ownsRow w8.heap.size 3 1 v p (((List.range j).filter fun i => decide (i ∈ R)).map iv1) ∧ Below w8.heap.size w8 wq) (fun _ ii _ => lo - (Go.RowKit.intOf ii).toNat)
        case atStart => exact ⟨0, 0, Nat.zero_le _, rfl, rfl, ⟨rfl, .inl ⟨rfl, rfl⟩⟩, Below.refl _ _⟩
        case round =>
          obtain ⟨j, p, hj, rfl, hp, hown, hbq⟩ := hrel
          have HOW := Lib.hid hown
          have HBQ := Lib.hid hbq
          have HPP := Lib.hid hp
          have hp8 : p ≤ 8 := by
            have := List.length_filter_le (fun i => decide (i ∈ R)) (List.range j)
            simp at this
            omega
          have hfl : (List.range (j + 1)).filter (fun i => decide (i ∈ R)) = (List.range j).filter (fun i => decide (i ∈ R)) ++ (if decide (j ∈ R) then [j] else []) := by
            rw [List.range_succ, List.filter_append]
            congr 1
            cases hd : decide (j ∈ R) <;> simp [hd]
          have HFL := Lib.hid hfl
          obtain ⟨x1, x2, x3, x4⟩ := BX.out _ (HBX.out _ hbq)
          clear hp hown hbq hfl
          by_cases hlt3 : j < lo
          case pos =>
            have n5 : (0 : Int) ≤ (j : Int) := by omega
            have n6 : (j : Int) < (lo : Int) := by omega
            have HH := Lib.hid (HHA.out j _ HBQ.out)
            cases hB : decide (j ∈ R) with
            | true =>
              rw [hB] at HFL HH
              go_wp2_with (first
                | (go_at_call 36; refine HH.out.mono ?_; rintro e w12 ⟨rfl, hv⟩; have HV12 := Lib.hid hv; clear hv x1 x2 x3 x4; have HO12 := Lib.hid (owns_below HOW.out HV12.out); have HB12 := Lib.hid (HBQ.out.trans (HV12.out.mono HBQ.out.size)))
                | (at_builtin; refine wpList_append_own_at _ rfl (.tmp 51) (.tmp 53) 26 rfl w8.heap.size 3 i3 (.int .i64 0) 1 8 Tryz.underlying26 hi3 hy0 hy1 hy2 rfl (by decide) _ p _ rfl (HO12.out.alloc _) ⟨_, 0, none⟩ 1 1 [.int .i64 (j : Int)] rfl rfl (lies_any (by first | exact al_top rfl _ _ | exact al_top (by simp) _ _)) (by intro u hu; simp at hu; subst hu; rfl) (by unfold maxLen; omega) (by omega) (by have := HB12.out.size; simp; omega) ?_; intro v7 w7 hown7 hgrow7 _ hloc7))
              go_roundw
              case rel => exact ⟨j + 1, p + 1, by omega, by go_num, by rw [HFL.out, List.length_append, HPP.out]; rfl, by rw [HFL.out, List.map_append]; exact hown7, (HB12.out.alloc HB12.out.size _).grown hgrow7 (by have := HB12.out.size; simp; omega) (fun r e => own_ge HO12.out r e)⟩
              case measure => simp [Go.RowKit.intOf]; omega
            | false =>
              rw [hB] at HFL HH
              go_wp2_with (go_at_call 36; refine HH.out.mono ?_; rintro e w12 ⟨rfl, hv⟩; have HV12 := Lib.hid hv; clear hv x1 x2 x3 x4; have HO12 := Lib.hid (owns_below HOW.out HV12.out); have HB12 := Lib.hid (HBQ.out.trans (HV12.out.mono HBQ.out.size)))
              go_roundw
              case rel => exact ⟨j + 1, p, by omega, by go_num, by rw [HFL.out]; simp [HPP.out], by rw [HFL.out]; simpa using HO12.out, HB12.out⟩
              case measure => simp [Go.RowKit.intOf]; omega
          case neg =>
            obtain rfl : j = lo := by omega
            obtain ⟨sn, cn2, rfl, hsl, hge⟩ := dayNew HOW.out
            have HSL2 := Lib.hid hsl
            have HGE := Lib.hid hge
            have hDL := HDL.out
            have hdn : p = (turnD f j N U d).length := by unfold turnD; rw [hDL]; exact HPP.out.symm
            have hds : (fun i => (((((List.range j).filter fun i => decide (i ∈ R)).getD i 0 : Nat)) : Int)) = lgI (turnD f j N U d) := by unfold turnD; rw [hDL]; rfl
            rw [hds] at HSL2
            have HDN2 := Lib.hid hdn
            have HBZ := Lib.hid ((HV5.out.trans (HB6.out.mono HV5.out.size)).trans (HBQ.out.mono (by have := HV5.out.size; have := HB6.out.size; omega)))
            have HOUT2 := Lib.hid (HOUT.out.below HBZ.out)
            have z9 := HBR.out.size
            have zz := HBZ.out.size
            have z8 : w9.heap.size ≤ w8.heap.size := by have := HV5.out.size; have := HB6.out.size; omega
            have HAL : Hid (Below wr.heap.size wr (wr.alloc (.cells #[.slice sn p cn2] 26))) := Lib.hid ((Below.refl _ _).alloc (Nat.le_refl _) _)
            clear hsl hge hDL hdn hds
            go_wp2_with (at_builtin; refine wpList_append_own_at _ rfl (.tmp 55) (.tmp 57) 59 rfl W0.heap.size 26 i0 (.slice none 0 0) 1 24 Tryz.underlying59 hi0 hz0 hz1 hz2 rfl (by decide) _ d _ rfl (HOUT2.out.own.alloc _) ⟨_, 0, none⟩ 1 1 [.slice sn p cn2] rfl rfl (lies_any (by first | exact al_top rfl _ _ | exact al_top (by simp) _ _)) (by intro u hu; simp at hu; subst hu; rfl) (by unfold maxLen; omega) (by omega) (by simp; omega) ?_; intro v7 w7 hown7 hgrow7 _ hloc7)
            go_roundw
            case rel =>
              refine ⟨d + 1, cons1 E d ⟨sn, p, cn2, lgI (turnD f j N U d)⟩, by omega, by go_num, (HOUT2.out.below HAL.out).push hgrow7 hown7 hloc7 (HSL2.out.below HAL.out) (fun h0 b o e => own_lt HOUT.out.own (by have := HGE.out b o e; omega)), HTU.out.push HDN2.out rfl (fun h0 b o e => by have := HGE.out b o e; omega), ?_⟩
              have h1 : Below W0.heap.size W0 wr := HBR.out.trans (HBZ.out.mono HBR.out.size)
              exact (h1.alloc h1.size _).grown hgrow7 (by have := h1.size; simp; omega) (fun r e => by have := own_ge HOUT2.out.own r e; omega)
            case measure => simp [Go.RowKit.intOf]; omega
end Go.Kn

namespace Go.Kn
open Go Go.Proofs Go.RowKit

set_option maxRecDepth 100000 in
set_option maxHeartbeats 2000000 in
theorem turns_b1 (f : Int) (na oa : Option Addr) (ln cn lo co : Nat) (N : Nat → N2) (U : Nat → O3) (dy : Int) (w : World) (hls : ln ≤ 1000000) (hlt : lo ≤ 1000000) (H : Hid (Tr7 w na oa ln lo N U)) (HR : Hid (¬ TreeS f ln lo N U)) :
    Calls Tryz.prog 42 #[.agg #[.int .i64 f, .slice na ln cn, .slice oa lo co], .int .i64 dy] w fun e w' => e = .returned (.tuple #[.slice none 0 0, .int .i64 2]) ∧ Below w.heap.size w w' := by
  have BX := Lib.hid (fun (w1 : World) (hb : Below (w.alloc (.cells #[.int .i64 f, .slice na ln cn, .slice oa lo co] 25)).heap.size (w.alloc (.cells #[.int .i64 f, .slice na ln cn, .slice oa lo co] 25)) w1) => box7 hb)
  have HN : Hid (∀ w1, Below (w.alloc (.cells #[.int .i64 f, .slice na ln cn, .slice oa lo co] 25)).heap.size (w.alloc (.cells #[.int .i64 f, .slice na ln cn, .slice oa lo co] 25)) w1 → Hid (Tr7 w1 na oa ln lo N U)) := Lib.hid fun w1 h => Lib.hid (H.out.below (below_al h))
  have hb : Below (w.alloc (.cells #[.int .i64 f, .slice na ln cn, .slice oa lo co] 25)).heap.size (w.alloc (.cells #[.int .i64 f, .slice na ln cn, .slice oa lo co] 25)) (w.alloc (.cells #[.int .i64 f, .slice na ln cn, .slice oa lo co] 25)) := Below.refl _ _
  obtain ⟨x1, x2, x3, x4⟩ := BX.out _ hb
  clear H
  go_enter Tryz.func42, Tryz.ntmps42
  go_wp2_with (first
    | (go_at_call 62; refine (isTree_w f na oa ln cn lo co N U _ hls hlt (HN.out _ hb)).mono ?_; rintro e wl ⟨⟨rb, rfl, hrb⟩, hv⟩; obtain rfl : rb = false := (by cases rb <;> first | rfl | exact (HR.out (hrb.1 rfl)).elim); clear hrb; replace hb := hb.trans (hv.mono hb.size); clear x1 x2 x3 x4; obtain ⟨x1, x2, x3, x4⟩ := BX.out _ hb))
  refine bodyPost_ret (v := .tuple #[.slice none 0 0, .int .i64 2]) (by simp [results, Tryz.results42, go_sem]) rfl ⟨rfl, below_al hb⟩

set_option maxRecDepth 100000 in
set_option maxHeartbeats 2000000 in
theorem turns_b2 (f : Int) (na oa : Option Addr) (ln cn lo co : Nat) (N : Nat → N2) (U : Nat → O3) (dy : Int) (w : World) (hls : ln ≤ 1000000) (hlt : lo ≤ 1000000) (H : Hid (Tr7 w na oa ln lo N U)) (HR : Hid (TreeS f ln lo N U)) (HFR : Hid (fromB 0 10 dy = false)) :
    Calls Tryz.prog 42 #[.agg #[.int .i64 f, .slice na ln cn, .slice oa lo co], .int .i64 dy] w fun e w' => e = .returned (.tuple #[.slice none 0 0, .int .i64 2]) ∧ Below w.heap.size w w' := by
  have BX := Lib.hid (fun (w1 : World) (hb : Below (w.alloc (.cells #[.int .i64 f, .slice na ln cn, .slice oa lo co] 25)).heap.size (w.alloc (.cells #[.int .i64 f, .slice na ln cn, .slice oa lo co] 25)) w1) => box7 hb)
  have HN : Hid (∀ w1, Below (w.alloc (.cells #[.int .i64 f, .slice na ln cn, .slice oa lo co] 25)).heap.size (w.alloc (.cells #[.int .i64 f, .slice na ln cn, .slice oa lo co] 25)) w1 → Hid (Tr7 w1 na oa ln lo N U)) := Lib.hid fun w1 h => Lib.hid (H.out.below (below_al h))
  have hb : Below (w.alloc (.cells #[.int .i64 f, .slice na ln cn, .slice oa lo co] 25)).heap.size (w.alloc (.cells #[.int .i64 f, .slice na ln cn, .slice oa lo co] 25)) (w.alloc (.cells #[.int .i64 f, .slice na ln cn, .slice oa lo co] 25)) := Below.refl _ _
  obtain ⟨x1, x2, x3, x4⟩ := BX.out _ hb
  clear H
  go_enter Tryz.func42, Tryz.ntmps42
  go_wp2_with (first
    | (go_at_call 62; refine (isTree_w f na oa ln cn lo co N U _ hls hlt (HN.out _ hb)).mono ?_; rintro e wl ⟨⟨rb, rfl, hrb⟩, hv⟩; obtain rfl : rb = true := hrb.2 HR.out; clear hrb; replace hb := hb.trans (hv.mono hb.size); clear x1 x2 x3 x4; obtain ⟨x1, x2, x3, x4⟩ := BX.out _ hb)
    | (go_at_call 91; refine (isFrom_w _ _ _ _).mono ?_; rw [HFR.out]; rintro e w5 ⟨rfl, rfl⟩))
  refine bodyPost_ret (v := .tuple #[.slice none 0 0, .int .i64 2]) (by simp [results, Tryz.results42, go_sem]) rfl ⟨rfl, below_al hb⟩

set_option maxRecDepth 100000 in
set_option maxHeartbeats 2000000 in
theorem druns_b1 (f : Int) (na oa pa : Option Addr) (ln cn lo co lp cp : Nat) (N : Nat → N2) (U : Nat → O3) (D : Nat → Dy) (dy : Int) (w : World) (hls : ln ≤ 1000000) (hlt : lo ≤ 1000000) (H : Hid (Tr7 w na oa ln lo N U)) (HP : Hid (PlSl w pa lp D)) (HN10 : Hid (∀ d, d < lp → (D d).n ≤ 10)) (hlp : lp ≤ 12) (HR : Hid (¬ TreeS f ln lo N U))  :
    Calls Tryz.prog 43 #[.agg #[.int .i64 f, .slice na ln cn, .slice oa lo co], .slice pa lp cp] w fun e w' => e = .returned (.tuple #[.bool false, .int .i64 2]) ∧ Below w.heap.size w w' := by
  have BX := Lib.hid (fun (w1 : World) (hb : Below (w.alloc (.cells #[.int .i64 f, .slice na ln cn, .slice oa lo co] 25)).heap.size (w.alloc (.cells #[.int .i64 f, .slice na ln cn, .slice oa lo co] 25)) w1) => box7 hb)
  have HN : Hid (∀ w1, Below (w.alloc (.cells #[.int .i64 f, .slice na ln cn, .slice oa lo co] 25)).heap.size (w.alloc (.cells #[.int .i64 f, .slice na ln cn, .slice oa lo co] 25)) w1 → Hid (Tr7 w1 na oa ln lo N U)) := Lib.hid fun w1 h => Lib.hid (H.out.below (below_al h))
  have hb : Below (w.alloc (.cells #[.int .i64 f, .slice na ln cn, .slice oa lo co] 25)).heap.size (w.alloc (.cells #[.int .i64 f, .slice na ln cn, .slice oa lo co] 25)) (w.alloc (.cells #[.int .i64 f, .slice na ln cn, .slice oa lo co] 25)) := Below.refl _ _
  obtain ⟨x1, x2, x3, x4⟩ := BX.out _ hb
  have HPP : Hid (∀ w1, Below (w.alloc (.cells #[.int .i64 f, .slice na ln cn, .slice oa lo co] 25)).heap.size (w.alloc (.cells #[.int .i64 f, .slice na ln cn, .slice oa lo co] 25)) w1 → Hid (PlSl w1 pa lp D)) := Lib.hid fun w1 h => Lib.hid (HP.out.below (below_al h))
  clear H HP
  go_enter Tryz.func43, Tryz.ntmps43
  go_wp2_with (first
    | (go_at_call 62; refine (isTree_w f na oa ln cn lo co N U _ hls hlt (HN.out _ hb)).mono ?_; rintro e wl ⟨⟨rb, rfl, hrb⟩, hv⟩; obtain rfl : rb = false := (by cases rb <;> first | rfl | exact (HR.out (hrb.1 rfl)).elim); clear hrb; replace hb := hb.trans (hv.mono hb.size); clear x1 x2 x3 x4; obtain ⟨x1, x2, x3, x4⟩ := BX.out _ hb))
  refine bodyPost_ret (v := .tuple #[.bool false, .int .i64 2]) (by simp [results, Tryz.results43, go_sem]) rfl ⟨rfl, below_al hb⟩

set_option maxRecDepth 100000 in
set_option maxHeartbeats 2000000 in
theorem druns_b2 (f : Int) (na oa pa : Option Addr) (ln cn lo co lp cp : Nat) (N : Nat → N2) (U : Nat → O3) (D : Nat → Dy) (dy : Int) (w : World) (hls : ln ≤ 1000000) (hlt : lo ≤ 1000000) (H : Hid (Tr7 w na oa ln lo N U)) (HP : Hid (PlSl w pa lp D)) (HN10 : Hid (∀ d, d < lp → (D d).n ≤ 10)) (hlp : lp ≤ 12) (HR : Hid (TreeS f ln lo N U)) (HPB : Hid ((decide (lp ≤ 10) && allN (fun d => dayB lo (D d).s (D d).n) lp) = false))  :
    Calls Tryz.prog 43 #[.agg #[.int .i64 f, .slice na ln cn, .slice oa lo co], .slice pa lp cp] w fun e w' => e = .returned (.tuple #[.bool false, .int .i64 2]) ∧ Below w.heap.size w w' := by
  have BX := Lib.hid (fun (w1 : World) (hb : Below (w.alloc (.cells #[.int .i64 f, .slice na ln cn, .slice oa lo co] 25)).heap.size (w.alloc (.cells #[.int .i64 f, .slice na ln cn, .slice oa lo co] 25)) w1) => box7 hb)
  have HN : Hid (∀ w1, Below (w.alloc (.cells #[.int .i64 f, .slice na ln cn, .slice oa lo co] 25)).heap.size (w.alloc (.cells #[.int .i64 f, .slice na ln cn, .slice oa lo co] 25)) w1 → Hid (Tr7 w1 na oa ln lo N U)) := Lib.hid fun w1 h => Lib.hid (H.out.below (below_al h))
  have hb : Below (w.alloc (.cells #[.int .i64 f, .slice na ln cn, .slice oa lo co] 25)).heap.size (w.alloc (.cells #[.int .i64 f, .slice na ln cn, .slice oa lo co] 25)) (w.alloc (.cells #[.int .i64 f, .slice na ln cn, .slice oa lo co] 25)) := Below.refl _ _
  obtain ⟨x1, x2, x3, x4⟩ := BX.out _ hb
  have HPP : Hid (∀ w1, Below (w.alloc (.cells #[.int .i64 f, .slice na ln cn, .slice oa lo co] 25)).heap.size (w.alloc (.cells #[.int .i64 f, .slice na ln cn, .slice oa lo co] 25)) w1 → Hid (PlSl w1 pa lp D)) := Lib.hid fun w1 h => Lib.hid (HP.out.below (below_al h))
  clear H HP
  go_enter Tryz.func43, Tryz.ntmps43
  go_wp2_with (first
    | (go_at_call 62; refine (isTree_w f na oa ln cn lo co N U _ hls hlt (HN.out _ hb)).mono ?_; rintro e wl ⟨⟨rb, rfl, hrb⟩, hv⟩; obtain rfl : rb = true := hrb.2 HR.out; clear hrb; replace hb := hb.trans (hv.mono hb.size); clear x1 x2 x3 x4; obtain ⟨x1, x2, x3, x4⟩ := BX.out _ hb)
    | (go_at_call 93; refine (isPlan_w f na oa pa ln cn lo co lp cp D _ hlt (by omega) (Lib.hid fun d hd => by have := HN10.out d hd; unfold maxLen; omega) (HPP.out _ hb)).mono ?_; rw [HPB.out]; rintro e wl ⟨rfl, hv⟩; replace hb := hb.trans (hv.mono hb.size); clear x1 x2 x3 x4; obtain ⟨x1, x2, x3, x4⟩ := BX.out _ hb))
  refine bodyPost_ret (v := .tuple #[.bool false, .int .i64 2]) (by simp [results, Tryz.results43, go_sem]) rfl ⟨rfl, below_al hb⟩
end Go.Kn

namespace Go.Kn
open Go Go.Proofs Go.RowKit

set_option maxRecDepth 100000 in
set_option maxHeartbeats 4000000 in
theorem lawtu_a (f : Int) (na oa pa : Option Addr) (ln cn lo co lp cp : Nat) (N : Nat → N2) (U : Nat → O3) (D : Nat → Dy) (dy : Int) (w : World) (hls : ln ≤ maxLen) (hlt : lo ≤ maxLen) (H : Hid (Tr7 w na oa ln lo N U)) (K : Hid KnownOk) (HP : Hid (PlSl w pa lp D)) (hq : ¬ (ln ≤ 8 ∧ lo ≤ 10)) :
    Calls Tryz.prog 9 #[.agg #[.int .i64 f, .slice na ln cn, .slice oa lo co], .int .i64 dy, .slice pa lp cp] w
      fun e w' => e = .returned (.bool true) ∧ Below w.heap.size w w' := by
  have hsh : decide (ln ≤ 8 ∧ lo ≤ 10) = false := decide_eq_false hq
  have BX := Lib.hid (fun (w1 : World) (hb : Below (w.alloc (.cells #[.int .i64 f, .slice na ln cn, .slice oa lo co] 25)).heap.size (w.alloc (.cells #[.int .i64 f, .slice na ln cn, .slice oa lo co] 25)) w1) => box7 hb)
  have HN : Hid (∀ w1, Below (w.alloc (.cells #[.int .i64 f, .slice na ln cn, .slice oa lo co] 25)).heap.size (w.alloc (.cells #[.int .i64 f, .slice na ln cn, .slice oa lo co] 25)) w1 → Hid (Tr7 w1 na oa ln lo N U)) := Lib.hid fun w1 h => Lib.hid (H.out.below (below_al h))
  have hb : Below (w.alloc (.cells #[.int .i64 f, .slice na ln cn, .slice oa lo co] 25)).heap.size (w.alloc (.cells #[.int .i64 f, .slice na ln cn, .slice oa lo co] 25)) (w.alloc (.cells #[.int .i64 f, .slice na ln cn, .slice oa lo co] 25)) := Below.refl _ _
  obtain ⟨x1, x2, x3, x4⟩ := BX.out _ hb
  have HPP : Hid (∀ w1, Below (w.alloc (.cells #[.int .i64 f, .slice na ln cn, .slice oa lo co] 25)).heap.size (w.alloc (.cells #[.int .i64 f, .slice na ln cn, .slice oa lo co] 25)) w1 → Hid (PlSl w1 pa lp D)) := Lib.hid fun w1 h => Lib.hid (HP.out.below (below_al h))
  clear H HP
  go_enter Tryz.func9, Tryz.ntmps9
  go_wp2_with (first
    | (go_at_call 13; refine (short_w _ _ _ _ _ _ _ _ hls hlt).mono ?_; rw [hsh]; rintro e wl ⟨rfl, hv⟩; replace hb := hb.trans (hv.mono hb.size); clear x1 x2 x3 x4; obtain ⟨x1, x2, x3, x4⟩ := BX.out _ hb)
    | (go_at_call 14; refine (K.out _).mono ?_; rintro e wl ⟨rfl, hv⟩; replace hb := hb.trans (hv.mono hb.size); clear x1 x2 x3 x4; obtain ⟨x1, x2, x3, x4⟩ := BX.out _ hb))
  go_ret
  exact ⟨rfl, below_al hb⟩

set_option maxRecDepth 100000 in
set_option maxHeartbeats 4000000 in
theorem lawtu_b (f : Int) (na oa pa : Option Addr) (ln cn lo co lp cp : Nat) (N : Nat → N2) (U : Nat → O3) (D : Nat → Dy) (dy : Int) (w : World) (hls : ln ≤ 1000000) (hlt : lo ≤ 1000000) (H : Hid (Tr7 w na oa ln lo N U)) (K : Hid KnownOk) (HP : Hid (PlSl w pa lp D)) (hq : ln ≤ 8 ∧ lo ≤ 10) (hlm : lp ≤ maxLen) (HSL : Hid ((decide (lp ≤ 12) && allN (fun d => decide ((D d).n ≤ 10)) lp) = false)) :
    Calls Tryz.prog 9 #[.agg #[.int .i64 f, .slice na ln cn, .slice oa lo co], .int .i64 dy, .slice pa lp cp] w
      fun e w' => e = .returned (.bool true) ∧ Below w.heap.size w w' := by
  have hsh : decide (ln ≤ 8 ∧ lo ≤ 10) = true := decide_eq_true hq
  have BX := Lib.hid (fun (w1 : World) (hb : Below (w.alloc (.cells #[.int .i64 f, .slice na ln cn, .slice oa lo co] 25)).heap.size (w.alloc (.cells #[.int .i64 f, .slice na ln cn, .slice oa lo co] 25)) w1) => box7 hb)
  have HN : Hid (∀ w1, Below (w.alloc (.cells #[.int .i64 f, .slice na ln cn, .slice oa lo co] 25)).heap.size (w.alloc (.cells #[.int .i64 f, .slice na ln cn, .slice oa lo co] 25)) w1 → Hid (Tr7 w1 na oa ln lo N U)) := Lib.hid fun w1 h => Lib.hid (H.out.below (below_al h))
  have hb : Below (w.alloc (.cells #[.int .i64 f, .slice na ln cn, .slice oa lo co] 25)).heap.size (w.alloc (.cells #[.int .i64 f, .slice na ln cn, .slice oa lo co] 25)) (w.alloc (.cells #[.int .i64 f, .slice na ln cn, .slice oa lo co] 25)) := Below.refl _ _
  obtain ⟨x1, x2, x3, x4⟩ := BX.out _ hb
  have HPP : Hid (∀ w1, Below (w.alloc (.cells #[.int .i64 f, .slice na ln cn, .slice oa lo co] 25)).heap.size (w.alloc (.cells #[.int .i64 f, .slice na ln cn, .slice oa lo co] 25)) w1 → Hid (PlSl w1 pa lp D)) := Lib.hid fun w1 h => Lib.hid (HP.out.below (below_al h))
  clear H HP
  go_enter Tryz.func9, Tryz.ntmps9
  go_wp2_with (first
    | (go_at_call 13; refine (short_w _ _ _ _ _ _ _ _ (by unfold maxLen; omega) (by unfold maxLen; omega)).mono ?_; rw [hsh]; rintro e wl ⟨rfl, hv⟩; replace hb := hb.trans (hv.mono hb.size); clear x1 x2 x3 x4; obtain ⟨x1, x2, x3, x4⟩ := BX.out _ hb)
    | (go_at_call 41; refine (slim_w pa lp cp D _ hlm (HPP.out _ hb)).mono ?_; rw [HSL.out]; rintro e wl ⟨rfl, rfl⟩)
    | (go_at_call 14; refine (K.out _).mono ?_; rintro e wl ⟨rfl, hv⟩; replace hb := hb.trans (hv.mono hb.size); clear x1 x2 x3 x4; obtain ⟨x1, x2, x3, x4⟩ := BX.out _ hb))
  go_ret
  exact ⟨rfl, below_al hb⟩

set_option maxRecDepth 100000 in
set_option maxHeartbeats 4000000 in
theorem lawtu_c (f : Int) (na oa pa : Option Addr) (ln cn lo co lp cp : Nat) (N : Nat → N2) (U : Nat → O3) (D : Nat → Dy) (dy : Int) (w : World) (hls : ln ≤ 1000000) (hlt : lo ≤ 1000000) (H : Hid (Tr7 w na oa ln lo N U)) (K : Hid KnownOk) (HP : Hid (PlSl w pa lp D)) (HN10 : Hid (∀ d, d < lp → (D d).n ≤ 10)) (hlp : lp ≤ 12) (hq : ln ≤ 8 ∧ lo ≤ 10) (HR : Hid (¬ TreeS f ln lo N U))  :
    Calls Tryz.prog 9 #[.agg #[.int .i64 f, .slice na ln cn, .slice oa lo co], .int .i64 dy, .slice pa lp cp] w
      fun e w' => e = .returned (.bool true) ∧ Below w.heap.size w w' := by
  have hsh : decide (ln ≤ 8 ∧ lo ≤ 10) = true := decide_eq_true hq
  have HSL : Hid ((decide (lp ≤ 12) && allN (fun d => decide ((D d).n ≤ 10)) lp) = true) := Lib.hid (by rw [decide_eq_true hlp, Bool.true_and, allN_iff]; exact fun i hi => decide_eq_true (HN10.out i hi))
  have BX := Lib.hid (fun (w1 : World) (hb : Below (w.alloc (.cells #[.int .i64 f, .slice na ln cn, .slice oa lo co] 25)).heap.size (w.alloc (.cells #[.int .i64 f, .slice na ln cn, .slice oa lo co] 25)) w1) => box7 hb)
  have HN : Hid (∀ w1, Below (w.alloc (.cells #[.int .i64 f, .slice na ln cn, .slice oa lo co] 25)).heap.size (w.alloc (.cells #[.int .i64 f, .slice na ln cn, .slice oa lo co] 25)) w1 → Hid (Tr7 w1 na oa ln lo N U)) := Lib.hid fun w1 h => Lib.hid (H.out.below (below_al h))
  have hb : Below (w.alloc (.cells #[.int .i64 f, .slice na ln cn, .slice oa lo co] 25)).heap.size (w.alloc (.cells #[.int .i64 f, .slice na ln cn, .slice oa lo co] 25)) (w.alloc (.cells #[.int .i64 f, .slice na ln cn, .slice oa lo co] 25)) := Below.refl _ _
  obtain ⟨x1, x2, x3, x4⟩ := BX.out _ hb
  have HPP : Hid (∀ w1, Below (w.alloc (.cells #[.int .i64 f, .slice na ln cn, .slice oa lo co] 25)).heap.size (w.alloc (.cells #[.int .i64 f, .slice na ln cn, .slice oa lo co] 25)) w1 → Hid (PlSl w1 pa lp D)) := Lib.hid fun w1 h => Lib.hid (HP.out.below (below_al h))
  clear H HP
  go_enter Tryz.func9, Tryz.ntmps9
  go_wp2_with (first
    | (go_at_call 13; refine (short_w _ _ _ _ _ _ _ _ (by unfold maxLen; omega) (by unfold maxLen; omega)).mono ?_; rw [hsh]; rintro e wl ⟨rfl, hv⟩; replace hb := hb.trans (hv.mono hb.size); clear x1 x2 x3 x4; obtain ⟨x1, x2, x3, x4⟩ := BX.out _ hb)
    | (go_at_call 41; refine (slim_w pa lp cp D _ (by unfold maxLen; omega) (HPP.out _ hb)).mono ?_; rw [HSL.out]; rintro e wl ⟨rfl, rfl⟩)
    | (go_at_call 42; refine (turns_b1 f na oa ln cn lo co N U dy _ hls hlt (HN.out _ hb) HR).mono ?_; rintro e wl ⟨rfl, hv⟩; replace hb := hb.trans (hv.mono hb.size); clear x1 x2 x3 x4; obtain ⟨x1, x2, x3, x4⟩ := BX.out _ hb)
    | (go_at_call 43; refine (druns_b1 f na oa pa ln cn lo co lp cp N U D 0 _ hls hlt (HN.out _ hb) (HPP.out _ hb) HN10 hlp HR).mono ?_; rintro e wl ⟨rfl, hv⟩; replace hb := hb.trans (hv.mono hb.size); clear x1 x2 x3 x4; obtain ⟨x1, x2, x3, x4⟩ := BX.out _ hb)
    | (go_at_call 17; refine (tree_w _ _ _ _ _ _ _ N U _ hls hlt (HN.out _ hb)).mono ?_; rintro e wl ⟨⟨rb, rfl, hrb⟩, hv⟩; obtain rfl : rb = false := (by cases rb <;> first | rfl | exact (HR.out (hrb.1 rfl)).elim); clear hrb; replace hb := hb.trans (hv.mono hb.size); clear x1 x2 x3 x4; obtain ⟨x1, x2, x3, x4⟩ := BX.out _ hb)
    | (go_at_call 14; refine (K.out _).mono ?_; rintro e wl ⟨rfl, hv⟩; replace hb := hb.trans (hv.mono hb.size); clear x1 x2 x3 x4; obtain ⟨x1, x2, x3, x4⟩ := BX.out _ hb))
  go_ret
  exact ⟨rfl, below_al hb⟩

set_option maxRecDepth 100000 in
set_option maxHeartbeats 4000000 in
theorem lawtu_d1 (f : Int) (na oa pa : Option Addr) (ln cn lo co lp cp : Nat) (N : Nat → N2) (U : Nat → O3) (D : Nat → Dy) (dy : Int) (w : World) (hls : ln ≤ 1000000) (hlt : lo ≤ 1000000) (H : Hid (Tr7 w na oa ln lo N U)) (K : Hid KnownOk) (HP : Hid (PlSl w pa lp D)) (HN10 : Hid (∀ d, d < lp → (D d).n ≤ 10)) (hlp : lp ≤ 12) (hq : ln ≤ 8 ∧ lo ≤ 10) (HR : Hid (TreeS f ln lo N U)) (HPB : Hid ((decide (lp ≤ 10) && allN (fun d => dayB lo (D d).s (D d).n) lp) = false)) (h1 : dy < 0)  :
    Calls Tryz.prog 9 #[.agg #[.int .i64 f, .slice na ln cn, .slice oa lo co], .int .i64 dy, .slice pa lp cp] w
      fun e w' => e = .returned (.bool true) ∧ Below w.heap.size w w' := by
  have hsh : decide (ln ≤ 8 ∧ lo ≤ 10) = true := decide_eq_true hq
  have HSL : Hid ((decide (lp ≤ 12) && allN (fun d => decide ((D d).n ≤ 10)) lp) = true) := Lib.hid (by rw [decide_eq_true hlp, Bool.true_and, allN_iff]; exact fun i hi => decide_eq_true (HN10.out i hi))
  have HFR : Hid (fromB 0 10 dy = false) := Lib.hid (by simp only [fromB, decide_eq_false_iff_not]; omega)
  have BX := Lib.hid (fun (w1 : World) (hb : Below (w.alloc (.cells #[.int .i64 f, .slice na ln cn, .slice oa lo co] 25)).heap.size (w.alloc (.cells #[.int .i64 f, .slice na ln cn, .slice oa lo co] 25)) w1) => box7 hb)
  have HN : Hid (∀ w1, Below (w.alloc (.cells #[.int .i64 f, .slice na ln cn, .slice oa lo co] 25)).heap.size (w.alloc (.cells #[.int .i64 f, .slice na ln cn, .slice oa lo co] 25)) w1 → Hid (Tr7 w1 na oa ln lo N U)) := Lib.hid fun w1 h => Lib.hid (H.out.below (below_al h))
  have hb : Below (w.alloc (.cells #[.int .i64 f, .slice na ln cn, .slice oa lo co] 25)).heap.size (w.alloc (.cells #[.int .i64 f, .slice na ln cn, .slice oa lo co] 25)) (w.alloc (.cells #[.int .i64 f, .slice na ln cn, .slice oa lo co] 25)) := Below.refl _ _
  obtain ⟨x1, x2, x3, x4⟩ := BX.out _ hb
  have HPP : Hid (∀ w1, Below (w.alloc (.cells #[.int .i64 f, .slice na ln cn, .slice oa lo co] 25)).heap.size (w.alloc (.cells #[.int .i64 f, .slice na ln cn, .slice oa lo co] 25)) w1 → Hid (PlSl w1 pa lp D)) := Lib.hid fun w1 h => Lib.hid (HP.out.below (below_al h))
  clear H HP
  go_enter Tryz.func9, Tryz.ntmps9
  go_wp2_with (first
    | (go_at_call 13; refine (short_w _ _ _ _ _ _ _ _ (by unfold maxLen; omega) (by unfold maxLen; omega)).mono ?_; rw [hsh]; rintro e wl ⟨rfl, hv⟩; replace hb := hb.trans (hv.mono hb.size); clear x1 x2 x3 x4; obtain ⟨x1, x2, x3, x4⟩ := BX.out _ hb)
    | (go_at_call 41; refine (slim_w pa lp cp D _ (by unfold maxLen; omega) (HPP.out _ hb)).mono ?_; rw [HSL.out]; rintro e wl ⟨rfl, rfl⟩)
    | (go_at_call 42; refine (turns_b2 f na oa ln cn lo co N U dy _ hls hlt (HN.out _ hb) HR HFR).mono ?_; rintro e wl ⟨rfl, hv⟩; replace hb := hb.trans (hv.mono hb.size); clear x1 x2 x3 x4; obtain ⟨x1, x2, x3, x4⟩ := BX.out _ hb)
    | (go_at_call 43; refine (druns_b2 f na oa pa ln cn lo co lp cp N U D 0 _ hls hlt (HN.out _ hb) (HPP.out _ hb) HN10 hlp HR HPB).mono ?_; rintro e wl ⟨rfl, hv⟩; replace hb := hb.trans (hv.mono hb.size); clear x1 x2 x3 x4; obtain ⟨x1, x2, x3, x4⟩ := BX.out _ hb)
    | (go_at_call 17; refine (tree_w _ _ _ _ _ _ _ N U _ hls hlt (HN.out _ hb)).mono ?_; rintro e wl ⟨⟨rb, rfl, hrb⟩, hv⟩; obtain rfl : rb = true := hrb.2 HR.out; clear hrb; replace hb := hb.trans (hv.mono hb.size); clear x1 x2 x3 x4; obtain ⟨x1, x2, x3, x4⟩ := BX.out _ hb)
    | (go_at_call 46; refine (rplan_w f na oa pa ln cn lo co lp cp D _ hlt (by omega) (Lib.hid fun d hd => by have := HN10.out d hd; omega) (HPP.out _ hb)).mono ?_; rw [HPB.out]; rintro e wl ⟨rfl, hv⟩; replace hb := hb.trans (hv.mono hb.size); clear x1 x2 x3 x4; obtain ⟨x1, x2, x3, x4⟩ := BX.out _ hb)
    | (go_at_call 14; refine (K.out _).mono ?_; rintro e wl ⟨rfl, hv⟩; replace hb := hb.trans (hv.mono hb.size); clear x1 x2 x3 x4; obtain ⟨x1, x2, x3, x4⟩ := BX.out _ hb))
  go_ret
  exact ⟨rfl, below_al hb⟩

set_option maxRecDepth 100000 in
set_option maxHeartbeats 4000000 in
theorem lawtu_e1t (f : Int) (na oa pa : Option Addr) (ln cn lo co lp cp : Nat) (N : Nat → N2) (U : Nat → O3) (D : Nat → Dy) (dy : Int) (w : World) (hls : ln ≤ 1000000) (hlt : lo ≤ 1000000) (H : Hid (Tr7 w na oa ln lo N U)) (K : Hid KnownOk) (HP : Hid (PlSl w pa lp D)) (HN10 : Hid (∀ d, d < lp → (D d).n ≤ 10)) (hlp : lp ≤ 12) (hq : ln ≤ 8 ∧ lo ≤ 10) (HR : Hid (TreeS f ln lo N U)) (HPB : Hid ((decide (lp ≤ 10) && allN (fun d => dayB lo (D d).s (D d).n) lp) = true)) (h1 : dy < 0) (HRB : Hid (allN (fun d => runD f ln lo N U (D d)) lp = true))  :
    Calls Tryz.prog 9 #[.agg #[.int .i64 f, .slice na ln cn, .slice oa lo co], .int .i64 dy, .slice pa lp cp] w
      fun e w' => e = .returned (.bool true) ∧ Below w.heap.size w w' := by
  have hsh : decide (ln ≤ 8 ∧ lo ≤ 10) = true := decide_eq_true hq
  have HSL : Hid ((decide (lp ≤ 12) && allN (fun d => decide ((D d).n ≤ 10)) lp) = true) := Lib.hid (by rw [decide_eq_true hlp, Bool.true_and, allN_iff]; exact fun i hi => decide_eq_true (HN10.out i hi))
  have HFR : Hid (fromB 0 10 dy = false) := Lib.hid (by simp only [fromB, decide_eq_false_iff_not]; omega)
  have HDY : Hid (∀ d, d < lp → dayB lo (D d).s (D d).n = true) := Lib.hid fun d hd => by
    have h := HPB.out
    simp only [Bool.and_eq_true] at h
    exact (allN_iff lp).1 h.2 d hd
  have hl10 : lp ≤ 10 := by have h := HPB.out; simp only [Bool.and_eq_true, decide_eq_true_eq] at h; exact h.1
  have HLS : Hid (∀ d, d < lp → (D d).n ≤ 1000000 ∧ LsP lo (D d).n (D d).s) := Lib.hid fun d hd => by
    have h := HPB.out
    simp only [Bool.and_eq_true] at h
    exact ⟨by have := HN10.out d hd; omega, dayB_ls ((allN_iff lp).1 h.2 d hd)⟩
  have BX := Lib.hid (fun (w1 : World) (hb : Below (w.alloc (.cells #[.int .i64 f, .slice na ln cn, .slice oa lo co] 25)).heap.size (w.alloc (.cells #[.int .i64 f, .slice na ln cn, .slice oa lo co] 25)) w1) => box7 hb)
  have HN : Hid (∀ w1, Below (w.alloc (.cells #[.int .i64 f, .slice na ln cn, .slice oa lo co] 25)).heap.size (w.alloc (.cells #[.int .i64 f, .slice na ln cn, .slice oa lo co] 25)) w1 → Hid (Tr7 w1 na oa ln lo N U)) := Lib.hid fun w1 h => Lib.hid (H.out.below (below_al h))
  have hb : Below (w.alloc (.cells #[.int .i64 f, .slice na ln cn, .slice oa lo co] 25)).heap.size (w.alloc (.cells #[.int .i64 f, .slice na ln cn, .slice oa lo co] 25)) (w.alloc (.cells #[.int .i64 f, .slice na ln cn, .slice oa lo co] 25)) := Below.refl _ _
  obtain ⟨x1, x2, x3, x4⟩ := BX.out _ hb
  have HPP : Hid (∀ w1, Below (w.alloc (.cells #[.int .i64 f, .slice na ln cn, .slice oa lo co] 25)).heap.size (w.alloc (.cells #[.int .i64 f, .slice na ln cn, .slice oa lo co] 25)) w1 → Hid (PlSl w1 pa lp D)) := Lib.hid fun w1 h => Lib.hid (HP.out.below (below_al h))
  clear H HP
  go_enter Tryz.func9, Tryz.ntmps9
  go_wp2_with (first
    | (go_at_call 13; refine (short_w _ _ _ _ _ _ _ _ (by unfold maxLen; omega) (by unfold maxLen; omega)).mono ?_; rw [hsh]; rintro e wl ⟨rfl, hv⟩; replace hb := hb.trans (hv.mono hb.size); clear x1 x2 x3 x4; obtain ⟨x1, x2, x3, x4⟩ := BX.out _ hb)
    | (go_at_call 41; refine (slim_w pa lp cp D _ (by unfold maxLen; omega) (HPP.out _ hb)).mono ?_; rw [HSL.out]; rintro e wl ⟨rfl, rfl⟩)
    | (go_at_call 42; refine (turns_b2 f na oa ln cn lo co N U dy _ hls hlt (HN.out _ hb) HR HFR).mono ?_; rintro e wl ⟨rfl, hv⟩; replace hb := hb.trans (hv.mono hb.size); clear x1 x2 x3 x4; obtain ⟨x1, x2, x3, x4⟩ := BX.out _ hb)
    | (go_at_call 43; refine (druns_w f na oa pa ln cn lo co lp cp N U D _ hl10 HR (HN.out _ hb) (HPP.out _ hb) HDY).mono ?_; rw [HRB.out]; rintro e wl ⟨rfl, hv⟩; replace hb := hb.trans (hv.mono hb.size); clear x1 x2 x3 x4; obtain ⟨x1, x2, x3, x4⟩ := BX.out _ hb)
    | (go_at_call 17; refine (tree_w _ _ _ _ _ _ _ N U _ hls hlt (HN.out _ hb)).mono ?_; rintro e wl ⟨⟨rb, rfl, hrb⟩, hv⟩; obtain rfl : rb = true := hrb.2 HR.out; clear hrb; replace hb := hb.trans (hv.mono hb.size); clear x1 x2 x3 x4; obtain ⟨x1, x2, x3, x4⟩ := BX.out _ hb)
    | (go_at_call 46; refine (rplan_w f na oa pa ln cn lo co lp cp D _ hlt (by omega) (Lib.hid fun d hd => by have := HN10.out d hd; omega) (HPP.out _ hb)).mono ?_; rw [HPB.out]; rintro e wl ⟨rfl, hv⟩; replace hb := hb.trans (hv.mono hb.size); clear x1 x2 x3 x4; obtain ⟨x1, x2, x3, x4⟩ := BX.out _ hb)
    | (go_at_call 47; refine (rruns_w f na oa pa ln cn lo co lp cp N U D _ (by omega) HLS (HPP.out _ hb) (Lib.hid HR.out.w) (HN.out _ hb)).mono ?_; rw [HRB.out]; rintro e wl ⟨rfl, hv⟩; replace hb := hb.trans (hv.mono hb.size); clear x1 x2 x3 x4; obtain ⟨x1, x2, x3, x4⟩ := BX.out _ hb)
    | (go_at_call 14; refine (K.out _).mono ?_; rintro e wl ⟨rfl, hv⟩; replace hb := hb.trans (hv.mono hb.size); clear x1 x2 x3 x4; obtain ⟨x1, x2, x3, x4⟩ := BX.out _ hb))
  go_ret
  exact ⟨rfl, below_al hb⟩

set_option maxRecDepth 100000 in
set_option maxHeartbeats 4000000 in
theorem lawtu_e1f (f : Int) (na oa pa : Option Addr) (ln cn lo co lp cp : Nat) (N : Nat → N2) (U : Nat → O3) (D : Nat → Dy) (dy : Int) (w : World) (hls : ln ≤ 1000000) (hlt : lo ≤ 1000000) (H : Hid (Tr7 w na oa ln lo N U)) (K : Hid KnownOk) (HP : Hid (PlSl w pa lp D)) (HN10 : Hid (∀ d, d < lp → (D d).n ≤ 10)) (hlp : lp ≤ 12) (hq : ln ≤ 8 ∧ lo ≤ 10) (HR : Hid (TreeS f ln lo N U)) (HPB : Hid ((decide (lp ≤ 10) && allN (fun d => dayB lo (D d).s (D d).n) lp) = true)) (h1 : dy < 0) (HRB : Hid (allN (fun d => runD f ln lo N U (D d)) lp = false))  :
    Calls Tryz.prog 9 #[.agg #[.int .i64 f, .slice na ln cn, .slice oa lo co], .int .i64 dy, .slice pa lp cp] w
      fun e w' => e = .returned (.bool true) ∧ Below w.heap.size w w' := by
  have hsh : decide (ln ≤ 8 ∧ lo ≤ 10) = true := decide_eq_true hq
  have HSL : Hid ((decide (lp ≤ 12) && allN (fun d => decide ((D d).n ≤ 10)) lp) = true) := Lib.hid (by rw [decide_eq_true hlp, Bool.true_and, allN_iff]; exact fun i hi => decide_eq_true (HN10.out i hi))
  have HFR : Hid (fromB 0 10 dy = false) := Lib.hid (by simp only [fromB, decide_eq_false_iff_not]; omega)
  have HDY : Hid (∀ d, d < lp → dayB lo (D d).s (D d).n = true) := Lib.hid fun d hd => by
    have h := HPB.out
    simp only [Bool.and_eq_true] at h
    exact (allN_iff lp).1 h.2 d hd
  have hl10 : lp ≤ 10 := by have h := HPB.out; simp only [Bool.and_eq_true, decide_eq_true_eq] at h; exact h.1
  have HLS : Hid (∀ d, d < lp → (D d).n ≤ 1000000 ∧ LsP lo (D d).n (D d).s) := Lib.hid fun d hd => by
    have h := HPB.out
    simp only [Bool.and_eq_true] at h
    exact ⟨by have := HN10.out d hd; omega, dayB_ls ((allN_iff lp).1 h.2 d hd)⟩
  have BX := Lib.hid (fun (w1 : World) (hb : Below (w.alloc (.cells #[.int .i64 f, .slice na ln cn, .slice oa lo co] 25)).heap.size (w.alloc (.cells #[.int .i64 f, .slice na ln cn, .slice oa lo co] 25)) w1) => box7 hb)
  have HN : Hid (∀ w1, Below (w.alloc (.cells #[.int .i64 f, .slice na ln cn, .slice oa lo co] 25)).heap.size (w.alloc (.cells #[.int .i64 f, .slice na ln cn, .slice oa lo co] 25)) w1 → Hid (Tr7 w1 na oa ln lo N U)) := Lib.hid fun w1 h => Lib.hid (H.out.below (below_al h))
  have hb : Below (w.alloc (.cells #[.int .i64 f, .slice na ln cn, .slice oa lo co] 25)).heap.size (w.alloc (.cells #[.int .i64 f, .slice na ln cn, .slice oa lo co] 25)) (w.alloc (.cells #[.int .i64 f, .slice na ln cn, .slice oa lo co] 25)) := Below.refl _ _
  obtain ⟨x1, x2, x3, x4⟩ := BX.out _ hb
  have HPP : Hid (∀ w1, Below (w.alloc (.cells #[.int .i64 f, .slice na ln cn, .slice oa lo co] 25)).heap.size (w.alloc (.cells #[.int .i64 f, .slice na ln cn, .slice oa lo co] 25)) w1 → Hid (PlSl w1 pa lp D)) := Lib.hid fun w1 h => Lib.hid (HP.out.below (below_al h))
  clear H HP
  go_enter Tryz.func9, Tryz.ntmps9
  go_wp2_with (first
    | (go_at_call 13; refine (short_w _ _ _ _ _ _ _ _ (by unfold maxLen; omega) (by unfold maxLen; omega)).mono ?_; rw [hsh]; rintro e wl ⟨rfl, hv⟩; replace hb := hb.trans (hv.mono hb.size); clear x1 x2 x3 x4; obtain ⟨x1, x2, x3, x4⟩ := BX.out _ hb)
    | (go_at_call 41; refine (slim_w pa lp cp D _ (by unfold maxLen; omega) (HPP.out _ hb)).mono ?_; rw [HSL.out]; rintro e wl ⟨rfl, rfl⟩)
    | (go_at_call 42; refine (turns_b2 f na oa ln cn lo co N U dy _ hls hlt (HN.out _ hb) HR HFR).mono ?_; rintro e wl ⟨rfl, hv⟩; replace hb := hb.trans (hv.mono hb.size); clear x1 x2 x3 x4; obtain ⟨x1, x2, x3, x4⟩ := BX.out _ hb)
    | (go_at_call 43; refine (druns_w f na oa pa ln cn lo co lp cp N U D _ hl10 HR (HN.out _ hb) (HPP.out _ hb) HDY).mono ?_; rw [HRB.out]; rintro e wl ⟨rfl, hv⟩; replace hb := hb.trans (hv.mono hb.size); clear x1 x2 x3 x4; obtain ⟨x1, x2, x3, x4⟩ := BX.out _ hb)
    | (go_at_call 17; refine (tree_w _ _ _ _ _ _ _ N U _ hls hlt (HN.out _ hb)).mono ?_; rintro e wl ⟨⟨rb, rfl, hrb⟩, hv⟩; obtain rfl : rb = true := hrb.2 HR.out; clear hrb; replace hb := hb.trans (hv.mono hb.size); clear x1 x2 x3 x4; obtain ⟨x1, x2, x3, x4⟩ := BX.out _ hb)
    | (go_at_call 46; refine (rplan_w f na oa pa ln cn lo co lp cp D _ hlt (by omega) (Lib.hid fun d hd => by have := HN10.out d hd; omega) (HPP.out _ hb)).mono ?_; rw [HPB.out]; rintro e wl ⟨rfl, hv⟩; replace hb := hb.trans (hv.mono hb.size); clear x1 x2 x3 x4; obtain ⟨x1, x2, x3, x4⟩ := BX.out _ hb)
    | (go_at_call 47; refine (rruns_w f na oa pa ln cn lo co lp cp N U D _ (by omega) HLS (HPP.out _ hb) (Lib.hid HR.out.w) (HN.out _ hb)).mono ?_; rw [HRB.out]; rintro e wl ⟨rfl, hv⟩; replace hb := hb.trans (hv.mono hb.size); clear x1 x2 x3 x4; obtain ⟨x1, x2, x3, x4⟩ := BX.out _ hb)
    | (go_at_call 14; refine (K.out _).mono ?_; rintro e wl ⟨rfl, hv⟩; replace hb := hb.trans (hv.mono hb.size); clear x1 x2 x3 x4; obtain ⟨x1, x2, x3, x4⟩ := BX.out _ hb))
  go_ret
  exact ⟨rfl, below_al hb⟩

set_option maxRecDepth 100000 in
set_option maxHeartbeats 4000000 in
theorem lawtu_d2 (f : Int) (na oa pa : Option Addr) (ln cn lo co lp cp : Nat) (N : Nat → N2) (U : Nat → O3) (D : Nat → Dy) (dy : Int) (w : World) (hls : ln ≤ 1000000) (hlt : lo ≤ 1000000) (H : Hid (Tr7 w na oa ln lo N U)) (K : Hid KnownOk) (HP : Hid (PlSl w pa lp D)) (HN10 : Hid (∀ d, d < lp → (D d).n ≤ 10)) (hlp : lp ≤ 12) (hq : ln ≤ 8 ∧ lo ≤ 10) (HR : Hid (TreeS f ln lo N U)) (HPB : Hid ((decide (lp ≤ 10) && allN (fun d => dayB lo (D d).s (D d).n) lp) = false)) (h0 : 0 ≤ dy) (h1 : 10 < dy)  :
    Calls Tryz.prog 9 #[.agg #[.int .i64 f, .slice na ln cn, .slice oa lo co], .int .i64 dy, .slice pa lp cp] w
      fun e w' => e = .returned (.bool true) ∧ Below w.heap.size w w' := by
  have hsh : decide (ln ≤ 8 ∧ lo ≤ 10) = true := decide_eq_true hq
  have HSL : Hid ((decide (lp ≤ 12) && allN (fun d => decide ((D d).n ≤ 10)) lp) = true) := Lib.hid (by rw [decide_eq_true hlp, Bool.true_and, allN_iff]; exact fun i hi => decide_eq_true (HN10.out i hi))
  have HFR : Hid (fromB 0 10 dy = false) := Lib.hid (by simp only [fromB, decide_eq_false_iff_not]; omega)
  have BX := Lib.hid (fun (w1 : World) (hb : Below (w.alloc (.cells #[.int .i64 f, .slice na ln cn, .slice oa lo co] 25)).heap.size (w.alloc (.cells #[.int .i64 f, .slice na ln cn, .slice oa lo co] 25)) w1) => box7 hb)
  have HN : Hid (∀ w1, Below (w.alloc (.cells #[.int .i64 f, .slice na ln cn, .slice oa lo co] 25)).heap.size (w.alloc (.cells #[.int .i64 f, .slice na ln cn, .slice oa lo co] 25)) w1 → Hid (Tr7 w1 na oa ln lo N U)) := Lib.hid fun w1 h => Lib.hid (H.out.below (below_al h))
  have hb : Below (w.alloc (.cells #[.int .i64 f, .slice na ln cn, .slice oa lo co] 25)).heap.size (w.alloc (.cells #[.int .i64 f, .slice na ln cn, .slice oa lo co] 25)) (w.alloc (.cells #[.int .i64 f, .slice na ln cn, .slice oa lo co] 25)) := Below.refl _ _
  obtain ⟨x1, x2, x3, x4⟩ := BX.out _ hb
  have HPP : Hid (∀ w1, Below (w.alloc (.cells #[.int .i64 f, .slice na ln cn, .slice oa lo co] 25)).heap.size (w.alloc (.cells #[.int .i64 f, .slice na ln cn, .slice oa lo co] 25)) w1 → Hid (PlSl w1 pa lp D)) := Lib.hid fun w1 h => Lib.hid (HP.out.below (below_al h))
  clear H HP
  go_enter Tryz.func9, Tryz.ntmps9
  go_wp2_with (first
    | (go_at_call 13; refine (short_w _ _ _ _ _ _ _ _ (by unfold maxLen; omega) (by unfold maxLen; omega)).mono ?_; rw [hsh]; rintro e wl ⟨rfl, hv⟩; replace hb := hb.trans (hv.mono hb.size); clear x1 x2 x3 x4; obtain ⟨x1, x2, x3, x4⟩ := BX.out _ hb)
    | (go_at_call 41; refine (slim_w pa lp cp D _ (by unfold maxLen; omega) (HPP.out _ hb)).mono ?_; rw [HSL.out]; rintro e wl ⟨rfl, rfl⟩)
    | (go_at_call 42; refine (turns_b2 f na oa ln cn lo co N U dy _ hls hlt (HN.out _ hb) HR HFR).mono ?_; rintro e wl ⟨rfl, hv⟩; replace hb := hb.trans (hv.mono hb.size); clear x1 x2 x3 x4; obtain ⟨x1, x2, x3, x4⟩ := BX.out _ hb)
    | (go_at_call 43; refine (druns_b2 f na oa pa ln cn lo co lp cp N U D 0 _ hls hlt (HN.out _ hb) (HPP.out _ hb) HN10 hlp HR HPB).mono ?_; rintro e wl ⟨rfl, hv⟩; replace hb := hb.trans (hv.mono hb.size); clear x1 x2 x3 x4; obtain ⟨x1, x2, x3, x4⟩ := BX.out _ hb)
    | (go_at_call 17; refine (tree_w _ _ _ _ _ _ _ N U _ hls hlt (HN.out _ hb)).mono ?_; rintro e wl ⟨⟨rb, rfl, hrb⟩, hv⟩; obtain rfl : rb = true := hrb.2 HR.out; clear hrb; replace hb := hb.trans (hv.mono hb.size); clear x1 x2 x3 x4; obtain ⟨x1, x2, x3, x4⟩ := BX.out _ hb)
    | (go_at_call 46; refine (rplan_w f na oa pa ln cn lo co lp cp D _ hlt (by omega) (Lib.hid fun d hd => by have := HN10.out d hd; omega) (HPP.out _ hb)).mono ?_; rw [HPB.out]; rintro e wl ⟨rfl, hv⟩; replace hb := hb.trans (hv.mono hb.size); clear x1 x2 x3 x4; obtain ⟨x1, x2, x3, x4⟩ := BX.out _ hb)
    | (go_at_call 14; refine (K.out _).mono ?_; rintro e wl ⟨rfl, hv⟩; replace hb := hb.trans (hv.mono hb.size); clear x1 x2 x3 x4; obtain ⟨x1, x2, x3, x4⟩ := BX.out _ hb))
  go_ret
  exact ⟨rfl, below_al hb⟩

set_option maxRecDepth 100000 in
set_option maxHeartbeats 4000000 in
theorem lawtu_e2t (f : Int) (na oa pa : Option Addr) (ln cn lo co lp cp : Nat) (N : Nat → N2) (U : Nat → O3) (D : Nat → Dy) (dy : Int) (w : World) (hls : ln ≤ 1000000) (hlt : lo ≤ 1000000) (H : Hid (Tr7 w na oa ln lo N U)) (K : Hid KnownOk) (HP : Hid (PlSl w pa lp D)) (HN10 : Hid (∀ d, d < lp → (D d).n ≤ 10)) (hlp : lp ≤ 12) (hq : ln ≤ 8 ∧ lo ≤ 10) (HR : Hid (TreeS f ln lo N U)) (HPB : Hid ((decide (lp ≤ 10) && allN (fun d => dayB lo (D d).s (D d).n) lp) = true)) (h0 : 0 ≤ dy) (h1 : 10 < dy) (HRB : Hid (allN (fun d => runD f ln lo N U (D d)) lp = true))  :
    Calls Tryz.prog 9 #[.agg #[.int .i64 f, .slice na ln cn, .slice oa lo co], .int .i64 dy, .slice pa lp cp] w
      fun e w' => e = .returned (.bool true) ∧ Below w.heap.size w w' := by
  have hsh : decide (ln ≤ 8 ∧ lo ≤ 10) = true := decide_eq_true hq
  have HSL : Hid ((decide (lp ≤ 12) && allN (fun d => decide ((D d).n ≤ 10)) lp) = true) := Lib.hid (by rw [decide_eq_true hlp, Bool.true_and, allN_iff]; exact fun i hi => decide_eq_true (HN10.out i hi))
  have HFR : Hid (fromB 0 10 dy = false) := Lib.hid (by simp only [fromB, decide_eq_false_iff_not]; omega)
  have HDY : Hid (∀ d, d < lp → dayB lo (D d).s (D d).n = true) := Lib.hid fun d hd => by
    have h := HPB.out
    simp only [Bool.and_eq_true] at h
    exact (allN_iff lp).1 h.2 d hd
  have hl10 : lp ≤ 10 := by have h := HPB.out; simp only [Bool.and_eq_true, decide_eq_true_eq] at h; exact h.1
  have HLS : Hid (∀ d, d < lp → (D d).n ≤ 1000000 ∧ LsP lo (D d).n (D d).s) := Lib.hid fun d hd => by
    have h := HPB.out
    simp only [Bool.and_eq_true] at h
    exact ⟨by have := HN10.out d hd; omega, dayB_ls ((allN_iff lp).1 h.2 d hd)⟩
  have BX := Lib.hid (fun (w1 : World) (hb : Below (w.alloc (.cells #[.int .i64 f, .slice na ln cn, .slice oa lo co] 25)).heap.size (w.alloc (.cells #[.int .i64 f, .slice na ln cn, .slice oa lo co] 25)) w1) => box7 hb)
  have HN : Hid (∀ w1, Below (w.alloc (.cells #[.int .i64 f, .slice na ln cn, .slice oa lo co] 25)).heap.size (w.alloc (.cells #[.int .i64 f, .slice na ln cn, .slice oa lo co] 25)) w1 → Hid (Tr7 w1 na oa ln lo N U)) := Lib.hid fun w1 h => Lib.hid (H.out.below (below_al h))
  have hb : Below (w.alloc (.cells #[.int .i64 f, .slice na ln cn, .slice oa lo co] 25)).heap.size (w.alloc (.cells #[.int .i64 f, .slice na ln cn, .slice oa lo co] 25)) (w.alloc (.cells #[.int .i64 f, .slice na ln cn, .slice oa lo co] 25)) := Below.refl _ _
  obtain ⟨x1, x2, x3, x4⟩ := BX.out _ hb
  have HPP : Hid (∀ w1, Below (w.alloc (.cells #[.int .i64 f, .slice na ln cn, .slice oa lo co] 25)).heap.size (w.alloc (.cells #[.int .i64 f, .slice na ln cn, .slice oa lo co] 25)) w1 → Hid (PlSl w1 pa lp D)) := Lib.hid fun w1 h => Lib.hid (HP.out.below (below_al h))
  clear H HP
  go_enter Tryz.func9, Tryz.ntmps9
  go_wp2_with (first
    | (go_at_call 13; refine (short_w _ _ _ _ _ _ _ _ (by unfold maxLen; omega) (by unfold maxLen; omega)).mono ?_; rw [hsh]; rintro e wl ⟨rfl, hv⟩; replace hb := hb.trans (hv.mono hb.size); clear x1 x2 x3 x4; obtain ⟨x1, x2, x3, x4⟩ := BX.out _ hb)
    | (go_at_call 41; refine (slim_w pa lp cp D _ (by unfold maxLen; omega) (HPP.out _ hb)).mono ?_; rw [HSL.out]; rintro e wl ⟨rfl, rfl⟩)
    | (go_at_call 42; refine (turns_b2 f na oa ln cn lo co N U dy _ hls hlt (HN.out _ hb) HR HFR).mono ?_; rintro e wl ⟨rfl, hv⟩; replace hb := hb.trans (hv.mono hb.size); clear x1 x2 x3 x4; obtain ⟨x1, x2, x3, x4⟩ := BX.out _ hb)
    | (go_at_call 43; refine (druns_w f na oa pa ln cn lo co lp cp N U D _ hl10 HR (HN.out _ hb) (HPP.out _ hb) HDY).mono ?_; rw [HRB.out]; rintro e wl ⟨rfl, hv⟩; replace hb := hb.trans (hv.mono hb.size); clear x1 x2 x3 x4; obtain ⟨x1, x2, x3, x4⟩ := BX.out _ hb)
    | (go_at_call 17; refine (tree_w _ _ _ _ _ _ _ N U _ hls hlt (HN.out _ hb)).mono ?_; rintro e wl ⟨⟨rb, rfl, hrb⟩, hv⟩; obtain rfl : rb = true := hrb.2 HR.out; clear hrb; replace hb := hb.trans (hv.mono hb.size); clear x1 x2 x3 x4; obtain ⟨x1, x2, x3, x4⟩ := BX.out _ hb)
    | (go_at_call 46; refine (rplan_w f na oa pa ln cn lo co lp cp D _ hlt (by omega) (Lib.hid fun d hd => by have := HN10.out d hd; omega) (HPP.out _ hb)).mono ?_; rw [HPB.out]; rintro e wl ⟨rfl, hv⟩; replace hb := hb.trans (hv.mono hb.size); clear x1 x2 x3 x4; obtain ⟨x1, x2, x3, x4⟩ := BX.out _ hb)
    | (go_at_call 47; refine (rruns_w f na oa pa ln cn lo co lp cp N U D _ (by omega) HLS (HPP.out _ hb) (Lib.hid HR.out.w) (HN.out _ hb)).mono ?_; rw [HRB.out]; rintro e wl ⟨rfl, hv⟩; replace hb := hb.trans (hv.mono hb.size); clear x1 x2 x3 x4; obtain ⟨x1, x2, x3, x4⟩ := BX.out _ hb)
    | (go_at_call 14; refine (K.out _).mono ?_; rintro e wl ⟨rfl, hv⟩; replace hb := hb.trans (hv.mono hb.size); clear x1 x2 x3 x4; obtain ⟨x1, x2, x3, x4⟩ := BX.out _ hb))
  go_ret
  exact ⟨rfl, below_al hb⟩

set_option maxRecDepth 100000 in
set_option maxHeartbeats 4000000 in
theorem lawtu_e2f (f : Int) (na oa pa : Option Addr) (ln cn lo co lp cp : Nat) (N : Nat → N2) (U : Nat → O3) (D : Nat → Dy) (dy : Int) (w : World) (hls : ln ≤ 1000000) (hlt : lo ≤ 1000000) (H : Hid (Tr7 w na oa ln lo N U)) (K : Hid KnownOk) (HP : Hid (PlSl w pa lp D)) (HN10 : Hid (∀ d, d < lp → (D d).n ≤ 10)) (hlp : lp ≤ 12) (hq : ln ≤ 8 ∧ lo ≤ 10) (HR : Hid (TreeS f ln lo N U)) (HPB : Hid ((decide (lp ≤ 10) && allN (fun d => dayB lo (D d).s (D d).n) lp) = true)) (h0 : 0 ≤ dy) (h1 : 10 < dy) (HRB : Hid (allN (fun d => runD f ln lo N U (D d)) lp = false))  :
    Calls Tryz.prog 9 #[.agg #[.int .i64 f, .slice na ln cn, .slice oa lo co], .int .i64 dy, .slice pa lp cp] w
      fun e w' => e = .returned (.bool true) ∧ Below w.heap.size w w' := by
  have hsh : decide (ln ≤ 8 ∧ lo ≤ 10) = true := decide_eq_true hq
  have HSL : Hid ((decide (lp ≤ 12) && allN (fun d => decide ((D d).n ≤ 10)) lp) = true) := Lib.hid (by rw [decide_eq_true hlp, Bool.true_and, allN_iff]; exact fun i hi => decide_eq_true (HN10.out i hi))
  have HFR : Hid (fromB 0 10 dy = false) := Lib.hid (by simp only [fromB, decide_eq_false_iff_not]; omega)
  have HDY : Hid (∀ d, d < lp → dayB lo (D d).s (D d).n = true) := Lib.hid fun d hd => by
    have h := HPB.out
    simp only [Bool.and_eq_true] at h
    exact (allN_iff lp).1 h.2 d hd
  have hl10 : lp ≤ 10 := by have h := HPB.out; simp only [Bool.and_eq_true, decide_eq_true_eq] at h; exact h.1
  have HLS : Hid (∀ d, d < lp → (D d).n ≤ 1000000 ∧ LsP lo (D d).n (D d).s) := Lib.hid fun d hd => by
    have h := HPB.out
    simp only [Bool.and_eq_true] at h
    exact ⟨by have := HN10.out d hd; omega, dayB_ls ((allN_iff lp).1 h.2 d hd)⟩
  have BX := Lib.hid (fun (w1 : World) (hb : Below (w.alloc (.cells #[.int .i64 f, .slice na ln cn, .slice oa lo co] 25)).heap.size (w.alloc (.cells #[.int .i64 f, .slice na ln cn, .slice oa lo co] 25)) w1) => box7 hb)
  have HN : Hid (∀ w1, Below (w.alloc (.cells #[.int .i64 f, .slice na ln cn, .slice oa lo co] 25)).heap.size (w.alloc (.cells #[.int .i64 f, .slice na ln cn, .slice oa lo co] 25)) w1 → Hid (Tr7 w1 na oa ln lo N U)) := Lib.hid fun w1 h => Lib.hid (H.out.below (below_al h))
  have hb : Below (w.alloc (.cells #[.int .i64 f, .slice na ln cn, .slice oa lo co] 25)).heap.size (w.alloc (.cells #[.int .i64 f, .slice na ln cn, .slice oa lo co] 25)) (w.alloc (.cells #[.int .i64 f, .slice na ln cn, .slice oa lo co] 25)) := Below.refl _ _
  obtain ⟨x1, x2, x3, x4⟩ := BX.out _ hb
  have HPP : Hid (∀ w1, Below (w.alloc (.cells #[.int .i64 f, .slice na ln cn, .slice oa lo co] 25)).heap.size (w.alloc (.cells #[.int .i64 f, .slice na ln cn, .slice oa lo co] 25)) w1 → Hid (PlSl w1 pa lp D)) := Lib.hid fun w1 h => Lib.hid (HP.out.below (below_al h))
  clear H HP
  go_enter Tryz.func9, Tryz.ntmps9
  go_wp2_with (first
    | (go_at_call 13; refine (short_w _ _ _ _ _ _ _ _ (by unfold maxLen; omega) (by unfold maxLen; omega)).mono ?_; rw [hsh]; rintro e wl ⟨rfl, hv⟩; replace hb := hb.trans (hv.mono hb.size); clear x1 x2 x3 x4; obtain ⟨x1, x2, x3, x4⟩ := BX.out _ hb)
    | (go_at_call 41; refine (slim_w pa lp cp D _ (by unfold maxLen; omega) (HPP.out _ hb)).mono ?_; rw [HSL.out]; rintro e wl ⟨rfl, rfl⟩)
    | (go_at_call 42; refine (turns_b2 f na oa ln cn lo co N U dy _ hls hlt (HN.out _ hb) HR HFR).mono ?_; rintro e wl ⟨rfl, hv⟩; replace hb := hb.trans (hv.mono hb.size); clear x1 x2 x3 x4; obtain ⟨x1, x2, x3, x4⟩ := BX.out _ hb)
    | (go_at_call 43; refine (druns_w f na oa pa ln cn lo co lp cp N U D _ hl10 HR (HN.out _ hb) (HPP.out _ hb) HDY).mono ?_; rw [HRB.out]; rintro e wl ⟨rfl, hv⟩; replace hb := hb.trans (hv.mono hb.size); clear x1 x2 x3 x4; obtain ⟨x1, x2, x3, x4⟩ := BX.out _ hb)
    | (go_at_call 17; refine (tree_w _ _ _ _ _ _ _ N U _ hls hlt (HN.out _ hb)).mono ?_; rintro e wl ⟨⟨rb, rfl, hrb⟩, hv⟩; obtain rfl : rb = true := hrb.2 HR.out; clear hrb; replace hb := hb.trans (hv.mono hb.size); clear x1 x2 x3 x4; obtain ⟨x1, x2, x3, x4⟩ := BX.out _ hb)
    | (go_at_call 46; refine (rplan_w f na oa pa ln cn lo co lp cp D _ hlt (by omega) (Lib.hid fun d hd => by have := HN10.out d hd; omega) (HPP.out _ hb)).mono ?_; rw [HPB.out]; rintro e wl ⟨rfl, hv⟩; replace hb := hb.trans (hv.mono hb.size); clear x1 x2 x3 x4; obtain ⟨x1, x2, x3, x4⟩ := BX.out _ hb)
    | (go_at_call 47; refine (rruns_w f na oa pa ln cn lo co lp cp N U D _ (by omega) HLS (HPP.out _ hb) (Lib.hid HR.out.w) (HN.out _ hb)).mono ?_; rw [HRB.out]; rintro e wl ⟨rfl, hv⟩; replace hb := hb.trans (hv.mono hb.size); clear x1 x2 x3 x4; obtain ⟨x1, x2, x3, x4⟩ := BX.out _ hb)
    | (go_at_call 14; refine (K.out _).mono ?_; rintro e wl ⟨rfl, hv⟩; replace hb := hb.trans (hv.mono hb.size); clear x1 x2 x3 x4; obtain ⟨x1, x2, x3, x4⟩ := BX.out _ hb))
  go_ret
  exact ⟨rfl, below_al hb⟩
end Go.Kn

namespace Go.Kn
open Go Go.Proofs Go.RowKit

set_option maxRecDepth 100000 in
set_option maxHeartbeats 4000000 in
theorem lawtu_f (f : Int) (na oa pa : Option Addr) (ln cn lo co lp cp : Nat) (N : Nat → N2) (U : Nat → O3) (D : Nat → Dy) (dy : Int) (w : World) (hls : ln ≤ 1000000) (hlt : lo ≤ 1000000) (H : Hid (Tr7 w na oa ln lo N U)) (K : Hid KnownOk) (HP : Hid (PlSl w pa lp D)) (HN10 : Hid (∀ d, d < lp → (D d).n ≤ 10)) (hlp : lp ≤ 12) (hq : ln ≤ 8 ∧ lo ≤ 10) (HR : Hid (TreeS f ln lo N U)) (HPB : Hid ((decide (lp ≤ 10) && allN (fun d => dayB lo (D d).s (D d).n) lp) = false)) (d : Nat) (hd : d ≤ 10) (hdy : dy = (d : Int))  :
    Calls Tryz.prog 9 #[.agg #[.int .i64 f, .slice na ln cn, .slice oa lo co], .int .i64 dy, .slice pa lp cp] w
      fun e w' => e = .returned (.bool true) ∧ Below w.heap.size w w' := by
  have hsh : decide (ln ≤ 8 ∧ lo ≤ 10) = true := decide_eq_true hq
  have HSL : Hid ((decide (lp ≤ 12) && allN (fun d => decide ((D d).n ≤ 10)) lp) = true) := Lib.hid (by rw [decide_eq_true hlp, Bool.true_and, allN_iff]; exact fun i hi => decide_eq_true (HN10.out i hi))
  subst hdy
  have m1 : (0 : Int) ≤ (d : Int) := by omega
  have m2 : (d : Int) ≤ 10 := by omega
  have m3 : ¬ (d : Int) < 0 := by omega
  have m4 : ¬ (10 : Int) < (d : Int) := by omega
  have BX := Lib.hid (fun (w1 : World) (hb : Below (w.alloc (.cells #[.int .i64 f, .slice na ln cn, .slice oa lo co] 25)).heap.size (w.alloc (.cells #[.int .i64 f, .slice na ln cn, .slice oa lo co] 25)) w1) => box7 hb)
  have HN : Hid (∀ w1, Below (w.alloc (.cells #[.int .i64 f, .slice na ln cn, .slice oa lo co] 25)).heap.size (w.alloc (.cells #[.int .i64 f, .slice na ln cn, .slice oa lo co] 25)) w1 → Hid (Tr7 w1 na oa ln lo N U)) := Lib.hid fun w1 h => Lib.hid (H.out.below (below_al h))
  have hb : Below (w.alloc (.cells #[.int .i64 f, .slice na ln cn, .slice oa lo co] 25)).heap.size (w.alloc (.cells #[.int .i64 f, .slice na ln cn, .slice oa lo co] 25)) (w.alloc (.cells #[.int .i64 f, .slice na ln cn, .slice oa lo co] 25)) := Below.refl _ _
  obtain ⟨x1, x2, x3, x4⟩ := BX.out _ hb
  have HPP : Hid (∀ w1, Below (w.alloc (.cells #[.int .i64 f, .slice na ln cn, .slice oa lo co] 25)).heap.size (w.alloc (.cells #[.int .i64 f, .slice na ln cn, .slice oa lo co] 25)) w1 → Hid (PlSl w1 pa lp D)) := Lib.hid fun w1 h => Lib.hid (HP.out.below (below_al h))
  clear H HP
  go_enter Tryz.func9, Tryz.ntmps9
  go_wp2_with (first
    | (go_at_call 13; refine (short_w _ _ _ _ _ _ _ _ (by unfold maxLen; omega) (by unfold maxLen; omega)).mono ?_; rw [hsh]; rintro e wl ⟨rfl, hv⟩; (try replace hbs := hbs.trans (hv.mono hbs.size)); replace hb := hb.trans (hv.mono hb.size); clear x1 x2 x3 x4; obtain ⟨x1, x2, x3, x4⟩ := BX.out _ hb)
    | (go_at_call 41; refine (slim_w pa lp cp D _ (by unfold maxLen; omega) (HPP.out _ hb)).mono ?_; rw [HSL.out]; rintro e wl ⟨rfl, rfl⟩)
    | (go_at_call 42; refine (turns_w f na oa ln cn lo co d N U _ hd HR (HN.out _ hb)).mono ?_; rintro e wp ⟨⟨oo, cc, E, rfl, hpl, htu, hcc⟩, hv⟩; (try replace hbs := hbs.trans (hv.mono hbs.size)); replace hb := hb.trans (hv.mono hb.size); clear x1 x2 x3 x4; obtain ⟨x1, x2, x3, x4⟩ := BX.out _ hb; have HPL := Lib.hid hpl; have HTU := Lib.hid htu; clear hpl htu hcc; have hbs : Below wp.heap.size wp wp := Below.refl _ _)
    | (go_at_call 43; refine (druns_b2 f na oa pa ln cn lo co lp cp N U D 0 _ hls hlt (HN.out _ hb) (HPP.out _ hb) HN10 hlp HR HPB).mono ?_; rintro e wl ⟨rfl, hv⟩; (try replace hbs := hbs.trans (hv.mono hbs.size)); replace hb := hb.trans (hv.mono hb.size); clear x1 x2 x3 x4; obtain ⟨x1, x2, x3, x4⟩ := BX.out _ hb)
    | (go_at_call 17; refine (tree_w _ _ _ _ _ _ _ N U _ hls hlt (HN.out _ hb)).mono ?_; rintro e wl ⟨⟨rb, rfl, hrb⟩, hv⟩; obtain rfl : rb = true := hrb.2 HR.out; clear hrb; (try replace hbs := hbs.trans (hv.mono hbs.size)); replace hb := hb.trans (hv.mono hb.size); clear x1 x2 x3 x4; obtain ⟨x1, x2, x3, x4⟩ := BX.out _ hb)
    | (go_at_call 45; refine (rturns_w f na oa ln cn lo co d N U _ hd HR (HN.out _ hb)).mono ?_; rintro e wq ⟨⟨oo2, cc2, E2, rfl, hpl, htu⟩, hv⟩; (try replace hbs := hbs.trans (hv.mono hbs.size)); replace hb := hb.trans (hv.mono hb.size); clear x1 x2 x3 x4; obtain ⟨x1, x2, x3, x4⟩ := BX.out _ hb; have HPL2 := Lib.hid hpl; have HTU2 := Lib.hid htu; clear hpl htu)
    | (go_at_call 44; refine (samePlans_w oo oo2 d cc cc2 E E2 _ (by omega) (Lib.hid (HPL.out.below hbs)) HPL2 (Lib.hid fun x hx => ⟨by rw [HTU.out.n x hx, HTU2.out.n x hx], by rw [HTU.out.n x hx]; have := dayL_len (f := f) (lo := lo) (N := N) (U := U) (r := ranF f lo N U x); unfold turnD; omega, by rw [HTU.out.s x hx, HTU2.out.s x hx]⟩)).mono ?_; rintro e wl ⟨rfl, hv⟩; (try replace hbs := hbs.trans (hv.mono hbs.size)); replace hb := hb.trans (hv.mono hb.size); clear x1 x2 x3 x4; obtain ⟨x1, x2, x3, x4⟩ := BX.out _ hb)
    | (go_at_call 46; refine (rplan_w f na oa pa ln cn lo co lp cp D _ hlt (by omega) (Lib.hid fun d hd => by have := HN10.out d hd; omega) (HPP.out _ hb)).mono ?_; rw [HPB.out]; rintro e wl ⟨rfl, hv⟩; (try replace hbs := hbs.trans (hv.mono hbs.size)); replace hb := hb.trans (hv.mono hb.size); clear x1 x2 x3 x4; obtain ⟨x1, x2, x3, x4⟩ := BX.out _ hb)
    | (go_at_call 14; refine (K.out _).mono ?_; rintro e wl ⟨rfl, hv⟩; (try replace hbs := hbs.trans (hv.mono hbs.size)); replace hb := hb.trans (hv.mono hb.size); clear x1 x2 x3 x4; obtain ⟨x1, x2, x3, x4⟩ := BX.out _ hb))
  go_ret
  exact ⟨rfl, below_al hb⟩

set_option maxRecDepth 100000 in
set_option maxHeartbeats 4000000 in
theorem lawtu_gt (f : Int) (na oa pa : Option Addr) (ln cn lo co lp cp : Nat) (N : Nat → N2) (U : Nat → O3) (D : Nat → Dy) (dy : Int) (w : World) (hls : ln ≤ 1000000) (hlt : lo ≤ 1000000) (H : Hid (Tr7 w na oa ln lo N U)) (K : Hid KnownOk) (HP : Hid (PlSl w pa lp D)) (HN10 : Hid (∀ d, d < lp → (D d).n ≤ 10)) (hlp : lp ≤ 12) (hq : ln ≤ 8 ∧ lo ≤ 10) (HR : Hid (TreeS f ln lo N U)) (HPB : Hid ((decide (lp ≤ 10) && allN (fun d => dayB lo (D d).s (D d).n) lp) = true)) (d : Nat) (hd : d ≤ 10) (hdy : dy = (d : Int)) (HRB : Hid (allN (fun d => runD f ln lo N U (D d)) lp = true))  :
    Calls Tryz.prog 9 #[.agg #[.int .i64 f, .slice na ln cn, .slice oa lo co], .int .i64 dy, .slice pa lp cp] w
      fun e w' => e = .returned (.bool true) ∧ Below w.heap.size w w' := by
  have hsh : decide (ln ≤ 8 ∧ lo ≤ 10) = true := decide_eq_true hq
  have HSL : Hid ((decide (lp ≤ 12) && allN (fun d => decide ((D d).n ≤ 10)) lp) = true) := Lib.hid (by rw [decide_eq_true hlp, Bool.true_and, allN_iff]; exact fun i hi => decide_eq_true (HN10.out i hi))
  subst hdy
  have m1 : (0 : Int) ≤ (d : Int) := by omega
  have m2 : (d : Int) ≤ 10 := by omega
  have m3 : ¬ (d : Int) < 0 := by omega
  have m4 : ¬ (10 : Int) < (d : Int) := by omega
  have HDY : Hid (∀ d, d < lp → dayB lo (D d).s (D d).n = true) := Lib.hid fun d hd => by
    have h := HPB.out
    simp only [Bool.and_eq_true] at h
    exact (allN_iff lp).1 h.2 d hd
  have hl10 : lp ≤ 10 := by have h := HPB.out; simp only [Bool.and_eq_true, decide_eq_true_eq] at h; exact h.1
  have HLS : Hid (∀ d, d < lp → (D d).n ≤ 1000000 ∧ LsP lo (D d).n (D d).s) := Lib.hid fun d hd => by
    have h := HPB.out
    simp only [Bool.and_eq_true] at h
    exact ⟨by have := HN10.out d hd; omega, dayB_ls ((allN_iff lp).1 h.2 d hd)⟩
  have BX := Lib.hid (fun (w1 : World) (hb : Below (w.alloc (.cells #[.int .i64 f, .slice na ln cn, .slice oa lo co] 25)).heap.size (w.alloc (.cells #[.int .i64 f, .slice na ln cn, .slice oa lo co] 25)) w1) => box7 hb)
  have HN : Hid (∀ w1, Below (w.alloc (.cells #[.int .i64 f, .slice na ln cn, .slice oa lo co] 25)).heap.size (w.alloc (.cells #[.int .i64 f, .slice na ln cn, .slice oa lo co] 25)) w1 → Hid (Tr7 w1 na oa ln lo N U)) := Lib.hid fun w1 h => Lib.hid (H.out.below (below_al h))
  have hb : Below (w.alloc (.cells #[.int .i64 f, .slice na ln cn, .slice oa lo co] 25)).heap.size (w.alloc (.cells #[.int .i64 f, .slice na ln cn, .slice oa lo co] 25)) (w.alloc (.cells #[.int .i64 f, .slice na ln cn, .slice oa lo co] 25)) := Below.refl _ _
  obtain ⟨x1, x2, x3, x4⟩ := BX.out _ hb
  have HPP : Hid (∀ w1, Below (w.alloc (.cells #[.int .i64 f, .slice na ln cn, .slice oa lo co] 25)).heap.size (w.alloc (.cells #[.int .i64 f, .slice na ln cn, .slice oa lo co] 25)) w1 → Hid (PlSl w1 pa lp D)) := Lib.hid fun w1 h => Lib.hid (HP.out.below (below_al h))
  clear H HP
  go_enter Tryz.func9, Tryz.ntmps9
  go_wp2_with (first
    | (go_at_call 13; refine (short_w _ _ _ _ _ _ _ _ (by unfold maxLen; omega) (by unfold maxLen; omega)).mono ?_; rw [hsh]; rintro e wl ⟨rfl, hv⟩; (try replace hbs := hbs.trans (hv.mono hbs.size)); replace hb := hb.trans (hv.mono hb.size); clear x1 x2 x3 x4; obtain ⟨x1, x2, x3, x4⟩ := BX.out _ hb)
    | (go_at_call 41; refine (slim_w pa lp cp D _ (by unfold maxLen; omega) (HPP.out _ hb)).mono ?_; rw [HSL.out]; rintro e wl ⟨rfl, rfl⟩)
    | (go_at_call 42; refine (turns_w f na oa ln cn lo co d N U _ hd HR (HN.out _ hb)).mono ?_; rintro e wp ⟨⟨oo, cc, E, rfl, hpl, htu, hcc⟩, hv⟩; (try replace hbs := hbs.trans (hv.mono hbs.size)); replace hb := hb.trans (hv.mono hb.size); clear x1 x2 x3 x4; obtain ⟨x1, x2, x3, x4⟩ := BX.out _ hb; have HPL := Lib.hid hpl; have HTU := Lib.hid htu; clear hpl htu hcc; have hbs : Below wp.heap.size wp wp := Below.refl _ _)
    | (go_at_call 43; refine (druns_w f na oa pa ln cn lo co lp cp N U D _ hl10 HR (HN.out _ hb) (HPP.out _ hb) HDY).mono ?_; rw [HRB.out]; rintro e wl ⟨rfl, hv⟩; (try replace hbs := hbs.trans (hv.mono hbs.size)); replace hb := hb.trans (hv.mono hb.size); clear x1 x2 x3 x4; obtain ⟨x1, x2, x3, x4⟩ := BX.out _ hb)
    | (go_at_call 17; refine (tree_w _ _ _ _ _ _ _ N U _ hls hlt (HN.out _ hb)).mono ?_; rintro e wl ⟨⟨rb, rfl, hrb⟩, hv⟩; obtain rfl : rb = true := hrb.2 HR.out; clear hrb; (try replace hbs := hbs.trans (hv.mono hbs.size)); replace hb := hb.trans (hv.mono hb.size); clear x1 x2 x3 x4; obtain ⟨x1, x2, x3, x4⟩ := BX.out _ hb)
    | (go_at_call 45; refine (rturns_w f na oa ln cn lo co d N U _ hd HR (HN.out _ hb)).mono ?_; rintro e wq ⟨⟨oo2, cc2, E2, rfl, hpl, htu⟩, hv⟩; (try replace hbs := hbs.trans (hv.mono hbs.size)); replace hb := hb.trans (hv.mono hb.size); clear x1 x2 x3 x4; obtain ⟨x1, x2, x3, x4⟩ := BX.out _ hb; have HPL2 := Lib.hid hpl; have HTU2 := Lib.hid htu; clear hpl htu)
    | (go_at_call 44; refine (samePlans_w oo oo2 d cc cc2 E E2 _ (by omega) (Lib.hid (HPL.out.below hbs)) HPL2 (Lib.hid fun x hx => ⟨by rw [HTU.out.n x hx, HTU2.out.n x hx], by rw [HTU.out.n x hx]; have := dayL_len (f := f) (lo := lo) (N := N) (U := U) (r := ranF f lo N U x); unfold turnD; omega, by rw [HTU.out.s x hx, HTU2.out.s x hx]⟩)).mono ?_; rintro e wl ⟨rfl, hv⟩; (try replace hbs := hbs.trans (hv.mono hbs.size)); replace hb := hb.trans (hv.mono hb.size); clear x1 x2 x3 x4; obtain ⟨x1, x2, x3, x4⟩ := BX.out _ hb)
    | (go_at_call 46; refine (rplan_w f na oa pa ln cn lo co lp cp D _ hlt (by omega) (Lib.hid fun d hd => by have := HN10.out d hd; omega) (HPP.out _ hb)).mono ?_; rw [HPB.out]; rintro e wl ⟨rfl, hv⟩; (try replace hbs := hbs.trans (hv.mono hbs.size)); replace hb := hb.trans (hv.mono hb.size); clear x1 x2 x3 x4; obtain ⟨x1, x2, x3, x4⟩ := BX.out _ hb)
    | (go_at_call 47; refine (rruns_w f na oa pa ln cn lo co lp cp N U D _ (by omega) HLS (HPP.out _ hb) (Lib.hid HR.out.w) (HN.out _ hb)).mono ?_; rw [HRB.out]; rintro e wl ⟨rfl, hv⟩; (try replace hbs := hbs.trans (hv.mono hbs.size)); replace hb := hb.trans (hv.mono hb.size); clear x1 x2 x3 x4; obtain ⟨x1, x2, x3, x4⟩ := BX.out _ hb)
    | (go_at_call 14; refine (K.out _).mono ?_; rintro e wl ⟨rfl, hv⟩; (try replace hbs := hbs.trans (hv.mono hbs.size)); replace hb := hb.trans (hv.mono hb.size); clear x1 x2 x3 x4; obtain ⟨x1, x2, x3, x4⟩ := BX.out _ hb))
  go_ret
  exact ⟨rfl, below_al hb⟩

set_option maxRecDepth 100000 in
set_option maxHeartbeats 4000000 in
theorem lawtu_gf (f : Int) (na oa pa : Option Addr) (ln cn lo co lp cp : Nat) (N : Nat → N2) (U : Nat → O3) (D : Nat → Dy) (dy : Int) (w : World) (hls : ln ≤ 1000000) (hlt : lo ≤ 1000000) (H : Hid (Tr7 w na oa ln lo N U)) (K : Hid KnownOk) (HP : Hid (PlSl w pa lp D)) (HN10 : Hid (∀ d, d < lp → (D d).n ≤ 10)) (hlp : lp ≤ 12) (hq : ln ≤ 8 ∧ lo ≤ 10) (HR : Hid (TreeS f ln lo N U)) (HPB : Hid ((decide (lp ≤ 10) && allN (fun d => dayB lo (D d).s (D d).n) lp) = true)) (d : Nat) (hd : d ≤ 10) (hdy : dy = (d : Int)) (HRB : Hid (allN (fun d => runD f ln lo N U (D d)) lp = false))  :
    Calls Tryz.prog 9 #[.agg #[.int .i64 f, .slice na ln cn, .slice oa lo co], .int .i64 dy, .slice pa lp cp] w
      fun e w' => e = .returned (.bool true) ∧ Below w.heap.size w w' := by
  have hsh : decide (ln ≤ 8 ∧ lo ≤ 10) = true := decide_eq_true hq
  have HSL : Hid ((decide (lp ≤ 12) && allN (fun d => decide ((D d).n ≤ 10)) lp) = true) := Lib.hid (by rw [decide_eq_true hlp, Bool.true_and, allN_iff]; exact fun i hi => decide_eq_true (HN10.out i hi))
  subst hdy
  have m1 : (0 : Int) ≤ (d : Int) := by omega
  have m2 : (d : Int) ≤ 10 := by omega
  have m3 : ¬ (d : Int) < 0 := by omega
  have m4 : ¬ (10 : Int) < (d : Int) := by omega
  have HDY : Hid (∀ d, d < lp → dayB lo (D d).s (D d).n = true) := Lib.hid fun d hd => by
    have h := HPB.out
    simp only [Bool.and_eq_true] at h
    exact (allN_iff lp).1 h.2 d hd
  have hl10 : lp ≤ 10 := by have h := HPB.out; simp only [Bool.and_eq_true, decide_eq_true_eq] at h; exact h.1
  have HLS : Hid (∀ d, d < lp → (D d).n ≤ 1000000 ∧ LsP lo (D d).n (D d).s) := Lib.hid fun d hd => by
    have h := HPB.out
    simp only [Bool.and_eq_true] at h
    exact ⟨by have := HN10.out d hd; omega, dayB_ls ((allN_iff lp).1 h.2 d hd)⟩
  have BX := Lib.hid (fun (w1 : World) (hb : Below (w.alloc (.cells #[.int .i64 f, .slice na ln cn, .slice oa lo co] 25)).heap.size (w.alloc (.cells #[.int .i64 f, .slice na ln cn, .slice oa lo co] 25)) w1) => box7 hb)
  have HN : Hid (∀ w1, Below (w.alloc (.cells #[.int .i64 f, .slice na ln cn, .slice oa lo co] 25)).heap.size (w.alloc (.cells #[.int .i64 f, .slice na ln cn, .slice oa lo co] 25)) w1 → Hid (Tr7 w1 na oa ln lo N U)) := Lib.hid fun w1 h => Lib.hid (H.out.below (below_al h))
  have hb : Below (w.alloc (.cells #[.int .i64 f, .slice na ln cn, .slice oa lo co] 25)).heap.size (w.alloc (.cells #[.int .i64 f, .slice na ln cn, .slice oa lo co] 25)) (w.alloc (.cells #[.int .i64 f, .slice na ln cn, .slice oa lo co] 25)) := Below.refl _ _
  obtain ⟨x1, x2, x3, x4⟩ := BX.out _ hb
  have HPP : Hid (∀ w1, Below (w.alloc (.cells #[.int .i64 f, .slice na ln cn, .slice oa lo co] 25)).heap.size (w.alloc (.cells #[.int .i64 f, .slice na ln cn, .slice oa lo co] 25)) w1 → Hid (PlSl w1 pa lp D)) := Lib.hid fun w1 h => Lib.hid (HP.out.below (below_al h))
  clear H HP
  go_enter Tryz.func9, Tryz.ntmps9
  go_wp2_with (first
    | (go_at_call 13; refine (short_w _ _ _ _ _ _ _ _ (by unfold maxLen; omega) (by unfold maxLen; omega)).mono ?_; rw [hsh]; rintro e wl ⟨rfl, hv⟩; (try replace hbs := hbs.trans (hv.mono hbs.size)); replace hb := hb.trans (hv.mono hb.size); clear x1 x2 x3 x4; obtain ⟨x1, x2, x3, x4⟩ := BX.out _ hb)
    | (go_at_call 41; refine (slim_w pa lp cp D _ (by unfold maxLen; omega) (HPP.out _ hb)).mono ?_; rw [HSL.out]; rintro e wl ⟨rfl, rfl⟩)
    | (go_at_call 42; refine (turns_w f na oa ln cn lo co d N U _ hd HR (HN.out _ hb)).mono ?_; rintro e wp ⟨⟨oo, cc, E, rfl, hpl, htu, hcc⟩, hv⟩; (try replace hbs := hbs.trans (hv.mono hbs.size)); replace hb := hb.trans (hv.mono hb.size); clear x1 x2 x3 x4; obtain ⟨x1, x2, x3, x4⟩ := BX.out _ hb; have HPL := Lib.hid hpl; have HTU := Lib.hid htu; clear hpl htu hcc; have hbs : Below wp.heap.size wp wp := Below.refl _ _)
    | (go_at_call 43; refine (druns_w f na oa pa ln cn lo co lp cp N U D _ hl10 HR (HN.out _ hb) (HPP.out _ hb) HDY).mono ?_; rw [HRB.out]; rintro e wl ⟨rfl, hv⟩; (try replace hbs := hbs.trans (hv.mono hbs.size)); replace hb := hb.trans (hv.mono hb.size); clear x1 x2 x3 x4; obtain ⟨x1, x2, x3, x4⟩ := BX.out _ hb)
    | (go_at_call 17; refine (tree_w _ _ _ _ _ _ _ N U _ hls hlt (HN.out _ hb)).mono ?_; rintro e wl ⟨⟨rb, rfl, hrb⟩, hv⟩; obtain rfl : rb = true := hrb.2 HR.out; clear hrb; (try replace hbs := hbs.trans (hv.mono hbs.size)); replace hb := hb.trans (hv.mono hb.size); clear x1 x2 x3 x4; obtain ⟨x1, x2, x3, x4⟩ := BX.out _ hb)
    | (go_at_call 45; refine (rturns_w f na oa ln cn lo co d N U _ hd HR (HN.out _ hb)).mono ?_; rintro e wq ⟨⟨oo2, cc2, E2, rfl, hpl, htu⟩, hv⟩; (try replace hbs := hbs.trans (hv.mono hbs.size)); replace hb := hb.trans (hv.mono hb.size); clear x1 x2 x3 x4; obtain ⟨x1, x2, x3, x4⟩ := BX.out _ hb; have HPL2 := Lib.hid hpl; have HTU2 := Lib.hid htu; clear hpl htu)
    | (go_at_call 44; refine (samePlans_w oo oo2 d cc cc2 E E2 _ (by omega) (Lib.hid (HPL.out.below hbs)) HPL2 (Lib.hid fun x hx => ⟨by rw [HTU.out.n x hx, HTU2.out.n x hx], by rw [HTU.out.n x hx]; have := dayL_len (f := f) (lo := lo) (N := N) (U := U) (r := ranF f lo N U x); unfold turnD; omega, by rw [HTU.out.s x hx, HTU2.out.s x hx]⟩)).mono ?_; rintro e wl ⟨rfl, hv⟩; (try replace hbs := hbs.trans (hv.mono hbs.size)); replace hb := hb.trans (hv.mono hb.size); clear x1 x2 x3 x4; obtain ⟨x1, x2, x3, x4⟩ := BX.out _ hb)
    | (go_at_call 46; refine (rplan_w f na oa pa ln cn lo co lp cp D _ hlt (by omega) (Lib.hid fun d hd => by have := HN10.out d hd; omega) (HPP.out _ hb)).mono ?_; rw [HPB.out]; rintro e wl ⟨rfl, hv⟩; (try replace hbs := hbs.trans (hv.mono hbs.size)); replace hb := hb.trans (hv.mono hb.size); clear x1 x2 x3 x4; obtain ⟨x1, x2, x3, x4⟩ := BX.out _ hb)
    | (go_at_call 47; refine (rruns_w f na oa pa ln cn lo co lp cp N U D _ (by omega) HLS (HPP.out _ hb) (Lib.hid HR.out.w) (HN.out _ hb)).mono ?_; rw [HRB.out]; rintro e wl ⟨rfl, hv⟩; (try replace hbs := hbs.trans (hv.mono hbs.size)); replace hb := hb.trans (hv.mono hb.size); clear x1 x2 x3 x4; obtain ⟨x1, x2, x3, x4⟩ := BX.out _ hb)
    | (go_at_call 14; refine (K.out _).mono ?_; rintro e wl ⟨rfl, hv⟩; (try replace hbs := hbs.trans (hv.mono hbs.size)); replace hb := hb.trans (hv.mono hb.size); clear x1 x2 x3 x4; obtain ⟨x1, x2, x3, x4⟩ := BX.out _ hb))
  go_ret
  exact ⟨rfl, below_al hb⟩

set_option maxHeartbeats 1000000 in
theorem lawtu_w (f : Int) (na oa pa : Option Addr) (ln cn lo co lp cp : Nat) (N : Nat → N2) (U : Nat → O3) (D : Nat → Dy) (dy : Int) (w : World) (hls : ln ≤ maxLen) (hlt : lo ≤ maxLen) (hlm : lp ≤ maxLen) (H : Tr7 w na oa ln lo N U) (HP : PlSl w pa lp D) (K : KnownOk) :
    Calls Tryz.prog 9 #[.agg #[.int .i64 f, .slice na ln cn, .slice oa lo co], .int .i64 dy, .slice pa lp cp] w
      fun e w' => e = .returned (.bool true) ∧ Below w.heap.size w w' := by
  by_cases hq : ln ≤ 8 ∧ lo ≤ 10
  case neg => exact lawtu_a f na oa pa ln cn lo co lp cp N U D dy w hls hlt (Lib.hid H) (Lib.hid K) (Lib.hid HP) hq
  have l1 : ln ≤ 1000000 := by omega
  have l2 : lo ≤ 1000000 := by omega
  cases hs : (decide (lp ≤ 12) && allN (fun d => decide ((D d).n ≤ 10)) lp) with
  | false => exact lawtu_b f na oa pa ln cn lo co lp cp N U D dy w l1 l2 (Lib.hid H) (Lib.hid K) (Lib.hid HP) hq hlm (Lib.hid hs)
  | true =>
  simp only [Bool.and_eq_true, decide_eq_true_eq] at hs
  have HN10 : Hid (∀ d, d < lp → (D d).n ≤ 10) := Lib.hid fun d hd => of_decide_eq_true ((allN_iff lp).1 hs.2 d hd)
  have hlp := hs.1
  by_cases HR : TreeS f ln lo N U
  case neg => exact lawtu_c f na oa pa ln cn lo co lp cp N U D dy w l1 l2 (Lib.hid H) (Lib.hid K) (Lib.hid HP) HN10 hlp hq (Lib.hid HR)
  cases hP : (decide (lp ≤ 10) && allN (fun d => dayB lo (D d).s (D d).n) lp) with
  | false =>
    by_cases h1 : dy < 0
    · exact lawtu_d1 f na oa pa ln cn lo co lp cp N U D dy w l1 l2 (Lib.hid H) (Lib.hid K) (Lib.hid HP) HN10 hlp hq (Lib.hid HR) (Lib.hid hP) h1
    by_cases h2 : 10 < dy
    · exact lawtu_d2 f na oa pa ln cn lo co lp cp N U D dy w l1 l2 (Lib.hid H) (Lib.hid K) (Lib.hid HP) HN10 hlp hq (Lib.hid HR) (Lib.hid hP) (by omega) h2
    exact lawtu_f f na oa pa ln cn lo co lp cp N U D dy w l1 l2 (Lib.hid H) (Lib.hid K) (Lib.hid HP) HN10 hlp hq (Lib.hid HR) (Lib.hid hP) dy.toNat (by omega) (by omega)
  | true =>
  cases hr : allN (fun d => runD f ln lo N U (D d)) lp with
  | false =>
    by_cases h1 : dy < 0
    · exact lawtu_e1f f na oa pa ln cn lo co lp cp N U D dy w l1 l2 (Lib.hid H) (Lib.hid K) (Lib.hid HP) HN10 hlp hq (Lib.hid HR) (Lib.hid hP) h1 (Lib.hid hr)
    by_cases h2 : 10 < dy
    · exact lawtu_e2f f na oa pa ln cn lo co lp cp N U D dy w l1 l2 (Lib.hid H) (Lib.hid K) (Lib.hid HP) HN10 hlp hq (Lib.hid HR) (Lib.hid hP) (by omega) h2 (Lib.hid hr)
    exact lawtu_gf f na oa pa ln cn lo co lp cp N U D dy w l1 l2 (Lib.hid H) (Lib.hid K) (Lib.hid HP) HN10 hlp hq (Lib.hid HR) (Lib.hid hP) dy.toNat (by omega) (by omega) (Lib.hid hr)
  | true =>
    by_cases h1 : dy < 0
    · exact lawtu_e1t f na oa pa ln cn lo co lp cp N U D dy w l1 l2 (Lib.hid H) (Lib.hid K) (Lib.hid HP) HN10 hlp hq (Lib.hid HR) (Lib.hid hP) h1 (Lib.hid hr)
    by_cases h2 : 10 < dy
    · exact lawtu_e2t f na oa pa ln cn lo co lp cp N U D dy w l1 l2 (Lib.hid H) (Lib.hid K) (Lib.hid HP) HN10 hlp hq (Lib.hid HR) (Lib.hid hP) (by omega) h2 (Lib.hid hr)
    exact lawtu_gt f na oa pa ln cn lo co lp cp N U D dy w l1 l2 (Lib.hid H) (Lib.hid K) (Lib.hid HP) HN10 hlp hq (Lib.hid HR) (Lib.hid hP) dy.toNat (by omega) (by omega) (Lib.hid hr)
end Go.Kn
