/- Walks of functions of layer 2 (contracts that the laws of this seat use). Conditions: as each theorem states them. -/
import Derived.Test.YtnlbofaiihlniaaGreatDoorGE
import Derived.Test.YtnlbofaiihlniaaGreatDoorGJ
import Derived.Laws.IdiomStrings
import Derived.Shelf.RegionOpen
import Derived.Deep.AppendLies
set_option linter.unusedVariables false
set_option linter.unusedSimpArgs false
namespace Go.Kn
open Go Go.Proofs Go.RowKit

theorem conv1 (x : UInt8) (b : Nat) (w : World) (h : w.cell? ⟨b, 0, none⟩ = some (.int .u8 (x.toNat : Int))) : (convert 44 9 (.slice (some ⟨b, 0, none⟩) 1 1)).run Tryz.prog w = .ok (.string (bs [x])) w :=
  run_convert_bytes_back w 44 9 5 ⟨b, 0, none⟩ 1 [x] Tryz.underlying44 Tryz.underlying5 Tryz.underlying9 (fun j hj => by
    obtain rfl : j = 0 := by simp at hj; omega
    exact h)

set_option maxRecDepth 100000 in
set_option maxHeartbeats 2000000 in
theorem dec_w (n : Nat) (hn : n ≤ 1000000) (w : World) : Calls Tryz.prog 47 #[.int .i64 (n : Int)] w fun e w' => e = .returned (.string (bs (Lib.decDigits n))) ∧ Below w.heap.size w w' := by
  induction n using Nat.strongRecOn generalizing w with
  | ind n ih =>
    obtain ⟨E, hE⟩ : ∃ E, Lib.decDigits n = E := ⟨_, rfl⟩
    rw [hE]
    have n0 : (0 : Int) ≤ (n : Int) := by omega
    have n1 : ¬ (n : Int) < 0 := by omega
    have n2 : (-10 : Int) < (n : Int) := by omega
    by_cases h10 : n < 10
    · obtain ⟨x, hx⟩ : ∃ x, UInt8.ofNat (48 + n) = x := ⟨_, rfl⟩
      have hxn : (x.toNat : Int) = 48 + (n : Int) := by rw [← hx, UInt8.toNat_ofNat']; omega
      rw [Lib.decDigits, dif_pos h10, hx] at hE
      have HE := Lib.hid hE
      have hcv : ∀ w' : World, (convert 44 9 (.slice (some ⟨w'.heap.size, 0, none⟩) 1 1)).run Tryz.prog (w'.alloc (.cells #[.int .u8 (48 + (n : Int))] 5)) = .ok (.string (bs [x])) (w'.alloc (.cells #[.int .u8 (48 + (n : Int))] 5)) := fun w' => conv1 x _ _ (by rw [hxn]; simp)
      have h3 : (n : Int) < 10 := by omega
      clear hE hxn hx ih
      go_enter Tryz.func47, Tryz.ntmps47
      go_wp2
      go_ret
      exact ⟨by rw [HE.out]; rfl, (Below.refl _ _).alloc (Nat.le_refl _) _⟩
    · obtain ⟨x, hx⟩ : ∃ x, UInt8.ofNat (48 + n % 10) = x := ⟨_, rfl⟩
      have hxn : (x.toNat : Int) = 48 + (n : Int) % 10 := by rw [← hx, UInt8.toNat_ofNat']; omega
      rw [Lib.decDigits, dif_neg h10, hx] at hE
      have HE := Lib.hid hE
      have h3 : ¬ (n : Int) < 10 := by omega
      have hq : (n : Int).tdiv 10 = ((n / 10 : Nat) : Int) := by rw [Int.tdiv_eq_ediv_of_nonneg (by omega)]; omega
      have hm : (n : Int).tmod 10 = (n : Int) % 10 := by rw [Int.tmod_eq_emod_of_nonneg (by omega)]
      have IH := Lib.hid (ih (n / 10) (by omega) (by omega))
      go_enter Tryz.func47, Tryz.ntmps47
      go_wp2
      obtain ⟨m, hmm⟩ : ∃ m, n / 10 = m := ⟨_, rfl⟩
      rw [hmm] at hE HE hq IH
      have hml : m ≤ 1000000 := by omega
      have hmi : (n : Int) / 10 = (m : Int) := by omega
      obtain ⟨r, hrr⟩ : ∃ r, n % 10 = r := ⟨_, rfl⟩
      have hri : (n : Int) % 10 = (r : Int) := by omega
      have hr9 : r < 10 := by omega
      rw [hri] at hxn
      have hw1 : IntKind.i64.wrap (m : Int) = (m : Int) := IntWalk.i64_in _ (by omega)
      have hw2 : IntKind.i64.wrap (r : Int) = (r : Int) := IntWalk.i64_in _ (by omega)
      have hw3 : IntKind.i64.wrap (48 + (r : Int)) = 48 + (r : Int) := IntWalk.i64_in _ (by omega)
      have hw4 : IntKind.u8.wrap (48 + (r : Int)) = 48 + (r : Int) := by
        unfold IntKind.wrap
        simp [IntKind.bits, IntKind.signed]
        omega
      have hA : Hid (∀ w' : World, Calls Tryz.prog 47 #[.int .i64 (m : Int)] w' fun e w2 => e = .returned (.string (bs (Lib.decDigits m))) ∧ Below w'.heap.size w' w2) := Lib.hid fun w' => IH.out w'
      obtain ⟨D, hD⟩ : ∃ D, Lib.decDigits m = D := ⟨_, rfl⟩
      have hdl : D.length ≤ 20 := by rw [← hD, Lib.decDigits_length]; exact Lib.nDigits_le20 _ (by omega)
      rw [hD] at hE HE hA
      have hds : (bs D).size = D.length := bs_size D
      have k1 : ¬ (9223372036854775807 < (bs D).size + 1) := by omega
      have k2 : ¬ (9223372036854775807 < (bs D).size + (bs [x]).size) := by rw [bs_size [x]]; simp; omega
      have hxs : (bs [x]).size = 1 := by rw [bs_size]; rfl
      have k4 : ¬ (9223372036854775807 < D.length + (bs [x]).size) := by omega
      have k5 : ¬ (9223372036854775807 < D.length + 1) := by omega
      have HXS := Lib.hid hxs
      clear hxs
      have hcv : ∀ (b : Nat) (w' : World), w'.cell? ⟨b, 0, none⟩ = some (.int .u8 (48 + (r : Int))) → (convert 44 9 (.slice (some ⟨b, 0, none⟩) 1 1)).run Tryz.prog w' = .ok (.string (bs [x])) w' := fun b w' h => conv1 x b w' (by rw [hxn]; exact h)
      clear hD hE hx hxn IH ih
      go_region_law
        ((first
          | (go_simp; go_at_call 47; refine (hA.out _).mono ?_; rintro e w5 ⟨rfl, hb5⟩; try (have hc5 : w5.cell? ⟨w.heap.size, 0, none⟩ = some (.int .u8 (48 + (r : Int))) := by rw [(bcell hb5).1 _ _ (by simp)]; simp))))
      all_goals
        go_wp2
        go_ret
        refine ⟨by rw [bs_app, HE.out]; rfl, ?_⟩
        first
          | exact (Below.drew (Below.refl w.heap.size w)).trans (hb5.mono (by simp))
          | exact (Below.alloc (Below.drew (Below.refl w.heap.size w)) (by simp) _).trans (hb5.mono (by simp))
          | exact ((Below.drew (Below.refl w.heap.size w)).trans (hb5.mono (by simp))).alloc (by have := hb5.size; simpa using this) _
end Go.Kn

namespace Go.Kn
open Go Go.Proofs Go.RowKit

set_option maxRecDepth 100000 in
set_option maxHeartbeats 1000000 in
theorem row_w (wd : List UInt8) (p : Option Addr) (n c : Nat) (f : Nat → Int) (w : World) (hwd : wd.length ≤ 100) (hn : n ≤ 1000) (hf : Hid (∀ i, i < n → 0 ≤ f i ∧ f i ≤ 1000000)) (H : Hid (IntSl w p n f)) :
    Calls Tryz.prog 83 #[.string (bs wd), .slice p n c] w fun e w' => e = .returned (.string (bs (rowL wd (upto f n)))) ∧ Below w.heap.size w w' := by
  go_enter Tryz.func83, Tryz.ntmps83
  go_wp2
  go_loopw [5, 6] (fun s i wr => ∃ k : Nat, k ≤ n ∧ i = .int .i64 k ∧ s = .string (bs (rowL wd (upto f k))) ∧ Below w.heap.size w wr) (fun _ i _ => n - (intOf i).toNat)
  case atStart => exact ⟨0, Nat.zero_le _, rfl, by rw [show upto f 0 = [] from rfl, rowL_nil], Below.refl _ _⟩
  case round =>
    obtain ⟨k, hk, rfl, rfl, hbw⟩ := hrel
    by_cases hlt : k < n
    · obtain ⟨A, O, rfl, hA, h1⟩ := H.out.resolve_left (by omega)
      have y0 := (h1.below hA hbw) k hlt
      have HF := hf.out k hlt
      clear h1
      have n1 : (0 : Int) ≤ (k : Int) := by omega
      have n2 : (k : Int) < (n : Int) := by omega
      have s1 := Lib.itoa_length_le (f k) (by omega) (by omega)
      have s2 := rowL_len wd (upto f k) (fun x hx => by obtain ⟨i, hi, rfl⟩ := mem_upto hx; exact hf.out i (by omega))
      rw [upto_length] at s2
      rw [itoa_pos HF.1] at s1
      have HDE : Hid (∀ w', Calls Tryz.prog 47 #[.int .i64 (f k)] w' fun e w2 => e = .returned (.string (bs (Lib.decDigits (f k).toNat))) ∧ Below w'.heap.size w' w2) := Lib.hid fun w' => by
        have h := dec_w (f k).toNat (by omega) w'
        rwa [Int.toNat_of_nonneg HF.1] at h
      obtain ⟨D, hD⟩ : ∃ D, Lib.decDigits (f k).toNat = D := ⟨_, rfl⟩
      rw [hD] at s1 HDE
      have HDD := Lib.hid hD
      have HFK := Lib.hid HF.1
      have k1 : ¬ (9223372036854775807 < (bs (rowL wd (upto f k))).size + 1) := by rw [bs_size]; omega
      have k2 : ¬ (9223372036854775807 < (bs (rowL wd (upto f k))).size + 1 + (bs D).size) := by rw [bs_size, bs_size]; omega
      clear s1 s2 hD HF
      go_wp2_with (go_at_call 47; refine (HDE.out _).mono ?_; rintro e w1 ⟨rfl, hb1⟩)
      go_roundw
      case rel => exact ⟨k + 1, by omega, by go_num, by rw [upto_succ, rowL_snoc, itoa_pos HFK.out, HDD.out, sp_bs, bs_app, bs_app, List.append_assoc]; rfl, hbw.trans (hb1.mono hbw.size)⟩
      case measure => simp [intOf]; omega
    · obtain rfl : k = n := by omega
      go_wp2
      go_ret
      exact ⟨rfl, hbw⟩

theorem row5_w (x : St5) (B : Nat) (w : World) (hB : w.heap.size = B) (hf : Hid (St5Ok x)) :
    Calls Tryz.prog 83 #[.string ⟨#[115, 116, 114, 101, 116, 99, 104]⟩, .slice (some ⟨B, 0, none⟩) 5 5] (w.alloc (.cells #[.int .i64 x.b, .int .i64 x.d, .int .i64 x.f, .int .i64 x.lo, .int .i64 x.hi] 3))
      fun e w' => e = .returned (.string (bs (rowL stretchW (stL x)))) ∧ Below w.heap.size w w' := by
  subst hB
  have hal : Below w.heap.size w (w.alloc (.cells #[.int .i64 x.b, .int .i64 x.d, .int .i64 x.f, .int .i64 x.lo, .int .i64 x.hi] 3)) := (Below.refl _ _).alloc (Nat.le_refl _) _
  have hu : upto (fun i => (stL x).getD i 0) 5 = stL x := upto_getD (stL x)
  have h := row_w stretchW (some ⟨w.heap.size, 0, none⟩) 5 5 (fun i => (stL x).getD i 0) (w.alloc (.cells #[.int .i64 x.b, .int .i64 x.d, .int .i64 x.f, .int .i64 x.lo, .int .i64 x.hi] 3)) (by decide) (by decide) (Lib.hid (stL_at hf.out)) (Lib.hid (.inr ⟨w.heap.size, 0, rfl, by simp, fun i hi => by
    match i, hi with
    | 0, _ => simp [stL]
    | 1, _ => simp [stL]
    | 2, _ => simp [stL]
    | 3, _ => simp [stL]
    | 4, _ => simp [stL]⟩))
  rw [hu] at h
  exact h.mono fun e w' ⟨he, hb⟩ => ⟨he, hal.trans (hb.mono hal.size)⟩

theorem sumRow_le (i : Nat) (hi : i ≤ 1000) (l : List UInt8) : ∀ k, k ≤ 1000 → sumRow i l k ≤ k * 255510255
  | 0, _ => by simp [sumRow]
  | k + 1, h => by
    have ih := sumRow_le i hi l k (by omega)
    have hb : (l.getD k 0).toNat ≤ 255 := by have := (l.getD k 0).toNat_lt; omega
    have p1 : (l.getD k 0).toNat * (k + 1) ≤ 255 * 1000 := Nat.mul_le_mul hb h
    have p2 : (l.getD k 0).toNat * (k + 1) * (i + 1) ≤ 255 * 1000 * 1001 := Nat.mul_le_mul p1 (by omega)
    simp only [sumRow]
    omega
theorem sumAll_le (xs : List (List UInt8)) (hl : ∀ x ∈ xs, x.length ≤ 1000) (hn : xs.length ≤ 1000) : ∀ i, i ≤ xs.length → sumAll xs i ≤ i * 255510255000
  | 0, _ => by simp [sumAll]
  | i + 1, h => by
    have ih := sumAll_le xs hl hn i (by omega)
    have hx : (xs.getD i []).length ≤ 1000 := hl _ (by rw [List.getD_eq_getElem?_getD, List.getElem?_eq_getElem (by omega)]; exact List.getElem_mem _)
    have h1 := sumRow_le i (by omega) (xs.getD i []) (xs.getD i []).length hx
    have h2 : (xs.getD i []).length * 255510255 ≤ 1000 * 255510255 := Nat.mul_le_mul_right _ hx
    simp only [sumAll]
    omega

theorem rest_step2 (S R b k i : Nat) (hS : S + R ≤ 1000000000000000) (hb : b ≤ 255) (hk : k ≤ 1000) (hi : i ≤ 1000) :
    wrap64 ((S : Int) + (R : Int) + wrap64 (wrap64 (wrap64 (b : Int) * ((k : Int) + 1)) * ((i : Int) + 1))) = ((S + (R + b * (k + 1) * (i + 1)) : Nat) : Int) := by
  have p1 : b * (k + 1) ≤ 255255 := Nat.le_trans (Nat.mul_le_mul hb (Nat.succ_le_succ hk)) (by decide)
  obtain ⟨P, hP⟩ : ∃ P, b * (k + 1) = P := ⟨_, rfl⟩
  have c1 : (b : Int) * ((k : Int) + 1) = (P : Int) := by rw [← hP]; simp
  rw [hP] at p1 ⊢
  have p2 : P * (i + 1) ≤ 255510255 := Nat.le_trans (Nat.mul_le_mul p1 (Nat.succ_le_succ hi)) (by decide)
  obtain ⟨Q, hQ⟩ : ∃ Q, P * (i + 1) = Q := ⟨_, rfl⟩
  have c2 : (P : Int) * ((i : Int) + 1) = (Q : Int) := by rw [← hQ]; simp
  rw [hQ] at p2 ⊢
  have e0 : wrap64 (b : Int) = (b : Int) := IntWalk.wrap64_in _ (by omega)
  have e1 : wrap64 (P : Int) = (P : Int) := IntWalk.wrap64_in _ (by omega)
  have e2 : wrap64 (Q : Int) = (Q : Int) := IntWalk.wrap64_in _ (by omega)
  rw [e0, c1, e1, c2, e2]
  clear hP hQ c1 c2 e0 e1 e2
  have e3 : wrap64 ((S : Int) + (R : Int) + (Q : Int)) = (S : Int) + (R : Int) + (Q : Int) := IntWalk.wrap64_in _ (by omega)
  rw [e3]
  omega

set_option maxRecDepth 100000 in
set_option maxHeartbeats 1000000 in
theorem rest_w (p : Option Addr) (c : Nat) (xs : List (List UInt8)) (w : World) (hn : xs.length ≤ 1000) (hl : Hid (∀ x ∈ xs, x.length ≤ 1000)) (H : Hid (StrSl w p xs)) :
    Calls Tryz.prog 46 #[.slice p xs.length c] w fun e w' => e = .returned (.int .i64 ((sumAll xs xs.length % 139 : Nat) : Int)) ∧ Below w.heap.size w w' := by
  go_enter Tryz.func46, Tryz.ntmps46
  go_wp2
  go_loopw [3, 4] (fun r ii wr => ∃ i : Nat, i ≤ xs.length ∧ ii = .int .i64 (i : Int) ∧ r = .int .i64 ((sumAll xs i : Nat) : Int) ∧ Below w.heap.size w wr) (fun _ ii _ => xs.length - (intOf ii).toNat)
  case atStart => exact ⟨0, Nat.zero_le _, rfl, rfl, Below.refl _ _⟩
  case round =>
    obtain ⟨i, hi, rfl, rfl, hbw⟩ := hrel
    have hsl := sumAll_le xs hl.out hn i hi
    have hsl2 : i * 255510255000 ≤ 1000 * 255510255000 := Nat.mul_le_mul_right _ (by omega)
    by_cases hlt : i < xs.length
    · obtain ⟨A, O, rfl, hA, h1⟩ := H.out.resolve_left (by omega)
      have HL := hl.out (xs.getD i []) (by rw [List.getD_eq_getElem?_getD, List.getElem?_eq_getElem hlt]; exact List.getElem_mem _)
      have FY : Hid (∀ w', Below w.heap.size w w' → w'.cell? ⟨A, O + i, none⟩ = some (.string (bs (xs.getD i [])))) := Lib.hid fun w' h => (h1.below hA h) i hlt
      obtain ⟨L, hL⟩ : ∃ L, xs.getD i [] = L := ⟨_, rfl⟩
      rw [hL] at FY HL
      have n1 : (0 : Int) ≤ (i : Int) := by omega
      have n2 : (i : Int) < (xs.length : Int) := by omega
      have hsz : (bs L).size = L.length := bs_size L
      have hsr := sumRow_le i (by omega) L
      clear h1
      have hsa : sumAll xs (i + 1) = sumAll xs i + sumRow i L L.length := by rw [← hL]; rfl
      have hS := Lib.hid hsa
      clear hsa hL
      have HSR := Lib.hid hsr
      clear hsr
      obtain ⟨S, hSS⟩ : ∃ S, sumAll xs i = S := ⟨_, rfl⟩
      rw [hSS] at hsl hS ⊢
      clear hSS
      go_wp2
      go_loopw [3, 5] (fun r kk wk => ∃ k : Nat, k ≤ L.length ∧ kk = .int .i64 (k : Int) ∧ r = .int .i64 ((S + sumRow i L k : Nat) : Int) ∧ Below w.heap.size w wk) (fun _ kk _ => L.length - (intOf kk).toNat)
      case atStart => exact ⟨0, Nat.zero_le _, rfl, rfl, hbw⟩
      case round =>
        obtain ⟨wm, rfl⟩ : ∃ wm, wm = wr := ⟨_, rfl⟩
        obtain ⟨k, hk, rfl, rfl, hbk⟩ := hrel
        have y0 := FY.out _ hbk
        have hr1 := HSR.out k (by omega)
        have hr2 : k * 255510255 ≤ 1000 * 255510255 := Nat.mul_le_mul_right _ (by omega)
        by_cases hkl : k < L.length
        · have k0 : (0 : Int) ≤ (k : Int) := by omega
          have k1 : (k : Int) < (L.length : Int) := by omega
          have hby : (L.getD k 0).toNat ≤ 255 := by have := (L.getD k 0).toNat_lt; omega
          have hsr3 : S + sumRow i L k ≤ 1000000000000000 := by omega
          have HSR3 := Lib.hid hsr3
          clear hr1 hr2 hsr3
          go_wp2
          go_roundw
          case rel => exact ⟨k + 1, by omega, by go_num, by rw [bs_byte]; first | rw [rest_step2 _ _ _ _ _ HSR3.out hby (by omega) (by omega)]; rfl | (have h := rest_step2 S (sumRow i L k) (L.getD k 0).toNat k i HSR3.out hby (by omega) (by omega); rw [sumRow, ← h]; simp), hbk⟩
          case measure => simp [intOf]; omega
        · obtain rfl : k = L.length := by omega
          clear hr1 hr2
          go_wp2
          go_roundw
          case rel => exact ⟨i + 1, by omega, by go_num, by rw [hS.out], hbk⟩
          case measure => simp [intOf]; omega
    · obtain rfl : i = xs.length := by omega
      have hm : ((sumAll xs xs.length : Nat) : Int).tmod 139 = ((sumAll xs xs.length % 139 : Nat) : Int) := by rw [Int.tmod_eq_emod_of_nonneg (by omega)]; omega
      obtain ⟨R, hR⟩ : ∃ R, sumAll xs xs.length = R := ⟨_, rfl⟩
      rw [hR] at hm hsl ⊢
      have HR := Lib.hid hR
      clear hR
      have e : (R : Int) % 139 = ((R % 139 : Nat) : Int) := by omega
      have HE := Lib.hid e
      clear e
      go_wp2
      go_ret
      refine ⟨?_, hbw⟩
      show Ending.returned (Value.int .i64 ((R : Int) % 139)) = _
      rw [HE.out, HR.out]

/-- the cells of a box with a line -/
def bxs (x : St5) : Obj := .cells #[.int .i64 x.b, .int .i64 x.d, .int .i64 x.f, .int .i64 x.lo, .int .i64 x.hi] 74

set_option maxRecDepth 100000 in
set_option maxHeartbeats 4000000 in
theorem rows_w (A O C P ls cs lt ct : Nat) (s : Nat → Int) (t : Nat → St5) (w : World) (H : Hid (LineAt w A O C P ls lt s t)) :
    Calls Tryz.prog 45 #[.agg #[.slice (some ⟨A, O, none⟩) ls cs, .slice (some ⟨C, P, none⟩) lt ct]] w
      fun e w' => (∃ v, e = .returned v ∧ w'.ownsRow (w.heap.size + 1) 9 1 v (lt + 1) ((rowsL ls s t lt).map strV)) ∧ Below w.heap.size w w' := by
  obtain ⟨W0, hW0⟩ : ∃ W0, W0 = w.alloc (.cells #[.slice (some ⟨A, O, none⟩) ls cs, .slice (some ⟨C, P, none⟩) lt ct] 25) := ⟨_, rfl⟩
  have hz : W0.heap.size = w.heap.size + 1 := by rw [hW0]; simp
  have hB0 : Below w.heap.size w W0 := by rw [hW0]; exact (Below.refl _ _).alloc (Nat.le_refl _) _
  have FX : Hid (∀ w', Below W0.heap.size W0 w' → w'.cell? ⟨w.heap.size, 0, none⟩ = some (.slice (some ⟨A, O, none⟩) ls cs) ∧ w'.cell? ⟨w.heap.size, 1, none⟩ = some (.slice (some ⟨C, P, none⟩) lt ct) ∧ LineAt w' A O C P ls lt s t ∧ w.heap.size < w'.heap.size) := Lib.hid fun w' h => by
    have q : ∀ b o, b < W0.heap.size → w'.cell? ⟨b, o, none⟩ = W0.cell? ⟨b, o, none⟩ := (bcell h).1
    have hall := hB0.trans (h.mono (by omega))
    exact ⟨(q _ _ (by omega)).trans (by rw [hW0]; simp), (q _ _ (by omega)).trans (by rw [hW0]; simp), H.out.below hall, (by have := h.size; omega)⟩
  have q1 := H.out.lt1
  have q2 := H.out.lt2
  have q0 := H.out.ls2
  have HR1 : Hid (∀ w', Below W0.heap.size W0 w' → Calls Tryz.prog 83 #[.string ⟨#[115, 112, 101, 101, 100, 115]⟩, .slice (some ⟨A, O, none⟩) ls cs] w' fun e w2 => e = .returned (.string (bs (rowL speedsW (upto s ls)))) ∧ Below w'.heap.size w' w2) := Lib.hid fun w' h => by
    obtain ⟨_, _, p3, _⟩ := FX.out _ h
    exact row_w speedsW _ ls cs s w' (by decide) (by omega) (Lib.hid fun i hi => by
      have := p3.sok i hi
      simp only [fromB, decide_eq_true_eq] at this
      omega) (Lib.hid (.inr ⟨A, O, rfl, p3.hA, p3.sp⟩))
  have HR2 : Hid (∀ j, j < lt → ∀ (w' : World) (B : Nat), w'.heap.size = B → Calls Tryz.prog 83 #[.string ⟨#[115, 116, 114, 101, 116, 99, 104]⟩, .slice (some ⟨B, 0, none⟩) 5 5] (w'.alloc (.cells #[.int .i64 (t j).b, .int .i64 (t j).d, .int .i64 (t j).f, .int .i64 (t j).lo, .int .i64 (t j).hi] 3)) fun e w2 => e = .returned (.string (bs (rowL stretchW (stL (t j))))) ∧ Below w'.heap.size w' w2) := Lib.hid fun j hj w' B hB => row5_w (t j) B w' hB (Lib.hid (st5_ok H.out hj))
  obtain ⟨x1, x2, _, x5⟩ := FX.out _ (Below.refl _ _)
  obtain ⟨i9, hi9, h90, h91, h92⟩ := info_parts info9'
  go_enter Tryz.func45, Tryz.ntmps45
  go_wp2_with (go_at_call 83; rw [← hW0]; refine (HR1.out _ (Below.refl _ _)).mono ?_; rintro e w1 ⟨rfl, hb1⟩; clear x1 x2; obtain ⟨x1, x2, _, x6⟩ := FX.out _ hb1)
  have hw1 := hb1.size
  have HOL := Lib.hid (own_lit (w := w1) (base := w.heap.size + 1) (by omega) (strV (rowL speedsW (upto s ls))) 9)
  have HW1 : Hid (Below W0.heap.size W0 (w1.alloc (.cells #[.string (bs (rowL speedsW (upto s ls)))] 9))) := Lib.hid (hb1.alloc (by omega) _)
  clear x1 x2 x5 x6 hb1
  go_loopw [3, 4] (fun v ii wr => ∃ k : Nat, k ≤ lt ∧ ii = .int .i64 (k : Int) ∧ wr.ownsRow (w.heap.size + 1) 9 1 v (k + 1) ((rowsL ls s t k).map strV) ∧ Below W0.heap.size W0 wr) (fun _ ii _ => lt - (intOf ii).toNat)
  case atStart => exact ⟨0, Nat.zero_le _, rfl, HOL.out, HW1.out⟩
  case round =>
    obtain ⟨k, hk, rfl, hown, hbw⟩ := hrel
    obtain ⟨x1, x2, x3, x5⟩ := FX.out _ hbw
    have HO := Lib.hid hown
    have HBW := Lib.hid hbw
    have hzw := hbw.size
    rw [hz] at hzw
    clear hown hbw
    by_cases hlt : k < lt
    · obtain ⟨c0, c1, c2, c3, c4⟩ := x3.st k hlt
      have n1 : (0 : Int) ≤ (k : Int) := by omega
      have n2 : (k : Int) < (lt : Int) := by omega
      clear x3
      have HCA := Lib.hid (HR2.out k hlt (wr.alloc (bxs (t k))) (wr.heap.size + 1) (by simp))
      unfold bxs at HCA
      have hba : Below wr.heap.size wr (wr.alloc (.cells #[.int .i64 (t k).b, .int .i64 (t k).d, .int .i64 (t k).f, .int .i64 (t k).lo, .int .i64 (t k).hi] 74)) := (Below.refl _ _).alloc (Nat.le_refl _) _
      have HBA := Lib.hid hba
      clear hba
      go_wp2_with (first
        | (go_at_call 83; refine HCA.out.mono ?_; rintro e w5 ⟨rfl, hb5⟩; have hb6 := HBA.out.trans (hb5.mono HBA.out.size); have hz6 := hb6.size)
        | (at_builtin; refine wpList_append_own_at _ rfl (.tmp 22) (.tmp 37) 85 rfl (w.heap.size + 1) 9 i9 (.string ByteArray.empty) 1 16 Tryz.underlying85 hi9 h90 h91 h92 rfl (by decide) _ (k + 1) _ rfl ((owns_below HO.out hb6).alloc _) ⟨_, 0, none⟩ 1 1 [.string (bs (rowL stretchW (stL (t k))))] rfl rfl (lies_any (by first | exact al_top rfl _ _ | exact al_top (by simp) _ _)) (by intro u hu; simp at hu; subst hu; rfl) (by unfold maxLen; omega) (by omega) (by simp; omega) ?_; intro v7 w7 hown7 hgrow7 _ hloc7))
      have HB7 : Hid (Below W0.heap.size W0 w7) := Lib.hid (((HBW.out.trans (hb6.mono HBW.out.size)).alloc (by omega) _).grown hgrow7 (by simp; omega) (fun r e => by have := own_ge HO.out r e; omega))
      have HO7 := Lib.hid hown7
      clear hown7 hgrow7 hloc7
      go_roundw
      case rel => exact ⟨k + 1, by omega, by go_num, by rw [rowsL_succ, List.map_append]; exact HO7.out, HB7.out⟩
      case measure => simp [intOf]; omega
    · obtain rfl : lt = k := by omega
      go_wp2
      go_ret
      exact ⟨⟨_, rfl, HO.out⟩, hB0.trans (HBW.out.mono (by omega))⟩
end Go.Kn

namespace Go.Kn
open Go Go.Proofs Go.RowKit

theorem dec_small {u : Nat} (h : u < 10) : Lib.decDigits u = [UInt8.ofNat (48 + u)] := by rw [Lib.decDigits, dif_pos h]
theorem dec_big {u : Nat} (h : ¬ u < 10) : Lib.decDigits u = Lib.decDigits (u / 10) ++ [UInt8.ofNat (48 + u % 10)] := by rw [Lib.decDigits, dif_neg h]

theorem pad3 (r : Nat) (h : r < 139) : Lib.repeatL [48] (3 - (Lib.itoa (r : Int)).length) ++ Lib.itoa (r : Int) = Lib.decDigits (r / 100) ++ (Lib.decDigits (r / 10 % 10) ++ Lib.decDigits (r % 10)) := by
  rw [itoa_nat]
  have e1 : Lib.decDigits (r % 10) = [UInt8.ofNat (48 + r % 10)] := dec_small (by omega)
  have e2 : Lib.decDigits (r / 10 % 10) = [UInt8.ofNat (48 + r / 10 % 10)] := dec_small (by omega)
  have e3 : Lib.decDigits (r / 100) = [UInt8.ofNat (48 + r / 100)] := dec_small (by omega)
  rw [e1, e2, e3]
  by_cases h1 : r < 10
  · rw [dec_small h1]
    have a1 : r / 100 = 0 := by omega
    have a2 : r / 10 % 10 = 0 := by omega
    have a3 : r % 10 = r := by omega
    rw [a1, a2, a3]
    rfl
  · rw [dec_big h1]
    by_cases h2 : r / 10 < 10
    · rw [dec_small h2]
      have a1 : r / 100 = 0 := by omega
      have a2 : r / 10 % 10 = r / 10 := by omega
      rw [a1, a2]
      rfl
    · rw [dec_big h2, dec_small (by omega)]
      have a1 : r / 100 = r / 10 / 10 := by omega
      rw [a1]
      rfl

theorem unl_snoc (xs : List (List UInt8)) (x : List UInt8) : unl (xs ++ [x]) = unl xs ++ (x ++ [10]) := by simp [unl]

theorem textL_parts (xs : List (List UInt8)) : textL xs = unl xs ++ ([101, 110, 100, 32] ++ (Lib.decDigits (sumAll xs xs.length % 139 / 100) ++ (Lib.decDigits (sumAll xs xs.length % 139 / 10 % 10) ++ (Lib.decDigits (sumAll xs xs.length % 139 % 10) ++ [10])))) := by
  rw [text_unl, unl_snoc, endL, pad3 _ (Nat.mod_lt _ (by decide))]
  simp

set_option maxRecDepth 100000 in
set_option maxHeartbeats 4000000 in
theorem rprint_w (A O C P ls cs lt ct : Nat) (s : Nat → Int) (t : Nat → St5) (w : World) (H : Hid (LineAt w A O C P ls lt s t)) :
    Calls Tryz.prog 16 #[.agg #[.slice (some ⟨A, O, none⟩) ls cs, .slice (some ⟨C, P, none⟩) lt ct]] w
      fun e w' => e = .returned (.string (bs (textL (rowsL ls s t lt)))) ∧ Below w.heap.size w w' := by
  obtain ⟨W0, hW0⟩ : ∃ W0, W0 = w.alloc (.cells #[.slice (some ⟨A, O, none⟩) ls cs, .slice (some ⟨C, P, none⟩) lt ct] 25) := ⟨_, rfl⟩
  have hB0 : Below w.heap.size w W0 := by rw [hW0]; exact (Below.refl _ _).alloc (Nat.le_refl _) _
  have HB0 := Lib.hid hB0
  have HRO : Hid (Calls Tryz.prog 45 #[.agg #[.slice (some ⟨A, O, none⟩) ls cs, .slice (some ⟨C, P, none⟩) lt ct]] W0 fun e w' => (∃ G cap, e = .returned (.slice (some ⟨G, 0, none⟩) (lt + 1) cap) ∧ G < w'.heap.size ∧ StrAt w' G 0 (rowsL ls s t lt)) ∧ Below W0.heap.size W0 w') := Lib.hid ((rows_w A O C P ls cs lt ct s t W0 (Lib.hid (H.out.below hB0))).mono (by
    rintro e w' ⟨⟨v, rfl, hv⟩, hb⟩
    obtain ⟨G, cap, rfl, _, _, _, g1, g2⟩ := strSl_of_owns hv (by omega)
    exact ⟨⟨G, cap, rfl, g1, g2⟩, hb⟩))
  have hTL := text_len H.out
  have hTP := textL_parts (rowsL ls s t lt)
  have hsh := rows_short H.out
  have hrl := rows_len ls s t lt
  have hlt := H.out.lt2
  obtain ⟨xs, hxs⟩ : ∃ xs, rowsL ls s t lt = xs := ⟨_, rfl⟩
  rw [hxs] at hTL hTP hsh hrl HRO ⊢
  obtain ⟨TT, hTT⟩ : ∃ TT, textL xs = TT := ⟨_, rfl⟩
  rw [hTT] at hTL hTP ⊢
  obtain ⟨n, hn⟩ : ∃ n, lt + 1 = n := ⟨_, rfl⟩
  rw [hn] at hrl HRO
  have HSH := Lib.hid hsh
  have HTP := Lib.hid hTP
  have HRL := Lib.hid hrl
  have hnn : n ≤ 9 := by omega
  have hul : ∀ k, (unl (xs.take k)).length ≤ 300 := fun k => by
    have e : unl xs = unl (xs.take k) ++ unl (xs.drop k) := by
      unfold unl
      rw [← List.flatMap_append, List.take_append_drop]
    have := congrArg List.length hTP
    rw [e] at this
    simp at this
    omega
  have HUL := Lib.hid hul
  clear hxs hTT hn hsh hTP hB0 hrl hul
  go_enter Tryz.func16, Tryz.ntmps16
  go_wp2_with (go_at_call 45; rw [← hW0]; refine HRO.out.mono ?_; rintro e w1 ⟨⟨G, cap, rfl, hG, hat⟩, hb1⟩)
  have HAT : Hid (∀ w', Below w1.heap.size w1 w' → StrAt w' G 0 xs) := Lib.hid fun w' h => hat.below hG h
  have HB1 := Lib.hid hb1
  have HG := Lib.hid hG
  clear hat hb1 hG
  go_loopw [4, 5] (fun v ii wr => ∃ k : Nat, k ≤ n ∧ ii = .int .i64 (k : Int) ∧ v = .string (bs (unl (xs.take k))) ∧ Below w1.heap.size w1 wr) (fun _ ii _ => n - (intOf ii).toNat)
  case atStart => exact ⟨0, Nat.zero_le _, rfl, rfl, Below.refl _ _⟩
  case round =>
    obtain ⟨k, hk, rfl, rfl, hbw⟩ := hrel
    by_cases hlt : k < n
    · have hj : k < xs.length := by have := HRL.out; omega
      have y0 := HAT.out _ hbw k hj
      rw [Nat.zero_add] at y0
      have hxl : (xs.getD k []).length ≤ 1000 := HSH.out _ (by rw [List.getD_eq_getElem?_getD, List.getElem?_eq_getElem hj]; exact List.getElem_mem _)
      have htk : xs.take (k + 1) = xs.take k ++ [xs.getD k []] := by
        rw [List.take_add_one, List.getElem?_eq_getElem hj]; simp [List.getD, hj]
      have h0 := HUL.out k
      obtain ⟨L, hL⟩ : ∃ L, xs.getD k [] = L := ⟨_, rfl⟩
      rw [hL] at y0 hxl htk
      obtain ⟨U, hU⟩ : ∃ U, unl (xs.take k) = U := ⟨_, rfl⟩
      rw [hU] at h0 ⊢
      have HTK := Lib.hid htk
      have HU := Lib.hid hU
      have n1 : (0 : Int) ≤ (k : Int) := by omega
      have n2 : (k : Int) < (n : Int) := by omega
      have k1 : ¬ (9223372036854775807 < (bs U).size + (bs L).size) := by rw [bs_size, bs_size]; omega
      have k2 : ¬ (9223372036854775807 < (bs U).size + (bs L).size + 1) := by rw [bs_size, bs_size]; omega
      clear hL hU htk h0 hxl hj
      go_wp2
      go_roundw
      case rel => exact ⟨k + 1, by omega, by go_num, by rw [HTK.out, unl_snoc, HU.out, nl_bs, bs_app, bs_app, List.append_assoc], hbw⟩
      case measure => simp [intOf]; omega
    · obtain rfl : n = k := by omega
      have hUx : unl (xs.take n) = unl xs := by rw [List.take_of_length_le (by rw [HRL.out]; exact Nat.le_refl _)]
      have h0 := HUL.out n
      rw [hUx] at h0 ⊢
      obtain ⟨r, hr⟩ : ∃ r, sumAll xs xs.length % 139 = r := ⟨_, rfl⟩
      have hr1 : r < 139 := by rw [← hr]; exact Nat.mod_lt _ (by decide)
      have HRE : Hid (Calls Tryz.prog 46 #[.slice (some ⟨G, 0, none⟩) n cap] wr fun e w' => e = .returned (.int .i64 (r : Int)) ∧ Below wr.heap.size wr w') := Lib.hid (by
        have h := rest_w (some ⟨G, 0, none⟩) cap xs wr (by rw [HRL.out]; omega) HSH (Lib.hid (.inr ⟨G, 0, rfl, Nat.lt_of_lt_of_le HG.out hbw.size, HAT.out _ hbw⟩))
        rw [HRL.out] at h
        rw [HRL.out] at hr
        rw [hr] at h
        exact h)
      have hTP := HTP.out
      rw [hr] at hTP
      obtain ⟨a, ha⟩ : ∃ a, r / 100 = a := ⟨_, rfl⟩
      obtain ⟨b, hb⟩ : ∃ b, r / 10 % 10 = b := ⟨_, rfl⟩
      obtain ⟨c, hc⟩ : ∃ c, r % 10 = c := ⟨_, rfl⟩
      rw [ha, hb, hc] at hTP
      have ai : (r : Int) / 100 = (a : Int) := by omega
      have bi : (r : Int) / 10 % 10 = (b : Int) := by omega
      have ci : (r : Int) % 10 = (c : Int) := by omega
      have at' : (r : Int).tdiv 100 = (a : Int) := by rw [Int.tdiv_eq_ediv_of_nonneg (by omega)]; omega
      have a9 : a < 10 := by omega
      have b9 : b < 10 := by omega
      have c9 : c < 10 := by omega
      obtain ⟨U, hU⟩ : ∃ U, unl xs = U := ⟨_, rfl⟩
      rw [hU] at h0 hTP ⊢
      have la : (Lib.decDigits a).length = 1 := by rw [dec_small a9]; rfl
      have lb : (Lib.decDigits b).length = 1 := by rw [dec_small b9]; rfl
      have lc : (Lib.decDigits c).length = 1 := by rw [dec_small c9]; rfl
      have HDA : Hid (∀ w', Calls Tryz.prog 47 #[.int .i64 (a : Int)] w' fun e w2 => e = .returned (.string (bs (Lib.decDigits a))) ∧ Below w'.heap.size w' w2) := Lib.hid (dec_w a (by omega))
      have HDB : Hid (∀ w', Calls Tryz.prog 47 #[.int .i64 (b : Int)] w' fun e w2 => e = .returned (.string (bs (Lib.decDigits b))) ∧ Below w'.heap.size w' w2) := Lib.hid (dec_w b (by omega))
      have HDC : Hid (∀ w', Calls Tryz.prog 47 #[.int .i64 (c : Int)] w' fun e w2 => e = .returned (.string (bs (Lib.decDigits c))) ∧ Below w'.heap.size w' w2) := Lib.hid (dec_w c (by omega))
      obtain ⟨DA, hDA⟩ : ∃ D, Lib.decDigits a = D := ⟨_, rfl⟩
      obtain ⟨DB, hDB⟩ : ∃ D, Lib.decDigits b = D := ⟨_, rfl⟩
      obtain ⟨DC, hDC⟩ : ∃ D, Lib.decDigits c = D := ⟨_, rfl⟩
      rw [hDA] at la HDA hTP
      rw [hDB] at lb HDB hTP
      rw [hDC] at lc HDC hTP
      have HTX := Lib.hid hTP
      have su : (bs U).size ≤ 300 := by rw [bs_size]; exact h0
      have sa : (bs DA).size = 1 := by rw [bs_size]; exact la
      have sb : (bs DB).size = 1 := by rw [bs_size]; exact lb
      have sc : (bs DC).size = 1 := by rw [bs_size]; exact lc
      have k1 : ¬ (9223372036854775807 < (bs U).size + 4) := by omega
      have k2 : ¬ (9223372036854775807 < (bs U).size + 4 + (bs DA).size) := by omega
      have k3 : ¬ (9223372036854775807 < (bs U).size + 4 + (bs DA).size + (bs DB).size) := by omega
      have k4 : ¬ (9223372036854775807 < (bs U).size + 4 + (bs DA).size + (bs DB).size + (bs DC).size) := by omega
      have k5 : ¬ (9223372036854775807 < (bs U).size + 4 + (bs DA).size + (bs DB).size + (bs DC).size + 1) := by omega
      clear hr ha hb hc hTP hU hUx hDA hDB hDC la lb lc su sa sb sc h0
      go_wp2_with (first
        | (go_at_call 46; refine HRE.out.mono ?_; rintro e w2 ⟨rfl, hb2⟩)
        | (go_at_call_of 47 (Value.int .i64 (a : Int)); refine (HDA.out _).mono ?_; rintro e w3 ⟨rfl, hb3⟩)
        | (go_at_call_of 47 (Value.int .i64 (b : Int)); refine (HDB.out _).mono ?_; rintro e w4 ⟨rfl, hb4⟩)
        | (go_at_call_of 47 (Value.int .i64 (c : Int)); refine (HDC.out _).mono ?_; rintro e w5 ⟨rfl, hb5⟩))
      go_ret
      have h23 := hb2.trans (hb3.mono hb2.size)
      have h24 := h23.trans (hb4.mono h23.size)
      have h25 := h24.trans (hb5.mono h24.size)
      refine ⟨?_, HB0.out.trans ((HB1.out.trans ((hbw.trans (h25.mono hbw.size)).mono HB1.out.size)).mono HB0.out.size)⟩
      rw [HTX.out, ← bs_app, ← bs_app, ← bs_app, ← bs_app, ← bs_app]
      show Ending.returned (Value.string _) = Ending.returned (Value.string _)
      congr 2
      simp only [ByteArray.append_assoc]
      rfl
end Go.Kn
