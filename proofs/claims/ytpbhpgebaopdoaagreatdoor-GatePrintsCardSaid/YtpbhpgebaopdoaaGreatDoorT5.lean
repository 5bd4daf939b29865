/- Contracts of functions that the laws of this seat call, or the evaluator of closed calls and its runs. Conditions: as each theorem states them. -/
import Derived.Test.YtpbhpgebaopdoaaGreatDoorT2
import Derived.Laws.IdiomStrings
import Derived.Shelf.RegionOpen
import Derived.Deep.AppendLies
set_option linter.unusedVariables false
set_option linter.unusedSimpArgs false
namespace Go.Kn
open Go Go.Proofs Go.RowKit

theorem conv1 (x : UInt8) (b : Nat) (w : World) (h : w.cell? ⟨b, 0, none⟩ = some (.int .u8 (x.toNat : Int))) : (convert 56 9 (.slice (some ⟨b, 0, none⟩) 1 1)).run Tryz.prog w = .ok (.string (bs [x])) w :=
  run_convert_bytes_back w 56 9 5 ⟨b, 0, none⟩ 1 [x] Tryz.underlying56 Tryz.underlying5 Tryz.underlying9 (fun j hj => by
    obtain rfl : j = 0 := by simp at hj; omega
    exact h)

set_option maxRecDepth 100000 in
set_option maxHeartbeats 2000000 in
theorem dec_w (n : Nat) (hn : n ≤ 1000000) (w : World) : Calls Tryz.prog 129 #[.int .i64 (n : Int)] w fun e w' => e = .returned (.string (bs (Lib.decDigits n))) ∧ Below w.heap.size w w' := by
  induction n using Nat.strongRecOn generalizing w with
  | ind n ih =>
    obtain ⟨E, hE⟩ : ∃ E, Lib.decDigits n = E := ⟨_, rfl⟩
    rw [hE]
    have n0 : (0 : Int) ≤ (n : Int) := by omega
    have n1 : ¬ (n : Int) < 0 := by omega
    have n2 : (-10 : Int) < (n : Int) := by omega
    by_cases h10 : n < 10
    · obtain ⟨x, hx⟩ : ∃ x, UInt8.ofNat (48 + n) = x := ⟨_, rfl⟩
      have hxn : (x.toNat : Int) = 48 + (n : Int) := by rw [← hx, UInt8.toNat_ofNat']; omega
      rw [Lib.decDigits, dif_pos h10, hx] at hE
      have HE := Lib.hid hE
      have hcv : ∀ w' : World, (convert 56 9 (.slice (some ⟨w'.heap.size, 0, none⟩) 1 1)).run Tryz.prog (w'.alloc (.cells #[.int .u8 (48 + (n : Int))] 5)) = .ok (.string (bs [x])) (w'.alloc (.cells #[.int .u8 (48 + (n : Int))] 5)) := fun w' => conv1 x _ _ (by rw [hxn]; simp)
      have h3 : (n : Int) < 10 := by omega
      clear hE hxn hx ih
      go_enter Tryz.func129, Tryz.ntmps129
      go_wp2
      go_ret
      exact ⟨by rw [HE.out]; rfl, (Below.refl _ _).alloc (Nat.le_refl _) _⟩
    · obtain ⟨x, hx⟩ : ∃ x, UInt8.ofNat (48 + n % 10) = x := ⟨_, rfl⟩
      have hxn : (x.toNat : Int) = 48 + (n : Int) % 10 := by rw [← hx, UInt8.toNat_ofNat']; omega
      rw [Lib.decDigits, dif_neg h10, hx] at hE
      have HE := Lib.hid hE
      have h3 : ¬ (n : Int) < 10 := by omega
      have hq : (n : Int).tdiv 10 = ((n / 10 : Nat) : Int) := by rw [Int.tdiv_eq_ediv_of_nonneg (by omega)]; omega
      have hm : (n : Int).tmod 10 = (n : Int) % 10 := by rw [Int.tmod_eq_emod_of_nonneg (by omega)]
      have IH := Lib.hid (ih (n / 10) (by omega) (by omega))
      go_enter Tryz.func129, Tryz.ntmps129
      go_wp2
      obtain ⟨m, hmm⟩ : ∃ m, n / 10 = m := ⟨_, rfl⟩
      rw [hmm] at hE HE hq IH
      have hml : m ≤ 1000000 := by omega
      have hmi : (n : Int) / 10 = (m : Int) := by omega
      obtain ⟨r, hrr⟩ : ∃ r, n % 10 = r := ⟨_, rfl⟩
      have hri : (n : Int) % 10 = (r : Int) := by omega
      have hr9 : r < 10 := by omega
      rw [hri] at hxn
      have hw1 : IntKind.i64.wrap (m : Int) = (m : Int) := IntWalk.i64_in _ (by omega)
      have hw2 : IntKind.i64.wrap (r : Int) = (r : Int) := IntWalk.i64_in _ (by omega)
      have hw3 : IntKind.i64.wrap (48 + (r : Int)) = 48 + (r : Int) := IntWalk.i64_in _ (by omega)
      have hw4 : IntKind.u8.wrap (48 + (r : Int)) = 48 + (r : Int) := by
        unfold IntKind.wrap
        simp [IntKind.bits, IntKind.signed]
        omega
      have hA : Hid (∀ w' : World, Calls Tryz.prog 129 #[.int .i64 (m : Int)] w' fun e w2 => e = .returned (.string (bs (Lib.decDigits m))) ∧ Below w'.heap.size w' w2) := Lib.hid fun w' => IH.out w'
      obtain ⟨D, hD⟩ : ∃ D, Lib.decDigits m = D := ⟨_, rfl⟩
      have hdl : D.length ≤ 20 := by rw [← hD, Lib.decDigits_length]; exact Lib.nDigits_le20 _ (by omega)
      rw [hD] at hE HE hA
      have hds : (bs D).size = D.length := bs_size D
      have k1 : ¬ (9223372036854775807 < (bs D).size + 1) := by omega
      have k2 : ¬ (9223372036854775807 < (bs D).size + (bs [x]).size) := by rw [bs_size [x]]; simp; omega
      have hxs : (bs [x]).size = 1 := by rw [bs_size]; rfl
      have k4 : ¬ (9223372036854775807 < D.length + (bs [x]).size) := by omega
      have k5 : ¬ (9223372036854775807 < D.length + 1) := by omega
      have HXS := Lib.hid hxs
      clear hxs
      have hcv : ∀ (b : Nat) (w' : World), w'.cell? ⟨b, 0, none⟩ = some (.int .u8 (48 + (r : Int))) → (convert 56 9 (.slice (some ⟨b, 0, none⟩) 1 1)).run Tryz.prog w' = .ok (.string (bs [x])) w' := fun b w' h => conv1 x b w' (by rw [hxn]; exact h)
      clear hD hE hx hxn IH ih
      go_region_law
        ((first
          | (go_simp; go_at_call 129; refine (hA.out _).mono ?_; rintro e w5 ⟨rfl, hb5⟩; try (have hc5 : w5.cell? ⟨w.heap.size, 0, none⟩ = some (.int .u8 (48 + (r : Int))) := by rw [(bcell hb5).1 _ _ (by simp)]; simp))))
      all_goals
        go_wp2
        go_ret
        refine ⟨by rw [bs_app, HE.out]; rfl, ?_⟩
        first
          | exact (Below.drew (Below.refl w.heap.size w)).trans (hb5.mono (by simp))
          | exact (Below.alloc (Below.drew (Below.refl w.heap.size w)) (by simp) _).trans (hb5.mono (by simp))
          | exact ((Below.drew (Below.refl w.heap.size w)).trans (hb5.mono (by simp))).alloc (by have := hb5.size; simpa using this) _
set_option maxRecDepth 100000 in
set_option maxHeartbeats 1000000 in
theorem row_w (wd : List UInt8) (p : Option Addr) (n c : Nat) (f : Nat → Int) (w : World) (hwd : wd.length ≤ 100) (hn : n ≤ 1000) (hf : Hid (∀ i, i < n → 0 ≤ f i ∧ f i ≤ 1000000)) (H : Hid (IntSl w p n f)) :
    Calls Tryz.prog 78 #[.string (bs wd), .slice p n c] w fun e w' => e = .returned (.string (bs (rowL wd (upto f n)))) ∧ Below w.heap.size w w' := by
  go_enter Tryz.func78, Tryz.ntmps78
  go_wp2
  go_loopw [0, 5] (fun s i wr => ∃ k : Nat, k ≤ n ∧ i = .int .i64 k ∧ s = .string (bs (rowL wd (upto f k))) ∧ Below w.heap.size w wr) (fun _ i _ => n - (intOf i).toNat)
  case atStart => exact ⟨0, Nat.zero_le _, rfl, by rw [show upto f 0 = [] from rfl, rowL_nil], Below.refl _ _⟩
  case round =>
    obtain ⟨k, hk, rfl, rfl, hbw⟩ := hrel
    by_cases hlt : k < n
    · obtain ⟨A, O, rfl, hA, h1⟩ := H.out.resolve_left (by omega)
      have y0 := (h1.below hA hbw) k hlt
      have HF := hf.out k hlt
      clear h1
      have n1 : (0 : Int) ≤ (k : Int) := by omega
      have n2 : (k : Int) < (n : Int) := by omega
      have s1 := Lib.itoa_length_le (f k) (by omega) (by omega)
      have s2 := rowL_len wd (upto f k) (fun x hx => by obtain ⟨i, hi, rfl⟩ := mem_upto hx; exact hf.out i (by omega))
      rw [upto_length] at s2
      rw [itoa_pos HF.1] at s1
      have HDE : Hid (∀ w', Calls Tryz.prog 129 #[.int .i64 (f k)] w' fun e w2 => e = .returned (.string (bs (Lib.decDigits (f k).toNat))) ∧ Below w'.heap.size w' w2) := Lib.hid fun w' => by
        have h := dec_w (f k).toNat (by omega) w'
        rwa [Int.toNat_of_nonneg HF.1] at h
      obtain ⟨D, hD⟩ : ∃ D, Lib.decDigits (f k).toNat = D := ⟨_, rfl⟩
      rw [hD] at s1 HDE
      have HDD := Lib.hid hD
      have HFK := Lib.hid HF.1
      have k1 : ¬ (9223372036854775807 < (bs (rowL wd (upto f k))).size + 1) := by rw [bs_size]; omega
      have k2 : ¬ (9223372036854775807 < (bs (rowL wd (upto f k))).size + 1 + (bs D).size) := by rw [bs_size, bs_size]; omega
      clear s1 s2 hD HF
      go_wp2_with (go_at_call 129; refine (HDE.out _).mono ?_; rintro e w1 ⟨rfl, hb1⟩)
      go_roundw
      case rel => exact ⟨k + 1, by omega, by go_num, by rw [upto_succ, rowL_snoc, itoa_pos HFK.out, HDD.out, sp_bs, bs_app, bs_app, List.append_assoc]; rfl, hbw.trans (hb1.mono hbw.size)⟩
      case measure => simp [intOf]; omega
    · obtain rfl : k = n := by omega
      go_wp2
      go_ret
      exact ⟨rfl, hbw⟩

theorem sumRow_le (i : Nat) (hi : i ≤ 1000) (l : List UInt8) : ∀ k, k ≤ 1000 → sumRow i l k ≤ k * 255510255
  | 0, _ => by simp [sumRow]
  | k + 1, h => by
    have ih := sumRow_le i hi l k (by omega)
    have hb : (l.getD k 0).toNat ≤ 255 := by have := (l.getD k 0).toNat_lt; omega
    have p1 : (l.getD k 0).toNat * (k + 1) ≤ 255 * 1000 := Nat.mul_le_mul hb h
    have p2 : (l.getD k 0).toNat * (k + 1) * (i + 1) ≤ 255 * 1000 * 1001 := Nat.mul_le_mul p1 (by omega)
    simp only [sumRow]
    omega
theorem sumAll_le (xs : List (List UInt8)) (hl : ∀ x ∈ xs, x.length ≤ 1000) (hn : xs.length ≤ 1000) : ∀ i, i ≤ xs.length → sumAll xs i ≤ i * 255510255000
  | 0, _ => by simp [sumAll]
  | i + 1, h => by
    have ih := sumAll_le xs hl hn i (by omega)
    have hx : (xs.getD i []).length ≤ 1000 := hl _ (by rw [List.getD_eq_getElem?_getD, List.getElem?_eq_getElem (by omega)]; exact List.getElem_mem _)
    have h1 := sumRow_le i (by omega) (xs.getD i []) (xs.getD i []).length hx
    have h2 : (xs.getD i []).length * 255510255 ≤ 1000 * 255510255 := Nat.mul_le_mul_right _ hx
    simp only [sumAll]
    omega

theorem rest_step2 (S R b k i : Nat) (hS : S + R ≤ 1000000000000000) (hb : b ≤ 255) (hk : k ≤ 1000) (hi : i ≤ 1000) :
    wrap64 ((S : Int) + (R : Int) + wrap64 (wrap64 (wrap64 (b : Int) * ((k : Int) + 1)) * ((i : Int) + 1))) = ((S + (R + b * (k + 1) * (i + 1)) : Nat) : Int) := by
  have p1 : b * (k + 1) ≤ 255255 := Nat.le_trans (Nat.mul_le_mul hb (Nat.succ_le_succ hk)) (by decide)
  obtain ⟨P, hP⟩ : ∃ P, b * (k + 1) = P := ⟨_, rfl⟩
  have c1 : (b : Int) * ((k : Int) + 1) = (P : Int) := by rw [← hP]; simp
  rw [hP] at p1 ⊢
  have p2 : P * (i + 1) ≤ 255510255 := Nat.le_trans (Nat.mul_le_mul p1 (Nat.succ_le_succ hi)) (by decide)
  obtain ⟨Q, hQ⟩ : ∃ Q, P * (i + 1) = Q := ⟨_, rfl⟩
  have c2 : (P : Int) * ((i : Int) + 1) = (Q : Int) := by rw [← hQ]; simp
  rw [hQ] at p2 ⊢
  have e0 : wrap64 (b : Int) = (b : Int) := IntWalk.wrap64_in _ (by omega)
  have e1 : wrap64 (P : Int) = (P : Int) := IntWalk.wrap64_in _ (by omega)
  have e2 : wrap64 (Q : Int) = (Q : Int) := IntWalk.wrap64_in _ (by omega)
  rw [e0, c1, e1, c2, e2]
  clear hP hQ c1 c2 e0 e1 e2
  have e3 : wrap64 ((S : Int) + (R : Int) + (Q : Int)) = (S : Int) + (R : Int) + (Q : Int) := IntWalk.wrap64_in _ (by omega)
  rw [e3]
  omega

end Go.Kn

namespace Go.Kn
open Go Go.Proofs Go.RowKit

theorem dec_small {m : Nat} (h : m < 10) : Lib.decDigits m = [UInt8.ofNat (48 + m)] := by
  rw [Lib.decDigits, dif_pos h]
theorem dec_big {m : Nat} (h : ¬ m < 10) : Lib.decDigits m = Lib.decDigits (m / 10) ++ [UInt8.ofNat (48 + m % 10)] := by
  rw [Lib.decDigits, dif_neg h]

theorem dig3 (r : Nat) (h : r < 1000) : Lib.decDigits (r / 100) ++ (Lib.decDigits (r / 10 % 10) ++ Lib.decDigits (r % 10)) = Lib.repeatL [48] (3 - (Lib.itoa (r : Int)).length) ++ Lib.itoa (r : Int) := by
  rw [itoa_nat]
  by_cases h1 : r < 10
  · have e1 : r / 100 = 0 := by omega
    have e2 : r / 10 % 10 = 0 := by omega
    have e3 : r % 10 = r := by omega
    rw [e1, e2, e3, dec_small h1, dec_small (by decide : 0 < 10)]
    rfl
  · rw [dec_big h1]
    by_cases h2 : r / 10 < 10
    · have e1 : r / 100 = 0 := by omega
      have e2 : r / 10 % 10 = r / 10 := by omega
      rw [e1, e2, dec_small h2, dec_small (by decide : 0 < 10), dec_small (by omega : r % 10 < 10)]
      rfl
    · rw [dec_big h2]
      have e1 : r / 10 / 10 = r / 100 := by omega
      rw [e1, dec_small (by omega : r / 100 < 10), dec_small (by omega : r / 10 % 10 < 10), dec_small (by omega : r % 10 < 10)]
      rfl

theorem unl_snoc (xs : List (List UInt8)) (l : List UInt8) : unl (xs ++ [l]) = unl xs ++ (l ++ [10]) := by simp [unl]

theorem textL_dig (xs : List (List UInt8)) (r : Nat) (h : sumAll xs xs.length % 149 = r) : textL xs = unl xs ++ [101, 110, 100, 32] ++ Lib.decDigits (r / 100) ++ Lib.decDigits (r / 10 % 10) ++ Lib.decDigits (r % 10) ++ [10] := by
  have hr : r < 149 := by rw [← h]; exact Nat.mod_lt _ (by decide)
  rw [text_unl, unl_snoc, endL, h, ← dig3 r (by omega)]
  simp

set_option maxRecDepth 100000 in
set_option maxHeartbeats 2000000 in
theorem sealed_w (p : Option Addr) (c : Nat) (xs : List (List UInt8)) (w : World) (hn : xs.length ≤ 1000) (hl : Hid (∀ x ∈ xs, x.length ≤ 1000)) (H : Hid (StrSl w p xs)) :
    Calls Tryz.prog 79 #[.slice p xs.length c, .int .i64 149] w fun e w' => e = .returned (.string (bs (textL xs))) ∧ Below w.heap.size w w' := by
  have hul : ∀ i, i ≤ xs.length → (unl (xs.take i)).length ≤ 1001 * i := fun i hi => by
    have := unl_len 1000 (xs.take i) (fun x hx => hl.out x (List.mem_of_mem_take hx))
    rw [List.length_take] at this
    have e : min i xs.length = i := by omega
    rw [e] at this; exact this
  have HUL := Lib.hid hul
  clear hul
  go_enter Tryz.func79, Tryz.ntmps79
  go_wp2
  go_loopw [5, 6, 7] (fun out r ii wr => ∃ i : Nat, i ≤ xs.length ∧ ii = .int .i64 (i : Int) ∧ r = .int .i64 ((sumAll xs i : Nat) : Int) ∧ out = .string (bs (unl (xs.take i))) ∧ Below w.heap.size w wr) (fun _ _ ii _ => xs.length - (intOf ii).toNat)
  case atStart => exact ⟨0, Nat.zero_le _, rfl, rfl, rfl, Below.refl _ _⟩
  case round =>
    obtain ⟨i, hi, rfl, rfl, rfl, hbw⟩ := hrel
    have hsl := sumAll_le xs hl.out hn i hi
    have hsl2 : i * 255510255000 ≤ 1000 * 255510255000 := Nat.mul_le_mul_right _ (by omega)
    have hui := HUL.out i hi
    by_cases hlt : i < xs.length
    · obtain ⟨A, O, rfl, hA, h1⟩ := H.out.resolve_left (by omega)
      have HL := hl.out (xs.getD i []) (by rw [List.getD_eq_getElem?_getD, List.getElem?_eq_getElem hlt]; exact List.getElem_mem _)
      have FY : Hid (∀ w', Below w.heap.size w w' → w'.cell? ⟨A, O + i, none⟩ = some (.string (bs (xs.getD i [])))) := Lib.hid fun w' h => (h1.below hA h) i hlt
      have hun : unl (xs.take (i + 1)) = unl (xs.take i) ++ (xs.getD i [] ++ [10]) := by
        rw [take_snoc (x := xs.getD i []) (by simp [List.getD, hlt]), unl_snoc]
      obtain ⟨L, hL⟩ : ∃ L, xs.getD i [] = L := ⟨_, rfl⟩
      rw [hL] at FY HL hun
      have HUN := Lib.hid hun
      clear hun
      obtain ⟨D, hD⟩ : ∃ D, unl (xs.take i) = D := ⟨_, rfl⟩
      rw [hD] at HUN hui ⊢
      clear hD
      have n1 : (0 : Int) ≤ (i : Int) := by omega
      have n2 : (i : Int) < (xs.length : Int) := by omega
      have hsz : (bs L).size = L.length := bs_size L
      have hszD : (bs D).size = D.length := bs_size D
      have k1 : ¬ (9223372036854775807 < D.length + L.length) := by omega
      have k2 : ¬ (9223372036854775807 < D.length + L.length + 1) := by omega
      have hsr := sumRow_le i (by omega) L
      clear h1
      have hsa : sumAll xs (i + 1) = sumAll xs i + sumRow i L L.length := by rw [← hL]; rfl
      have hS := Lib.hid hsa
      clear hsa hL
      have HSR := Lib.hid hsr
      clear hsr
      obtain ⟨S, hSS⟩ : ∃ S, sumAll xs i = S := ⟨_, rfl⟩
      rw [hSS] at hsl hS ⊢
      clear hSS
      go_wp2
      go_loopw [6, 8] (fun r kk wk => ∃ k : Nat, k ≤ L.length ∧ kk = .int .i64 (k : Int) ∧ r = .int .i64 ((S + sumRow i L k : Nat) : Int) ∧ Below w.heap.size w wk) (fun _ kk _ => L.length - (intOf kk).toNat)
      case atStart => exact ⟨0, Nat.zero_le _, rfl, rfl, hbw⟩
      case round =>
        obtain ⟨wm, rfl⟩ : ∃ wm, wm = wr := ⟨_, rfl⟩
        obtain ⟨k, hk, rfl, rfl, hbk⟩ := hrel
        have y0 := FY.out _ hbk
        have hr1 := HSR.out k (by omega)
        have hr2 : k * 255510255 ≤ 1000 * 255510255 := Nat.mul_le_mul_right _ (by omega)
        by_cases hkl : k < L.length
        · have k0 : (0 : Int) ≤ (k : Int) := by omega
          have k1 : (k : Int) < (L.length : Int) := by omega
          have hby : (L.getD k 0).toNat ≤ 255 := by have := (L.getD k 0).toNat_lt; omega
          have hsr3 : S + sumRow i L k ≤ 1000000000000000 := by omega
          have HSR3 := Lib.hid hsr3
          clear hr1 hr2 hsr3
          go_wp2
          go_roundw
          case rel => exact ⟨k + 1, by omega, by go_num, by rw [bs_byte]; first | rw [rest_step2 _ _ _ _ _ HSR3.out hby (by omega) (by omega)]; rfl | (have h := rest_step2 S (sumRow i L k) (L.getD k 0).toNat k i HSR3.out hby (by omega) (by omega); rw [sumRow, ← h]; simp), hbk⟩
          case measure => simp [intOf]; omega
        · obtain rfl : k = L.length := by omega
          clear hr1 hr2
          go_wp2
          go_roundw
          case rel => exact ⟨i + 1, by omega, by go_num, by rw [hS.out], by rw [HUN.out, nl_bs, bs_app, bs_app, List.append_assoc], hbk⟩
          case measure => simp [intOf]; omega
    · obtain rfl : i = xs.length := by omega
      rw [List.take_length] at hui ⊢
      obtain ⟨q, hq⟩ : ∃ q, sumAll xs xs.length % 149 = q := ⟨_, rfl⟩
      have hTX := textL_dig xs q hq
      have hq1 : q < 149 := by rw [← hq]; exact Nat.mod_lt _ (by decide)
      obtain ⟨R, hR⟩ : ∃ R, sumAll xs xs.length = R := ⟨_, rfl⟩
      rw [hR] at hq hsl ⊢
      clear hR
      have e1 : (R : Int).tmod 149 = (q : Int) := by rw [Int.tmod_eq_emod_of_nonneg (by omega)]; omega
      have e2 : (R : Int) % 149 = (q : Int) := by omega
      obtain ⟨a, ha⟩ : ∃ a, q / 100 = a := ⟨_, rfl⟩
      obtain ⟨b, hb⟩ : ∃ b, q / 10 = b := ⟨_, rfl⟩
      obtain ⟨b2, hb2⟩ : ∃ b2, b % 10 = b2 := ⟨_, rfl⟩
      obtain ⟨c, hc⟩ : ∃ c, q % 10 = c := ⟨_, rfl⟩
      rw [ha, hb, hb2, hc] at hTX
      have f1 : (q : Int) / 100 = (a : Int) := by omega
      have f2 : (q : Int) / 10 = (b : Int) := by omega
      have f3 : (b : Int) % 10 = (b2 : Int) := by omega
      have f4 : (q : Int) % 10 = (c : Int) := by omega
      have g1 : IntKind.i64.wrap (q : Int) = (q : Int) := IntWalk.i64_in _ (by omega)
      have g2 : IntKind.i64.wrap (a : Int) = (a : Int) := IntWalk.i64_in _ (by omega)
      have g3 : IntKind.i64.wrap (b : Int) = (b : Int) := IntWalk.i64_in _ (by omega)
      have g4 : IntKind.i64.wrap (b2 : Int) = (b2 : Int) := IntWalk.i64_in _ (by omega)
      have g5 : IntKind.i64.wrap (c : Int) = (c : Int) := IntWalk.i64_in _ (by omega)
      have d1 : (Lib.decDigits a).length ≤ 4 := (dec_len a (by omega)).1
      have d2 : (Lib.decDigits b2).length ≤ 4 := (dec_len b2 (by omega)).1
      have d3 : (Lib.decDigits c).length ≤ 4 := (dec_len c (by omega)).1
      have HDE : Hid (∀ m : Nat, m = a ∨ m = b2 ∨ m = c → ∀ w', Calls Tryz.prog 129 #[.int .i64 (m : Int)] w' fun e w2 => e = .returned (.string (bs (Lib.decDigits m))) ∧ Below w'.heap.size w' w2) := Lib.hid fun m hm w' => dec_w m (by omega) w'
      obtain ⟨D, hD⟩ : ∃ D, unl xs = D := ⟨_, rfl⟩
      rw [hD] at hTX hui ⊢
      obtain ⟨A1, hA1⟩ : ∃ A1, Lib.decDigits a = A1 := ⟨_, rfl⟩
      obtain ⟨A2, hA2⟩ : ∃ A2, Lib.decDigits b2 = A2 := ⟨_, rfl⟩
      obtain ⟨A3, hA3⟩ : ∃ A3, Lib.decDigits c = A3 := ⟨_, rfl⟩
      have HD1 : Hid (∀ w', Calls Tryz.prog 129 #[.int .i64 (a : Int)] w' fun e w2 => e = .returned (.string (bs A1)) ∧ Below w'.heap.size w' w2) := Lib.hid fun w' => by rw [← hA1]; exact HDE.out a (.inl rfl) w'
      have HD2 : Hid (∀ w', Calls Tryz.prog 129 #[.int .i64 (b2 : Int)] w' fun e w2 => e = .returned (.string (bs A2)) ∧ Below w'.heap.size w' w2) := Lib.hid fun w' => by rw [← hA2]; exact HDE.out b2 (.inr (.inl rfl)) w'
      have HD3 : Hid (∀ w', Calls Tryz.prog 129 #[.int .i64 (c : Int)] w' fun e w2 => e = .returned (.string (bs A3)) ∧ Below w'.heap.size w' w2) := Lib.hid fun w' => by rw [← hA3]; exact HDE.out c (.inr (.inr rfl)) w'
      rw [hA1] at hTX d1
      rw [hA2] at hTX d2
      rw [hA3] at hTX d3
      have HTX := Lib.hid hTX
      have z0 : (bs D).size = D.length := bs_size D
      have z1 : (bs A1).size = A1.length := bs_size A1
      have z2 : (bs A2).size = A2.length := bs_size A2
      have z3 : (bs A3).size = A3.length := bs_size A3
      have k0 : ¬ (9223372036854775807 < D.length + 4) := by omega
      have k1 : ¬ (9223372036854775807 < D.length + 4 + A1.length) := by omega
      have k2 : ¬ (9223372036854775807 < D.length + 4 + A1.length + A2.length) := by omega
      have k3 : ¬ (9223372036854775807 < D.length + 4 + A1.length + A2.length + A3.length) := by omega
      have k4 : ¬ (9223372036854775807 < D.length + 4 + A1.length + A2.length + A3.length + 1) := by omega
      have HBW := Lib.hid hbw
      clear hTX hD hA1 hA2 hA3 HDE ha hb hb2 hc hq hbw hui hsl hsl2 d1 d2 d3
      go_wp2_with (first
        | (go_at_call_of 129 (a : Int); refine (HD1.out _).mono ?_; rintro e w1 ⟨rfl, hb1⟩; have hh1 := HBW.out.trans (hb1.mono HBW.out.size))
        | (go_at_call_of 129 (b2 : Int); refine (HD2.out _).mono ?_; rintro e w2 ⟨rfl, hb2⟩; have hh2 := hh1.trans (hb2.mono hh1.size))
        | (go_at_call_of 129 (c : Int); refine (HD3.out _).mono ?_; rintro e w3 ⟨rfl, hb3⟩; have hh3 := hh2.trans (hb3.mono hh2.size)))
      go_ret
      exact ⟨by rw [HTX.out, nl_bs, show (⟨#[101, 110, 100, 32]⟩ : ByteArray) = bs [101, 110, 100, 32] from rfl, bs_app, bs_app, bs_app, bs_app, bs_app]; rfl, hh3⟩
end Go.Kn

namespace Go.Kn
open Go Go.Proofs Go.RowKit

theorem rowLit_w (wd : List UInt8) (l : List Int) (n B : Nat) (w : World) (hwd : wd.length ≤ 100) (hn : l.length = n) (hn2 : n ≤ 10) (hB : w.heap.size = B) (hf : Hid (∀ i, i < n → 0 ≤ l.getD i 0 ∧ l.getD i 0 ≤ 1000000)) :
    Calls Tryz.prog 78 #[.string (bs wd), .slice (some ⟨B, 0, none⟩) n n] (w.alloc (.cells (l.map (Value.int .i64)).toArray 3))
      fun e w' => e = .returned (.string (bs (rowL wd l))) ∧ Below w.heap.size w w' := by
  subst hB; subst hn
  have hal : Below w.heap.size w (w.alloc (.cells (l.map (Value.int .i64)).toArray 3)) := (Below.refl _ _).alloc (Nat.le_refl _) _
  have hu : upto (fun i => l.getD i 0) l.length = l := upto_getD l
  have h := row_w wd (some ⟨w.heap.size, 0, none⟩) l.length l.length (fun i => l.getD i 0) (w.alloc (.cells (l.map (Value.int .i64)).toArray 3)) hwd (by omega) hf (Lib.hid (.inr ⟨w.heap.size, 0, rfl, by simp, fun i hi => by
    have hg : (w.alloc (.cells (l.map (Value.int .i64)).toArray 3)).heap[w.heap.size]? = some (.cells (l.map (Value.int .i64)).toArray 3) := by
      show (w.heap.push _)[w.heap.size]? = _
      simp
    rw [Nat.zero_add]
    unfold World.cell?
    simp only []
    rw [hg]
    simp [List.getD, hi]⟩))
  rw [hu] at h
  exact h.mono fun e w' ⟨he, hb⟩ => ⟨he, hal.trans (hb.mono hal.size)⟩

set_option maxRecDepth 100000 in
set_option maxHeartbeats 8000000 in
theorem rprint_w (na oa : Option Addr) (ln cn lo co : Nat) (N : Nat → P8) (U : Nat → C8) (w : World) (H : Hid (Ne8 w na oa ln lo N U)) (HR : Hid (NetP ln N lo U)) :
    Calls Tryz.prog 34 #[.agg #[.slice na ln cn, .slice oa lo co]] w
      fun e w' => e = .returned (.string (bs (textL (rowsG ln lo N U)))) ∧ Below w.heap.size w w' := by
  obtain ⟨W0, hW0⟩ : ∃ W0, W0 = w.alloc (.cells #[.slice na ln cn, .slice oa lo co] 25) := ⟨_, rfl⟩
  have hz : W0.heap.size = w.heap.size + 1 := by rw [hW0]; simp
  have hB0 : Below w.heap.size w W0 := by rw [hW0]; exact (Below.refl _ _).alloc (Nat.le_refl _) _
  have FX : Hid (∀ w', Below W0.heap.size W0 w' → w'.cell? ⟨w.heap.size, 0, none⟩ = some (.slice na ln cn) ∧ w'.cell? ⟨w.heap.size, 1, none⟩ = some (.slice oa lo co) ∧ Ne8 w' na oa ln lo N U ∧ w.heap.size < w'.heap.size) := Lib.hid fun w' h => by
    have q : ∀ b o, b < W0.heap.size → w'.cell? ⟨b, o, none⟩ = W0.cell? ⟨b, o, none⟩ := (bcell h).1
    have hall := hB0.trans (h.mono (by omega))
    exact ⟨(q _ _ (by omega)).trans (by rw [hW0]; simp), (q _ _ (by omega)).trans (by rw [hW0]; simp), H.out.below hall, (by have := h.size; omega)⟩
  have q1 := HR.out.l7
  have q2 := HR.out.c10
  have q3 := HR.out.l1
  have HRW1 : Hid (∀ k, k < ln → ∀ (W : World) (B : Nat), W.heap.size = B → Calls Tryz.prog 78 #[.string ⟨#[112, 111, 105, 110, 116]⟩, .slice (some ⟨B, 0, none⟩) 3 3] (W.alloc (.cells #[.int .i64 (N k).lo, .int .i64 (N k).hi, .int .i64 (N k).nd] 3)) fun e w' => e = .returned (.string (bs (ptR (N k)))) ∧ Below W.heap.size W w') := Lib.hid (fun k hk W B hB => rowLit_w pointW (ptLn (N k)) 3 B W (by decide) rfl (by decide) hB (Lib.hid fun i hi => by
    have hb := ptOk_of HR.out hk
    match i, hi with
    | 0, _ => exact hb.1
    | 1, _ => exact hb.2.1
    | 2, _ => exact hb.2.2))
  have HRW2 : Hid (∀ k, k < lo → ∀ (W : World) (B : Nat), W.heap.size = B → Calls Tryz.prog 78 #[.string (bs (chWd (U k))), .slice (some ⟨B, 0, none⟩) 3 3] (W.alloc (.cells #[.int .i64 (U k).fr, .int .i64 (U k).to, .int .i64 (U k).cu] 3)) fun e w' => e = .returned (.string (bs (chR (U k)))) ∧ Below W.heap.size W w') := Lib.hid (fun k hk W B hB => rowLit_w (chWd (U k)) (chLn (U k)) 3 B W (by unfold chWd; split <;> decide) rfl (by decide) hB (Lib.hid fun i hi => by
    have hb := chOk_of HR.out hk
    match i, hi with
    | 0, _ => exact hb.1
    | 1, _ => exact hb.2.1
    | 2, _ => exact hb.2.2))
  obtain ⟨i9, hi9, h90, h91, h92⟩ := info_parts info9'
  obtain ⟨RW, hRW⟩ : ∃ RW, rowsG ln lo N U = RW := ⟨_, rfl⟩
  have HRN : Hid (∀ k, k < ln → RW[k]? = some (ptR (N k))) := Lib.hid fun k hk => by rw [← hRW]; exact rowsG_n hk
  have HRO : Hid (∀ j, j < lo → RW[ln + j]? = some (chR (U j))) := Lib.hid fun k hk => by rw [← hRW]; exact rowsG_o hk
  have HRL : Hid (RW.length = ln + lo) := Lib.hid (by rw [← hRW]; exact rowsG_len ln lo N U)
  have HSH : Hid (∀ x ∈ RW, x.length ≤ 1000) := Lib.hid (by rw [← hRW]; exact fun x hx => by have := rows_shortG HR.out x hx; omega)
  rw [hRW]
  clear hRW
  obtain ⟨x0, x1, _, x5⟩ := FX.out _ (Below.refl _ _)
  go_enter Tryz.func34, Tryz.ntmps34
  go_wp2
  go_loopw [3, 4] (fun v ii wr => ∃ k : Nat, k ≤ ln ∧ ii = .int .i64 (k : Int) ∧ wr.ownsRow (w.heap.size + 1) 9 1 v k ((RW.take k).map strV) ∧ Below W0.heap.size W0 wr) (fun _ ii _ => ln - (intOf ii).toNat)
  case atStart => exact ⟨0, Nat.zero_le _, rfl, ⟨rfl, .inl ⟨rfl, rfl⟩⟩, by rw [hW0]; exact Below.refl _ _⟩
  case round =>
    obtain ⟨k, hk, rfl, hown, hbw⟩ := hrel
    clear x0 x1 x5
    obtain ⟨x0, x1, x3, x5⟩ := FX.out _ hbw
    have HO := Lib.hid hown
    have HBW := Lib.hid hbw
    have hzw := hbw.size
    clear hown hbw
    by_cases hlt : k < ln
    · obtain ⟨A, O, rfl, hA, hcells⟩ := x3.hp.resolve_left (by omega)
      obtain ⟨c0, c1, c2⟩ := hcells k hlt
      have n1 : (0 : Int) ≤ (k : Int) := by omega
      have n2 : (k : Int) < (ln : Int) := by omega
      clear x3 hcells
      have HCA := Lib.hid (HRW1.out k hlt (wr.alloc (.cells #[.int .i64 (N k).lo, .int .i64 (N k).hi, .int .i64 (N k).nd] 71)) (wr.heap.size + 1) (by simp))
      have hba : Below wr.heap.size wr (wr.alloc (.cells #[.int .i64 (N k).lo, .int .i64 (N k).hi, .int .i64 (N k).nd] 71)) := (Below.refl _ _).alloc (Nat.le_refl _) _
      have HBA := Lib.hid hba
      clear hba
      go_wp2_with (first
        | (go_at_call 78; refine HCA.out.mono ?_; rintro e w5 ⟨rfl, hb5⟩; have hb6 := HBA.out.trans (hb5.mono HBA.out.size); have hz6 := hb6.size)
        | (at_builtin; refine wpList_append_own_at _ rfl (.tmp 21) (.tmp 32) 107 rfl (w.heap.size + 1) 9 i9 (.string ByteArray.empty) 1 16 Tryz.underlying107 hi9 h90 h91 h92 rfl (by decide) _ k _ rfl ((owns_below HO.out hb6).alloc _) ⟨_, 0, none⟩ 1 1 [.string (bs (ptR (N k)))] rfl rfl (lies_any (by first | exact al_top rfl _ _ | exact al_top (by simp) _ _)) (by intro u hu; simp at hu; subst hu; rfl) (by unfold maxLen; omega) (by omega) (by simp; omega) ?_; intro v7 w7 hown7 hgrow7 _ hloc7))
      have HB7 : Hid (Below W0.heap.size W0 w7) := Lib.hid (((HBW.out.trans (hb6.mono HBW.out.size)).alloc (by omega) _).grown hgrow7 (by simp; omega) (fun r e => by have := own_ge HO.out r e; omega))
      have HO7 := Lib.hid hown7
      clear hown7 hgrow7 hloc7
      go_roundw
      case rel => exact ⟨k + 1, by omega, by go_num, by rw [take_snoc (HRN.out k hlt), List.map_append]; exact HO7.out, HB7.out⟩
      case measure => simp [intOf]; omega
    · obtain rfl : k = ln := by omega
      obtain ⟨wm, rfl⟩ : ∃ wm, wm = wr := ⟨_, rfl⟩
      clear x3
      go_wp2
      go_loopw [3, 6] (fun v ii wr => ∃ j : Nat, j ≤ lo ∧ ii = .int .i64 (j : Int) ∧ wr.ownsRow (w.heap.size + 1) 9 1 v (k + j) ((RW.take (k + j)).map strV) ∧ Below W0.heap.size W0 wr) (fun _ ii _ => lo - (intOf ii).toNat)
      case atStart => exact ⟨0, Nat.zero_le _, rfl, HO.out, HBW.out⟩
      case round =>
        obtain ⟨j, hj, rfl, hown, hbw⟩ := hrel
        clear x0 x1 x5
        obtain ⟨x0, x1, x3, x5⟩ := FX.out _ hbw
        have HO2 := Lib.hid hown
        have HBW2 := Lib.hid hbw
        have hzw2 := hbw.size
        clear hown hbw
        by_cases hlt : j < lo
        · obtain ⟨A, O, rfl, hA, hcells⟩ := x3.hc.resolve_left (by omega)
          obtain ⟨c0, c1, c2, c3⟩ := hcells j hlt
          have n1 : (0 : Int) ≤ (j : Int) := by omega
          have n2 : (j : Int) < (lo : Int) := by omega
          clear x3 hcells
          have HCA := Lib.hid (HRW2.out j hlt (wr.alloc (.cells #[.int .i64 (U j).fr, .int .i64 (U j).to, .int .i64 (U j).cu, .bool (U j).ga] 73)) (wr.heap.size + 1) (by simp))
          have hba : Below wr.heap.size wr (wr.alloc (.cells #[.int .i64 (U j).fr, .int .i64 (U j).to, .int .i64 (U j).cu, .bool (U j).ga] 73)) := (Below.refl _ _).alloc (Nat.le_refl _) _
          have HBA := Lib.hid hba
          clear hba
          have HRJ := Lib.hid (HRO.out j hlt)
          obtain ⟨RR, hRR⟩ : ∃ r, chR (U j) = r := ⟨_, rfl⟩
          rw [hRR] at HCA HRJ
          clear hRR
          obtain ⟨⟨fr, tt, cu, ga⟩, hU⟩ : ∃ u, U j = u := ⟨_, rfl⟩
          rw [hU] at HCA HBA c0 c1 c2 c3
          dsimp only at HCA HBA c0 c1 c2 c3
          clear hU
          cases ga
          all_goals
            simp only [chWd, Bool.false_eq_true, if_false, if_true] at HCA
            go_wp2_with (first
              | (go_at_call 78; refine HCA.out.mono ?_; rintro e w5 ⟨rfl, hb5⟩; have hb6 := HBA.out.trans (hb5.mono HBA.out.size); have hz6 := hb6.size)
              | (at_builtin; refine wpList_append_own_at _ rfl (.tmp 48) (.tmp 58) 107 rfl (w.heap.size + 1) 9 i9 (.string ByteArray.empty) 1 16 Tryz.underlying107 hi9 h90 h91 h92 rfl (by decide) _ (k + j) _ rfl ((owns_below HO2.out hb6).alloc _) ⟨_, 0, none⟩ 1 1 [.string (bs RR)] rfl rfl (lies_any (by first | exact al_top rfl _ _ | exact al_top (by simp) _ _)) (by intro u hu; simp at hu; subst hu; rfl) (by unfold maxLen; omega) (by omega) (by simp; omega) ?_; intro v7 w7 hown7 hgrow7 _ hloc7))
            have HB7 : Hid (Below W0.heap.size W0 w7) := Lib.hid (((HBW2.out.trans (hb6.mono HBW2.out.size)).alloc (by omega) _).grown hgrow7 (by simp; omega) (fun r e => by have := own_ge HO2.out r e; omega))
            have HO7 := Lib.hid hown7
            clear hown7 hgrow7 hloc7
            go_roundw
            case rel => exact ⟨j + 1, by omega, by go_num, by rw [show k + (j + 1) = k + j + 1 by omega, take_snoc HRJ.out, List.map_append]; exact HO7.out, HB7.out⟩
            case measure => simp [intOf]; omega
        · obtain rfl : j = lo := by omega
          have hO := HO2.out
          rw [List.take_of_length_le (by rw [HRL.out]; exact Nat.le_refl _)] at hO
          have hrl := HRL.out
          obtain ⟨G2, cap2, hu, e1, e2, e3, e4, e5⟩ := strSl_of_owns hO (by omega)
          subst hu
          have HTX : Hid (Calls Tryz.prog 79 #[.slice (some ⟨G2, 0, none⟩) (k + j) cap2, .int .i64 149] wr fun e w' => e = .returned (.string (bs (textL RW))) ∧ Below wr.heap.size wr w') := Lib.hid (by
            have h := sealed_w (some ⟨G2, 0, none⟩) cap2 RW wr (by omega) HSH (Lib.hid (.inr ⟨G2, 0, rfl, e4, e5⟩))
            rw [hrl] at h
            exact h)
          clear hO e5 e1 x3
          go_wp2_with (go_at_call 79; refine HTX.out.mono ?_; rintro e w9 ⟨rfl, hb9⟩)
          go_ret
          exact ⟨rfl, hB0.trans ((HBW2.out.trans (hb9.mono HBW2.out.size)).mono (by omega))⟩
end Go.Kn
