/- Walks of functions of layer 2 (contracts that the laws of this seat use). Conditions: as each theorem states them. -/
import Derived.Test.YtnlbofaiihlniaaGreatDoorGS
import Derived.Test.YtnlbofaiihlniaaGreatDoorGN
import Derived.Lib.AppendIntMem
import Derived.Lib.ItoaLen
set_option linter.unusedVariables false
set_option linter.unusedSimpArgs false
namespace Go.Kn
open Go Go.Proofs Go.RowKit

/-- a string of bytes -/
def bs (l : List UInt8) : ByteArray := ⟨l.toArray⟩
theorem bs_app (a b : List UInt8) : bs a ++ bs b = bs (a ++ b) := by
  apply ByteArray.ext
  simp [bs]
theorem bs_size (a : List UInt8) : (bs a).size = a.length := by simp [bs, ByteArray.size]
theorem bs_list (a : List UInt8) : (bs a).data.toList = a := by simp [bs]
theorem bs_inj {a b : List UInt8} (h : bs a = bs b) : a = b := by
  have := congrArg (fun x : ByteArray => x.data.toList) h
  simpa [bs] using this
theorem bs_of (s : ByteArray) : s = bs s.data.toList := by
  apply ByteArray.ext
  simp [bs]

/-- the digits of a power of ten stand where the library reads them, as long as a prefix of the memory is as it was -/
def Pow (w : World) : Prop := Lib.TabBelow Tryz.prog w.heap.size w "internal/strconv.uint64pow10" .u64 Lib.pow10Tab
theorem Pow.on {w w1 : World} (h : Pow w) (hb : Below w.heap.size w w1) : Pow w1 := fun w' h' => h w' (hb.trans (h'.mono hb.size))

theorem itoa_w (n : Int) (h0 : -9223372036854775808 ≤ n) (h1 : n ≤ 9223372036854775807) (w : World) (hp : Hid (Pow w)) :
    Calls Tryz.prog 109 #[.int .i64 n] w fun e w' => e = .returned (.string (bs (Lib.itoa n))) ∧ Below w.heap.size w w' :=
  (Tryz.strconv_Itoa n h0 h1 w (hp.out.here)).mono fun e w' ⟨he, k, os, hw⟩ => ⟨he, hw ▸ Lib.below_grow _ _ (Nat.le_refl _) _ _⟩

/-- a word with numbers behind it -/
def rowL (wd : List UInt8) (l : List Int) : List UInt8 := wd ++ l.flatMap (fun x => 32 :: Lib.itoa x)
theorem rowL_nil (wd : List UInt8) : rowL wd [] = wd := by simp [rowL]
theorem rowL_snoc (wd : List UInt8) (l : List Int) (x : Int) : rowL wd (l ++ [x]) = rowL wd l ++ (32 :: Lib.itoa x) := by simp [rowL]

theorem rowL_len (wd : List UInt8) : ∀ (l : List Int), (∀ x ∈ l, 0 ≤ x ∧ x ≤ 1000000) → (rowL wd l).length ≤ wd.length + 22 * l.length
  | [], _ => by simp [rowL]
  | x :: l, h => by
    have h1 := rowL_len wd l (fun y hy => h y (List.mem_cons_of_mem _ hy))
    have h2 := Lib.itoa_length_le x (by have := (h x List.mem_cons_self).1; omega) (by have := (h x List.mem_cons_self).2; omega)
    simp only [rowL, List.flatMap_cons, List.length_append, List.length_cons] at h1 ⊢
    omega
theorem mem_upto {f : Nat → Int} {k : Nat} {x : Int} (h : x ∈ upto f k) : ∃ i, i < k ∧ f i = x := by
  simpa [upto] using h
theorem sp_bs : (⟨#[32]⟩ : ByteArray) = bs [32] := rfl
theorem nl_bs : (⟨#[10]⟩ : ByteArray) = bs [10] := rfl

set_option maxRecDepth 100000 in
set_option maxHeartbeats 1000000 in
theorem line_w (wd : List UInt8) (p : Option Addr) (n c : Nat) (f : Nat → Int) (w : World) (hwd : wd.length ≤ 100) (hn : n ≤ 1000000) (hf : Hid (∀ i, i < n → 0 ≤ f i ∧ f i ≤ 1000000)) (H : Hid (IntSl w p n f)) (hp : Hid (Pow w)) :
    Calls Tryz.prog 191 #[.string (bs wd), .slice p n c] w fun e w' => e = .returned (.string (bs (rowL wd (upto f n)))) ∧ Below w.heap.size w w' := by
  go_enter Tryz.func191, Tryz.ntmps191
  go_wp2
  go_loopw [0, 9] (fun s i wr => ∃ k : Nat, k ≤ n ∧ i = .int .i64 k ∧ s = .string (bs (rowL wd (upto f k))) ∧ Below w.heap.size w wr) (fun _ i _ => n - (intOf i).toNat)
  case atStart => exact ⟨0, Nat.zero_le _, rfl, by rw [show upto f 0 = [] from rfl, rowL_nil], Below.refl _ _⟩
  case round =>
    obtain ⟨k, hk, rfl, rfl, hbw⟩ := hrel
    by_cases hlt : k < n
    · obtain ⟨A, O, rfl, hA, h1⟩ := H.out.resolve_left (by omega)
      have y0 := (h1.below hA hbw) k hlt
      have HF := hf.out k hlt
      have hpw := Lib.hid (hp.out.on hbw)
      clear h1
      have n1 : (0 : Int) ≤ (k : Int) := by omega
      have n2 : (k : Int) < (n : Int) := by omega
      have s1 := Lib.itoa_length_le (f k) (by omega) (by omega)
      have s2 := rowL_len wd (upto f k) (fun x hx => by obtain ⟨i, hi, rfl⟩ := mem_upto hx; exact hf.out i (by omega))
      rw [upto_length] at s2
      have k1 : ¬ (9223372036854775807 < 1 + (bs (Lib.itoa (f k))).size) := by rw [bs_size]; omega
      have k2 : ¬ (9223372036854775807 < (bs (rowL wd (upto f k))).size + (1 + (bs (Lib.itoa (f k))).size)) := by rw [bs_size, bs_size]; omega
      clear s1 s2
      go_wp2_with (go_at_call 109; refine (itoa_w _ (by omega) (by omega) _ hpw).mono ?_; rintro e w1 ⟨rfl, hb1⟩)
      go_roundw
      case rel => exact ⟨k + 1, by omega, by go_num, by rw [upto_succ, rowL_snoc, sp_bs, bs_app, bs_app]; rfl, hbw.trans (hb1.mono hbw.size)⟩
      case measure => simp [intOf]; omega
    · obtain rfl : k = n := by omega
      go_wp2
      go_ret
      exact ⟨rfl, hbw⟩
end Go.Kn

namespace Go.Kn
open Go Go.Proofs Go.RowKit

/-- the cells of a list of strings -/
def StrAt (w : World) (A O : Nat) (xs : List (List UInt8)) : Prop := ∀ j, j < xs.length → w.cell? ⟨A, O + j, none⟩ = some (.string (bs (xs.getD j [])))
theorem StrAt.below {w w1 : World} {A O : Nat} {xs : List (List UInt8)} (h : StrAt w A O xs) (hA : A < w.heap.size) (hb : Below w.heap.size w w1) : StrAt w1 A O xs := fun j hj => by
  rw [(bcell hb).1 _ _ hA]; exact h j hj
def StrSl (w : World) (p : Option Addr) (xs : List (List UInt8)) : Prop := xs.length = 0 ∨ ∃ A O, p = some ⟨A, O, none⟩ ∧ A < w.heap.size ∧ StrAt w A O xs
theorem StrSl.below {w w1 : World} {p : Option Addr} {xs : List (List UInt8)} (h : StrSl w p xs) (hb : Below w.heap.size w w1) : StrSl w1 p xs := by
  rcases h with h | ⟨A, O, h1, h2, h3⟩
  · exact .inl h
  · exact .inr ⟨A, O, h1, Nat.lt_of_lt_of_le h2 hb.size, h3.below h2 hb⟩

/-- the sum of a line's bytes, each times its place and the line's place, up to a byte -/
def sumRow (i : Nat) (l : List UInt8) : Nat → Nat
  | 0 => 0
  | k + 1 => sumRow i l k + (l.getD k 0).toNat * (k + 1) * (i + 1)
def sumAll (xs : List (List UInt8)) : Nat → Nat
  | 0 => 0
  | i + 1 => sumAll xs i + sumRow i (xs.getD i []) (xs.getD i []).length

theorem rest_step (S R b k i : Nat) (hb : b ≤ 255) (hk : k ≤ 1000) (hi : i ≤ 1000) :
    (wrap64 (((S : Int) + (R : Int)) % 139 + wrap64 (wrap64 (wrap64 (b : Int) * ((k : Int) + 1)) * ((i : Int) + 1)))).tmod 139 = (((S + (R + b * (k + 1) * (i + 1))) % 139 : Nat) : Int) := by
  have p1 : b * (k + 1) ≤ 255255 := Nat.le_trans (Nat.mul_le_mul hb (Nat.succ_le_succ hk)) (by decide)
  obtain ⟨P, hP⟩ : ∃ P, b * (k + 1) = P := ⟨_, rfl⟩
  have c1 : (b : Int) * ((k : Int) + 1) = (P : Int) := by rw [← hP]; simp
  rw [hP] at p1 ⊢
  have p2 : P * (i + 1) ≤ 255510255 := Nat.le_trans (Nat.mul_le_mul p1 (Nat.succ_le_succ hi)) (by decide)
  obtain ⟨Q, hQ⟩ : ∃ Q, P * (i + 1) = Q := ⟨_, rfl⟩
  have c2 : (P : Int) * ((i : Int) + 1) = (Q : Int) := by rw [← hQ]; simp
  rw [hQ] at p2 ⊢
  have e0 : wrap64 (b : Int) = (b : Int) := IntWalk.wrap64_in _ (by omega)
  have e1 : wrap64 (P : Int) = (P : Int) := IntWalk.wrap64_in _ (by omega)
  have e2 : wrap64 (Q : Int) = (Q : Int) := IntWalk.wrap64_in _ (by omega)
  rw [e0, c1, e1, c2, e2]
  clear hP hQ c1 c2 e0 e1 e2
  have e3 : wrap64 (((S : Int) + (R : Int)) % 139 + (Q : Int)) = ((S : Int) + (R : Int)) % 139 + (Q : Int) := IntWalk.wrap64_in _ (by omega)
  rw [e3, Int.tmod_eq_emod_of_nonneg (by omega)]
  omega

theorem bs_byte {L : List UInt8} {k : Nat} (h : k < (bs L).size) : (bs L)[k] = L.getD k 0 := by
  have h' : k < L.length := by rwa [bs_size] at h
  show (bs L).data[k] = _
  simp [bs, List.getD, h']

/-- the last line of a text, with the check of those before it -/
def endL (xs : List (List UInt8)) : List UInt8 := [101, 110, 100, 32] ++ (Lib.repeatL [48] (3 - (Lib.itoa ((sumAll xs xs.length % 139 : Nat) : Int)).length) ++ Lib.itoa ((sumAll xs xs.length % 139 : Nat) : Int))

theorem digits_le3 (r : Nat) (h : r < 139) : 1 ≤ (Lib.itoa (r : Int)).length ∧ (Lib.itoa (r : Int)).length ≤ 3 := by
  have e : Lib.itoa (r : Int) = Lib.decDigits r := by
    unfold Lib.itoa; rw [if_neg (by omega)]; rfl
  rw [e, Lib.decDigits_length]
  refine ⟨Lib.nDigits_pos r, ?_⟩
  by_cases h1 : r < 10
  · rw [Lib.nDigits_small h1]; omega
  · rw [Lib.nDigits_big h1]
    by_cases h2 : r / 10 < 10
    · rw [Lib.nDigits_small h2]; omega
    · rw [Lib.nDigits_big h2, Lib.nDigits_small (by omega)]; omega

theorem repeat_len : ∀ (c : Nat), (Lib.repeatL [48] c).length = c
  | 0 => by simp [Lib.repeatL]
  | c + 1 => by simp [Lib.repeatL, repeat_len c]

set_option maxRecDepth 100000 in
set_option maxHeartbeats 1000000 in
theorem endOf_w (p : Option Addr) (c : Nat) (xs : List (List UInt8)) (w : World) (hn : xs.length ≤ 1000) (hl : Hid (∀ x ∈ xs, x.length ≤ 1000)) (H : Hid (StrSl w p xs)) (hp : Hid (Pow w)) :
    Calls Tryz.prog 78 #[.slice p xs.length c, .int .i64 139] w fun e w' => e = .returned (.string (bs (endL xs))) ∧ Below w.heap.size w w' := by
  obtain ⟨E, hE⟩ : ∃ E, endL xs = E := ⟨_, rfl⟩
  rw [hE]
  have HE := Lib.hid hE
  clear hE
  go_enter Tryz.func78, Tryz.ntmps78
  go_wp2
  go_loopw [5, 12] (fun r ii wr => ∃ i : Nat, i ≤ xs.length ∧ ii = .int .i64 (i : Int) ∧ r = .int .i64 ((sumAll xs i % 139 : Nat) : Int) ∧ Below w.heap.size w wr) (fun _ ii _ => xs.length - (intOf ii).toNat)
  case atStart => exact ⟨0, Nat.zero_le _, rfl, rfl, Below.refl _ _⟩
  case round =>
    obtain ⟨i, hi, rfl, rfl, hbw⟩ := hrel
    by_cases hlt : i < xs.length
    · obtain ⟨A, O, rfl, hA, h1⟩ := H.out.resolve_left (by omega)
      have y0 := (h1.below hA hbw) i hlt
      have HL := hl.out (xs.getD i []) (by rw [List.getD_eq_getElem?_getD, List.getElem?_eq_getElem hlt]; exact List.getElem_mem _)
      obtain ⟨L, hL⟩ : ∃ L, xs.getD i [] = L := ⟨_, rfl⟩
      rw [hL] at y0 HL
      have n1 : (0 : Int) ≤ (i : Int) := by omega
      have n2 : (i : Int) < (xs.length : Int) := by omega
      have hsz : (bs L).size = L.length := bs_size L
      clear h1
      have hsa : sumAll xs (i + 1) = sumAll xs i + sumRow i L L.length := by rw [← hL]; rfl
      have hS := Lib.hid hsa
      clear hsa
      clear hL
      obtain ⟨m, hm⟩ : ∃ m, m = xs.length := ⟨_, rfl⟩
      go_wp2
      go_loopw [5, 19] (fun r kk wk => ∃ k : Nat, k ≤ L.length ∧ kk = .int .i64 (k : Int) ∧ r = .int .i64 (((sumAll xs i + sumRow i L k) % 139 : Nat) : Int) ∧ Below w.heap.size w wk) (fun _ kk _ => L.length - (intOf kk).toNat)
      case atStart => exact ⟨0, Nat.zero_le _, rfl, rfl, hbw⟩
      case round =>
        obtain ⟨wm, rfl⟩ : ∃ wm, wm = wr := ⟨_, rfl⟩
        obtain ⟨k, hk, rfl, rfl, hbk⟩ := hrel
        by_cases hkl : k < L.length
        · have k0 : (0 : Int) ≤ (k : Int) := by omega
          have k1 : (k : Int) < (L.length : Int) := by omega
          have hby : (L.getD k 0).toNat ≤ 255 := by have := (L.getD k 0).toNat_lt; omega
          go_wp2
          go_roundw
          case rel => exact ⟨k + 1, by omega, by go_num, by rw [bs_byte, rest_step _ _ _ _ _ hby (by omega) (by omega)]; rfl, hbk⟩
          case measure => simp [intOf]; omega
        · obtain rfl : k = L.length := by omega
          go_wp2
          go_roundw
          case rel => exact ⟨i + 1, by omega, by go_num, by rw [hS.out], hbk⟩
          case measure => simp [intOf]; omega
    · obtain rfl : i = xs.length := by omega
      have hr : sumAll xs xs.length % 139 < 139 := Nat.mod_lt _ (by decide)
      have hE : E = [101, 110, 100, 32] ++ (Lib.repeatL [48] (3 - (Lib.itoa ((sumAll xs xs.length % 139 : Nat) : Int)).length) ++ Lib.itoa ((sumAll xs xs.length % 139 : Nat) : Int)) := HE.out.symm
      obtain ⟨r, hre⟩ : ∃ r, sumAll xs xs.length % 139 = r := ⟨_, rfl⟩
      rw [hre] at hr hE ⊢
      obtain ⟨z1, z2⟩ := digits_le3 r hr
      obtain ⟨D, hD⟩ : ∃ D, Lib.itoa (r : Int) = D := ⟨_, rfl⟩
      have hpw := Lib.hid (hp.out.on hbw)
      have HI : Hid (Calls Tryz.prog 109 #[.int .i64 (r : Int)] wr fun e w' => e = .returned (.string (bs D)) ∧ Below wr.heap.size wr w') := Lib.hid (hD ▸ itoa_w (r : Int) (by omega) (by omega) wr hpw)
      rw [hD] at z1 z2 hE
      have hds : (bs D).size = D.length := bs_size D
      have HR : Hid (∀ w1, Calls Tryz.prog 110 #[.string ⟨#[48]⟩, .int .i64 (3 - (D.length : Int))] w1 fun e w' => e = .returned (.string (bs (Lib.repeatL [48] (3 - D.length)))) ∧ Below w1.heap.size w1 w') := Lib.hid fun w1 => by
        have e : (3 - (D.length : Int)) = ((3 - D.length : Nat) : Int) := by omega
        rw [e]
        exact Tryz.strings_Repeat ⟨#[48]⟩ (3 - D.length) w1 (by omega) (by show 1 * _ ≤ _; omega)
      have hzl := repeat_len (3 - D.length)
      obtain ⟨Z, hZ⟩ : ∃ Z, Lib.repeatL [48] (3 - D.length) = Z := ⟨_, rfl⟩
      rw [hZ] at hzl HR hE
      have HEE := Lib.hid hE
      clear hE
      have hzs : (bs Z).size = Z.length := bs_size Z
      have k1 : ¬ (9223372036854775807 < 4 + (bs Z).size) := by omega
      have k2 : ¬ (9223372036854775807 < 4 + (bs Z).size + (bs D).size) := by omega
      clear hD hZ hre hzl
      go_wp2_with (first
        | (go_at_call 109; refine HI.out.mono ?_; rintro e w1 ⟨rfl, hb1⟩)
        | (go_at_call 110; refine (HR.out _).mono ?_; rintro e w2 ⟨rfl, hb2⟩))
      go_ret
      refine ⟨?_, hbw.trans ((hb1.trans (hb2.mono hb1.size)).mono hbw.size)⟩
      rw [HEE.out, ← bs_app, ← bs_app]
      rfl
end Go.Kn

namespace Go.Kn
open Go Go.Proofs Go.RowKit

theorem info9' : (Tryz.prog.info? 9).map (fun i => (i.zero, i.size, i.bytes)) = some (some (.string ByteArray.empty), 1, 16) := by kernel_rfl

theorem lies_any {W : World} {b : Nat} {x : Value} (h : W.cell? ⟨b, 0, none⟩ = some x) : ∀ (j : Nat) (u : Value), [x][j]? = some u → W.cell? ((⟨b, 0, none⟩ : Addr).add j) = some u := by
  intro j u hj
  match j, hj with
  | 0, hj => simp at hj; subst hj; exact h
theorem al_top {W : World} {n : Nat} (hn : W.heap.size = n) (x : Value) (T : TypeId) : (W.alloc (.cells #[x] T)).cell? ⟨n, 0, none⟩ = some x := by subst hn; simp

structure Stop (p : Prop) : Prop where
  out : p
theorem stopAt {p : Prop} (h : Stop p) : p := h.out

def strV (x : List UInt8) : Value := .string (bs x)

theorem strSl_of_owns {w : World} {base n : Nat} {v : Value} {xs : List (List UInt8)} (h : w.ownsRow base 9 1 v n (xs.map strV)) (h0 : n ≠ 0) :
    ∃ G cap, v = .slice (some ⟨G, 0, none⟩) n cap ∧ n = xs.length ∧ n ≤ cap ∧ base ≤ G ∧ G < w.heap.size ∧ StrAt w G 0 xs := by
  have hl : n = xs.length := by have := h.1; simp at this; omega
  rcases h.2 with ⟨rfl, rfl⟩ | ⟨g, cap, cur, rfl, hb, hg, hn, hc, hs, hx⟩
  · exact (h0 rfl).elim
  · refine ⟨g, cap, rfl, hl, by omega, hb, (Array.getElem?_eq_some_iff.1 hg).1, fun i hi => ?_⟩
    have hj : (xs.map strV)[i]? = some (.string (bs (xs.getD i []))) := by
      simp [List.getD, hi, strV]
    rw [← hx] at hj
    rw [List.getElem?_take] at hj
    split at hj
    · simp only [Array.getElem?_toList] at hj
      simp [World.cell?, hg, hj]
    · cases hj

theorem join_w (G o n c : Nat) (ys : List (List UInt8)) (w : World) (hn : n = ys.length) (hG : G < w.heap.size) (H : Hid (StrAt w G o ys)) (hc : n ≤ c) (hnl : n ≤ 1001) (hT : (Lib.join ys [10]).length ≤ 1000000) :
    Calls Tryz.prog 76 #[.slice (some ⟨G, o, none⟩) n c, .string ⟨#[10]⟩] w fun e w' => e = .returned (.string (bs (Lib.join ys [10]))) ∧ Below w.heap.size w w' := by
  subst hn
  have e1 : (ys.map bs).map (fun x : ByteArray => x.data.toList) = ys := by
    simp [bs, Function.comp_def]
  have h := Tryz.strings_Join G o c (ys.map bs) ⟨#[10]⟩ w (fun j x hj => by
    have hj' : j < ys.length := by
      have := (List.getElem?_eq_some_iff.1 hj).1
      simpa using this
    rw [H.out j hj']
    rw [List.getElem?_map, List.getElem?_eq_getElem hj'] at hj
    simp at hj
    simp [List.getD, hj', hj]) hG (by simp; omega) (by simpa using hc) (by rw [e1]; show (Lib.join ys [10]).length ≤ _; omega)
  rw [e1] at h
  simpa [bs] using h

/-- the text of lines -/
def textL (xs : List (List UInt8)) : List UInt8 := Lib.join (xs ++ [endL xs]) [10] ++ [10]

set_option maxRecDepth 100000 in
set_option maxHeartbeats 1000000 in
theorem text_w (A O c : Nat) (xs : List (List UInt8)) (w : World) (hn1 : 1 ≤ xs.length) (hn : xs.length ≤ 1000) (hl : Hid (∀ x ∈ xs, x.length ≤ 1000)) (hA : A < w.heap.size) (H : Hid (StrAt w A O xs)) (hp : Hid (Pow w)) (hT : (textL xs).length ≤ 1000000) :
    Calls Tryz.prog 41 #[.slice (some ⟨A, O, none⟩) xs.length c, .int .i64 139] w fun e w' => e = .returned (.string (bs (textL xs))) ∧ Below w.heap.size w w' := by
  obtain ⟨i0, hi, hz0, hz1, hz2⟩ := info_parts info9'
  have HC : Hid (Calls Tryz.prog 77 #[.slice (some ⟨A, O, none⟩) xs.length c] w fun e w' => (∃ v', e = .returned v' ∧ w'.ownsRow w.heap.size 9 1 v' xs.length (xs.map strV) ∧ v' ≠ .slice none 0 0) ∧ Below w.heap.size w w') := Lib.hid ((Tryz.slices_Clone_string A O xs.length c (xs.map bs) w (by simp) (by omega) (fun j hj => by
      have hj' : j < xs.length := by simpa using hj
      rw [H.out j hj']
      simp [List.getD, hj'])).mono fun e w' ⟨v', h1, h2, h3, h4⟩ => ⟨⟨v', h1, by
        have e1 : ((xs.map bs).take xs.length).map Value.string = xs.map strV := by
          rw [List.take_of_length_le (by simp)]
          simp [strV]
        rw [← e1]; exact h2, h3⟩, h4⟩)
  have HEN : Hid (∀ w1, Below w.heap.size w w1 → Calls Tryz.prog 78 #[.slice (some ⟨A, O, none⟩) xs.length c, .int .i64 139] w1 fun e w' => e = .returned (.string (bs (endL xs))) ∧ Below w1.heap.size w1 w') := Lib.hid fun w1 h => endOf_w _ c xs w1 hn hl (Lib.hid (.inr ⟨A, O, rfl, Nat.lt_of_lt_of_le hA h.size, H.out.below hA h⟩)) (Lib.hid (hp.out.on h))
  obtain ⟨n, hnn⟩ : ∃ n, xs.length = n := ⟨_, rfl⟩
  obtain ⟨T, hTT⟩ : ∃ T, textL xs = T := ⟨_, rfl⟩
  rw [hTT] at hT ⊢
  rw [hnn] at hn1 hn HC HEN ⊢
  have HN := Lib.hid hnn
  have HTT := Lib.hid hTT
  clear hnn hTT
  go_enter Tryz.func41, Tryz.ntmps41
  go_wp2_with (first
    | (go_at_call 77; refine HC.out.mono ?_; rintro e w1 ⟨⟨v1, rfl, hv1, hv2⟩, hb1⟩; have hz1' := hb1.size; have HO1 := Lib.hid hv1; clear hv1 hv2)
    | (go_at_call 78; refine (HEN.out _ hb1).mono ?_; rintro e w2 ⟨rfl, hb2⟩; have hz2' := hb2.size; have HO2 := Lib.hid (owns_below HO1.out hb2))
    | (at_builtin; refine wpList_append_own_at _ rfl (.tmp 6) (.tmp 10) 85 rfl w.heap.size 9 i0 (.string ByteArray.empty) 1 16 Tryz.underlying85 hi hz0 hz1 hz2 rfl (by decide) _ n _ rfl (HO2.out.alloc _) ⟨_, 0, none⟩ 1 1 [Value.string (bs (endL xs))] rfl rfl (lies_any (by first | exact al_top rfl _ _ | exact al_top (by simp) _ _)) (by intro u hu; simp at hu; subst hu; rfl) (by unfold maxLen; omega) (by omega) (by simp; omega) ?_; intro v7 w7 hown7 hgrow7 _ hloc7))
  have hb7 : Below w.heap.size w w7 := ((hb1.trans (hb2.mono hz1')).alloc (by omega) _).grown hgrow7 (by simp; omega) (fun r e => by have := own_ge HO2.out r e; omega)
  obtain ⟨G, cap, rfl, g1, g2, g3, g4, g5⟩ := strSl_of_owns (xs := xs ++ [endL xs]) (by simpa [strV] using hown7) (by omega)
  have hjl : (Lib.join (xs ++ [endL xs]) [10]).length + 1 = T.length := by rw [← HTT.out]; simp [textL]
  have HJ : Hid (Calls Tryz.prog 76 #[.slice (some ⟨G, 0, none⟩) (n + 1) cap, .string ⟨#[10]⟩] w7 fun e w' => e = .returned (.string (bs (Lib.join (xs ++ [endL xs]) [10]))) ∧ Below w7.heap.size w7 w') := Lib.hid (join_w G 0 (n + 1) cap (xs ++ [endL xs]) w7 g1 g4 (Lib.hid g5) g2 (by omega) (by omega))
  have hTe : T = Lib.join (xs ++ [endL xs]) [10] ++ [10] := HTT.out.symm
  obtain ⟨J, hJ⟩ : ∃ J, Lib.join (xs ++ [endL xs]) [10] = J := ⟨_, rfl⟩
  rw [hJ] at HJ hjl hTe
  have HTE := Lib.hid hTe
  have k1 : ¬ (9223372036854775807 < (bs J).size + 1) := by rw [bs_size]; omega
  clear hJ hTe hown7 hgrow7 hloc7 g5
  go_wp2_with (go_at_call 76; refine HJ.out.mono ?_; rintro e w8 ⟨rfl, hb8⟩)
  go_ret
  refine ⟨?_, hb7.trans (hb8.mono hb7.size)⟩
  rw [HTE.out, ← bs_app]
  rfl
end Go.Kn

namespace Go.Kn
open Go Go.Proofs Go.RowKit

def speedsW : List UInt8 := [115, 112, 101, 101, 100, 115]
def stretchW : List UInt8 := [115, 116, 114, 101, 116, 99, 104]

set_option maxRecDepth 100000 in
set_option maxHeartbeats 1000000 in
theorem text1_w (p : Option Addr) (n c : Nat) (f : Nat → Int) (w : World) (hn : n ≤ 1000000) (hf : Hid (∀ i, i < n → 0 ≤ f i ∧ f i ≤ 1000000)) (H : Hid (IntSl w p n f)) (hp : Hid (Pow w)) :
    Calls Tryz.prog 190 #[.slice p n c] w fun e w' => e = .returned (.string (bs (rowL speedsW (upto f n)))) ∧ Below w.heap.size w w' := by
  have HL : Hid (Calls Tryz.prog 191 #[.string ⟨#[115, 112, 101, 101, 100, 115]⟩, .slice p n c] w fun e w' => e = .returned (.string (bs (rowL speedsW (upto f n)))) ∧ Below w.heap.size w w') := Lib.hid (line_w speedsW p n c f w (by decide) hn hf H hp)
  go_enter Tryz.func190, Tryz.ntmps190
  go_wp2_with (go_at_call 191; refine HL.out.mono ?_; rintro e w1 ⟨rfl, hb⟩)
  go_ret
  exact ⟨rfl, hb⟩

def stL (x : St5) : List Int := [x.b, x.d, x.f, x.lo, x.hi]

theorem upto_getD (l : List Int) : upto (fun i => l.getD i 0) l.length = l := by
  apply List.ext_getElem
  · simp [upto]
  · intro i h1 h2
    simp [upto, List.getD, h2]

def St5Ok (x : St5) : Prop := (0 ≤ x.b ∧ x.b ≤ 1000000) ∧ (0 ≤ x.d ∧ x.d ≤ 1000000) ∧ (0 ≤ x.f ∧ x.f ≤ 1000000) ∧ (0 ≤ x.lo ∧ x.lo ≤ 1000000) ∧ (0 ≤ x.hi ∧ x.hi ≤ 1000000)

theorem stL_at {x : St5} (h : St5Ok x) : ∀ i, i < 5 → 0 ≤ (stL x).getD i 0 ∧ (stL x).getD i 0 ≤ 1000000 := by
  obtain ⟨h1, h2, h3, h4, h5⟩ := h
  intro i hi
  match i, hi with
  | 0, _ => exact h1
  | 1, _ => exact h2
  | 2, _ => exact h3
  | 3, _ => exact h4
  | 4, _ => exact h5

theorem line5_w (x : St5) (B : Nat) (w : World) (hB : w.heap.size = B) (hf : Hid (St5Ok x)) (hp : Hid (Pow w)) :
    Calls Tryz.prog 191 #[.string ⟨#[115, 116, 114, 101, 116, 99, 104]⟩, .slice (some ⟨B, 0, none⟩) 5 5] (w.alloc (.cells #[.int .i64 x.b, .int .i64 x.d, .int .i64 x.f, .int .i64 x.lo, .int .i64 x.hi] 3))
      fun e w' => e = .returned (.string (bs (rowL stretchW (stL x)))) ∧ Below w.heap.size w w' := by
  subst hB
  have hal : Below w.heap.size w (w.alloc (.cells #[.int .i64 x.b, .int .i64 x.d, .int .i64 x.f, .int .i64 x.lo, .int .i64 x.hi] 3)) := (Below.refl _ _).alloc (Nat.le_refl _) _
  have hu : upto (fun i => (stL x).getD i 0) 5 = stL x := upto_getD (stL x)
  have h := line_w stretchW (some ⟨w.heap.size, 0, none⟩) 5 5 (fun i => (stL x).getD i 0) _ (by decide) (by decide) (Lib.hid (stL_at hf.out)) (Lib.hid (.inr ⟨w.heap.size, 0, rfl, by simp, fun i hi => by
    match i, hi with
    | 0, _ => simp [stL]
    | 1, _ => simp [stL]
    | 2, _ => simp [stL]
    | 3, _ => simp [stL]
    | 4, _ => simp [stL]⟩)) (Lib.hid (hp.out.on hal))
  rw [hu] at h
  exact h.mono fun e w' ⟨he, hb⟩ => ⟨he, hal.trans (hb.mono hal.size)⟩

set_option maxRecDepth 100000 in
set_option maxHeartbeats 1000000 in
theorem text2_w (x : St5) (w : World) (hf : Hid (St5Ok x)) (hp : Hid (Pow w)) :
    Calls Tryz.prog 193 #[.agg #[.int .i64 x.b, .int .i64 x.d, .int .i64 x.f, .int .i64 x.lo, .int .i64 x.hi]] w fun e w' => e = .returned (.string (bs (rowL stretchW (stL x)))) ∧ Below w.heap.size w w' := by
  have hal : Below w.heap.size w (w.alloc (.cells #[.int .i64 x.b, .int .i64 x.d, .int .i64 x.f, .int .i64 x.lo, .int .i64 x.hi] 84)) := (Below.refl _ _).alloc (Nat.le_refl _) _
  have hpa := Lib.hid (hp.out.on hal)
  have HAL := Lib.hid hal
  clear hal
  go_enter Tryz.func193, Tryz.ntmps193
  go_wp2_with (go_at_call 191; refine (line5_w x _ _ (by simp) hf hpa).mono ?_; rintro e w1 ⟨rfl, hb⟩)
  go_ret
  exact ⟨rfl, HAL.out.trans (hb.mono HAL.out.size)⟩
end Go.Kn
