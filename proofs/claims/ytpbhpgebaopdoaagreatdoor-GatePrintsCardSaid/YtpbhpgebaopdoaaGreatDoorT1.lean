/- Contracts of functions that the laws of this seat call, or the evaluator of closed calls and its runs. Conditions: as each theorem states them. -/
import Derived.Test.YtpbhpgebaopdoaaGreatDoorT0
import Derived.Test.YtpbhpgebaopdoaaGreatDoorG0
import Derived.Test.YtpbhpgebaopdoaaGreatDoorG1
import Derived.WalkKit
import Derived.WalkSpells
import Derived.WalkLawsBesides
import Derived.Lib.Hide
import Derived.Deep.QuietTactic
import Derived.BigQuiet
import Derived.WalkSmall
import Derived.OwnWalk
import Derived.Deep.RegionWith
import Derived.Deep.RegionHeld3
import Derived.Deep.AppendLies
import Derived.Lib.AppendIntMem
import Derived.Lib.ItoaLen
set_option linter.unusedVariables false
set_option linter.unusedSimpArgs false
namespace Go.Kn
open Go Go.Proofs Go.RowKit Go.Shelf

/-- a string of bytes -/
def bs (l : List UInt8) : ByteArray := ⟨l.toArray⟩

theorem bs_app (a b : List UInt8) : bs a ++ bs b = bs (a ++ b) := by
  apply ByteArray.ext
  simp [bs]

theorem bs_size (a : List UInt8) : (bs a).size = a.length := by simp [bs, ByteArray.size]

theorem bs_list (a : List UInt8) : (bs a).data.toList = a := by simp [bs]

theorem bs_inj {a b : List UInt8} (h : bs a = bs b) : a = b := by
  have := congrArg (fun x : ByteArray => x.data.toList) h
  simpa [bs] using this

theorem bs_of (s : ByteArray) : s = bs s.data.toList := by
  apply ByteArray.ext
  simp [bs]

/-- the digits of a power of ten stand where the library reads them, as long as a prefix of the memory is as it was -/
def Pow (w : World) : Prop := Lib.TabBelow Tryz.prog w.heap.size w "internal/strconv.uint64pow10" .u64 Lib.pow10Tab

theorem Pow.on {w w1 : World} (h : Pow w) (hb : Below w.heap.size w w1) : Pow w1 := fun w' h' => h w' (hb.trans (h'.mono hb.size))

theorem itoa_w (n : Int) (h0 : -9223372036854775808 ≤ n) (h1 : n ≤ 9223372036854775807) (w : World) (hp : Hid (Pow w)) :
    Calls Tryz.prog 160 #[.int .i64 n] w fun e w' => e = .returned (.string (bs (Lib.itoa n))) ∧ Below w.heap.size w w' :=
  (Tryz.strconv_Itoa n h0 h1 w (hp.out.here)).mono fun e w' ⟨he, k, os, hw⟩ => ⟨he, hw ▸ Lib.below_grow _ _ (Nat.le_refl _) _ _⟩

/-- a word with numbers behind it -/
def rowL (wd : List UInt8) (l : List Int) : List UInt8 := wd ++ l.flatMap (fun x => 32 :: Lib.itoa x)

theorem rowL_nil (wd : List UInt8) : rowL wd [] = wd := by simp [rowL]

theorem rowL_snoc (wd : List UInt8) (l : List Int) (x : Int) : rowL wd (l ++ [x]) = rowL wd l ++ (32 :: Lib.itoa x) := by simp [rowL]

theorem rowL_len (wd : List UInt8) : ∀ (l : List Int), (∀ x ∈ l, 0 ≤ x ∧ x ≤ 1000000) → (rowL wd l).length ≤ wd.length + 22 * l.length
  | [], _ => by simp [rowL]
  | x :: l, h => by
    have h1 := rowL_len wd l (fun y hy => h y (List.mem_cons_of_mem _ hy))
    have h2 := Lib.itoa_length_le x (by have := (h x List.mem_cons_self).1; omega) (by have := (h x List.mem_cons_self).2; omega)
    simp only [rowL, List.flatMap_cons, List.length_append, List.length_cons] at h1 ⊢
    omega

theorem mem_upto {f : Nat → Int} {k : Nat} {x : Int} (h : x ∈ upto f k) : ∃ i, i < k ∧ f i = x := by
  simpa [upto] using h

theorem sp_bs : (⟨#[32]⟩ : ByteArray) = bs [32] := rfl

theorem nl_bs : (⟨#[10]⟩ : ByteArray) = bs [10] := rfl

set_option maxRecDepth 100000 in
set_option maxHeartbeats 1000000 in
theorem line_w (wd : List UInt8) (p : Option Addr) (n c : Nat) (f : Nat → Int) (w : World) (hwd : wd.length ≤ 100) (hn : n ≤ 1000000) (hf : Hid (∀ i, i < n → 0 ≤ f i ∧ f i ≤ 1000000)) (H : Hid (IntSl w p n f)) (hp : Hid (Pow w)) :
    Calls Tryz.prog 234 #[.string (bs wd), .slice p n c] w fun e w' => e = .returned (.string (bs (rowL wd (upto f n)))) ∧ Below w.heap.size w w' := by
  go_enter Tryz.func234, Tryz.ntmps234
  go_wp2
  go_loopw [0, 9] (fun s i wr => ∃ k : Nat, k ≤ n ∧ i = .int .i64 k ∧ s = .string (bs (rowL wd (upto f k))) ∧ Below w.heap.size w wr) (fun _ i _ => n - (intOf i).toNat)
  case atStart => exact ⟨0, Nat.zero_le _, rfl, by rw [show upto f 0 = [] from rfl, rowL_nil], Below.refl _ _⟩
  case round =>
    obtain ⟨k, hk, rfl, rfl, hbw⟩ := hrel
    by_cases hlt : k < n
    · obtain ⟨A, O, rfl, hA, h1⟩ := H.out.resolve_left (by omega)
      have y0 := (h1.below hA hbw) k hlt
      have HF := hf.out k hlt
      have hpw := Lib.hid (hp.out.on hbw)
      clear h1
      have n1 : (0 : Int) ≤ (k : Int) := by omega
      have n2 : (k : Int) < (n : Int) := by omega
      have s1 := Lib.itoa_length_le (f k) (by omega) (by omega)
      have s2 := rowL_len wd (upto f k) (fun x hx => by obtain ⟨i, hi, rfl⟩ := mem_upto hx; exact hf.out i (by omega))
      rw [upto_length] at s2
      have k1 : ¬ (9223372036854775807 < 1 + (bs (Lib.itoa (f k))).size) := by rw [bs_size]; omega
      have k2 : ¬ (9223372036854775807 < (bs (rowL wd (upto f k))).size + (1 + (bs (Lib.itoa (f k))).size)) := by rw [bs_size, bs_size]; omega
      clear s1 s2
      go_wp2_with (go_at_call 160; refine (itoa_w _ (by omega) (by omega) _ hpw).mono ?_; rintro e w1 ⟨rfl, hb1⟩)
      go_roundw
      case rel => exact ⟨k + 1, by omega, by go_num, by rw [upto_succ, rowL_snoc, sp_bs, bs_app, bs_app]; rfl, hbw.trans (hb1.mono hbw.size)⟩
      case measure => simp [intOf]; omega
    · obtain rfl : k = n := by omega
      go_wp2
      go_ret
      exact ⟨rfl, hbw⟩

/-- the cells of a list of strings -/
def StrAt (w : World) (A O : Nat) (xs : List (List UInt8)) : Prop := ∀ j, j < xs.length → w.cell? ⟨A, O + j, none⟩ = some (.string (bs (xs.getD j [])))

theorem StrAt.below {w w1 : World} {A O : Nat} {xs : List (List UInt8)} (h : StrAt w A O xs) (hA : A < w.heap.size) (hb : Below w.heap.size w w1) : StrAt w1 A O xs := fun j hj => by
  rw [(bcell hb).1 _ _ hA]; exact h j hj

def StrSl (w : World) (p : Option Addr) (xs : List (List UInt8)) : Prop := xs.length = 0 ∨ ∃ A O, p = some ⟨A, O, none⟩ ∧ A < w.heap.size ∧ StrAt w A O xs

theorem StrSl.below {w w1 : World} {p : Option Addr} {xs : List (List UInt8)} (h : StrSl w p xs) (hb : Below w.heap.size w w1) : StrSl w1 p xs := by
  rcases h with h | ⟨A, O, h1, h2, h3⟩
  · exact .inl h
  · exact .inr ⟨A, O, h1, Nat.lt_of_lt_of_le h2 hb.size, h3.below h2 hb⟩

/-- the sum of a line's bytes, each times its place and the line's place, up to a byte -/
def sumRow (i : Nat) (l : List UInt8) : Nat → Nat
  | 0 => 0
  | k + 1 => sumRow i l k + (l.getD k 0).toNat * (k + 1) * (i + 1)

def sumAll (xs : List (List UInt8)) : Nat → Nat
  | 0 => 0
  | i + 1 => sumAll xs i + sumRow i (xs.getD i []) (xs.getD i []).length

theorem rest_step (S R b k i : Nat) (hb : b ≤ 255) (hk : k ≤ 1000) (hi : i ≤ 1000) :
    (wrap64 (((S : Int) + (R : Int)) % 149 + wrap64 (wrap64 (wrap64 (b : Int) * ((k : Int) + 1)) * ((i : Int) + 1)))).tmod 149 = (((S + (R + b * (k + 1) * (i + 1))) % 149 : Nat) : Int) := by
  have p1 : b * (k + 1) ≤ 255255 := Nat.le_trans (Nat.mul_le_mul hb (Nat.succ_le_succ hk)) (by decide)
  obtain ⟨P, hP⟩ : ∃ P, b * (k + 1) = P := ⟨_, rfl⟩
  have c1 : (b : Int) * ((k : Int) + 1) = (P : Int) := by rw [← hP]; simp
  rw [hP] at p1 ⊢
  have p2 : P * (i + 1) ≤ 255510255 := Nat.le_trans (Nat.mul_le_mul p1 (Nat.succ_le_succ hi)) (by decide)
  obtain ⟨Q, hQ⟩ : ∃ Q, P * (i + 1) = Q := ⟨_, rfl⟩
  have c2 : (P : Int) * ((i : Int) + 1) = (Q : Int) := by rw [← hQ]; simp
  rw [hQ] at p2 ⊢
  have e0 : wrap64 (b : Int) = (b : Int) := IntWalk.wrap64_in _ (by omega)
  have e1 : wrap64 (P : Int) = (P : Int) := IntWalk.wrap64_in _ (by omega)
  have e2 : wrap64 (Q : Int) = (Q : Int) := IntWalk.wrap64_in _ (by omega)
  rw [e0, c1, e1, c2, e2]
  clear hP hQ c1 c2 e0 e1 e2
  have e3 : wrap64 (((S : Int) + (R : Int)) % 149 + (Q : Int)) = ((S : Int) + (R : Int)) % 149 + (Q : Int) := IntWalk.wrap64_in _ (by omega)
  rw [e3, Int.tmod_eq_emod_of_nonneg (by omega)]
  omega

theorem bs_byte {L : List UInt8} {k : Nat} (h : k < (bs L).size) : (bs L)[k] = L.getD k 0 := by
  have h' : k < L.length := by rwa [bs_size] at h
  show (bs L).data[k] = _
  simp [bs, List.getD, h']

/-- the last line of a text, with the check of those before it -/
def endL (xs : List (List UInt8)) : List UInt8 := [101, 110, 100, 32] ++ (Lib.repeatL [48] (3 - (Lib.itoa ((sumAll xs xs.length % 149 : Nat) : Int)).length) ++ Lib.itoa ((sumAll xs xs.length % 149 : Nat) : Int))

theorem digits_le3 (r : Nat) (h : r < 149) : 1 ≤ (Lib.itoa (r : Int)).length ∧ (Lib.itoa (r : Int)).length ≤ 3 := by
  have e : Lib.itoa (r : Int) = Lib.decDigits r := by
    unfold Lib.itoa; rw [if_neg (by omega)]; rfl
  rw [e, Lib.decDigits_length]
  refine ⟨Lib.nDigits_pos r, ?_⟩
  by_cases h1 : r < 10
  · rw [Lib.nDigits_small h1]; omega
  · rw [Lib.nDigits_big h1]
    by_cases h2 : r / 10 < 10
    · rw [Lib.nDigits_small h2]; omega
    · rw [Lib.nDigits_big h2, Lib.nDigits_small (by omega)]; omega

theorem repeat_len : ∀ (c : Nat), (Lib.repeatL [48] c).length = c
  | 0 => by simp [Lib.repeatL]
  | c + 1 => by simp [Lib.repeatL, repeat_len c]

set_option maxRecDepth 100000 in
set_option maxHeartbeats 1000000 in
theorem endOf_w (p : Option Addr) (c : Nat) (xs : List (List UInt8)) (w : World) (hn : xs.length ≤ 1000) (hl : Hid (∀ x ∈ xs, x.length ≤ 1000)) (H : Hid (StrSl w p xs)) (hp : Hid (Pow w)) :
    Calls Tryz.prog 124 #[.slice p xs.length c, .int .i64 149] w fun e w' => e = .returned (.string (bs (endL xs))) ∧ Below w.heap.size w w' := by
  obtain ⟨E, hE⟩ : ∃ E, endL xs = E := ⟨_, rfl⟩
  rw [hE]
  have HE := Lib.hid hE
  clear hE
  go_enter Tryz.func124, Tryz.ntmps124
  go_wp2
  go_loopw [5, 12] (fun r ii wr => ∃ i : Nat, i ≤ xs.length ∧ ii = .int .i64 (i : Int) ∧ r = .int .i64 ((sumAll xs i % 149 : Nat) : Int) ∧ Below w.heap.size w wr) (fun _ ii _ => xs.length - (intOf ii).toNat)
  case atStart => exact ⟨0, Nat.zero_le _, rfl, rfl, Below.refl _ _⟩
  case round =>
    obtain ⟨i, hi, rfl, rfl, hbw⟩ := hrel
    by_cases hlt : i < xs.length
    · obtain ⟨A, O, rfl, hA, h1⟩ := H.out.resolve_left (by omega)
      have y0 := (h1.below hA hbw) i hlt
      have HL := hl.out (xs.getD i []) (by rw [List.getD_eq_getElem?_getD, List.getElem?_eq_getElem hlt]; exact List.getElem_mem _)
      obtain ⟨L, hL⟩ : ∃ L, xs.getD i [] = L := ⟨_, rfl⟩
      rw [hL] at y0 HL
      have n1 : (0 : Int) ≤ (i : Int) := by omega
      have n2 : (i : Int) < (xs.length : Int) := by omega
      have hsz : (bs L).size = L.length := bs_size L
      clear h1
      have hsa : sumAll xs (i + 1) = sumAll xs i + sumRow i L L.length := by rw [← hL]; rfl
      have hS := Lib.hid hsa
      clear hsa
      clear hL
      obtain ⟨m, hm⟩ : ∃ m, m = xs.length := ⟨_, rfl⟩
      go_wp2
      go_loopw [5, 19] (fun r kk wk => ∃ k : Nat, k ≤ L.length ∧ kk = .int .i64 (k : Int) ∧ r = .int .i64 (((sumAll xs i + sumRow i L k) % 149 : Nat) : Int) ∧ Below w.heap.size w wk) (fun _ kk _ => L.length - (intOf kk).toNat)
      case atStart => exact ⟨0, Nat.zero_le _, rfl, rfl, hbw⟩
      case round =>
        obtain ⟨wm, rfl⟩ : ∃ wm, wm = wr := ⟨_, rfl⟩
        obtain ⟨k, hk, rfl, rfl, hbk⟩ := hrel
        by_cases hkl : k < L.length
        · have k0 : (0 : Int) ≤ (k : Int) := by omega
          have k1 : (k : Int) < (L.length : Int) := by omega
          have hby : (L.getD k 0).toNat ≤ 255 := by have := (L.getD k 0).toNat_lt; omega
          go_wp2
          go_roundw
          case rel => exact ⟨k + 1, by omega, by go_num, by rw [bs_byte, rest_step _ _ _ _ _ hby (by omega) (by omega)]; rfl, hbk⟩
          case measure => simp [intOf]; omega
        · obtain rfl : k = L.length := by omega
          go_wp2
          go_roundw
          case rel => exact ⟨i + 1, by omega, by go_num, by rw [hS.out], hbk⟩
          case measure => simp [intOf]; omega
    · obtain rfl : i = xs.length := by omega
      have hr : sumAll xs xs.length % 149 < 149 := Nat.mod_lt _ (by decide)
      have hE : E = [101, 110, 100, 32] ++ (Lib.repeatL [48] (3 - (Lib.itoa ((sumAll xs xs.length % 149 : Nat) : Int)).length) ++ Lib.itoa ((sumAll xs xs.length % 149 : Nat) : Int)) := HE.out.symm
      obtain ⟨r, hre⟩ : ∃ r, sumAll xs xs.length % 149 = r := ⟨_, rfl⟩
      rw [hre] at hr hE ⊢
      obtain ⟨z1, z2⟩ := digits_le3 r hr
      obtain ⟨D, hD⟩ : ∃ D, Lib.itoa (r : Int) = D := ⟨_, rfl⟩
      have hpw := Lib.hid (hp.out.on hbw)
      have HI : Hid (Calls Tryz.prog 160 #[.int .i64 (r : Int)] wr fun e w' => e = .returned (.string (bs D)) ∧ Below wr.heap.size wr w') := Lib.hid (hD ▸ itoa_w (r : Int) (by omega) (by omega) wr hpw)
      rw [hD] at z1 z2 hE
      have hds : (bs D).size = D.length := bs_size D
      have HR : Hid (∀ w1, Calls Tryz.prog 161 #[.string ⟨#[48]⟩, .int .i64 (3 - (D.length : Int))] w1 fun e w' => e = .returned (.string (bs (Lib.repeatL [48] (3 - D.length)))) ∧ Below w1.heap.size w1 w') := Lib.hid fun w1 => by
        have e : (3 - (D.length : Int)) = ((3 - D.length : Nat) : Int) := by omega
        rw [e]
        exact Tryz.strings_Repeat ⟨#[48]⟩ (3 - D.length) w1 (by omega) (by show 1 * _ ≤ _; omega)
      have hzl := repeat_len (3 - D.length)
      obtain ⟨Z, hZ⟩ : ∃ Z, Lib.repeatL [48] (3 - D.length) = Z := ⟨_, rfl⟩
      rw [hZ] at hzl HR hE
      have HEE := Lib.hid hE
      clear hE
      have hzs : (bs Z).size = Z.length := bs_size Z
      have k1 : ¬ (9223372036854775807 < 4 + (bs Z).size) := by omega
      have k2 : ¬ (9223372036854775807 < 4 + (bs Z).size + (bs D).size) := by omega
      clear hD hZ hre hzl
      go_wp2_with (first
        | (go_at_call 160; refine HI.out.mono ?_; rintro e w1 ⟨rfl, hb1⟩)
        | (go_at_call 161; refine (HR.out _).mono ?_; rintro e w2 ⟨rfl, hb2⟩))
      go_ret
      refine ⟨?_, hbw.trans ((hb1.trans (hb2.mono hb1.size)).mono hbw.size)⟩
      rw [HEE.out, ← bs_app, ← bs_app]
      rfl

theorem info9' : (Tryz.prog.info? 9).map (fun i => (i.zero, i.size, i.bytes)) = some (some (.string ByteArray.empty), 1, 16) := by kernel_rfl

def strV (x : List UInt8) : Value := .string (bs x)

theorem strSl_of_owns {w : World} {base n : Nat} {v : Value} {xs : List (List UInt8)} (h : w.ownsRow base 9 1 v n (xs.map strV)) (h0 : n ≠ 0) :
    ∃ G cap, v = .slice (some ⟨G, 0, none⟩) n cap ∧ n = xs.length ∧ n ≤ cap ∧ base ≤ G ∧ G < w.heap.size ∧ StrAt w G 0 xs := by
  have hl : n = xs.length := by have := h.1; simp at this; omega
  rcases h.2 with ⟨rfl, rfl⟩ | ⟨g, cap, cur, rfl, hb, hg, hn, hc, hs, hx⟩
  · exact (h0 rfl).elim
  · refine ⟨g, cap, rfl, hl, by omega, hb, (Array.getElem?_eq_some_iff.1 hg).1, fun i hi => ?_⟩
    have hj : (xs.map strV)[i]? = some (.string (bs (xs.getD i []))) := by
      simp [List.getD, hi, strV]
    rw [← hx] at hj
    rw [List.getElem?_take] at hj
    split at hj
    · simp only [Array.getElem?_toList] at hj
      simp [World.cell?, hg, hj]
    · cases hj

theorem join_w (G o n c : Nat) (ys : List (List UInt8)) (w : World) (hn : n = ys.length) (hG : G < w.heap.size) (H : Hid (StrAt w G o ys)) (hc : n ≤ c) (hnl : n ≤ 1001) (hT : (Lib.join ys [10]).length ≤ 1000000) :
    Calls Tryz.prog 122 #[.slice (some ⟨G, o, none⟩) n c, .string ⟨#[10]⟩] w fun e w' => e = .returned (.string (bs (Lib.join ys [10]))) ∧ Below w.heap.size w w' := by
  subst hn
  have e1 : (ys.map bs).map (fun x : ByteArray => x.data.toList) = ys := by
    simp [bs, Function.comp_def]
  have h := Tryz.strings_Join G o c (ys.map bs) ⟨#[10]⟩ w (fun j x hj => by
    have hj' : j < ys.length := by
      have := (List.getElem?_eq_some_iff.1 hj).1
      simpa using this
    rw [H.out j hj']
    rw [List.getElem?_map, List.getElem?_eq_getElem hj'] at hj
    simp at hj
    simp [List.getD, hj', hj]) hG (by simp; omega) (by simpa using hc) (by rw [e1]; show (Lib.join ys [10]).length ≤ _; omega)
  rw [e1] at h
  simpa [bs] using h

/-- the text of lines -/
def textL (xs : List (List UInt8)) : List UInt8 := Lib.join (xs ++ [endL xs]) [10] ++ [10]

set_option maxRecDepth 100000 in
set_option maxHeartbeats 1000000 in
theorem text_w (A O c : Nat) (xs : List (List UInt8)) (w : World) (hn1 : 1 ≤ xs.length) (hn : xs.length ≤ 1000) (hl : Hid (∀ x ∈ xs, x.length ≤ 1000)) (hA : A < w.heap.size) (H : Hid (StrAt w A O xs)) (hp : Hid (Pow w)) (hT : (textL xs).length ≤ 1000000) :
    Calls Tryz.prog 74 #[.slice (some ⟨A, O, none⟩) xs.length c, .int .i64 149] w fun e w' => e = .returned (.string (bs (textL xs))) ∧ Below w.heap.size w w' := by
  obtain ⟨i0, hi, hz0, hz1, hz2⟩ := info_parts info9'
  have HC : Hid (Calls Tryz.prog 123 #[.slice (some ⟨A, O, none⟩) xs.length c] w fun e w' => (∃ v', e = .returned v' ∧ w'.ownsRow w.heap.size 9 1 v' xs.length (xs.map strV) ∧ v' ≠ .slice none 0 0) ∧ Below w.heap.size w w') := Lib.hid ((Tryz.slices_Clone_string A O xs.length c (xs.map bs) w (by simp) (by omega) (fun j hj => by
      have hj' : j < xs.length := by simpa using hj
      rw [H.out j hj']
      simp [List.getD, hj'])).mono fun e w' ⟨v', h1, h2, h3, h4⟩ => ⟨⟨v', h1, by
        have e1 : ((xs.map bs).take xs.length).map Value.string = xs.map strV := by
          rw [List.take_of_length_le (by simp)]
          simp [strV]
        rw [← e1]; exact h2, h3⟩, h4⟩)
  have HEN : Hid (∀ w1, Below w.heap.size w w1 → Calls Tryz.prog 124 #[.slice (some ⟨A, O, none⟩) xs.length c, .int .i64 149] w1 fun e w' => e = .returned (.string (bs (endL xs))) ∧ Below w1.heap.size w1 w') := Lib.hid fun w1 h => endOf_w _ c xs w1 hn hl (Lib.hid (.inr ⟨A, O, rfl, Nat.lt_of_lt_of_le hA h.size, H.out.below hA h⟩)) (Lib.hid (hp.out.on h))
  obtain ⟨n, hnn⟩ : ∃ n, xs.length = n := ⟨_, rfl⟩
  obtain ⟨T, hTT⟩ : ∃ T, textL xs = T := ⟨_, rfl⟩
  rw [hTT] at hT ⊢
  rw [hnn] at hn1 hn HC HEN ⊢
  have HN := Lib.hid hnn
  have HTT := Lib.hid hTT
  clear hnn hTT
  go_enter Tryz.func74, Tryz.ntmps74
  go_wp2_with (first
    | (go_at_call 123; refine HC.out.mono ?_; rintro e w1 ⟨⟨v1, rfl, hv1, hv2⟩, hb1⟩; have hz1' := hb1.size; have HO1 := Lib.hid hv1; clear hv1 hv2)
    | (go_at_call 124; refine (HEN.out _ hb1).mono ?_; rintro e w2 ⟨rfl, hb2⟩; have hz2' := hb2.size; have HO2 := Lib.hid (owns_below HO1.out hb2))
    | (at_builtin; refine wpList_append_own_at _ rfl (.tmp 6) (.tmp 10) 107 rfl w.heap.size 9 i0 (.string ByteArray.empty) 1 16 Tryz.underlying107 hi hz0 hz1 hz2 rfl (by decide) _ n _ rfl (HO2.out.alloc _) ⟨_, 0, none⟩ 1 1 [Value.string (bs (endL xs))] rfl rfl (lies_any (by first | exact al_top rfl _ _ | exact al_top (by simp) _ _)) (by intro u hu; simp at hu; subst hu; rfl) (by unfold maxLen; omega) (by omega) (by simp; omega) ?_; intro v7 w7 hown7 hgrow7 _ hloc7))
  have hb7 : Below w.heap.size w w7 := ((hb1.trans (hb2.mono hz1')).alloc (by omega) _).grown hgrow7 (by simp; omega) (fun r e => by have := own_ge HO2.out r e; omega)
  obtain ⟨G, cap, rfl, g1, g2, g3, g4, g5⟩ := strSl_of_owns (xs := xs ++ [endL xs]) (by simpa [strV] using hown7) (by omega)
  have hjl : (Lib.join (xs ++ [endL xs]) [10]).length + 1 = T.length := by rw [← HTT.out]; simp [textL]
  have HJ : Hid (Calls Tryz.prog 122 #[.slice (some ⟨G, 0, none⟩) (n + 1) cap, .string ⟨#[10]⟩] w7 fun e w' => e = .returned (.string (bs (Lib.join (xs ++ [endL xs]) [10]))) ∧ Below w7.heap.size w7 w') := Lib.hid (join_w G 0 (n + 1) cap (xs ++ [endL xs]) w7 g1 g4 (Lib.hid g5) g2 (by omega) (by omega))
  have hTe : T = Lib.join (xs ++ [endL xs]) [10] ++ [10] := HTT.out.symm
  obtain ⟨J, hJ⟩ : ∃ J, Lib.join (xs ++ [endL xs]) [10] = J := ⟨_, rfl⟩
  rw [hJ] at HJ hjl hTe
  have HTE := Lib.hid hTe
  have k1 : ¬ (9223372036854775807 < (bs J).size + 1) := by rw [bs_size]; omega
  clear hJ hTe hown7 hgrow7 hloc7 g5
  go_wp2_with (go_at_call 122; refine HJ.out.mono ?_; rintro e w8 ⟨rfl, hb8⟩)
  go_ret
  refine ⟨?_, hb7.trans (hb8.mono hb7.size)⟩
  rw [HTE.out, ← bs_app]
  rfl

theorem join_cons2 (y z : List UInt8) (r : List (List UInt8)) : Lib.join (y :: z :: r) [10] = y ++ 10 :: Lib.join (z :: r) [10] := by
  simp [Lib.join, List.intercalate_cons_cons]

theorem join_one (y : List UInt8) : Lib.join [y] [10] = y := by simp [Lib.join]

theorem index_line : ∀ (y r : List UInt8), (10 : UInt8) ∉ y → Lib.index (y ++ 10 :: r) [10] = (y.length : Int)
  | [], r, _ => by simp [Lib.index]
  | b :: y, r, h => by
    have hb : b ≠ 10 := fun e => h (by simp [e])
    have ih := index_line y r (fun e => h (by simp [e]))
    rw [List.cons_append, Lib.index, ih]
    rw [if_neg (by simp; exact fun e => hb e.symm), if_neg (by first | (simp; done) | (simp; omega))]
    simp

theorem count_line (y r : List UInt8) (h : (10 : UInt8) ∉ y) : (y ++ 10 :: r).count 10 = r.count 10 + 1 := by
  rw [List.count_append, List.count_cons_self, List.count_eq_zero_of_not_mem h]; omega

theorem split_join : ∀ (ys : List (List UInt8)), ys ≠ [] → (∀ y ∈ ys, (10 : UInt8) ∉ y) →
    (Lib.join ys [10]).count 10 + 1 = ys.length ∧ Lib.splitK [10] 0 ((Lib.join ys [10]).count 10) (Lib.join ys [10]) = ys
  | [], h, _ => (h rfl).elim
  | [y], _, h => by
    have h0 : y.count 10 = 0 := List.count_eq_zero_of_not_mem (h y (by simp))
    rw [join_one, h0]
    exact ⟨rfl, rfl⟩
  | y :: z :: r, _, h => by
    obtain ⟨h1, h2⟩ := split_join (z :: r) (by simp) (fun x hx => h x (List.mem_cons_of_mem _ hx))
    have hy := h y (by simp)
    rw [join_cons2, count_line y _ hy]
    refine ⟨by rw [List.length_cons]; omega, ?_⟩
    rw [Lib.splitK, index_line y _ hy, if_neg (by first | (simp; done) | (simp; omega))]
    simp only [Int.toNat_natCast, Nat.add_zero]
    rw [List.take_left, show y.length + [(10 : UInt8)].length = (y ++ [10]).length by simp, show y ++ 10 :: Lib.join (z :: r) [10] = (y ++ [10]) ++ Lib.join (z :: r) [10] by simp, List.drop_left, h2]

theorem splitB_join (ys : List (List UInt8)) (hne : ys ≠ []) (h : ∀ y ∈ ys, (10 : UInt8) ∉ y) :
    Lib.countB (bs (Lib.join ys [10])) ⟨#[10]⟩ + 1 = ys.length ∧ Lib.splitB ⟨#[10]⟩ 0 (Lib.countB (bs (Lib.join ys [10])) ⟨#[10]⟩) (bs (Lib.join ys [10])) = ys.map bs := by
  obtain ⟨h1, h2⟩ := split_join ys hne h
  have hc : Lib.countB (bs (Lib.join ys [10])) ⟨#[10]⟩ = (Lib.join ys [10]).count 10 := by
    unfold Lib.countB
    rw [bs_list]
    exact Lib.count_one 10 _
  rw [hc]
  refine ⟨h1, ?_⟩
  have h3 := Lib.splitB_data ⟨#[10]⟩ 0 ((Lib.join ys [10]).count 10) (bs (Lib.join ys [10]))
  rw [bs_list] at h3
  have h4 : (Lib.splitB ⟨#[10]⟩ 0 ((Lib.join ys [10]).count 10) (bs (Lib.join ys [10]))).map (·.data.toList) = ys := h3.trans h2
  have h5 := congrArg (List.map bs) h4
  rw [List.map_map] at h5
  have e : bs ∘ (fun x : ByteArray => x.data.toList) = id := by
    funext x
    exact (bs_of x).symm
  rw [e, List.map_id] at h5
  exact h5

theorem hasSuffix_nl (J : List UInt8) : Lib.hasSuffix (J ++ [10]) [10] = true := by
  unfold Lib.hasSuffix
  rw [List.isSuffixOf_iff_suffix]
  exact List.suffix_append _ _

theorem trimSuffix_nl (J : List UInt8) : Lib.trimSuffix (J ++ [10]) [10] = J := by
  unfold Lib.trimSuffix
  rw [if_pos (hasSuffix_nl J)]
  simp

theorem info87' : (Tryz.prog.info? 111).map (fun i => (i.zero, i.size, i.bytes)) = some (some (.nilIface), 1, 16) := by kernel_rfl

end Go.Kn

namespace Go.Kn
open Go Go.Proofs Go.RowKit


def pointW : List UInt8 := [112, 111, 105, 110, 116]
def channelW : List UInt8 := [99, 104, 97, 110, 110, 101, 108]
def gateW : List UInt8 := [103, 97, 116, 101]

theorem word0_w (w : World) : Calls Tryz.prog 165 #[.int .i64 0] w fun e w' => e = .returned (.string (bs pointW)) ∧ w' = w := by
  go_enter Tryz.func165, Tryz.ntmps165
  go_wp2
  go_ret
  exact ⟨rfl, rfl⟩
theorem word1_w (w : World) : Calls Tryz.prog 165 #[.int .i64 1] w fun e w' => e = .returned (.string (bs channelW)) ∧ w' = w := by
  go_enter Tryz.func165, Tryz.ntmps165
  go_wp2
  go_ret
  exact ⟨rfl, rfl⟩
theorem word2_w (w : World) : Calls Tryz.prog 165 #[.int .i64 2] w fun e w' => e = .returned (.string (bs gateW)) ∧ w' = w := by
  go_enter Tryz.func165, Tryz.ntmps165
  go_wp2
  go_ret
  exact ⟨rfl, rfl⟩

def ptLn (x : P8) : List Int := [x.lo, x.hi, x.nd]
def chLn (x : C8) : List Int := [x.fr, x.to, x.cu]
def chWd (x : C8) : List UInt8 := if x.ga then gateW else channelW
def P8Ok (x : P8) : Prop := (0 ≤ x.lo ∧ x.lo ≤ 1000000) ∧ (0 ≤ x.hi ∧ x.hi ≤ 1000000) ∧ (0 ≤ x.nd ∧ x.nd ≤ 1000000)
def C8Ok (x : C8) : Prop := (0 ≤ x.fr ∧ x.fr ≤ 1000000) ∧ (0 ≤ x.to ∧ x.to ≤ 1000000) ∧ (0 ≤ x.cu ∧ x.cu ≤ 1000000)
def ptR (x : P8) : List UInt8 := rowL pointW (ptLn x)
def chR (x : C8) : List UInt8 := rowL (chWd x) (chLn x)

theorem upto_getD (l : List Int) : upto (fun i => l.getD i 0) l.length = l := by
  apply List.ext_getElem
  · simp [upto]
  · intro i h1 h2
    simp [upto, List.getD, h2]

/-- a line out of a list that was laid just now -/
theorem lineLit_w (wd : List UInt8) (l : List Int) (n B : Nat) (w : World) (hwd : wd.length ≤ 100) (hn : l.length = n) (hn2 : n ≤ 10) (hB : w.heap.size = B) (hf : Hid (∀ i, i < n → 0 ≤ l.getD i 0 ∧ l.getD i 0 ≤ 1000000)) (hp : Hid (Pow w)) :
    Calls Tryz.prog 234 #[.string (bs wd), .slice (some ⟨B, 0, none⟩) n n] (w.alloc (.cells (l.map (Value.int .i64)).toArray 3))
      fun e w' => e = .returned (.string (bs (rowL wd l))) ∧ Below w.heap.size w w' := by
  subst hB; subst hn
  have hal : Below w.heap.size w (w.alloc (.cells (l.map (Value.int .i64)).toArray 3)) := (Below.refl _ _).alloc (Nat.le_refl _) _
  have hu : upto (fun i => l.getD i 0) l.length = l := upto_getD l
  have h := line_w wd (some ⟨w.heap.size, 0, none⟩) l.length l.length (fun i => l.getD i 0) (w.alloc (.cells (l.map (Value.int .i64)).toArray 3)) hwd (by omega) hf (Lib.hid (.inr ⟨w.heap.size, 0, rfl, by simp, fun i hi => by
    have hg : (w.alloc (.cells (l.map (Value.int .i64)).toArray 3)).heap[w.heap.size]? = some (.cells (l.map (Value.int .i64)).toArray 3) := by
      show (w.heap.push _)[w.heap.size]? = _
      simp
    rw [Nat.zero_add]
    unfold World.cell?
    simp only []
    rw [hg]
    simp [List.getD, hi]⟩)) (Lib.hid (hp.out.on hal))
  rw [hu] at h
  exact h.mono fun e w' ⟨he, hb⟩ => ⟨he, hal.trans (hb.mono hal.size)⟩

set_option maxRecDepth 100000 in
set_option maxHeartbeats 8000000 in
theorem ptText_w (x : P8) (w : World) (hf : Hid (P8Ok x)) (hp : Hid (Pow w)) :
    Calls Tryz.prog 233 #[.agg #[.int .i64 x.lo, .int .i64 x.hi, .int .i64 x.nd]] w fun e w' => e = .returned (.string (bs (ptR x))) ∧ Below w.heap.size w w' := by
  have hal : Below w.heap.size w (w.alloc (.cells #[.int .i64 x.lo, .int .i64 x.hi, .int .i64 x.nd] 142)) := (Below.refl _ _).alloc (Nat.le_refl _) _
  have HL : Hid (∀ (W : World) (B : Nat), Below w.heap.size w W → W.heap.size = B → Calls Tryz.prog 234 #[.string (bs pointW), .slice (some ⟨B, 0, none⟩) 3 3] (W.alloc (.cells #[.int .i64 x.lo, .int .i64 x.hi, .int .i64 x.nd] 3)) fun e w' => e = .returned (.string (bs (rowL pointW (ptLn x)))) ∧ Below W.heap.size W w') := Lib.hid (fun W B hW hB => lineLit_w pointW (ptLn x) 3 B W (by decide) rfl (by decide) hB (Lib.hid fun i hi => by
    match i, hi with
    | 0, _ => exact hf.out.1
    | 1, _ => exact hf.out.2.1
    | 2, _ => exact hf.out.2.2) (Lib.hid (hp.out.on hW)))
  have hd : Below w.heap.size w (w.alloc (.cells #[.int .i64 x.lo, .int .i64 x.hi, .int .i64 x.nd] 142)).drew := below_drew hal
  have HD := Lib.hid hd
  clear hd hal
  have HR : Hid (ptR x = rowL pointW (ptLn x)) := Lib.hid rfl
  rw [HR.out]
  go_enter Tryz.func233, Tryz.ntmps233
  go_wp2
  go_region_law ((first
    | (go_simp; go_at_call 165; refine (word0_w _).mono ?_; rintro e w1 ⟨rfl, rfl⟩)
    | (go_simp; go_at_call 234; refine (HL.out _ _ HD.out (by simp)).mono ?_; rintro e w1 ⟨rfl, hb⟩)))
  all_goals
    go_wp2
    go_ret
    exact ⟨rfl, HD.out.trans (hb.mono HD.out.size)⟩

set_option maxRecDepth 100000 in
set_option maxHeartbeats 8000000 in
theorem chText_w (x : C8) (w : World) (hf : Hid (C8Ok x)) (hp : Hid (Pow w)) :
    Calls Tryz.prog 235 #[.agg #[.int .i64 x.fr, .int .i64 x.to, .int .i64 x.cu, .bool x.ga]] w fun e w' => e = .returned (.string (bs (chR x))) ∧ Below w.heap.size w w' := by
  have hal : Below w.heap.size w (w.alloc (.cells #[.int .i64 x.fr, .int .i64 x.to, .int .i64 x.cu, .bool x.ga] 143)) := (Below.refl _ _).alloc (Nat.le_refl _) _
  have HL : Hid (∀ (W : World) (B : Nat), Below w.heap.size w W → W.heap.size = B → Calls Tryz.prog 234 #[.string (bs (chWd x)), .slice (some ⟨B, 0, none⟩) 3 3] (W.alloc (.cells #[.int .i64 x.fr, .int .i64 x.to, .int .i64 x.cu] 3)) fun e w' => e = .returned (.string (bs (rowL (chWd x) (chLn x)))) ∧ Below W.heap.size W w') := Lib.hid (fun W B hW hB => lineLit_w (chWd x) (chLn x) 3 B W (by unfold chWd; split <;> decide) rfl (by decide) hB (Lib.hid fun i hi => by
    match i, hi with
    | 0, _ => exact hf.out.1
    | 1, _ => exact hf.out.2.1
    | 2, _ => exact hf.out.2.2) (Lib.hid (hp.out.on hW)))
  have hd : Below w.heap.size w (w.alloc (.cells #[.int .i64 x.fr, .int .i64 x.to, .int .i64 x.cu, .bool x.ga] 143)).drew := below_drew hal
  have HD := Lib.hid hd
  clear hd hal
  have HR : Hid (chR x = rowL (chWd x) (chLn x)) := Lib.hid rfl
  rw [HR.out]
  obtain ⟨fr, tt, cu, ga⟩ := x
  clear HR
  cases ga
  all_goals
    simp only [chWd, Bool.false_eq_true, if_false, if_true] at HL ⊢
    go_enter Tryz.func235, Tryz.ntmps235
    go_wp2
    go_region_law ((first
      | (go_simp; go_at_call 165; refine (word1_w _).mono ?_; rintro e w1 ⟨rfl, rfl⟩)
      | (go_simp; go_at_call 165; refine (word2_w _).mono ?_; rintro e w1 ⟨rfl, rfl⟩)
      | (go_simp; go_at_call 234; refine (HL.out _ _ HD.out (by simp)).mono ?_; rintro e w1 ⟨rfl, hb⟩)))
    all_goals
      go_wp2
      go_ret
      exact ⟨rfl, HD.out.trans (hb.mono HD.out.size)⟩

end Go.Kn

namespace Go.Kn
open Go Go.Proofs Go.RowKit

def ptV (x : P8) : Value := .agg #[.int .i64 x.lo, .int .i64 x.hi, .int .i64 x.nd]
def chV (x : C8) : Value := .agg #[.int .i64 x.fr, .int .i64 x.to, .int .i64 x.cu, .bool x.ga]
def linL (ln lo : Nat) (N : Nat → P8) (U : Nat → C8) : List Value := (upto N ln).map (fun x => Value.iface 142 (ptV x)) ++ (upto U lo).map (fun x => Value.iface 143 (chV x))
theorem linL_sn (ln : Nat) (N : Nat → P8) (U : Nat → C8) : linL (ln + 1) 0 N U = linL ln 0 N U ++ [.iface 142 (ptV (N ln))] := by simp [linL, upto, List.range_succ]
theorem linL_so (ln lo : Nat) (N : Nat → P8) (U : Nat → C8) : linL ln (lo + 1) N U = linL ln lo N U ++ [.iface 143 (chV (U lo))] := by simp [linL, upto_succ]
theorem linL_n {ln lo k : Nat} {N : Nat → P8} {U : Nat → C8} (h : k < ln) : (linL ln lo N U)[k]? = some (.iface 142 (ptV (N k))) := by
  rw [linL, List.getElem?_append_left (by simp [upto_length]; omega)]
  simp [upto, h]
theorem linL_o {ln lo j : Nat} {N : Nat → P8} {U : Nat → C8} (h : j < lo) : (linL ln lo N U)[ln + j]? = some (.iface 143 (chV (U j))) := by
  rw [linL, List.getElem?_append_right (by simp [upto_length])]
  simp [upto, h]
theorem linL_len (ln lo : Nat) (N : Nat → P8) (U : Nat → C8) : (linL ln lo N U).length = ln + lo := by simp [linL, upto_length]

set_option maxRecDepth 100000 in
set_option maxHeartbeats 4000000 in
theorem linesOf_w (na oa : Option Addr) (ln cn lo co : Nat) (N : Nat → P8) (U : Nat → C8) (w : World) (hln : ln ≤ 1000000) (hlo : lo ≤ 1000000) (H : Hid (Ne8 w na oa ln lo N U)) :
    Calls Tryz.prog 73 #[.agg #[.slice na ln cn, .slice oa lo co]] w
      fun e w' => (∃ v, e = .returned v ∧ w'.ownsRow w.heap.size 111 1 v (ln + lo) (linL ln lo N U)) ∧ Below w.heap.size w w' := by
  obtain ⟨i0, hi, hz0, hz1, hz2⟩ := info_parts info87'
  go_enter Tryz.func73, Tryz.ntmps73
  go_wp2
  go_loopw [2, 10] (fun v ii wr => ∃ k : Nat, k ≤ ln ∧ ii = .int .i64 (k : Int) ∧ wr.ownsRow (w.heap.size + 1) 111 1 v k (linL k 0 N U) ∧ Below (w.heap.size + 1) (w.alloc (.cells #[.slice na ln cn, .slice oa lo co] 25)) wr) (fun _ ii _ => ln - (intOf ii).toNat)
  case atStart => exact ⟨0, Nat.zero_le _, rfl, ⟨rfl, .inl ⟨rfl, rfl⟩⟩, Below.refl _ _⟩
  case round =>
    obtain ⟨k, hk, rfl, hown, hbw⟩ := hrel
    have HOW := Lib.hid hown
    have HBW := Lib.hid hbw
    have hz : w.heap.size + 1 ≤ wr.heap.size := by have := hbw.size; simp at this; omega
    have x1 : wr.cell? ⟨w.heap.size, 0, none⟩ = some (.slice na ln cn) := (hbw.cell (p := ⟨w.heap.size, 0, none⟩) (by simp)).trans (by simp)
    have x2 : wr.cell? ⟨w.heap.size, 1, none⟩ = some (.slice oa lo co) := (hbw.cell (p := ⟨w.heap.size, 1, none⟩) (by simp)).trans (by simp)
    have hB : Below w.heap.size w wr := ((Below.refl _ _).alloc (Nat.le_refl _) _).trans (hbw.mono (Nat.le_succ _))
    by_cases hlt : k < ln
    · obtain ⟨A, O, rfl, hA, hcells⟩ := (H.out.below hB).hp.resolve_left (by omega)
      obtain ⟨c0, c1, c2⟩ := hcells k hlt
      have n1 : (0 : Int) ≤ (k : Int) := by omega
      have n2 : (k : Int) < (ln : Int) := by omega
      clear hcells hown hbw hB
      go_wp2_with (at_builtin; refine wpList_append_own_at _ rfl (.tmp 14) (.tmp 17) 108 rfl (w.heap.size + 1) 111 i0 (.nilIface) 1 16 Tryz.underlying108 hi hz0 hz1 hz2 rfl (by decide) _ k _ rfl ((HOW.out.alloc _).alloc _) ⟨_, 0, none⟩ 1 1 [.iface 142 (ptV (N k))] rfl rfl (lies_any (by first | exact al_top rfl _ _ | exact al_top (by simp) _ _)) (by intro u hu; simp at hu; subst hu; rfl) (by unfold maxLen; omega) (by omega) (by simp; omega) ?_; intro v7 w7 hown7 hgrow7 _ hloc7)
      go_roundw
      case rel => exact ⟨k + 1, by omega, by go_num, by rw [linL_sn]; exact hown7, ((HBW.out.alloc (by omega) _).alloc (by simp; omega) _).grown hgrow7 (by simp; omega) (fun r e => by have := own_ge HOW.out r e; omega)⟩
      case measure => simp [intOf]; omega
    · have hkl : k = ln := by omega
      subst hkl
      clear hown hbw hB
      obtain ⟨wm, rfl⟩ : ∃ wm, wm = wr := ⟨_, rfl⟩
      go_wp2
      go_loopw [2, 23] (fun v ii wq => ∃ j : Nat, j ≤ lo ∧ ii = .int .i64 (j : Int) ∧ wq.ownsRow (w.heap.size + 1) 111 1 v (k + j) (linL k j N U) ∧ Below (w.heap.size + 1) (w.alloc (.cells #[.slice na k cn, .slice oa lo co] 25)) wq) (fun _ ii _ => lo - (intOf ii).toNat)
      case atStart => exact ⟨0, Nat.zero_le _, rfl, HOW.out, HBW.out⟩
      case round =>
        obtain ⟨j, hj, rfl, hown, hbw⟩ := hrel
        have HOW2 := Lib.hid hown
        have HBW2 := Lib.hid hbw
        have hz2' : w.heap.size + 1 ≤ wr.heap.size := by have := hbw.size; simp at this; omega
        have hB2 : Below w.heap.size w wr := ((Below.refl _ _).alloc (Nat.le_refl _) _).trans (hbw.mono (Nat.le_succ _))
        by_cases hlt2 : j < lo
        · obtain ⟨A, O, rfl, hA, hcells⟩ := (H.out.below hB2).hc.resolve_left (by omega)
          obtain ⟨c0, c1, c2, c3⟩ := hcells j hlt2
          have n1 : (0 : Int) ≤ (j : Int) := by omega
          have n2 : (j : Int) < (lo : Int) := by omega
          clear hcells hown hbw hB2
          go_wp2_with (at_builtin; refine wpList_append_own_at _ rfl (.tmp 27) (.tmp 30) 108 rfl (w.heap.size + 1) 111 i0 (.nilIface) 1 16 Tryz.underlying108 hi hz0 hz1 hz2 rfl (by decide) _ (k + j) _ rfl ((HOW2.out.alloc _).alloc _) ⟨_, 0, none⟩ 1 1 [.iface 143 (chV (U j))] rfl rfl (lies_any (by first | exact al_top rfl _ _ | exact al_top (by simp) _ _)) (by intro u hu; simp at hu; subst hu; rfl) (by unfold maxLen; omega) (by omega) (by simp; omega) ?_; intro v7 w7 hown7 hgrow7 _ hloc7)
          go_roundw
          case rel => exact ⟨j + 1, by omega, by go_num, by rw [linL_so]; exact hown7, ((HBW2.out.alloc (by omega) _).alloc (by simp; omega) _).grown hgrow7 (by simp; omega) (fun r e => by have := own_ge HOW2.out r e; omega)⟩
          case measure => simp [intOf]; omega
        · have hjl : j = lo := by omega
          subst hjl
          clear hown hbw
          go_wp2
          go_ret
          exact ⟨⟨_, rfl, own_base HOW2.out (by omega)⟩, hB2⟩

end Go.Kn
