/- Walks of functions of layer 2 (contracts that the laws of this seat use). Conditions: as each theorem states them. -/
import Derived.Test.YtnlbofaiihlniaaGreatDoorGW
import Derived.KernelRfl
import Derived.Defers
import Derived.Recover
import Derived.Test.YtnlbofaiihlniaaGreatDoorGF
import Derived.Test.YtnlbofaiihlniaaGreatDoorGN
set_option linter.unusedVariables false
set_option linter.unusedSimpArgs false
namespace Go.Kn
open Go Go.Proofs Go.RowKit

theorem ta_nil1 (w : World) : (Instr.typeAssert Value.nilIface 20 130 true).run Tryz.prog w = .ok (.tuple #[.agg #[], .bool false]) w := by kernel_rfl
theorem ta_nil2 (w : World) : (Instr.typeAssert Value.nilIface 20 131 true).run Tryz.prog w = .ok (.tuple #[.agg #[], .bool false]) w := by kernel_rfl
theorem ta_rate (w : World) : (Instr.typeAssert (Value.iface 130 (.agg #[])) 20 130 true).run Tryz.prog w = .ok (.tuple #[.agg #[], .bool true]) w := by kernel_rfl

set_option maxRecDepth 100000 in
set_option maxHeartbeats 1000000 in
theorem catch_none (p : Addr) (w : World) :
    CallsD Tryz.prog 79 #[.pointer (some p)] .returning w fun e u' w' => e = .returned (.tuple #[]) ∧ u' = .returning ∧ w' = w := by
  refine callsD_of_wpS Tryz.func79 rfl fun c₀ cs hu => ?_
  have h1 := ta_nil1
  have h2 := ta_nil2
  apply wpS_seq
  apply wpS_region
  simp [wpOpsS, go_sem, recoverD, hu, Tryz.ntmps79, Exit.thenS]
  refine wpS_of_wp ?_
  go_wp2
  simp [bodyPostS, results, Tryz.results79]
  cases c₀
  simp_all

set_option maxRecDepth 100000 in
set_option maxHeartbeats 1000000 in
theorem catch_rate (p : Addr) (x : Int) (older : List PanicEntry) (w : World) (hc : w.cell? p = some (.int .i64 x)) (hz : w.frozen? p = false) :
    CallsD Tryz.prog 79 #[.pointer (some p)] (.panicking ({ v := .iface 130 (.agg #[]), recovered := false } :: older)) w fun e u' w' =>
      e = .returned (.tuple #[]) ∧ u' = .panicking ({ v := .iface 130 (.agg #[]), recovered := true } :: older) ∧ w' = w.setCell p (.int .i64 7) := by
  refine callsD_of_wpS Tryz.func79 rfl fun c₀ cs hu => ?_
  have h1 := ta_rate
  apply wpS_seq
  apply wpS_region
  simp [wpOpsS, go_sem, recoverD, hu, Tryz.ntmps79, Exit.thenS]
  refine wpS_of_wp ?_
  go_wp2
  simp [bodyPostS, results, Tryz.results79]

end Go.Kn

namespace Go.Kn
open Go Go.Proofs Go.RowKit

theorem ta_text1 (w : World) : (Instr.typeAssert (Value.iface 131 (.agg #[])) 20 130 true).run Tryz.prog w = .ok (.tuple #[.agg #[], .bool false]) w := by kernel_rfl
theorem ta_text2 (w : World) : (Instr.typeAssert (Value.iface 131 (.agg #[])) 20 131 true).run Tryz.prog w = .ok (.tuple #[.agg #[], .bool true]) w := by kernel_rfl

set_option maxRecDepth 100000 in
set_option maxHeartbeats 1000000 in
theorem catch_text (p : Addr) (x : Int) (older : List PanicEntry) (w : World) (hc : w.cell? p = some (.int .i64 x)) (hz : w.frozen? p = false) :
    CallsD Tryz.prog 79 #[.pointer (some p)] (.panicking ({ v := .iface 131 (.agg #[]), recovered := false } :: older)) w fun e u' w' =>
      e = .returned (.tuple #[]) ∧ u' = .panicking ({ v := .iface 131 (.agg #[]), recovered := true } :: older) ∧ w' = w.setCell p (.int .i64 4) := by
  refine callsD_of_wpS Tryz.func79 rfl fun c₀ cs hu => ?_
  have h1 := ta_text1
  have h2 := ta_text2
  apply wpS_seq
  apply wpS_region
  simp [wpOpsS, go_sem, recoverD, hu, Tryz.ntmps79, Exit.thenS]
  refine wpS_of_wp ?_
  go_wp2
  simp [bodyPostS, results, Tryz.results79]

theorem must_f (w : World) : Calls Tryz.prog 81 #[.bool false] w fun e w' => e = .panicked [{ v := .iface 131 (.agg #[]), recovered := false }] ∧ w' = w := by
  go_enter Tryz.func81, Tryz.ntmps81
  go_wp2
  exact ⟨rfl, rfl, rfl⟩

theorem must_t (w : World) : Calls Tryz.prog 81 #[.bool true] w fun e w' => e = .returned (.tuple #[]) ∧ w' = w := by
  go_enter Tryz.func81, Tryz.ntmps81
  go_wp2
  go_end0
  exact ⟨rfl, rfl⟩

/-- a text that its last line's check does not fit -/
structure BadT (ys : List (List UInt8)) (z : List UInt8) : Prop where
  n1 : 1 ≤ ys.length
  n2 : ys.length ≤ 1000
  len : ∀ x ∈ ys, x.length ≤ 1000
  nl : ∀ y ∈ ys ++ [z], (10 : UInt8) ∉ y
  tot : (Lib.join (ys ++ [z]) [10]).length ≤ 299
  bad : z ≠ endL ys

set_option maxRecDepth 100000 in
set_option maxHeartbeats 1000000 in
theorem lineOf_f (ys : List (List UInt8)) (z : List UInt8) (w : World) (hB : Hid (BadT ys z)) (hp : Hid (Pow w)) (hm : Hid (ML w)) :
    Calls Tryz.prog 44 #[.string (bs (Lib.join (ys ++ [z]) [10] ++ [10]))] w fun e w' => e = .panicked [{ v := .iface 131 (.agg #[]), recovered := false }] ∧ Below w.heap.size w w' := by
  have hal : Below w.heap.size w (w.alloc (.cells #[.slice none 0 0, .slice none 0 0] 25)) := (Below.refl _ _).alloc (Nat.le_refl _) _
  have HL : Hid (Calls Tryz.prog 80 #[.string (bs (Lib.join (ys ++ [z]) [10] ++ [10])), .int .i64 139] (w.alloc (.cells #[.slice none 0 0, .slice none 0 0] 25)) fun e w' => e = .returned (.tuple #[.slice none 0 0, .bool false]) ∧ Below w.heap.size w w') :=
    Lib.hid ((lines_bad ys z _ hB.out.n1 hB.out.n2 (Lib.hid hB.out.len) (Lib.hid hB.out.nl) (by have := hB.out.tot; omega) (Lib.hid hB.out.bad) (Lib.hid (hp.out.on hal)) (Lib.hid (hm.out.on hal))).mono fun e w' ⟨he, hb⟩ => ⟨he, hal.trans (hb.mono hal.size)⟩)
  obtain ⟨T, hT⟩ : ∃ T, bs (Lib.join (ys ++ [z]) [10] ++ [10]) = T := ⟨_, rfl⟩
  rw [hT] at HL ⊢
  clear hT hal
  go_enter Tryz.func44, Tryz.ntmps44
  go_wp2_with (first
    | (go_at_call 80; refine HL.out.mono ?_; rintro e w1 ⟨rfl, hb1⟩)
    | (go_at_call 81; refine (must_f _).mono ?_; rintro e w2 ⟨rfl, rfl⟩))
  exact ⟨rfl, rfl, hb1⟩
end Go.Kn

namespace Go.Kn
open Go Go.Proofs Go.RowKit

def txt (ys : List (List UInt8)) (z : List UInt8) : ByteArray := bs (Lib.join (ys ++ [z]) [10] ++ [10])

set_option maxRecDepth 100000 in
set_option maxHeartbeats 1000000 in
theorem read1_f (a b : Nat) (ys : List (List UInt8)) (z : List UInt8) (w : World) (hB : Hid (BadT ys z)) (hp : Hid (Pow w)) (hm : Hid (ML w)) (hc : w.cell? ⟨a, 0, none⟩ = some (.string (txt ys z))) :
    Calls Tryz.prog 43 #[.pointer (some ⟨a, 0, none⟩), .pointer (some ⟨b, 0, none⟩)] w fun e w' => e = .panicked [{ v := .iface 131 (.agg #[]), recovered := false }] ∧ Below w.heap.size w w' := by
  have HL := Lib.hid (lineOf_f ys z w hB hp hm)
  rw [show bs (Lib.join (ys ++ [z]) [10] ++ [10]) = txt ys z from rfl] at HL
  obtain ⟨T, hT⟩ : ∃ T, txt ys z = T := ⟨_, rfl⟩
  rw [hT] at HL hc
  clear hT
  go_enter Tryz.func43, Tryz.ntmps43
  go_wp2_with (go_at_call 44; refine HL.out.mono ?_; rintro e w1 ⟨rfl, hb⟩)
  exact ⟨rfl, rfl, hb⟩

set_option maxRecDepth 100000 in
set_option maxHeartbeats 1000000 in
theorem attempt_bad (a b : Nat) (ys : List (List UInt8)) (z : List UInt8) (w : World) (hB : Hid (BadT ys z)) (hp : Hid (Pow w)) (hm : Hid (ML w)) (hc : w.cell? ⟨a, 0, none⟩ = some (.string (txt ys z))) :
    Calls Tryz.prog 42 #[.func (.func 43) #[] #[.pointer (some ⟨a, 0, none⟩), .pointer (some ⟨b, 0, none⟩)]] w fun e w' => e = .returned (.int .i64 4) ∧ Below w.heap.size w w' := by
  have hmf : ∀ (fn : Fn) (first cap : Array Value) (w : World), (Instr.makeFunc fn first cap).run Tryz.prog w = .ok (.func fn first cap) w := fun _ _ _ _ => rfl
  have hA : Below w.heap.size w (w.alloc (.cells #[.int .i64 0] 28)) := (Below.refl _ _).alloc (Nat.le_refl _) _
  have ha : a < w.heap.size := World.block_lt_of_cell? _ _ hc
  have HR : Hid (Calls Tryz.prog 43 #[.pointer (some ⟨a, 0, none⟩), .pointer (some ⟨b, 0, none⟩)] (w.alloc (.cells #[.int .i64 0] 28)) fun e w' => e = .panicked [{ v := .iface 131 (.agg #[]), recovered := false }] ∧ Below (w.alloc (.cells #[.int .i64 0] 28)).heap.size (w.alloc (.cells #[.int .i64 0] 28)) w') :=
    Lib.hid (read1_f a b ys z _ hB (Lib.hid (hp.out.on hA)) (Lib.hid (hm.out.on hA)) (((bcell hA).1 _ _ ha).trans hc))
  have c0 : (w.alloc (.cells #[.int .i64 0] 28)).cell? ⟨w.heap.size, 0, none⟩ = some (.int .i64 0) := by simp
  have f0 : (w.alloc (.cells #[.int .i64 0] 28)).frozen? ⟨w.heap.size, 0, none⟩ = false := by simp
  have l0 : w.heap.size < (w.alloc (.cells #[.int .i64 0] 28)).heap.size := by simp
  have HC : Hid (∀ w1, Below (w.alloc (.cells #[.int .i64 0] 28)).heap.size (w.alloc (.cells #[.int .i64 0] 28)) w1 → w1.cell? ⟨w.heap.size, 0, none⟩ = some (.int .i64 0) ∧ w1.frozen? ⟨w.heap.size, 0, none⟩ = false) := Lib.hid fun w1 hb => by
    obtain ⟨c, f⟩ := bcell hb
    exact ⟨(c _ _ l0).trans c0, (f _ _ l0).trans f0⟩
  have HA := Lib.hid hA
  clear hc hA c0 f0 l0
  go_enter_defers Tryz.func42, Tryz.ntmps42
  go_wp2_with (go_at_call 43; refine HR.out.mono ?_; rintro e w2 ⟨rfl, hb⟩; obtain ⟨y1, y2⟩ := HC.out _ hb)
  refine leaves_cons (f := 79) (args := #[.pointer (some ⟨w.heap.size, 0, none⟩)]) (by simp) (by simp [go_sem]) ?_
  refine (catch_text ⟨w.heap.size, 0, none⟩ 0 [] _ y1 y2).mono ?_
  rintro e u' w'' ⟨rfl, rfl, rfl⟩
  simp [Leaves, settle, results, Tryz.results42, go_sem, y1]
  exact (HA.out.trans (hb.mono HA.out.size)).setCell (Nat.le_refl _) _

set_option maxRecDepth 100000 in
set_option maxHeartbeats 1000000 in
theorem read_f (ys : List (List UInt8)) (z : List UInt8) (w : World) (hB : Hid (BadT ys z)) (hp : Hid (Pow w)) (hm : Hid (ML w)) :
    Calls Tryz.prog 15 #[.string (txt ys z)] w fun e w' => e = .returned (.tuple #[.agg #[.slice none 0 0, .slice none 0 0], .int .i64 4]) ∧ Below w.heap.size w w' := by
  have hsz : (txt ys z).size ≤ 300 := by
    have := hB.out.tot
    unfold txt
    rw [bs_size]; simp; omega
  obtain ⟨W, hW⟩ : ∃ W, W = (w.alloc (.cells #[.string (txt ys z)] 9)).alloc (.cells #[.slice none 0 0, .slice none 0 0] 25) := ⟨_, rfl⟩
  have hbW : Below w.heap.size w W := by rw [hW]; exact ((Below.refl _ _).alloc (Nat.le_refl _) _).alloc (by simp) _
  have hzW : W.heap.size = w.heap.size + 1 + 1 := by rw [hW]; simp
  have c0 : W.cell? ⟨w.heap.size, 0, none⟩ = some (.string (txt ys z)) := by rw [hW]; simp
  have c1 : W.cell? ⟨w.heap.size + 1, 0, none⟩ = some (.slice none 0 0) := by rw [hW]; simp
  have c2 : W.cell? ⟨w.heap.size + 1, 1, none⟩ = some (.slice none 0 0) := by rw [hW]; simp
  have f1 : W.frozen? ⟨w.heap.size + 1, 0, none⟩ = false := by rw [hW]; simp
  have f2 : W.frozen? ⟨w.heap.size + 1, 1, none⟩ = false := by rw [hW]; simp
  have HAT : Hid (Calls Tryz.prog 42 #[.func (.func 43) #[] #[.pointer (some ⟨w.heap.size, 0, none⟩), .pointer (some ⟨w.heap.size + 1, 0, none⟩)]] W fun e w' => e = .returned (.int .i64 4) ∧ Below W.heap.size W w') := Lib.hid (attempt_bad _ _ ys z W hB (Lib.hid (hp.out.on hbW)) (Lib.hid (hm.out.on hbW)) c0)
  have HC : Hid (∀ w1, Below W.heap.size W w1 → w1.cell? ⟨w.heap.size + 1, 0, none⟩ = some (.slice none 0 0) ∧ w1.cell? ⟨w.heap.size + 1, 1, none⟩ = some (.slice none 0 0) ∧ w1.frozen? ⟨w.heap.size + 1, 0, none⟩ = false ∧ w1.frozen? ⟨w.heap.size + 1, 1, none⟩ = false) := Lib.hid fun w1 hb => by
    obtain ⟨c, f⟩ := bcell hb
    exact ⟨(c _ _ (by omega)).trans c1, (c _ _ (by omega)).trans c2, (f _ _ (by omega)).trans f1, (f _ _ (by omega)).trans f2⟩
  have HBW := Lib.hid hbW
  have hmf : ∀ (fn : Fn) (first cap : Array Value) (w : World), (Instr.makeFunc fn first cap).run Tryz.prog w = .ok (.func fn first cap) w := fun _ _ _ _ => rfl
  have hs3 : ¬ ((300 : Int) < ((txt ys z).size : Int)) := by omega
  obtain ⟨T, hT⟩ : ∃ T, txt ys z = T := ⟨_, rfl⟩
  rw [hT] at hW hs3 ⊢
  clear hT c0 c1 c2 f1 f2 hbW hzW hsz
  go_enter Tryz.func15, Tryz.ntmps15
  go_wp2_with (go_at_call 42; rw [← hW]; refine HAT.out.mono ?_; rintro e w2 ⟨rfl, hb⟩; obtain ⟨y1, y2, y3, y4⟩ := HC.out _ hb)
  have hne : (⟨w.heap.size + 1, 1, none⟩ : Addr) ≠ ⟨w.heap.size + 1, 0, none⟩ := by intro e; cases e
  have e1 : ((w2.setCell ⟨w.heap.size + 1, 0, none⟩ (.slice none 0 0)).setCell ⟨w.heap.size + 1, 1, none⟩ (.slice none 0 0)).cell? ⟨w.heap.size + 1, 0, none⟩ = some (.slice none 0 0) := by
    rw [World.cell?_setCell_other _ _ _ _ hne]; exact World.cell?_setCell_same' _ _ _ (by rw [y1]; rfl)
  have e2 : ((w2.setCell ⟨w.heap.size + 1, 0, none⟩ (.slice none 0 0)).setCell ⟨w.heap.size + 1, 1, none⟩ (.slice none 0 0)).cell? ⟨w.heap.size + 1, 1, none⟩ = some (.slice none 0 0) :=
    World.cell?_setCell_same' _ _ _ (by rw [World.cell?_setCell_other _ _ _ _ hne.symm, y2]; rfl)
  refine bodyPost_ret (v := .tuple #[.agg #[.slice none 0 0, .slice none 0 0], .int .i64 4]) (by simp [results, Tryz.results15, go_sem, e1, e2]) rfl ⟨rfl, ?_⟩
  exact ((HBW.out.trans (hb.mono HBW.out.size)).setCell (by simp) _).setCell (by simp) _
end Go.Kn

namespace Go.Kn
open Go Go.Proofs Go.RowKit

set_option maxRecDepth 100000 in
set_option maxHeartbeats 1000000 in
theorem sameLines0_w (w : World) :
    Calls Tryz.prog 17 #[.agg #[.slice none 0 0, .slice none 0 0], .agg #[.slice none 0 0, .slice none 0 0]] w fun e w' => e = .returned (.bool true) ∧ Below w.heap.size w w' := by
  obtain ⟨W, hW⟩ : ∃ W, W = (w.alloc (.cells #[.slice none 0 0, .slice none 0 0] 25)).alloc (.cells #[.slice none 0 0, .slice none 0 0] 25) := ⟨_, rfl⟩
  have hbW : Below w.heap.size w W := by rw [hW]; exact ((Below.refl _ _).alloc (Nat.le_refl _) _).alloc (by simp) _
  have hzW : W.heap.size = w.heap.size + 1 + 1 := by rw [hW]; simp
  have HC : Hid (∀ w1, Below W.heap.size W w1 → w1.cell? ⟨w.heap.size, 0, none⟩ = some (.slice none 0 0) ∧ w1.cell? ⟨w.heap.size, 1, none⟩ = some (.slice none 0 0) ∧ w1.cell? ⟨w.heap.size + 1, 0, none⟩ = some (.slice none 0 0) ∧ w1.cell? ⟨w.heap.size + 1, 1, none⟩ = some (.slice none 0 0)) := Lib.hid fun w1 hb => by
    obtain ⟨c, _⟩ := bcell hb
    exact ⟨(c _ _ (by omega)).trans (by rw [hW]; simp), (c _ _ (by omega)).trans (by rw [hW]; simp), (c _ _ (by omega)).trans (by rw [hW]; simp), (c _ _ (by omega)).trans (by rw [hW]; simp)⟩
  have HBW := Lib.hid hbW
  have HS : Hid (Calls Tryz.prog 31 #[.slice none 0 0, .slice none 0 0] W fun e w' => e = .returned (.bool true) ∧ Below W.heap.size W w') := Lib.hid (same_w none none 0 0 0 (fun _ => 0) W (by decide) (Lib.hid (.inl rfl)) (Lib.hid (.inl rfl)))
  clear hbW hzW
  go_enter Tryz.func17, Tryz.ntmps17
  go_wp2_with (go_at_call 31; rw [← hW]; refine HS.out.mono ?_; rintro e w1 ⟨rfl, hb⟩; obtain ⟨y1, y2, y3, y4⟩ := HC.out _ hb)
  have HB := Lib.hid hb
  clear hb y1 y2 y3 y4
  go_loopw [5] (fun ii wr => ii = .int .i64 0 ∧ Below W.heap.size W wr) (fun ii _ => 0)
  case atStart => exact ⟨rfl, HB.out⟩
  case round =>
    obtain ⟨rfl, hbw⟩ := hrel
    obtain ⟨y1, y2, y3, y4⟩ := HC.out _ hbw
    have HBB := Lib.hid hbw
    clear hbw
    go_wp2
    go_ret
    exact ⟨rfl, HBW.out.trans (HBB.out.mono HBW.out.size)⟩
end Go.Kn
