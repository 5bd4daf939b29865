/- Contracts of functions that the laws of this seat call, or the evaluator of closed calls and its runs. Conditions: as each theorem states them. -/
import Derived.Test.YtddlghdglknloaaGreatDoorKF
import Derived.Test.YtddlghdglknloaaGreatDoorKN
set_option linter.unusedVariables false
set_option linter.unusedSimpArgs false
namespace Go.Kn
open Go Go.Clo Go.Proofs
noncomputable section
def Text : Tr (Array Value → Sem Value) := Tr.set (Tr.set Tr.e 186 Extern.BytealgCount.count) 203 Extern.BytealgIndexByte.indexByte
def Tcl : Tr Unit := Tr.e
def T0 : Tb := tables Tryz.prog Tryz.types.toList Tryz.funcs.toList Text Tcl Tkq Tr.e
def T1 : Tb := { T0 with sp := Tr.set Tr.e 64 fedG }
def i (n : Nat) : Value := .int .i64 (.ofNat n)
def bt : Value := .bool true
def bf : Value := .bool false
def sl (b n : Nat) : Value := .slice (some ⟨b,0,none⟩) n n
def ptN (a : Nat) : List Value := [i a, i 120, i 0, i 0, i 0, i 0, i 0, i 0, i 40, i 0, i 0, i 50]
def chN : List Value := [i 0, i 1, i 100, bt, i 0, i 1, i 95, bt, i 1, i 2, i 50, bf, i 1, i 3, i 60, bt, i 2, i 3, i 30, bt]
def kNet : Value := .agg #[sl 0 4, sl 1 5]
def bks (a : Nat) (l : List (List Value)) : List Bk := ⟨ptN a, 37, true⟩ :: ⟨chN, 68, true⟩ :: l.map fun c => ⟨c, 3, true⟩
def run (f a : Nat) (l : List (List Value)) (args : List Value) : Option (Rt × Option FrameMode × Hp) := (ev T1 400).call f (kNet :: args) none (hpOf (bks a l))
def rowFed0 : Row := ⟨kNet :: [sl 2 2], bks 100 [[i 0, i 3]], .tuple #[i 3, i 0], [], []⟩
def rowFed1 : Row := ⟨kNet :: [sl 2 2], bks 80 [[i 0, i 3]], .tuple #[i 2, i 0], [], []⟩
def rowsFed : List Row := [rowFed0, rowFed1]
def rowFeeds0 : Row := ⟨kNet :: [sl 2 2, sl 3 5], bks 100 [[i 0, i 3], [i 90, i 0, i 40, i 50, i 0]], .tuple #[bt, i 0], [], []⟩
def rowsFeeds : List Row := [rowFeeds0]
def rowCut0 : Row := ⟨kNet :: [sl 2 2], bks 80 [[i 0, i 3]], .tuple #[.slice (some ⟨166,0,none⟩) 4 4, i 0], [166], [⟨[i 0, i 1, i 2, i 3], 3, false⟩]⟩
def rowsCut : List Row := [rowCut0]
def rowMost0 : Row := ⟨kNet :: [sl 2 2, i 3], bks 100 [[i 0, i 3]], .tuple #[i 60, i 0], [], []⟩
def rowsMost : List Row := [rowMost0]
def rowFewest0 : Row := ⟨kNet :: [], bks 100 [], .tuple #[.slice (some ⟨137,0,none⟩) 2 2, i 0], [137], [⟨[i 0, i 3], 3, false⟩]⟩
def rowsFewest : List Row := [rowFewest0]
def rowVital0 : Row := ⟨kNet :: [], bks 100 [], .tuple #[.slice (some ⟨71,0,none⟩) 1 4, i 0], [71], [⟨[i 3, i 0, i 0, i 0], 3, false⟩]⟩
def rowsVital : List Row := [rowVital0]
def rowMoves0 : Row := ⟨kNet :: [sl 2 2, sl 3 1], bks 100 [[i 0, i 3], [i 0]], .tuple #[.slice (some ⟨115,0,none⟩) 2 2, i 0], [115], [⟨[i 0, i 1], 3, false⟩]⟩
def rowsMoves : List Row := [rowMoves0]
def rowProof0 : Row := ⟨kNet :: [sl 2 2], bks 100 [[i 0, i 1]], .tuple #[.slice (some ⟨358,0,none⟩) 2 2, i 0], [358], [⟨[i 1, i 2], 3, false⟩]⟩
def rowsProof : List Row := [rowProof0]
def rowPlan0 : Row := ⟨kNet :: [sl 2 2, sl 3 2], bks 100 [[i 0, i 3], [i 0, i 1]], .tuple #[.slice (some ⟨418,0,none⟩) 2 2, i 4, i 0], [418, 403, 416], [⟨[.slice (some ⟨403,0,none⟩) 2 2, .slice (some ⟨416,0,none⟩) 2 2], 26, false⟩, ⟨[i 1, i 3], 3, false⟩, ⟨[i 0, i 3], 3, false⟩]⟩
def rowsPlan : List Row := [rowPlan0]
def rowTogether0 : Row := ⟨kNet :: [sl 2 3], bks 100 [[i 0, i 1, i 4]], .tuple #[.slice (some ⟨179,0,none⟩) 2 2, i 0], [179], [⟨[i 0, i 4], 3, false⟩]⟩
def rowsTogether : List Row := [rowTogether0]
def rowRounds0 : Row := ⟨kNet :: [sl 2 3], bks 100 [[i 0, i 1, i 4]], .tuple #[.slice (some ⟨449,0,none⟩) 3 3, i 0], [449], [⟨[i 0, i 1, i 0], 3, false⟩]⟩
def rowsRounds : List Row := [rowRounds0]
end
end Go.Kn

namespace Go.Kn
open Go Go.Clo Go.Proofs Go.RowKit
noncomputable section
/-- the package's table of tens, as far as the examples read it -/
def hG : Hp := ⟨Tr.e.set 0 (.cells [.int .u64 1, .int .u64 10, .int .u64 100] 221 true), 1, 1⟩
/-- the digits of 142, where the table lies -/
def digG (args : List Value) (um : Option FrameMode) (h : Hp) : Option (Rt × Option FrameMode × Hp) :=
  match um, args with
  | none, [.int .u64 n] => match h.get 0 with
    | some (.cells [.int .u64 a, .int .u64 b, .int .u64 c] _ _) => cond (decide (n = 142) && decide (c = 100)) (some (.ret (.int .i64 3), none, h)) none
    | _ => none
  | _, _ => none
def TG : Tb := { T1 with sp := T1.sp.set 198 digG, gl := fun b => if b = 0 then some (3, 0) else none }
def TFed : Tb := { TG with sp := TG.sp.set 23 (memo rowsFed) }
def TFeeds : Tb := { TFed with sp := TFed.sp.set 17 (memo rowsFeeds) }
def TCut : Tb := { TFeeds with sp := TFeeds.sp.set 24 (memo rowsCut) }
def TMost : Tb := { TCut with sp := TCut.sp.set 29 (memo rowsMost) }
def TFewest : Tb := { TMost with sp := TMost.sp.set 37 (memo rowsFewest) }
def TVital : Tb := { TFewest with sp := TFewest.sp.set 44 (memo rowsVital) }
def TMoves : Tb := { TVital with sp := TVital.sp.set 38 (memo rowsMoves) }
def TProof : Tb := { TMoves with sp := TMoves.sp.set 43 (memo rowsProof) }
def TPlan : Tb := { TProof with sp := TProof.sp.set 50 (memo rowsPlan) }
def TTogether : Tb := { TPlan with sp := TPlan.sp.set 51 (memo rowsTogether) }
def TRounds : Tb := { TTogether with sp := TTogether.sp.set 52 (memo rowsRounds) }
def kRun : Bool := isRet ((ev TRounds 400).call 16 [] none hG) (.bool true)
end
theorem dig_ok {T : Tb} (hp : T.P = Tryz.prog) (hg : T.gl 0 = some (3, 0)) {args : List Value} {um : Option FrameMode} {h : Hp} {r : Rt} {um' : Option FrameMode} {h' : Hp} (e : digG args um h = some (r, um', h'))
    {σ : Ren} {w : World} {args' : Array Value} {m : Option FrameMode} {cs : List Frame} (hA : VRs σ args args'.toList) (hU : UmR σ um m cs) (H : HR T σ h w) :
    ∃ σ' w' r' m', RtR σ' r r' ∧ UmR σ' um' m' cs ∧ um'.isSome = um.isSome ∧ HR T σ' h' w' ∧ Keep σ h w σ' h' w' ∧ Clo.Left T.P (lone (Frame.enter T.P 198 args' (kd um)) (upc m cs) w) 198 (kd um) r' m' cs w' := by
  unfold digG at e
  split at e
  · rename_i n
    split at e
    · rename_i a b c f x g1
      replace e := cond_none e; obtain ⟨hc, e⟩ := e
      simp only [Bool.and_eq_true, decide_eq_true_eq] at hc
      obtain ⟨rfl, rfl⟩ := hc
      simp only [Option.some.injEq, Prod.mk.injEq] at e
      obtain ⟨rfl, rfl, rfl⟩ := e
      have hm : m = none := by cases m <;> simp_all [UmR]
      subst hm
      obtain ⟨args'⟩ := args'
      simp only at hA
      cases hA with
      | cons hz hA =>
      cases hA
      cases hz
      have hb := H.blk _ _ _ _ g1 (H.gl _ _ hg)
      have hcell := blk_cell (j := 2) hb rfl rfl
      obtain ⟨w', z1, hw⟩ := left_of_calls (digits142_w w hcell) cs
      refine ⟨σ, w', .ret (.int .i64 3), none, .ret (.int _ _), trivial, rfl, H.world (fun c hc => hw.block c hc) hw.size, Keep.world σ h (fun c hc => hw.block c hc) hw.size hw.os hw.tape hw.output, ?_⟩
      rw [hp]
      exact z1
    · cases e
  · cases e
end Go.Kn
