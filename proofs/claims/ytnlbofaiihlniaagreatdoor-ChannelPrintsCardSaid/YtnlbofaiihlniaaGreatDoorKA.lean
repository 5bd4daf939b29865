/- Walks of functions of layer 2 (contracts that the laws of this seat use). Conditions: as each theorem states them. -/
import Derived.Test.YtnlbofaiihlniaaGreatDoorCloP
import Derived.KernelRfl
import Derived.Test.YtnlbofaiihlniaaGreatDoorProg
set_option linter.unusedVariables false
set_option linter.unusedSimpArgs false
namespace Go.Kn
open Go Go.Clo Go.Proofs
noncomputable section
def Text : Tr (Array Value → Sem Value) := Tr.set (Tr.set Tr.e 163 Extern.BytealgCount.count) 172 Extern.BytealgIndexByte.indexByte
def Tcl : Tr Unit := Tr.set Tr.e 135 ()
def Tkq : Tr Nat := Tr.set Tr.e 143 1
def T0 : Tb := tables Tryz.prog Tryz.types.toList Tryz.funcs.toList Text Tcl Tkq Tr.e
def i (n : Nat) : Value := .int .i64 (.ofNat n)
def pSpeeds : List Value := [i 10, i 20, i 30]
def pStretches : List Value := [i 20, i 30, i 1, i 4, i 10, i 24, i 25, i 0, i 0, i 5, i 10, i 20, i 2, i 10, i 10]
def gRow (k g : Nat) : Value × Value × Value := (i k, i 5000, .tuple #[i g, .bool true])
def gRun (k g : Nat) : Bool := isRet ((ev T0 400).call 52 [.agg #[.slice (some ⟨0, 0, none⟩) 3 3, .slice (some ⟨1, 0, none⟩) 3 3], i k, i 5000] none (twoHp pSpeeds 3 pStretches 74)) (.tuple #[i g, .bool true])
def T1 : Tb := { T0 with sp := Tr.set Tr.e 52 (tab2 pSpeeds 3 pStretches 74 [gRow 0 59, gRow 1 39, gRow 2 9] 3 3) }
def kRun : Bool := isRet ((ev T1 400).call 7 [] none Hp.empty) (.bool true)
end
end Go.Kn
