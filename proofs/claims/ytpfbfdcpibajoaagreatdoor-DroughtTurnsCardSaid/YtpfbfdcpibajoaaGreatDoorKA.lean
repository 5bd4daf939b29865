/- Contracts of functions that the laws of this seat call, or the evaluator of closed calls and its runs. Conditions: as each theorem states them. -/
import Derived.Test.YtpfbfdcpibajoaaGreatDoorCloE6
import Derived.KernelRfl
import Derived.Test.YtpfbfdcpibajoaaGreatDoorProg
set_option linter.unusedVariables false
set_option linter.unusedSimpArgs false
namespace Go.Kn
open Go Go.Clo Go.Proofs
noncomputable section
def Text : Tr (Array Value → Sem Value) := Tr.set (Tr.set Tr.e 220 Extern.BytealgCount.count) 229 Extern.BytealgIndexByte.indexByte
def Tcl : Tr Unit := Tr.e
def Tkq : Tr Nat := Tr.e
def T0 : Tb := tables Tryz.prog Tryz.types.toList Tryz.funcs.toList Text Tcl Tkq Tr.e
def i (n : Nat) : Value := .int .i64 (.ofNat n)
def nodes (a b : Nat) : List Value := [i 0, i a, i 1, i b]
def outs : List Value := [i 2, i 4, i 0, i 1, i 5, i 0, i 0, i 6, i 1, i 2, i 2, i 1]
def treeV (n : Nat) : Value := .agg #[i n, .slice (some ⟨0,0,none⟩) 2 2, .slice (some ⟨1,0,none⟩) 4 4]
def sl (b n : Nat) : Value := .slice (some ⟨b,0,none⟩) n n
def row (n a b : Nat) (x : Bool) (sh fl : List Value) : Row :=
  ⟨[treeV n], [⟨nodes a b, 98, x⟩, ⟨outs, 45, true⟩], .pointer (some ⟨15,0,none⟩), [15, 13, 14], [⟨[i n, sl 0 2, sl 1 4, sl 13 4, sl 14 3], 94, true⟩, ⟨sh, 3, true⟩, ⟨fl, 3, true⟩]⟩
def row0 : Row := row 10 6 3 true [i 3, i 3, i 4, i 0] [i 10, i 6, i 3]
def row1 : Row := row 20 6 3 true [i 3, i 3, i 6, i 0] [i 12, i 6, i 3]
def row2 : Row := row 5 6 3 true [i 3, i 2, i 0, i 0] [i 5, i 5, i 3]
def row3 : Row := row 100 6 3 true [i 3, i 3, i 6, i 0] [i 12, i 6, i 3]
def row4 : Row := row 50 6 3 true [i 3, i 3, i 6, i 0] [i 12, i 6, i 3]
def row5 : Row := row 25 6 3 true [i 3, i 3, i 6, i 0] [i 12, i 6, i 3]
def row6 : Row := row 12 6 3 true [i 3, i 3, i 6, i 0] [i 12, i 6, i 3]
def row7 : Row := row 6 6 3 true [i 3, i 3, i 0, i 0] [i 6, i 6, i 3]
def row8 : Row := row 9 6 3 true [i 3, i 3, i 3, i 0] [i 9, i 6, i 3]
def row9 : Row := row 11 6 3 true [i 3, i 3, i 5, i 0] [i 11, i 6, i 3]
def row10 : Row := row 10 7 3 false [i 3, i 4, i 3, i 0] [i 10, i 7, i 3]
def row11 : Row := row 10 6 4 false [i 3, i 3, i 4, i 0] [i 10, i 6, i 3]
def rows : List Row := [row0, row1, row2, row3, row4, row5, row6, row7, row8, row9, row10, row11]
def T1 : Tb := { T0 with sp := T0.sp.set 72 (memo rows) }
def kRun : Bool := isRet ((ev T1 400).call 14 [] none Hp.empty) (.bool true)
end
end Go.Kn
