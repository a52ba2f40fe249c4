/-
  Add of numbers: its runs.
-/
import Derived.Test.YtedhbbjlbgpafaaGreatDoorP27
set_option linter.unusedVariables false
set_option linter.unusedSimpArgs false
namespace Go.Proofs.YtedhbbjlbgpafaaGreatDoor
open Go.RowKit Go.Shelf Go.Canon
noncomputable def nest(c:CF→St→Option (Value×St)):Nat→CF→St→Option (Value×St)
 |0=>c
 |n+1=>orElse c (runO Tryz.prog (nest c n) 1000)
theorem nest_ok{c:CF→St→Option (Value×St)}(h:RunOkE Tryz.prog c): ∀n,RunOkE Tryz.prog (nest c n)
 |0=>h
 |n+1=>orElse_ok h (runO_ok noCountP mixedP (nest_ok h n) 1000).e
def dKind(E P X:Int):Int:=kindOf E P (wX (wordV X))
def zeroW:Value:=.agg #[.int .u64 0,.int .u64 0]
end Go.Proofs.YtedhbbjlbgpafaaGreatDoor
