/-
  What one word of a format stands for, or its error.
-/
import Derived.Test.YtnpocnckkaddbaaGreatDoorP27C
set_option linter.unusedVariables false
set_option linter.unusedSimpArgs false
set_option linter.unusedSectionVars false
namespace Go.Proofs.YtnpocnckkaddbaaGreatDoor
open Go.RowKit Go.Shelf Go.Canon

def fmtV (E P : Int) : Value := .agg #[.int .i64 E, .int .i64 P]
def readC : CF → St → Option (Value × St) := orElse checkO (orElse rightO decodeO)
noncomputable def readX : CF → St → Option (Value × St) := orElse readC (runO Tryz.prog (orElse readC (runO Tryz.prog readC 1000)) 1000)
theorem readC_ok : RunOkE Tryz.prog readC := orElse_ok checkO_ok (orElse_ok rightO_ok decodeO_ok)
theorem readX_ok : RunOkE Tryz.prog readX := orElse_ok readC_ok (runO_ok noCountP mixedP (orElse_ok readC_ok (runO_ok noCountP mixedP readC_ok 1000).e) 1000).e
def chkE (E P : Int) : Int := if Fmt E P then 0 else 2
def rY (E P X : Int) : Value := wordV (wX (wordV X) / 2 ^ (IntKind.i64.wrap (E + P)).toNat)
def rcs0 (E P X : Int) (far : Bool) : List (Bool × Bool) :=
  [(!decide (wX (wordV X) / 2 ^ (IntKind.i64.wrap (E + P)).toNat / 18446744073709551616 = 0 ∧ wX (wordV X) / 2 ^ (IntKind.i64.wrap (E + P)).toNat % 18446744073709551616 = 0), far), (wB (wordV X) && decide (0 ≤ IntKind.i64.wrap (E + P) ∧ IntKind.i64.wrap (E + P) ≤ 127), true),
   (true, true), (true, true), (true, true), (true, true), (true, true), (false, false), (true, true), (true, true), (true, true), (false, false), (false, false), (chkE E P != 0, false), (true, true)]
def rcs1 (E P X : Int) (neg : Bool) : List (Bool × Bool) := (true, true) :: (true, true) :: (false, false) :: (false, false) :: (true, true) :: (true, true) :: (negOf E P (wX (wordV X)), neg) :: (decide (Fmt E P) && (wB (wordV X) && decide (wX (wordV X) < 2 * signOf E P)), true) :: rcs0 E P X false
noncomputable def readRun (E P X : Int) (an : List Bool) (n : Nat) : Option (Value × Option CObj × List (Bool × Bool)) := conRun Tryz.prog TR readX 1000 85 [.v (fmtV E P), .v (wordV X)] an n
set_option maxRecDepth 1000000 in
theorem read_bad (E P X : Int) : readRun E P X [true, true, true] 1 = some (.tuple #[opZ 0 false, .int .i64 2], some (.fact 0), [(true, true), (true, true), (true, true), (true, true), (true, true), (chkE E P != 0, true), (true, true)]) := by kernel_rfl
set_option maxRecDepth 1000000 in
theorem read_far (E P X : Int) : readRun E P X [false, false, false, false, true, true, true, true] 1 = some (.tuple #[opZ 0 false, .int .i64 6], some (.fact 0), (true, true) :: (true, true) :: rcs0 E P X true) := by kernel_rfl
set_option maxRecDepth 1000000 in
theorem read_t (E P X : Int) : readRun E P X [false, false, false, false, true, false, true, false, false, true] 25 = some (.tuple #[subst 25 4 (opT (kindOf E P (wX (wordV X))) true (opK E P (wX (wordV X)))), .int .i64 0], some (.ghost 0 [opK E P (wX (wordV X)), fineOf E P]), rcs1 E P X true) := by kernel_rfl
set_option maxRecDepth 1000000 in
theorem read_f (E P X : Int) : readRun E P X [false, false, false, false, true, false, false, false, false, true] 25 = some (.tuple #[subst 25 4 (opT (kindOf E P (wX (wordV X))) false (opK E P (wX (wordV X)))), .int .i64 0], some (.ghost 0 [opK E P (wX (wordV X)), fineOf E P]), rcs1 E P X false) := by kernel_rfl
end Go.Proofs.YtnpocnckkaddbaaGreatDoor
