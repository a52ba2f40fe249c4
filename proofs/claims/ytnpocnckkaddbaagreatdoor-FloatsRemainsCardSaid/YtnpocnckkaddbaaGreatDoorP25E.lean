/-
  What a number is in steps; which way a rest goes; the mode of a size; by runs with unknown numbers.
-/
import Derived.Test.YtnpocnckkaddbaaGreatDoorP25D
set_option linter.unusedVariables false
set_option linter.unusedSimpArgs false
set_option linter.unusedSectionVars false
namespace Go.Proofs.YtnpocnckkaddbaaGreatDoor
open Go.RowKit Go.Shelf Go.Canon

def inStepsC : CF → St → Option (Value × St) := orElse absO (orElse shiftedO (orElse floorO (orElse toWordO (orElse isIntO rightO))))
theorem inStepsC_ok : RunOkE Tryz.prog inStepsC := orElse_ok absO_ok (orElse_ok shiftedO_ok (orElse_ok floorO_ok (orElse_ok toWordO_ok (orElse_ok isIntO_ok rightO_ok))))
/-- what is taken for granted -/
def stepsCs (K k s : Int) (odd int : Bool) : List (Bool × Bool) :=
  let A : Int := K.natAbs
  let D := IntKind.i64.wrap (1 - s)
  let e := k + D
  let F := floorK A e
  let W := F * 2 ^ (0 : Int).toNat
  [(true, true), (wB (wordV W) && decide ((0 : Int) ≤ 1 ∧ (1 : Int) ≤ 127), true), (isI' A e, int), (true, true), (decide (A < 0) == decide (A < 0), true),
   (bits BinOp.and IntKind.u64 (W % 18446744073709551616) 1 == 1, odd), (true, true), (true, true),
   (decide ((0 : Int) ≤ 0 ∧ 0 ≤ F * 2 ^ (0 : Int).toNat ∧ F * 2 ^ (0 : Int).toNat < 2 ^ 124), true), (decide (F < 0) == decide (F < 0), true),
   (decide (-sml < A * 2 ^ e.toNat ∧ A * 2 ^ e.toNat < sml ∧ -50000 ≤ e), true), (decide (A < 0) == decide (A < 0), true), (true, true),
   (decide (inB A k ∧ -20000 ≤ D ∧ D ≤ 20000), true), (decide (A < 0) == decide (A < 0), true), (true, true), (decide (K < 0) == decide (K < 0), true)]
def stepsV (K k s rest : Int) : Value :=
  .tuple #[wordV (wX (wordV (floorK K.natAbs (k + IntKind.i64.wrap (1 - s)) * 2 ^ (0 : Int).toNat)) / 2 ^ (1 : Int).toNat), .int .i64 rest]
set_option maxRecDepth 1000000 in
theorem inSteps_ff (K k s : Int) : conRun Tryz.prog TR inStepsC 1000 176 [.n K k, .v (.int .i64 s)] [false, false, true] 1 = some (stepsV K k s 1, some (.fact 0), stepsCs K k s false false) := by kernel_rfl
set_option maxRecDepth 1000000 in
theorem inSteps_ft (K k s : Int) : conRun Tryz.prog TR inStepsC 1000 176 [.n K k, .v (.int .i64 s)] [false, true, true] 1 = some (stepsV K k s 0, some (.fact 0), stepsCs K k s false true) := by kernel_rfl
set_option maxRecDepth 1000000 in
theorem inSteps_tf (K k s : Int) : conRun Tryz.prog TR inStepsC 1000 176 [.n K k, .v (.int .i64 s)] [true, false, true] 1 = some (stepsV K k s 3, some (.fact 0), stepsCs K k s true false) := by kernel_rfl
set_option maxRecDepth 1000000 in
theorem inSteps_tt (K k s : Int) : conRun Tryz.prog TR inStepsC 1000 176 [.n K k, .v (.int .i64 s)] [true, true, true] 1 = some (stepsV K k s 2, some (.fact 0), stepsCs K k s true true) := by kernel_rfl
end Go.Proofs.YtnpocnckkaddbaaGreatDoor
