/-
  Add of numbers: its runs.
-/
import Derived.Test.YtnpocnckkaddbaaGreatDoorP27F
set_option linter.unusedVariables false
set_option linter.unusedSimpArgs false
set_option linter.unusedSectionVars false
namespace Go.Proofs.YtnpocnckkaddbaaGreatDoor
open Go.RowKit Go.Shelf Go.Canon

/-- calls within calls -/
noncomputable def nest (c : CF → St → Option (Value × St)) : Nat → CF → St → Option (Value × St)
  | 0 => c
  | n + 1 => orElse c (runO Tryz.prog (nest c n) 1000)
theorem nest_ok {c : CF → St → Option (Value × St)} (h : RunOkE Tryz.prog c) : ∀ n, RunOkE Tryz.prog (nest c n)
  | 0 => h
  | n + 1 => orElse_ok h (runO_ok noCountP mixedP (nest_ok h n) 1000).e
def arithC : CF → St → Option (Value × St) := orElse checkO (orElse rightO (orElse decodeO (orElse negO (orElse addO (orElse signO (orElse roundO signedO))))))
theorem arithC_ok : RunOkE Tryz.prog arithC := orElse_ok checkO_ok (orElse_ok rightO_ok (orElse_ok decodeO_ok (orElse_ok negO_ok (orElse_ok addO_ok (orElse_ok signO_ok (orElse_ok roundO_ok signedO_ok))))))
def dK (E P X : Int) : Int := opK E P (wX (wordV X))
def dKind (E P X : Int) : Int := kindOf E P (wX (wordV X))
/-- the newest first; the pairs of one word that is decoded -/
def acsW (E P X : Int) (neg : Bool) (l : List (Bool × Bool)) : List (Bool × Bool) :=
  (true, true) :: (true, true) :: (negOf E P (wX (wordV X)), neg) :: (decide (Fmt E P) && (wB (wordV X) && decide (wX (wordV X) < 2 * signOf E P)), true) ::
    (!decide (wX (wordV X) / 2 ^ (IntKind.i64.wrap (E + P)).toNat / 18446744073709551616 = 0 ∧ wX (wordV X) / 2 ^ (IntKind.i64.wrap (E + P)).toNat % 18446744073709551616 = 0), false) ::
    (wB (wordV X) && decide (0 ≤ IntKind.i64.wrap (E + P) ∧ IntKind.i64.wrap (E + P) ≤ 127), true) :: (true, true) :: (true, true) :: (true, true) :: (true, true) :: (true, true) :: l
def acs0 (E P m X Y : Int) (na nb : Bool) : List (Bool × Bool) :=
  (false, false) :: (false, false) :: acsW E P Y nb (acsW E P X na [(false, false), (true, true), (true, true), (decide (m > 4), false), (decide (m < 0), false), (chkE E P != 0, false), (true, true)])
/-- no operand is a NaN -/
def acsN (E P X : Int) (l : List (Bool × Bool)) : List (Bool × Bool) :=
  (dKind E P X == 5, false) :: (true, true) :: (dKind E P X == 5, false) :: (true, true) :: (dKind E P X == 4, false) :: (true, true) :: (true, true) :: (true, true) :: (true, true) :: l
def acs1 (E P m X Y : Int) (na nb : Bool) : List (Bool × Bool) := (false, false) :: acsN E P Y (acsN E P X (acs0 E P m X Y na nb))
def acsO (E P Y : Int) (l : List (Bool × Bool)) : List (Bool × Bool) := (true, true) :: (true, true) :: (decide (dK E P Y < 0) == decide (dK E P Y < 0), true) :: (true, true) :: (true, true) :: (true, true) :: l
/-- the sum of K and L in steps of the least value -/
def sumK (E P K L : Int) : Int := upK K (fineOf E P) (fineOf E P) + upK L (fineOf E P) (fineOf E P)
def fi (E P : Int) : Int := min (fineOf E P) (fineOf E P)
def acs2 (E P X Y K L : Int) (nz : Bool) (l : List (Bool × Bool)) : List (Bool × Bool) :=
  (sgI (sumK E P K L) != 0, nz) :: (true, true) :: (decide (sumK E P K L < 0) == decide (sumK E P K L < 0), true) :: (true, true) ::
    (decide (inB (upK K (fineOf E P) (fineOf E P)) (fi E P)) && decide (inB (upK L (fineOf E P) (fineOf E P)) (fi E P)), true) :: (decide (L < 0) == decide (L < 0), true) :: (decide (K < 0) == decide (K < 0), true) ::
    (dKind E P Y == 3, false) :: (true, true) :: (dKind E P X == 3, false) :: (true, true) :: (dKind E P X == 3, false) :: (true, true) :: (true, true) :: (true, true) :: (true, true) :: (true, true) :: l
def acs3 (E P m K L : Int) (l : List (Bool × Bool)) : List (Bool × Bool) := (decide (Fmt E P) && (decide (0 ≤ m ∧ m ≤ 4) && decide (inB (sumK E P K L) (fi E P) ∧ -40000 ≤ fi E P)), true) :: (decide (sumK E P K L < 0) == decide (sumK E P K L < 0), true) :: l
def zeroW : Value := .agg #[.int .u64 0, .int .u64 0]
def acs4 (E P m : Int) (m4 eq : Bool) (l : List (Bool × Bool)) : List (Bool × Bool) := (decide (Fmt E P) && (wB zeroW && decide (wX zeroW < signOf E P)), true) :: (true, true) :: (true, true) :: (eq, eq) :: (m == 4, m4) :: (true, true) :: l
def acsE (n : Nat) (l : List (Bool × Bool)) : List (Bool × Bool) := match n with
  | 0 => l
  | n + 1 => (true, true) :: acsE n l
noncomputable def addRun (E P m X Y : Int) (an : List Bool) : Option (Value × Option CObj × List (Bool × Bool)) := conRun Tryz.prog TR (nest arithC 6) 1000 8 [.v (fmtV E P), .v (.int .i64 m), .v (wordV X), .v (wordV Y)] an 1
set_option maxRecDepth 1000000 in
theorem add_ff_n (E P m X Y : Int) : addRun E P m X Y [false, false, false, false, true, false, false, true, false, false, false, false, true, false, false, false, true, false, false, false, false, false, false, false, true, true] = some (.tuple #[wordV (rndW E P m (sumK E P (dK E P X) (dK E P Y)) (fi E P)), .int .i64 (rndF E P m (sumK E P (dK E P X) (dK E P Y)) (fi E P)), .int .i64 0], some (.fact 0), acsE 5 (acs3 E P m (dK E P X) (dK E P Y) (acs2 E P X Y (dK E P X) (dK E P Y) true (acs1 E P m X Y false false)))) := by kernel_rfl
set_option maxRecDepth 1000000 in
theorem add_ff_f (E P m X Y : Int) : addRun E P m X Y [false, false, false, false, true, false, false, true, false, false, false, false, true, false, false, false, true, false, false, false, false, false, false, false, false, false, true, true, true] = some (.tuple #[wordV (wX zeroW), .int .i64 0, .int .i64 0], some (.fact 0), acsE 6 (acs4 E P m false true (acs2 E P X Y (dK E P X) (dK E P Y) false (acs1 E P m X Y false false)))) := by kernel_rfl
set_option maxRecDepth 1000000 in
theorem add_ff_t (E P m X Y : Int) : addRun E P m X Y [false, false, false, false, true, false, false, true, false, false, false, false, true, false, false, false, true, false, false, false, false, false, false, false, false, true, true, true, true] = some (.tuple #[wordV (wX zeroW), .int .i64 0, .int .i64 0], some (.fact 0), acsE 6 (acs4 E P m true true (acs2 E P X Y (dK E P X) (dK E P Y) false (acs1 E P m X Y false false)))) := by kernel_rfl
set_option maxRecDepth 1000000 in
theorem add_ft_n (E P m X Y : Int) : addRun E P m X Y [false, false, false, false, true, false, false, true, false, true, false, false, true, false, false, false, true, false, false, false, false, false, false, false, true, true] = some (.tuple #[wordV (rndW E P m (sumK E P (dK E P X) (dK E P Y)) (fi E P)), .int .i64 (rndF E P m (sumK E P (dK E P X) (dK E P Y)) (fi E P)), .int .i64 0], some (.fact 0), acsE 5 (acs3 E P m (dK E P X) (dK E P Y) (acs2 E P X Y (dK E P X) (dK E P Y) true (acs1 E P m X Y false true)))) := by kernel_rfl
set_option maxRecDepth 1000000 in
theorem add_ft_f (E P m X Y : Int) : addRun E P m X Y [false, false, false, false, true, false, false, true, false, true, false, false, true, false, false, false, true, false, false, false, false, false, false, false, false, false, false, true, true] = some (.tuple #[wordV (wX zeroW), .int .i64 0, .int .i64 0], some (.fact 0), acsE 6 (acs4 E P m false false (acs2 E P X Y (dK E P X) (dK E P Y) false (acs1 E P m X Y false true)))) := by kernel_rfl
set_option maxRecDepth 1000000 in
theorem add_ft_t (E P m X Y : Int) : addRun E P m X Y [false, false, false, false, true, false, false, true, false, true, false, false, true, false, false, false, true, false, false, false, false, false, false, false, false, true, false, true, true] = some (.tuple #[wordV (wX zeroW + signOf E P), .int .i64 0, .int .i64 0], some (.fact 0), acsE 6 (acs4 E P m true false (acs2 E P X Y (dK E P X) (dK E P Y) false (acs1 E P m X Y false true)))) := by kernel_rfl
set_option maxRecDepth 1000000 in
theorem add_tf_n (E P m X Y : Int) : addRun E P m X Y [false, false, false, false, true, false, true, true, false, false, false, false, true, false, false, false, true, false, false, false, false, false, false, false, true, true] = some (.tuple #[wordV (rndW E P m (sumK E P (dK E P X) (dK E P Y)) (fi E P)), .int .i64 (rndF E P m (sumK E P (dK E P X) (dK E P Y)) (fi E P)), .int .i64 0], some (.fact 0), acsE 5 (acs3 E P m (dK E P X) (dK E P Y) (acs2 E P X Y (dK E P X) (dK E P Y) true (acs1 E P m X Y true false)))) := by kernel_rfl
set_option maxRecDepth 1000000 in
theorem add_tf_f (E P m X Y : Int) : addRun E P m X Y [false, false, false, false, true, false, true, true, false, false, false, false, true, false, false, false, true, false, false, false, false, false, false, false, false, false, false, true, true] = some (.tuple #[wordV (wX zeroW), .int .i64 0, .int .i64 0], some (.fact 0), acsE 6 (acs4 E P m false false (acs2 E P X Y (dK E P X) (dK E P Y) false (acs1 E P m X Y true false)))) := by kernel_rfl
set_option maxRecDepth 1000000 in
theorem add_tf_t (E P m X Y : Int) : addRun E P m X Y [false, false, false, false, true, false, true, true, false, false, false, false, true, false, false, false, true, false, false, false, false, false, false, false, false, true, false, true, true] = some (.tuple #[wordV (wX zeroW + signOf E P), .int .i64 0, .int .i64 0], some (.fact 0), acsE 6 (acs4 E P m true false (acs2 E P X Y (dK E P X) (dK E P Y) false (acs1 E P m X Y true false)))) := by kernel_rfl
set_option maxRecDepth 1000000 in
theorem add_tt_n (E P m X Y : Int) : addRun E P m X Y [false, false, false, false, true, false, true, true, false, true, false, false, true, false, false, false, true, false, false, false, false, false, false, false, true, true] = some (.tuple #[wordV (rndW E P m (sumK E P (dK E P X) (dK E P Y)) (fi E P)), .int .i64 (rndF E P m (sumK E P (dK E P X) (dK E P Y)) (fi E P)), .int .i64 0], some (.fact 0), acsE 5 (acs3 E P m (dK E P X) (dK E P Y) (acs2 E P X Y (dK E P X) (dK E P Y) true (acs1 E P m X Y true true)))) := by kernel_rfl
set_option maxRecDepth 1000000 in
theorem add_tt_f (E P m X Y : Int) : addRun E P m X Y [false, false, false, false, true, false, true, true, false, true, false, false, true, false, false, false, true, false, false, false, false, false, false, false, false, false, true, true, true] = some (.tuple #[wordV (wX zeroW + signOf E P), .int .i64 0, .int .i64 0], some (.fact 0), acsE 6 (acs4 E P m false true (acs2 E P X Y (dK E P X) (dK E P Y) false (acs1 E P m X Y true true)))) := by kernel_rfl
set_option maxRecDepth 1000000 in
theorem add_tt_t (E P m X Y : Int) : addRun E P m X Y [false, false, false, false, true, false, true, true, false, true, false, false, true, false, false, false, true, false, false, false, false, false, false, false, false, true, true, true, true] = some (.tuple #[wordV (wX zeroW + signOf E P), .int .i64 0, .int .i64 0], some (.fact 0), acsE 6 (acs4 E P m true true (acs2 E P X Y (dK E P X) (dK E P Y) false (acs1 E P m X Y true true)))) := by kernel_rfl
end Go.Proofs.YtnpocnckkaddbaaGreatDoor
