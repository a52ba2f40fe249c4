/-
  Least, Greatest, Inside, Cast: their runs.
-/
import Derived.Test.YtebibadldcempaaGreatDoorP29C
set_option linter.unusedVariables false
set_option linter.unusedSimpArgs false
set_option linter.unusedSectionVars false
namespace Go.Proofs.YtebibadldcempaaGreatDoor
open Go.RowKit Go.Shelf Go.Canon

/-! Least -/
def leastC : CF → St → Option (Value × St) := orElse checkO (orElse finestO powerO)
theorem leastC_ok : RunOkE Tryz.prog leastC := orElse_ok checkO_ok (orElse_ok finestO_ok powerO_ok)
noncomputable def leastRun (E P : Int) (an : List Bool) (n : Nat) : Option (Value × Option CObj × List (Bool × Bool)) := conRun Tryz.prog TR (nest leastC 3) 1000 28 [.v (fmtV E P)] an n
def pmcs (E P : Int) : List (Bool × Bool) := [(false, false), (true, true), (true, true), (true, true), (false, false), (false, false), (chkE E P != 0, false), (true, true)]
def badcs (E P : Int) : List (Bool × Bool) := [(true, true), (true, true), (true, true), (true, true), (true, true), (chkE E P != 0, true), (true, true)]
def powB (d : Int) : Bool := decide (-20000 ≤ d ∧ d ≤ 20000)
set_option maxRecDepth 1000000 in
theorem least_bad (E P : Int) : leastRun E P [true, true, true] 1 = some (.tuple #[.agg zeroA, .int .i64 2], some (.fact 0), badcs E P) := by kernel_rfl
set_option maxRecDepth 1000000 in
theorem least_good (E P : Int) : leastRun E P [false, false, false, false, true] 19 = some (.tuple #[subst 19 4 (numT 1), .int .i64 0], some (.ghost 0 [1, fineOf E P]), (true, true) :: (powB (fineOf E P), true) :: (decide (Fmt E P), true) :: pmcs E P) := by kernel_rfl

/-! Greatest -/
def greatC : CF → St → Option (Value × St) := orElse checkO (orElse biasO (orElse powerO subO))
theorem greatC_ok : RunOkE Tryz.prog greatC := orElse_ok checkO_ok (orElse_ok biasO_ok (orElse_ok powerO_ok subO_ok))
noncomputable def greatRun (E P : Int) (an : List Bool) (n : Nat) : Option (Value × Option CObj × List (Bool × Bool)) := conRun Tryz.prog TR (nest greatC 3) 1000 29 [.v (fmtV E P)] an n
def gd1 (E : Int) : Int := IntKind.i64.wrap (biasOf E + 1)
def gd2 (E P : Int) : Int := IntKind.i64.wrap (IntKind.i64.wrap (biasOf E - P) + 1)
def gK (E P : Int) : Int := upK 1 (gd1 E) (gd2 E P) - upK 1 (gd2 E P) (gd1 E)
def gk (E P : Int) : Int := min (gd1 E) (gd2 E P)
def grcs (E P : Int) (l : List (Bool × Bool)) : List (Bool × Bool) :=
  (true, true) :: (pP 1 (gd1 E) 1 (gd2 E P), true) :: nP 1 :: nP 1 :: (powB (gd2 E P), true) :: (true, true) :: (decide (Fmt E P), true) :: (powB (gd1 E), true) :: (decide (Fmt E P), true) :: l
set_option maxRecDepth 1000000 in
theorem great_bad (E P : Int) : greatRun E P [true, true, true] 1 = some (.tuple #[.agg zeroA, .int .i64 2], some (.fact 0), badcs E P) := by kernel_rfl
set_option maxRecDepth 1000000 in
theorem great_good (E P : Int) : greatRun E P [false, false, false, false, true] 23 = some (.tuple #[subst 23 4 (numT (gK E P)), .int .i64 0], some (.ghost 0 [gK E P, gk E P]), (true, true) :: grcs E P (pmcs E P)) := by kernel_rfl

/-! Inside -/
def insC : CF → St → Option (Value × St) := orElse checkO (orElse finestO (orElse powerO (orElse biasO (orElse subO hasO))))
theorem insC_ok : RunOkE Tryz.prog insC := orElse_ok checkO_ok (orElse_ok finestO_ok (orElse_ok powerO_ok (orElse_ok biasO_ok (orElse_ok subO_ok hasO_ok))))
noncomputable def insRun (E P G Q : Int) (an : List Bool) : Option (Value × Option CObj × List (Bool × Bool)) := conRun Tryz.prog TR (nest insC 3) 1000 30 [.v (fmtV E P), .v (fmtV G Q)] an 1
def ics1 (E P G Q : Int) (b : Bool) : List (Bool × Bool) := (chkE G Q != 0, b) :: (true, true) :: pmcs E P
def ics2 (E P G Q : Int) (b : Bool) : List (Bool × Bool) := (decide (P ≤ Q), b) :: (true, true) :: (true, true) :: ics1 E P G Q false
def hasL (E P K k : Int) (b : Bool) (l : List (Bool × Bool)) : List (Bool × Bool) := (hasB E P K k, b) :: (decide (inB K k ∧ -40000 ≤ k), true) :: nP K :: l
def ics3 (E P G Q : Int) (b : Bool) : List (Bool × Bool) := hasL G Q 1 (fineOf E P) b ((powB (fineOf E P), true) :: (decide (Fmt E P), true) :: ics2 E P G Q true)
def ics4 (E P G Q : Int) (b : Bool) : List (Bool × Bool) := hasL G Q (gK E P) (gk E P) b (grcs E P (ics3 E P G Q true))
set_option maxRecDepth 1000000 in
theorem ins_bad (E P G Q : Int) : insRun E P G Q [true, true, true] = some (.bool false, some (.fact 0), [(true, true), (true, true), (true, true), (true, true), (chkE E P != 0, true), (true, true)]) := by kernel_rfl
set_option maxRecDepth 1000000 in
theorem ins_bad2 (E P G Q : Int) : insRun E P G Q [false, false, false, false, true, true] = some (.bool false, some (.fact 0), ics1 E P G Q true) := by kernel_rfl
set_option maxRecDepth 1000000 in
theorem ins_p (E P G Q : Int) : insRun E P G Q [false, false, false, false, false, false, true] = some (.bool false, some (.fact 0), ics2 E P G Q false) := by kernel_rfl
set_option maxRecDepth 1000000 in
theorem ins_l (E P G Q : Int) : insRun E P G Q [false, false, false, false, false, true, false, true] = some (.bool false, some (.fact 0), ics3 E P G Q false) := by kernel_rfl
set_option maxRecDepth 1000000 in
theorem ins_g (E P G Q : Int) : insRun E P G Q [false, false, false, false, false, true, true, false, true] = some (.bool false, some (.fact 0), ics4 E P G Q false) := by kernel_rfl
set_option maxRecDepth 1000000 in
theorem ins_t (E P G Q : Int) : insRun E P G Q [false, false, false, false, false, true, true, true, true] = some (.bool true, some (.fact 0), ics4 E P G Q true) := by kernel_rfl

/-! Cast of a number -/
def castC : CF → St → Option (Value × St) := orElse checkO (orElse rightO (orElse decodeO (orElse roundO signedO)))
theorem castC_ok : RunOkE Tryz.prog castC := orElse_ok checkO_ok (orElse_ok rightO_ok (orElse_ok decodeO_ok (orElse_ok roundO_ok signedO_ok)))
noncomputable def castRun (E P G Q m X : Int) (an : List Bool) : Option (Value × Option CObj × List (Bool × Bool)) := conRun Tryz.prog TR (nest castC 5) 1000 27 [.v (fmtV E P), .v (fmtV G Q), .v (.int .i64 m), .v (wordV X)] an 1
def ccs0 (E P m : Int) (l : List (Bool × Bool)) : List (Bool × Bool) := (false, false) :: (true, true) :: (true, true) :: (decide (m > 4), false) :: (decide (m < 0), false) :: (chkE E P != 0, false) :: (true, true) :: l
def ccs1 (E P G Q m X : Int) (neg : Bool) : List (Bool × Bool) := (true, true) :: (true, true) :: (false, false) :: acsN E P X ((false, false) :: (false, false) :: acsW E P X neg (ccs0 G Q m (ccs0 E P m [])))
def ccsZ (E P G Q m X : Int) (neg : Bool) : List (Bool × Bool) := acsE 5 ((decide (Fmt G Q) && (wB zeroW && decide (wX zeroW < signOf G Q)), true) :: (dKind E P X == 1, true) :: ccs1 E P G Q m X neg)
def ccsF (E P G Q m X : Int) (neg : Bool) : List (Bool × Bool) := acsE 5 ((decide (Fmt G Q) && (decide (0 ≤ m ∧ m ≤ 4) && decide (inB (dK E P X) (fineOf E P) ∧ -40000 ≤ fineOf E P)), true) :: nP (dK E P X) :: (dKind E P X == 3, false) :: (dKind E P X == 1, false) :: ccs1 E P G Q m X neg)
set_option maxRecDepth 1000000 in
theorem cast_zf (E P G Q m X : Int) : castRun E P G Q m X [false, false, false, false, false, false, false, false, true, false, false, false, false, true, false, false, false, false, true, true] = some (.tuple #[wordV (wX zeroW), .int .i64 0, .int .i64 0], some (.fact 0), ccsZ E P G Q m X false) := by kernel_rfl
set_option maxRecDepth 1000000 in
theorem cast_zt (E P G Q m X : Int) : castRun E P G Q m X [false, false, false, false, false, false, false, false, true, false, true, false, false, true, false, false, false, false, true, true] = some (.tuple #[wordV (wX zeroW + signOf G Q), .int .i64 0, .int .i64 0], some (.fact 0), ccsZ E P G Q m X true) := by kernel_rfl
set_option maxRecDepth 1000000 in
theorem cast_ff (E P G Q m X : Int) : castRun E P G Q m X [false, false, false, false, false, false, false, false, true, false, false, false, false, true, false, false, false, false, false, false, true] = some (.tuple #[wordV (rndW G Q m (dK E P X) (fineOf E P)), .int .i64 (rndF G Q m (dK E P X) (fineOf E P)), .int .i64 0], some (.fact 0), ccsF E P G Q m X false) := by kernel_rfl
set_option maxRecDepth 1000000 in
theorem cast_ft (E P G Q m X : Int) : castRun E P G Q m X [false, false, false, false, false, false, false, false, true, false, true, false, false, true, false, false, false, false, false, false, true] = some (.tuple #[wordV (rndW G Q m (dK E P X) (fineOf E P)), .int .i64 (rndF G Q m (dK E P X) (fineOf E P)), .int .i64 0], some (.fact 0), ccsF E P G Q m X true) := by kernel_rfl
end Go.Proofs.YtebibadldcempaaGreatDoor
