/-
  Remainders of numbers: the runs.
-/
import Derived.Test.YtnpocnckkaddbaaGreatDoorP31B
set_option linter.unusedVariables false
set_option linter.unusedSimpArgs false
set_option linter.unusedSectionVars false
namespace Go.Proofs.YtnpocnckkaddbaaGreatDoor
open Go.RowKit Go.Shelf Go.Canon

def remC : CF → St → Option (Value × St) := orElse checkO (orElse rightO (orElse decodeO (orElse signO (orElse subO (orElse mulO (orElse quoO (orElse nearO (orElse roundO (orElse signedO quietO)))))))))
theorem remC_ok : RunOkE Tryz.prog remC := orElse_ok checkO_ok (orElse_ok rightO_ok (orElse_ok decodeO_ok (orElse_ok signO_ok (orElse_ok subO_ok (orElse_ok mulO_ok (orElse_ok quoO_ok (orElse_ok nearO_ok (orElse_ok roundO_ok (orElse_ok signedO_ok quietO_ok)))))))))
/-- the integer next to the quotient; what is taken away; what is left -/
def reQ (K L : Int) : Int := nrI (quK K L) (quD L)
def reR (f K L : Int) : Int := upK K f (f + 0) - upK (L * reQ K L) (f + 0) f
def reE (f : Int) : Int := min f (f + 0)
def rcs5 (l : List (Bool × Bool)) : List (Bool × Bool) := (true, true) :: (true, true) :: (true, true) :: (true, true) :: (true, true) :: l
def rcsA (E P X Y : Int) (l : List (Bool × Bool)) : List (Bool × Bool) := (dKind E P Y == 3, false) :: (true, true) :: (dKind E P Y == 1, false) :: (true, true) :: (dKind E P X == 3, false) :: rcs5 l
def rcsI (E P X Y : Int) (l : List (Bool × Bool)) : List (Bool × Bool) := (decide (Fmt E P), true) :: (dKind E P Y == 1, true) :: (true, true) :: (dKind E P X == 3, false) :: rcs5 l
def rcsB (f K L : Int) (z : Bool) (l : List (Bool × Bool)) : List (Bool × Bool) :=
  (sgI (reR f K L) == 0, z) :: (true, true) :: nP (reR f K L) :: (true, true) :: (pP K f (L * reQ K L) (f + 0), true) :: nP (L * reQ K L) :: nP K :: (decide (inQ L 1 f) && decide (inQ (reQ K L) 1 0), true) :: nP (reQ K L) :: nP L ::
    (decide (f - f = 0 ∧ inQ (quK K L) (quD L) 0 ∧ inQ (2 * quK K L + quD L) (quD L) (-1)), true) :: nP (quK K L) :: (true, true) :: (decide (inQ K 1 f) && (decide (inQ L 1 f) && decide (L ≠ 0)), true) :: nP L :: nP K :: l
def rcsN (E P R k : Int) (l : List (Bool × Bool)) : List (Bool × Bool) := (decide (Fmt E P) && (decide ((0 : Int) ≤ 0 ∧ (0 : Int) ≤ 4) && decide (inB R k ∧ -40000 ≤ k)), true) :: nP R :: l
def rcsZ (E P : Int) (l : List (Bool × Bool)) : List (Bool × Bool) := (decide (Fmt E P) && (wB zeroW && decide (wX zeroW < signOf E P)), true) :: l
noncomputable def remRun (E P X Y : Int) (an : List Bool) : Option (Value × Option CObj × List (Bool × Bool)) := conRun Tryz.prog TR (nest remC 6) 1000 16 [.v (fmtV E P), .v (wordV X), .v (wordV Y)] an 1
set_option maxRecDepth 1000000 in
theorem rem_ff_n (E P X Y : Int) : remRun E P X Y [false, false, false, false, true, false, false, true, false, false, false, false, true, false, false, false, true, false, false, false, false, false, false, false, false, true] = some (.tuple #[wordV (rndW E P 0 (reR (fineOf E P) (dK E P X) (dK E P Y)) (reE (fineOf E P))), .int .i64 (rndF E P 0 (reR (fineOf E P) (dK E P X) (dK E P Y)) (reE (fineOf E P))), .int .i64 0], some (.fact 0), acsE 5 (rcsN E P (reR (fineOf E P) (dK E P X) (dK E P Y)) (reE (fineOf E P)) (rcsB (fineOf E P) (dK E P X) (dK E P Y) false (rcsA E P X Y (acs1 E P 0 X Y false false))))) := by kernel_rfl
set_option maxRecDepth 1000000 in
theorem rem_ff_z (E P X Y : Int) : remRun E P X Y [false, false, false, false, true, false, false, true, false, false, false, false, true, false, false, false, true, false, false, false, false, false, false, false, true, true] = some (.tuple #[wordV (wX zeroW), .int .i64 0, .int .i64 0], some (.fact 0), acsE 5 (rcsZ E P (rcsB (fineOf E P) (dK E P X) (dK E P Y) true (rcsA E P X Y (acs1 E P 0 X Y false false))))) := by kernel_rfl
set_option maxRecDepth 1000000 in
theorem rem_ff_i (E P X Y : Int) : remRun E P X Y [false, false, false, false, true, false, false, true, false, false, false, false, true, false, false, false, true, false, false, false, false, false, true, true] = some (.tuple #[wordV (quietOf E P), .int .i64 1, .int .i64 0], some (.fact 0), acsE 6 (rcsI E P X Y (acs1 E P 0 X Y false false))) := by kernel_rfl
set_option maxRecDepth 1000000 in
theorem rem_ft_n (E P X Y : Int) : remRun E P X Y [false, false, false, false, true, false, false, true, false, true, false, false, true, false, false, false, true, false, false, false, false, false, false, false, false, true] = some (.tuple #[wordV (rndW E P 0 (reR (fineOf E P) (dK E P X) (dK E P Y)) (reE (fineOf E P))), .int .i64 (rndF E P 0 (reR (fineOf E P) (dK E P X) (dK E P Y)) (reE (fineOf E P))), .int .i64 0], some (.fact 0), acsE 5 (rcsN E P (reR (fineOf E P) (dK E P X) (dK E P Y)) (reE (fineOf E P)) (rcsB (fineOf E P) (dK E P X) (dK E P Y) false (rcsA E P X Y (acs1 E P 0 X Y false true))))) := by kernel_rfl
set_option maxRecDepth 1000000 in
theorem rem_ft_z (E P X Y : Int) : remRun E P X Y [false, false, false, false, true, false, false, true, false, true, false, false, true, false, false, false, true, false, false, false, false, false, false, false, true, true] = some (.tuple #[wordV (wX zeroW), .int .i64 0, .int .i64 0], some (.fact 0), acsE 5 (rcsZ E P (rcsB (fineOf E P) (dK E P X) (dK E P Y) true (rcsA E P X Y (acs1 E P 0 X Y false true))))) := by kernel_rfl
set_option maxRecDepth 1000000 in
theorem rem_ft_i (E P X Y : Int) : remRun E P X Y [false, false, false, false, true, false, false, true, false, true, false, false, true, false, false, false, true, false, false, false, false, false, true, true] = some (.tuple #[wordV (quietOf E P), .int .i64 1, .int .i64 0], some (.fact 0), acsE 6 (rcsI E P X Y (acs1 E P 0 X Y false true))) := by kernel_rfl
set_option maxRecDepth 1000000 in
theorem rem_tf_n (E P X Y : Int) : remRun E P X Y [false, false, false, false, true, false, true, true, false, false, false, false, true, false, false, false, true, false, false, false, false, false, false, false, false, true] = some (.tuple #[wordV (rndW E P 0 (reR (fineOf E P) (dK E P X) (dK E P Y)) (reE (fineOf E P))), .int .i64 (rndF E P 0 (reR (fineOf E P) (dK E P X) (dK E P Y)) (reE (fineOf E P))), .int .i64 0], some (.fact 0), acsE 5 (rcsN E P (reR (fineOf E P) (dK E P X) (dK E P Y)) (reE (fineOf E P)) (rcsB (fineOf E P) (dK E P X) (dK E P Y) false (rcsA E P X Y (acs1 E P 0 X Y true false))))) := by kernel_rfl
set_option maxRecDepth 1000000 in
theorem rem_tf_z (E P X Y : Int) : remRun E P X Y [false, false, false, false, true, false, true, true, false, false, false, false, true, false, false, false, true, false, false, false, false, false, false, false, true, true] = some (.tuple #[wordV (wX zeroW + signOf E P), .int .i64 0, .int .i64 0], some (.fact 0), acsE 5 (rcsZ E P (rcsB (fineOf E P) (dK E P X) (dK E P Y) true (rcsA E P X Y (acs1 E P 0 X Y true false))))) := by kernel_rfl
set_option maxRecDepth 1000000 in
theorem rem_tf_i (E P X Y : Int) : remRun E P X Y [false, false, false, false, true, false, true, true, false, false, false, false, true, false, false, false, true, false, false, false, false, false, true, true] = some (.tuple #[wordV (quietOf E P), .int .i64 1, .int .i64 0], some (.fact 0), acsE 6 (rcsI E P X Y (acs1 E P 0 X Y true false))) := by kernel_rfl
set_option maxRecDepth 1000000 in
theorem rem_tt_n (E P X Y : Int) : remRun E P X Y [false, false, false, false, true, false, true, true, false, true, false, false, true, false, false, false, true, false, false, false, false, false, false, false, false, true] = some (.tuple #[wordV (rndW E P 0 (reR (fineOf E P) (dK E P X) (dK E P Y)) (reE (fineOf E P))), .int .i64 (rndF E P 0 (reR (fineOf E P) (dK E P X) (dK E P Y)) (reE (fineOf E P))), .int .i64 0], some (.fact 0), acsE 5 (rcsN E P (reR (fineOf E P) (dK E P X) (dK E P Y)) (reE (fineOf E P)) (rcsB (fineOf E P) (dK E P X) (dK E P Y) false (rcsA E P X Y (acs1 E P 0 X Y true true))))) := by kernel_rfl
set_option maxRecDepth 1000000 in
theorem rem_tt_z (E P X Y : Int) : remRun E P X Y [false, false, false, false, true, false, true, true, false, true, false, false, true, false, false, false, true, false, false, false, false, false, false, false, true, true] = some (.tuple #[wordV (wX zeroW + signOf E P), .int .i64 0, .int .i64 0], some (.fact 0), acsE 5 (rcsZ E P (rcsB (fineOf E P) (dK E P X) (dK E P Y) true (rcsA E P X Y (acs1 E P 0 X Y true true))))) := by kernel_rfl
set_option maxRecDepth 1000000 in
theorem rem_tt_i (E P X Y : Int) : remRun E P X Y [false, false, false, false, true, false, true, true, false, true, false, false, true, false, false, false, true, false, false, false, false, false, true, true] = some (.tuple #[wordV (quietOf E P), .int .i64 1, .int .i64 0], some (.fact 0), acsE 6 (rcsI E P X Y (acs1 E P 0 X Y true true))) := by kernel_rfl
end Go.Proofs.YtnpocnckkaddbaaGreatDoor
