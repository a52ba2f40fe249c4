/-
  FloatsWider: the paths of the law.
-/
import Derived.Test.YtebibadldcempaaGreatDoorP34B
set_option linter.unusedVariables false
set_option linter.unusedSimpArgs false
set_option linter.unusedSectionVars false
namespace Go.Proofs.YtebibadldcempaaGreatDoor
open Go.RowKit Go.Shelf Go.Canon

def widC : CF → St → Option (Value × St) := orElse awakeO (orElse leastO (orElse greatO (orElse insO (orElse checkO (orElse hasO (orElse valueO (orElse castO cmpO)))))))
theorem widC_ok : RunOkE Tryz.prog widC := orElse_ok awakeO_ok (orElse_ok leastO_ok (orElse_ok greatO_ok (orElse_ok insO_ok (orElse_ok checkO_ok (orElse_ok hasO_ok (orElse_ok valueO_ok (orElse_ok castO_ok cmpO_ok)))))))
noncomputable def widRun (E P m ah al bh bl ch cl G Q : Int) (an : List Bool) : Option (Value × Option CObj × List (Bool × Bool)) := conRun Tryz.prog TL (nest widC 1) 1000 6 [.v (opV E P m ah al bh bl ch cl), .v (fmtV G Q)] an 1
def wcs0 (E P G Q : Int) (b : Bool) : List (Bool × Bool) := (insB E P G Q, b) :: (true, true) :: (true, true) :: (true, true) :: (true, true) :: (true, true) :: (true, true) :: []
def wcs1 (E P G Q : Int) (b c : Bool) : List (Bool × Bool) := (chkE G Q != 0, c) :: (true, true) :: (fmtE E P != 0, false) :: (fmtE E P != 0, false) :: wcs0 E P G Q b
def wcs2 (E P G Q : Int) (b c : Bool) : List (Bool × Bool) := hasL G Q (if Fmt E P then 1 else 0) (fineOf E P) c (wcs1 E P G Q b false)
def wcs3 (E P G Q : Int) (b c : Bool) : List (Bool × Bool) := hasL G Q (if Fmt E P then gK E P else 0) (gk E P) c (wcs2 E P G Q b true)
def wcs4 (E P G Q : Int) (b c : Bool) : List (Bool × Bool) := (decide (P ≤ Q), c) :: (true, true) :: (true, true) :: wcs3 E P G Q b true
def wcsV (ah al : Int) (l : List (Bool × Bool)) : List (Bool × Bool) := (true, true) :: (wB (wv ah al), true) :: (false, false) :: l
def wcs5 (E P ah al G Q : Int) (c : Bool) : List (Bool × Bool) := (dA E P ah al != 0, c) :: wcsV ah al (wcs4 E P G Q true true)
def wcs6 (E P m ah al G Q : Int) (c : Bool) : List (Bool × Bool) := (decide (m < 0), c) :: (true, true) :: wcs5 E P ah al G Q false
def wcs7 (E P m ah al G Q : Int) (c : Bool) : List (Bool × Bool) := (decide (m > 4), c) :: (true, true) :: wcs6 E P m ah al G Q false
/-- the word of the cast, the word that leads back -/
def wW (E P m ah al G Q : Int) : Int := castW E P G Q m (wX (wv ah al))
def wW2 (E P m ah al G Q : Int) : Int := castW G Q E P m (wX (wordV (wW E P m ah al G Q)))
def wcs8 (E P m ah al G Q : Int) : List (Bool × Bool) :=
  (decide (wW2 E P m ah al G Q / 18446744073709551616 = ah ∧ wW2 E P m ah al G Q % 18446744073709551616 = al), true) ::
  (cmpI (upK (dV E P ah al) (fineOf E P) (fineOf G Q)) (upK (vK G Q (wX (wordV (wW E P m ah al G Q)))) (fineOf G Q) (fineOf E P)) == 0, true) ::
  (pP (dV E P ah al) (fineOf E P) (vK G Q (wX (wordV (wW E P m ah al G Q)))) (fineOf G Q), true) :: nP (vK G Q (wX (wordV (wW E P m ah al G Q)))) :: nP (dV E P ah al) ::
  (castF G Q E P m (wX (wordV (wW E P m ah al G Q))) == 0, true) :: (castF E P G Q m (wX (wv ah al)) == 0, true) :: (true, true) :: (vErr G Q (wX (wordV (wW E P m ah al G Q))) == 0, true) :: (true, true) ::
  (true, true) :: (wB (wordV (wW E P m ah al G Q)) && (decide (Fmt E P) && (decide (0 ≤ m ∧ m ≤ 4) && (vErr G Q (wX (wordV (wW E P m ah al G Q))) == 0))), true) :: (true, true) ::
  (true, true) :: (wB (wordV (wW E P m ah al G Q)), true) ::
  (true, true) :: (wB (wv ah al) && (decide (Fmt G Q) && (decide (0 ≤ m ∧ m ≤ 4) && (vErr E P (wX (wv ah al)) == 0))), true) :: (true, true) :: wcs7 E P m ah al G Q false
set_option maxRecDepth 1000000 in
theorem wid_a (E P m ah al bh bl ch cl G Q : Int) : widRun E P m ah al bh bl ch cl G Q [false, true, true, true] = some (.bool true, some (.fact 0), lcsE ((fmtE E P != 0, true) :: wcs0 E P G Q false)) := by kernel_rfl
set_option maxRecDepth 1000000 in
theorem wid_b (E P m ah al bh bl ch cl G Q : Int) : widRun E P m ah al bh bl ch cl G Q [false, false, false, true, true, true] = some (.bool true, some (.fact 0), lcsE (wcs1 E P G Q false true)) := by kernel_rfl
set_option maxRecDepth 1000000 in
theorem wid_c (E P m ah al bh bl ch cl G Q : Int) : widRun E P m ah al bh bl ch cl G Q [false, false, false, false, false, false, true, true] = some (.bool true, some (.fact 0), lcsE (wcsV ah al (wcs2 E P G Q false false))) := by kernel_rfl
set_option maxRecDepth 1000000 in
theorem wid_d (E P m ah al bh bl ch cl G Q : Int) : widRun E P m ah al bh bl ch cl G Q [false, false, false, false, true, false, false, true, true] = some (.bool true, some (.fact 0), lcsE (wcsV ah al (wcs3 E P G Q false false))) := by kernel_rfl
set_option maxRecDepth 1000000 in
theorem wid_e (E P m ah al bh bl ch cl G Q : Int) : widRun E P m ah al bh bl ch cl G Q [false, false, false, false, true, true, false, false, true, true] = some (.bool true, some (.fact 0), lcsE (wcsV ah al (wcs4 E P G Q false false))) := by kernel_rfl
set_option maxRecDepth 1000000 in
theorem wid_f (E P m ah al bh bl ch cl G Q : Int) : widRun E P m ah al bh bl ch cl G Q [true, false, false, false, true, true, true, false, true, true, true] = some (.bool true, some (.fact 0), lcsE (wcs5 E P ah al G Q true)) := by kernel_rfl
set_option maxRecDepth 1000000 in
theorem wid_g (E P m ah al bh bl ch cl G Q : Int) : widRun E P m ah al bh bl ch cl G Q [true, false, false, false, true, true, true, false, false, true, true, true] = some (.bool true, some (.fact 0), lcsE (wcs6 E P m ah al G Q true)) := by kernel_rfl
set_option maxRecDepth 1000000 in
theorem wid_h (E P m ah al bh bl ch cl G Q : Int) : widRun E P m ah al bh bl ch cl G Q [true, false, false, false, true, true, true, false, false, false, true, true, true] = some (.bool true, some (.fact 0), lcsE (wcs7 E P m ah al G Q true)) := by kernel_rfl
set_option maxRecDepth 1000000 in
theorem wid_i (E P m ah al bh bl ch cl G Q : Int) : widRun E P m ah al bh bl ch cl G Q [true, false, false, false, true, true, true, false, false, false, false, true, true, true, true, true, true, true, true, true] = some (.bool true, some (.fact 0), lcsE (wcs8 E P m ah al G Q)) := by kernel_rfl
end Go.Proofs.YtebibadldcempaaGreatDoor
