/-
  FloatsErrs: the paths of the law.
-/
import Derived.Test.YtebibadldcempaaGreatDoorP29C
set_option linter.unusedVariables false
set_option linter.unusedSimpArgs false
set_option linter.unusedSectionVars false
namespace Go.Proofs.YtebibadldcempaaGreatDoor
open Go.RowKit Go.Shelf Go.Canon

def errC : CF → St → Option (Value × St) := orElse awakeO (orElse valueO (orElse addFO (orElse hasO (orElse signO (orElse addO (orElse subO cmpO))))))
theorem errC_ok : RunOkE Tryz.prog errC := orElse_ok awakeO_ok (orElse_ok valueO_ok (orElse_ok addFO_ok (orElse_ok hasO_ok (orElse_ok signO_ok (orElse_ok addO_ok (orElse_ok subO_ok cmpO_ok))))))
noncomputable def errRun (E P m ah al bh bl ch cl : Int) (an : List Bool) : Option (Value × Option CObj × List (Bool × Bool)) := conRun Tryz.prog TL (nest errC 1) 1000 3 [.v (opV E P m ah al bh bl ch cl)] an 1
/-- the word of the sum, its flags, its number; the sum; what it differs by -/
def eW (E P ah al bh bl : Int) : Int := arW E P 0 (opK E P (wX (wv ah al))) (opK E P (wX (wv bh bl))) (negOf E P (wX (wv ah al))) (negOf E P (wX (wv bh bl)))
def eF (E P ah al bh bl : Int) : Int := arF E P 0 (opK E P (wX (wv ah al))) (opK E P (wX (wv bh bl)))
def eV (E P ah al bh bl : Int) : Int := vK E P (wX (wordV (eW E P ah al bh bl)))
def eS (f K L : Int) : Int := upK K f f + upK L f f
def eR (f S V : Int) : Int := upK S (min f f) f - upK V f (min f f)
def aPr (E P ah al bh bl : Int) : Bool := wB (wv ah al) && (wB (wv bh bl) && (decide ((0 : Int) ≤ 0 ∧ (0 : Int) ≤ 4) && (vErr E P (wX (wv ah al)) == 0 && vErr E P (wX (wv bh bl)) == 0)))
def ecs0 (E P ah al bh bl : Int) (o : Bool) : List (Bool × Bool) :=
  (vErr E P (wX (wordV (eW E P ah al bh bl))) != 0, o) :: (false, false) :: (true, true) :: (wB (wordV (eW E P ah al bh bl)), true) :: (true, true) :: (aPr E P ah al bh bl, true) :: lcs4 (lcs2 E P ah al bh bl true)
def ecsS (f K L : Int) (l : List (Bool × Bool)) : List (Bool × Bool) := (pP K f L f, true) :: nP L :: nP K :: l
def ecs1 (f K L V F E P : Int) (b : Bool) (l : List (Bool × Bool)) : List (Bool × Bool) :=
  (true, true) :: (F == 0, b) :: (cmpI (upK V f (min f f)) (upK (eS f K L) (min f f) f) == 0, b) :: (pP V f (eS f K L) (min f f), true) :: nP (eS f K L) :: nP V ::
    ecsS f K L ((hasB E P (eR f (eS f K L) V) (min (min f f) f), true) :: (decide (inB (eR f (eS f K L) V) (min (min f f) f) ∧ -40000 ≤ min (min f f) f), true) :: nP (eR f (eS f K L) V) ::
      (pP (eS f K L) (min f f) V f, true) :: nP V :: nP (eS f K L) :: ecsS f K L l)
set_option maxRecDepth 1000000 in
theorem err_a (E P m ah al bh bl ch cl : Int) : errRun E P m ah al bh bl ch cl [false, true, true] = some (.bool true, some (.fact 0), lcsE (lcs4 (lcs1 E P ah al bh bl false))) := by kernel_rfl
set_option maxRecDepth 1000000 in
theorem err_b (E P m ah al bh bl ch cl : Int) : errRun E P m ah al bh bl ch cl [true, false, true, true] = some (.bool true, some (.fact 0), lcsE (lcs4 (lcs2 E P ah al bh bl false))) := by kernel_rfl
set_option maxRecDepth 1000000 in
theorem err_c (E P m ah al bh bl ch cl : Int) : errRun E P m ah al bh bl ch cl [true, true, false, true, true, true, true] = some (.bool true, some (.fact 0), lcsE ((eF E P ah al bh bl == 20, true) :: ecs0 E P ah al bh bl true)) := by kernel_rfl
set_option maxRecDepth 1000000 in
theorem err_d (E P m ah al bh bl ch cl : Int) : errRun E P m ah al bh bl ch cl [true, true, false, false, true, true, true, true, true, true] = some (.bool true, some (.fact 0), lcsE (ecs1 (fineOf E P) (dV E P ah al) (dV E P bh bl) (eV E P ah al bh bl) (eF E P ah al bh bl) E P true (ecs0 E P ah al bh bl false))) := by kernel_rfl
set_option maxRecDepth 1000000 in
theorem err_e (E P m ah al bh bl ch cl : Int) : errRun E P m ah al bh bl ch cl [true, true, false, false, true, false, false, true, true, true] = some (.bool true, some (.fact 0), lcsE (ecs1 (fineOf E P) (dV E P ah al) (dV E P bh bl) (eV E P ah al bh bl) (eF E P ah al bh bl) E P false (ecs0 E P ah al bh bl false))) := by kernel_rfl
end Go.Proofs.YtebibadldcempaaGreatDoor
