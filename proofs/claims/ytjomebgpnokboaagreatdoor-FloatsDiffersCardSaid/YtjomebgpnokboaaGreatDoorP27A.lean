/-
  FloatsDiffers: the paths of the law.
-/
import Derived.Test.YtjomebgpnokboaaGreatDoorP26D
set_option linter.unusedVariables false
set_option linter.unusedSimpArgs false
set_option linter.unusedSectionVars false
namespace Go.Proofs.YtjomebgpnokboaaGreatDoor
open Go.RowKit Go.Shelf Go.Canon

def wv (h l : Int) : Value := .agg #[.int .u64 h, .int .u64 l]
def opV (E P m ah al bh bl ch cl : Int) : Value := .agg #[.int .i64 E, .int .i64 P, .int .i64 m, .int .u64 ah, .int .u64 al, .int .u64 bh, .int .u64 bl, .int .u64 ch, .int .u64 cl]
def lawC (s : CF → St → Option (Value × St)) : CF → St → Option (Value × St) := orElse awakeO (orElse valueO (orElse s (orElse signO (orElse addO (orElse cmpO subO)))))
theorem lawC_ok {s : CF → St → Option (Value × St)} (h : RunOkE Tryz.prog s) : RunOkE Tryz.prog (lawC s) := orElse_ok awakeO_ok (orElse_ok valueO_ok (orElse_ok h (orElse_ok signO_ok (orElse_ok addO_ok (orElse_ok cmpO_ok subO_ok)))))
noncomputable def diffRun (s : CF → St → Option (Value × St)) (E P m ah al bh bl ch cl : Int) (an : List Bool) : Option (Value × Option CObj × List (Bool × Bool)) := conRun Tryz.prog TL (nest (lawC s) 1) 1000 3 [.v (opV E P m ah al bh bl ch cl)] an 0
/-- both words are read: the first one only, both -/
def dA (E P ah al : Int) : Int := vErr E P (wX (wv ah al))
def dV (E P ah al : Int) : Int := vK E P (wX (wv ah al))
def lcs0 (ah al bh bl : Int) : List (Bool × Bool) := [(true, true), (wB (wv bh bl), true), (true, true), (wB (wv ah al), true)]
def lcs1 (E P ah al bh bl : Int) (i : Bool) : List (Bool × Bool) := (dA E P ah al == 0, i) :: lcs0 ah al bh bl
def lcs2 (E P ah al bh bl : Int) (i : Bool) : List (Bool × Bool) := (dA E P bh bl == 0, i) :: lcs1 E P ah al bh bl true
def lcs4 (l : List (Bool × Bool)) : List (Bool × Bool) := (true, true) :: (true, true) :: (true, true) :: (true, true) :: l
def lcsE (l : List (Bool × Bool)) : List (Bool × Bool) := (true, true) :: (true, true) :: l
def nP (K : Int) : Bool × Bool := (decide (K < 0) == decide (K < 0), true)
def lcsS (K : Int) (b : Bool) (l : List (Bool × Bool)) : List (Bool × Bool) := (decide (sgI K < 0), b) :: (true, true) :: nP K :: l
/-- K is compared with 2 L -/
def dbl (f L : Int) : Int := upK L f f + upK L f f
def pP (K k L l : Int) : Bool := decide (inB (upK K k l) (min k l)) && decide (inB (upK L l k) (min k l))
def lcsC (f K L : Int) (b : Bool) (l : List (Bool × Bool)) : List (Bool × Bool) :=
  (decide (cmpI (upK K f (min f f)) (upK (dbl f L) (min f f) f) > 0), b) :: (pP K f (dbl f L) (min f f), true) :: nP (dbl f L) :: nP K :: (pP L f L f, true) :: nP L :: nP L :: l
def lcs5 (E P ah al bh bl : Int) (a : Bool) : List (Bool × Bool) := lcsS (dV E P ah al) a (lcs4 (lcs2 E P ah al bh bl true))
def lcs6 (E P ah al bh bl : Int) (b : Bool) : List (Bool × Bool) := lcsS (dV E P bh bl) b (lcs5 E P ah al bh bl false)
def lcs7 (E P ah al bh bl : Int) (b : Bool) : List (Bool × Bool) := lcsC (fineOf E P) (dV E P ah al) (dV E P bh bl) b (lcs6 E P ah al bh bl false)
def lcs8 (E P ah al bh bl : Int) (b : Bool) : List (Bool × Bool) := lcsC (fineOf E P) (dV E P bh bl) (dV E P ah al) b (lcs7 E P ah al bh bl false)
def sPr (E P m ah al bh bl : Int) : Bool := wB (wv ah al) && (wB (wv bh bl) && (decide (0 ≤ m ∧ m ≤ 4) && (vErr E P (wX (wv ah al)) == 0 && vErr E P (wX (wv bh bl)) == 0)))
def sBr (E P m ah al bh bl : Int) : Bool := wB (wv ah al) && (wB (wv bh bl) && (!decide (0 ≤ m ∧ m ≤ 4) && decide (Fmt E P)))
def lcs9 (m : Int) (p b : Bool) (l : List (Bool × Bool)) : List (Bool × Bool) := (decide (m < 0), b) :: (true, true) :: (true, true) :: (p, true) :: (true, true) :: l
def lcs10 (m : Int) (p b : Bool) (l : List (Bool × Bool)) : List (Bool × Bool) := (decide (m > 4), b) :: (true, true) :: lcs9 m p false l
/-- the word of the difference, its flags -/
def dW (E P m ah al bh bl : Int) : Int := arW E P m (opK E P (wX (wv ah al))) (-opK E P (wX (wv bh bl))) (negOf E P (wX (wv ah al))) (!negOf E P (wX (wv bh bl)))
def dF (E P m ah al bh bl : Int) : Int := arF E P m (opK E P (wX (wv ah al))) (-opK E P (wX (wv bh bl)))
def dD (f K L : Int) : Int := upK K f f - upK L f f
def lcs11 (E P m ah al bh bl : Int) (l : List (Bool × Bool)) : List (Bool × Bool) :=
  (cmpI (upK (vK E P (wX (wordV (dW E P m ah al bh bl)))) (fineOf E P) (min (fineOf E P) (fineOf E P))) (upK (dD (fineOf E P) (dV E P ah al) (dV E P bh bl)) (min (fineOf E P) (fineOf E P)) (fineOf E P)) == 0, true) ::
  (pP (vK E P (wX (wordV (dW E P m ah al bh bl)))) (fineOf E P) (dD (fineOf E P) (dV E P ah al) (dV E P bh bl)) (min (fineOf E P) (fineOf E P)), true) ::
  nP (dD (fineOf E P) (dV E P ah al) (dV E P bh bl)) :: nP (vK E P (wX (wordV (dW E P m ah al bh bl)))) ::
  (pP (dV E P ah al) (fineOf E P) (dV E P bh bl) (fineOf E P), true) :: nP (dV E P bh bl) :: nP (dV E P ah al) ::
  (dF E P m ah al bh bl == 0, true) :: (vErr E P (wX (wordV (dW E P m ah al bh bl))) == 0, true) :: (true, true) :: (true, true) :: (wB (wordV (dW E P m ah al bh bl)), true) :: l
set_option maxRecDepth 1000000 in
theorem diff_a (E P m ah al bh bl ch cl : Int) : diffRun subFO E P m ah al bh bl ch cl [false, true, true] = some (.bool true, some (.fact 0), lcsE (lcs4 (lcs1 E P ah al bh bl false))) := by kernel_rfl
set_option maxRecDepth 1000000 in
theorem diff_b (E P m ah al bh bl ch cl : Int) : diffRun subFO E P m ah al bh bl ch cl [true, false, true, true] = some (.bool true, some (.fact 0), lcsE (lcs4 (lcs2 E P ah al bh bl false))) := by kernel_rfl
set_option maxRecDepth 1000000 in
theorem diff_c (E P m ah al bh bl ch cl : Int) : diffRun subFO E P m ah al bh bl ch cl [true, true, true, true, true] = some (.bool true, some (.fact 0), lcsE (lcs5 E P ah al bh bl true)) := by kernel_rfl
set_option maxRecDepth 1000000 in
theorem diff_d (E P m ah al bh bl ch cl : Int) : diffRun subFO E P m ah al bh bl ch cl [true, true, false, true, true, true] = some (.bool true, some (.fact 0), lcsE (lcs6 E P ah al bh bl true)) := by kernel_rfl
set_option maxRecDepth 1000000 in
theorem diff_e (E P m ah al bh bl ch cl : Int) : diffRun subFO E P m ah al bh bl ch cl [true, true, false, false, true, true, true] = some (.bool true, some (.fact 0), lcsE (lcs7 E P ah al bh bl true)) := by kernel_rfl
set_option maxRecDepth 1000000 in
theorem diff_f (E P m ah al bh bl ch cl : Int) : diffRun subFO E P m ah al bh bl ch cl [true, true, false, false, false, true, true, true] = some (.bool true, some (.fact 0), lcsE (lcs8 E P ah al bh bl true)) := by kernel_rfl
set_option maxRecDepth 1000000 in
theorem diff_g (E P m ah al bh bl ch cl : Int) : diffRun subBO E P m ah al bh bl ch cl [true, true, false, false, false, false, true, true, true, true] = some (.bool true, some (.fact 0), lcsE ((true, true) :: lcs9 m (sBr E P m ah al bh bl) true (lcs8 E P ah al bh bl false))) := by kernel_rfl
set_option maxRecDepth 1000000 in
theorem diff_h (E P m ah al bh bl ch cl : Int) : diffRun subBO E P m ah al bh bl ch cl [true, true, false, false, false, false, false, true, true, true, true] = some (.bool true, some (.fact 0), lcsE ((true, true) :: lcs10 m (sBr E P m ah al bh bl) true (lcs8 E P ah al bh bl false))) := by kernel_rfl
set_option maxRecDepth 1000000 in
theorem diff_i (E P m ah al bh bl ch cl : Int) : diffRun subFO E P m ah al bh bl ch cl [true, true, false, false, false, false, false, false, true, true, true, true, true, true] = some (.bool true, some (.fact 0), lcsE (lcs11 E P m ah al bh bl (lcs10 m (sPr E P m ah al bh bl) false (lcs8 E P ah al bh bl false)))) := by kernel_rfl
end Go.Proofs.YtjomebgpnokboaaGreatDoor
