/-
  Rounding: every path of it.
-/
import Derived.Test.YtnpocnckkaddbaaGreatDoorP25G
set_option linter.unusedVariables false
set_option linter.unusedSimpArgs false
set_option linter.unusedSectionVars false
namespace Go.Proofs.YtnpocnckkaddbaaGreatDoor
open Go.RowKit Go.Shelf Go.Canon

def roundC : CF → St → Option (Value × St) := orElse logO (orElse signO (orElse modeO (orElse biasO (orElse ovfO (orElse stepO (orElse inStepsO (orElse lowestO (orElse leftO (orElse plusO (orElse upO (orElse oneO (orElse infinityO (orElse lessO signedO)))))))))))))
theorem roundC_ok : RunOkE Tryz.prog roundC := orElse_ok logO_ok (orElse_ok signO_ok (orElse_ok modeO_ok (orElse_ok biasO_ok (orElse_ok ovfO_ok (orElse_ok stepO_ok (orElse_ok inStepsO_ok (orElse_ok lowestO_ok (orElse_ok leftO_ok (orElse_ok plusO_ok (orElse_ok upO_ok (orElse_ok oneO_ok (orElse_ok infinityO_ok (orElse_ok lessO_ok signedO_ok)))))))))))))
def rD (E P K k : Int) : Int := floorK K.natAbs (k + (1 - stepOf E P K k)) / 2
def rR (E P K k : Int) : Int := restF K.natAbs (k + (1 - stepOf E P K k))
def rT (E K k : Int) : Int := IntKind.u64.wrap (if 0 > IntKind.i64.wrap (logI K k - (1 - biasOf E)) then 0 else IntKind.i64.wrap (logI K k - (1 - biasOf E)))
def rL (E P K k : Int) : Value := wordV (wX (.agg #[.int .u64 0, .int .u64 (rT E K k)]) * 2 ^ (IntKind.i64.wrap (P - 1)).toNat % two128)
def rS (E P K k : Int) : Value := wordV ((wX (rL E P K k) + wX (wordV (rD E P K k))) % two128)
def rU (E P K k : Int) : Value := wordV ((wX (rS E P K k) + wX (wordV 1)) % two128)
/-- what is taken for granted, the newest first -/
def cs0 (K k : Int) (z : Bool) : List (Bool × Bool) := [(logE K != 0, z), (decide (inB K k), true), (decide (K < 0) == decide (K < 0), true)]
def cs1 (E P m K k : Int) (neg big : Bool) : List (Bool × Bool) :=
  (decide (logI K k > biasOf E), big) :: (decide (Fmt E P), true) :: (decide (0 ≤ m ∧ m ≤ 4), true) :: (decide (sgI K < 0), neg) :: (true, true) :: (decide (K < 0) == decide (K < 0), true) ::
    (decide (sgI K < 0), neg) :: (true, true) :: (decide (K < 0) == decide (K < 0), true) :: cs0 K k false
def cs2 (E P m K k : Int) (neg odd up : Bool) : List (Bool × Bool) :=
  (upOf (modeOf m neg) odd (rR E P K k), up) :: (decide (0 ≤ modeOf m neg ∧ modeOf m neg ≤ 4 ∧ 0 ≤ rR E P K k ∧ rR E P K k ≤ 3), true) :: (bits BinOp.and IntKind.u64 (rD E P K k % 18446744073709551616) 1 == 1, odd) :: (true, true) ::
    (true, true) :: (wB (rL E P K k) && wB (wordV (rD E P K k)), true) :: (wB (.agg #[.int .u64 0, .int .u64 (rT E K k)]) && decide (0 ≤ IntKind.i64.wrap (P - 1) ∧ IntKind.i64.wrap (P - 1) ≤ 127), true) :: (true, true) :: (decide (Fmt E P), true) ::
    (true, true) :: (decide (stepsOk K k (stepOf E P K k)), true) :: (decide (K < 0) == decide (K < 0), true) :: (decide (Fmt E P) && decide (inB K k), true) :: (decide (K < 0) == decide (K < 0), true) :: cs1 E P m K k neg false
def cs3 (E P m K k : Int) (neg odd : Bool) : List (Bool × Bool) := (true, true) :: (wB (rS E P K k) && wB (wordV 1), true) :: (true, true) :: cs2 E P m K k neg odd true
def cs4 (E P m : Int) (s : Value) (lt : Bool) (l : List (Bool × Bool)) : List (Bool × Bool) := (decide (wX s < wX (wordV (infOf E P))), lt) :: (wB s && wB (wordV (infOf E P)), true) :: (decide (Fmt E P), true) :: l
def cs5 (E P m : Int) (l : List (Bool × Bool)) : List (Bool × Bool) := (true, true) :: (decide (Fmt E P) && decide (0 ≤ m ∧ m ≤ 4), true) :: l
def cs6 (E P : Int) (s : Value) (l : List (Bool × Bool)) : List (Bool × Bool) := (true, true) :: (decide (Fmt E P) && (wB s && decide (wX s < signOf E P)), true) :: l
def cs7 (E P K k : Int) (tiny : Bool) (l : List (Bool × Bool)) : List (Bool × Bool) := (decide (logI K k < 1 - biasOf E), tiny) :: (decide (Fmt E P), true) :: (rR E P K k != 0, true) :: l
noncomputable def roundRun (E P m K k : Int) (an : List Bool) : Option (Value × Option CObj × List (Bool × Bool)) := conRun Tryz.prog TR roundC 1000 104 [.v (machV E P m), .n K k] an 1
set_option maxRecDepth 1000000 in
theorem round_zero (E P m K k : Int) : roundRun E P m K k [true, true] = some (.tuple #[.agg #[.int .u64 0, .int .u64 0], .int .i64 0], some (.fact 0), (true, true) :: cs0 K k true) := by kernel_rfl
set_option maxRecDepth 1000000 in
theorem round_big_t (E P m K k : Int) : roundRun E P m K k [false, true, true, true, true] = some (.tuple #[wordV (ovW E P m true), .int .i64 20], some (.fact 0), cs5 E P m (cs1 E P m K k true true)) := by kernel_rfl
set_option maxRecDepth 1000000 in
theorem round_ttt_o (E P m K k : Int) : roundRun E P m K k [false, true, true, false, true, true, false, true] = some (.tuple #[wordV (ovW E P m true), .int .i64 20], some (.fact 0), cs5 E P m (cs4 E P m (rU E P K k) false (cs3 E P m K k true true))) := by kernel_rfl
set_option maxRecDepth 1000000 in
theorem round_ttt_e (E P m K k : Int) : roundRun E P m K k [false, true, true, false, true, true, true, false, true] = some (.tuple #[wordV (wX (rU E P K k) + signOf E P), .int .i64 0], some (.fact 0), cs6 E P (rU E P K k) ((rR E P K k != 0, false) :: cs4 E P m (rU E P K k) true (cs3 E P m K k true true))) := by kernel_rfl
set_option maxRecDepth 1000000 in
theorem round_ttt_i (E P m K k : Int) : roundRun E P m K k [false, true, true, false, true, true, true, true, false, true] = some (.tuple #[wordV (wX (rU E P K k) + signOf E P), .int .i64 16], some (.fact 0), cs6 E P (rU E P K k) (cs7 E P K k false (cs4 E P m (rU E P K k) true (cs3 E P m K k true true)))) := by kernel_rfl
set_option maxRecDepth 1000000 in
theorem round_ttt_t (E P m K k : Int) : roundRun E P m K k [false, true, true, false, true, true, true, true, true, true] = some (.tuple #[wordV (wX (rU E P K k) + signOf E P), .int .i64 24], some (.fact 0), cs6 E P (rU E P K k) (cs7 E P K k true (cs4 E P m (rU E P K k) true (cs3 E P m K k true true)))) := by kernel_rfl
set_option maxRecDepth 1000000 in
theorem round_ttf_o (E P m K k : Int) : roundRun E P m K k [false, true, true, false, true, false, false, true] = some (.tuple #[wordV (ovW E P m true), .int .i64 20], some (.fact 0), cs5 E P m (cs4 E P m (rS E P K k) false (cs2 E P m K k true true false))) := by kernel_rfl
set_option maxRecDepth 1000000 in
theorem round_ttf_e (E P m K k : Int) : roundRun E P m K k [false, true, true, false, true, false, true, false, true] = some (.tuple #[wordV (wX (rS E P K k) + signOf E P), .int .i64 0], some (.fact 0), cs6 E P (rS E P K k) ((rR E P K k != 0, false) :: cs4 E P m (rS E P K k) true (cs2 E P m K k true true false))) := by kernel_rfl
set_option maxRecDepth 1000000 in
theorem round_ttf_i (E P m K k : Int) : roundRun E P m K k [false, true, true, false, true, false, true, true, false, true] = some (.tuple #[wordV (wX (rS E P K k) + signOf E P), .int .i64 16], some (.fact 0), cs6 E P (rS E P K k) (cs7 E P K k false (cs4 E P m (rS E P K k) true (cs2 E P m K k true true false)))) := by kernel_rfl
set_option maxRecDepth 1000000 in
theorem round_ttf_t (E P m K k : Int) : roundRun E P m K k [false, true, true, false, true, false, true, true, true, true] = some (.tuple #[wordV (wX (rS E P K k) + signOf E P), .int .i64 24], some (.fact 0), cs6 E P (rS E P K k) (cs7 E P K k true (cs4 E P m (rS E P K k) true (cs2 E P m K k true true false)))) := by kernel_rfl
set_option maxRecDepth 1000000 in
theorem round_tft_o (E P m K k : Int) : roundRun E P m K k [false, true, true, false, false, true, false, true] = some (.tuple #[wordV (ovW E P m true), .int .i64 20], some (.fact 0), cs5 E P m (cs4 E P m (rU E P K k) false (cs3 E P m K k true false))) := by kernel_rfl
set_option maxRecDepth 1000000 in
theorem round_tft_e (E P m K k : Int) : roundRun E P m K k [false, true, true, false, false, true, true, false, true] = some (.tuple #[wordV (wX (rU E P K k) + signOf E P), .int .i64 0], some (.fact 0), cs6 E P (rU E P K k) ((rR E P K k != 0, false) :: cs4 E P m (rU E P K k) true (cs3 E P m K k true false))) := by kernel_rfl
set_option maxRecDepth 1000000 in
theorem round_tft_i (E P m K k : Int) : roundRun E P m K k [false, true, true, false, false, true, true, true, false, true] = some (.tuple #[wordV (wX (rU E P K k) + signOf E P), .int .i64 16], some (.fact 0), cs6 E P (rU E P K k) (cs7 E P K k false (cs4 E P m (rU E P K k) true (cs3 E P m K k true false)))) := by kernel_rfl
set_option maxRecDepth 1000000 in
theorem round_tft_t (E P m K k : Int) : roundRun E P m K k [false, true, true, false, false, true, true, true, true, true] = some (.tuple #[wordV (wX (rU E P K k) + signOf E P), .int .i64 24], some (.fact 0), cs6 E P (rU E P K k) (cs7 E P K k true (cs4 E P m (rU E P K k) true (cs3 E P m K k true false)))) := by kernel_rfl
set_option maxRecDepth 1000000 in
theorem round_tff_o (E P m K k : Int) : roundRun E P m K k [false, true, true, false, false, false, false, true] = some (.tuple #[wordV (ovW E P m true), .int .i64 20], some (.fact 0), cs5 E P m (cs4 E P m (rS E P K k) false (cs2 E P m K k true false false))) := by kernel_rfl
set_option maxRecDepth 1000000 in
theorem round_tff_e (E P m K k : Int) : roundRun E P m K k [false, true, true, false, false, false, true, false, true] = some (.tuple #[wordV (wX (rS E P K k) + signOf E P), .int .i64 0], some (.fact 0), cs6 E P (rS E P K k) ((rR E P K k != 0, false) :: cs4 E P m (rS E P K k) true (cs2 E P m K k true false false))) := by kernel_rfl
set_option maxRecDepth 1000000 in
theorem round_tff_i (E P m K k : Int) : roundRun E P m K k [false, true, true, false, false, false, true, true, false, true] = some (.tuple #[wordV (wX (rS E P K k) + signOf E P), .int .i64 16], some (.fact 0), cs6 E P (rS E P K k) (cs7 E P K k false (cs4 E P m (rS E P K k) true (cs2 E P m K k true false false)))) := by kernel_rfl
set_option maxRecDepth 1000000 in
theorem round_tff_t (E P m K k : Int) : roundRun E P m K k [false, true, true, false, false, false, true, true, true, true] = some (.tuple #[wordV (wX (rS E P K k) + signOf E P), .int .i64 24], some (.fact 0), cs6 E P (rS E P K k) (cs7 E P K k true (cs4 E P m (rS E P K k) true (cs2 E P m K k true false false)))) := by kernel_rfl
set_option maxRecDepth 1000000 in
theorem round_big_f (E P m K k : Int) : roundRun E P m K k [false, false, false, true, true] = some (.tuple #[wordV (ovW E P m false), .int .i64 20], some (.fact 0), cs5 E P m (cs1 E P m K k false true)) := by kernel_rfl
set_option maxRecDepth 1000000 in
theorem round_ftt_o (E P m K k : Int) : roundRun E P m K k [false, false, false, false, true, true, false, true] = some (.tuple #[wordV (ovW E P m false), .int .i64 20], some (.fact 0), cs5 E P m (cs4 E P m (rU E P K k) false (cs3 E P m K k false true))) := by kernel_rfl
set_option maxRecDepth 1000000 in
theorem round_ftt_e (E P m K k : Int) : roundRun E P m K k [false, false, false, false, true, true, true, false, true] = some (.tuple #[wordV (wX (rU E P K k)), .int .i64 0], some (.fact 0), cs6 E P (rU E P K k) ((rR E P K k != 0, false) :: cs4 E P m (rU E P K k) true (cs3 E P m K k false true))) := by kernel_rfl
set_option maxRecDepth 1000000 in
theorem round_ftt_i (E P m K k : Int) : roundRun E P m K k [false, false, false, false, true, true, true, true, false, true] = some (.tuple #[wordV (wX (rU E P K k)), .int .i64 16], some (.fact 0), cs6 E P (rU E P K k) (cs7 E P K k false (cs4 E P m (rU E P K k) true (cs3 E P m K k false true)))) := by kernel_rfl
set_option maxRecDepth 1000000 in
theorem round_ftt_t (E P m K k : Int) : roundRun E P m K k [false, false, false, false, true, true, true, true, true, true] = some (.tuple #[wordV (wX (rU E P K k)), .int .i64 24], some (.fact 0), cs6 E P (rU E P K k) (cs7 E P K k true (cs4 E P m (rU E P K k) true (cs3 E P m K k false true)))) := by kernel_rfl
set_option maxRecDepth 1000000 in
theorem round_ftf_o (E P m K k : Int) : roundRun E P m K k [false, false, false, false, true, false, false, true] = some (.tuple #[wordV (ovW E P m false), .int .i64 20], some (.fact 0), cs5 E P m (cs4 E P m (rS E P K k) false (cs2 E P m K k false true false))) := by kernel_rfl
set_option maxRecDepth 1000000 in
theorem round_ftf_e (E P m K k : Int) : roundRun E P m K k [false, false, false, false, true, false, true, false, true] = some (.tuple #[wordV (wX (rS E P K k)), .int .i64 0], some (.fact 0), cs6 E P (rS E P K k) ((rR E P K k != 0, false) :: cs4 E P m (rS E P K k) true (cs2 E P m K k false true false))) := by kernel_rfl
set_option maxRecDepth 1000000 in
theorem round_ftf_i (E P m K k : Int) : roundRun E P m K k [false, false, false, false, true, false, true, true, false, true] = some (.tuple #[wordV (wX (rS E P K k)), .int .i64 16], some (.fact 0), cs6 E P (rS E P K k) (cs7 E P K k false (cs4 E P m (rS E P K k) true (cs2 E P m K k false true false)))) := by kernel_rfl
set_option maxRecDepth 1000000 in
theorem round_ftf_t (E P m K k : Int) : roundRun E P m K k [false, false, false, false, true, false, true, true, true, true] = some (.tuple #[wordV (wX (rS E P K k)), .int .i64 24], some (.fact 0), cs6 E P (rS E P K k) (cs7 E P K k true (cs4 E P m (rS E P K k) true (cs2 E P m K k false true false)))) := by kernel_rfl
set_option maxRecDepth 1000000 in
theorem round_fft_o (E P m K k : Int) : roundRun E P m K k [false, false, false, false, false, true, false, true] = some (.tuple #[wordV (ovW E P m false), .int .i64 20], some (.fact 0), cs5 E P m (cs4 E P m (rU E P K k) false (cs3 E P m K k false false))) := by kernel_rfl
set_option maxRecDepth 1000000 in
theorem round_fft_e (E P m K k : Int) : roundRun E P m K k [false, false, false, false, false, true, true, false, true] = some (.tuple #[wordV (wX (rU E P K k)), .int .i64 0], some (.fact 0), cs6 E P (rU E P K k) ((rR E P K k != 0, false) :: cs4 E P m (rU E P K k) true (cs3 E P m K k false false))) := by kernel_rfl
set_option maxRecDepth 1000000 in
theorem round_fft_i (E P m K k : Int) : roundRun E P m K k [false, false, false, false, false, true, true, true, false, true] = some (.tuple #[wordV (wX (rU E P K k)), .int .i64 16], some (.fact 0), cs6 E P (rU E P K k) (cs7 E P K k false (cs4 E P m (rU E P K k) true (cs3 E P m K k false false)))) := by kernel_rfl
set_option maxRecDepth 1000000 in
theorem round_fft_t (E P m K k : Int) : roundRun E P m K k [false, false, false, false, false, true, true, true, true, true] = some (.tuple #[wordV (wX (rU E P K k)), .int .i64 24], some (.fact 0), cs6 E P (rU E P K k) (cs7 E P K k true (cs4 E P m (rU E P K k) true (cs3 E P m K k false false)))) := by kernel_rfl
set_option maxRecDepth 1000000 in
theorem round_fff_o (E P m K k : Int) : roundRun E P m K k [false, false, false, false, false, false, false, true] = some (.tuple #[wordV (ovW E P m false), .int .i64 20], some (.fact 0), cs5 E P m (cs4 E P m (rS E P K k) false (cs2 E P m K k false false false))) := by kernel_rfl
set_option maxRecDepth 1000000 in
theorem round_fff_e (E P m K k : Int) : roundRun E P m K k [false, false, false, false, false, false, true, false, true] = some (.tuple #[wordV (wX (rS E P K k)), .int .i64 0], some (.fact 0), cs6 E P (rS E P K k) ((rR E P K k != 0, false) :: cs4 E P m (rS E P K k) true (cs2 E P m K k false false false))) := by kernel_rfl
set_option maxRecDepth 1000000 in
theorem round_fff_i (E P m K k : Int) : roundRun E P m K k [false, false, false, false, false, false, true, true, false, true] = some (.tuple #[wordV (wX (rS E P K k)), .int .i64 16], some (.fact 0), cs6 E P (rS E P K k) (cs7 E P K k false (cs4 E P m (rS E P K k) true (cs2 E P m K k false false false)))) := by kernel_rfl
set_option maxRecDepth 1000000 in
theorem round_fff_t (E P m K k : Int) : roundRun E P m K k [false, false, false, false, false, false, true, true, true, true] = some (.tuple #[wordV (wX (rS E P K k)), .int .i64 24], some (.fact 0), cs6 E P (rS E P K k) (cs7 E P K k true (cs4 E P m (rS E P K k) true (cs2 E P m K k false false false)))) := by kernel_rfl
end Go.Proofs.YtnpocnckkaddbaaGreatDoor
