/-
  FloatsDiffers: Sub's contract for values as an answer, Sub with a mode that is none, and the paths of the law.
-/
import Derived.Test.YtjomebgpnokboaaGreatDoorP26C
set_option linter.unusedVariables false
set_option linter.unusedSimpArgs false
set_option linter.unusedSectionVars false
namespace Go.Proofs.YtjomebgpnokboaaGreatDoor
open Go.RowKit Go.Shelf Go.Canon

/-! Sub with no mode -/
noncomputable def subRun2 (E P m X Y : Int) (an : List Bool) : Option (Value × Option CObj × List (Bool × Bool)) := conRun Tryz.prog TR (nest arithC 6) 1000 11 [.v (fmtV E P), .v (.int .i64 m), .v (wordV X), .v (wordV Y)] an 0
set_option maxRecDepth 1000000 in
theorem sub_bad1 (E P m X Y : Int) : subRun2 E P m X Y [false, true, true, true] = some (.tuple #[zeroW, .int .i64 0, .int .i64 2], some (.fact 0), [(true, true), (true, true), (true, true), (true, true), (true, true), (decide (m < 0), true), (chkE E P != 0, false), (true, true)]) := by kernel_rfl
set_option maxRecDepth 1000000 in
theorem sub_bad2 (E P m X Y : Int) : subRun2 E P m X Y [false, false, true, true, true] = some (.tuple #[zeroW, .int .i64 0, .int .i64 2], some (.fact 0), [(true, true), (true, true), (true, true), (true, true), (true, true), (decide (m > 4), true), (decide (m < 0), false), (chkE E P != 0, false), (true, true)]) := by kernel_rfl
theorem subB_con {E P m X Y : Int} (h : Fmt E P) (hm : m < 0 ∨ 4 < m) : Con Tryz.prog TR 11 [.v (fmtV E P), .v (.int .i64 m), .v (wordV X), .v (wordV Y)] ⟨none, .tuple #[zeroW, .int .i64 0, .int .i64 2]⟩ := by
  have g := groundOp E P m X Y
  have ok := nest_ok arithC_ok 6
  have hc : (chkE E P != 0) = false := by unfold chkE; rw [if_pos h]; rfl
  by_cases h0 : m < 0
  · have hrun := sub_bad1 E P m X Y
    refine con_plain ok hrun ?_ (by simp) g rfl rfl
    simp only [List.forall_mem_cons]
    exact ⟨trivial, trivial, trivial, trivial, trivial, by simpa using h0, hc, trivial, fun c hc => by cases hc⟩
  · have hrun := sub_bad2 E P m X Y
    refine con_plain ok hrun ?_ (by simp) g rfl rfl
    simp only [List.forall_mem_cons]
    exact ⟨trivial, trivial, trivial, trivial, trivial, by simp; omega, by simpa using h0, hc, trivial, fun c hc => by cases hc⟩

/-! Sub as an answer -/
def subFP (xs : List Ar) : Bool := match xs with
  | [.v a, .v (.int .i64 m), .v b, .v c] => match fmt2 a with
    | some (E, P) => wB b && (wB c && (decide (0 ≤ m ∧ m ≤ 4) && (vErr E P (wX b) == 0 && vErr E P (wX c) == 0)))
    | none => false
  | _ => false
def subFS (xs : List Ar) : Option Res := match xs with
  | [.v a, .v (.int .i64 m), .v b, .v c] => match fmt2 a with
    | some (E, P) => some ⟨none, .tuple #[wordV (arW E P m (opK E P (wX b)) (-opK E P (wX c)) (negOf E P (wX b)) (!negOf E P (wX c))), .int .i64 (arF E P m (opK E P (wX b)) (-opK E P (wX c))), .int .i64 0]⟩
    | none => none
  | _ => none
theorem vErr_zero {E P X : Int} (h : vErr E P X = 0) : Fmt E P ∧ X < 2 * signOf E P ∧ (kindOf E P X = 1 ∨ kindOf E P X = 2) ∧ vK E P X = opK E P X := by
  have hk : vK E P X = rdK E P X := by unfold vK; rw [if_pos h]
  unfold vErr at h
  split at h
  · rename_i he
    have hf : Fmt E P ∧ X < 2 * signOf E P := by
      unfold rdErr at he
      split at he
      · rename_i hF
        split at he
        · cases he
        · exact ⟨hF, by omega⟩
      · cases he
    split at h
    · rename_i hkd
      refine ⟨hf.1, hf.2, ?_, ?_⟩
      · unfold rdKind at hkd
        rw [if_pos he] at hkd
        omega
      · rw [hk]; unfold rdK; rw [if_pos he]
    · cases h
  · rename_i he
    exact absurd h he
def subFO : CF → St → Option (Value × St) := oracle 11 (conSpec TR subFP subFS)
theorem subFO_ok : RunOkE Tryz.prog subFO := con_oracle numG gTR roTR2 fun xs R h hp => by
  unfold subFS at h
  split at h
  · split at h
    · rename_i hm
      injection h with h
      subst h
      unfold subFP at hp
      simp only [hm, Bool.and_eq_true, decide_eq_true_eq, beq_iff_eq] at hp
      obtain ⟨hb, hc, hmd, eb, ec⟩ := hp
      obtain ⟨hF, b1, b2, _⟩ := vErr_zero eb
      obtain ⟨_, c1, c2, _⟩ := vErr_zero ec
      have := subN_con hF hmd.1 hmd.2 (wX_range hb).1 b1 (wX_range hc).1 c1 b2 c2
      rw [fmt2_ok hm, wB_eq hb, wB_eq hc, wX_wordV, wX_wordV]
      exact this
    · cases h
  · cases h
def subBP (xs : List Ar) : Bool := match xs with
  | [.v a, .v (.int .i64 m), .v b, .v c] => match fmt2 a with
    | some (E, P) => wB b && (wB c && (!decide (0 ≤ m ∧ m ≤ 4) && decide (Fmt E P)))
    | none => false
  | _ => false
def subBS (xs : List Ar) : Option Res := match xs with
  | [.v a, .v (.int .i64 m), .v b, .v c] => some ⟨none, .tuple #[zeroW, .int .i64 0, .int .i64 2]⟩
  | _ => none
def subBO : CF → St → Option (Value × St) := oracle 11 (conSpec TR subBP subBS)
theorem subBO_ok : RunOkE Tryz.prog subBO := con_oracle numG gTR roTR2 fun xs R h hp => by
  unfold subBS at h
  split at h
  · injection h with h
    subst h
    unfold subBP at hp
    simp only at hp
    split at hp
    · rename_i hm
      simp only [Bool.and_eq_true, decide_eq_true_eq, Bool.not_eq_true', decide_eq_false_iff_not] at hp
      obtain ⟨hb, hc, hmd, hF⟩ := hp
      rw [fmt2_ok hm, wB_eq hb, wB_eq hc]
      exact subB_con hF (by omega)
    · cases hp
  · cases h
end Go.Proofs.YtjomebgpnokboaaGreatDoor
