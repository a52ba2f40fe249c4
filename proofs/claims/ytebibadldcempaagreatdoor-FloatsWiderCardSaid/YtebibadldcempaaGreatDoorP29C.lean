/-
  Has and Add as answers.
-/
import Derived.Test.YtebibadldcempaaGreatDoorP29B
import Derived.Test.YtebibadldcempaaGreatDoorP26D
set_option linter.unusedVariables false
set_option linter.unusedSimpArgs false
set_option linter.unusedSectionVars false
namespace Go.Proofs.YtebibadldcempaaGreatDoor
open Go.RowKit Go.Shelf Go.Canon

/-! Has -/
def hasC : CF → St → Option (Value × St) := orElse checkO roundO
theorem hasC_ok : RunOkE Tryz.prog hasC := orElse_ok checkO_ok roundO_ok
noncomputable def hasRun (E P K k : Int) (an : List Bool) : Option (Value × Option CObj × List (Bool × Bool)) := conRun Tryz.prog TR (nest hasC 3) 1000 11 [.v (fmtV E P), .n K k] an 1
def hcs (E P K k : Int) (b : Bool) : List (Bool × Bool) :=
  [(rndF E P 2 K k == 0, b), (true, true), (true, true), (true, true), (true, true), (decide (Fmt E P) && (decide ((0 : Int) ≤ 2 ∧ (2 : Int) ≤ 4) && decide (inB K k ∧ -40000 ≤ k)), true), (decide (K < 0) == decide (K < 0), true),
   (false, false), (true, true), (true, true), (false, false), (false, false), (chkE E P != 0, false), (true, true)]
set_option maxRecDepth 1000000 in
theorem has_bad (E P K k : Int) : hasRun E P K k [true, true, false, true] = some (.bool false, some (.fact 0), [(false, false), (true, true), (true, true), (true, true), (true, true), (true, true), (chkE E P != 0, true), (true, true)]) := by kernel_rfl
set_option maxRecDepth 1000000 in
theorem has_t (E P K k : Int) : hasRun E P K k [false, false, false, false, true, true, true] = some (.bool true, some (.fact 0), hcs E P K k true) := by kernel_rfl
set_option maxRecDepth 1000000 in
theorem has_f (E P K k : Int) : hasRun E P K k [false, false, false, false, true, false, true] = some (.bool false, some (.fact 0), hcs E P K k false) := by kernel_rfl
theorem groundFN (E P K k : Int) : ∀ x, Ar.v x ∈ [Ar.v (fmtV E P), .n K k] → ground 9 x = true := fun x hx => by
  simp at hx; subst hx; rfl
/-- whether a number is a value -/
def hasB (E P K k : Int) : Bool := decide (Fmt E P) && (rndF E P 2 K k == 0)
theorem has_con {E P K k : Int} (hb : inB K k) (hk : -40000 ≤ k) : Con Tryz.prog TR 11 [.v (fmtV E P), .n K k] ⟨none, .bool (hasB E P K k)⟩ := by
  have g := groundFN E P K k
  have ok := nest_ok hasC_ok 3
  by_cases h : Fmt E P
  · have hc : (chkE E P != 0) = false := by unfold chkE; rw [if_pos h]; rfl
    have e : ∀ b, (rndF E P 2 K k == 0) = b → hasB E P K k = b := fun b hb => by unfold hasB; rw [decide_eq_true h, hb]; simp
    have hcs : ∀ b, (rndF E P 2 K k == 0) = b → ∀ c ∈ hcs E P K k b, c.1 = c.2 := by
      intro b hr
      unfold hcs
      simp only [List.forall_mem_cons]
      exact ⟨hr, trivial, trivial, trivial, trivial, by simp [h, hb, hk], by simp, trivial, trivial, trivial, trivial, trivial, hc, trivial, fun c hc => by cases hc⟩
    cases hr : (rndF E P 2 K k == 0)
    · exact con_plain ok (has_f E P K k) (hcs _ hr) (by simp) g (by rw [e _ hr]) rfl
    · exact con_plain ok (has_t E P K k) (hcs _ hr) (by simp) g (by rw [e _ hr]) rfl
  · have hc : (chkE E P != 0) = true := by unfold chkE; rw [if_neg h]; rfl
    refine con_plain ok (has_bad E P K k) ?_ (by simp) g (by unfold hasB; rw [decide_eq_false h]; rfl) rfl
    simp only [List.forall_mem_cons]
    exact ⟨trivial, trivial, trivial, trivial, trivial, trivial, hc, trivial, fun c hc => by cases hc⟩
def hasS (xs : List Ar) : Option Res := match xs with
  | [.v a, .n K k] => match fmt2 a with
    | some (E, P) => some (⟨none, .bool (hasB E P K k)⟩ : Res)
    | none => none
  | _ => none
def hasP (xs : List Ar) : Bool := match xs with
  | [.v _, .n K k] => decide (inB K k ∧ -40000 ≤ k)
  | _ => false
def hasO : CF → St → Option (Value × St) := oracle 11 (conSpec TR hasP hasS)
theorem hasO_ok : RunOkE Tryz.prog hasO := con_oracle numG gTR roTR2 fun xs R h hp => by
  unfold hasS at h
  split at h
  · split at h
    · rename_i hm
      injection h with h
      subst h
      unfold hasP at hp
      simp only at hp
      have h2 := of_decide_eq_true hp
      rw [fmt2_ok hm]
      exact has_con h2.1 h2.2
    · cases h
  · cases h

/-! Add as an answer -/
def addFP (xs : List Ar) : Bool := match xs with
  | [.v a, .v (.int .i64 m), .v b, .v c] => match fmt2 a with
    | some (E, P) => wB b && (wB c && (decide (0 ≤ m ∧ m ≤ 4) && (vErr E P (wX b) == 0 && vErr E P (wX c) == 0)))
    | none => false
  | _ => false
def addFS (xs : List Ar) : Option Res := match xs with
  | [.v a, .v (.int .i64 m), .v b, .v c] => match fmt2 a with
    | some (E, P) => some ⟨none, .tuple #[wordV (arW E P m (opK E P (wX b)) (opK E P (wX c)) (negOf E P (wX b)) (negOf E P (wX c))), .int .i64 (arF E P m (opK E P (wX b)) (opK E P (wX c))), .int .i64 0]⟩
    | none => none
  | _ => none
def addFO : CF → St → Option (Value × St) := oracle 9 (conSpec TR addFP addFS)
theorem addFO_ok : RunOkE Tryz.prog addFO := con_oracle numG gTR roTR2 fun xs R h hp => by
  unfold addFS at h
  split at h
  · split at h
    · rename_i hm
      injection h with h
      subst h
      unfold addFP at hp
      simp only [hm, Bool.and_eq_true, decide_eq_true_eq, beq_iff_eq] at hp
      obtain ⟨hb, hc, hmd, eb, ec⟩ := hp
      obtain ⟨hF, b1, b2, _⟩ := vErr_zero eb
      obtain ⟨_, c1, c2, _⟩ := vErr_zero ec
      have := addN_con hF hmd.1 hmd.2 (wX_range hb).1 b1 (wX_range hc).1 c1 b2 c2
      rw [fmt2_ok hm, wB_eq hb, wB_eq hc, wX_wordV, wX_wordV]
      exact this
    · cases h
  · cases h
end Go.Proofs.YtebibadldcempaaGreatDoor
