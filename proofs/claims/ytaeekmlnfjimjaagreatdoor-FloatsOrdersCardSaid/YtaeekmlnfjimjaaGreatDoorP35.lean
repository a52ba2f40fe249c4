/-
  The machine's next word above, and the word with the other sign.
-/
import Derived.Test.YtaeekmlnfjimjaaGreatDoorP25
import Derived.Test.YtaeekmlnfjimjaaGreatDoorP33
set_option linter.unusedVariables false
set_option linter.unusedSimpArgs false
set_option linter.unusedSectionVars false
namespace Go.Proofs.YtaeekmlnfjimjaaGreatDoor
open Go.RowKit Go.Shelf Go.Canon

def ordC : CF → St → Option (Value × St) := orElse unsignedO (orElse infinityO (orElse oneO (orElse minusO (orElse plusO signedO))))
theorem ordC_ok : RunOkE Tryz.prog ordC := orElse_ok unsignedO_ok (orElse_ok infinityO_ok (orElse_ok oneO_ok (orElse_ok minusO_ok (orElse_ok plusO_ok signedO_ok))))
noncomputable def aboveRun (E P m X : Int) (an : List Bool) (n : Nat) : Option (Value × Option CObj × List (Bool × Bool)) := conRun Tryz.prog TR ordC 1000 71 [.v (machV E P m), .v (wordV X)] an n
noncomputable def oppRun (E P m X : Int) (an : List Bool) (n : Nat) : Option (Value × Option CObj × List (Bool × Bool)) := conRun Tryz.prog TR ordC 1000 72 [.v (machV E P m), .v (wordV X)] an n
def ab_z_cs (E P m X : Int) (na : Bool) : List (Bool × Bool) := [(true, true), (true, true), (decide (dS E P X / 18446744073709551616 = 0 ∧ dS E P X % 18446744073709551616 = 0), true), (true, true), ((decide (signOf E P ≤ wX (wordV X))), na), (decide (Fmt E P) && wB (wordV X), true)]
set_option maxRecDepth 1000000 in
theorem ab_z (E P m X : Int) (na : Bool) : aboveRun E P m X [na, true, true] 1 = some (wordV 1, some (.fact 0), ab_z_cs E P m X na) := by kernel_rfl
def ab_n_cs (E P m X : Int) : List (Bool × Bool) := [(true, true), (decide (Fmt E P) && (wB (wordV ((wX (wordV (sizeOf' E P (wX (wordV X)))) - wX (wordV 1)) % two128)) && decide (wX (wordV ((wX (wordV (sizeOf' E P (wX (wordV X)))) - wX (wordV 1)) % two128)) < signOf E P)), true), (wB (wordV (sizeOf' E P (wX (wordV X)))) && wB (wordV 1), true), (true, true), (decide (dS E P X / 18446744073709551616 = 0 ∧ dS E P X % 18446744073709551616 = 0), false), (true, true), ((decide (signOf E P ≤ wX (wordV X))), true), (decide (Fmt E P) && wB (wordV X), true)]
set_option maxRecDepth 1000000 in
theorem ab_n (E P m X : Int) : aboveRun E P m X [true, false, true] 1 = some (wordV (wX (wordV ((wX (wordV (sizeOf' E P (wX (wordV X)))) - wX (wordV 1)) % two128)) + signOf E P), some (.fact 0), ab_n_cs E P m X) := by kernel_rfl
def ab_i_cs (E P m X : Int) : List (Bool × Bool) := [(true, true), (eqW (dS E P X) (infOf E P), true), (decide (Fmt E P), true), (decide (dS E P X / 18446744073709551616 = 0 ∧ dS E P X % 18446744073709551616 = 0), false), (true, true), ((decide (signOf E P ≤ wX (wordV X))), false), (decide (Fmt E P) && wB (wordV X), true)]
set_option maxRecDepth 1000000 in
theorem ab_i (E P m X : Int) : aboveRun E P m X [false, false, true, true] 1 = some (wordV X, some (.fact 0), ab_i_cs E P m X) := by kernel_rfl
def ab_p_cs (E P m X : Int) : List (Bool × Bool) := [(true, true), (wB (wordV (sizeOf' E P (wX (wordV X)))) && wB (wordV 1), true), (true, true), (eqW (dS E P X) (infOf E P), false), (decide (Fmt E P), true), (decide (dS E P X / 18446744073709551616 = 0 ∧ dS E P X % 18446744073709551616 = 0), false), (true, true), ((decide (signOf E P ≤ wX (wordV X))), false), (decide (Fmt E P) && wB (wordV X), true)]
set_option maxRecDepth 1000000 in
theorem ab_p (E P m X : Int) : aboveRun E P m X [false, false, false, true] 1 = some (wordV ((wX (wordV (sizeOf' E P (wX (wordV X)))) + wX (wordV 1)) % two128), some (.fact 0), ab_p_cs E P m X) := by kernel_rfl
def op_t_cs (E P m X : Int) : List (Bool × Bool) := [(true, true), (decide (Fmt E P) && (wB (wordV (sizeOf' E P (wX (wordV X)))) && decide (wX (wordV (sizeOf' E P (wX (wordV X)))) < signOf E P)), true), (true, true), ((decide (signOf E P ≤ wX (wordV X))), true), (decide (Fmt E P) && wB (wordV X), true)]
set_option maxRecDepth 1000000 in
theorem op_t (E P m X : Int) : oppRun E P m X [true, true] 1 = some (wordV (wX (wordV (sizeOf' E P (wX (wordV X))))), some (.fact 0), op_t_cs E P m X) := by kernel_rfl
def op_f_cs (E P m X : Int) : List (Bool × Bool) := [(true, true), (decide (Fmt E P) && (wB (wordV (sizeOf' E P (wX (wordV X)))) && decide (wX (wordV (sizeOf' E P (wX (wordV X)))) < signOf E P)), true), (true, true), ((decide (signOf E P ≤ wX (wordV X))), false), (decide (Fmt E P) && wB (wordV X), true)]
set_option maxRecDepth 1000000 in
theorem op_f (E P m X : Int) : oppRun E P m X [false, true] 1 = some (wordV (wX (wordV (sizeOf' E P (wX (wordV X)))) + signOf E P), some (.fact 0), op_f_cs E P m X) := by kernel_rfl

def aboveOf (E P X : Int) : Int := if sizW E P X = 0 then 1 else if negOf E P X = true then X - 1 else if sizW E P X = infOf E P then X else X + 1
theorem above_con {E P m X : Int} (h : Fmt E P) (x0 : 0 ≤ X) (x1 : X < 2 * signOf E P) : Con Tryz.prog TR 71 [.v (machV E P m), .v (wordV X)] ⟨none, wordV (aboveOf E P X)⟩ := by
  have hs := sign_range h
  have hi := inf_range h
  have s0 : 0 ≤ sizW E P X ∧ sizW E P X < signOf E P := by unfold sizW sizeOf'; split <;> omega
  have bX : wB (wordV X) = true := wB_wordV x0 (by omega)
  have b1 : wB (wordV 1) = true := wB_wordV (by omega) (by rw [two128_eq]; omega)
  have bS : wB (wordV (sizW E P X)) = true := wB_wordV s0.1 (by omega)
  have eS : dS E P X = sizW E P X := by unfold dS; rw [wX_wordV]; rfl
  have eS' : sizeOf' E P X = sizW E P X := rfl
  have eZ : decide (sizW E P X / 18446744073709551616 = 0 ∧ sizW E P X % 18446744073709551616 = 0) = decide (sizW E P X = 0) := by congr 1; apply propext; omega
  have g : ∀ x, Ar.v x ∈ [Ar.v (machV E P m), .v (wordV X)] → ground 9 x = true := fun x hx => by
    simp at hx; rcases hx with rfl | rfl <;> rfl
  unfold aboveOf
  by_cases hz : sizW E P X = 0
  · rw [if_pos hz]
    have dz : decide (sizW E P X = 0) = true := decide_eq_true hz
    exact con_plain ordC_ok (ab_z E P m X (decide (signOf E P ≤ X))) (by simp only [ab_z_cs, List.forall_mem_cons]; (repeat' apply And.intro) <;> first | trivial | assumption | (intro c hc; cases hc) | (simp [h, bX, b1, eS, eZ, dz, wX_wordV]; done)) (by simp) g rfl rfl
  · rw [if_neg hz]
    have dz : decide (sizW E P X = 0) = false := decide_eq_false hz
    have dZ : decide (dS E P X / 18446744073709551616 = 0 ∧ dS E P X % 18446744073709551616 = 0) = false := by rw [eS, eZ, dz]
    by_cases hn : signOf E P ≤ X
    · have hn' : negOf E P X = true := decide_eq_true hn
      have eX : sizW E P X = X - signOf E P := by unfold sizW sizeOf'; rw [if_neg (by omega)]
      have e1 : (sizW E P X - 1) % two128 = sizW E P X - 1 := Int.emod_eq_of_lt (by omega) (by omega)
      have b2 : wB (wordV (sizW E P X - 1)) = true := wB_wordV (by omega) (by omega)
      have l2 : sizW E P X - 1 < signOf E P := by omega
      rw [if_pos hn']
      exact con_plain ordC_ok (ab_n E P m X) (by simp only [ab_n_cs, List.forall_mem_cons]; (repeat' apply And.intro) <;> first | trivial | assumption | (intro c hc; cases hc) | (simp [h, bX, b1, bS, b2, l2, e1, eS, eS', eZ, dz, wX_wordV, hn]; done)) (by simp) g (by rw [wX_wordV, wX_wordV, wX_wordV, wX_wordV, eS', e1, show sizW E P X - 1 + signOf E P = X - 1 by omega]) rfl
    · have hn' : ¬ negOf E P X = true := by unfold negOf; simpa using hn
      have eX : sizW E P X = X := by unfold sizW sizeOf'; rw [if_pos (by omega)]
      rw [if_neg hn']
      by_cases hI : sizW E P X = infOf E P
      · rw [if_pos hI]
        have dI : eqW (dS E P X) (infOf E P) = true := by rw [eqW_iff, eS]; exact decide_eq_true hI
        exact con_plain ordC_ok (ab_i E P m X) (by simp only [ab_i_cs, List.forall_mem_cons]; (repeat' apply And.intro) <;> first | trivial | assumption | (intro c hc; cases hc) | (simp [h, bX, eS, eS', eZ, dz, wX_wordV, hn, eqW_iff, hI]; done)) (by simp) g rfl rfl
      · rw [if_neg hI]
        have e1 : (X + 1) % two128 = X + 1 := Int.emod_eq_of_lt (by omega) (by omega)
        have dI : eqW (dS E P X) (infOf E P) = false := by rw [eqW_iff, eS]; exact decide_eq_false hI
        exact con_plain ordC_ok (ab_p E P m X) (by simp only [ab_p_cs, List.forall_mem_cons]; (repeat' apply And.intro) <;> first | trivial | assumption | (intro c hc; cases hc) | (simp [h, bX, b1, bS, eS, eS', eZ, dz, wX_wordV, hn, eqW_iff, hI]; done)) (by simp) g (by rw [wX_wordV, wX_wordV, wX_wordV, eS', eX, e1]) rfl
theorem opp_con {E P m X : Int} (h : Fmt E P) (x0 : 0 ≤ X) (x1 : X < 2 * signOf E P) : Con Tryz.prog TR 72 [.v (machV E P m), .v (wordV X)] ⟨none, wordV (flipOf E P X)⟩ := by
  have hs := sign_range h
  have s0 : 0 ≤ sizW E P X ∧ sizW E P X < signOf E P := by unfold sizW sizeOf'; split <;> omega
  have bX : wB (wordV X) = true := wB_wordV x0 (by omega)
  have bS : wB (wordV (sizW E P X)) = true := wB_wordV s0.1 (by omega)
  have eS' : sizeOf' E P X = sizW E P X := rfl
  have g : ∀ x, Ar.v x ∈ [Ar.v (machV E P m), .v (wordV X)] → ground 9 x = true := fun x hx => by
    simp at hx; rcases hx with rfl | rfl <;> rfl
  unfold flipOf
  by_cases hn : signOf E P ≤ X
  · have eX : sizW E P X = X - signOf E P := by unfold sizW sizeOf'; rw [if_neg (by omega)]
    rw [if_pos hn]
    exact con_plain ordC_ok (op_t E P m X) (by simp only [op_t_cs, List.forall_mem_cons]; (repeat' apply And.intro) <;> first | trivial | assumption | (intro c hc; cases hc) | (simp [h, bX, bS, s0.2, eS', wX_wordV, hn]; done)) (by simp) g (by rw [wX_wordV, wX_wordV, eS', eX]) rfl
  · have eX : sizW E P X = X := by unfold sizW sizeOf'; rw [if_pos (by omega)]
    rw [if_neg hn]
    exact con_plain ordC_ok (op_f E P m X) (by simp only [op_f_cs, List.forall_mem_cons]; (repeat' apply And.intro) <;> first | trivial | assumption | (intro c hc; cases hc) | (simp [h, bX, bS, s0.2, eS', wX_wordV, hn]; done)) (by simp) g (by rw [wX_wordV, wX_wordV, eS', eX]) rfl
theorem flip_range {E P X : Int} (x0 : 0 ≤ X) (x1 : X < 2 * signOf E P) : 0 ≤ flipOf E P X ∧ flipOf E P X < 2 * signOf E P := by unfold flipOf; split <;> omega
theorem above_range {E P X : Int} (h : Fmt E P) (x0 : 0 ≤ X) (x1 : X < 2 * signOf E P) (hk : kindOf E P X = 1 ∨ kindOf E P X = 2 ∨ kindOf E P X = 3) : 0 ≤ aboveOf E P X ∧ aboveOf E P X < 2 * signOf E P := by
  have hs := sign_range h
  have hi : 0 < infOf E P ∧ infOf E P < signOf E P := ⟨(inf_range h).1, (inf_range h).2.1⟩
  have hq := quiet_range h
  unfold aboveOf
  split
  · omega
  · rename_i hz
    split
    · rename_i hn
      have : signOf E P ≤ X := of_decide_eq_true hn
      omega
    · rename_i hn
      have hn : ¬ signOf E P ≤ X := fun hc => hn (decide_eq_true hc)
      split
      · omega
      · omega
def mwS (f : Int → Int → Int → Int) (xs : List Ar) : Option Res := match xs with
  | [.v a, .v b] => match mach3 a with
    | some (E, P, _) => some (⟨none, wordV (f E P (wX b))⟩ : Res)
    | none => none
  | _ => none
def mwP (xs : List Ar) : Bool := match xs with
  | [.v a, .v b] => match mach3 a with
    | some (E, P, _) => decide (Fmt E P) && (wB b && decide (wX b < 2 * signOf E P))
    | none => false
  | _ => false
theorem mw_oracle {g : FuncId} {f : Int → Int → Int → Int} (hc : ∀ {E P m X : Int}, Fmt E P → 0 ≤ X → X < 2 * signOf E P → Con Tryz.prog TR g [.v (machV E P m), .v (wordV X)] ⟨none, wordV (f E P X)⟩) : RunOkE Tryz.prog (oracle g (conSpec TR mwP (mwS f))) := con_oracle numG gTR roTR2 fun xs R h hp => by
  unfold mwS at h
  split at h
  · split at h
    · rename_i E P m hm
      injection h with h
      subst h
      unfold mwP at hp
      simp only [hm, Bool.and_eq_true] at hp
      rw [mach3_ok hm]
      have := hc (m := m) (of_decide_eq_true hp.1) (wX_range hp.2.1).1 (of_decide_eq_true hp.2.2)
      rwa [← wB_eq hp.2.1] at this
    · cases h
  · cases h
def aboveO : CF → St → Option (Value × St) := oracle 71 (conSpec TR mwP (mwS aboveOf))
theorem aboveO_ok : RunOkE Tryz.prog aboveO := mw_oracle above_con
def oppO : CF → St → Option (Value × St) := oracle 72 (conSpec TR mwP (mwS flipOf))
theorem oppO_ok : RunOkE Tryz.prog oppO := mw_oracle opp_con
end Go.Proofs.YtaeekmlnfjimjaaGreatDoor
