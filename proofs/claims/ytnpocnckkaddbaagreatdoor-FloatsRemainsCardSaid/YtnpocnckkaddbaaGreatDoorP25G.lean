/-
  What lies beyond; numbers in steps: contracts.
-/
import Derived.Test.YtnpocnckkaddbaaGreatDoorP25F
set_option linter.unusedVariables false
set_option linter.unusedSimpArgs false
set_option linter.unusedSectionVars false
namespace Go.Proofs.YtnpocnckkaddbaaGreatDoor
open Go.RowKit Go.Shelf Go.Canon

theorem wX_wordV (X : Int) : wX (wordV X) = X := by
  show X / 18446744073709551616 * 18446744073709551616 + X % 18446744073709551616 = X
  omega
theorem wB_wordV {X : Int} (h0 : 0 ≤ X) (h1 : X < two128) : wB (wordV X) = true := by
  rw [two128_eq] at h1
  show decide (0 ≤ X / 18446744073709551616 ∧ X / 18446744073709551616 < 18446744073709551616 ∧ 0 ≤ X % 18446744073709551616 ∧ X % 18446744073709551616 < 18446744073709551616) = true
  exact decide_eq_true ⟨by omega, by omega, by omega, by omega⟩

/-! overflow -/
def ovfC : CF → St → Option (Value × St) := orElse infinityO (orElse modeO (orElse oneO (orElse minusO signedO)))
theorem ovfC_ok : RunOkE Tryz.prog ovfC := orElse_ok infinityO_ok (orElse_ok modeO_ok (orElse_ok oneO_ok (orElse_ok minusO_ok signedO_ok)))
def ovW (E P m : Int) (neg : Bool) : Int := (if modeOf m neg = 2 ∨ modeOf m neg = 4 then infOf E P - 1 else infOf E P) + (if neg = true then signOf E P else 0)
theorem groundMB (E P m : Int) (b : Bool) : ∀ x, Ar.v x ∈ [Ar.v (machV E P m), .v (.bool b)] → ground 9 x = true := fun x hx => by
  simp at hx; rcases hx with rfl | rfl <;> rfl
set_option maxRecDepth 1000000 in
theorem ovf_true_a (E P m : Int) : conRun Tryz.prog TR ovfC 1000 175 [.v (machV E P m), .v (.bool true)] [true, true] 1 =
  some (.tuple #[wordV (wX (wordV ((wX (wordV (infOf E P)) - wX (wordV 1)) % two128)) + signOf E P), .int .i64 20], some (.fact 0), [(true, true), (decide (Fmt E P) && (wB (wordV ((wX (wordV (infOf E P)) - wX (wordV 1)) % two128)) && decide (wX (wordV ((wX (wordV (infOf E P)) - wX (wordV 1)) % two128)) < signOf E P)), true), (true, true), (wB (wordV (infOf E P)) && wB (wordV 1), true), (true, true), (modeOf m true == 2, true), (decide (0 ≤ m ∧ m ≤ 4), true), (true, true), (decide (Fmt E P), true)]) := by kernel_rfl
set_option maxRecDepth 1000000 in
theorem ovf_true_b (E P m : Int) : conRun Tryz.prog TR ovfC 1000 175 [.v (machV E P m), .v (.bool true)] [false, true, true] 1 =
  some (.tuple #[wordV (wX (wordV ((wX (wordV (infOf E P)) - wX (wordV 1)) % two128)) + signOf E P), .int .i64 20], some (.fact 0), [(true, true), (decide (Fmt E P) && (wB (wordV ((wX (wordV (infOf E P)) - wX (wordV 1)) % two128)) && decide (wX (wordV ((wX (wordV (infOf E P)) - wX (wordV 1)) % two128)) < signOf E P)), true), (true, true), (wB (wordV (infOf E P)) && wB (wordV 1), true), (true, true), (modeOf m true == 4, true), (modeOf m true == 2, false), (decide (0 ≤ m ∧ m ≤ 4), true), (true, true), (decide (Fmt E P), true)]) := by kernel_rfl
set_option maxRecDepth 1000000 in
theorem ovf_true_c (E P m : Int) : conRun Tryz.prog TR ovfC 1000 175 [.v (machV E P m), .v (.bool true)] [false, false, true] 1 =
  some (.tuple #[wordV (wX (wordV (infOf E P)) + signOf E P), .int .i64 20], some (.fact 0), [(true, true), (decide (Fmt E P) && (wB (wordV (infOf E P)) && decide (wX (wordV (infOf E P)) < signOf E P)), true), (modeOf m true == 4, false), (modeOf m true == 2, false), (decide (0 ≤ m ∧ m ≤ 4), true), (true, true), (decide (Fmt E P), true)]) := by kernel_rfl
set_option maxRecDepth 1000000 in
theorem ovf_false_a (E P m : Int) : conRun Tryz.prog TR ovfC 1000 175 [.v (machV E P m), .v (.bool false)] [true, true] 1 =
  some (.tuple #[wordV (wX (wordV ((wX (wordV (infOf E P)) - wX (wordV 1)) % two128))), .int .i64 20], some (.fact 0), [(true, true), (decide (Fmt E P) && (wB (wordV ((wX (wordV (infOf E P)) - wX (wordV 1)) % two128)) && decide (wX (wordV ((wX (wordV (infOf E P)) - wX (wordV 1)) % two128)) < signOf E P)), true), (true, true), (wB (wordV (infOf E P)) && wB (wordV 1), true), (true, true), (modeOf m false == 2, true), (decide (0 ≤ m ∧ m ≤ 4), true), (true, true), (decide (Fmt E P), true)]) := by kernel_rfl
set_option maxRecDepth 1000000 in
theorem ovf_false_b (E P m : Int) : conRun Tryz.prog TR ovfC 1000 175 [.v (machV E P m), .v (.bool false)] [false, true, true] 1 =
  some (.tuple #[wordV (wX (wordV ((wX (wordV (infOf E P)) - wX (wordV 1)) % two128))), .int .i64 20], some (.fact 0), [(true, true), (decide (Fmt E P) && (wB (wordV ((wX (wordV (infOf E P)) - wX (wordV 1)) % two128)) && decide (wX (wordV ((wX (wordV (infOf E P)) - wX (wordV 1)) % two128)) < signOf E P)), true), (true, true), (wB (wordV (infOf E P)) && wB (wordV 1), true), (true, true), (modeOf m false == 4, true), (modeOf m false == 2, false), (decide (0 ≤ m ∧ m ≤ 4), true), (true, true), (decide (Fmt E P), true)]) := by kernel_rfl
set_option maxRecDepth 1000000 in
theorem ovf_false_c (E P m : Int) : conRun Tryz.prog TR ovfC 1000 175 [.v (machV E P m), .v (.bool false)] [false, false, true] 1 =
  some (.tuple #[wordV (wX (wordV (infOf E P))), .int .i64 20], some (.fact 0), [(true, true), (decide (Fmt E P) && (wB (wordV (infOf E P)) && decide (wX (wordV (infOf E P)) < signOf E P)), true), (modeOf m false == 4, false), (modeOf m false == 2, false), (decide (0 ≤ m ∧ m ≤ 4), true), (true, true), (decide (Fmt E P), true)]) := by kernel_rfl
theorem ovf_con {E P m : Int} (neg : Bool) (h : Fmt E P) (h0 : 0 ≤ m) (h1 : m ≤ 4) : Con Tryz.prog TR 175 [.v (machV E P m), .v (.bool neg)] ⟨none, .tuple #[wordV (ovW E P m neg), .int .i64 20]⟩ := by
  have hi := inf_range h
  have hs := sign_range h
  have e1 : (infOf E P - 1) % two128 = infOf E P - 1 := Int.emod_eq_of_lt (by omega) (by omega)
  have b0 : wB (wordV (infOf E P)) = true := wB_wordV (by omega) (by omega)
  have b1 : wB (wordV 1) = true := wB_wordV (by omega) (by rw [two128_eq]; omega)
  have b2 : wB (wordV (infOf E P - 1)) = true := wB_wordV (by omega) (by omega)
  have l0 : infOf E P < signOf E P := hi.2.1
  have l1 : infOf E P - 1 < signOf E P := by omega
  cases neg
  · by_cases c2 : modeOf m false = 2
    · refine con_plain ovfC_ok (ovf_false_a E P m) (by simp [h, h0, h1, c2, wX_wordV, e1, b0, b1, b2, l1]) (by simp) (groundMB E P m _) ?_ rfl
      simp [ovW, c2, wX_wordV, e1]
    · by_cases c4 : modeOf m false = 4
      · refine con_plain ovfC_ok (ovf_false_b E P m) (by simp [h, h0, h1, c2, c4, wX_wordV, e1, b0, b1, b2, l1]) (by simp) (groundMB E P m _) ?_ rfl
        simp [ovW, c4, wX_wordV, e1]
      · refine con_plain ovfC_ok (ovf_false_c E P m) (by simp [h, h0, h1, c2, c4, wX_wordV, b0, l0]) (by simp) (groundMB E P m _) ?_ rfl
        simp [ovW, c2, c4, wX_wordV]
  · by_cases c2 : modeOf m true = 2
    · refine con_plain ovfC_ok (ovf_true_a E P m) (by simp [h, h0, h1, c2, wX_wordV, e1, b0, b1, b2, l1]) (by simp) (groundMB E P m _) ?_ rfl
      simp [ovW, c2, wX_wordV, e1]
    · by_cases c4 : modeOf m true = 4
      · refine con_plain ovfC_ok (ovf_true_b E P m) (by simp [h, h0, h1, c2, c4, wX_wordV, e1, b0, b1, b2, l1]) (by simp) (groundMB E P m _) ?_ rfl
        simp [ovW, c4, wX_wordV, e1]
      · refine con_plain ovfC_ok (ovf_true_c E P m) (by simp [h, h0, h1, c2, c4, wX_wordV, b0, l0]) (by simp) (groundMB E P m _) ?_ rfl
        simp [ovW, c2, c4, wX_wordV]
def ovfS (xs : List Ar) : Option Res := match xs with
  | [.v a, .v (.bool b)] => match mach3 a with
    | some (E, P, m) => some (⟨none, .tuple #[wordV (ovW E P m b), .int .i64 20]⟩ : Res)
    | none => none
  | _ => none
def ovfP (xs : List Ar) : Bool := match xs with
  | [.v a, .v (.bool _)] => match mach3 a with
    | some (E, P, m) => decide (Fmt E P) && decide (0 ≤ m ∧ m ≤ 4)
    | none => false
  | _ => false
def ovfO : CF → St → Option (Value × St) := oracle 175 (conSpec TR ovfP ovfS)
theorem ovfO_ok : RunOkE Tryz.prog ovfO := con_oracle numG gTR roTR2 fun xs R h hp => by
  unfold ovfS at h
  split at h
  · split at h
    · rename_i hm
      injection h with h
      subst h
      unfold ovfP at hp
      simp only [hm, Bool.and_eq_true] at hp
      rw [mach3_ok hm]
      have h2 := of_decide_eq_true hp.2
      exact ovf_con _ (of_decide_eq_true hp.1) h2.1 h2.2
    · cases h
  · cases h

/-! inSteps -/
def restF (A e : Int) : Int := (if floorK A e % 2 = 1 then 2 else 0) + (if isI' A e = true then 0 else 1)
def stepsOk (K k s : Int) : Prop := inB K k ∧ -20000 ≤ 1 - s ∧ 1 - s ≤ 20000 ∧ -50000 ≤ k + (1 - s) ∧ (K.natAbs : Int) * 2 ^ (k + (1 - s)).toNat < sml ∧ floorK K.natAbs (k + (1 - s)) < 2 ^ 124
instance (K k s : Int) : Decidable (stepsOk K k s) := by unfold stepsOk; infer_instance
theorem inSteps_con {K k s : Int} (h : stepsOk K k s) : Con Tryz.prog TR 176 [.n K k, .v (.int .i64 s)] ⟨none, .tuple #[wordV (floorK K.natAbs (k + (1 - s)) / 2), .int .i64 (restF K.natAbs (k + (1 - s)))]⟩ := by
  obtain ⟨hb, h1, h2, h3, h4, h5⟩ := h
  have hw : IntKind.i64.wrap (1 - s) = 1 - s := wrapI (by omega)
  have hA : (0 : Int) ≤ K.natAbs := by omega
  have hbA : inB (K.natAbs : Int) k := by obtain ⟨a, b, c, d⟩ := hb; exact ⟨by omega, by omega, c, d⟩
  have hm : 0 ≤ (K.natAbs : Int) * 2 ^ (k + (1 - s)).toNat := Int.mul_nonneg hA (Int.le_of_lt (p2pos _))
  have hF : 0 ≤ floorK K.natAbs (k + (1 - s)) := Int.ediv_nonneg hm (Int.le_of_lt (p2pos _))
  have hs : -sml < (K.natAbs : Int) * 2 ^ (k + (1 - s)).toNat := by have : (0 : Int) < sml := p2pos _; omega
  have g : ∀ x, Ar.v x ∈ [Ar.n K k, .v (.int .i64 s)] → ground 9 x = true := fun x hx => by simp at hx; subst hx; rfl
  have e0 : (2 : Int) ^ (0 : Int).toNat = 1 := rfl
  have e1 : (2 : Int) ^ (1 : Int).toNat = 2 := rfl
  have p124 : (2 : Int) ^ 124 = 21267647932558653966460912964485513216 := by decide
  generalize hFd : floorK K.natAbs (k + (1 - s)) = F at *
  have hbit : bits BinOp.and IntKind.u64 (F % 18446744073709551616) 1 = F % 2 := by
    rw [and_one_u64 _ (by omega) (by omega)]; omega
  have hwb : wB (wordV F) = true := wB_wordV hF (by rw [two128_eq]; omega)
  have h5' : F < 21267647932558653966460912964485513216 := by omega
  have key : ∀ odd int : Bool, (F % 2 == 1) = odd → isI' K.natAbs (k + (1 - s)) = int → ∀ c ∈ stepsCs K k s odd int, c.1 = c.2 := by
    intro odd int ho hi
    unfold stepsCs
    simp only [hw, hFd, e0, Int.mul_one, hbit]
    simp [ho, hi, hbA, h1, h2, hs, h4, h3, hF, h5', hwb]
  have val : ∀ r, stepsV K k s r = .tuple #[wordV (F / 2), .int .i64 r] := by
    intro r
    unfold stepsV
    simp only [hw, hFd, e0, e1, Int.mul_one, wX_wordV]
  have rest : restF K.natAbs (k + (1 - s)) = (if F % 2 = 1 then 2 else 0) + (if isI' K.natAbs (k + (1 - s)) = true then 0 else 1) := by unfold restF; rw [hFd]
  cases ho : (F % 2 == 1)
  · have ho' : ¬ F % 2 = 1 := by simpa using ho
    cases hi : isI' K.natAbs (k + (1 - s))
    · refine con_plain inStepsC_ok (inSteps_ff K k s) (key _ _ ho hi) (by simp) g ?_ rfl
      rw [val, rest, hi, if_neg ho']; rfl
    · refine con_plain inStepsC_ok (inSteps_ft K k s) (key _ _ ho hi) (by simp) g ?_ rfl
      rw [val, rest, hi, if_neg ho']; rfl
  · have ho' : F % 2 = 1 := by simpa using ho
    cases hi : isI' K.natAbs (k + (1 - s))
    · refine con_plain inStepsC_ok (inSteps_tf K k s) (key _ _ ho hi) (by simp) g ?_ rfl
      rw [val, rest, hi, if_pos ho']; rfl
    · refine con_plain inStepsC_ok (inSteps_tt K k s) (key _ _ ho hi) (by simp) g ?_ rfl
      rw [val, rest, hi, if_pos ho']; rfl
def inStepsS (xs : List Ar) : Option Res := match xs with
  | [.n K k, .v (.int .i64 s)] => some (⟨none, .tuple #[wordV (floorK K.natAbs (k + (1 - s)) / 2), .int .i64 (restF K.natAbs (k + (1 - s)))]⟩ : Res)
  | _ => none
def inStepsP (xs : List Ar) : Bool := match xs with
  | [.n K k, .v (.int .i64 s)] => decide (stepsOk K k s)
  | _ => false
def inStepsO : CF → St → Option (Value × St) := oracle 176 (conSpec TR inStepsP inStepsS)
theorem inStepsO_ok : RunOkE Tryz.prog inStepsO := con_oracle numG gTR roTR2 fun xs R h hp => by
  unfold inStepsS at h
  split at h
  · injection h with h
    subst h
    unfold inStepsP at hp
    exact inSteps_con (of_decide_eq_true hp)
  · cases h
end Go.Proofs.YtnpocnckkaddbaaGreatDoor
