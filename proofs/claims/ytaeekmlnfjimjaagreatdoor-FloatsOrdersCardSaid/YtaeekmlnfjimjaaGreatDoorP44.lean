/-
  The reference: NaN, Infinite, zero, Greatest.
-/
import Derived.Test.YtaeekmlnfjimjaaGreatDoorP43
set_option linter.unusedVariables false
set_option linter.unusedSimpArgs false
set_option linter.unusedSectionVars false
namespace Go.Proofs.YtaeekmlnfjimjaaGreatDoor
open Go.RowKit Go.Shelf Go.Canon

def wdC : CF → St → Option (Value × St) := orElse rTopO (orElse rTwoO rCodO)
theorem wdC_ok : RunOkE Tryz.prog wdC := orElse_ok rTopO_ok (orElse_ok rTwoO_ok rCodO_ok)
def grC : CF → St → Option (Value × St) := orElse rTwoO (orElse rIntO (orElse rSubO (orElse rBiasO rShiftO)))
theorem grC_ok : RunOkE Tryz.prog grC := orElse_ok rTwoO_ok (orElse_ok rIntO_ok (orElse_ok rSubO_ok (orElse_ok rBiasO_ok rShiftO_ok)))
noncomputable def nanRun (E P : Int) (an : List Bool) (n : Nat) : Option (Value × Option CObj × List (Bool × Bool)) := conRun Tryz.prog TR wdC 1000 42 [.v (fmtW E P)] an n
noncomputable def greRun (E P : Int) (an : List Bool) (n : Nat) : Option (Value × Option CObj × List (Bool × Bool)) := conRun Tryz.prog TR grC 1000 134 [.v (fmtW E P)] an n
def wd_n_cs (E P : Int) : List (Bool × Bool) := [(true, true), (decide (Fmt E P) && decide (0 ≤ (2 * biasOf E + 1) ∧ (2 * biasOf E + 1) < 2048 ∧ intR ((2 : Int) ^ (IntKind.i64.wrap (P - 2)).toNat) ((2 : Int) ^ (-(IntKind.i64.wrap (P - 2))).toNat) ∧ 0 ≤ ((2 : Int) ^ (IntKind.i64.wrap (P - 2)).toNat) / ((2 : Int) ^ (-(IntKind.i64.wrap (P - 2))).toNat) ∧ ((2 : Int) ^ (IntKind.i64.wrap (P - 2)).toNat) / ((2 : Int) ^ (-(IntKind.i64.wrap (P - 2))).toNat) < 10000000000000000000000000000000000000), true), (decide (-28000 ≤ (IntKind.i64.wrap (P - 2)) ∧ (IntKind.i64.wrap (P - 2)) ≤ 28000), true), (true, true), (decide (Fmt E P), true)]
set_option maxRecDepth 1000000 in
theorem wd_n (E P : Int) : nanRun E P [true] 1 = some (wordV (cdOf E P false (2 * biasOf E + 1) (((2 : Int) ^ (IntKind.i64.wrap (P - 2)).toNat) / ((2 : Int) ^ (-(IntKind.i64.wrap (P - 2))).toNat))), some (.fact 0), wd_n_cs E P) := by kernel_rfl
def gr_a_cs (E P : Int) : List (Bool × Bool) := [(true, true), (decide (R.inR (((2 : Int) ^ P.toNat) * (1 : Int) + -(1 : Int) * ((2 : Int) ^ (-P).toNat)) (((2 : Int) ^ (-P).toNat) * (1 : Int))) && decide (-28000 ≤ (IntKind.i64.wrap (IntKind.i64.wrap (biasOf E - P) + 1)) ∧ (IntKind.i64.wrap (IntKind.i64.wrap (biasOf E - P) + 1)) ≤ 28000), true), (true, true), (decide (Fmt E P), true), (true, true), (decide (R.inR ((2 : Int) ^ P.toNat) ((2 : Int) ^ (-P).toNat)) && decide (R.inR (1 : Int) (1 : Int)), true), (decide (-9223372036854775808 ≤ (1 : Int) ∧ (1 : Int) ≤ 9223372036854775807), true), (decide (-28000 ≤ P ∧ P ≤ 28000), true), (true, true)]
set_option maxRecDepth 1000000 in
theorem gr_a (E P : Int) : greRun E P [true] 18 = some (subst 18 4 tokR, some (.ghost 2 [(((2 : Int) ^ P.toNat) * (1 : Int) + -(1 : Int) * ((2 : Int) ^ (-P).toNat)) * (2 : Int) ^ (IntKind.i64.wrap (IntKind.i64.wrap (biasOf E - P) + 1)).toNat, (((2 : Int) ^ (-P).toNat) * (1 : Int)) * (2 : Int) ^ (-(IntKind.i64.wrap (IntKind.i64.wrap (biasOf E - P) + 1))).toNat]), gr_a_cs E P) := by kernel_rfl

theorem cd_nan {E P : Int} (h : Fmt E P) : cdOf E P false (2 * biasOf E + 1) (2 ^ (P - 2).toNat) = quietOf E P := by
  have hb := bias_eq h.1
  unfold cdOf
  rw [show quietOf E P = infOf E P + 2 ^ (P - 2).toNat from rfl, inf_q h, show (2 : Int) ^ E.toNat - 1 = 2 * biasOf E + 1 by omega, if_neg (by decide)]; omega
theorem nan_con {E P : Int} (h : Fmt E P) : Con Tryz.prog TR 42 [.v (fmtW E P)] ⟨none, wordV (quietOf E P)⟩ := by
  have g : ∀ x, Ar.v x ∈ [Ar.v (fmtW E P)] → ground 9 x = true := fun x hx => by
    simp at hx; subst hx; rfl
  have hb := bias_range h.1 h.2.1
  have hh := half_q h
  have hq : qP P ≤ 5192296858534827628530496329220096 := by
    obtain ⟨_, _, _, _, _, c6⟩ := cd_range (d := 0) (K := 0) (neg := false) h (by omega) (by omega) (by omega) (by omega)
    exact c6
  have hw2 : IntKind.i64.wrap (P - 2) = P - 2 := wrapI (by obtain ⟨_, _, _, _, _⟩ := h; omega)
  have z2 : (-(P - 2)).toNat = 0 := by obtain ⟨_, _, _, _, _⟩ := h; omega
  have p2 : decide (-28000 ≤ (IntKind.i64.wrap (P - 2)) ∧ (IntKind.i64.wrap (P - 2)) ≤ 28000) = true := by rw [hw2]; exact decide_eq_true (by obtain ⟨_, _, _, _, _⟩ := h; omega)
  have hp := p2pos (P - 2).toNat
  have p3 : (decide (Fmt E P) && decide (0 ≤ (2 * biasOf E + 1) ∧ (2 * biasOf E + 1) < 2048 ∧ intR ((2 : Int) ^ (IntKind.i64.wrap (P - 2)).toNat) ((2 : Int) ^ (-(IntKind.i64.wrap (P - 2))).toNat) ∧ 0 ≤ ((2 : Int) ^ (IntKind.i64.wrap (P - 2)).toNat) / ((2 : Int) ^ (-(IntKind.i64.wrap (P - 2))).toNat) ∧ ((2 : Int) ^ (IntKind.i64.wrap (P - 2)).toNat) / ((2 : Int) ^ (-(IntKind.i64.wrap (P - 2))).toNat) < 10000000000000000000000000000000000000)) = true := by
    rw [hw2, z2, Int.pow_zero, Int.ediv_one, decide_eq_true h, decide_eq_true (show 0 ≤ 2 * biasOf E + 1 ∧ 2 * biasOf E + 1 < 2048 ∧ intR (2 ^ (P - 2).toNat) 1 ∧ 0 ≤ (2 : Int) ^ (P - 2).toNat ∧ (2 : Int) ^ (P - 2).toNat < 10000000000000000000000000000000000000 from ⟨by omega, by omega, by unfold intR; omega, by omega, by omega⟩)]; rfl
  refine con_plain wdC_ok (wd_n E P) (by simp only [wd_n_cs, List.forall_mem_cons]; (repeat' apply And.intro) <;> first | exact True.intro | with_reducible rfl | with_reducible assumption | (intro c hc; cases hc) | (simp [h]; done)) (by simp) g ?_ rfl
  rw [hw2, z2, Int.pow_zero, Int.ediv_one, cd_nan h]
/-- the greatest value in units of the least one -/
def grK (E P : Int) : Int := (2 ^ P.toNat - 1) * 2 ^ (2 * biasOf E - 1).toNat
theorem gre_con {E P : Int} (h : Fmt E P) : Con Tryz.prog TR 134 [.v (fmtW E P)] (resR (grK E P) (leD E P)) := by
  have g : ∀ x, Ar.v x ∈ [Ar.v (fmtW E P)] → ground 9 x = true := fun x hx => by
    simp at hx; subst hx; rfl
  have hb := bias_range h.1 h.2.1
  have hf := h
  obtain ⟨f1, f2, f3, f4, f5⟩ := hf
  have hw : IntKind.i64.wrap (IntKind.i64.wrap (biasOf E - P) + 1) = biasOf E - P + 1 := by rw [wrapI (x := biasOf E - P) (by omega)]; exact wrapI (by omega)
  have zP : (-P).toNat = 0 := by omega
  have hP := p2_le (show P.toNat ≤ 113 by omega)
  have h113 : (2 : Int) ^ 113 = 10384593717069655257060992658440192 := by decide
  have hp := p2pos P.toNat
  have i1 : R.inR (2 ^ P.toNat) 1 := inR_sm (by omega)
  have i2 : R.inR 1 1 := inR_sm (by decide)
  have i3 : R.inR (2 ^ P.toNat - 1) 1 := inR_sm (by omega)
  have q1 : decide (-28000 ≤ P ∧ P ≤ 28000) = true := decide_eq_true (by omega)
  have q3 : (decide (R.inR ((2 : Int) ^ P.toNat) ((2 : Int) ^ (-P).toNat)) && decide (R.inR (1 : Int) (1 : Int))) = true := by rw [zP, Int.pow_zero, decide_eq_true i1, decide_eq_true i2]; rfl
  have eK : ((2 ^ P.toNat) * (1 : Int) + -(1 : Int) * (2 ^ (-P).toNat)) = 2 ^ P.toNat - 1 := by rw [zP]; omega
  have eD : ((2 ^ (-P).toNat) * (1 : Int)) = 1 := by rw [zP]; rfl
  have q7 : (decide (R.inR (((2 : Int) ^ P.toNat) * (1 : Int) + -(1 : Int) * ((2 : Int) ^ (-P).toNat)) (((2 : Int) ^ (-P).toNat) * (1 : Int))) && decide (-28000 ≤ (IntKind.i64.wrap (IntKind.i64.wrap (biasOf E - P) + 1)) ∧ (IntKind.i64.wrap (IntKind.i64.wrap (biasOf E - P) + 1)) ≤ 28000)) = true := by rw [eK, eD, hw, decide_eq_true i3, decide_eq_true (by omega)]; rfl
  clear i1 i2 i3
  refine con_ref grC_ok (gr_a E P) (by simp only [gr_a_cs, List.forall_mem_cons]; (repeat' apply And.intro) <;> first | exact True.intro | with_reducible rfl | with_reducible assumption | (intro c hc; cases hc) | (simp [h]; done)) (by simp) g rfl (leD_pos E P) ?_
  rw [eK, eD, hw]
  have hx : (2 : Int) ^ (biasOf E - P + 1).toNat * leD E P = 2 ^ (2 * biasOf E - 1).toNat * 2 ^ (-(biasOf E - P + 1)).toNat := pow_cross (by omega)
  unfold grK
  generalize (2 : Int) ^ (biasOf E - P + 1).toNat = a at *
  generalize (2 : Int) ^ (-(biasOf E - P + 1)).toNat = b at *
  generalize (2 : Int) ^ (2 * biasOf E - 1).toNat = c at *
  rw [Int.mul_assoc, hx]; grind

def rNanS (xs : List Ar) : Option Res := match xs with
  | [.v a] => match fmt2 a with
    | some (E, P) => some (⟨none, wordV (quietOf E P)⟩ : Res)
    | none => none
  | _ => none
def rNanP (xs : List Ar) : Bool := match xs with
  | [.v a] => match fmt2 a with
    | some (E, P) => decide (Fmt E P)
    | none => false
  | _ => false
def rNanO : CF → St → Option (Value × St) := oracle 42 (conSpec TR rNanP rNanS)
theorem rNanO_ok : RunOkE Tryz.prog rNanO := con_oracle numG gTR roTR2 fun xs R h hp => by
  unfold rNanS at h
  split at h
  · split at h
    · rename_i hm
      injection h with h
      subst h
      unfold rNanP at hp
      simp only [hm] at hp
      rw [fmt2_ok hm]
      exact nan_con (of_decide_eq_true hp)
    · cases h
  · cases h

def rGreS (xs : List Ar) : Option Res := match xs with
  | [.v a] => match fmt2 a with
    | some (E, P) => some (resR (grK E P) (leD E P) : Res)
    | none => none
  | _ => none
def rGreP (xs : List Ar) : Bool := match xs with
  | [.v a] => match fmt2 a with
    | some (E, P) => decide (Fmt E P)
    | none => false
  | _ => false
def rGreO : CF → St → Option (Value × St) := oracle 134 (conSpec TR rGreP rGreS)
theorem rGreO_ok : RunOkE Tryz.prog rGreO := con_oracle numG gTR roTR2 fun xs R h hp => by
  unfold rGreS at h
  split at h
  · split at h
    · rename_i hm
      injection h with h
      subst h
      unfold rGreP at hp
      simp only [hm] at hp
      rw [fmt2_ok hm]
      exact gre_con (of_decide_eq_true hp)
    · cases h
  · cases h
end Go.Proofs.YtaeekmlnfjimjaaGreatDoor
