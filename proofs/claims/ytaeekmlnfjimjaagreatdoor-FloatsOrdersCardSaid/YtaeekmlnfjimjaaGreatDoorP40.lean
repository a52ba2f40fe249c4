/-
  The reference: asked, is, coded.
-/
import Derived.Test.YtaeekmlnfjimjaaGreatDoorP39
set_option linter.unusedVariables false
set_option linter.unusedSimpArgs false
set_option linter.unusedSectionVars false
namespace Go.Proofs.YtaeekmlnfjimjaaGreatDoor
open Go.RowKit Go.Shelf Go.Canon

def askC : CF → St → Option (Value × St) := rCheckO
def isC : CF → St → Option (Value × St) := orElse rBitsO (orElse rCmpO rTwoO)
theorem isC_ok : RunOkE Tryz.prog isC := orElse_ok rBitsO_ok (orElse_ok rCmpO_ok rTwoO_ok)
def codC : CF → St → Option (Value × St) := orElse rIntO (orElse rShiftO (orElse rAddO (orElse rTwoO rPackedO)))
theorem codC_ok : RunOkE Tryz.prog codC := orElse_ok rIntO_ok (orElse_ok rShiftO_ok (orElse_ok rAddO_ok (orElse_ok rTwoO_ok rPackedO_ok)))
noncomputable def askRun (E P m : Int) (an : List Bool) (n : Nat) : Option (Value × Option CObj × List (Bool × Bool)) := conRun Tryz.prog TR askC 1000 88 [.v (fmtW E P), .v (.int .i64 m)] an n
noncomputable def isRun (E P X : Int) (an : List Bool) (n : Nat) : Option (Value × Option CObj × List (Bool × Bool)) := conRun Tryz.prog TR isC 1000 89 [.v (fmtW E P), .v (wordV X)] an n
noncomputable def codRun (E P : Int) (neg : Bool) (d K : Int) (an : List Bool) (n : Nat) : Option (Value × Option CObj × List (Bool × Bool)) := conRun Tryz.prog TR codC 1000 99 [.v (fmtW E P), .v (.bool neg), .v (.int .i64 d), .r K 1] an n
def ak_o_cs (E P m : Int) : List (Bool × Bool) := [(true, true), (decide (m > 4), false), (decide (m < 0), false)]
set_option maxRecDepth 1000000 in
theorem ak_o (E P m : Int) : askRun E P m [false, false, true] 1 = some (.int .i64 (if Fmt E P then 0 else 2), some (.fact 0), ak_o_cs E P m) := by kernel_rfl
def ak_l_cs (E P m : Int) : List (Bool × Bool) := [(decide (m < 0), true)]
set_option maxRecDepth 1000000 in
theorem ak_l (E P m : Int) : askRun E P m [true, true] 1 = some (.int .i64 2, some (.fact 0), ak_l_cs E P m) := by kernel_rfl
def ak_h_cs (E P m : Int) : List (Bool × Bool) := [(decide (m > 4), true), (decide (m < 0), false)]
set_option maxRecDepth 1000000 in
theorem ak_h (E P m : Int) : askRun E P m [false, true, true] 1 = some (.int .i64 2, some (.fact 0), ak_h_cs E P m) := by kernel_rfl
def is_b_cs (E P X : Int) (b : Bool) : List (Bool × Bool) := [(decide (cmpI (wX (wordV X) * 2 ^ (-(IntKind.i64.wrap (E + P))).toNat) (2 ^ (IntKind.i64.wrap (E + P)).toNat * 1) < 0), b), (decide (R.inR (wX (wordV X)) 1) && decide (R.inR (2 ^ (IntKind.i64.wrap (E + P)).toNat) (2 ^ (-(IntKind.i64.wrap (E + P))).toNat)), true), (decide (-28000 ≤ (IntKind.i64.wrap (E + P)) ∧ (IntKind.i64.wrap (E + P)) ≤ 28000), true), (true, true), (true, true), (wB (wordV X), true)]
set_option maxRecDepth 1000000 in
theorem is_b (E P X : Int) (b : Bool) : isRun E P X [b, true] 1 = some (.bool b, some (.fact 0), is_b_cs E P X b) := by kernel_rfl
def co_t_cs (E P d K : Int) : List (Bool × Bool) := [(true, true), (decide (intR (((d * 2 ^ (IntKind.i64.wrap (P - 1)).toNat) * 1 + K * (1 * 2 ^ (-(IntKind.i64.wrap (P - 1))).toNat)) * (2 ^ (-(IntKind.i64.wrap (IntKind.i64.wrap (E + P) - 1))).toNat) + (2 ^ (IntKind.i64.wrap (IntKind.i64.wrap (E + P) - 1)).toNat) * ((1 * 2 ^ (-(IntKind.i64.wrap (P - 1))).toNat) * 1)) (((1 * 2 ^ (-(IntKind.i64.wrap (P - 1))).toNat) * 1) * (2 ^ (-(IntKind.i64.wrap (IntKind.i64.wrap (E + P) - 1))).toNat)) ∧ 0 ≤ (((d * 2 ^ (IntKind.i64.wrap (P - 1)).toNat) * 1 + K * (1 * 2 ^ (-(IntKind.i64.wrap (P - 1))).toNat)) * (2 ^ (-(IntKind.i64.wrap (IntKind.i64.wrap (E + P) - 1))).toNat) + (2 ^ (IntKind.i64.wrap (IntKind.i64.wrap (E + P) - 1)).toNat) * ((1 * 2 ^ (-(IntKind.i64.wrap (P - 1))).toNat) * 1)) / (((1 * 2 ^ (-(IntKind.i64.wrap (P - 1))).toNat) * 1) * (2 ^ (-(IntKind.i64.wrap (IntKind.i64.wrap (E + P) - 1))).toNat)) ∧ (((d * 2 ^ (IntKind.i64.wrap (P - 1)).toNat) * 1 + K * (1 * 2 ^ (-(IntKind.i64.wrap (P - 1))).toNat)) * (2 ^ (-(IntKind.i64.wrap (IntKind.i64.wrap (E + P) - 1))).toNat) + (2 ^ (IntKind.i64.wrap (IntKind.i64.wrap (E + P) - 1)).toNat) * ((1 * 2 ^ (-(IntKind.i64.wrap (P - 1))).toNat) * 1)) / (((1 * 2 ^ (-(IntKind.i64.wrap (P - 1))).toNat) * 1) * (2 ^ (-(IntKind.i64.wrap (IntKind.i64.wrap (E + P) - 1))).toNat)) < 340282366920938463463374607431768211456), true), (true, true), (decide (R.inR ((d * 2 ^ (IntKind.i64.wrap (P - 1)).toNat) * 1 + K * (1 * 2 ^ (-(IntKind.i64.wrap (P - 1))).toNat)) ((1 * 2 ^ (-(IntKind.i64.wrap (P - 1))).toNat) * 1)) && decide (R.inR (2 ^ (IntKind.i64.wrap (IntKind.i64.wrap (E + P) - 1)).toNat) (2 ^ (-(IntKind.i64.wrap (IntKind.i64.wrap (E + P) - 1))).toNat)), true), (decide (-28000 ≤ (IntKind.i64.wrap (IntKind.i64.wrap (E + P) - 1)) ∧ (IntKind.i64.wrap (IntKind.i64.wrap (E + P) - 1)) ≤ 28000), true), (true, true), (true, true), (true, true), (decide (R.inR (d * 2 ^ (IntKind.i64.wrap (P - 1)).toNat) (1 * 2 ^ (-(IntKind.i64.wrap (P - 1))).toNat)) && decide (R.inR K 1), true), (decide (R.inR d 1) && decide (-28000 ≤ (IntKind.i64.wrap (P - 1)) ∧ (IntKind.i64.wrap (P - 1)) ≤ 28000), true), (true, true), (decide (-9223372036854775808 ≤ d ∧ d ≤ 9223372036854775807), true)]
set_option maxRecDepth 1000000 in
theorem co_t (E P d K : Int) : codRun E P true d K [true] 1 = some (wordV ((((d * 2 ^ (IntKind.i64.wrap (P - 1)).toNat) * 1 + K * (1 * 2 ^ (-(IntKind.i64.wrap (P - 1))).toNat)) * (2 ^ (-(IntKind.i64.wrap (IntKind.i64.wrap (E + P) - 1))).toNat) + (2 ^ (IntKind.i64.wrap (IntKind.i64.wrap (E + P) - 1)).toNat) * ((1 * 2 ^ (-(IntKind.i64.wrap (P - 1))).toNat) * 1)) / (((1 * 2 ^ (-(IntKind.i64.wrap (P - 1))).toNat) * 1) * (2 ^ (-(IntKind.i64.wrap (IntKind.i64.wrap (E + P) - 1))).toNat))), some (.fact 0), co_t_cs E P d K) := by kernel_rfl
def co_f_cs (E P d K : Int) : List (Bool × Bool) := [(true, true), (decide (intR ((d * 2 ^ (IntKind.i64.wrap (P - 1)).toNat) * 1 + K * (1 * 2 ^ (-(IntKind.i64.wrap (P - 1))).toNat)) ((1 * 2 ^ (-(IntKind.i64.wrap (P - 1))).toNat) * 1) ∧ 0 ≤ ((d * 2 ^ (IntKind.i64.wrap (P - 1)).toNat) * 1 + K * (1 * 2 ^ (-(IntKind.i64.wrap (P - 1))).toNat)) / ((1 * 2 ^ (-(IntKind.i64.wrap (P - 1))).toNat) * 1) ∧ ((d * 2 ^ (IntKind.i64.wrap (P - 1)).toNat) * 1 + K * (1 * 2 ^ (-(IntKind.i64.wrap (P - 1))).toNat)) / ((1 * 2 ^ (-(IntKind.i64.wrap (P - 1))).toNat) * 1) < 340282366920938463463374607431768211456), true), (true, true), (decide (R.inR (d * 2 ^ (IntKind.i64.wrap (P - 1)).toNat) (1 * 2 ^ (-(IntKind.i64.wrap (P - 1))).toNat)) && decide (R.inR K 1), true), (decide (R.inR d 1) && decide (-28000 ≤ (IntKind.i64.wrap (P - 1)) ∧ (IntKind.i64.wrap (P - 1)) ≤ 28000), true), (true, true), (decide (-9223372036854775808 ≤ d ∧ d ≤ 9223372036854775807), true)]
set_option maxRecDepth 1000000 in
theorem co_f (E P d K : Int) : codRun E P false d K [true] 1 = some (wordV (((d * 2 ^ (IntKind.i64.wrap (P - 1)).toNat) * 1 + K * (1 * 2 ^ (-(IntKind.i64.wrap (P - 1))).toNat)) / ((1 * 2 ^ (-(IntKind.i64.wrap (P - 1))).toNat) * 1)), some (.fact 0), co_f_cs E P d K) := by kernel_rfl

def askE (E P m : Int) : Int := if m < 0 ∨ m > 4 then 2 else if Fmt E P then 0 else 2
theorem ask_con (E P m : Int) : Con Tryz.prog TR 88 [.v (fmtW E P), .v (.int .i64 m)] ⟨none, .int .i64 (askE E P m)⟩ := by
  have g : ∀ x, Ar.v x ∈ [Ar.v (fmtW E P), .v (.int .i64 m)] → ground 9 x = true := fun x hx => by
    simp at hx; rcases hx with rfl | rfl <;> rfl
  unfold askE
  by_cases h0 : m < 0
  · rw [if_pos (.inl h0)]
    have d0 : decide (m < 0) = true := decide_eq_true h0
    exact con_plain rCheckO_ok (ak_l E P m) (by simp only [ak_l_cs, List.forall_mem_cons]; (repeat' apply And.intro) <;> first | exact True.intro | with_reducible rfl | with_reducible assumption | (intro c hc; cases hc) | (simp []; done)) (by simp) g rfl rfl
  · have d0 : decide (m < 0) = false := decide_eq_false h0
    by_cases h1 : m > 4
    · rw [if_pos (.inr h1)]
      have d1 : decide (m > 4) = true := decide_eq_true h1
      exact con_plain rCheckO_ok (ak_h E P m) (by simp only [ak_h_cs, List.forall_mem_cons]; (repeat' apply And.intro) <;> first | exact True.intro | with_reducible rfl | with_reducible assumption | (intro c hc; cases hc) | (simp []; done)) (by simp) g rfl rfl
    · rw [if_neg (by omega)]
      have d1 : decide (m > 4) = false := decide_eq_false h1
      exact con_plain rCheckO_ok (ak_o E P m) (by simp only [ak_o_cs, List.forall_mem_cons]; (repeat' apply And.intro) <;> first | exact True.intro | with_reducible rfl | with_reducible assumption | (intro c hc; cases hc) | (simp []; done)) (by simp) g rfl rfl
theorem inR_sm {x : Int} (h : (x.natAbs : Int) < 1000000000000000000000000000000000000000000000000000000000000) : R.inR x 1 := (R.inI_small h).r
theorem is_con {E P X : Int} (h : Fmt E P) (x0 : 0 ≤ X) (x1 : X < two128) : Con Tryz.prog TR 89 [.v (fmtW E P), .v (wordV X)] ⟨none, .bool (decide (X < 2 * signOf E P))⟩ := by
  have g : ∀ x, Ar.v x ∈ [Ar.v (fmtW E P), .v (wordV X)] → ground 9 x = true := fun x hx => by
    simp at hx; rcases hx with rfl | rfl <;> rfl
  have bX : wB (wordV X) = true := wB_wordV x0 x1
  have hr : 0 ≤ E + P ∧ E + P ≤ 124 := by obtain ⟨a, b, c, d, e⟩ := h; omega
  have hw : IntKind.i64.wrap (E + P) = E + P := wrapI (by omega)
  have h2 : (2 : Int) ^ (E + P).toNat = 2 * signOf E P := by
    obtain ⟨a, b, c, d, e⟩ := h
    unfold signOf
    rw [show (E + P).toNat = (E + P - 1).toNat + 1 by omega, Int.pow_succ]; omega
  have hn : (-(E + P)).toNat = 0 := by omega
  have hs := sign_range h
  rw [two128_eq] at x1
  have i1 : R.inR X 1 := inR_sm (by omega)
  have i2 : R.inR (2 * signOf E P) 1 := inR_sm (by rw [two128_eq] at hs; omega)
  have e1 : (cmpI (wX (wordV X) * 2 ^ (-(IntKind.i64.wrap (E + P))).toNat) (2 ^ (IntKind.i64.wrap (E + P)).toNat * 1) < 0) ↔ X < 2 * signOf E P := by
    rw [hw, hn, h2, wX_wordV, Int.pow_zero, Int.mul_one, Int.mul_one]
    unfold cmpI
    split
    · rename_i hl; exact ⟨fun _ => hl, fun _ => by decide⟩
    · rename_i hl; exact ⟨fun hq => by split at hq <;> omega, fun hq => absurd hq hl⟩
  have f1 : decide (cmpI (wX (wordV X) * 2 ^ (-(IntKind.i64.wrap (E + P))).toNat) (2 ^ (IntKind.i64.wrap (E + P)).toNat * 1) < 0) = decide (X < 2 * signOf E P) := decide_eq_decide.2 e1
  have f2 : decide (-28000 ≤ (IntKind.i64.wrap (E + P)) ∧ (IntKind.i64.wrap (E + P)) ≤ 28000) = true := decide_eq_true (by rw [hw]; omega)
  have f3 : (decide (R.inR (wX (wordV X)) 1) && decide (R.inR (2 ^ (IntKind.i64.wrap (E + P)).toNat) (2 ^ (-(IntKind.i64.wrap (E + P))).toNat))) = true := by
    rw [wX_wordV, hw, hn, h2, Int.pow_zero, decide_eq_true i1, decide_eq_true i2]; rfl
  clear i1 i2
  exact con_plain isC_ok (is_b E P X (decide (X < 2 * signOf E P))) (by simp only [is_b_cs, List.forall_mem_cons]; (repeat' apply And.intro) <;> first | exact True.intro | with_reducible rfl | with_reducible assumption | (intro c hc; cases hc) | (simp []; done)) (by simp) g rfl rfl
/-- the word with a sign, a field and a fraction -/
def cdOf (E P : Int) (neg : Bool) (d K : Int) : Int := d * qP P + K + (if neg = true then signOf E P else 0)
theorem cd_range {E P d K : Int} {neg : Bool} (h : Fmt E P) (d0 : 0 ≤ d) (d1 : d < 2048) (k0 : 0 ≤ K) (k1 : K < 10000000000000000000000000000000000000) : 0 ≤ cdOf E P neg d K ∧ cdOf E P neg d K < two128 ∧ 0 ≤ d * qP P ∧ d * qP P ≤ 2047 * 5192296858534827628530496329220096 ∧ 0 < qP P ∧ qP P ≤ 5192296858534827628530496329220096 := by
  have hs := sign_range h
  have hq := qP_pos P
  have hP : qP P ≤ 5192296858534827628530496329220096 := by
    have := h.2.2.2.1
    have h1 := p2_le (show (P - 1).toNat ≤ 112 by omega)
    have h2 : (2 : Int) ^ 112 = 5192296858534827628530496329220096 := by decide
    unfold qP; omega
  have hm := Int.mul_nonneg d0 (Int.le_of_lt hq)
  have hm2 : d * qP P ≤ 2047 * qP P := Int.mul_le_mul_of_nonneg_right (by omega) (Int.le_of_lt hq)
  have hS : signOf E P ≤ 10633823966279326983230456482242756608 := by
    obtain ⟨f1, f2, f3, f4, f5⟩ := h
    have h1 := p2_le (show (E + P - 1).toNat ≤ 123 by omega)
    have h2 : (2 : Int) ^ 123 = 10633823966279326983230456482242756608 := by decide
    unfold signOf; omega
  unfold cdOf
  rw [two128_eq]
  refine ⟨by split <;> omega, by split <;> omega, hm, by omega, hq, hP⟩
theorem coded_1 {E P d K : Int} {neg : Bool} (h : Fmt E P) (d0 : 0 ≤ d) (d1 : d < 2048) (k0 : 0 ≤ K) (k1 : K < 10000000000000000000000000000000000000) : Con Tryz.prog TR 99 [.v (fmtW E P), .v (.bool neg), .v (.int .i64 d), .r K 1] ⟨none, wordV (cdOf E P neg d K)⟩ := by
  have g : ∀ x, Ar.v x ∈ [Ar.v (fmtW E P), .v (.bool neg), .v (.int .i64 d), .r K 1] → ground 9 x = true := fun x hx => by
    simp at hx; rcases hx with rfl | rfl | rfl <;> rfl
  obtain ⟨c0, c1, c2, c3, c4, c5⟩ := cd_range (neg := neg) h d0 d1 k0 k1
  have hs := sign_range h
  obtain ⟨f1, f2, f3, f4, f5⟩ := h
  have hwE : IntKind.i64.wrap (E + P) = E + P := wrapI (by omega)
  have hwS : IntKind.i64.wrap (IntKind.i64.wrap (E + P) - 1) = E + P - 1 := by rw [hwE]; exact wrapI (by omega)
  have hwP : IntKind.i64.wrap (P - 1) = P - 1 := wrapI (by omega)
  have n1 : (-(P - 1)).toNat = 0 := by omega
  have n2 : (-(E + P - 1)).toNat = 0 := by omega
  have q1 : (2 : Int) ^ (P - 1).toNat = qP P := rfl
  have q2 : (2 : Int) ^ (E + P - 1).toNat = signOf E P := rfl
  rw [two128_eq] at c1 hs
  have g1 : decide (-9223372036854775808 ≤ d ∧ d ≤ 9223372036854775807) = true := decide_eq_true (by omega)
  have i0 : R.inR d 1 := inR_sm (by omega)
  have i1 : R.inR (d * qP P) 1 := inR_sm (by omega)
  have i2 : R.inR K 1 := inR_sm (by omega)
  have i3 : R.inR (d * qP P + K) 1 := inR_sm (by omega)
  have i4 : R.inR (signOf E P) 1 := inR_sm (by omega)
  have g2 : (decide (R.inR d 1) && decide (-28000 ≤ (IntKind.i64.wrap (P - 1)) ∧ (IntKind.i64.wrap (P - 1)) ≤ 28000)) = true := by
    rw [hwP, decide_eq_true i0, decide_eq_true (by omega)]; rfl
  have g3 : (decide (R.inR (d * 2 ^ (IntKind.i64.wrap (P - 1)).toNat) (1 * 2 ^ (-(IntKind.i64.wrap (P - 1))).toNat)) && decide (R.inR K 1)) = true := by
    rw [hwP, n1, q1, Int.pow_zero, Int.mul_one, decide_eq_true i1, decide_eq_true i2]; rfl
  unfold cdOf at c0 c1 ⊢
  cases neg
  · rw [if_neg (by decide)] at c0 c1 ⊢
    have e1 : (d * 2 ^ (IntKind.i64.wrap (P - 1)).toNat * 1 + K * (1 * 2 ^ (-(IntKind.i64.wrap (P - 1))).toNat)) = d * qP P + K := by
      rw [hwP, n1, q1, Int.pow_zero, Int.mul_one, Int.mul_one, Int.mul_one]
    have e2 : (1 * 2 ^ (-(IntKind.i64.wrap (P - 1))).toNat * 1 : Int) = 1 := by rw [hwP, n1]; rfl
    have g5 : decide (intR (d * qP P + K) 1 ∧ 0 ≤ (d * qP P + K) / 1 ∧ (d * qP P + K) / 1 < 340282366920938463463374607431768211456) = true := decide_eq_true ⟨by unfold intR; omega, by omega, by omega⟩
    clear i0 i1 i2 i3 i4
    exact con_plain codC_ok (co_f E P d K) (by simp only [co_f_cs, List.forall_mem_cons]; (repeat' apply And.intro) <;> first | exact True.intro | with_reducible rfl | with_reducible assumption | (rw [e1, e2]; with_reducible assumption) | (intro c hc; cases hc) | (simp []; done)) (by simp) g (by rw [e1, e2, Int.ediv_one, Int.add_zero]) rfl
  · rw [if_pos rfl] at c0 c1 ⊢
    have e1 : (d * 2 ^ (IntKind.i64.wrap (P - 1)).toNat * 1 + K * (1 * 2 ^ (-(IntKind.i64.wrap (P - 1))).toNat)) = d * qP P + K := by
      rw [hwP, n1, q1, Int.pow_zero, Int.mul_one, Int.mul_one, Int.mul_one]
    have e2 : (1 * 2 ^ (-(IntKind.i64.wrap (P - 1))).toNat * 1 : Int) = 1 := by rw [hwP, n1]; rfl
    have e3 : (2 : Int) ^ (IntKind.i64.wrap (IntKind.i64.wrap (E + P) - 1)).toNat = signOf E P := by rw [hwS]; rfl
    have e4 : (2 : Int) ^ (-(IntKind.i64.wrap (IntKind.i64.wrap (E + P) - 1))).toNat = 1 := by rw [hwS, n2]; rfl
    have g4 : decide (-28000 ≤ (IntKind.i64.wrap (IntKind.i64.wrap (E + P) - 1)) ∧ (IntKind.i64.wrap (IntKind.i64.wrap (E + P) - 1)) ≤ 28000) = true := decide_eq_true (by rw [hwS]; omega)
    have g6 : (decide (R.inR (d * qP P + K) 1) && decide (R.inR (signOf E P) 1)) = true := by rw [decide_eq_true i3, decide_eq_true i4]; rfl
    have e5 : ((d * qP P + K) * 1 + signOf E P * 1) = d * qP P + K + signOf E P := by omega
    have g5 : decide (intR (d * qP P + K + signOf E P) 1 ∧ 0 ≤ (d * qP P + K + signOf E P) / 1 ∧ (d * qP P + K + signOf E P) / 1 < 340282366920938463463374607431768211456) = true := decide_eq_true ⟨by unfold intR; omega, by omega, by omega⟩
    clear i0 i1 i2 i3 i4
    exact con_plain codC_ok (co_t E P d K) (by simp only [co_t_cs, List.forall_mem_cons]; (repeat' apply And.intro) <;> first | exact True.intro | with_reducible rfl | with_reducible assumption | (rw [e1, e2, e3, e4]; with_reducible assumption) | (rw [e1, e2, e3, e4, e5, Int.mul_one]; with_reducible assumption) | (intro c hc; cases hc) | (simp []; done)) (by simp) g (by rw [e1, e2, e3, e4, e5, Int.mul_one, Int.ediv_one]) rfl
end Go.Proofs.YtaeekmlnfjimjaaGreatDoor
