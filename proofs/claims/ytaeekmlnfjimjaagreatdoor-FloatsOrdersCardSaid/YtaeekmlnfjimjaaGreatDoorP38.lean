/-
  What the reference's look tells of a word, in the words of the machine: field, fraction, sign (no program there).
-/
import Derived.Test.YtaeekmlnfjimjaaGreatDoorP25
set_option linter.unusedVariables false
set_option linter.unusedSimpArgs false
set_option linter.unusedSectionVars false
namespace Go.Proofs.YtaeekmlnfjimjaaGreatDoor
open Go.RowKit Go.Shelf Go.Canon

/-- the unit of the field, the field, the fraction -/
def qP (P : Int) : Int := 2 ^ (P - 1).toNat
def fdW (E P X : Int) : Int := X / qP P % 2 ^ E.toNat
def frW (P X : Int) : Int := X % qP P
theorem qP_pos (P : Int) : 0 < qP P := p2pos _
theorem sign_q {E P : Int} (h : Fmt E P) : signOf E P = 2 ^ E.toNat * qP P := by
  obtain ⟨f1, f2, f3, f4, f5⟩ := h
  unfold signOf qP
  rw [← Int.pow_add]; congr 1; omega
theorem inf_q {E P : Int} (h : Fmt E P) : infOf E P = (2 ^ E.toNat - 1) * qP P := by
  have := sign_q h
  unfold signOf at this
  unfold infOf
  rw [this, Int.sub_mul, Int.one_mul]; rfl
theorem half_q {E P : Int} (h : Fmt E P) : qP P = 2 * 2 ^ (P - 2).toNat := by
  obtain ⟨f1, f2, f3, f4, f5⟩ := h
  unfold qP
  rw [show (P - 1).toNat = (P - 2).toNat + 1 by omega, Int.pow_succ]; omega
theorem p2E {E P : Int} (h : Fmt E P) : 4 ≤ (2 : Int) ^ E.toNat ∧ (2 : Int) ^ E.toNat ≤ 2048 := by
  obtain ⟨f1, f2, _⟩ := h
  rcases (show E = 2 ∨ E = 3 ∨ E = 4 ∨ E = 5 ∨ E = 6 ∨ E = 7 ∨ E = 8 ∨ E = 9 ∨ E = 10 ∨ E = 11 by omega) with rfl | rfl | rfl | rfl | rfl | rfl | rfl | rfl | rfl | rfl <;> decide
theorem fr_range (P X : Int) : 0 ≤ frW P X ∧ frW P X < qP P := ⟨Int.emod_nonneg _ (by have := qP_pos P; omega), Int.emod_lt_of_pos _ (qP_pos P)⟩
theorem fd_range {E P X : Int} : 0 ≤ fdW E P X ∧ fdW E P X < 2 ^ E.toNat := ⟨Int.emod_nonneg _ (by have := p2pos E.toNat; omega), Int.emod_lt_of_pos _ (p2pos _)⟩
theorem siz_parts {E P X : Int} (h : Fmt E P) (x0 : 0 ≤ X) (x1 : X < 2 * signOf E P) : sizW E P X = fdW E P X * qP P + frW P X := by
  have hs := sign_q h
  have hq := qP_pos P
  have hp := p2pos E.toNat
  unfold sizW sizeOf' fdW frW
  split
  · rename_i hlt
    have h1 : X / qP P < 2 ^ E.toNat := Int.ediv_lt_of_lt_mul hq (by omega)
    have h0 : 0 ≤ X / qP P := Int.ediv_nonneg x0 (Int.le_of_lt hq)
    rw [Int.emod_eq_of_lt h0 h1, Int.mul_comm]
    exact (Int.mul_ediv_add_emod X (qP P)).symm
  · rename_i hge
    have e1 : X = (X - signOf E P) + 2 ^ E.toNat * qP P := by omega
    have h1 : (X - signOf E P) / qP P < 2 ^ E.toNat := Int.ediv_lt_of_lt_mul hq (by omega)
    have h0 : 0 ≤ (X - signOf E P) / qP P := Int.ediv_nonneg (by omega) (Int.le_of_lt hq)
    have e2 : X / qP P = (X - signOf E P) / qP P + 2 ^ E.toNat := by
      conv => lhs; rw [e1]
      exact Int.add_mul_ediv_right _ _ (by omega)
    have e3 : X % qP P = (X - signOf E P) % qP P := by
      conv => lhs; rw [e1]
      exact Int.add_mul_emod_self_right _ _ _
    rw [e2, e3, Int.add_emod_right, Int.emod_eq_of_lt h0 h1, Int.mul_comm]
    exact (Int.mul_ediv_add_emod _ (qP P)).symm
theorem sign_bit {E P X : Int} (h : Fmt E P) (x0 : 0 ≤ X) (x1 : X < 2 * signOf E P) : X / 2 ^ (E + P - 1).toNat % 2 ^ (1 : Int).toNat = if negOf E P X = true then 1 else 0 := by
  have hs := (sign_range h).1
  show X / signOf E P % 2 = _
  unfold negOf
  by_cases hn : signOf E P ≤ X
  · rw [decide_eq_true hn, if_pos rfl]
    have : X / signOf E P = 1 := by
      have e1 : X = (X - signOf E P) + 1 * signOf E P := by omega
      conv => lhs; rw [e1]
      rw [Int.add_mul_ediv_right _ _ (by omega), Int.ediv_eq_zero_of_lt (by omega) (by omega)]; rfl
    rw [this]; rfl
  · rw [decide_eq_false hn, if_neg (by decide), Int.ediv_eq_zero_of_lt x0 (by omega)]; rfl
/-- the kinds, by field and fraction -/
theorem kind_parts {E P X : Int} (h : Fmt E P) (x0 : 0 ≤ X) (x1 : X < 2 * signOf E P) :
    kindOf E P X = if fdW E P X = 2 * biasOf E + 1 then (if frW P X = 0 then 3 else if frW P X ≥ 2 ^ (P - 2).toNat then 4 else 5) else if fdW E P X = 0 ∧ frW P X = 0 then 1 else 2 := by
  have hsz := siz_parts h x0 x1
  have hi := inf_q h
  have hh := half_q h
  have hb := bias_eq h.1
  have hE := p2E h
  obtain ⟨r0, r1⟩ := fr_range P X
  obtain ⟨f0, f1⟩ := fd_range (E := E) (P := P) (X := X)
  have hq := qP_pos P
  have hq2 := p2pos (P - 2).toNat
  have hqu : quietOf E P = infOf E P + 2 ^ (P - 2).toNat := rfl
  unfold kindOf
  rw [hsz, hqu]
  generalize fdW E P X = F at *
  generalize frW P X = r at *
  generalize (2 : Int) ^ (P - 2).toNat = p at *
  generalize (2 : Int) ^ E.toNat = e at *
  by_cases ht : F = 2 * biasOf E + 1
  · rw [if_pos ht]
    have e1 : F * qP P = infOf E P := by rw [hi]; congr 1; omega
    have hpos : 0 < infOf E P := by
      rw [hi]; exact Int.mul_pos (by omega) hq
    rw [e1, if_neg (by omega)]
    by_cases hr : r = 0
    · rw [if_pos hr, if_pos (by omega)]
    · rw [if_neg hr, if_neg (by omega), if_neg (by omega)]
      by_cases hk : r ≥ p
      · rw [if_pos hk, if_neg (by omega)]
      · rw [if_neg hk, if_pos (by omega)]
  · rw [if_neg ht]
    have hlt : F * qP P + qP P ≤ infOf E P := by
      have : (F + 1) * qP P ≤ (e - 1) * qP P := Int.mul_le_mul_of_nonneg_right (by omega) (Int.le_of_lt hq)
      rw [Int.add_mul, Int.one_mul] at this
      rw [hi]; exact this
    have hF : 0 ≤ F * qP P := Int.mul_nonneg f0 (Int.le_of_lt hq)
    by_cases hz : F = 0 ∧ r = 0
    · rw [if_pos hz, hz.1, hz.2, if_pos (by omega)]
    · rw [if_neg hz]
      have hne : ¬ F * qP P + r = 0 := by
        intro h0
        apply hz
        have : F * qP P = 0 := by omega
        rcases Int.mul_eq_zero.1 this with h1 | h1
        · exact ⟨h1, by omega⟩
        · omega
      rw [if_neg hne, if_neg (by omega), if_pos (by omega)]
/-- the number of an operand, by field and fraction -/
theorem opK_parts {E P X : Int} (h : Fmt E P) (x0 : 0 ≤ X) (x1 : X < 2 * signOf E P) (hk : kindOf E P X = 2) :
    opK E P X = sgM (negOf E P X) (if fdW E P X = 0 then frW P X else (qP P + frW P X) * 2 ^ (fdW E P X - 1).toNat) := by
  have hsz := siz_parts h x0 x1
  obtain ⟨r0, r1⟩ := fr_range P X
  obtain ⟨f0, f1⟩ := fd_range (E := E) (P := P) (X := X)
  have hq := qP_pos P
  have hfd : fieldOf P (sizW E P X) = fdW E P X := by
    show sizW E P X / qP P = _
    rw [hsz, Int.add_comm, Int.add_mul_ediv_right _ _ (by omega), Int.ediv_eq_zero_of_lt r0 r1]; omega
  unfold opK
  rw [if_pos hk]
  congr 1
  unfold magOf digOf liftOf
  rw [hfd]
  by_cases hF : fdW E P X = 0
  · rw [if_pos hF, if_neg (by omega), if_neg (by omega), hsz, hF]; simp
  · rw [if_neg hF, if_pos (by omega), if_pos (by omega), hsz]
    congr 1
    show _ - (fdW E P X - 1) * qP P = _
    rw [Int.sub_mul]; omega
theorem pow_cross {a b : Nat} {s : Int} (h : s = (b : Int) - a) : (2 : Int) ^ s.toNat * 2 ^ a = 2 ^ b * 2 ^ (-s).toNat := by
  rw [← Int.pow_add, ← Int.pow_add]; congr 1; omega
end Go.Proofs.YtaeekmlnfjimjaaGreatDoor
