/-
  Rounding depends on the number alone, not on the unit in which it is counted; words of numbers have different numbers.
-/
import Derived.Test.YtebibadldcempaaGreatDoorP29A
set_option linter.unusedVariables false
set_option linter.unusedSimpArgs false
set_option linter.unusedSectionVars false
namespace Go.Proofs.YtebibadldcempaaGreatDoor
open Go.RowKit Go.Shelf Go.Canon

theorem mul_pow_ne {K : Int} (j : Nat) (h : K ≠ 0) : K * 2 ^ j ≠ 0 := Int.mul_ne_zero h (Int.ne_of_gt (p2pos j))
theorem natAbs_mul_pow (K : Int) (j : Nat) : ((K * 2 ^ j).natAbs : Int) = K.natAbs * 2 ^ j := by
  rw [Int.natAbs_mul]
  have : (((2 : Int) ^ j).natAbs : Int) = 2 ^ j := by have := p2pos j; omega
  push_cast
  rw [← this]; simp
theorem blen_mul_pow {K : Int} (j : Nat) (h : K ≠ 0) : blen (((K * 2 ^ j).natAbs : Int)) = blen (K.natAbs : Int) + j := by
  rw [natAbs_mul_pow]
  have := blen_mul (j := j) (show 0 < (K.natAbs : Int) by omega)
  exact this
theorem logI_scale (K k : Int) (j : Nat) : logI (K * 2 ^ j) (k - j) = logI K k := by
  unfold logI
  by_cases h : K = 0
  · subst h; simp
  · rw [if_neg (mul_pow_ne j h), if_neg h, blen_mul_pow j h]; push_cast; omega
theorem floorK_scale (A k : Int) (j : Nat) : floorK (A * 2 ^ j) (k - j) = floorK A k := by
  unfold floorK
  by_cases h1 : (j : Int) ≤ k
  · rw [show (-(k - (j : Int))).toNat = 0 by omega, show (-k).toNat = 0 by omega, Int.pow_zero, Int.ediv_one, Int.ediv_one, Int.mul_assoc, ← Int.pow_add]
    congr 2; omega
  · by_cases h2 : 0 ≤ k
    · rw [show (k - (j : Int)).toNat = 0 by omega, show (-k).toNat = 0 by omega, Int.pow_zero, Int.mul_one, Int.ediv_one]
      have e : (2 : Int) ^ j = 2 ^ k.toNat * 2 ^ (-(k - (j : Int))).toNat := by rw [← Int.pow_add]; congr 1; omega
      rw [e, ← Int.mul_assoc, Int.mul_ediv_cancel _ (Int.ne_of_gt (p2pos _))]
    · rw [show (k - (j : Int)).toNat = 0 by omega, show k.toNat = 0 by omega, Int.pow_zero, Int.mul_one, Int.mul_one]
      have e : (2 : Int) ^ (-(k - (j : Int))).toNat = 2 ^ (-k).toNat * 2 ^ j := by rw [← Int.pow_add]; congr 1; omega
      rw [e, Int.mul_ediv_mul_of_pos_left _ _ (p2pos j)]
theorem isI_scale (A k : Int) (j : Nat) : isI' (A * 2 ^ j) (k - j) = isI' A k := by
  unfold isI'
  congr 1
  apply propext
  by_cases h1 : (j : Int) ≤ k
  · rw [show (-(k - (j : Int))).toNat = 0 by omega, show (-k).toNat = 0 by omega, Int.pow_zero, Int.emod_one, Int.emod_one]
  · by_cases h2 : 0 ≤ k
    · rw [show (k - (j : Int)).toNat = 0 by omega, show (-k).toNat = 0 by omega, Int.pow_zero, Int.mul_one, Int.emod_one]
      have e : (2 : Int) ^ j = 2 ^ k.toNat * 2 ^ (-(k - (j : Int))).toNat := by rw [← Int.pow_add]; congr 1; omega
      rw [e, ← Int.mul_assoc, Int.mul_emod_left]
    · rw [show (k - (j : Int)).toNat = 0 by omega, show k.toNat = 0 by omega, Int.pow_zero, Int.mul_one, Int.mul_one]
      have e : (2 : Int) ^ (-(k - (j : Int))).toNat = 2 ^ (-k).toNat * 2 ^ j := by rw [← Int.pow_add]; congr 1; omega
      rw [e, Int.mul_comm A, Int.mul_comm (2 ^ (-k).toNat), Int.mul_emod_mul_of_pos _ _ (p2pos j), Int.mul_comm]
      have := p2pos j
      constructor
      · intro h
        rcases Int.mul_eq_zero.1 h with h | h
        · exact h
        · omega
      · intro h; rw [h, Int.zero_mul]
theorem stepOf_scale (E P K k : Int) (j : Nat) : stepOf E P (K * 2 ^ j) (k - j) = stepOf E P K k := by
  by_cases h : K = 0
  · subst h; unfold stepOf; simp
  · rw [stepOf_nz h, stepOf_nz (mul_pow_ne j h), logI_scale]
theorem rD_scale (E P K k : Int) (j : Nat) : rD E P (K * 2 ^ j) (k - j) = rD E P K k := by
  unfold rD
  rw [stepOf_scale, natAbs_mul_pow, show k - (j : Int) + (1 - stepOf E P K k) = (k + (1 - stepOf E P K k)) - j by omega, floorK_scale]
theorem rR_scale (E P K k : Int) (j : Nat) : rR E P (K * 2 ^ j) (k - j) = rR E P K k := by
  unfold rR restF
  rw [stepOf_scale, natAbs_mul_pow, show k - (j : Int) + (1 - stepOf E P K k) = (k + (1 - stepOf E P K k)) - j by omega, floorK_scale, isI_scale]
theorem neg_scale (K : Int) (j : Nat) : decide (K * 2 ^ j < 0) = decide (K < 0) := by
  have hp := p2pos j
  congr 1
  apply propext
  constructor
  · intro h
    apply Classical.byContradiction
    intro hn
    have := Int.mul_nonneg (show 0 ≤ K by omega) (Int.le_of_lt hp)
    omega
  · intro h; exact Int.mul_neg_of_neg_of_pos h hp
theorem sizeU_scale (E P m K k : Int) (j : Nat) : sizeU E P m (K * 2 ^ j) (k - j) = sizeU E P m K k := by
  unfold sizeU sizeR upR tO
  rw [rD_scale, rR_scale, logI_scale, neg_scale]
theorem neg_scale' (K : Int) (j : Nat) : (K * 2 ^ j < 0) ↔ (K < 0) := by
  have := neg_scale K j
  exact decide_eq_decide.1 this
theorem rndW_scale (E P m K k : Int) (j : Nat) : rndW E P m (K * 2 ^ j) (k - j) = rndW E P m K k := by
  unfold rndW
  rw [logI_scale, sizeU_scale, neg_scale]
  by_cases h : K = 0
  · subst h; simp
  · rw [if_neg h, if_neg (mul_pow_ne j h)]
    simp only [neg_scale']
theorem rndF_scale (E P m K k : Int) (j : Nat) : rndF E P m (K * 2 ^ j) (k - j) = rndF E P m K k := by
  unfold rndF
  rw [logI_scale, sizeU_scale, rR_scale]
  by_cases h : K = 0
  · subst h; simp
  · rw [if_neg h, if_neg (mul_pow_ne j h)]
theorem rnd_unit {E P m K k u : Int} (h : u ≤ k) : rndW E P m (K * 2 ^ (k - u).toNat) u = rndW E P m K k ∧ rndF E P m (K * 2 ^ (k - u).toNat) u = rndF E P m K k := by
  have h1 := rndW_scale E P m K k (k - u).toNat
  have h2 := rndF_scale E P m K k (k - u).toNat
  rw [show k - ((k - u).toNat : Int) = u by omega] at h1 h2
  exact ⟨h1, h2⟩

/-! words of numbers -/
theorem mag_parts {P s : Int} (hP : 2 ≤ P) (h0 : 0 ≤ s) : ∃ (f r : Int), s = f * 2 ^ (P - 1).toNat + r ∧ 0 ≤ f ∧ 0 ≤ r ∧ r < 2 ^ (P - 1).toNat ∧ magOf P s = if f = 0 then r else (2 ^ (P - 1).toNat + r) * 2 ^ (f - 1).toNat := by
  have hp := p2pos (P - 1).toNat
  have h1 := Int.mul_ediv_add_emod s (2 ^ (P - 1).toNat)
  have h2 := Int.emod_nonneg s (Int.ne_of_gt hp)
  have h3 := Int.emod_lt_of_pos s hp
  have h4 : 0 ≤ s / 2 ^ (P - 1).toNat := Int.ediv_nonneg h0 (Int.le_of_lt hp)
  refine ⟨s / 2 ^ (P - 1).toNat, s % 2 ^ (P - 1).toNat, ?_, h4, h2, h3, ?_⟩
  · rw [Int.mul_comm]; omega
  · unfold magOf liftOf digOf fieldOf
    generalize s / 2 ^ (P - 1).toNat = f at *
    generalize s % 2 ^ (P - 1).toNat = r at *
    generalize (2 : Int) ^ (P - 1).toNat = p at *
    by_cases hf : f = 0
    · subst hf
      rw [if_neg (by omega), if_neg (by omega), if_pos rfl]
      simp at h1 ⊢
      omega
    · rw [if_pos (by omega), if_pos (by omega), if_neg hf]
      congr 1
      rw [Int.sub_mul, Int.mul_comm f p]
      omega
theorem mag_lt {P s t : Int} (hP : 2 ≤ P) (h0 : 0 ≤ s) (h1 : s < t) : magOf P s < magOf P t := by
  obtain ⟨f, r, rfl, f0, r0, r1, e1⟩ := mag_parts hP h0
  obtain ⟨g, q, rfl, g0, q0, q1, e2⟩ := mag_parts hP (show 0 ≤ t by omega)
  have hp := p2pos (P - 1).toNat
  rw [e1, e2]
  generalize (2 : Int) ^ (P - 1).toNat = p at *
  have hfg : f ≤ g := by
    apply Classical.byContradiction
    intro hn
    have : (g + 1) * p ≤ f * p := Int.mul_le_mul_of_nonneg_right (by omega) (by omega)
    rw [Int.add_mul, Int.one_mul] at this
    omega
  by_cases hg : g = 0
  · subst hg
    obtain rfl : f = 0 := by omega
    rw [if_pos rfl, if_pos rfl]; omega
  · rw [if_neg hg]
    have hpg := p2pos (g - 1).toNat
    have b2 : p * 2 ^ (g - 1).toNat ≤ (p + q) * 2 ^ (g - 1).toNat := Int.mul_le_mul_of_nonneg_right (by omega) (by omega)
    by_cases hf : f = 0
    · rw [if_pos hf]
      have := Int.mul_le_mul_of_nonneg_left (show (1 : Int) ≤ 2 ^ (g - 1).toNat from hpg) (show 0 ≤ p by omega)
      omega
    · rw [if_neg hf]
      by_cases hfg2 : f = g
      · subst hfg2
        exact Int.mul_lt_mul_of_pos_right (by omega) hpg
      · have e : (2 : Int) ^ (g - 1).toNat = 2 ^ (g - 1 - f).toNat * (2 * 2 ^ (f - 1).toNat) := by
          rw [← Int.mul_assoc, Int.mul_comm (2 ^ _) 2, Int.mul_assoc, ← Int.pow_add, show (g - 1 - f).toNat + (f - 1).toNat = (g - 1).toNat - 1 by omega, Int.mul_comm, ← Int.pow_succ]
          congr 1; omega
        have hpf := p2pos (f - 1).toNat
        have b1 : (p + r) * 2 ^ (f - 1).toNat < (2 * p) * 2 ^ (f - 1).toNat := Int.mul_lt_mul_of_pos_right (by omega) hpf
        have b3 : (2 * p) * 2 ^ (f - 1).toNat ≤ p * 2 ^ (g - 1).toNat := by
          rw [e]
          have := Int.mul_le_mul_of_nonneg_right (show (1 : Int) ≤ 2 ^ (g - 1 - f).toNat from p2pos _) (show (0 : Int) ≤ 2 * 2 ^ (f - 1).toNat by omega)
          have h5 := Int.mul_le_mul_of_nonneg_left this (show 0 ≤ p by omega)
          rw [Int.one_mul] at h5
          rw [Int.mul_comm 2 p, Int.mul_assoc]
          exact h5
        omega
theorem mag_inj {P s t : Int} (hP : 2 ≤ P) (h0 : 0 ≤ s) (h1 : 0 ≤ t) (h : magOf P s = magOf P t) : s = t := by
  rcases Int.lt_trichotomy s t with h2 | h2 | h2
  · have := mag_lt hP h0 h2; omega
  · exact h2
  · have := mag_lt hP h1 h2; omega
theorem mag_pos {P s : Int} (hP : 2 ≤ P) (h0 : 0 < s) : 0 < magOf P s := by
  have h1 := mag_lt hP (Int.le_refl 0) h0
  have h2 : magOf P 0 = 0 := by unfold magOf digOf fieldOf; simp
  omega
/-- a finite word, by its number -/
theorem word_inj {E P X Y : Int} (h : Fmt E P) (x0 : 0 ≤ X) (y0 : 0 ≤ Y) (kx : kindOf E P X = 2) (ky : kindOf E P Y = 2) (he : opK E P X = opK E P Y) : X = Y := by
  have sx := kind_two kx
  have sy := kind_two ky
  have hsg := sign_range h
  have zx : 0 < sizW E P X := by
    have : 0 ≤ sizW E P X := by unfold sizW sizeOf'; split <;> omega
    have hz : sizW E P X ≠ 0 := fun hz => by unfold kindOf at kx; rw [if_pos hz] at kx; omega
    omega
  have zy : 0 < sizW E P Y := by
    have : 0 ≤ sizW E P Y := by unfold sizW sizeOf'; split <;> omega
    have hz : sizW E P Y ≠ 0 := fun hz => by unfold kindOf at ky; rw [if_pos hz] at ky; omega
    omega
  have mx := mag_pos h.2.2.1 zx
  have my := mag_pos h.2.2.1 zy
  unfold opK at he
  rw [if_pos kx, if_pos ky] at he
  have hs : magOf P (sizW E P X) = magOf P (sizW E P Y) ∧ negOf E P X = negOf E P Y := by
    unfold sgM at he
    cases hx : negOf E P X <;> cases hy : negOf E P Y <;> rw [hx, hy] at he <;> simp at he <;> first | exact ⟨by omega, rfl⟩ | omega
  have hz := mag_inj h.2.2.1 (by omega) (by omega) hs.1
  have hn := hs.2
  unfold negOf at hn
  have hn := decide_eq_decide.1 hn
  unfold sizW sizeOf' at hz
  split at hz <;> split at hz <;> omega
end Go.Proofs.YtebibadldcempaaGreatDoor
