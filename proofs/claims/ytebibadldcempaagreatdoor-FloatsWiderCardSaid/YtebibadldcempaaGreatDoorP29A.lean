/-
  What rounding does with numbers in units of the least value: which value it is, and how far; which sums differ from it by a value.
-/
import Derived.Test.YtebibadldcempaaGreatDoorP26B
set_option linter.unusedVariables false
set_option linter.unusedSimpArgs false
set_option linter.unusedSectionVars false
namespace Go.Proofs.YtebibadldcempaaGreatDoor
open Go.RowKit Go.Shelf Go.Canon

/-- the size of a word made of a field and digits -/
theorem mag_lin {P c : Int} {s : Nat} (hP : 2 ≤ P) (c0 : 0 ≤ c) (c1 : c ≤ 2 ^ P.toNat) (h : 0 < s → 2 ^ (P - 1).toNat ≤ c) : magOf P (s * 2 ^ (P - 1).toNat + c) = c * 2 ^ s := by
  have hpp := p2pos (P - 1).toNat
  have hP2 : (2 : Int) ^ P.toNat = 2 * 2 ^ (P - 1).toNat := by
    rw [show P.toNat = (P - 1).toNat + 1 by omega, Int.pow_succ]; omega
  rw [hP2] at c1
  unfold magOf liftOf digOf fieldOf
  generalize (2 : Int) ^ (P - 1).toNat = p at *
  have hf : ((s : Int) * p + c) / p = s + c / p := by
    rw [Int.add_comm, Int.add_mul_ediv_right _ _ (Int.ne_of_gt hpp)]; omega
  rw [hf]
  by_cases h1 : c < p
  · have hs : s = 0 := by
      apply Classical.byContradiction
      intro hs
      have := h (by omega)
      omega
    subst hs
    have hz : c / p = 0 := Int.ediv_eq_zero_of_lt c0 h1
    rw [hz]
    simp
  · by_cases h2 : c < 2 * p
    · have h3 : c / p < 2 := Int.ediv_lt_of_lt_mul hpp h2
      have h4 : 1 ≤ c / p := Int.le_ediv_of_mul_le hpp (by omega)
      rw [show c / p = 1 by omega, if_pos (by omega), if_pos (by omega), show (s : Int) + 1 - 1 = s by omega, Int.toNat_natCast]
      congr 1
      omega
    · have hc : c = 2 * p := by omega
      subst hc
      have h3 : 2 * p / p = 2 := Int.mul_ediv_cancel _ (Int.ne_of_gt hpp)
      rw [h3, if_pos (by omega), if_pos (by omega), show (s : Int) + 2 - 1 = s + 1 by omega, show ((s : Int) + 1).toNat = s + 1 by omega, Int.pow_succ, Int.add_mul, Int.one_mul]
      have e : (s : Int) * p + 2 * p - (s * p + p) = p := by omega
      rw [e, Int.mul_comm (2 ^ s) 2, ← Int.mul_assoc, Int.mul_comm p 2]

/-- how many bits are cut off -/
def cutN (P D : Int) : Nat := (overF P (blen D.natAbs)).toNat
theorem cutN_eq {P D : Int} : overF P (blen D.natAbs) = cutN P D := by
  unfold cutN overF; split <;> omega
def remN (P D : Int) : Int := (D.natAbs : Int) % 2 ^ cutN P D
def quoN (P D : Int) : Int := (D.natAbs : Int) / 2 ^ cutN P D
theorem remN_range (P D : Int) : 0 ≤ remN P D ∧ remN P D < 2 ^ cutN P D := ⟨Int.emod_nonneg _ (Int.ne_of_gt (p2pos _)), Int.emod_lt_of_pos _ (p2pos _)⟩
theorem quoN_eq (P D : Int) : (D.natAbs : Int) = quoN P D * 2 ^ cutN P D + remN P D := by
  have := Int.mul_ediv_add_emod (D.natAbs : Int) (2 ^ cutN P D)
  unfold quoN remN
  rw [Int.mul_comm] at this
  omega
theorem quoN_range {P D : Int} (hP : 2 ≤ P) (h0 : D ≠ 0) : 0 < quoN P D ∧ quoN P D < 2 ^ P.toNat ∧ (0 < cutN P D → 2 ^ (P - 1).toNat ≤ quoN P D) := by
  have hp : 0 < (D.natAbs : Int) := by omega
  obtain ⟨b1, b2, b3⟩ := blen_spec hp
  have hc := @cutN_eq P D
  unfold overF at hc
  unfold quoN
  generalize cutN P D = s at *
  generalize blen (D.natAbs : Int) = n at *
  generalize (D.natAbs : Int) = a at *
  split at hc
  · rename_i hn
    obtain rfl : s = 0 := by omega
    rw [Int.pow_zero, Int.ediv_one]
    have := pow_split (show n ≤ P.toNat by omega)
    have h2 := Int.mul_le_mul_of_nonneg_right (show (1 : Int) ≤ 2 ^ (P.toNat - n) from p2pos _) (Int.le_of_lt (p2pos n))
    exact ⟨hp, by omega, fun h => by omega⟩
  · rename_i hn
    have e1 : n = s + P.toNat := by omega
    have e2 : n - 1 = s + (P - 1).toNat := by omega
    rw [e2, Int.pow_add] at b1
    rw [e1, Int.pow_add] at b2
    have h1 : 2 ^ (P - 1).toNat ≤ a / 2 ^ s := Int.le_ediv_of_mul_le (p2pos s) (by rw [Int.mul_comm]; exact b1)
    have h2 : a / 2 ^ s < 2 ^ P.toNat := Int.ediv_lt_of_lt_mul (p2pos s) (by rw [Int.mul_comm]; exact b2)
    have := p2pos (P - 1).toNat
    exact ⟨by omega, h2, fun _ => h1⟩

/-- halves of a step -/
theorem floor_half (a : Int) (s : Nat) (ha : 0 ≤ a) : floorK a (1 - (s : Int)) / 2 = a / 2 ^ s ∧ restF a (1 - (s : Int)) = (if a % 2 ^ s = 0 then 0 else if 2 * (a % 2 ^ s) < 2 ^ s then 1 else if 2 * (a % 2 ^ s) = 2 ^ s then 2 else 3) := by
  unfold restF floorK isI'
  cases s with
  | zero =>
    have e1 : (1 - ((0 : Nat) : Int)).toNat = 1 := rfl
    have e2 : (-(1 - ((0 : Nat) : Int))).toNat = 0 := rfl
    rw [e1, e2]
    simp only [Int.pow_zero, Int.ediv_one, Int.emod_one, Int.pow_succ, Int.one_mul]
    refine ⟨by omega, ?_⟩
    rw [if_neg (by omega)]
    simp
  | succ t =>
    rw [show (1 - ((t + 1 : Nat) : Int)).toNat = 0 by omega, show (-(1 - ((t + 1 : Nat) : Int))).toNat = t by omega, Int.pow_zero, Int.mul_one]
    have ht := p2pos t
    have e : a / 2 ^ t / 2 = a / 2 ^ (t + 1) := by rw [Int.ediv_ediv_of_nonneg (Int.le_of_lt ht), Int.pow_succ]
    refine ⟨e, ?_⟩
    have q1 := Int.mul_ediv_add_emod a (2 ^ t)
    have q2 := Int.emod_nonneg a (Int.ne_of_gt ht)
    have q3 := Int.emod_lt_of_pos a ht
    have q4 := Int.mul_ediv_add_emod a (2 ^ (t + 1))
    have q5 := Int.mul_ediv_add_emod (a / 2 ^ t) 2
    rw [e] at q5
    rw [Int.pow_succ] at q4 ⊢
    -- r = half + low
    have q6 : a % (2 ^ t * 2) = (a / 2 ^ t % 2) * 2 ^ t + a % 2 ^ t := by
      have e3 : (2 : Int) ^ t * (a / 2 ^ t) = 2 ^ t * (2 * (a / (2 ^ t * 2))) + 2 ^ t * (a / 2 ^ t % 2) := by
        rw [← Int.mul_add]; congr 1
        rw [Int.pow_succ] at q5
        omega
      rw [Int.mul_comm (a / 2 ^ t % 2)]
      have e4 : (2 : Int) ^ t * 2 * (a / (2 ^ t * 2)) = 2 ^ t * (2 * (a / (2 ^ t * 2))) := Int.mul_assoc _ _ _
      omega
    rw [q6]
    have hb : a / 2 ^ t % 2 = 0 ∨ a / 2 ^ t % 2 = 1 := by omega
    generalize a % 2 ^ t = l at *
    rcases hb with hb | hb
    · rw [hb, Int.zero_mul, Int.zero_add, if_neg (by omega)]
      by_cases hl : l = 0
      · rw [decide_eq_true hl, if_pos rfl, if_pos hl]; rfl
      · rw [decide_eq_false hl, if_neg hl, if_neg (by decide), if_pos (by omega)]; rfl
    · rw [hb, Int.one_mul, if_pos rfl, if_neg (show ¬ (2 : Int) ^ t + l = 0 by omega), if_neg (show ¬ 2 * ((2 : Int) ^ t + l) < 2 ^ t * 2 by omega)]
      by_cases hl : l = 0
      · rw [decide_eq_true hl, if_pos rfl, if_pos (by omega)]; rfl
      · rw [decide_eq_false hl, if_neg (by decide), if_neg (by omega)]; rfl
theorem cut_arg {E P D : Int} (h0 : D ≠ 0) : fineOf E P + (1 - stepOf E P D (fineOf E P)) = 1 - (cutN P D : Int) := by
  rw [step_fine h0, cutN_eq]; omega
theorem rD_fine {E P D : Int} (h0 : D ≠ 0) : rD E P D (fineOf E P) = quoN P D := by
  unfold rD
  rw [cut_arg h0]
  exact (floor_half _ _ (by omega)).1
theorem rR_fine {E P D : Int} (h0 : D ≠ 0) : rR E P D (fineOf E P) = (if remN P D = 0 then 0 else if 2 * remN P D < 2 ^ cutN P D then 1 else if 2 * remN P D = 2 ^ cutN P D then 2 else 3) := by
  unfold rR
  rw [cut_arg h0]
  exact (floor_half _ _ (by omega)).2
/-- the multiple of the step that is chosen -/
def mulN (E P m D : Int) : Int := quoN P D + (if upR E P m D (fineOf E P) = true then 1 else 0)
theorem sizeU_fine {E P m D : Int} (h0 : D ≠ 0) : sizeU E P m D (fineOf E P) = cutN P D * 2 ^ (P - 1).toNat + mulN E P m D := by
  unfold sizeU sizeR mulN
  rw [rD_fine h0, tO_fine h0, cutN_eq]
  omega
/-- **The value to which a number is rounded**, if it isn't infinite. -/
theorem rnd_val {E P m D : Int} (h : Fmt E P) (h0 : D ≠ 0) (hbig : ¬ logI D (fineOf E P) > biasOf E) (hlt : sizeU E P m D (fineOf E P) < infOf E P) :
    (0 ≤ rndW E P m D (fineOf E P) ∧ rndW E P m D (fineOf E P) < 2 * signOf E P) ∧ kindOf E P (rndW E P m D (fineOf E P)) = 2 ∧ opK E P (rndW E P m D (fineOf E P)) = sgM (decide (D < 0)) (mulN E P m D * 2 ^ cutN P D) ∧
    negOf E P (rndW E P m D (fineOf E P)) = decide (D < 0) ∧ sizW E P (rndW E P m D (fineOf E P)) = sizeU E P m D (fineOf E P) := by
  have hinf := inf_range h
  have hsg := sign_range h
  obtain ⟨q0, q1, q2⟩ := quoN_range (D := D) h.2.2.1 h0
  have hm0 : 0 < mulN E P m D := by unfold mulN; split <;> omega
  have hm1 : mulN E P m D ≤ 2 ^ P.toNat := by unfold mulN; split <;> omega
  have hm2 : 0 < cutN P D → 2 ^ (P - 1).toNat ≤ mulN E P m D := fun hc => by have := q2 hc; unfold mulN; split <;> omega
  have hmag := mag_lin (s := cutN P D) h.2.2.1 (Int.le_of_lt hm0) hm1 hm2
  have hsz := sizeU_fine (E := E) (P := P) (m := m) h0
  have hspos : 0 < sizeU E P m D (fineOf E P) := by rw [hsz]; have := Int.mul_nonneg (show (0 : Int) ≤ cutN P D by omega) (Int.le_of_lt (p2pos (P - 1).toNat)); omega
  have hinfS : infOf E P < signOf E P := hinf.2.1
  have hW : rndW E P m D (fineOf E P) = sizeU E P m D (fineOf E P) + (if D < 0 then signOf E P else 0) := by unfold rndW; rw [if_neg h0, if_neg hbig, if_pos hlt]
  have hsiz : sizW E P (rndW E P m D (fineOf E P)) = sizeU E P m D (fineOf E P) := by
    rw [hW]
    unfold sizW sizeOf'
    by_cases hn : D < 0
    · rw [if_pos hn, if_neg (by omega)]; omega
    · rw [if_neg hn, if_pos (by omega)]; omega
  have hk : kindOf E P (rndW E P m D (fineOf E P)) = 2 := by
    unfold kindOf; rw [hsiz, if_neg (by omega), if_neg (by omega), if_pos hlt]
  have hneg : negOf E P (rndW E P m D (fineOf E P)) = decide (D < 0) := by
    unfold negOf
    rw [hW]
    congr 1
    apply propext
    by_cases hn : D < 0
    · rw [if_pos hn]; exact ⟨fun _ => hn, fun _ => by omega⟩
    · rw [if_neg hn]; exact ⟨fun _ => by omega, fun h => absurd h hn⟩
  refine ⟨?_, hk, ?_, hneg, hsiz⟩
  · rw [hW]; split <;> omega
  · unfold opK
    rw [if_pos hk, hsiz, hneg, hsz, hmag]
/-- beyond the greatest value: an infinity, or the greatest value itself -/
theorem rnd_over {E P m D : Int} (h0 : D ≠ 0) (ho : logI D (fineOf E P) > biasOf E ∨ ¬ sizeU E P m D (fineOf E P) < infOf E P) : rndW E P m D (fineOf E P) = ovW E P m (decide (D < 0)) ∧ rndF E P m D (fineOf E P) = 20 := by
  by_cases hbig : logI D (fineOf E P) > biasOf E
  · unfold rndW rndF; rw [if_neg h0, if_pos hbig, if_neg h0, if_pos hbig]; exact ⟨rfl, rfl⟩
  · have hlt : ¬ sizeU E P m D (fineOf E P) < infOf E P := ho.resolve_left hbig
    unfold rndW rndF; rw [if_neg h0, if_neg hbig, if_neg hlt, if_neg h0, if_neg hbig, if_neg hlt]; exact ⟨rfl, rfl⟩
theorem rnd_flag {E P m D : Int} (h0 : D ≠ 0) (hbig : ¬ logI D (fineOf E P) > biasOf E) (hlt : sizeU E P m D (fineOf E P) < infOf E P) : rndF E P m D (fineOf E P) = 0 ↔ remN P D = 0 := by
  unfold rndF
  rw [if_neg h0, if_neg hbig, if_pos hlt, rR_fine h0]
  by_cases hr : remN P D = 0
  · rw [if_pos hr, if_pos rfl]; exact ⟨fun _ => hr, fun _ => rfl⟩
  · rw [if_neg hr]
    constructor
    · intro hf
      exfalso
      have hne : (if 2 * remN P D < 2 ^ cutN P D then (1 : Int) else if 2 * remN P D = 2 ^ cutN P D then 2 else 3) ≠ 0 := by
        split
        · decide
        · split <;> decide
      rw [if_neg hne] at hf
      split at hf <;> omega
    · intro hf; exact absurd hf hr

/-! the mode RnEven -/
theorem even_up {E P D : Int} (h0 : D ≠ 0) : (upR E P 0 D (fineOf E P) = true → 2 ^ cutN P D ≤ 2 * remN P D ∧ remN P D ≠ 0) ∧ (upR E P 0 D (fineOf E P) = false → 2 * remN P D ≤ 2 ^ cutN P D) := by
  have hm : modeOf 0 (decide (D < 0)) = 0 := by unfold modeOf; cases decide (D < 0) <;> simp
  unfold upR
  rw [hm, rR_fine h0]
  unfold upOf
  rw [if_neg (by decide), if_pos rfl]
  have hp := p2pos (cutN P D)
  by_cases c1 : remN P D = 0
  · rw [if_pos c1]
    simp
    omega
  · rw [if_neg c1]
    by_cases c2 : 2 * remN P D < 2 ^ cutN P D
    · rw [if_pos c2]; simp; omega
    · rw [if_neg c2]
      by_cases c3 : 2 * remN P D = 2 ^ cutN P D
      · rw [if_pos c3]
        exact ⟨fun _ => ⟨by omega, c1⟩, fun _ => by omega⟩
      · rw [if_neg c3]
        simp
        exact ⟨by omega, c1⟩
/-- what is chosen, as a size -/
def nrN (E P D : Int) : Int := mulN E P 0 D * 2 ^ cutN P D
/-- no multiple of the step is nearer -/
theorem even_near {E P D : Int} (h0 : D ≠ 0) (j : Int) : (((D.natAbs : Int) - nrN E P D).natAbs : Int) ≤ ((D.natAbs : Int) - j * 2 ^ cutN P D).natAbs := by
  have hq := quoN_eq P D
  have hr := remN_range P D
  obtain ⟨u1, u2⟩ := even_up (E := E) (P := P) h0
  unfold nrN mulN
  generalize (D.natAbs : Int) = a at *
  generalize quoN P D = q at *
  generalize remN P D = r at *
  have hp := p2pos (cutN P D)
  generalize (2 : Int) ^ cutN P D = w at *
  have hj : j ≤ q ∨ q + 1 ≤ j := by omega
  have m1 : j ≤ q → j * w ≤ q * w := fun h => Int.mul_le_mul_of_nonneg_right h (by omega)
  have m2 : q + 1 ≤ j → (q + 1) * w ≤ j * w := fun h => Int.mul_le_mul_of_nonneg_right h (by omega)
  rw [Int.add_mul, Int.one_mul] at m2
  cases hu : upR E P 0 D (fineOf E P)
  · have := u2 hu
    rw [if_neg (by decide), Int.add_zero]
    rcases hj with h | h
    · have := m1 h; omega
    · have := m2 h; omega
  · have := u1 hu
    rw [if_pos rfl, Int.add_mul, Int.one_mul]
    rcases hj with h | h
    · have := m1 h; omega
    · have := m2 h; omega
/-- exact if and only if nothing is left -/
theorem even_exact {E P D : Int} (h0 : D ≠ 0) : nrN E P D = D.natAbs ↔ remN P D = 0 := by
  have hq := quoN_eq P D
  have hr := remN_range P D
  obtain ⟨u1, u2⟩ := even_up (E := E) (P := P) h0
  unfold nrN mulN
  cases hu : upR E P 0 D (fineOf E P)
  · rw [if_neg (by decide), Int.add_zero]; omega
  · have := u1 hu
    rw [if_pos rfl, Int.add_mul, Int.one_mul]; omega
/-- no value is nearer -/
theorem even_value {E P D z d : Int} {e : Nat} (h : Fmt E P) (h0 : D ≠ 0) (hz : (z.natAbs : Int) = d * 2 ^ e) (hd : d < 2 ^ P.toNat) : (((D.natAbs : Int) - nrN E P D).natAbs : Int) ≤ ((D.natAbs : Int) - z).natAbs := by
  by_cases hc : cutN P D ≤ e
  · obtain ⟨j, rfl⟩ := Nat.exists_eq_add_of_le hc
    have e1 : (z.natAbs : Int) = (d * 2 ^ j) * 2 ^ cutN P D := by rw [hz, Int.mul_assoc, ← Int.pow_add]; congr 2; omega
    by_cases hn : 0 ≤ z
    · have := even_near (E := E) (P := P) h0 (d * 2 ^ j)
      rw [← e1] at this
      omega
    · have := even_near (E := E) (P := P) h0 (-(d * 2 ^ j))
      rw [Int.neg_mul, ← e1] at this
      omega
  · obtain ⟨q0, q1, q2⟩ := quoN_range (D := D) h.2.2.1 h0
    have hq := quoN_eq P D
    have hr := remN_range P D
    have q3 := q2 (by omega)
    have n1 := even_near (E := E) (P := P) h0 (2 ^ (P - 1).toNat)
    have hP := h.2.2.1
    have e1 : (z.natAbs : Int) ≤ 2 ^ (P - 1).toNat * 2 ^ cutN P D := by
      rw [hz, ← Int.pow_add]
      have h1 : d * 2 ^ e ≤ 2 ^ P.toNat * 2 ^ e := Int.mul_le_mul_of_nonneg_right (by omega) (Int.le_of_lt (p2pos e))
      rw [← Int.pow_add] at h1
      have h2 := pow_split (show P.toNat + e ≤ (P - 1).toNat + cutN P D by omega)
      have h3 := Int.mul_le_mul_of_nonneg_right (show (1 : Int) ≤ 2 ^ ((P - 1).toNat + cutN P D - (P.toNat + e)) from p2pos _) (Int.le_of_lt (p2pos (P.toNat + e)))
      omega
    have e2 : (2 : Int) ^ (P - 1).toNat * 2 ^ cutN P D ≤ quoN P D * 2 ^ cutN P D := Int.mul_le_mul_of_nonneg_right q3 (Int.le_of_lt (p2pos _))
    omega
/-- **What a sum of values differs by, if it is rounded to the nearest value, has the form of a value.** -/
theorem err_form {E P K L dk dl : Int} {ek el : Nat} (h : Fmt E P) (h0 : K + L ≠ 0) (hK : (K.natAbs : Int) = dk * 2 ^ ek) (hL : (L.natAbs : Int) = dl * 2 ^ el) (k1 : dk < 2 ^ P.toNat) (l1 : dl < 2 ^ P.toNat) :
    ∃ (d : Int) (e : Nat), ((((K + L).natAbs : Int) - nrN E P (K + L)).natAbs : Int) = d * 2 ^ e ∧ d < 2 ^ P.toNat ∧ (((((K + L).natAbs : Int) - nrN E P (K + L)).natAbs : Int) ≤ K.natAbs ∧ ((((K + L).natAbs : Int) - nrN E P (K + L)).natAbs : Int) ≤ L.natAbs) := by
  have bK : ((((K + L).natAbs : Int) - nrN E P (K + L)).natAbs : Int) ≤ L.natAbs := by
    by_cases hn : 0 ≤ K + L
    · have := even_value (E := E) (P := P) (D := K + L) (z := K) h h0 hK k1; omega
    · have := even_value (E := E) (P := P) (D := K + L) (z := -K) (d := dk) (e := ek) h h0 (by omega) k1; omega
  have bL : ((((K + L).natAbs : Int) - nrN E P (K + L)).natAbs : Int) ≤ K.natAbs := by
    by_cases hn : 0 ≤ K + L
    · have := even_value (E := E) (P := P) (D := K + L) (z := L) h h0 hL l1; omega
    · have := even_value (E := E) (P := P) (D := K + L) (z := -L) (d := dl) (e := el) h h0 (by omega) l1; omega
  -- a multiple of both units
  have key : ∀ e : Nat, e ≤ ek → e ≤ el → ∃ j : Int, (((K + L).natAbs : Int) - nrN E P (K + L)) = j * 2 ^ e := by
    intro e h1 h2
    obtain ⟨u, hu⟩ : ∃ u : Int, K = u * 2 ^ e := by
      have e1 := pow_split h1
      by_cases hn : 0 ≤ K
      · exact ⟨dk * 2 ^ (ek - e), by rw [Int.mul_assoc, ← e1]; omega⟩
      · exact ⟨-(dk * 2 ^ (ek - e)), by rw [Int.neg_mul, Int.mul_assoc, ← e1]; omega⟩
    obtain ⟨v, hv⟩ : ∃ v : Int, L = v * 2 ^ e := by
      have e1 := pow_split h2
      by_cases hn : 0 ≤ L
      · exact ⟨dl * 2 ^ (el - e), by rw [Int.mul_assoc, ← e1]; omega⟩
      · exact ⟨-(dl * 2 ^ (el - e)), by rw [Int.neg_mul, Int.mul_assoc, ← e1]; omega⟩
    obtain ⟨t, ht⟩ : ∃ t : Int, ((K + L).natAbs : Int) = t * 2 ^ e := by
      have hs : K + L = (u + v) * 2 ^ e := by rw [hu, hv, Int.add_mul]
      by_cases hn : 0 ≤ K + L
      · exact ⟨u + v, by rw [← hs]; omega⟩
      · exact ⟨-(u + v), by rw [Int.neg_mul, ← hs]; omega⟩
    by_cases hc : e ≤ cutN P (K + L)
    · refine ⟨t - mulN E P 0 (K + L) * 2 ^ (cutN P (K + L) - e), ?_⟩
      unfold nrN
      rw [Int.sub_mul, ← ht, pow_split hc, Int.mul_assoc]
    · have hr : remN P (K + L) = 0 := by
        unfold remN
        rw [ht, pow_split (show cutN P (K + L) ≤ e by omega), ← Int.mul_assoc]
        exact Int.mul_emod_left _ _
      refine ⟨0, ?_⟩
      rw [(even_exact h0).2 hr]; omega
  by_cases hab : ek ≤ el
  · obtain ⟨j, hj⟩ := key ek (Nat.le_refl _) hab
    have e1 : ((((K + L).natAbs : Int) - nrN E P (K + L)).natAbs : Int) = (j.natAbs : Int) * 2 ^ ek := by
      rw [hj, Int.natAbs_mul]
      have : (((2 : Int) ^ ek).natAbs : Int) = 2 ^ ek := by have := p2pos ek; omega
      push_cast
      rw [← this]; simp
    refine ⟨_, ek, e1, ?_, bL, bK⟩
    have : (j.natAbs : Int) ≤ dk := Int.le_of_mul_le_mul_right (a := 2 ^ ek) (by rw [← e1, ← hK]; exact bL) (p2pos ek)
    omega
  · obtain ⟨j, hj⟩ := key el (by omega) (Nat.le_refl _)
    have e1 : ((((K + L).natAbs : Int) - nrN E P (K + L)).natAbs : Int) = (j.natAbs : Int) * 2 ^ el := by
      rw [hj, Int.natAbs_mul]
      have : (((2 : Int) ^ el).natAbs : Int) = 2 ^ el := by have := p2pos el; omega
      push_cast
      rw [← this]; simp
    refine ⟨_, el, e1, ?_, bL, bK⟩
    have : (j.natAbs : Int) ≤ dl := Int.le_of_mul_le_mul_right (a := 2 ^ el) (by rw [← e1, ← hL]; exact bK) (p2pos el)
    omega
end Go.Proofs.YtebibadldcempaaGreatDoor
