/-
  What is a value is rounded to itself.
-/
import Derived.Test.YtjomebgpnokboaaGreatDoorP23
import Derived.Test.YtjomebgpnokboaaGreatDoorP25
import Derived.Test.YtjomebgpnokboaaGreatDoorP08
set_option linter.unusedVariables false
set_option linter.unusedSimpArgs false
set_option linter.unusedSectionVars false
namespace Go.Proofs.YtjomebgpnokboaaGreatDoor
open Go.RowKit Go.Shelf Go.Canon

theorem fine_eq (E P : Int) : fineOf E P = 1 - biasOf E - P + 1 := rfl
/-- the number of bits beyond the precision -/
def overF (P : Int) (n : Nat) : Int := if (n : Int) < P then 0 else n - P
theorem step_fine {E P D : Int} (h0 : D ≠ 0) : stepOf E P D (fineOf E P) = fineOf E P + overF P (blen D.natAbs) := by
  rw [stepOf_nz h0]
  have hl : logI D (fineOf E P) = blen D.natAbs - 1 + fineOf E P := by unfold logI; rw [if_neg h0]
  rw [hl, fine_eq]
  unfold overF
  split <;> split <;> omega
theorem tO_fine {E P D : Int} (h0 : D ≠ 0) : tO E D (fineOf E P) = overF P (blen D.natAbs) := by
  unfold tO
  have hl : logI D (fineOf E P) = blen D.natAbs - 1 + fineOf E P := by unfold logI; rw [if_neg h0]
  rw [hl, fine_eq]
  unfold overF
  split <;> split <;> omega
theorem pow_split {a b : Nat} (h : a ≤ b) : (2 : Int) ^ b = 2 ^ (b - a) * 2 ^ a := by rw [← Int.pow_add]; congr 1; omega
/-- digits of a multiple of its step -/
theorem floor_exact {a q : Int} {s : Nat} (h : a = q * 2 ^ s) : floorK a (1 - (s : Int)) = 2 * q ∧ isI' a (1 - (s : Int)) = true := by
  unfold floorK isI'
  cases s with
  | zero =>
    simp only [Int.pow_zero, Int.mul_one] at h
    subst h
    constructor
    · show a * 2 ^ 1 / 2 ^ 0 = 2 * a
      rw [Int.pow_zero, Int.ediv_one]; omega
    · show decide (a * 2 ^ 1 % 2 ^ 0 = 0) = true
      rw [Int.pow_zero, Int.emod_one]; rfl
  | succ t =>
    rw [show (1 - ((t + 1 : Nat) : Int)).toNat = 0 by omega, show (-(1 - ((t + 1 : Nat) : Int))).toNat = t by omega]
    rw [h, Int.pow_succ, Int.pow_zero, Int.mul_one]
    have e : q * (2 ^ t * 2) = 2 * q * 2 ^ t := by rw [Int.mul_comm (2 ^ t) 2, ← Int.mul_assoc, Int.mul_comm q 2]
    rw [e]
    exact ⟨Int.mul_ediv_cancel _ (Int.ne_of_gt (p2pos t)), decide_eq_true (Int.mul_emod_left _ _)⟩

/-- what is told of a number that is d 2^e steps of the least value -/
theorem exact_facts {E P D d : Int} {e : Nat} (h : Fmt E P) (h0 : D ≠ 0) (hd : (D.natAbs : Int) = d * 2 ^ e) (hd2 : d < 2 ^ P.toNat) :
    ∃ (q : Int) (s : Nat), (D.natAbs : Int) = q * 2 ^ s ∧ overF P (blen D.natAbs) = s ∧ 0 < q ∧ (s = 0 → q < 2 ^ P.toNat) ∧ (0 < s → 2 ^ (P - 1).toNat ≤ q ∧ q < 2 ^ P.toNat) := by
  have hp : 0 < (D.natAbs : Int) := by omega
  obtain ⟨b1, b2, b3⟩ := blen_spec hp
  obtain ⟨f1, f2, f3, f4, f5⟩ := h
  generalize hn : blen D.natAbs = n at *
  generalize ha : (D.natAbs : Int) = a at *
  obtain ⟨p, hpp⟩ : ∃ p : Nat, P = p + 1 := ⟨(P - 1).toNat, by omega⟩
  subst hpp
  rw [show ((p : Int) + 1).toNat = p + 1 by omega, show ((p : Int) + 1 - 1).toNat = p by omega] at *
  unfold overF
  by_cases hs : n < p + 1
  · refine ⟨a, 0, by simp, by rw [if_pos (by omega)]; rfl, hp, fun _ => ?_, fun h => by omega⟩
    have := pow_split (show n ≤ p + 1 by omega)
    have h2 := Int.mul_le_mul_of_nonneg_right (show (1 : Int) ≤ 2 ^ (p + 1 - n) from p2pos _) (Int.le_of_lt (p2pos n))
    omega
  · -- the lowest bits are 0
    have he : n ≤ p + 1 + e := by
      apply Classical.byContradiction
      intro hc
      have h1 : a < 2 ^ (p + 1 + e) := by
        rw [hd, Int.pow_add]; exact Int.mul_lt_mul_of_pos_right hd2 (p2pos e)
      have h2 := pow_split (show p + 1 + e ≤ n - 1 by omega)
      have h3 := Int.mul_le_mul_of_nonneg_right (show (1 : Int) ≤ 2 ^ (n - 1 - (p + 1 + e)) from p2pos _) (Int.le_of_lt (p2pos (p + 1 + e)))
      omega
    refine ⟨d * 2 ^ (e - (n - (p + 1))), n - (p + 1), ?_, by rw [if_neg (by omega)]; omega, ?_, ?_, ?_⟩
    · rw [hd, Int.mul_assoc, ← Int.pow_add]; congr 2; omega
    · have hdp : 0 < d := by
        apply Classical.byContradiction
        intro hc
        have := Int.mul_nonpos_of_nonpos_of_nonneg (show d ≤ 0 by omega) (Int.le_of_lt (p2pos e))
        omega
      exact Int.mul_pos hdp (p2pos _)
    all_goals
      have hq : a = d * 2 ^ (e - (n - (p + 1))) * 2 ^ (n - (p + 1)) := by rw [hd, Int.mul_assoc, ← Int.pow_add]; congr 2; omega
      have up : d * 2 ^ (e - (n - (p + 1))) < 2 ^ (p + 1) := by
        apply Int.lt_of_mul_lt_mul_right (a := 2 ^ (n - (p + 1))) _ (Int.le_of_lt (p2pos _))
        rw [← hq, ← Int.pow_add, show p + 1 + (n - (p + 1)) = n by omega]
        exact b2
    · intro _; exact up
    · intro _
      refine ⟨?_, up⟩
      apply Int.le_of_mul_le_mul_right (a := 2 ^ (n - (p + 1))) _ (p2pos _)
      rw [← hq, ← Int.pow_add, show p + (n - (p + 1)) = n - 1 by omega]
      exact b1

/-- **What is a value is rounded to itself**, without a flag. -/
theorem rnd_exact {E P m D d : Int} {e : Nat} (h : Fmt E P) (h0 : D ≠ 0) (hd : (D.natAbs : Int) = d * 2 ^ e) (hd2 : d < 2 ^ P.toNat) (hmax : (D.natAbs : Int) < 2 ^ (2 * biasOf E - 1 + P).toNat) :
    rndF E P m D (fineOf E P) = 0 ∧ 0 ≤ rndW E P m D (fineOf E P) ∧ rndW E P m D (fineOf E P) < 2 * signOf E P ∧ kindOf E P (rndW E P m D (fineOf E P)) = 2 ∧ opK E P (rndW E P m D (fineOf E P)) = D := by
  obtain ⟨q, s, hq, hs, q0, q1, q2⟩ := exact_facts h h0 hd hd2
  have hbr := bias_range h.1 h.2.1
  have hinf := inf_range h
  have hsg := sign_range h
  have hfl : fineOf E P = 1 - biasOf E - P + 1 := rfl
  have hl : logI D (fineOf E P) = blen D.natAbs - 1 + fineOf E P := by unfold logI; rw [if_neg h0]
  have hp : 0 < (D.natAbs : Int) := by omega
  have hle : logI D (fineOf E P) ≤ biasOf E := by
    have hb : blen D.natAbs ≤ (2 * biasOf E - 1 + P).toNat := (blen_lt (by omega)).2 hmax
    have := h.2.2.1
    rw [hl, hfl]; omega
  have hbig : ¬ logI D (fineOf E P) > biasOf E := by omega
  obtain ⟨fx1, fx2⟩ := floor_exact hq
  have hst := step_fine (E := E) (P := P) h0
  have harg : fineOf E P + (1 - stepOf E P D (fineOf E P)) = 1 - (s : Int) := by rw [hst, hs]; omega
  have hD : rD E P D (fineOf E P) = q := by unfold rD; rw [harg, fx1]; omega
  have hR : rR E P D (fineOf E P) = 0 := by
    unfold rR restF; rw [harg, fx1, fx2]
    simp
  have hT : tO E D (fineOf E P) = s := by rw [tO_fine h0, hs]
  have hup : upR E P m D (fineOf E P) = false := by
    unfold upR upOf; rw [hR]
    split
    · rfl
    · split
      · split <;> rfl
      · split <;> rfl
  have hsz : sizeU E P m D (fineOf E P) = s * 2 ^ (P - 1).toNat + q := by
    unfold sizeU sizeR; rw [hup, hT, hD]; simp
  obtain ⟨t0, s0, s1, s2⟩ := sizeR_lt (P := P) h h0 hle
  have hsR : sizeR E P D (fineOf E P) = s * 2 ^ (P - 1).toNat + q := by unfold sizeR; rw [hT, hD]
  rw [hsR] at s0 s1
  have hlt : sizeU E P m D (fineOf E P) < infOf E P := by rw [hsz]; exact s1
  have hinfS : infOf E P < signOf E P := hinf.2.1
  have hF : rndF E P m D (fineOf E P) = 0 := by unfold rndF; rw [if_neg h0, if_neg hbig, if_pos hlt, if_pos hR]
  have hW : rndW E P m D (fineOf E P) = (s * 2 ^ (P - 1).toNat + q) + (if D < 0 then signOf E P else 0) := by unfold rndW; rw [if_neg h0, if_neg hbig, if_pos hlt, hsz]
  have hspos : 0 < s * 2 ^ (P - 1).toNat + q := by have := Int.mul_nonneg (show (0 : Int) ≤ s by omega) (Int.le_of_lt (p2pos (P - 1).toNat)); omega
  have hsiz : sizW E P (rndW E P m D (fineOf E P)) = s * 2 ^ (P - 1).toNat + q := by
    rw [hW]
    unfold sizW sizeOf'
    by_cases hn : D < 0
    · rw [if_pos hn, if_neg (by omega)]; omega
    · rw [if_neg hn, if_pos (by omega)]; omega
  have hk : kindOf E P (rndW E P m D (fineOf E P)) = 2 := by
    unfold kindOf; rw [hsiz, if_neg (by omega), if_neg (by omega), if_pos s1]
  have hneg : negOf E P (rndW E P m D (fineOf E P)) = decide (D < 0) := by
    unfold negOf
    rw [hW]
    congr 1
    apply propext
    by_cases hn : D < 0
    · rw [if_pos hn]; exact ⟨fun _ => hn, fun _ => by omega⟩
    · rw [if_neg hn]; exact ⟨fun _ => by omega, fun h => absurd h hn⟩
  have hmag : magOf P (s * 2 ^ (P - 1).toNat + q) = D.natAbs := by
    have hpp := p2pos (P - 1).toNat
    have hP2 : (2 : Int) ^ P.toNat = 2 * 2 ^ (P - 1).toNat := by
      have := h.2.2.1
      rw [show P.toNat = (P - 1).toNat + 1 by omega, Int.pow_succ]; omega
    have hfield : fieldOf P (s * 2 ^ (P - 1).toNat + q) = s + q / 2 ^ (P - 1).toNat := by
      unfold fieldOf
      rw [Int.add_comm, Int.add_mul_ediv_right _ _ (Int.ne_of_gt hpp)]
      omega
    by_cases hz : s = 0
    · subst hz
      have hqq := q1 rfl
      have e1 : ((0 : Nat) : Int) * 2 ^ (P - 1).toNat + q = q := by simp
      rw [e1] at *
      have hf2 : fieldOf P q < 2 := Int.ediv_lt_of_lt_mul hpp (by omega)
      have hl0 : liftOf P q = 0 := by unfold liftOf; split <;> omega
      have hd0 : digOf P q = q := by
        unfold digOf
        split
        · rw [show fieldOf P q = 1 by omega]; simp
        · rfl
      unfold magOf
      rw [hl0, hd0, hq]; rfl
    · obtain ⟨q3, q4⟩ := q2 (by omega)
      have hqd : q / 2 ^ (P - 1).toNat = 1 := by
        have h1 : q / 2 ^ (P - 1).toNat < 2 := Int.ediv_lt_of_lt_mul hpp (by omega)
        have h2 : 1 ≤ q / 2 ^ (P - 1).toNat := Int.le_ediv_of_mul_le hpp (by omega)
        omega
      rw [hqd] at hfield
      unfold magOf liftOf digOf
      rw [hfield, if_pos (by omega), if_pos (by omega), show (s : Int) + 1 - 1 = s by omega, Int.toNat_natCast, hq]
      congr 1
      omega
  refine ⟨hF, ?_, ?_, hk, ?_⟩
  · rw [hW]; split <;> omega
  · rw [hW]; split <;> omega
  · unfold opK
    rw [if_pos hk, hsiz, hneg, hmag]
    unfold sgM
    by_cases hn : D < 0
    · rw [decide_eq_true hn]; simp; omega
    · rw [decide_eq_false hn]; simp; omega
end Go.Proofs.YtjomebgpnokboaaGreatDoor
/-
  Sub and Add of numbers: contracts. The difference of two numbers, each at most twice the other one, is a value.
-/
namespace Go.Proofs.YtjomebgpnokboaaGreatDoor
open Go.RowKit Go.Shelf Go.Canon

/-! what numbers are -/
theorem siz_range {E P X : Int} (h0 : 0 ≤ X) (h1 : X < 2 * signOf E P) : 0 ≤ sizW E P X ∧ sizW E P X < signOf E P := by
  unfold sizW sizeOf'; split <;> omega
theorem kind_two {E P X : Int} (h : kindOf E P X = 2) : sizW E P X < infOf E P := by
  unfold kindOf at h
  split at h
  · omega
  · split at h
    · omega
    · split at h
      · assumption
      · split at h <;> omega
theorem val_form {E P X : Int} (h : Fmt E P) (h0 : 0 ≤ X) (h1 : X < 2 * signOf E P) (hk : kindOf E P X = 1 ∨ kindOf E P X = 2) :
    ∃ (d : Int) (e : Nat), ((opK E P X).natAbs : Int) = d * 2 ^ e ∧ 0 ≤ d ∧ d < 2 ^ P.toNat ∧ (e : Int) ≤ 2 * biasOf E - 1 := by
  have hbr := bias_range h.1 h.2.1
  rcases hk with hk | hk
  · refine ⟨0, 0, ?_, by omega, p2pos _, by omega⟩
    unfold opK
    rw [hk]; simp
  · have hs := siz_range (E := E) (P := P) h0 h1
    have hlt := kind_two hk
    obtain ⟨f0, f1, f2, d0, d1, _⟩ := field_facts h hs.1 hlt
    have hbe := bias_eq h.1
    have hP2 : (2 : Int) ^ P.toNat = 2 * 2 ^ (P - 1).toNat := by
      have := h.2.2.1
      rw [show P.toNat = (P - 1).toNat + 1 by omega, Int.pow_succ]; omega
    have hl : 0 ≤ liftOf P (sizW E P X) ∧ liftOf P (sizW E P X) ≤ 2 * biasOf E - 1 := by unfold liftOf; split <;> omega
    refine ⟨digOf P (sizW E P X), (liftOf P (sizW E P X)).toNat, ?_, d0, by omega, by omega⟩
    have hm : 0 ≤ magOf P (sizW E P X) := Int.mul_nonneg d0 (Int.le_of_lt (p2pos _))
    unfold opK
    rw [if_pos hk]
    show _ = magOf P (sizW E P X)
    unfold sgM
    split <;> omega
theorem form_lt {E P d : Int} {e : Nat} (h : Fmt E P) (h0 : 0 ≤ d) (h1 : d < 2 ^ P.toNat) (h2 : (e : Int) ≤ 2 * biasOf E - 1) : d * 2 ^ e < 2 ^ (2 * biasOf E - 1 + P).toNat := by
  have := h.2.2.1
  have h3 : d * 2 ^ e < 2 ^ P.toNat * 2 ^ e := Int.mul_lt_mul_of_pos_right h1 (p2pos e)
  rw [← Int.pow_add] at h3
  have h4 := pow_split (show P.toNat + e ≤ (2 * biasOf E - 1 + P).toNat by omega)
  have h5 := Int.mul_le_mul_of_nonneg_right (show (1 : Int) ≤ 2 ^ ((2 * biasOf E - 1 + P).toNat - (P.toNat + e)) from p2pos _) (Int.le_of_lt (p2pos (P.toNat + e)))
  omega
theorem max_sml {E P : Int} (h : Fmt E P) : (2 : Int) * 2 ^ (2 * biasOf E - 1 + P).toNat < sml := by
  have hbr := bias_range h.1 h.2.1
  obtain ⟨f1, f2, f3, f4, f5⟩ := h
  unfold sml
  have h4 := pow_split (show (2 * biasOf E - 1 + P).toNat ≤ 3000 by omega)
  have h5 := pow_split (show (3000 : Nat) ≤ 60000 by omega)
  have h6 : (4 : Int) ≤ 2 ^ (60000 - 3000) := by
    have := pow_split (show (2 : Nat) ≤ 60000 - 3000 by omega)
    have h7 := p2pos (60000 - 3000 - 2)
    have h8 : (2 : Int) ^ 2 = 4 := by decide
    omega
  have h7 := p2pos (2 * biasOf E - 1 + P).toNat
  have h8 := Int.mul_le_mul_of_nonneg_right (show (1 : Int) ≤ 2 ^ (3000 - (2 * biasOf E - 1 + P).toNat) from p2pos _) (Int.le_of_lt h7)
  have h9 := Int.mul_le_mul_of_nonneg_right h6 (Int.le_of_lt (p2pos 3000))
  have h10 := p2pos 3000
  generalize (2 : Int) ^ 3000 = a at *
  generalize (2 : Int) ^ 60000 = b at *
  generalize (2 : Int) ^ (2 * biasOf E - 1 + P).toNat = c at *
  omega
theorem opK_lt {E P X : Int} (h : Fmt E P) (h0 : 0 ≤ X) (h1 : X < 2 * signOf E P) (hk : kindOf E P X = 1 ∨ kindOf E P X = 2) : ((opK E P X).natAbs : Int) < 2 ^ (2 * biasOf E - 1 + P).toNat := by
  obtain ⟨d, e, h2, h3, h4, h5⟩ := val_form h h0 h1 hk
  rw [h2]; exact form_lt h h3 h4 h5

/-- the difference of numbers, each at most twice the other one -/
theorem near_form {E P A B da db : Int} {ea eb : Nat} (h : Fmt E P) (a0 : 0 ≤ A) (b0 : 0 ≤ B) (hA : A = da * 2 ^ ea) (hB : B = db * 2 ^ eb) (da1 : da < 2 ^ P.toNat) (db1 : db < 2 ^ P.toNat)
    (ha : A ≤ 2 * B) (hb : B ≤ 2 * A) : ∃ (d : Int) (e : Nat), ((A - B).natAbs : Int) = d * 2 ^ e ∧ d < 2 ^ P.toNat := by
  have hle : ((A - B).natAbs : Int) ≤ A ∧ ((A - B).natAbs : Int) ≤ B := by omega
  by_cases hab : ea ≤ eb
  · obtain ⟨j, rfl⟩ := Nat.exists_eq_add_of_le hab
    have e1 : B = (db * 2 ^ j) * 2 ^ ea := by rw [hB, Int.mul_assoc, ← Int.pow_add]; congr 2; omega
    have e2 : ((A - B).natAbs : Int) = ((da - db * 2 ^ j).natAbs : Int) * 2 ^ ea := by
      have e3 : A - B = (da - db * 2 ^ j) * 2 ^ ea := by rw [hA, e1, Int.sub_mul]
      rw [e3, Int.natAbs_mul]
      have : (((2 : Int) ^ ea).natAbs : Int) = 2 ^ ea := by have := p2pos ea; omega
      push_cast
      rw [← this]; simp
    refine ⟨_, ea, e2, ?_⟩
    have : ((da - db * 2 ^ j).natAbs : Int) ≤ da := by
      apply Int.le_of_mul_le_mul_right (a := 2 ^ ea) _ (p2pos ea)
      rw [← e2, ← hA]; exact hle.1
    omega
  · obtain ⟨j, rfl⟩ := Nat.exists_eq_add_of_le (show eb ≤ ea by omega)
    have e1 : A = (da * 2 ^ j) * 2 ^ eb := by rw [hA, Int.mul_assoc, ← Int.pow_add]; congr 2; omega
    have e2 : ((A - B).natAbs : Int) = ((da * 2 ^ j - db).natAbs : Int) * 2 ^ eb := by
      have e3 : A - B = (da * 2 ^ j - db) * 2 ^ eb := by rw [hB, e1, Int.sub_mul]
      rw [e3, Int.natAbs_mul]
      have : (((2 : Int) ^ eb).natAbs : Int) = 2 ^ eb := by have := p2pos eb; omega
      push_cast
      rw [← this]; simp
    refine ⟨_, eb, e2, ?_⟩
    have : ((da * 2 ^ j - db).natAbs : Int) ≤ db := by
      apply Int.le_of_mul_le_mul_right (a := 2 ^ eb) _ (p2pos eb)
      rw [← e2, ← hB]; exact hle.2
    omega

/-! the contracts -/
theorem upK_same (K k : Int) : upK K k k = K := by unfold upK; rw [show (k - min k k) = 0 by omega]; simp
theorem sumK_eq (E P K L : Int) : sumK E P K L = K + L := by unfold sumK; rw [upK_same, upK_same]
theorem fi_eq (E P : Int) : fi E P = fineOf E P := by unfold fi; omega
/-- the word of a sum -/
def arW (E P m K L : Int) (na nb : Bool) : Int := if K + L = 0 then (if (if na = nb then na else decide (m = 4)) = true then signOf E P else 0) else rndW E P m (K + L) (fineOf E P)
def arF (E P m K L : Int) : Int := if K + L = 0 then 0 else rndF E P m (K + L) (fineOf E P)
theorem groundOp (E P m X Y : Int) : ∀ x, Ar.v x ∈ [Ar.v (fmtV E P), .v (.int .i64 m), .v (wordV X), .v (wordV Y)] → ground 9 x = true := fun x hx => by
  simp at hx; rcases hx with rfl | rfl | rfl | rfl <;> rfl

theorem acsE_ok {l : List (Bool × Bool)} (hl : ∀ c ∈ l, c.1 = c.2) : ∀ n, ∀ c ∈ acsE n l, c.1 = c.2
  | 0 => hl
  | n + 1 => by unfold acsE; simp only [List.forall_mem_cons]; exact ⟨trivial, acsE_ok hl n⟩
theorem acsW_ok {E P X : Int} {neg : Bool} (h : Fmt E P) (h0 : 0 ≤ X) (h1 : X < 2 * signOf E P) (hn : negOf E P X = neg) {l : List (Bool × Bool)} (hl : ∀ c ∈ l, c.1 = c.2) : ∀ c ∈ acsW E P X neg l, c.1 = c.2 := by
  have hs := sign_range h
  have bX : wB (wordV X) = true := wB_wordV h0 (by omega)
  have hw : IntKind.i64.wrap (E + P) = E + P := wrapI (by obtain ⟨a, b, c, d, e⟩ := h; omega)
  have h2 : (2 : Int) ^ (E + P).toNat = 2 * signOf E P := by
    obtain ⟨a, b, c, d, e⟩ := h
    unfold signOf
    rw [show (E + P).toNat = (E + P - 1).toNat + 1 by omega, Int.pow_succ]; omega
  have hz : X / (2 * signOf E P) = 0 := Int.ediv_eq_zero_of_lt h0 h1
  unfold acsW
  simp only [List.forall_mem_cons, wX_wordV, hw, h2, bX, hz]
  refine ⟨trivial, trivial, hn, by simp [h, h1], by simp, ?_, trivial, trivial, trivial, trivial, trivial, hl⟩
  rw [decide_eq_true (show 0 ≤ E + P ∧ E + P ≤ 127 by obtain ⟨a, b, c, d, e⟩ := h; omega)]; rfl
theorem acsN_ok {E P X : Int} (hk : kindOf E P X = 1 ∨ kindOf E P X = 2) {l : List (Bool × Bool)} (hl : ∀ c ∈ l, c.1 = c.2) : ∀ c ∈ acsN E P X l, c.1 = c.2 := by
  have e5 : (kindOf E P X == 5) = false := by simp; omega
  have e4 : (kindOf E P X == 4) = false := by simp; omega
  unfold acsN dKind
  simp only [List.forall_mem_cons, wX_wordV]
  exact ⟨e5, trivial, e5, trivial, e4, trivial, trivial, trivial, trivial, hl⟩
theorem acs1_ok {E P m X Y : Int} {na nb : Bool} (h : Fmt E P) (m0 : 0 ≤ m) (m1 : m ≤ 4) (x0 : 0 ≤ X) (x1 : X < 2 * signOf E P) (y0 : 0 ≤ Y) (y1 : Y < 2 * signOf E P) (kx : kindOf E P X = 1 ∨ kindOf E P X = 2) (ky : kindOf E P Y = 1 ∨ kindOf E P Y = 2)
    (hna : negOf E P X = na) (hnb : negOf E P Y = nb) : ∀ c ∈ acs1 E P m X Y na nb, c.1 = c.2 := by
  unfold acs1
  simp only [List.forall_mem_cons]
  refine ⟨trivial, acsN_ok ky (acsN_ok kx ?_)⟩
  unfold acs0
  simp only [List.forall_mem_cons]
  refine ⟨trivial, trivial, acsW_ok h y0 y1 hnb (acsW_ok h x0 x1 hna ?_)⟩
  simp only [List.forall_mem_cons]
  refine ⟨trivial, trivial, trivial, by simp; omega, by simp; omega, by unfold chkE; rw [if_pos h]; simp, trivial, fun c hc => by cases hc⟩
theorem acs2_ok {E P X Y K L : Int} {nz : Bool} (h : Fmt E P) (kx : kindOf E P X = 1 ∨ kindOf E P X = 2) (ky : kindOf E P Y = 1 ∨ kindOf E P Y = 2) (hK : (K.natAbs : Int) < 2 ^ (2 * biasOf E - 1 + P).toNat) (hL : (L.natAbs : Int) < 2 ^ (2 * biasOf E - 1 + P).toNat)
    (hnz : (K + L != 0) = nz) {l : List (Bool × Bool)} (hl : ∀ c ∈ l, c.1 = c.2) : ∀ c ∈ acs2 E P X Y K L nz l, c.1 = c.2 := by
  have hm := max_sml h
  have hbr := bias_range h.1 h.2.1
  have hf : -1200 ≤ fineOf E P ∧ fineOf E P ≤ 0 := ⟨by have := h.2.2.2.1; unfold fineOf; omega, fine_le h⟩
  have e3x : (kindOf E P X == 3) = false := by simp; omega
  have e3y : (kindOf E P Y == 3) = false := by simp; omega
  have hsg : (sgI (K + L) != 0) = nz := by
    rw [← hnz]
    unfold sgI
    by_cases hz : K + L = 0
    · rw [if_pos hz, hz]
    · rw [if_neg hz]
      have : (K + L != 0) = true := by simpa using hz
      rw [this]
      split <;> rfl
  unfold acs2 dKind
  simp only [List.forall_mem_cons, wX_wordV, sumK_eq, upK_same, fi_eq]
  refine ⟨hsg, trivial, by simp, trivial, ?_, by simp, by simp, e3y, trivial, e3x, trivial, e3x, trivial, trivial, trivial, trivial, trivial, hl⟩
  rw [decide_eq_true (show inB K (fineOf E P) from ⟨by omega, by omega, by omega, by omega⟩), decide_eq_true (show inB L (fineOf E P) from ⟨by omega, by omega, by omega, by omega⟩)]; rfl
theorem acs3_ok {E P m K L : Int} (h : Fmt E P) (m0 : 0 ≤ m) (m1 : m ≤ 4) (hK : (K.natAbs : Int) < 2 ^ (2 * biasOf E - 1 + P).toNat) (hL : (L.natAbs : Int) < 2 ^ (2 * biasOf E - 1 + P).toNat)
    {l : List (Bool × Bool)} (hl : ∀ c ∈ l, c.1 = c.2) : ∀ c ∈ acs3 E P m K L l, c.1 = c.2 := by
  have hm := max_sml h
  have hbr := bias_range h.1 h.2.1
  have hf : -1200 ≤ fineOf E P ∧ fineOf E P ≤ 0 := ⟨by have := h.2.2.2.1; unfold fineOf; omega, fine_le h⟩
  unfold acs3
  simp only [List.forall_mem_cons, sumK_eq, fi_eq]
  refine ⟨?_, by simp, hl⟩
  rw [decide_eq_true h, decide_eq_true (show 0 ≤ m ∧ m ≤ 4 from ⟨m0, m1⟩), decide_eq_true (show inB (K + L) (fineOf E P) ∧ -40000 ≤ fineOf E P from ⟨⟨by omega, by omega, by omega, by omega⟩, by omega⟩)]; rfl
theorem acs4_ok {E P m : Int} {m4 eq : Bool} (h : Fmt E P) (hm4 : (m == 4) = m4) {l : List (Bool × Bool)} (hl : ∀ c ∈ l, c.1 = c.2) : ∀ c ∈ acs4 E P m m4 eq l, c.1 = c.2 := by
  have hs := sign_range h
  have b0 : wB zeroW = true := rfl
  have x0 : wX zeroW = 0 := rfl
  unfold acs4
  simp only [List.forall_mem_cons, b0, x0]
  exact ⟨by simp [h, hs.1], trivial, trivial, trivial, hm4, trivial, hl⟩
theorem subN_con {E P m X Y : Int} (h : Fmt E P) (m0 : 0 ≤ m) (m1 : m ≤ 4) (x0 : 0 ≤ X) (x1 : X < 2 * signOf E P) (y0 : 0 ≤ Y) (y1 : Y < 2 * signOf E P) (kx : kindOf E P X = 1 ∨ kindOf E P X = 2) (ky : kindOf E P Y = 1 ∨ kindOf E P Y = 2) :
    Con Tryz.prog TR 11 [.v (fmtV E P), .v (.int .i64 m), .v (wordV X), .v (wordV Y)] ⟨none, .tuple #[wordV (arW E P m (opK E P X) (-opK E P Y) (negOf E P X) (!negOf E P Y)), .int .i64 (arF E P m (opK E P X) (-opK E P Y)), .int .i64 0]⟩ := by
  have hK := opK_lt h x0 x1 kx
  have hL0 := opK_lt h y0 y1 ky
  have hL : (((-opK E P Y)).natAbs : Int) < 2 ^ (2 * biasOf E - 1 + P).toNat := by omega
  have g := groundOp E P m X Y
  have ok := nest_ok arithC_ok 6
  have dX : dK E P X = opK E P X := by unfold dK; rw [wX_wordV]
  have dY : dK E P Y = opK E P Y := by unfold dK; rw [wX_wordV]
  have z0 : wX zeroW = 0 := rfl
  have base : ∀ na nb, negOf E P X = na → negOf E P Y = nb → ∀ c ∈ acsO E P Y (acs1 E P m X Y na nb), c.1 = c.2 := by
    intro na nb e1 e2
    unfold acsO
    simp only [List.forall_mem_cons]
    exact ⟨trivial, trivial, by simp, trivial, trivial, trivial, acs1_ok h m0 m1 x0 x1 y0 y1 kx ky e1 e2⟩
  by_cases hz : opK E P X + (-opK E P Y) = 0
  · have hnz : (opK E P X + (-opK E P Y) != 0) = false := by simpa using hz
    have vF : arF E P m (opK E P X) (-opK E P Y) = 0 := by unfold arF; rw [if_pos hz]
    rw [vF]
    unfold arW
    rw [if_pos hz]
    cases hna : negOf E P X <;> cases hnb : negOf E P Y <;> cases hm4 : (m == 4)
    · have hrun := sub_ff_f E P m X Y
      rw [dX, dY] at hrun
      have hm : decide (m = 4) = false := by simpa using hm4
      refine con_plain ok hrun (acsE_ok (acs4_ok h hm4 (acs2_ok h kx ky hK hL hnz (base _ _ hna hnb))) 7) (by simp) g ?_ rfl
      simp [hm, z0]
    · have hrun := sub_ff_t E P m X Y
      rw [dX, dY] at hrun
      have hm : decide (m = 4) = true := by simpa using hm4
      refine con_plain ok hrun (acsE_ok (acs4_ok h hm4 (acs2_ok h kx ky hK hL hnz (base _ _ hna hnb))) 7) (by simp) g ?_ rfl
      simp [hm, z0]
    · have hrun := sub_ft_f E P m X Y
      rw [dX, dY] at hrun
      have hm : decide (m = 4) = false := by simpa using hm4
      refine con_plain ok hrun (acsE_ok (acs4_ok h hm4 (acs2_ok h kx ky hK hL hnz (base _ _ hna hnb))) 7) (by simp) g ?_ rfl
      simp [hm, z0]
    · have hrun := sub_ft_t E P m X Y
      rw [dX, dY] at hrun
      have hm : decide (m = 4) = true := by simpa using hm4
      refine con_plain ok hrun (acsE_ok (acs4_ok h hm4 (acs2_ok h kx ky hK hL hnz (base _ _ hna hnb))) 7) (by simp) g ?_ rfl
      simp [hm, z0]
    · have hrun := sub_tf_f E P m X Y
      rw [dX, dY] at hrun
      have hm : decide (m = 4) = false := by simpa using hm4
      refine con_plain ok hrun (acsE_ok (acs4_ok h hm4 (acs2_ok h kx ky hK hL hnz (base _ _ hna hnb))) 7) (by simp) g ?_ rfl
      simp [hm, z0]
    · have hrun := sub_tf_t E P m X Y
      rw [dX, dY] at hrun
      have hm : decide (m = 4) = true := by simpa using hm4
      refine con_plain ok hrun (acsE_ok (acs4_ok h hm4 (acs2_ok h kx ky hK hL hnz (base _ _ hna hnb))) 7) (by simp) g ?_ rfl
      simp [hm, z0]
    · have hrun := sub_tt_f E P m X Y
      rw [dX, dY] at hrun
      have hm : decide (m = 4) = false := by simpa using hm4
      refine con_plain ok hrun (acsE_ok (acs4_ok h hm4 (acs2_ok h kx ky hK hL hnz (base _ _ hna hnb))) 7) (by simp) g ?_ rfl
      simp [hm, z0]
    · have hrun := sub_tt_t E P m X Y
      rw [dX, dY] at hrun
      have hm : decide (m = 4) = true := by simpa using hm4
      refine con_plain ok hrun (acsE_ok (acs4_ok h hm4 (acs2_ok h kx ky hK hL hnz (base _ _ hna hnb))) 7) (by simp) g ?_ rfl
      simp [hm, z0]
  · have hnz : (opK E P X + (-opK E P Y) != 0) = true := by simpa using hz
    have vF : arF E P m (opK E P X) (-opK E P Y) = rndF E P m (opK E P X + (-opK E P Y)) (fineOf E P) := by unfold arF; rw [if_neg hz]
    have vW : ∀ na nb, arW E P m (opK E P X) (-opK E P Y) na nb = rndW E P m (opK E P X + (-opK E P Y)) (fineOf E P) := fun na nb => by unfold arW; rw [if_neg hz]
    rw [vF, vW]
    cases hna : negOf E P X <;> cases hnb : negOf E P Y
    · have hrun := sub_ff_n E P m X Y
      rw [dX, dY] at hrun
      refine con_plain ok hrun (acsE_ok (acs3_ok h m0 m1 hK hL (acs2_ok h kx ky hK hL hnz (base _ _ hna hnb))) 6) (by simp) g ?_ rfl
      rw [sumK_eq, fi_eq]
    · have hrun := sub_ft_n E P m X Y
      rw [dX, dY] at hrun
      refine con_plain ok hrun (acsE_ok (acs3_ok h m0 m1 hK hL (acs2_ok h kx ky hK hL hnz (base _ _ hna hnb))) 6) (by simp) g ?_ rfl
      rw [sumK_eq, fi_eq]
    · have hrun := sub_tf_n E P m X Y
      rw [dX, dY] at hrun
      refine con_plain ok hrun (acsE_ok (acs3_ok h m0 m1 hK hL (acs2_ok h kx ky hK hL hnz (base _ _ hna hnb))) 6) (by simp) g ?_ rfl
      rw [sumK_eq, fi_eq]
    · have hrun := sub_tt_n E P m X Y
      rw [dX, dY] at hrun
      refine con_plain ok hrun (acsE_ok (acs3_ok h m0 m1 hK hL (acs2_ok h kx ky hK hL hnz (base _ _ hna hnb))) 6) (by simp) g ?_ rfl
      rw [sumK_eq, fi_eq]
theorem addN_con {E P m X Y : Int} (h : Fmt E P) (m0 : 0 ≤ m) (m1 : m ≤ 4) (x0 : 0 ≤ X) (x1 : X < 2 * signOf E P) (y0 : 0 ≤ Y) (y1 : Y < 2 * signOf E P) (kx : kindOf E P X = 1 ∨ kindOf E P X = 2) (ky : kindOf E P Y = 1 ∨ kindOf E P Y = 2) :
    Con Tryz.prog TR 14 [.v (fmtV E P), .v (.int .i64 m), .v (wordV X), .v (wordV Y)] ⟨none, .tuple #[wordV (arW E P m (opK E P X) (opK E P Y) (negOf E P X) (negOf E P Y)), .int .i64 (arF E P m (opK E P X) (opK E P Y)), .int .i64 0]⟩ := by
  have hK := opK_lt h x0 x1 kx
  have hL0 := opK_lt h y0 y1 ky
  have hL : (((opK E P Y)).natAbs : Int) < 2 ^ (2 * biasOf E - 1 + P).toNat := by omega
  have g := groundOp E P m X Y
  have ok := nest_ok arithC_ok 6
  have dX : dK E P X = opK E P X := by unfold dK; rw [wX_wordV]
  have dY : dK E P Y = opK E P Y := by unfold dK; rw [wX_wordV]
  have z0 : wX zeroW = 0 := rfl
  have base : ∀ na nb, negOf E P X = na → negOf E P Y = nb → ∀ c ∈ acs1 E P m X Y na nb, c.1 = c.2 := by
    intro na nb e1 e2
    exact acs1_ok h m0 m1 x0 x1 y0 y1 kx ky e1 e2
  by_cases hz : opK E P X + (opK E P Y) = 0
  · have hnz : (opK E P X + (opK E P Y) != 0) = false := by simpa using hz
    have vF : arF E P m (opK E P X) (opK E P Y) = 0 := by unfold arF; rw [if_pos hz]
    rw [vF]
    unfold arW
    rw [if_pos hz]
    cases hna : negOf E P X <;> cases hnb : negOf E P Y <;> cases hm4 : (m == 4)
    · have hrun := add_ff_f E P m X Y
      rw [dX, dY] at hrun
      have hm : decide (m = 4) = false := by simpa using hm4
      refine con_plain ok hrun (acsE_ok (acs4_ok h hm4 (acs2_ok h kx ky hK hL hnz (base _ _ hna hnb))) 6) (by simp) g ?_ rfl
      simp [hm, z0]
    · have hrun := add_ff_t E P m X Y
      rw [dX, dY] at hrun
      have hm : decide (m = 4) = true := by simpa using hm4
      refine con_plain ok hrun (acsE_ok (acs4_ok h hm4 (acs2_ok h kx ky hK hL hnz (base _ _ hna hnb))) 6) (by simp) g ?_ rfl
      simp [hm, z0]
    · have hrun := add_ft_f E P m X Y
      rw [dX, dY] at hrun
      have hm : decide (m = 4) = false := by simpa using hm4
      refine con_plain ok hrun (acsE_ok (acs4_ok h hm4 (acs2_ok h kx ky hK hL hnz (base _ _ hna hnb))) 6) (by simp) g ?_ rfl
      simp [hm, z0]
    · have hrun := add_ft_t E P m X Y
      rw [dX, dY] at hrun
      have hm : decide (m = 4) = true := by simpa using hm4
      refine con_plain ok hrun (acsE_ok (acs4_ok h hm4 (acs2_ok h kx ky hK hL hnz (base _ _ hna hnb))) 6) (by simp) g ?_ rfl
      simp [hm, z0]
    · have hrun := add_tf_f E P m X Y
      rw [dX, dY] at hrun
      have hm : decide (m = 4) = false := by simpa using hm4
      refine con_plain ok hrun (acsE_ok (acs4_ok h hm4 (acs2_ok h kx ky hK hL hnz (base _ _ hna hnb))) 6) (by simp) g ?_ rfl
      simp [hm, z0]
    · have hrun := add_tf_t E P m X Y
      rw [dX, dY] at hrun
      have hm : decide (m = 4) = true := by simpa using hm4
      refine con_plain ok hrun (acsE_ok (acs4_ok h hm4 (acs2_ok h kx ky hK hL hnz (base _ _ hna hnb))) 6) (by simp) g ?_ rfl
      simp [hm, z0]
    · have hrun := add_tt_f E P m X Y
      rw [dX, dY] at hrun
      have hm : decide (m = 4) = false := by simpa using hm4
      refine con_plain ok hrun (acsE_ok (acs4_ok h hm4 (acs2_ok h kx ky hK hL hnz (base _ _ hna hnb))) 6) (by simp) g ?_ rfl
      simp [hm, z0]
    · have hrun := add_tt_t E P m X Y
      rw [dX, dY] at hrun
      have hm : decide (m = 4) = true := by simpa using hm4
      refine con_plain ok hrun (acsE_ok (acs4_ok h hm4 (acs2_ok h kx ky hK hL hnz (base _ _ hna hnb))) 6) (by simp) g ?_ rfl
      simp [hm, z0]
  · have hnz : (opK E P X + (opK E P Y) != 0) = true := by simpa using hz
    have vF : arF E P m (opK E P X) (opK E P Y) = rndF E P m (opK E P X + (opK E P Y)) (fineOf E P) := by unfold arF; rw [if_neg hz]
    have vW : ∀ na nb, arW E P m (opK E P X) (opK E P Y) na nb = rndW E P m (opK E P X + (opK E P Y)) (fineOf E P) := fun na nb => by unfold arW; rw [if_neg hz]
    rw [vF, vW]
    cases hna : negOf E P X <;> cases hnb : negOf E P Y
    · have hrun := add_ff_n E P m X Y
      rw [dX, dY] at hrun
      refine con_plain ok hrun (acsE_ok (acs3_ok h m0 m1 hK hL (acs2_ok h kx ky hK hL hnz (base _ _ hna hnb))) 5) (by simp) g ?_ rfl
      rw [sumK_eq, fi_eq]
    · have hrun := add_ft_n E P m X Y
      rw [dX, dY] at hrun
      refine con_plain ok hrun (acsE_ok (acs3_ok h m0 m1 hK hL (acs2_ok h kx ky hK hL hnz (base _ _ hna hnb))) 5) (by simp) g ?_ rfl
      rw [sumK_eq, fi_eq]
    · have hrun := add_tf_n E P m X Y
      rw [dX, dY] at hrun
      refine con_plain ok hrun (acsE_ok (acs3_ok h m0 m1 hK hL (acs2_ok h kx ky hK hL hnz (base _ _ hna hnb))) 5) (by simp) g ?_ rfl
      rw [sumK_eq, fi_eq]
    · have hrun := add_tt_n E P m X Y
      rw [dX, dY] at hrun
      refine con_plain ok hrun (acsE_ok (acs3_ok h m0 m1 hK hL (acs2_ok h kx ky hK hL hnz (base _ _ hna hnb))) 5) (by simp) g ?_ rfl
      rw [sumK_eq, fi_eq]
end Go.Proofs.YtjomebgpnokboaaGreatDoor
/-
  awake: in every world that holds the listed tables it returns true.
-/
namespace Go.Proofs.YtjomebgpnokboaaGreatDoor
open Go.RowKit Go.Shelf Go.Canon

/-- the tables that a law reads -/
def TL : Tabs := ⟨0, [(1, osTab), (9, tab10)]⟩
theorem gTL : TL.g < Tryz.prog.globals.size := of_decide_eq_true (by kernel_rfl)
theorem roTL : ∀ p ∈ TL.ro, p.1 < Tryz.prog.globals.size ∧ p.2.all (ground 3) = true ∧ p.1 ≠ TL.g := fun p hp => by
  rcases List.mem_cons.1 hp with rfl | hp
  · exact ⟨of_decide_eq_true (by kernel_rfl), rfl, by decide⟩
  · rcases List.mem_cons.1 hp with rfl | hp
    · exact ⟨of_decide_eq_true (by kernel_rfl), by kernel_rfl, by decide⟩
    · cases hp
theorem roTL2 : ∀ p ∈ TL.ro, p.1 < Tryz.prog.globals.size ∧ p.2.all (ground 3) = true := fun p hp => ⟨(roTL p hp).1, (roTL p hp).2.1⟩
theorem tab64_eq : tab64 = Lib.deBruijn64tab.map fun z : Nat => Value.int .u8 z := by kernel_rfl
theorem awake_con : Con Tryz.prog TL 10 [] ⟨none, .bool true⟩ := fun w hw he args' ha => by
  have h0 : args' = #[] := by
    have := areArs_nil ha
    simpa using this
  subst h0
  refine (awake_calls w hw fun p hp => ?_).mono fun e w1 ⟨h1, h2⟩ => ⟨_, h1, rfl, h2⟩
  obtain ⟨⟨o, ho, c, e, f, rfl, ht⟩, hr⟩ := he
  rcases List.mem_cons.1 hp with rfl | hp
  · refine ⟨c, e, f, ho, fun i v hv => ?_⟩
    rw [tab64_eq, List.getElem?_map] at hv
    cases hg : Lib.deBruijn64tab[i]? with
    | none => rw [hg] at hv; cases hv
    | some z =>
      rw [hg] at hv
      obtain ⟨hlt, hz⟩ := List.getElem?_eq_some_iff.1 hg
      rw [ht i hlt]
      rw [List.getD_eq_getElem?_getD, hg]
      exact hv
  · exact hr p hp
def awakeS (xs : List Ar) : Option Res := match xs with
  | [] => some ⟨none, .bool true⟩
  | _ => none
def awakeO : CF → St → Option (Value × St) := oracle 10 (conSpec TL (fun _ => true) awakeS)
theorem awakeO_ok : RunOkE Tryz.prog awakeO := con_oracle numG gTL roTL2 fun xs R h hp => by
  unfold awakeS at h
  split at h
  · injection h with h
    subst h
    exact awake_con
  · cases h
end Go.Proofs.YtjomebgpnokboaaGreatDoor
/-
  FloatsDiffers: Sub's contract for values as an answer, Sub with a mode that is none, and the paths of the law.
-/
namespace Go.Proofs.YtjomebgpnokboaaGreatDoor
open Go.RowKit Go.Shelf Go.Canon

/-! Sub with no mode -/
noncomputable def subRun2 (E P m X Y : Int) (an : List Bool) : Option (Value × Option CObj × List (Bool × Bool)) := conRun Tryz.prog TR (nest arithC 6) 1000 11 [.v (fmtV E P), .v (.int .i64 m), .v (wordV X), .v (wordV Y)] an 0
set_option maxRecDepth 1000000 in
theorem sub_bad1 (E P m X Y : Int) : subRun2 E P m X Y [false, true, true, true] = some (.tuple #[zeroW, .int .i64 0, .int .i64 2], some (.fact 0), [(true, true), (true, true), (true, true), (true, true), (true, true), (decide (m < 0), true), (chkE E P != 0, false), (true, true)]) := by kernel_rfl
set_option maxRecDepth 1000000 in
theorem sub_bad2 (E P m X Y : Int) : subRun2 E P m X Y [false, false, true, true, true] = some (.tuple #[zeroW, .int .i64 0, .int .i64 2], some (.fact 0), [(true, true), (true, true), (true, true), (true, true), (true, true), (decide (m > 4), true), (decide (m < 0), false), (chkE E P != 0, false), (true, true)]) := by kernel_rfl
theorem subB_con {E P m X Y : Int} (h : Fmt E P) (hm : m < 0 ∨ 4 < m) : Con Tryz.prog TR 11 [.v (fmtV E P), .v (.int .i64 m), .v (wordV X), .v (wordV Y)] ⟨none, .tuple #[zeroW, .int .i64 0, .int .i64 2]⟩ := by
  have g := groundOp E P m X Y
  have ok := nest_ok arithC_ok 6
  have hc : (chkE E P != 0) = false := by unfold chkE; rw [if_pos h]; rfl
  by_cases h0 : m < 0
  · have hrun := sub_bad1 E P m X Y
    refine con_plain ok hrun ?_ (by simp) g rfl rfl
    simp only [List.forall_mem_cons]
    exact ⟨trivial, trivial, trivial, trivial, trivial, by simpa using h0, hc, trivial, fun c hc => by cases hc⟩
  · have hrun := sub_bad2 E P m X Y
    refine con_plain ok hrun ?_ (by simp) g rfl rfl
    simp only [List.forall_mem_cons]
    exact ⟨trivial, trivial, trivial, trivial, trivial, by simp; omega, by simpa using h0, hc, trivial, fun c hc => by cases hc⟩

/-! Sub as an answer -/
def subFP (xs : List Ar) : Bool := match xs with
  | [.v a, .v (.int .i64 m), .v b, .v c] => match fmt2 a with
    | some (E, P) => wB b && (wB c && (decide (0 ≤ m ∧ m ≤ 4) && (vErr E P (wX b) == 0 && vErr E P (wX c) == 0)))
    | none => false
  | _ => false
def subFS (xs : List Ar) : Option Res := match xs with
  | [.v a, .v (.int .i64 m), .v b, .v c] => match fmt2 a with
    | some (E, P) => some ⟨none, .tuple #[wordV (arW E P m (opK E P (wX b)) (-opK E P (wX c)) (negOf E P (wX b)) (!negOf E P (wX c))), .int .i64 (arF E P m (opK E P (wX b)) (-opK E P (wX c))), .int .i64 0]⟩
    | none => none
  | _ => none
theorem vErr_zero {E P X : Int} (h : vErr E P X = 0) : Fmt E P ∧ X < 2 * signOf E P ∧ (kindOf E P X = 1 ∨ kindOf E P X = 2) ∧ vK E P X = opK E P X := by
  have hk : vK E P X = rdK E P X := by unfold vK; rw [if_pos h]
  unfold vErr at h
  split at h
  · rename_i he
    have hf : Fmt E P ∧ X < 2 * signOf E P := by
      unfold rdErr at he
      split at he
      · rename_i hF
        split at he
        · cases he
        · exact ⟨hF, by omega⟩
      · cases he
    split at h
    · rename_i hkd
      refine ⟨hf.1, hf.2, ?_, ?_⟩
      · unfold rdKind at hkd
        rw [if_pos he] at hkd
        omega
      · rw [hk]; unfold rdK; rw [if_pos he]
    · cases h
  · rename_i he
    exact absurd h he
def subFO : CF → St → Option (Value × St) := oracle 11 (conSpec TR subFP subFS)
theorem subFO_ok : RunOkE Tryz.prog subFO := con_oracle numG gTR roTR2 fun xs R h hp => by
  unfold subFS at h
  split at h
  · split at h
    · rename_i hm
      injection h with h
      subst h
      unfold subFP at hp
      simp only [hm, Bool.and_eq_true, decide_eq_true_eq, beq_iff_eq] at hp
      obtain ⟨hb, hc, hmd, eb, ec⟩ := hp
      obtain ⟨hF, b1, b2, _⟩ := vErr_zero eb
      obtain ⟨_, c1, c2, _⟩ := vErr_zero ec
      have := subN_con hF hmd.1 hmd.2 (wX_range hb).1 b1 (wX_range hc).1 c1 b2 c2
      rw [fmt2_ok hm, wB_eq hb, wB_eq hc, wX_wordV, wX_wordV]
      exact this
    · cases h
  · cases h
def subBP (xs : List Ar) : Bool := match xs with
  | [.v a, .v (.int .i64 m), .v b, .v c] => match fmt2 a with
    | some (E, P) => wB b && (wB c && (!decide (0 ≤ m ∧ m ≤ 4) && decide (Fmt E P)))
    | none => false
  | _ => false
def subBS (xs : List Ar) : Option Res := match xs with
  | [.v a, .v (.int .i64 m), .v b, .v c] => some ⟨none, .tuple #[zeroW, .int .i64 0, .int .i64 2]⟩
  | _ => none
def subBO : CF → St → Option (Value × St) := oracle 11 (conSpec TR subBP subBS)
theorem subBO_ok : RunOkE Tryz.prog subBO := con_oracle numG gTR roTR2 fun xs R h hp => by
  unfold subBS at h
  split at h
  · injection h with h
    subst h
    unfold subBP at hp
    simp only at hp
    split at hp
    · rename_i hm
      simp only [Bool.and_eq_true, decide_eq_true_eq, Bool.not_eq_true', decide_eq_false_iff_not] at hp
      obtain ⟨hb, hc, hmd, hF⟩ := hp
      rw [fmt2_ok hm, wB_eq hb, wB_eq hc]
      exact subB_con hF (by omega)
    · cases hp
  · cases h
end Go.Proofs.YtjomebgpnokboaaGreatDoor
