/-
  Numbers with a divisor: contracts as answers of calls. The integer next to a quotient, and what is left (no program there).
-/
import Derived.Test.YtnpocnckkaddbaaGreatDoorP24
import Derived.Test.YtnpocnckkaddbaaGreatDoorP25C
set_option linter.unusedVariables false
set_option linter.unusedSimpArgs false
set_option linter.unusedSectionVars false
namespace Go.Proofs.YtnpocnckkaddbaaGreatDoor
open Go.RowKit Go.Shelf Go.Canon

/-- K / D and one half, rounded down; whether that is an integer; the integer next to K / D, of two the even one -/
def nr0 (K D : Int) : Int := (2 * K + D) / (2 * D)
def nrT (K D : Int) : Bool := decide ((2 * K + D) % (2 * D) = 0)
def nrI (K D : Int) : Int := if nr0 K D % 2 ≠ 0 ∧ nrT K D = true then nr0 K D - 1 else nr0 K D
theorem nr_near {K D : Int} (hD : 0 < D) : -D ≤ 2 * (K - nrI K D * D) ∧ 2 * (K - nrI K D * D) ≤ D := by
  have h1 := Int.mul_ediv_add_emod (2 * K + D) (2 * D)
  have h2 := Int.emod_nonneg (2 * K + D) (show 2 * D ≠ 0 by omega)
  have h3 := Int.emod_lt_of_pos (2 * K + D) (show 0 < 2 * D by omega)
  have h4 : 2 * D * nr0 K D + (2 * K + D) % (2 * D) = 2 * K + D := h1
  have h5 : 2 * D * nr0 K D = 2 * (nr0 K D * D) := by grind
  unfold nrI
  split
  · rename_i hc
    have h6 : (2 * K + D) % (2 * D) = 0 := of_decide_eq_true hc.2
    rw [Int.sub_mul]
    omega
  · omega
/-- the quotient of A by B as a number with a divisor -/
def quK (A B : Int) : Int := if B < 0 then -A else A
def quD (B : Int) : Int := B.natAbs
/-- what is left of A -/
def rmR (A B : Int) : Int := A - B * nrI (quK A B) (quD B)
theorem rm_near {A B : Int} (hB : B ≠ 0) : 2 * ((rmR A B).natAbs : Int) ≤ B.natAbs ∧ (rmR A B).natAbs ≤ A.natAbs := by
  have h := nr_near (K := quK A B) (D := quD B) (by unfold quD; omega)
  have hz : nrI (quK A B) (quD B) = 0 → rmR A B = A := fun h => by unfold rmR; rw [h]; simp
  have hn : nrI (quK A B) (quD B) ≠ 0 → (B.natAbs : Int) ≤ (B * nrI (quK A B) (quD B)).natAbs := fun h => by
    rw [Int.natAbs_mul]
    have : 1 ≤ (nrI (quK A B) (quD B)).natAbs := by omega
    have := Nat.mul_le_mul_left B.natAbs this
    omega
  unfold rmR at *
  unfold quK quD at *
  generalize nrI (if B < 0 then -A else A) (B.natAbs : Int) = n at *
  have e1 : n * (B.natAbs : Int) = if B < 0 then -(B * n) else B * n := by
    split
    · rw [show (B.natAbs : Int) = -B by omega]; grind
    · rw [show (B.natAbs : Int) = B by omega]; grind
  rw [e1] at h
  generalize B * n = X at *
  have h2 : 2 * ((A - X).natAbs : Int) ≤ B.natAbs := by
    by_cases hb : B < 0
    · simp only [hb, if_true] at h; omega
    · simp only [hb, if_false] at h; omega
  refine ⟨h2, ?_⟩
  by_cases h0 : n = 0
  · have := hz h0; rw [this]; exact Nat.le_refl _
  · have := hn h0; omega
theorem rm_form {A B da db : Int} {ea eb P : Nat} (hB : B ≠ 0) (fA : (A.natAbs : Int) = da * 2 ^ ea) (fB : (B.natAbs : Int) = db * 2 ^ eb) (a1 : da < 2 ^ P) (b1 : db < 2 ^ P) :
    ∃ (d : Int) (e : Nat), ((rmR A B).natAbs : Int) = d * 2 ^ e ∧ d < 2 ^ P := by
  obtain ⟨h1, h2⟩ := rm_near (A := A) hB
  have sgA : ∃ x : Int, A = x * 2 ^ ea := by
    by_cases h : A < 0
    · exact ⟨-da, by rw [Int.neg_mul]; omega⟩
    · exact ⟨da, by omega⟩
  have sgB : ∃ x : Int, B = x * 2 ^ eb := by
    by_cases h : B < 0
    · exact ⟨-db, by rw [Int.neg_mul]; omega⟩
    · exact ⟨db, by omega⟩
  obtain ⟨x, hx⟩ := sgA
  obtain ⟨y, hy⟩ := sgB
  have key : ∀ (e : Nat) (z c : Int), rmR A B = z * 2 ^ e → ((rmR A B).natAbs : Int) ≤ c * 2 ^ e → c < 2 ^ P → ∃ (d : Int) (e : Nat), ((rmR A B).natAbs : Int) = d * 2 ^ e ∧ d < 2 ^ P := by
    intro e z c hz hle hc
    have e2 : ((rmR A B).natAbs : Int) = (z.natAbs : Int) * 2 ^ e := by
      rw [hz, Int.natAbs_mul]
      have : (((2 : Int) ^ e).natAbs : Int) = 2 ^ e := by have := p2pos e; omega
      push_cast
      rw [← this]; simp
    refine ⟨z.natAbs, e, e2, ?_⟩
    have : (z.natAbs : Int) ≤ c := by
      apply Int.le_of_mul_le_mul_right (a := 2 ^ e) _ (p2pos e)
      rw [← e2]; exact hle
    omega
  by_cases hab : ea ≤ eb
  · obtain ⟨j, rfl⟩ := Nat.exists_eq_add_of_le hab
    refine key ea (x - y * 2 ^ j * nrI (quK A B) (quD B)) da ?_ (by omega) a1
    unfold rmR
    generalize nrI (quK A B) (quD B) = n at *
    rw [Int.pow_add] at hy
    rw [hx, hy]; grind
  · obtain ⟨j, rfl⟩ := Nat.exists_eq_add_of_le (show eb ≤ ea by omega)
    refine key eb (x * 2 ^ j - y * nrI (quK A B) (quD B)) db ?_ (by omega) b1
    unfold rmR
    generalize nrI (quK A B) (quD B) = n at *
    rw [Int.pow_add] at hx
    rw [hx, hy]; grind
/-- what is taken away is a multiple -/
theorem rm_back (A B : Int) : isIQ (quK (A - rmR A B) B) (quD B) 0 = true := by
  unfold isIQ
  apply decide_eq_true
  rw [show A - rmR A B = B * nrI (quK A B) (quD B) by unfold rmR; omega]
  generalize nrI (quK A B) (quD B) = n
  unfold quK quD
  simp only [show (0 : Int).toNat = 0 from rfl, Int.pow_zero, Int.mul_one, Int.neg_zero]
  split
  · rw [show (B.natAbs : Int) = -B by omega, show -(B * n) = (-B) * n by grind]; exact Int.mul_emod_right _ _
  · rw [show (B.natAbs : Int) = B by omega]; exact Int.mul_emod_right _ _

theorem ars_q {w : World} {K D k : Int} {l : List Value} (h : AreArs w [.q K D k] l) : ∃ v, l = [v] ∧ Qn w v K D k := by
  obtain ⟨v, vs, rfl, h1, h2⟩ := areArs_cons h
  rw [areArs_nil h2]
  exact ⟨v, rfl, isAr_q h1⟩
theorem ars_qn {w : World} {K D k L l0 : Int} {l : List Value} (h : AreArs w [.q K D k, .n L l0] l) : ∃ v u, l = [v, u] ∧ Qn w v K D k ∧ Dn w u L l0 := by
  obtain ⟨v, vs, rfl, h1, h2⟩ := areArs_cons h
  obtain ⟨u, rfl, h3⟩ := ars_n h2
  exact ⟨v, u, rfl, isAr_q h1, h3⟩
theorem int_con {n : Int} (h0 : -9223372036854775808 ≤ n) (h1 : n ≤ 9223372036854775807) : Con Tryz.prog TT 135 [.v (.int .i64 n)] (resN n 0) := con_mk fun w hE l ha => by
  rw [ars_v ha]
  refine (int_any w hE n h0 h1).mono ?_
  rintro en w1 ⟨v', rfl, h1, hb⟩
  exact ⟨_, rfl, resN_is h1, hb⟩
theorem twos_con (K k : Int) : Con Tryz.prog TT 191 [.n K k] ⟨none, .int .i64 (twI K k)⟩ := con_mk fun w hE l ha => by
  obtain ⟨v, rfl, s, t, e, h1, h2⟩ := ars_n ha
  refine (twos_any w v s t 1 e h1).mono ?_
  rintro en w1 ⟨rfl, hb⟩
  exact ⟨_, rfl, by rw [tw_dr h2]; rfl, hb⟩
theorem mul_con {K k L l : Int} (h1 : inQ K 1 k) (h2 : inQ L 1 l) : Con Tryz.prog TT 95 [.n K k, .n L l] (resN (K * L) (k + l)) := con_mk fun w hE x ha => by
  obtain ⟨v, u, rfl, a, b⟩ := ars_nn ha
  refine (mulQ_any w hE v u K 1 k L 1 l a.qn b.qn h1 h2).mono ?_
  rintro en w1 ⟨v', rfl, h1, hb⟩
  exact ⟨_, rfl, resN_is h1.dn, hb⟩
theorem quo_con {K k L l : Int} (h1 : inQ K 1 k) (h2 : inQ L 1 l) (h3 : L ≠ 0) : Con Tryz.prog TT 34 [.n K k, .n L l] (resQE (quK K L) (quD L) (k - l) 0) := con_mk fun w hE x ha => by
  obtain ⟨v, u, rfl, a, b⟩ := ars_nn ha
  refine (quo_any w hE v u K k L l a b h1 h2 h3).mono ?_
  rintro en w1 ⟨v', rfl, h1, hb⟩
  exact ⟨_, rfl, resQE_is h1, hb⟩
theorem isIntQ_con (K D k : Int) : Con Tryz.prog TT 35 [.q K D k] ⟨none, .bool (isIQ K D k)⟩ := con_mk fun w hE l ha => by
  obtain ⟨v, rfl, s, t, b, e, h1, h2⟩ := ars_q ha
  refine (isInt_any w v s t b e h1 (by have := h2.bounds; omega)).mono ?_
  rintro en w1 ⟨rfl, hb⟩
  exact ⟨_, rfl, by rw [h2.isInt]; rfl, hb⟩
theorem floorQ_con {K D k : Int} (h : inQ K D k) : Con Tryz.prog TT 190 [.q K D k] (resN (floorQ K D k) 0) := con_mk fun w hE l ha => by
  obtain ⟨v, rfl, a⟩ := ars_q ha
  refine (floorQ_any w hE v K D k a h).mono ?_
  rintro en w1 ⟨v', rfl, h1, hb⟩
  exact ⟨_, rfl, resN_is h1, hb⟩
theorem addQ_con {K D k L l : Int} (h1 : inQ K D k) (h2 : inQ L 1 l) : Con Tryz.prog TT 30 [.q K D k, .n L l] (resQ (K * 2 ^ (k - min k l).toNat + L * D * 2 ^ (l - min k l).toNat) D (min k l)) := con_mk fun w hE x ha => by
  obtain ⟨v, u, rfl, a, b⟩ := ars_qn ha
  refine (addQ_any w hE v u K D k L l a b h1 h2).mono ?_
  rintro en w1 ⟨v', rfl, h1, hb⟩
  exact ⟨_, rfl, resQ_is h1, hb⟩

def intS (xs : List Ar) : Option Res := match xs with
  | [.v (.int .i64 n)] => some (resN n 0 : Res)
  | _ => none
def intP (xs : List Ar) : Bool := match xs with
  | [.v (.int .i64 n)] => decide (-9223372036854775808 ≤ n ∧ n ≤ 9223372036854775807)
  | _ => false
def intO : CF → St → Option (Value × St) := oracle 135 (conSpec TT intP intS)
theorem intO_ok : RunOkE Tryz.prog intO := con_oracle numG gTT roTT fun xs R h hp => by
  unfold intS at h
  split at h
  · injection h with h
    subst h
    unfold intP at hp; obtain ⟨h1, h2⟩ := of_decide_eq_true hp; exact int_con h1 h2
  · cases h

def twosS (xs : List Ar) : Option Res := match xs with
  | [.n K k] => some (⟨none, .int .i64 (twI K k)⟩ : Res)
  | _ => none
def twosP (xs : List Ar) : Bool := match xs with
  | [.n K k] => true
  | _ => false
def twosO : CF → St → Option (Value × St) := oracle 191 (conSpec TT twosP twosS)
theorem twosO_ok : RunOkE Tryz.prog twosO := con_oracle numG gTT roTT fun xs R h hp => by
  unfold twosS at h
  split at h
  · injection h with h
    subst h
    exact twos_con _ _
  · cases h

def mulS (xs : List Ar) : Option Res := match xs with
  | [.n K k, .n L l] => some (resN (K * L) (k + l) : Res)
  | _ => none
def mulP (xs : List Ar) : Bool := match xs with
  | [.n K k, .n L l] => decide (inQ K 1 k) && decide (inQ L 1 l)
  | _ => false
def mulO : CF → St → Option (Value × St) := oracle 95 (conSpec TT mulP mulS)
theorem mulO_ok : RunOkE Tryz.prog mulO := con_oracle numG gTT roTT fun xs R h hp => by
  unfold mulS at h
  split at h
  · injection h with h
    subst h
    unfold mulP at hp; rw [Bool.and_eq_true] at hp; exact mul_con (of_decide_eq_true hp.1) (of_decide_eq_true hp.2)
  · cases h

def quoS (xs : List Ar) : Option Res := match xs with
  | [.n K k, .n L l] => some (resQE (quK K L) (quD L) (k - l) 0 : Res)
  | _ => none
def quoP (xs : List Ar) : Bool := match xs with
  | [.n K k, .n L l] => decide (inQ K 1 k) && (decide (inQ L 1 l) && decide (L ≠ 0))
  | _ => false
def quoO : CF → St → Option (Value × St) := oracle 34 (conSpec TT quoP quoS)
theorem quoO_ok : RunOkE Tryz.prog quoO := con_oracle numG gTT roTT fun xs R h hp => by
  unfold quoS at h
  split at h
  · injection h with h
    subst h
    unfold quoP at hp; rw [Bool.and_eq_true, Bool.and_eq_true] at hp; exact quo_con (of_decide_eq_true hp.1) (of_decide_eq_true hp.2.1) (of_decide_eq_true hp.2.2)
  · cases h

def isIntQS (xs : List Ar) : Option Res := match xs with
  | [.q K D k] => some (⟨none, .bool (isIQ K D k)⟩ : Res)
  | _ => none
def isIntQP (xs : List Ar) : Bool := match xs with
  | [.q K D k] => true
  | _ => false
def isIntQO : CF → St → Option (Value × St) := oracle 35 (conSpec TT isIntQP isIntQS)
theorem isIntQO_ok : RunOkE Tryz.prog isIntQO := con_oracle numG gTT roTT fun xs R h hp => by
  unfold isIntQS at h
  split at h
  · injection h with h
    subst h
    exact isIntQ_con _ _ _
  · cases h

def floorQS (xs : List Ar) : Option Res := match xs with
  | [.q K D k] => some (resN (floorQ K D k) 0 : Res)
  | _ => none
def floorQP (xs : List Ar) : Bool := match xs with
  | [.q K D k] => decide (inQ K D k)
  | _ => false
def floorQO : CF → St → Option (Value × St) := oracle 190 (conSpec TT floorQP floorQS)
theorem floorQO_ok : RunOkE Tryz.prog floorQO := con_oracle numG gTT roTT fun xs R h hp => by
  unfold floorQS at h
  split at h
  · injection h with h
    subst h
    unfold floorQP at hp; exact floorQ_con (of_decide_eq_true hp)
  · cases h

def addQS (xs : List Ar) : Option Res := match xs with
  | [.q K D k, .n L l] => some (resQ (K * 2 ^ (k - min k l).toNat + L * D * 2 ^ (l - min k l).toNat) D (min k l) : Res)
  | _ => none
def addQP (xs : List Ar) : Bool := match xs with
  | [.q K D k, .n L l] => decide (inQ K D k) && decide (inQ L 1 l)
  | _ => false
def addQO : CF → St → Option (Value × St) := oracle 30 (conSpec TT addQP addQS)
theorem addQO_ok : RunOkE Tryz.prog addQO := con_oracle numG gTT roTT fun xs R h hp => by
  unfold addQS at h
  split at h
  · injection h with h
    subst h
    unfold addQP at hp; rw [Bool.and_eq_true] at hp; exact addQ_con (of_decide_eq_true hp.1) (of_decide_eq_true hp.2)
  · cases h

end Go.Proofs.YtnpocnckkaddbaaGreatDoor
