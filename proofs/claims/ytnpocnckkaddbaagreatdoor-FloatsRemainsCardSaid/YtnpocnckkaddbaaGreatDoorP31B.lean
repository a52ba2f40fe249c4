/-
  The integer next to a quotient: its contract.
-/
import Derived.Test.YtnpocnckkaddbaaGreatDoorP31A
import Derived.Test.YtnpocnckkaddbaaGreatDoorP29D
set_option linter.unusedVariables false
set_option linter.unusedSimpArgs false
set_option linter.unusedSectionVars false
namespace Go.Proofs.YtnpocnckkaddbaaGreatDoor
open Go.RowKit Go.Shelf Go.Canon

def nearC : CF → St → Option (Value × St) := orElse intO (orElse twosO (orElse powerO (orElse addQO (orElse floorQO (orElse isIntQO (orElse signO subO))))))
theorem nearC_ok : RunOkE Tryz.prog nearC := orElse_ok intO_ok (orElse_ok twosO_ok (orElse_ok powerO_ok (orElse_ok addQO_ok (orElse_ok floorQO_ok (orElse_ok isIntQO_ok (orElse_ok signO_ok subO_ok))))))
noncomputable def nearRun (K D k : Int) (an : List Bool) (n : Nat) : Option (Value × Option CObj × List (Bool × Bool)) := conRun Tryz.prog TR nearC 1000 123 [.q K D k] an n
/-- one half more; in which steps; rounded down -/
def hA (K D k : Int) : Int := K * 2 ^ (k - min k (-1)).toNat + 1 * D * 2 ^ (-1 - min k (-1)).toNat
def hm (k : Int) : Int := min k (-1)
def hF (K D k : Int) : Int := floorQ (hA K D k) D (hm k)
def ncs0 (K D k : Int) (nz : Bool) : List (Bool × Bool) :=
  [(sgI (hF K D k) != 0, nz), (true, true), nP (hF K D k), (true, true), (decide (inQ (hA K D k) D (hm k)), true), nP (hA K D k), (true, true),
   (decide (inQ K D k) && decide (inQ 1 1 (-1)), true), nP 1, nP K, (decide ((-20000 : Int) ≤ -1 ∧ (-1 : Int) ≤ 20000), true)]
def ncs1 (K D k : Int) (od : Bool) : List (Bool × Bool) := (twI (hF K D k) 0 == 0, od) :: (true, true) :: nP (hF K D k) :: ncs0 K D k true
def ncs2 (K D k : Int) (t : Bool) : List (Bool × Bool) := (isIQ (hA K D k) D (hm k), t) :: (true, true) :: nP (hA K D k) :: ncs1 K D k true
def ncs3 (K D k : Int) : List (Bool × Bool) :=
  (decide (inB (upK (hF K D k) 0 0) (min 0 0)) && decide (inB (upK 1 0 0) (min 0 0)), true) :: nP 1 :: nP (hF K D k) :: (decide ((-9223372036854775808 : Int) ≤ 1 ∧ (1 : Int) ≤ 9223372036854775807), true) :: ncs2 K D k true
set_option maxRecDepth 1000000 in
theorem near_a (K D k : Int) : nearRun K D k [false, true] 17 = some (subst 17 4 (numT (hF K D k)), some (.ghost 0 [hF K D k, 0]), (true, true) :: ncs0 K D k false) := by kernel_rfl
set_option maxRecDepth 1000000 in
theorem near_b (K D k : Int) : nearRun K D k [true, false, true] 17 = some (subst 17 4 (numT (hF K D k)), some (.ghost 0 [hF K D k, 0]), (true, true) :: ncs1 K D k false) := by kernel_rfl
set_option maxRecDepth 1000000 in
theorem near_c (K D k : Int) : nearRun K D k [true, true, false, true] 17 = some (subst 17 4 (numT (hF K D k)), some (.ghost 0 [hF K D k, 0]), (true, true) :: ncs2 K D k false) := by kernel_rfl
set_option maxRecDepth 1000000 in
theorem near_d (K D k : Int) : nearRun K D k [true, true, true, true] 20 = some (subst 20 4 (numT (upK (hF K D k) 0 0 - upK 1 0 0)), some (.ghost 0 [upK (hF K D k) 0 0 - upK 1 0 0, min 0 0]), (true, true) :: ncs3 K D k) := by kernel_rfl
theorem quo_size {a d : Int} (hd : 0 < d) : ((a / d).natAbs : Int) ≤ a.natAbs := by
  have h1 := Int.mul_ediv_add_emod a d
  have h2 := Int.emod_nonneg a (Int.ne_of_gt hd)
  have h3 := Int.emod_lt_of_pos a hd
  generalize a / d = q at *
  by_cases hq : 0 ≤ q
  · have := Int.mul_le_mul_of_nonneg_right (show 1 ≤ d by omega) hq
    omega
  · have h4 := Int.mul_le_mul_of_nonneg_right (show 1 ≤ d by omega) (show 0 ≤ -(q + 1) by omega)
    rw [Int.one_mul, Int.mul_neg, Int.mul_add, Int.mul_one] at h4
    omega
theorem near_con {K D k : Int} (hk : k = 0) (h : inQ K D 0) (h2 : inQ (2 * K + D) D (-1)) : Con Tryz.prog TR 123 [.q K D k] (resN (nrI K D) 0) := by
  subst hk
  have g : ∀ x, Ar.v x ∈ [Ar.q K D 0] → ground 9 x = true := fun x hx => by simp at hx
  have eA : hA K D 0 = 2 * K + D := by
    unfold hA
    rw [show (0 - min (0 : Int) (-1)).toNat = 1 from rfl, show (-1 - min (0 : Int) (-1)).toNat = 0 from rfl]
    simp; omega
  have em : hm 0 = -1 := rfl
  have hD := h.2.2.1
  have eF : hF K D 0 = nr0 K D := by
    unfold hF floorQ nr0
    rw [eA, em, show ((-1 : Int)).toNat = 0 from rfl, show (-(-1 : Int)).toNat = 1 from rfl]
    simp
    rw [Int.mul_comm D 2]
  have eI : isIQ (hA K D 0) D (hm 0) = nrT K D := by
    unfold isIQ nrT
    rw [eA, em, show ((-1 : Int)).toNat = 0 from rfl, show (-(-1 : Int)).toNat = 1 from rfl]
    simp only [Int.pow_zero, Int.mul_one, Int.pow_succ, Int.one_mul]
    rw [Int.mul_comm D 2]
  have hsz := quo_size (a := 2 * K + D) (d := 2 * D) (by omega)
  have hF0 : nr0 K D = (2 * K + D) / (2 * D) := rfl
  rw [← hF0] at hsz
  have hqs : qs < sml := by
    have := p2_mono (show 2401 ≤ 60000 by omega)
    rw [Int.pow_succ] at this
    have := p2pos 2400
    unfold qs sml; omega
  have i1 : inQ 1 1 (-1) := ⟨by unfold qs; have := p2_one; omega, by unfold qs; exact p2_one, by omega, by unfold qs; exact p2_one, by omega, by omega⟩
  have c0 : ∀ nz, (sgI (nr0 K D) != 0) = nz → ∀ c ∈ ncs0 K D 0 nz, c.1 = c.2 := by
    intro nz hz
    unfold ncs0
    simp only [List.forall_mem_cons, eA, em, eF]
    exact ⟨hz, trivial, nP_ok _, trivial, decide_eq_true h2, nP_ok _, trivial, by rw [decide_eq_true h, decide_eq_true i1]; rfl, nP_ok _, nP_ok _, by decide, fun c hc => by cases hc⟩
  have c1 : ∀ od, (sgI (nr0 K D) != 0) = true → (twI (nr0 K D) 0 == 0) = od → ∀ c ∈ ncs1 K D 0 od, c.1 = c.2 := by
    intro od hz ho
    unfold ncs1
    simp only [List.forall_mem_cons, eF]
    exact ⟨ho, trivial, nP_ok _, c0 _ hz⟩
  have c2 : ∀ t, (sgI (nr0 K D) != 0) = true → (twI (nr0 K D) 0 == 0) = true → nrT K D = t → ∀ c ∈ ncs2 K D 0 t, c.1 = c.2 := by
    intro t hz ho ht
    unfold ncs2
    simp only [List.forall_mem_cons, eI]
    exact ⟨ht, trivial, nP_ok _, c1 _ hz ho⟩
  have hs0 : (sgI (nr0 K D) != 0) = decide (nr0 K D ≠ 0) := by
    unfold sgI
    by_cases hz : nr0 K D = 0
    · rw [if_pos hz, decide_eq_false (by simpa using hz)]; rfl
    · rw [if_neg hz, decide_eq_true hz]; split <;> rfl
  by_cases hz : nr0 K D = 0
  · have e : nrI K D = nr0 K D := by unfold nrI; rw [hz]; simp
    have hrun := near_a K D 0
    rw [eF] at hrun
    rw [e]
    exact con_num nearC_ok hrun (by simp only [List.forall_mem_cons]; exact ⟨trivial, c0 _ (by rw [hs0, decide_eq_false (by simpa using hz)])⟩) (by simp) g
  · have hz' : (sgI (nr0 K D) != 0) = true := by rw [hs0, decide_eq_true hz]
    by_cases ho : nr0 K D % 2 = 0
    · have e : nrI K D = nr0 K D := by unfold nrI; rw [if_neg (by omega)]
      have ht : (twI (nr0 K D) 0 == 0) = false := by
        rw [beq_eq_false_iff_ne]
        exact fun h => (tw_odd hz).1 h ho
      have hrun := near_b K D 0
      rw [eF] at hrun
      rw [e]
      exact con_num nearC_ok hrun (by simp only [List.forall_mem_cons]; exact ⟨trivial, c1 _ hz' ht⟩) (by simp) g
    · have ht : (twI (nr0 K D) 0 == 0) = true := by rw [beq_iff_eq]; exact (tw_odd hz).2 ho
      cases hi : nrT K D
      · have e : nrI K D = nr0 K D := by unfold nrI; rw [hi]; simp
        have hrun := near_c K D 0
        rw [eF] at hrun
        rw [e]
        exact con_num nearC_ok hrun (by simp only [List.forall_mem_cons]; exact ⟨trivial, c2 _ hz' ht hi⟩) (by simp) g
      · have e : nrI K D = nr0 K D - 1 := by unfold nrI; rw [hi, if_pos ⟨ho, rfl⟩]
        have hrun := near_d K D 0
        rw [eF, upK_same, upK_same, show min (0 : Int) 0 = 0 from rfl] at hrun
        rw [e]
        refine con_num nearC_ok hrun ?_ (by simp) g
        unfold ncs3
        simp only [List.forall_mem_cons, eF]
        obtain ⟨a1, a2, _⟩ := h2
        refine ⟨trivial, ?_, nP_ok _, nP_ok _, by decide, c2 _ hz' ht hi⟩
        rw [upK_same, upK_same, show min (0 : Int) 0 = 0 from rfl, decide_eq_true (show inB (nr0 K D) 0 from ⟨by omega, by omega, by omega, by omega⟩), decide_eq_true (show inB 1 0 from ⟨by have := p2pos 60000; unfold sml; omega, by unfold sml at *; unfold qs at hqs; have := p2_one; omega, by omega, by omega⟩)]; rfl
def nearS (xs : List Ar) : Option Res := match xs with
  | [.q K D _] => some (resN (nrI K D) 0 : Res)
  | _ => none
def nearP (xs : List Ar) : Bool := match xs with
  | [.q K D k] => decide (k = 0 ∧ inQ K D 0 ∧ inQ (2 * K + D) D (-1))
  | _ => false
def nearO : CF → St → Option (Value × St) := oracle 123 (conSpec TR nearP nearS)
theorem nearO_ok : RunOkE Tryz.prog nearO := con_oracle numG gTR roTR2 fun xs R h hp => by
  unfold nearS at h
  split at h
  · injection h with h
    subst h
    unfold nearP at hp
    obtain ⟨h1, h2, h3⟩ := of_decide_eq_true hp
    exact near_con h1 h2 h3
  · cases h
end Go.Proofs.YtnpocnckkaddbaaGreatDoor
