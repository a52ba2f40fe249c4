/-
  What the laws of words share: their arguments, the paths' pairs.
-/
import Derived.Test.YtnpocnckkaddbaaGreatDoorP29C
set_option linter.unusedVariables false
set_option linter.unusedSimpArgs false
set_option linter.unusedSectionVars false
namespace Go.Proofs.YtnpocnckkaddbaaGreatDoor
open Go.RowKit Go.Shelf Go.Canon

theorem vErr_zero {E P X : Int} (h : vErr E P X = 0) : Fmt E P ∧ X < 2 * signOf E P ∧ (kindOf E P X = 1 ∨ kindOf E P X = 2) ∧ vK E P X = opK E P X := by
  have hk : vK E P X = rdK E P X := by unfold vK; rw [if_pos h]
  unfold vErr at h
  split at h
  · rename_i he
    have hf : Fmt E P ∧ X < 2 * signOf E P := by
      unfold rdErr at he
      split at he
      · rename_i hF
        split at he
        · cases he
        · exact ⟨hF, by omega⟩
      · cases he
    split at h
    · rename_i hkd
      refine ⟨hf.1, hf.2, ?_, ?_⟩
      · unfold rdKind at hkd
        rw [if_pos he] at hkd
        omega
      · rw [hk]; unfold rdK; rw [if_pos he]
    · cases h
  · rename_i he
    exact absurd h he
def wv (h l : Int) : Value := .agg #[.int .u64 h, .int .u64 l]
def opV (E P m ah al bh bl ch cl : Int) : Value := .agg #[.int .i64 E, .int .i64 P, .int .i64 m, .int .u64 ah, .int .u64 al, .int .u64 bh, .int .u64 bl, .int .u64 ch, .int .u64 cl]
/-- both words are read: the first one only, both -/
def dA (E P ah al : Int) : Int := vErr E P (wX (wv ah al))
def dV (E P ah al : Int) : Int := vK E P (wX (wv ah al))
def lcs0 (ah al bh bl : Int) : List (Bool × Bool) := [(true, true), (wB (wv bh bl), true), (true, true), (wB (wv ah al), true)]
def lcs1 (E P ah al bh bl : Int) (i : Bool) : List (Bool × Bool) := (dA E P ah al == 0, i) :: lcs0 ah al bh bl
def lcs2 (E P ah al bh bl : Int) (i : Bool) : List (Bool × Bool) := (dA E P bh bl == 0, i) :: lcs1 E P ah al bh bl true
def lcs4 (l : List (Bool × Bool)) : List (Bool × Bool) := (true, true) :: (true, true) :: (true, true) :: (true, true) :: l
def lcsE (l : List (Bool × Bool)) : List (Bool × Bool) := (true, true) :: (true, true) :: l
def nP (K : Int) : Bool × Bool := (decide (K < 0) == decide (K < 0), true)
def lcsS (K : Int) (b : Bool) (l : List (Bool × Bool)) : List (Bool × Bool) := (decide (sgI K < 0), b) :: (true, true) :: nP K :: l
/-- K is compared with 2 L -/
def dbl (f L : Int) : Int := upK L f f + upK L f f
def pP (K k L l : Int) : Bool := decide (inB (upK K k l) (min k l)) && decide (inB (upK L l k) (min k l))
def lcsC (f K L : Int) (b : Bool) (l : List (Bool × Bool)) : List (Bool × Bool) :=
  (decide (cmpI (upK K f (min f f)) (upK (dbl f L) (min f f) f) > 0), b) :: (pP K f (dbl f L) (min f f), true) :: nP (dbl f L) :: nP K :: (pP L f L f, true) :: nP L :: nP L :: l
theorem vErr_of {E P X : Int} (h : Fmt E P) (h1 : X < 2 * signOf E P) (hk : kindOf E P X = 1 ∨ kindOf E P X = 2) : vErr E P X = 0 ∧ vK E P X = opK E P X := by
  have he : rdErr E P X = 0 := by unfold rdErr; rw [if_pos h, if_neg (by omega)]
  have hkd : rdKind E P X = kindOf E P X := by unfold rdKind; rw [if_pos he]
  have hv : vErr E P X = 0 := by unfold vErr; rw [if_pos he, hkd, if_pos (by omega)]
  exact ⟨hv, by unfold vK rdK; rw [if_pos hv, if_pos he]⟩
theorem kind_zero {E P X : Int} (h : X = 0 ∨ X = signOf E P) (hs : 0 < signOf E P) : kindOf E P X = 1 ∧ opK E P X = 0 := by
  have hz : sizW E P X = 0 := by
    unfold sizW sizeOf'
    rcases h with rfl | rfl
    · split <;> omega
    · split <;> omega
  have hk : kindOf E P X = 1 := by unfold kindOf; rw [if_pos hz]
  refine ⟨hk, ?_⟩
  unfold opK
  rw [hk]; simp
theorem nP_ok (K : Int) : (nP K).1 = (nP K).2 := by simp [nP]
theorem sg_lt (K : Int) : decide (sgI K < 0) = decide (K < 0) := by
  unfold sgI
  by_cases h0 : K = 0
  · rw [if_pos h0, h0]
  · rw [if_neg h0]
    by_cases h1 : K < 0
    · rw [if_pos h1, decide_eq_true h1]; rfl
    · rw [if_neg h1, decide_eq_false h1]; rfl
theorem cm_gt (K L : Int) : decide (cmpI K L > 0) = decide (K > L) := by
  unfold cmpI
  by_cases h0 : K < L
  · rw [if_pos h0, decide_eq_false (show ¬K > L by omega)]; rfl
  · rw [if_neg h0]
    by_cases h1 : L < K
    · rw [if_pos h1, decide_eq_true (show K > L from h1)]; rfl
    · rw [if_neg h1, decide_eq_false (show ¬K > L from h1)]; rfl
theorem upK_min (K f : Int) : upK K f (min f f) = K := by rw [show min f f = f by omega, upK_same]
theorem upK_min' (K f : Int) : upK K (min f f) f = K := by rw [show min f f = f by omega, upK_same]
theorem dbl_eq (f L : Int) : dbl f L = L + L := by unfold dbl; rw [upK_same]
theorem pP_ok {K L k : Int} (h1 : -sml < K ∧ K < sml) (h2 : -sml < L ∧ L < sml) (h3 : -50000 ≤ k ∧ k ≤ 50000) : pP K k L k = true := by
  unfold pP
  rw [upK_same, upK_same, show min k k = k by omega, decide_eq_true (show inB K k from ⟨h1.1, h1.2, h3.1, h3.2⟩), decide_eq_true (show inB L k from ⟨h2.1, h2.2, h3.1, h3.2⟩)]; rfl
theorem pP_min {K L k : Int} (h1 : -sml < K ∧ K < sml) (h2 : -sml < L ∧ L < sml) (h3 : -50000 ≤ k ∧ k ≤ 50000) : pP K k L (min k k) = true := by
  rw [show min k k = k by omega]; exact pP_ok h1 h2 h3
theorem lcsC_ok {f K L : Int} {b : Bool} (hf : -50000 ≤ f ∧ f ≤ 50000) (h1 : -sml < 2 * K ∧ 2 * K < sml) (h2 : -sml < 2 * L ∧ 2 * L < sml) (hb : decide (K > 2 * L) = b) {l : List (Bool × Bool)} (hl : ∀ c ∈ l, c.1 = c.2) : ∀ c ∈ lcsC f K L b l, c.1 = c.2 := by
  unfold lcsC
  simp only [List.forall_mem_cons]
  refine ⟨?_, ?_, nP_ok _, nP_ok _, pP_ok ⟨by omega, by omega⟩ ⟨by omega, by omega⟩ hf, nP_ok _, nP_ok _, hl⟩
  · rw [upK_min, upK_min', cm_gt, dbl_eq, ← hb]
    congr 2; omega
  · rw [dbl_eq]; exact pP_min ⟨by omega, by omega⟩ ⟨by omega, by omega⟩ hf
theorem lcsE_ok {l : List (Bool × Bool)} (hl : ∀ c ∈ l, c.1 = c.2) : ∀ c ∈ lcsE l, c.1 = c.2 := by
  unfold lcsE; simp only [List.forall_mem_cons]; exact ⟨trivial, trivial, hl⟩
theorem lcs4_ok {l : List (Bool × Bool)} (hl : ∀ c ∈ l, c.1 = c.2) : ∀ c ∈ lcs4 l, c.1 = c.2 := by
  unfold lcs4; simp only [List.forall_mem_cons]; exact ⟨trivial, trivial, trivial, trivial, hl⟩
theorem lcsS_ok {K : Int} {b : Bool} (hb : decide (K < 0) = b) {l : List (Bool × Bool)} (hl : ∀ c ∈ l, c.1 = c.2) : ∀ c ∈ lcsS K b l, c.1 = c.2 := by
  unfold lcsS; simp only [List.forall_mem_cons]; exact ⟨by rw [sg_lt]; exact hb, trivial, nP_ok _, hl⟩
end Go.Proofs.YtnpocnckkaddbaaGreatDoor
