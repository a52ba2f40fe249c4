/-
  FloatsRemains: the paths of the law; it returns true whatever its argument. Condition: E, P, m any numbers, the halves of the words below 2^64.
-/
import Derived.Test.YtnpocnckkaddbaaGreatDoorP31D
set_option linter.unusedVariables false
set_option linter.unusedSimpArgs false
set_option linter.unusedSectionVars false
namespace Go.Proofs.YtnpocnckkaddbaaGreatDoor
open Go.RowKit Go.Shelf Go.Canon

def rlC : CF → St → Option (Value × St) := orElse awakeO (orElse valueO (orElse remO (orElse signO (orElse addO (orElse absO (orElse cmpO (orElse subO (orElse quoO isIntQO))))))))
theorem rlC_ok : RunOkE Tryz.prog rlC := orElse_ok awakeO_ok (orElse_ok valueO_ok (orElse_ok remO_ok (orElse_ok signO_ok (orElse_ok addO_ok (orElse_ok absO_ok (orElse_ok cmpO_ok (orElse_ok subO_ok (orElse_ok quoO_ok isIntQO_ok))))))))
noncomputable def rlRun (E P m ah al bh bl ch cl : Int) (an : List Bool) : Option (Value × Option CObj × List (Bool × Bool)) := conRun Tryz.prog TL (nest rlC 1) 1000 5 [.v (opV E P m ah al bh bl ch cl)] an 1
/-- the word of the remainder, its flags, its number; twice that; what is taken away -/
def mW (E P ah al bh bl : Int) : Int := if kindOf E P (wX (wv bh bl)) = 1 then quietOf E P else rmW E P (opK E P (wX (wv ah al))) (opK E P (wX (wv bh bl))) (negOf E P (wX (wv ah al)))
def mF (E P ah al bh bl : Int) : Int := if kindOf E P (wX (wv bh bl)) = 1 then 1 else rmF E P (opK E P (wX (wv ah al))) (opK E P (wX (wv bh bl)))
def mV (E P ah al bh bl : Int) : Int := vK E P (wX (wordV (mW E P ah al bh bl)))
def tK (f A R : Int) : Int := upK A f f - upK R f f
def mPr (E P ah al bh bl : Int) : Bool := wB (wv ah al) && (wB (wv bh bl) && (vErr E P (wX (wv ah al)) == 0 && vErr E P (wX (wv bh bl)) == 0))
def mcs0 (E P ah al bh bl : Int) (z : Bool) : List (Bool × Bool) :=
  (sgI (dV E P bh bl) == 0, z) :: (true, true) :: nP (dV E P bh bl) :: (true, true) :: (wB (wordV (mW E P ah al bh bl)), true) :: (true, true) :: (mPr E P ah al bh bl, true) :: lcs4 (lcs2 E P ah al bh bl true)
def mcs1 (f R B : Int) (l : List (Bool × Bool)) : List (Bool × Bool) :=
  (decide (cmpI (upK ((dbl f R).natAbs : Int) (min f f) f) (upK (B.natAbs : Int) f (min f f)) > 0), false) :: (pP ((dbl f R).natAbs : Int) (min f f) (B.natAbs : Int) f, true) :: nP (B.natAbs : Int) :: nP ((dbl f R).natAbs : Int) :: (true, true) :: nP B ::
    (true, true) :: nP (dbl f R) :: (pP R f R f, true) :: nP R :: nP R :: l
def mcs2 (f A R B : Int) (l : List (Bool × Bool)) : List (Bool × Bool) :=
  (isIQ (quK (tK f A R) B) (quD B) (min f f - f), true) :: (true, true) :: nP (quK (tK f A R) B) :: (true, true) :: (true, true) :: (decide (inQ (tK f A R) 1 (min f f)) && (decide (inQ B 1 f) && decide (B ≠ 0)), true) :: nP B :: nP (tK f A R) :: (pP A f R f, true) :: nP R :: nP A :: l
set_option maxRecDepth 1000000 in
theorem rl_a (E P m ah al bh bl ch cl : Int) : rlRun E P m ah al bh bl ch cl [false, true, true] = some (.bool true, some (.fact 0), lcsE (lcs4 (lcs1 E P ah al bh bl false))) := by kernel_rfl
set_option maxRecDepth 1000000 in
theorem rl_b (E P m ah al bh bl ch cl : Int) : rlRun E P m ah al bh bl ch cl [true, false, true, true] = some (.bool true, some (.fact 0), lcsE (lcs4 (lcs2 E P ah al bh bl false))) := by kernel_rfl
set_option maxRecDepth 1000000 in
theorem rl_c (E P m ah al bh bl ch cl : Int) : rlRun E P m ah al bh bl ch cl [true, true, true, true, true, true, true, true] =
  some (.bool true, some (.fact 0), lcsE ((mF E P ah al bh bl == 1, true) :: (vErr E P (wX (wordV (mW E P ah al bh bl))) == 4, true) :: (true, true) :: mcs0 E P ah al bh bl true)) := by kernel_rfl
set_option maxRecDepth 1000000 in
theorem rl_d (E P m ah al bh bl ch cl : Int) : rlRun E P m ah al bh bl ch cl [true, true, false, false, false, false, false, true, true, true, true] =
  some (.bool true, some (.fact 0), lcsE (mcs2 (fineOf E P) (dV E P ah al) (mV E P ah al bh bl) (dV E P bh bl) (mcs1 (fineOf E P) (mV E P ah al bh bl) (dV E P bh bl)
    ((mF E P ah al bh bl != 0, false) :: (vErr E P (wX (wordV (mW E P ah al bh bl))) != 0, false) :: (false, false) :: mcs0 E P ah al bh bl false)))) := by kernel_rfl

theorem sg_eq (K : Int) : (sgI K == 0) = decide (K = 0) := by
  unfold sgI
  by_cases h0 : K = 0
  · rw [if_pos h0, decide_eq_true h0]; rfl
  · rw [if_neg h0, decide_eq_false h0]; split <;> rfl
theorem rem_law {E P m ah al bh bl ch cl : Int} (hA : wB (wv ah al) = true) (hB : wB (wv bh bl) = true) : Con Tryz.prog TL 5 [.v (opV E P m ah al bh bl ch cl)] ⟨none, .bool true⟩ := by
  have g : ∀ x, Ar.v x ∈ [Ar.v (opV E P m ah al bh bl ch cl)] → ground 9 x = true := fun x hx => by
    simp at hx; subst hx; rfl
  have fin : ∀ {an : List Bool} {o : Option CObj} {cs : List (Bool × Bool)}, rlRun E P m ah al bh bl ch cl an = some (.bool true, o, lcsE cs) → (∀ c ∈ cs, c.1 = c.2) → Con Tryz.prog TL 5 [.v (opV E P m ah al bh bl ch cl)] ⟨none, .bool true⟩ :=
    fun h hcs => con_of_run numG noCountP mixedP gTL roTL sizeP (nest_ok rlC_ok 1) (by simp) g h (lcsE_ok hcs) ⟨rfl, rfl⟩
  have l0 : ∀ c ∈ lcs0 ah al bh bl, c.1 = c.2 := by
    unfold lcs0; simp only [List.forall_mem_cons]; exact ⟨trivial, hB, trivial, hA, fun c hc => by cases hc⟩
  by_cases eA : dA E P ah al = 0
  · have l1 : ∀ c ∈ lcs1 E P ah al bh bl true, c.1 = c.2 := by
      unfold lcs1; simp only [List.forall_mem_cons]; exact ⟨by rw [eA]; rfl, l0⟩
    by_cases eB : dA E P bh bl = 0
    · have l2 : ∀ c ∈ lcs2 E P ah al bh bl true, c.1 = c.2 := by
        unfold lcs2; simp only [List.forall_mem_cons]; exact ⟨by rw [eB]; rfl, l1⟩
      obtain ⟨hF, a1, kA, vA⟩ := vErr_zero eA
      obtain ⟨_, b1, kB, vB⟩ := vErr_zero eB
      have a0 := (wX_range hA).1
      have b0 := (wX_range hB).1
      have hK := opK_lt hF a0 a1 kA
      have hL := opK_lt hF b0 b1 kB
      have hm := max_sml hF
      have hq := max_qs hF
      have hsg := sign_range hF
      have hbr := bias_range hF.1 hF.2.1
      have hf : -1200 ≤ fineOf E P ∧ fineOf E P ≤ 0 := ⟨by have := hF.2.2.2.1; unfold fineOf; omega, fine_le hF⟩
      have hf5 : -50000 ≤ fineOf E P ∧ fineOf E P ≤ 50000 := by omega
      have o1 : (1 : Int) < qs := p2_one
      have vA' : dV E P ah al = opK E P (wX (wv ah al)) := vA
      have vB' : dV E P bh bl = opK E P (wX (wv bh bl)) := vB
      have eA' : vErr E P (wX (wv ah al)) = 0 := eA
      have eB' : vErr E P (wX (wv bh bl)) = 0 := eB
      have hp : mPr E P ah al bh bl = true := by unfold mPr; rw [hA, hB, eA', eB']; rfl
      have e0 : ∀ z, wB (wordV (mW E P ah al bh bl)) = true → decide (dV E P bh bl = 0) = z → ∀ c ∈ mcs0 E P ah al bh bl z, c.1 = c.2 := by
        intro z hw hz
        unfold mcs0
        simp only [List.forall_mem_cons]
        exact ⟨by rw [sg_eq]; exact hz, trivial, nP_ok _, trivial, hw, trivial, hp, lcs4_ok l2⟩
      by_cases hk : kindOf E P (wX (wv bh bl)) = 1
      · have hz : dV E P bh bl = 0 := by rw [vB']; exact op_zero hk
        have hmW : mW E P ah al bh bl = quietOf E P := by unfold mW; rw [if_pos hk]
        have hmF : mF E P ah al bh bl = 1 := by unfold mF; rw [if_pos hk]
        obtain ⟨q1, q2⟩ := quiet_val hF
        refine fin (rl_c E P m ah al bh bl ch cl) ?_
        simp only [List.forall_mem_cons, hmF, wX_wordV]
        exact ⟨rfl, by rw [hmW, q2]; rfl, trivial, e0 _ (by rw [hmW]; exact wB_wordV q1.1 (by omega)) (decide_eq_true hz)⟩
      · have kB2 : kindOf E P (wX (wv bh bl)) = 2 := by omega
        have hne := op_ne hF b0 b1 kB2
        obtain ⟨r1, r2, r3, r4⟩ := rem_val (na := negOf E P (wX (wv ah al))) hF a0 a1 b0 b1 kA kB2
        have hmW : mW E P ah al bh bl = rmW E P (opK E P (wX (wv ah al))) (opK E P (wX (wv bh bl))) (negOf E P (wX (wv ah al))) := by unfold mW; rw [if_neg hk]
        have hmF : mF E P ah al bh bl = rmF E P (opK E P (wX (wv ah al))) (opK E P (wX (wv bh bl))) := by unfold mF; rw [if_neg hk]
        have hmV : mV E P ah al bh bl = rmR (opK E P (wX (wv ah al))) (opK E P (wX (wv bh bl))) := by unfold mV; rw [wX_wordV, hmW, r4]
        have e0' := e0 false (by rw [hmW]; exact wB_wordV r2.1 (by omega)) (by rw [vB']; exact decide_eq_false hne)
        obtain ⟨n1, n2⟩ := rm_near (A := opK E P (wX (wv ah al))) hne
        have hbk := rm_back (opK E P (wX (wv ah al))) (opK E P (wX (wv bh bl)))
        refine fin (rl_d E P m ah al bh bl ch cl) ?_
        rw [hmV, vA', vB']
        have hv : vErr E P (wX (wordV (mW E P ah al bh bl))) = 0 := by rw [wX_wordV, hmW, r3]
        have hff : mF E P ah al bh bl = 0 := by rw [hmF, r1]
        clear l0 l1 l2 e0 r1 r2 r3 r4 hmW hmF hmV fin g
        generalize opK E P (wX (wv ah al)) = A at *
        generalize opK E P (wX (wv bh bl)) = B at *
        generalize hR : rmR A B = R at *
        have hmn : min (fineOf E P) (fineOf E P) = fineOf E P := by omega
        have etK : tK (fineOf E P) A R = A - R := by unfold tK; rw [upK_same, upK_same]
        unfold mcs2 mcs1
        simp only [List.forall_mem_cons, hmn, etK, dbl_eq, upK_same, hv, hff, cm_gt]
        refine ⟨?_, trivial, nP_ok _, trivial, trivial, ?_, nP_ok _, nP_ok _, pP_ok ⟨by omega, by omega⟩ ⟨by omega, by omega⟩ hf5, nP_ok _, nP_ok _, decide_eq_false (by omega), pP_ok ⟨by omega, by omega⟩ ⟨by omega, by omega⟩ hf5, nP_ok _, nP_ok _, trivial, nP_ok _, trivial, nP_ok _,
          pP_ok ⟨by omega, by omega⟩ ⟨by omega, by omega⟩ hf5, nP_ok _, nP_ok _, rfl, rfl, trivial, e0'⟩
        · rw [show fineOf E P - fineOf E P = 0 by omega]; exact hbk
        · rw [decide_eq_true (show inQ (A - R) 1 (fineOf E P) from ⟨by omega, by omega, by omega, o1, by omega, by omega⟩), decide_eq_true (show inQ B 1 (fineOf E P) from ⟨by omega, by omega, by omega, o1, by omega, by omega⟩), decide_eq_true hne]; rfl
    · refine fin (rl_b E P m ah al bh bl ch cl) (lcs4_ok ?_)
      unfold lcs2; simp only [List.forall_mem_cons]; exact ⟨by simpa using eB, l1⟩
  · refine fin (rl_a E P m ah al bh bl ch cl) (lcs4_ok ?_)
    unfold lcs1; simp only [List.forall_mem_cons]; exact ⟨by simpa using eA, l0⟩
end Go.Proofs.YtnpocnckkaddbaaGreatDoor
