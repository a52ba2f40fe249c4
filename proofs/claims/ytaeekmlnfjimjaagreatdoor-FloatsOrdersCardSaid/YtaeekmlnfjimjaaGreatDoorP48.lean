/-
  The reference's Next, upwards: what it returns: the same as the machine's.
-/
import Derived.Test.YtaeekmlnfjimjaaGreatDoorP47
set_option linter.unusedVariables false
set_option linter.unusedSimpArgs false
set_option linter.unusedSectionVars false
namespace Go.Proofs.YtaeekmlnfjimjaaGreatDoor
open Go.RowKit Go.Shelf Go.Canon

theorem kind_one {E P X : Int} : kindOf E P X = 1 ↔ sizW E P X = 0 := by
  unfold kindOf
  split
  · rename_i h; exact ⟨fun _ => h, fun _ => rfl⟩
  · rename_i h
    refine ⟨fun hk => ?_, fun hk => absurd hk h⟩
    split at hk
    · omega
    · split at hk
      · omega
      · split at hk <;> omega
theorem kind_three {E P X : Int} (h : Fmt E P) : kindOf E P X = 3 ↔ sizW E P X = infOf E P := by
  have hi := (inf_range h).1
  unfold kindOf
  split
  · rename_i h0; exact ⟨fun hc => by omega, fun hc => by omega⟩
  · split
    · rename_i h0 h1; exact ⟨fun _ => h1, fun _ => rfl⟩
    · rename_i h0 h1
      refine ⟨fun hk => ?_, fun hk => absurd hk h1⟩
      split at hk
      · omega
      · split at hk <;> omega
set_option maxHeartbeats 4000000 in
theorem rnext_up {E P X : Int} (x0 : 0 ≤ X) (x1 : X < two128) : Con Tryz.prog TR 25 [.v (fmtW E P), .v (wordV X), .v (.bool true)] ⟨none, nxRes E P X true⟩ := by
  have g := ground3 (fmtW E P) (wordV X) (.bool true) rfl rfl rfl
  have ok := nest_ok rnC_ok 6
  have bX : wB (wordV X) = true := wB_wordV x0 x1
  unfold nxRes nxE wErr nxW
  by_cases h : Fmt E P
  · rw [if_pos h]
    have m2 : decide (Fmt E P) = true := decide_eq_true h
    have a0 : (askE E P 0 == 0) = true := by unfold askE; rw [if_neg (by omega), if_pos h]; rfl
    have a1 : (askE E P 0 != 0) = false := by unfold askE; rw [if_neg (by omega), if_pos h]; rfl
    have fX : (decide (Fmt E P) && wB (wordV X)) = true := by rw [bX, m2]; rfl
    by_cases hX : X < 2 * signOf E P
    · have lX : decide (wX (wordV X) < 2 * signOf E P) = true := by rw [wX_wordV]; exact decide_eq_true hX
      have gX : (decide (Fmt E P) && (wB (wordV X) && decide (wX (wordV X) < 2 * signOf E P))) = true := by rw [bX, lX, m2]; rfl
      rw [if_pos (all1.2 hX), if_pos rfl]
      have kX := kind_range E P X
      have nX : negOf E P (wX (wordV X)) = negOf E P X := by rw [wX_wordV]
      by_cases x4 : kindOf E P X = 4
      · have d1 := kk_t x4
        rw [if_pos (show kindOf E P X = 4 ∨ kindOf E P X = 5 from .inl x4), if_neg (show ¬ (4 : Int) = 0 by decide)]
        exact con_plain ok (rn_q1 E P X (negOf E P (wX (wordV X)))) (by simp only [rn_q1_cs, List.forall_mem_cons]; (repeat' apply And.intro) <;> first | exact True.intro | with_reducible rfl | with_reducible assumption | (intro c hc; cases hc) | (simp [nX]; done)) (by simp) g rfl rfl
      have d1 := kk_f x4
      by_cases x5 : kindOf E P X = 5
      · have d2 := kk_t x5
        rw [if_pos (show kindOf E P X = 4 ∨ kindOf E P X = 5 from .inr x5), if_neg (show ¬ (4 : Int) = 0 by decide)]
        exact con_plain ok (rn_s1 E P X (negOf E P (wX (wordV X)))) (by simp only [rn_s1_cs, List.forall_mem_cons]; (repeat' apply And.intro) <;> first | exact True.intro | with_reducible rfl | with_reducible assumption | (intro c hc; cases hc) | (simp [nX]; done)) (by simp) g rfl rfl
      have d2 := kk_f x5
      rw [if_neg (show ¬ (kindOf E P X = 4 ∨ kindOf E P X = 5) by omega), if_pos rfl, if_pos rfl]
      unfold aboveOf
      have hs := sign_range h
      have hle := leD_pos E P
      obtain ⟨_, g1, g2⟩ := gr_lt h
      have p1 : decide (-9223372036854775808 ≤ (1 : Int) ∧ (1 : Int) ≤ 9223372036854775807) = true := by decide
      rw [two128_eq] at x1 hs
      by_cases xz : kindOf E P X = 1
      · have d3 := kk_t xz
        rw [if_pos (kind_one.1 xz)]
        have i1 : R.inR 1 (leD E P) := inR_big (by omega) (by omega)
        have p2 : (decide (Fmt E P) && decide (R.inR (1 : Int) (leD E P))) = true := by rw [m2, decide_eq_true i1]; rfl
        have p3 : decide (((1 : Int).natAbs : Int) * noD E < leD E P) = true := by
          apply decide_eq_true
          have hb := bias_range h.1 h.2.1
          have hP := h.2.2.1
          have e1 : leD E P = 2 ^ ((biasOf E - 1).toNat + (P - 1).toNat) := by unfold leD; congr 1; omega
          have e2 := p2pos (biasOf E - 1).toNat
          have e3 := p2_le (show 1 ≤ (P - 1).toNat by omega)
          rw [e1, Int.pow_add, show (((1 : Int).natAbs : Int)) = 1 from rfl, Int.one_mul]
          show (2 : Int) ^ (biasOf E - 1).toNat < _
          have := Int.mul_le_mul_of_nonneg_left e3 (Int.le_of_lt e2)
          rw [show (2 : Int) ^ 1 = 2 from rfl] at this
          omega
        have p4 : (decide (R.inR (1 : Int) (leD E P)) && (decide (R.inR (1 : Int) (leD E P)) && decide ((1 : Int) ≠ 0))) = true := by rw [decide_eq_true i1]; rfl
        clear i1
        have e1 : (if (1 : Int) < 0 then -((1 : Int) * (leD E P)) else (1 : Int) * (leD E P)) = leD E P := by rw [if_neg (by decide), Int.one_mul]
        have e2 : ((leD E P) * (1 : Int).natAbs) = leD E P := Int.mul_one _
        have e3 : (if (1 : Int) < 0 then -((1 : Int) * (leD E P)) else (1 : Int) * (leD E P)) / ((leD E P) * (1 : Int).natAbs) = 1 := by rw [e1, e2]; exact Int.ediv_self (by omega)
        have p5 : (decide (Fmt E P) && decide (0 ≤ (0 : Int) ∧ (0 : Int) < 2048 ∧ intR (if (1 : Int) < 0 then -((1 : Int) * (leD E P)) else (1 : Int) * (leD E P)) ((leD E P) * (1 : Int).natAbs) ∧ 0 ≤ (if (1 : Int) < 0 then -((1 : Int) * (leD E P)) else (1 : Int) * (leD E P)) / ((leD E P) * (1 : Int).natAbs) ∧ (if (1 : Int) < 0 then -((1 : Int) * (leD E P)) else (1 : Int) * (leD E P)) / ((leD E P) * (1 : Int).natAbs) < 10000000000000000000000000000000000000)) = true := by
          rw [m2, e3, decide_eq_true ⟨by omega, by omega, by rw [e1, e2]; exact Int.emod_self, by omega, by omega⟩]; rfl
        refine con_plain ok (rn_z E P X (negOf E P (wX (wordV X)))) (by simp only [rn_z_cs, List.forall_mem_cons]; (repeat' apply And.intro) <;> first | exact True.intro | with_reducible rfl | with_reducible assumption | (intro c hc; cases hc) | (simp [nX]; done)) (by simp) g ?_ rfl
        rw [e3]; unfold cdOf; rw [Int.zero_mul, if_neg (by decide)]; rfl
      have d3 := kk_f xz
      rw [if_neg (fun hc => xz (kind_one.2 hc))]
      have i1 : R.inR X 1 := inR_sm (by omega)
      have i2 : R.inR 1 1 := inR_sm (by decide)
      have p2 : (decide (R.inR (wX (wordV X)) (1 : Int)) && decide (R.inR (1 : Int) (1 : Int))) = true := by rw [wX_wordV, decide_eq_true i1, decide_eq_true i2]; rfl
      clear i1 i2
      have eA : ((wX (wordV X)) * (1 : Int) + (1 : Int) * (1 : Int)) = X + 1 := by rw [wX_wordV]; omega
      have eS : ((wX (wordV X)) * (1 : Int) + -(1 : Int) * (1 : Int)) = X - 1 := by rw [wX_wordV]; omega
      have e1 : ((1 : Int) * (1 : Int)) = 1 := rfl
      have xp : ¬ X = 0 := by
        rintro rfl
        apply xz
        refine kind_one.2 ?_
        unfold sizW sizeOf'; rw [if_pos (by omega)]
      have q1 : decide (intR (X + 1) 1 ∧ 0 ≤ (X + 1) / 1 ∧ (X + 1) / 1 < 340282366920938463463374607431768211456) = true := decide_eq_true ⟨by unfold intR; omega, by omega, by omega⟩
      have q2 : decide (intR (X - 1) 1 ∧ 0 ≤ (X - 1) / 1 ∧ (X - 1) / 1 < 340282366920938463463374607431768211456) = true := decide_eq_true ⟨by unfold intR; omega, by omega, by omega⟩
      cases hn : negOf E P X
      · rw [if_neg (by decide)]
        by_cases x3 : kindOf E P X = 3
        · have d4 := kk_t x3
          rw [if_pos ((kind_three h).1 x3)]
          exact con_plain ok (rn_i E P X) (by simp only [rn_i_cs, List.forall_mem_cons]; (repeat' apply And.intro) <;> first | exact True.intro | with_reducible rfl | with_reducible assumption | (intro c hc; cases hc) | (simp [nX, hn]; done)) (by simp) g rfl rfl
        · have d4 := kk_f x3
          rw [if_neg (fun hc => x3 ((kind_three h).2 hc))]
          exact con_plain ok (rn_p E P X) (by simp only [rn_p_cs, List.forall_mem_cons]; (repeat' apply And.intro) <;> first | exact True.intro | with_reducible rfl | with_reducible assumption | (rw [eA, e1]; with_reducible assumption) | (intro c hc; cases hc) | (simp [nX, hn]; done)) (by simp) g (by rw [eA, e1, Int.ediv_one]) rfl
      · rw [if_pos rfl]
        by_cases x3 : kindOf E P X = 3
        · have d4 := kk_t x3
          exact con_plain ok (rn_j E P X) (by simp only [rn_j_cs, List.forall_mem_cons]; (repeat' apply And.intro) <;> first | exact True.intro | with_reducible rfl | with_reducible assumption | (rw [eS, e1]; with_reducible assumption) | (intro c hc; cases hc) | (simp [nX, hn]; done)) (by simp) g (by rw [eS, e1, Int.ediv_one]) rfl
        · have d4 := kk_f x3
          exact con_plain ok (rn_n E P X) (by simp only [rn_n_cs, List.forall_mem_cons]; (repeat' apply And.intro) <;> first | exact True.intro | with_reducible rfl | with_reducible assumption | (rw [eS, e1]; with_reducible assumption) | (intro c hc; cases hc) | (simp [nX, hn]; done)) (by simp) g (by rw [eS, e1, Int.ediv_one]) rfl
    · have lX : decide (wX (wordV X) < 2 * signOf E P) = false := by rw [wX_wordV]; exact decide_eq_false hX
      rw [if_neg (fun hc => hX (all1.1 hc)), if_neg (show ¬ (6 : Int) = 0 by decide), if_neg (show ¬ (6 : Int) = 0 by decide)]
      exact con_plain ok (rn_x1 E P X) (by simp only [rn_x1_cs, List.forall_mem_cons]; (repeat' apply And.intro) <;> first | exact True.intro | with_reducible rfl | with_reducible assumption | (intro c hc; cases hc) | (simp []; done)) (by simp) g rfl rfl
  · rw [if_neg h, if_neg (show ¬ (2 : Int) = 0 by decide), if_neg (show ¬ (2 : Int) = 0 by decide)]
    have e2 : askE E P 0 = 2 := by unfold askE; rw [if_neg (by omega), if_neg h]
    have a0 : (askE E P 0 == 0) = false := by rw [e2]; rfl
    have a1 : (askE E P 0 != 0) = true := by rw [e2]; rfl
    exact con_plain ok (rn_e1 E P X) (by simp only [rn_e1_cs, List.forall_mem_cons]; (repeat' apply And.intro) <;> first | exact True.intro | with_reducible rfl | with_reducible assumption | (intro c hc; cases hc) | (simp []; done)) (by simp) g (by rw [e2]) rfl
def rNextUS (xs : List Ar) : Option Res := match xs with
  | [.v a, .v b, .v (.bool true)] => match fmt2 a with
    | some (E, P) => some (⟨none, .tuple #[wordV (aboveOf E P (wX b)), .int .i64 0]⟩ : Res)
    | none => none
  | _ => none
def rNextUP (xs : List Ar) : Bool := match xs with
  | [.v a, .v b, .v (.bool true)] => match fmt2 a with
    | some (E, P) => wB b && decide (nxE E P (wX b) = 0)
    | none => false
  | _ => false
def rNextUO : CF → St → Option (Value × St) := oracle 25 (conSpec TR rNextUP rNextUS)
theorem rNextUO_ok : RunOkE Tryz.prog rNextUO := con_oracle numG gTR roTR2 fun xs R h hp => by
  unfold rNextUS at h
  split at h
  · split at h
    · rename_i E P hm
      injection h with h
      subst h
      unfold rNextUP at hp
      simp only [hm, Bool.and_eq_true] at hp
      rw [fmt2_ok hm]
      have h2 := wX_range hp.1
      have := rnext_up (E := E) (P := P) h2.1 h2.2
      rw [← wB_eq hp.1] at this
      unfold nxRes at this
      rw [if_pos (of_decide_eq_true hp.2)] at this
      exact this
    · cases h
  · cases h
end Go.Proofs.YtaeekmlnfjimjaaGreatDoor
