/-
  The reference's Cmp: what it returns: the same as the machine's.
-/
import Derived.Test.YtaeekmlnfjimjaaGreatDoorP45
set_option linter.unusedVariables false
set_option linter.unusedSimpArgs false
set_option linter.unusedSectionVars false
namespace Go.Proofs.YtaeekmlnfjimjaaGreatDoor
open Go.RowKit Go.Shelf Go.Canon

theorem gr_bound {E P X : Int} (h : Fmt E P) (x0 : 0 ≤ X) (x1 : X < 2 * signOf E P) (hk : kindOf E P X = 1 ∨ kindOf E P X = 2) : ((opK E P X).natAbs : Int) ≤ grK E P := by
  obtain ⟨d, e, h2, h3, h4, h5⟩ := val_form h x0 x1 hk
  rw [h2]
  unfold grK
  have hb := bias_range h.1 h.2.1
  have h6 : d * 2 ^ e ≤ (2 ^ P.toNat - 1) * 2 ^ e := Int.mul_le_mul_of_nonneg_right (by omega) (Int.le_of_lt (p2pos e))
  have h7 := pow_split (show e ≤ (2 * biasOf E - 1).toNat by omega)
  have h8 := Int.mul_le_mul_of_nonneg_left (show (2 : Int) ^ e ≤ 2 ^ (2 * biasOf E - 1).toNat by
    rw [h7]
    have := Int.mul_le_mul_of_nonneg_right (show (1 : Int) ≤ 2 ^ ((2 * biasOf E - 1).toNat - e) from p2pos _) (Int.le_of_lt (p2pos e))
    omega) (show 0 ≤ (2 : Int) ^ P.toNat - 1 by have := p2pos P.toNat; omega)
  omega
theorem gr_lt {E P : Int} (h : Fmt E P) : 0 < grK E P ∧ grK E P < 2 ^ 3000 ∧ leD E P < 2 ^ 3000 := by
  have hb := bias_range h.1 h.2.1
  have hf := h
  obtain ⟨f1, f2, f3, f4, f5⟩ := hf
  have hp := p2pos (2 * biasOf E - 1).toNat
  have hP := p2pos P.toNat
  have hP1 : (2 : Int) ≤ 2 ^ P.toNat := by
    have := p2_le (show 1 ≤ P.toNat by omega)
    have e : (2 : Int) ^ 1 = 2 := by decide
    omega
  unfold grK leD
  refine ⟨Int.mul_pos (by omega) hp, ?_, ?_⟩
  · have h1 : (2 ^ P.toNat - 1) * (2 : Int) ^ (2 * biasOf E - 1).toNat < 2 ^ P.toNat * 2 ^ (2 * biasOf E - 1).toNat := Int.mul_lt_mul_of_pos_right (by omega) hp
    rw [← Int.pow_add] at h1
    exact Int.lt_of_lt_of_le h1 (p2_le (by omega))
  · have h1 := p2_le (show (biasOf E + P - 2).toNat ≤ 2999 by omega)
    have h2 : (2 : Int) ^ 3000 = 2 ^ 2999 * 2 := Int.pow_succ _ _
    have h3 := p2pos 2999
    omega
theorem inR_big {K D : Int} (h1 : (K.natAbs : Int) < 4 * 2 ^ 3000) (h2 : D < 4 * 2 ^ 3000) : R.inR K D := by
  have h3 : (4 : Int) * 2 ^ 3000 = 2 ^ 3002 := by rw [show (3002 : Nat) = 3000 + 2 from rfl, Int.pow_add]; omega
  have h4 := R.p2_pw (show 3002 ≤ 28000 by omega)
  rw [h3] at h1 h2
  exact ⟨Int.lt_trans h1 h4, Int.lt_trans h2 h4⟩
theorem cmpI_scale {a b c : Int} (hc : 0 < c) : cmpI (a * c) (b * c) = cmpI a b := by
  unfold cmpI
  by_cases h : a < b
  · rw [if_pos h, if_pos (Int.mul_lt_mul_of_pos_right h hc)]
  · rw [if_neg h, if_neg (fun h2 => h (Int.lt_of_mul_lt_mul_right h2 (Int.le_of_lt hc)))]
    by_cases h2 : b < a
    · rw [if_pos h2, if_pos (Int.mul_lt_mul_of_pos_right h2 hc)]
    · rw [if_neg h2, if_neg (fun h3 => h2 (Int.lt_of_mul_lt_mul_right h3 (Int.le_of_lt hc)))]
theorem kk_t {E P X c : Int} (h : kindOf E P X = c) : (kindOf E P (wX (wordV X)) == c) = true := by rw [wX_wordV, h]; simp
theorem kk_f {E P X c : Int} (h : ¬ kindOf E P X = c) : (kindOf E P (wX (wordV X)) == c) = false := by rw [wX_wordV]; simp [h]
theorem kn_t {E P X c : Int} (h : kindOf E P X = c) : (kindOf E P (wX (wordV X)) != c) = false := by rw [wX_wordV, h]; simp
theorem kn_f {E P X c : Int} (h : ¬ kindOf E P X = c) : (kindOf E P (wX (wordV X)) != c) = true := by rw [wX_wordV]; simp [h]
theorem cm1 {a b : Int} (h : b < a) : cmpI a b = 1 := by unfold cmpI; rw [if_neg (by omega), if_pos h]
theorem cm0 (a : Int) : cmpI a a = 0 := by unfold cmpI; rw [if_neg (by omega), if_neg (by omega)]
theorem cmm {a b : Int} (h : a < b) : cmpI a b = -1 := by unfold cmpI; rw [if_pos h]
set_option maxHeartbeats 4000000 in
theorem rcmp_word {E P X Y : Int} (x0 : 0 ≤ X) (x1 : X < two128) (y0 : 0 ≤ Y) (y1 : Y < two128) : Con Tryz.prog TR 23 [.v (fmtW E P), .v (wordV X), .v (wordV Y)] ⟨none, cmRes E P X Y⟩ := by
  have g := ground3 (fmtW E P) (wordV X) (wordV Y) rfl rfl rfl
  have ok := nest_ok rcC_ok 6
  have bX : wB (wordV X) = true := wB_wordV x0 x1
  have bY : wB (wordV Y) = true := wB_wordV y0 y1
  unfold cmRes wErr
  by_cases h : Fmt E P
  · rw [if_pos h]
    have m2 : decide (Fmt E P) = true := decide_eq_true h
    have nX : negOf E P (wX (wordV X)) = negOf E P X := by rw [wX_wordV]
    have nY : negOf E P (wX (wordV Y)) = negOf E P Y := by rw [wX_wordV]
    have a0 : (askE E P 0 == 0) = true := by unfold askE; rw [if_neg (by omega), if_pos h]; rfl
    have a1 : (askE E P 0 != 0) = false := by unfold askE; rw [if_neg (by omega), if_pos h]; rfl
    have fX : (decide (Fmt E P) && wB (wordV X)) = true := by rw [bX, decide_eq_true h]; rfl
    have fY : (decide (Fmt E P) && wB (wordV Y)) = true := by rw [bY, decide_eq_true h]; rfl
    by_cases hX : X < 2 * signOf E P
    · have lX : decide (wX (wordV X) < 2 * signOf E P) = true := by rw [wX_wordV]; exact decide_eq_true hX
      have gX : (decide (Fmt E P) && (wB (wordV X) && decide (wX (wordV X) < 2 * signOf E P))) = true := by rw [bX, lX, decide_eq_true h]; rfl
      by_cases hY : Y < 2 * signOf E P
      · have lY : decide (wX (wordV Y) < 2 * signOf E P) = true := by rw [wX_wordV]; exact decide_eq_true hY
        have gY : (decide (Fmt E P) && (wB (wordV Y) && decide (wX (wordV Y) < 2 * signOf E P))) = true := by rw [bY, lY, decide_eq_true h]; rfl
        rw [if_pos (all2.2 ⟨hX, hY⟩), if_pos rfl]
        have kX := kind_range E P X
        have kY := kind_range E P Y
        unfold cOrd cFlg
        by_cases x4 : kindOf E P X = 4
        · have d1 := kk_t x4
          have d2 := kk_f (show ¬ kindOf E P X = 5 by omega)
          rw [if_pos (show kindOf E P X = 5 ∨ kindOf E P Y = 5 ∨ kindOf E P X = 4 ∨ kindOf E P Y = 4 by omega)]
          by_cases y5 : kindOf E P Y = 5
          · have d3 := kk_t y5
            rw [if_pos (show kindOf E P X = 5 ∨ kindOf E P Y = 5 from .inr y5)]
            exact con_plain ok (rc_qs E P X Y (negOf E P (wX (wordV X))) (negOf E P (wX (wordV Y)))) (by simp only [rc_qs_cs, List.forall_mem_cons]; (repeat' apply And.intro) <;> first | exact True.intro | with_reducible rfl | with_reducible assumption | (intro c hc; cases hc) | (simp [nX, nY]; done)) (by simp) g rfl rfl
          · have d3 := kk_f y5
            rw [if_neg (show ¬ (kindOf E P X = 5 ∨ kindOf E P Y = 5) by omega)]
            exact con_plain ok (rc_qf E P X Y (negOf E P (wX (wordV X))) (negOf E P (wX (wordV Y)))) (by simp only [rc_qf_cs, List.forall_mem_cons]; (repeat' apply And.intro) <;> first | exact True.intro | with_reducible rfl | with_reducible assumption | (intro c hc; cases hc) | (simp [nX, nY]; done)) (by simp) g rfl rfl
        have d1 := kk_f x4
        by_cases x5 : kindOf E P X = 5
        · have d2 := kk_t x5
          rw [if_pos (.inl x5), if_pos (.inl x5)]
          by_cases y5 : kindOf E P Y = 5
          · have d3 := kk_t y5
            exact con_plain ok (rc_ss E P X Y (negOf E P (wX (wordV X))) (negOf E P (wX (wordV Y)))) (by simp only [rc_ss_cs, List.forall_mem_cons]; (repeat' apply And.intro) <;> first | exact True.intro | with_reducible rfl | with_reducible assumption | (intro c hc; cases hc) | (simp [nX, nY]; done)) (by simp) g rfl rfl
          · have d3 := kk_f y5
            exact con_plain ok (rc_sf E P X Y (negOf E P (wX (wordV X))) (negOf E P (wX (wordV Y)))) (by simp only [rc_sf_cs, List.forall_mem_cons]; (repeat' apply And.intro) <;> first | exact True.intro | with_reducible rfl | with_reducible assumption | (intro c hc; cases hc) | (simp [nX, nY]; done)) (by simp) g rfl rfl
        have d2 := kk_f x5
        by_cases y4 : kindOf E P Y = 4
        · have d3 := kk_t y4
          have d4 := kk_f (show ¬ kindOf E P Y = 5 by omega)
          rw [if_pos (show kindOf E P X = 5 ∨ kindOf E P Y = 5 ∨ kindOf E P X = 4 ∨ kindOf E P Y = 4 by omega), if_neg (show ¬ (kindOf E P X = 5 ∨ kindOf E P Y = 5) by omega)]
          exact con_plain ok (rc_fq E P X Y (negOf E P (wX (wordV X))) (negOf E P (wX (wordV Y)))) (by simp only [rc_fq_cs, List.forall_mem_cons]; (repeat' apply And.intro) <;> first | exact True.intro | with_reducible rfl | with_reducible assumption | (intro c hc; cases hc) | (simp [nX, nY]; done)) (by simp) g rfl rfl
        have d3 := kk_f y4
        by_cases y5 : kindOf E P Y = 5
        · have d4 := kk_t y5
          rw [if_pos (.inr (.inl y5)), if_pos (.inr y5)]
          exact con_plain ok (rc_fs E P X Y (negOf E P (wX (wordV X))) (negOf E P (wX (wordV Y)))) (by simp only [rc_fs_cs, List.forall_mem_cons]; (repeat' apply And.intro) <;> first | exact True.intro | with_reducible rfl | with_reducible assumption | (intro c hc; cases hc) | (simp [nX, nY]; done)) (by simp) g rfl rfl
        have d4 := kk_f y5
        rw [if_neg (show ¬ (kindOf E P X = 5 ∨ kindOf E P Y = 5 ∨ kindOf E P X = 4 ∨ kindOf E P Y = 4) by omega), if_neg (show ¬ (kindOf E P X = 5 ∨ kindOf E P Y = 5) by omega)]
        obtain ⟨g0, g1, g2⟩ := gr_lt h
        have hle := leD_pos E P
        have eD : ((leD E P) * (1 : Int)) = leD E P := Int.mul_one _
        have eG : ((grK E P) * (1 : Int) + (1 : Int) * (leD E P)) = grK E P + leD E P := by rw [Int.mul_one, Int.one_mul]
        have bdX : ∀ hk : kindOf E P X = 1 ∨ kindOf E P X = 2, (((opK E P (wX (wordV X)))).natAbs : Int) ≤ grK E P := fun hk => by rw [wX_wordV]; exact gr_bound h x0 hX hk
        have bdY : ∀ hk : kindOf E P Y = 1 ∨ kindOf E P Y = 2, (((opK E P (wX (wordV Y)))).natAbs : Int) ≤ grK E P := fun hk => by rw [wX_wordV]; exact gr_bound h y0 hY hk
        have m1 : (decide (R.inR (grK E P) (leD E P)) && decide (R.inR (1 : Int) (1 : Int))) = true := by
          have i1 : R.inR (grK E P) (leD E P) := inR_big (by omega) (by omega)
          have i2 : R.inR 1 1 := inR_sm (by decide)
          rw [decide_eq_true i1, decide_eq_true i2]; rfl
        have iGd : decide (R.inR ((grK E P) * (1 : Int) + (1 : Int) * (leD E P)) ((leD E P) * (1 : Int))) = true := decide_eq_true (by rw [eG, eD]; exact inR_big (by omega) (by omega))
        have iNd : decide (R.inR (-((grK E P) * (1 : Int) + (1 : Int) * (leD E P))) ((leD E P) * (1 : Int))) = true := decide_eq_true (by rw [eG, eD]; exact inR_big (by omega) (by omega))
        have iXd : ∀ hk : kindOf E P X = 1 ∨ kindOf E P X = 2, decide (R.inR (opK E P (wX (wordV X))) (leD E P)) = true := fun hk => decide_eq_true (by have := bdX hk; exact inR_big (by omega) (by omega))
        have iYd : ∀ hk : kindOf E P Y = 1 ∨ kindOf E P Y = 2, decide (R.inR (opK E P (wX (wordV Y))) (leD E P)) = true := fun hk => decide_eq_true (by have := bdY hk; exact inR_big (by omega) (by omega))
        by_cases x3 : kindOf E P X = 3
        · have d6 := kn_t x3
          rw [if_pos (.inl x3)]
          have bx : beyOf E P X = if negOf E P X = true then -1 else 1 := by unfold beyOf; rw [if_pos x3]
          rw [bx]
          by_cases y3 : kindOf E P Y = 3
          · have d7 := kn_t y3
            have by' : beyOf E P Y = if negOf E P Y = true then -1 else 1 := by unfold beyOf; rw [if_pos y3]
            rw [by']
            cases hx : negOf E P X <;> cases hy : negOf E P Y
            · have m3 : (decide (R.inR ((grK E P) * (1 : Int) + (1 : Int) * (leD E P)) ((leD E P) * (1 : Int))) && decide (R.inR ((grK E P) * (1 : Int) + (1 : Int) * (leD E P)) ((leD E P) * (1 : Int)))) = true := by rw [iGd]; rfl
              exact con_plain ok (rc_ii E P X Y) (by simp only [rc_ii_cs, List.forall_mem_cons]; (repeat' apply And.intro) <;> first | exact True.intro | with_reducible rfl | with_reducible assumption | (intro c hc; cases hc) | (simp [nX, nY, hx, hy]; done)) (by simp) g (by rw [cm0]; rfl) rfl
            · have m3 : (decide (R.inR ((grK E P) * (1 : Int) + (1 : Int) * (leD E P)) ((leD E P) * (1 : Int))) && decide (R.inR (-((grK E P) * (1 : Int) + (1 : Int) * (leD E P))) ((leD E P) * (1 : Int)))) = true := by rw [iGd, iNd]; rfl
              exact con_plain ok (rc_ij E P X Y) (by simp only [rc_ij_cs, List.forall_mem_cons]; (repeat' apply And.intro) <;> first | exact True.intro | with_reducible rfl | with_reducible assumption | (intro c hc; cases hc) | (simp [nX, nY, hx, hy]; done)) (by simp) g (by rw [eG, eD, cmpI_scale hle, cm1 (by omega)]; rfl) rfl
            · have m3 : (decide (R.inR (-((grK E P) * (1 : Int) + (1 : Int) * (leD E P))) ((leD E P) * (1 : Int))) && decide (R.inR ((grK E P) * (1 : Int) + (1 : Int) * (leD E P)) ((leD E P) * (1 : Int)))) = true := by rw [iGd, iNd]; rfl
              exact con_plain ok (rc_ji E P X Y) (by simp only [rc_ji_cs, List.forall_mem_cons]; (repeat' apply And.intro) <;> first | exact True.intro | with_reducible rfl | with_reducible assumption | (intro c hc; cases hc) | (simp [nX, nY, hx, hy]; done)) (by simp) g (by rw [eG, eD, cmpI_scale hle, cmm (by omega)]; rfl) rfl
            · have m3 : (decide (R.inR (-((grK E P) * (1 : Int) + (1 : Int) * (leD E P))) ((leD E P) * (1 : Int))) && decide (R.inR (-((grK E P) * (1 : Int) + (1 : Int) * (leD E P))) ((leD E P) * (1 : Int)))) = true := by rw [iNd]; rfl
              exact con_plain ok (rc_jj E P X Y) (by simp only [rc_jj_cs, List.forall_mem_cons]; (repeat' apply And.intro) <;> first | exact True.intro | with_reducible rfl | with_reducible assumption | (intro c hc; cases hc) | (simp [nX, nY, hx, hy]; done)) (by simp) g (by rw [cm0]; rfl) rfl
          · have d7 := kn_f y3
            have by' : beyOf E P Y = 0 := by unfold beyOf; rw [if_neg y3]
            have kY2 : kindOf E P Y = 1 ∨ kindOf E P Y = 2 := by omega
            have hbY := bdY kY2
            have iY := iYd kY2
            rw [by']
            cases hx : negOf E P X
            · have m3 : (decide (R.inR ((grK E P) * (1 : Int) + (1 : Int) * (leD E P)) ((leD E P) * (1 : Int))) && decide (R.inR (opK E P (wX (wordV Y))) (leD E P))) = true := by rw [iGd, iY]; rfl
              exact con_plain ok (rc_if E P X Y (negOf E P (wX (wordV Y)))) (by simp only [rc_if_cs, List.forall_mem_cons]; (repeat' apply And.intro) <;> first | exact True.intro | with_reducible rfl | with_reducible assumption | (intro c hc; cases hc) | (simp [nX, nY, hx]; done)) (by simp) g (by rw [eG, eD, cmpI_scale hle, cm1 (by omega)]; rfl) rfl
            · have m3 : (decide (R.inR (-((grK E P) * (1 : Int) + (1 : Int) * (leD E P))) ((leD E P) * (1 : Int))) && decide (R.inR (opK E P (wX (wordV Y))) (leD E P))) = true := by rw [iNd, iY]; rfl
              exact con_plain ok (rc_jf E P X Y (negOf E P (wX (wordV Y)))) (by simp only [rc_jf_cs, List.forall_mem_cons]; (repeat' apply And.intro) <;> first | exact True.intro | with_reducible rfl | with_reducible assumption | (intro c hc; cases hc) | (simp [nX, nY, hx]; done)) (by simp) g (by rw [eG, eD, cmpI_scale hle, cmm (by omega)]; rfl) rfl
        have d6 := kn_f x3
        have kX2 : kindOf E P X = 1 ∨ kindOf E P X = 2 := by omega
        have hbX := bdX kX2
        have iX := iXd kX2
        by_cases y3 : kindOf E P Y = 3
        · have d7 := kn_t y3
          rw [if_pos (.inr y3)]
          have bx : beyOf E P X = 0 := by unfold beyOf; rw [if_neg x3]
          have by' : beyOf E P Y = if negOf E P Y = true then -1 else 1 := by unfold beyOf; rw [if_pos y3]
          rw [bx, by']
          cases hy : negOf E P Y
          · have m3 : (decide (R.inR (opK E P (wX (wordV X))) (leD E P)) && decide (R.inR ((grK E P) * (1 : Int) + (1 : Int) * (leD E P)) ((leD E P) * (1 : Int)))) = true := by rw [iGd, iX]; rfl
            exact con_plain ok (rc_fi E P X Y (negOf E P (wX (wordV X)))) (by simp only [rc_fi_cs, List.forall_mem_cons]; (repeat' apply And.intro) <;> first | exact True.intro | with_reducible rfl | with_reducible assumption | (intro c hc; cases hc) | (simp [nX, nY, hy]; done)) (by simp) g (by rw [eG, eD, cmpI_scale hle, cmm (by omega)]; rfl) rfl
          · have m3 : (decide (R.inR (opK E P (wX (wordV X))) (leD E P)) && decide (R.inR (-((grK E P) * (1 : Int) + (1 : Int) * (leD E P))) ((leD E P) * (1 : Int)))) = true := by rw [iNd, iX]; rfl
            exact con_plain ok (rc_fj E P X Y (negOf E P (wX (wordV X)))) (by simp only [rc_fj_cs, List.forall_mem_cons]; (repeat' apply And.intro) <;> first | exact True.intro | with_reducible rfl | with_reducible assumption | (intro c hc; cases hc) | (simp [nX, nY, hy]; done)) (by simp) g (by rw [eG, eD, cmpI_scale hle, cm1 (by omega)]; rfl) rfl
        have d7 := kn_f y3
        rw [if_neg (show ¬ (kindOf E P X = 3 ∨ kindOf E P Y = 3) by omega)]
        have iY := iYd (by omega)
        have m3 : (decide (R.inR (opK E P (wX (wordV X))) (leD E P)) && decide (R.inR (opK E P (wX (wordV Y))) (leD E P))) = true := by rw [iX, iY]; rfl
        exact con_plain ok (rc_ff E P X Y (negOf E P (wX (wordV X))) (negOf E P (wX (wordV Y)))) (by simp only [rc_ff_cs, List.forall_mem_cons]; (repeat' apply And.intro) <;> first | exact True.intro | with_reducible rfl | with_reducible assumption | (intro c hc; cases hc) | (simp [nX, nY]; done)) (by simp) g (by rw [cmpI_scale hle, wX_wordV, wX_wordV]) rfl
      · have lY : decide (wX (wordV Y) < 2 * signOf E P) = false := by rw [wX_wordV]; exact decide_eq_false hY
        rw [if_neg (fun hc => hY (all2.1 hc).2), if_neg (show ¬ (6 : Int) = 0 by decide)]
        exact con_plain ok (rc_y E P X Y) (by simp only [rc_y_cs, List.forall_mem_cons]; (repeat' apply And.intro) <;> first | exact True.intro | with_reducible rfl | with_reducible assumption | (intro c hc; cases hc) | (simp [nX, nY]; done)) (by simp) g rfl rfl
    · have lX : decide (wX (wordV X) < 2 * signOf E P) = false := by rw [wX_wordV]; exact decide_eq_false hX
      rw [if_neg (fun hc => hX (all2.1 hc).1), if_neg (show ¬ (6 : Int) = 0 by decide)]
      exact con_plain ok (rc_x E P X Y) (by simp only [rc_x_cs, List.forall_mem_cons]; (repeat' apply And.intro) <;> first | exact True.intro | with_reducible rfl | with_reducible assumption | (intro c hc; cases hc) | (simp [nX, nY]; done)) (by simp) g rfl rfl
  · rw [if_neg h, if_neg (show ¬ (2 : Int) = 0 by decide)]
    have e2 : askE E P 0 = 2 := by unfold askE; rw [if_neg (by omega), if_neg h]
    have a0 : (askE E P 0 == 0) = false := by rw [e2]; rfl
    have a1 : (askE E P 0 != 0) = true := by rw [e2]; rfl
    exact con_plain ok (rc_e E P X Y) (by simp only [rc_e_cs, List.forall_mem_cons]; (repeat' apply And.intro) <;> first | exact True.intro | with_reducible rfl | with_reducible assumption | (intro c hc; cases hc) | (simp []; done)) (by simp) g (by rw [e2]) rfl
end Go.Proofs.YtaeekmlnfjimjaaGreatDoor
