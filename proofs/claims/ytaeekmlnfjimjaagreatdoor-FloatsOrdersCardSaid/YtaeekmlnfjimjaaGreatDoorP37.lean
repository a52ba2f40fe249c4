/-
  The machine's Cmp and Next: what they return, for every format and every word.
-/
import Derived.Test.YtaeekmlnfjimjaaGreatDoorP36
import Derived.Test.YtaeekmlnfjimjaaGreatDoorP26
set_option linter.unusedVariables false
set_option linter.unusedSimpArgs false
set_option linter.unusedSectionVars false
namespace Go.Proofs.YtaeekmlnfjimjaaGreatDoor
open Go.RowKit Go.Shelf Go.Canon

/-- the error of a format and of words -/
def wErr (E P : Int) (l : List Int) : Int := if Fmt E P then (if l.all (fun X => decide (X < 2 * signOf E P)) = true then 0 else 6) else 2
def beyOf (E P X : Int) : Int := if kindOf E P X = 3 then (if negOf E P X = true then -1 else 1) else 0
def cOrd (E P X Y : Int) : Int :=
  if kindOf E P X = 5 ∨ kindOf E P Y = 5 ∨ kindOf E P X = 4 ∨ kindOf E P Y = 4 then 2 else if kindOf E P X = 3 ∨ kindOf E P Y = 3 then cmpI (beyOf E P X) (beyOf E P Y) else cmpI (opK E P X) (opK E P Y)
def cFlg (E P X Y : Int) : Int := if kindOf E P X = 5 ∨ kindOf E P Y = 5 then 1 else 0
def cmRes (E P X Y : Int) : Value := if wErr E P [X, Y] = 0 then cmV (cOrd E P X Y) (cFlg E P X Y) else errV3 (wErr E P [X, Y])
def nxE (E P X : Int) : Int := if wErr E P [X] = 0 then (if kindOf E P X = 4 ∨ kindOf E P X = 5 then 4 else 0) else wErr E P [X]
def nxW (E P X : Int) (up : Bool) : Int := if up = true then aboveOf E P X else flipOf E P (aboveOf E P (flipOf E P X))
def nxRes (E P X : Int) (up : Bool) : Value := if nxE E P X = 0 then .tuple #[wordV (nxW E P X up), .int .i64 0] else errV2 (nxE E P X)

theorem dk_t {E P X c : Int} (h : kindOf E P X = c) : (dKind E P X == c) = true := by unfold dKind; rw [wX_wordV, h]; simp
theorem dk_f {E P X c : Int} (h : ¬ kindOf E P X = c) : (dKind E P X == c) = false := by unfold dKind; rw [wX_wordV]; simp [h]
theorem dn_t {E P X c : Int} (h : kindOf E P X = c) : (dKind E P X != c) = false := by unfold dKind; rw [wX_wordV, h]; simp
theorem dn_f {E P X c : Int} (h : ¬ kindOf E P X = c) : (dKind E P X != c) = true := by unfold dKind; rw [wX_wordV]; simp [h]
theorem kind_range (E P X : Int) : 1 ≤ kindOf E P X ∧ kindOf E P X ≤ 5 := by
  unfold kindOf
  split
  · omega
  · split
    · omega
    · split
      · omega
      · split <;> omega
/-- what is asked of a word that is read -/
structure RdOk (E P X : Int) : Prop where
  nr : (wB (wordV X) && decide (0 ≤ (IntKind.i64.wrap (E + P)) ∧ (IntKind.i64.wrap (E + P)) ≤ 127)) = true
  nd : X < 2 * signOf E P → (decide (Fmt E P) && (wB (wordV X) && decide (wX (wordV X) < 2 * signOf E P))) = true
  z0 : X < 2 * signOf E P → (!decide (wX (wordV X) / 2 ^ (IntKind.i64.wrap (E + P)).toNat / 18446744073709551616 = 0 ∧ wX (wordV X) / 2 ^ (IntKind.i64.wrap (E + P)).toNat % 18446744073709551616 = 0)) = false
  z1 : ¬ X < 2 * signOf E P → (!decide (wX (wordV X) / 2 ^ (IntKind.i64.wrap (E + P)).toNat / 18446744073709551616 = 0 ∧ wX (wordV X) / 2 ^ (IntKind.i64.wrap (E + P)).toNat % 18446744073709551616 = 0)) = true
theorem rdOk {E P X : Int} (h : Fmt E P) (x0 : 0 ≤ X) (x1 : X < two128) : RdOk E P X := by
  have hs := sign_range h
  have bX : wB (wordV X) = true := wB_wordV x0 x1
  have hw : IntKind.i64.wrap (E + P) = E + P := wrapI (by obtain ⟨a, b, c, d, e⟩ := h; omega)
  have h2 : (2 : Int) ^ (E + P).toNat = 2 * signOf E P := by
    obtain ⟨a, b, c, d, e⟩ := h
    unfold signOf
    rw [show (E + P).toNat = (E + P - 1).toNat + 1 by omega, Int.pow_succ]; omega
  have hr : 0 ≤ E + P ∧ E + P ≤ 127 := by obtain ⟨a, b, c, d, e⟩ := h; omega
  refine ⟨by rw [bX, hw, decide_eq_true hr]; rfl, fun hx => by rw [bX, wX_wordV, decide_eq_true h, decide_eq_true hx]; rfl, fun hx => ?_, fun hx => ?_⟩
  · rw [hw, h2, wX_wordV, Int.ediv_eq_zero_of_lt x0 hx]; rfl
  · rw [hw, h2, wX_wordV]
    have : 1 ≤ X / (2 * signOf E P) := Int.le_ediv_of_mul_le (by omega) (by omega)
    rw [decide_eq_false (by omega)]; rfl
theorem all1 {E P X : Int} : ([X].all (fun X => decide (X < 2 * signOf E P)) = true) ↔ X < 2 * signOf E P := by simp
theorem all2 {E P X Y : Int} : ([X, Y].all (fun X => decide (X < 2 * signOf E P)) = true) ↔ X < 2 * signOf E P ∧ Y < 2 * signOf E P := by simp
theorem ground3 (a b c : Value) (ha : ground 9 a = true) (hb : ground 9 b = true) (hc : ground 9 c = true) : ∀ x, Ar.v x ∈ [Ar.v a, .v b, .v c] → ground 9 x = true := fun x hx => by
  simp at hx; rcases hx with rfl | rfl | rfl <;> assumption
theorem inB_op {E P X : Int} (h : Fmt E P) (x0 : 0 ≤ X) (x1 : X < 2 * signOf E P) (hk : kindOf E P X = 1 ∨ kindOf E P X = 2) : inB (opK E P X) (fineOf E P) := by
  have h1 := opK_lt h x0 x1 hk
  have h2 := max_sml h
  have hbr := bias_range h.1 h.2.1
  have hf := fine_le h
  have hfe : fineOf E P = 1 - biasOf E - P + 1 := rfl
  have := h.2.2.2.1
  exact ⟨by omega, by omega, by omega, by omega⟩
theorem siz_flip {E P X : Int} (x0 : 0 ≤ X) (x1 : X < 2 * signOf E P) : sizW E P (flipOf E P X) = sizW E P X := by
  unfold sizW sizeOf' flipOf
  by_cases h : signOf E P ≤ X
  · rw [if_pos h, if_pos (by omega), if_neg (by omega)]
  · rw [if_neg h, if_neg (by omega), if_pos (by omega)]; omega
theorem kind_flip {E P X : Int} (_ : Fmt E P) (x0 : 0 ≤ X) (x1 : X < 2 * signOf E P) : kindOf E P (flipOf E P X) = kindOf E P X := by
  unfold kindOf; rw [siz_flip x0 x1]
set_option maxHeartbeats 4000000 in
theorem cmp_word {E P X Y : Int} (x0 : 0 ≤ X) (x1 : X < two128) (y0 : 0 ≤ Y) (y1 : Y < two128) : Con Tryz.prog TR 22 [.v (fmtV E P), .v (wordV X), .v (wordV Y)] ⟨none, cmRes E P X Y⟩ := by
  have g := ground3 (fmtV E P) (wordV X) (wordV Y) rfl rfl rfl
  have ok := nest_ok cmC_ok 6
  unfold cmRes wErr
  by_cases h : Fmt E P
  · rw [if_pos h]
    have hc : (chkE E P != 0) = false := by unfold chkE; rw [if_pos h]; rfl
    obtain ⟨nrX, ndX, zX, zX'⟩ := rdOk h x0 x1
    obtain ⟨nrY, ndY, zY, zY'⟩ := rdOk h y0 y1
    by_cases hX : X < 2 * signOf E P
    · have ndX := ndX hX
      have zX := zX hX
      by_cases hY : Y < 2 * signOf E P
      · have ndY := ndY hY
        have zY := zY hY
        rw [if_pos (all2.2 ⟨hX, hY⟩), if_pos rfl]
        have kX := kind_range E P X
        have kY := kind_range E P Y
        unfold cOrd cFlg
        by_cases x5 : kindOf E P X = 5
        · have d1 := dk_t x5
          rw [if_pos (.inl x5), if_pos (.inl x5)]
          exact con_plain ok (cp_sf E P X Y (negOf E P (wX (wordV X))) (negOf E P (wX (wordV Y)))) (by simp only [cp_sf_cs, List.forall_mem_cons]; (repeat' apply And.intro) <;> first | with_reducible rfl | with_reducible assumption | (intro c hc; cases hc) | (simp [upK_same, wX_wordV]; done)) (by simp) g rfl rfl
        have d1 := dk_f x5
        by_cases y5 : kindOf E P Y = 5
        · have d2 := dk_t y5
          rw [if_pos (.inr (.inl y5)), if_pos (.inr y5)]
          exact con_plain ok (cp_fs E P X Y (negOf E P (wX (wordV X))) (negOf E P (wX (wordV Y)))) (by simp only [cp_fs_cs, List.forall_mem_cons]; (repeat' apply And.intro) <;> first | with_reducible rfl | with_reducible assumption | (intro c hc; cases hc) | (simp [upK_same, wX_wordV]; done)) (by simp) g rfl rfl
        have d2 := dk_f y5
        rw [if_neg (show ¬ (kindOf E P X = 5 ∨ kindOf E P Y = 5) by omega)]
        by_cases x4 : kindOf E P X = 4
        · have d3 := dk_t x4
          rw [if_pos (by omega)]
          exact con_plain ok (cp_qf E P X Y (negOf E P (wX (wordV X))) (negOf E P (wX (wordV Y)))) (by simp only [cp_qf_cs, List.forall_mem_cons]; (repeat' apply And.intro) <;> first | with_reducible rfl | with_reducible assumption | (intro c hc; cases hc) | (simp [upK_same, wX_wordV]; done)) (by simp) g rfl rfl
        have d3 := dk_f x4
        by_cases y4 : kindOf E P Y = 4
        · have d4 := dk_t y4
          rw [if_pos (by omega)]
          exact con_plain ok (cp_fq E P X Y (negOf E P (wX (wordV X))) (negOf E P (wX (wordV Y)))) (by simp only [cp_fq_cs, List.forall_mem_cons]; (repeat' apply And.intro) <;> first | with_reducible rfl | with_reducible assumption | (intro c hc; cases hc) | (simp [upK_same, wX_wordV]; done)) (by simp) g rfl rfl
        have d4 := dk_f y4
        rw [if_neg (by omega)]
        have nX : negOf E P (wX (wordV X)) = negOf E P X := by rw [wX_wordV]
        have nY : negOf E P (wX (wordV Y)) = negOf E P Y := by rw [wX_wordV]
        by_cases x3 : kindOf E P X = 3
        · have d5 := dk_t x3
          have d6 := dn_t x3
          rw [if_pos (.inl x3)]
          have bx : beyOf E P X = if negOf E P X = true then -1 else 1 := by unfold beyOf; rw [if_pos x3]
          rw [bx]
          by_cases y3 : kindOf E P Y = 3
          · have d7 := dn_t y3
            have by' : beyOf E P Y = if negOf E P Y = true then -1 else 1 := by unfold beyOf; rw [if_pos y3]
            rw [by']
            cases hx : negOf E P X <;> cases hy : negOf E P Y
            · exact con_plain ok (cp_ii E P X Y) (by simp only [cp_ii_cs, List.forall_mem_cons]; (repeat' apply And.intro) <;> first | with_reducible rfl | with_reducible assumption | (intro c hc; cases hc) | (simp [upK_same, wX_wordV, nX, nY, hx, hy]; done)) (by simp) g rfl rfl
            · exact con_plain ok (cp_ij E P X Y) (by simp only [cp_ij_cs, List.forall_mem_cons]; (repeat' apply And.intro) <;> first | with_reducible rfl | with_reducible assumption | (intro c hc; cases hc) | (simp [upK_same, wX_wordV, nX, nY, hx, hy]; done)) (by simp) g rfl rfl
            · exact con_plain ok (cp_ji E P X Y) (by simp only [cp_ji_cs, List.forall_mem_cons]; (repeat' apply And.intro) <;> first | with_reducible rfl | with_reducible assumption | (intro c hc; cases hc) | (simp [upK_same, wX_wordV, nX, nY, hx, hy]; done)) (by simp) g rfl rfl
            · exact con_plain ok (cp_jj E P X Y) (by simp only [cp_jj_cs, List.forall_mem_cons]; (repeat' apply And.intro) <;> first | with_reducible rfl | with_reducible assumption | (intro c hc; cases hc) | (simp [upK_same, wX_wordV, nX, nY, hx, hy]; done)) (by simp) g rfl rfl
          · have d7 := dn_f y3
            have by' : beyOf E P Y = 0 := by unfold beyOf; rw [if_neg y3]
            rw [by']
            cases hx : negOf E P X
            · exact con_plain ok (cp_if E P X Y (negOf E P (wX (wordV Y)))) (by simp only [cp_if_cs, List.forall_mem_cons]; (repeat' apply And.intro) <;> first | with_reducible rfl | with_reducible assumption | (intro c hc; cases hc) | (simp [upK_same, wX_wordV, nX, nY, hx]; done)) (by simp) g rfl rfl
            · exact con_plain ok (cp_jf E P X Y (negOf E P (wX (wordV Y)))) (by simp only [cp_jf_cs, List.forall_mem_cons]; (repeat' apply And.intro) <;> first | with_reducible rfl | with_reducible assumption | (intro c hc; cases hc) | (simp [upK_same, wX_wordV, nX, nY, hx]; done)) (by simp) g rfl rfl
        have d5 := dk_f x3
        have d6 := dn_f x3
        by_cases y3 : kindOf E P Y = 3
        · have d7 := dk_t y3
          have d8 := dn_t y3
          rw [if_pos (.inr y3)]
          have bx : beyOf E P X = 0 := by unfold beyOf; rw [if_neg x3]
          have by' : beyOf E P Y = if negOf E P Y = true then -1 else 1 := by unfold beyOf; rw [if_pos y3]
          rw [bx, by']
          cases hy : negOf E P Y
          · exact con_plain ok (cp_fi E P X Y (negOf E P (wX (wordV X)))) (by simp only [cp_fi_cs, List.forall_mem_cons]; (repeat' apply And.intro) <;> first | with_reducible rfl | with_reducible assumption | (intro c hc; cases hc) | (simp [upK_same, wX_wordV, nX, nY, hy]; done)) (by simp) g rfl rfl
          · exact con_plain ok (cp_fj E P X Y (negOf E P (wX (wordV X)))) (by simp only [cp_fj_cs, List.forall_mem_cons]; (repeat' apply And.intro) <;> first | with_reducible rfl | with_reducible assumption | (intro c hc; cases hc) | (simp [upK_same, wX_wordV, nX, nY, hy]; done)) (by simp) g rfl rfl
        have d7 := dk_f y3
        rw [if_neg (by omega)]
        have iX := inB_op h x0 hX (by omega)
        have iY := inB_op h y0 hY (by omega)
        have hm : min (fineOf E P) (fineOf E P) = fineOf E P := by omega
        have nff : (decide (inB (upK (opK E P (wX (wordV X))) (fineOf E P) (fineOf E P)) (min (fineOf E P) (fineOf E P))) && decide (inB (upK (opK E P (wX (wordV Y))) (fineOf E P) (fineOf E P)) (min (fineOf E P) (fineOf E P)))) = true := by
          rw [upK_same, upK_same, hm, wX_wordV, wX_wordV, decide_eq_true iX, decide_eq_true iY]; rfl
        clear iX iY
        refine con_plain ok (cp_ff E P X Y (negOf E P (wX (wordV X))) (negOf E P (wX (wordV Y)))) (by simp only [cp_ff_cs, List.forall_mem_cons]; (repeat' apply And.intro) <;> first | with_reducible rfl | with_reducible assumption | (intro c hc; cases hc) | (simp [upK_same, wX_wordV]; done)) (by simp) g ?_ rfl
        rw [upK_same, upK_same, wX_wordV, wX_wordV]
      · have zY := zY' hY
        rw [if_neg (fun hc => hY (all2.1 hc).2), if_neg (by decide)]
        exact con_plain ok (cp_y E P X Y (negOf E P (wX (wordV X)))) (by simp only [cp_y_cs, List.forall_mem_cons]; (repeat' apply And.intro) <;> first | with_reducible rfl | with_reducible assumption | (intro c hc; cases hc) | (simp [upK_same, wX_wordV]; done)) (by simp) g rfl rfl
    · have zX := zX' hX
      rw [if_neg (fun hc => hX (all2.1 hc).1), if_neg (by decide)]
      exact con_plain ok (cp_x E P X Y) (by simp only [cp_x_cs, List.forall_mem_cons]; (repeat' apply And.intro) <;> first | with_reducible rfl | with_reducible assumption | (intro c hc; cases hc) | (simp [upK_same, wX_wordV]; done)) (by simp) g rfl rfl
  · rw [if_neg h, if_neg (by decide)]
    have hc : (chkE E P != 0) = true := by unfold chkE; rw [if_neg h]; rfl
    exact con_plain ok (cp_e E P X Y) (by simp only [cp_e_cs, List.forall_mem_cons]; (repeat' apply And.intro) <;> first | with_reducible rfl | with_reducible assumption | (intro c hc; cases hc) | (simp [upK_same, wX_wordV]; done)) (by simp) g rfl rfl
set_option maxHeartbeats 4000000 in
theorem next_word {E P X : Int} (up : Bool) (x0 : 0 ≤ X) (x1 : X < two128) : Con Tryz.prog TR 24 [.v (fmtV E P), .v (wordV X), .v (.bool up)] ⟨none, nxRes E P X up⟩ := by
  have g := ground3 (fmtV E P) (wordV X) (.bool up) rfl rfl rfl
  have ok := nest_ok nxC_ok 6
  unfold nxRes nxE wErr nxW
  by_cases h : Fmt E P
  · rw [if_pos h]
    have hc : (chkE E P != 0) = false := by unfold chkE; rw [if_pos h]; rfl
    obtain ⟨nrX, ndX, zX, zX'⟩ := rdOk h x0 x1
    by_cases hX : X < 2 * signOf E P
    · have ndX := ndX hX
      have zX := zX hX
      rw [if_pos (all1.2 hX), if_pos rfl]
      have kX := kind_range E P X
      by_cases x4 : kindOf E P X = 4
      · have d3 := dk_t x4
        rw [if_pos (show kindOf E P X = 4 ∨ kindOf E P X = 5 from .inl x4), if_neg (by decide)]
        cases up
        · exact con_plain ok (nx_q0 E P X (negOf E P (wX (wordV X)))) (by simp only [nx_q0_cs, List.forall_mem_cons]; (repeat' apply And.intro) <;> first | with_reducible rfl | with_reducible assumption | (intro c hc; cases hc) | (simp [upK_same, wX_wordV]; done)) (by simp) g rfl rfl
        · exact con_plain ok (nx_q1 E P X (negOf E P (wX (wordV X)))) (by simp only [nx_q1_cs, List.forall_mem_cons]; (repeat' apply And.intro) <;> first | with_reducible rfl | with_reducible assumption | (intro c hc; cases hc) | (simp [upK_same, wX_wordV]; done)) (by simp) g rfl rfl
      have d3 := dk_f x4
      by_cases x5 : kindOf E P X = 5
      · have d4 := dk_t x5
        rw [if_pos (show kindOf E P X = 4 ∨ kindOf E P X = 5 from .inr x5), if_neg (by decide)]
        cases up
        · exact con_plain ok (nx_s0 E P X (negOf E P (wX (wordV X)))) (by simp only [nx_s0_cs, List.forall_mem_cons]; (repeat' apply And.intro) <;> first | with_reducible rfl | with_reducible assumption | (intro c hc; cases hc) | (simp [upK_same, wX_wordV]; done)) (by simp) g rfl rfl
        · exact con_plain ok (nx_s1 E P X (negOf E P (wX (wordV X)))) (by simp only [nx_s1_cs, List.forall_mem_cons]; (repeat' apply And.intro) <;> first | with_reducible rfl | with_reducible assumption | (intro c hc; cases hc) | (simp [upK_same, wX_wordV]; done)) (by simp) g rfl rfl
      have d4 := dk_f x5
      rw [if_neg (show ¬ (kindOf E P X = 4 ∨ kindOf E P X = 5) by omega), if_pos rfl]
      cases up
      · have hs := sign_range h
        obtain ⟨f0, f1⟩ := flip_range x0 hX
        have kf : kindOf E P (flipOf E P X) = kindOf E P X := kind_flip h x0 hX
        obtain ⟨a0, a1⟩ := above_range h f0 f1 (by omega)
        have n1 : (decide (Fmt E P) && (wB (wordV (flipOf E P (wX (wordV X)))) && decide (wX (wordV (flipOf E P (wX (wordV X)))) < 2 * signOf E P))) = true := by
          rw [wX_wordV, wX_wordV, decide_eq_true h, wB_wordV f0 (by omega), decide_eq_true f1]; rfl
        have n2 : (decide (Fmt E P) && (wB (wordV (aboveOf E P (wX (wordV (flipOf E P (wX (wordV X))))))) && decide (wX (wordV (aboveOf E P (wX (wordV (flipOf E P (wX (wordV X))))))) < 2 * signOf E P))) = true := by
          rw [wX_wordV, wX_wordV, wX_wordV, decide_eq_true h, wB_wordV a0 (by omega), decide_eq_true a1]; rfl
        exact con_plain ok (nx_d E P X (negOf E P (wX (wordV X)))) (by simp only [nx_d_cs, List.forall_mem_cons]; (repeat' apply And.intro) <;> first | with_reducible rfl | with_reducible assumption | (intro c hc; cases hc) | (simp [upK_same, wX_wordV]; done)) (by simp) g (by rw [wX_wordV, wX_wordV, wX_wordV]; rfl) rfl
      · exact con_plain ok (nx_u E P X (negOf E P (wX (wordV X)))) (by simp only [nx_u_cs, List.forall_mem_cons]; (repeat' apply And.intro) <;> first | with_reducible rfl | with_reducible assumption | (intro c hc; cases hc) | (simp [upK_same, wX_wordV]; done)) (by simp) g (by rw [wX_wordV]; rfl) rfl
    · have zX := zX' hX
      rw [if_neg (fun hc => hX (all1.1 hc)), if_neg (show ¬ (6 : Int) = 0 by decide), if_neg (show ¬ (6 : Int) = 0 by decide)]
      cases up
      · exact con_plain ok (nx_x0 E P X) (by simp only [nx_x0_cs, List.forall_mem_cons]; (repeat' apply And.intro) <;> first | with_reducible rfl | with_reducible assumption | (intro c hc; cases hc) | (simp [upK_same, wX_wordV]; done)) (by simp) g rfl rfl
      · exact con_plain ok (nx_x1 E P X) (by simp only [nx_x1_cs, List.forall_mem_cons]; (repeat' apply And.intro) <;> first | with_reducible rfl | with_reducible assumption | (intro c hc; cases hc) | (simp [upK_same, wX_wordV]; done)) (by simp) g rfl rfl
  · rw [if_neg h, if_neg (show ¬ (2 : Int) = 0 by decide), if_neg (show ¬ (2 : Int) = 0 by decide)]
    have hc : (chkE E P != 0) = true := by unfold chkE; rw [if_neg h]; rfl
    cases up
    · exact con_plain ok (nx_e0 E P X) (by simp only [nx_e0_cs, List.forall_mem_cons]; (repeat' apply And.intro) <;> first | with_reducible rfl | with_reducible assumption | (intro c hc; cases hc) | (simp [upK_same, wX_wordV]; done)) (by simp) g rfl rfl
    · exact con_plain ok (nx_e1 E P X) (by simp only [nx_e1_cs, List.forall_mem_cons]; (repeat' apply And.intro) <;> first | with_reducible rfl | with_reducible assumption | (intro c hc; cases hc) | (simp [upK_same, wX_wordV]; done)) (by simp) g rfl rfl
end Go.Proofs.YtaeekmlnfjimjaaGreatDoor
