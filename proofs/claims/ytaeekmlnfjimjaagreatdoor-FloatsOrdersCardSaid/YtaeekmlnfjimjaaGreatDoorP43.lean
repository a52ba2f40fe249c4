/-
  The reference's look: what a word stands for: as the machine reads it.
-/
import Derived.Test.YtaeekmlnfjimjaaGreatDoorP42
set_option linter.unusedVariables false
set_option linter.unusedSimpArgs false
set_option linter.unusedSectionVars false
namespace Go.Proofs.YtaeekmlnfjimjaaGreatDoor
open Go.RowKit Go.Shelf Go.Canon

theorem opRZ_is {w : World} {v : Value} {kind D : Int} {neg : Bool} (hD : 0 < D) (h : ResIs w ⟨none, opRZ kind neg⟩ v) : ResIs w ⟨some (.r 0 D), opRT kind neg⟩ v := by
  have e : v = opRZ kind neg := h
  subst e
  refine ⟨zeroR, is_rq.2 ⟨hD, 0, 0, 1, R.Rm.zero w, by simp⟩, fun ρ n hn => ?_⟩
  exact VRel.agg_of (LRel.arel (l := [_, _, _, _, _]) (l' := [_, _, _, _, _]) ⟨.int _ _, .bool _, .tok _ 0 _ _ hn rfl rfl, .tok _ 1 _ _ hn rfl rfl, .tok _ 2 _ _ hn rfl rfl, trivial⟩)
theorem fine_le' {E P : Int} : fineOf E P = -(biasOf E + P - 2) := by unfold fineOf; omega
theorem leD_fine {E P : Int} (h : Fmt E P) : leD E P = 2 ^ (0 - fineOf E P).toNat := by
  unfold leD; rw [fine_le']; congr 1; omega
theorem le_cross {E P F : Int} (h : Fmt E P) (f0 : 1 ≤ F) : (2 : Int) ^ (F - biasOf E - P + 1).toNat * leD E P = 2 ^ (F - 1).toNat * 2 ^ (-(F - biasOf E - P + 1)).toNat := by
  have hb := bias_range h.1 h.2.1
  have hP := h.2.2.1
  exact pow_cross (by omega)
theorem inR_le {E P x : Int} (h : Fmt E P) (hx : (x.natAbs : Int) < 1000000000000000000000000000000000000000000000000000000000000) : R.inR x (leD E P) := by
  have hb := bias_range h.1 h.2.1
  have hP := h.2.2.2.1
  exact ⟨(inR_sm hx).1, R.p2_pw (by omega)⟩
set_option maxHeartbeats 2000000 in
theorem look_con {E P X : Int} (h : Fmt E P) (x0 : 0 ≤ X) (x1 : X < 2 * signOf E P) : Con Tryz.prog TR 36 [.v (fmtW E P), .v (wordV X)] ⟨some (.r (opK E P X) (leD E P)), opRT (kindOf E P X) (negOf E P X)⟩ := by
  have g : ∀ x, Ar.v x ∈ [Ar.v (fmtW E P), .v (wordV X)] → ground 9 x = true := fun x hx => by
    simp at hx; rcases hx with rfl | rfl <;> rfl
  have ok := nest_ok lookC_ok 3
  have hs := sign_range h
  have hb := bias_range h.1 h.2.1
  have hE := p2E h
  have bX : wB (wordV X) = true := wB_wordV x0 (by omega)
  have hq : 0 < qP P ∧ qP P ≤ 5192296858534827628530496329220096 := by
    obtain ⟨_, _, _, _, c5, c6⟩ := cd_range (d := 0) (K := 0) (neg := false) h (by omega) (by omega) (by omega) (by omega)
    exact ⟨c5, c6⟩
  have hh := half_q h
  rw [two128_eq] at hs
  have hf := h
  obtain ⟨f1, f2, f3, f4, f5⟩ := hf
  have hwP : IntKind.i64.wrap (P - 1) = P - 1 := wrapI (by omega)
  have hwE : IntKind.i64.wrap (E + P) = E + P := wrapI (by omega)
  have hwS : IntKind.i64.wrap (IntKind.i64.wrap (E + P) - 1) = E + P - 1 := by rw [hwE]; exact wrapI (by omega)
  have hw2 : IntKind.i64.wrap (P - 2) = P - 2 := wrapI (by omega)
  have z1 : (-(P - 1)).toNat = 0 := by omega
  have z2 : (-(P - 2)).toNat = 0 := by omega
  have eFR : (wX (wordV X)) / (1 : Int) / 2 ^ (0 : Int).toNat % 2 ^ (IntKind.i64.wrap (P - 1)).toNat = frW P X := by
    rw [wX_wordV, hwP, Int.ediv_one, show (0 : Int).toNat = 0 from rfl, Int.pow_zero, Int.ediv_one]; rfl
  have eFD : (wX (wordV X)) / (1 : Int) / 2 ^ (IntKind.i64.wrap (P - 1)).toNat % 2 ^ E.toNat = fdW E P X := by rw [wX_wordV, hwP, Int.ediv_one]; rfl
  have eSB : (wX (wordV X)) / (1 : Int) / 2 ^ (IntKind.i64.wrap (IntKind.i64.wrap (E + P) - 1)).toNat % 2 ^ (1 : Int).toNat = if negOf E P X = true then 1 else 0 := by rw [wX_wordV, hwS, Int.ediv_one]; exact sign_bit h x0 x1
  obtain ⟨r0, r1⟩ := fr_range P X
  obtain ⟨d0, d1⟩ := fd_range (E := E) (P := P) (X := X)
  have eFI : IntKind.i64.wrap (((wX (wordV X)) / (1 : Int) / 2 ^ (IntKind.i64.wrap (P - 1)).toNat % 2 ^ E.toNat) / (1 : Int)) = fdW E P X := by rw [eFD, Int.ediv_one]; exact wrapI (by omega)
  have p3 : (decide (intR (wX (wordV X)) (1 : Int) ∧ 0 ≤ (wX (wordV X)) / (1 : Int) ∧ (wX (wordV X)) / (1 : Int) < 340282366920938463463374607431768211456) && decide (0 ≤ (0 : Int) ∧ (0 : Int) ≤ 200 ∧ 0 ≤ (IntKind.i64.wrap (P - 1)) ∧ (IntKind.i64.wrap (P - 1)) ≤ 200)) = true := by
    rw [wX_wordV, Int.ediv_one, hwP, decide_eq_true (show intR X 1 ∧ 0 ≤ X ∧ X < 340282366920938463463374607431768211456 from ⟨by unfold intR; omega, x0, by omega⟩), decide_eq_true (by omega)]; rfl
  have p7 : (decide (intR (wX (wordV X)) (1 : Int) ∧ 0 ≤ (wX (wordV X)) / (1 : Int) ∧ (wX (wordV X)) / (1 : Int) < 340282366920938463463374607431768211456) && decide (0 ≤ (IntKind.i64.wrap (P - 1)) ∧ (IntKind.i64.wrap (P - 1)) ≤ 200 ∧ 0 ≤ E ∧ E ≤ 200)) = true := by
    rw [wX_wordV, Int.ediv_one, hwP, decide_eq_true (show intR X 1 ∧ 0 ≤ X ∧ X < 340282366920938463463374607431768211456 from ⟨by unfold intR; omega, x0, by omega⟩), decide_eq_true (by omega)]; rfl
  have p8 : (decide (intR ((wX (wordV X)) / (1 : Int) / 2 ^ (IntKind.i64.wrap (P - 1)).toNat % 2 ^ E.toNat) (1 : Int) ∧ 0 ≤ ((wX (wordV X)) / (1 : Int) / 2 ^ (IntKind.i64.wrap (P - 1)).toNat % 2 ^ E.toNat) / (1 : Int) ∧ ((wX (wordV X)) / (1 : Int) / 2 ^ (IntKind.i64.wrap (P - 1)).toNat % 2 ^ E.toNat) / (1 : Int) < 4294967296)) = true := by
    rw [eFD, Int.ediv_one, decide_eq_true (show intR (fdW E P X) 1 ∧ 0 ≤ fdW E P X ∧ fdW E P X < 4294967296 from ⟨by unfold intR; omega, d0, by omega⟩)]
  have p11 : (decide (intR (wX (wordV X)) (1 : Int) ∧ 0 ≤ (wX (wordV X)) / (1 : Int) ∧ (wX (wordV X)) / (1 : Int) < 340282366920938463463374607431768211456) && decide (0 ≤ (IntKind.i64.wrap (IntKind.i64.wrap (E + P) - 1)) ∧ (IntKind.i64.wrap (IntKind.i64.wrap (E + P) - 1)) ≤ 200 ∧ 0 ≤ (1 : Int) ∧ (1 : Int) ≤ 200)) = true := by
    rw [wX_wordV, Int.ediv_one, hwS, decide_eq_true (show intR X 1 ∧ 0 ≤ X ∧ X < 340282366920938463463374607431768211456 from ⟨by unfold intR; omega, x0, by omega⟩), decide_eq_true (by omega)]; rfl
  have p16 : (decide (-28000 ≤ (IntKind.i64.wrap (P - 2)) ∧ (IntKind.i64.wrap (P - 2)) ≤ 28000)) = true := by rw [hw2]; exact decide_eq_true (by omega)
  have p27 : (decide (-28000 ≤ (IntKind.i64.wrap (P - 1)) ∧ (IntKind.i64.wrap (P - 1)) ≤ 28000)) = true := by rw [hwP]; exact decide_eq_true (by omega)
  have iR : R.inR (frW P X) 1 := inR_sm (by omega)
  have i2 : R.inR (2 ^ (P - 2).toNat) 1 := inR_sm (by have := p2pos (P - 2).toNat; omega)
  have iQ : R.inR (qP P) 1 := inR_sm (by omega)
  have i1 : R.inR 1 (leD E P) := inR_le h (by decide)
  have p24 : (decide (R.inR ((wX (wordV X)) / (1 : Int) / 2 ^ (0 : Int).toNat % 2 ^ (IntKind.i64.wrap (P - 1)).toNat) (1 : Int)) && decide (R.inR (2 ^ (IntKind.i64.wrap (P - 2)).toNat) (2 ^ (-(IntKind.i64.wrap (P - 2))).toNat))) = true := by rw [eFR, hw2, z2, Int.pow_zero, decide_eq_true iR, decide_eq_true i2]; rfl
  have p29 : (decide (R.inR ((wX (wordV X)) / (1 : Int) / 2 ^ (0 : Int).toNat % 2 ^ (IntKind.i64.wrap (P - 1)).toNat) (1 : Int)) && decide (R.inR (1 : Int) (leD E P))) = true := by rw [eFR, decide_eq_true iR, decide_eq_true i1]; rfl
  have p28 : (decide (R.inR (2 ^ (IntKind.i64.wrap (P - 1)).toNat) (2 ^ (-(IntKind.i64.wrap (P - 1))).toNat)) && decide (R.inR ((wX (wordV X)) / (1 : Int) / 2 ^ (0 : Int).toNat % 2 ^ (IntKind.i64.wrap (P - 1)).toNat) (1 : Int))) = true := by
    rw [eFR, hwP, z1, Int.pow_zero, decide_eq_true (show R.inR (2 ^ (P - 1).toNat) 1 from iQ), decide_eq_true iR]; rfl
  have eM : (2 ^ (IntKind.i64.wrap (P - 1)).toNat) * (1 : Int) + ((wX (wordV X)) / (1 : Int) / 2 ^ (0 : Int).toNat % 2 ^ (IntKind.i64.wrap (P - 1)).toNat) * (2 ^ (-(IntKind.i64.wrap (P - 1))).toNat) = qP P + frW P X := by
    rw [eFR, hwP, z1, Int.pow_zero, Int.mul_one, Int.mul_one]; rfl
  have iM : R.inR (qP P + frW P X) 1 := inR_sm (by omega)
  have eN : ((2 ^ (-(IntKind.i64.wrap (P - 1))).toNat) * (1 : Int)) = 1 := by rw [hwP, z1]; rfl
  have eS : IntKind.i64.wrap (IntKind.i64.wrap (IntKind.i64.wrap (IntKind.i64.wrap (((wX (wordV X)) / (1 : Int) / 2 ^ (IntKind.i64.wrap (P - 1)).toNat % 2 ^ E.toNat) / (1 : Int)) - biasOf E) - P) + 1) = fdW E P X - biasOf E - P + 1 := by
    rw [eFI, wrapI (x := fdW E P X - biasOf E) (by omega), wrapI (x := fdW E P X - biasOf E - P) (by omega)]
    exact wrapI (by omega)
  have p32 : (decide (R.inR ((2 ^ (IntKind.i64.wrap (P - 1)).toNat) * (1 : Int) + ((wX (wordV X)) / (1 : Int) / 2 ^ (0 : Int).toNat % 2 ^ (IntKind.i64.wrap (P - 1)).toNat) * (2 ^ (-(IntKind.i64.wrap (P - 1))).toNat)) ((2 ^ (-(IntKind.i64.wrap (P - 1))).toNat) * (1 : Int))) && decide (-28000 ≤ (IntKind.i64.wrap (IntKind.i64.wrap (IntKind.i64.wrap (IntKind.i64.wrap (((wX (wordV X)) / (1 : Int) / 2 ^ (IntKind.i64.wrap (P - 1)).toNat % 2 ^ E.toNat) / (1 : Int)) - biasOf E) - P) + 1)) ∧ (IntKind.i64.wrap (IntKind.i64.wrap (IntKind.i64.wrap (IntKind.i64.wrap (((wX (wordV X)) / (1 : Int) / 2 ^ (IntKind.i64.wrap (P - 1)).toNat % 2 ^ E.toNat) / (1 : Int)) - biasOf E) - P) + 1)) ≤ 28000)) = true := by
    rw [eM, eN, eS, decide_eq_true iM, decide_eq_true (by omega)]; rfl
  clear iR i2 iQ i1 iM
  have sB : ∀ b, negOf E P X = b → (decide (sgI ((wX (wordV X)) / (1 : Int) / 2 ^ (IntKind.i64.wrap (IntKind.i64.wrap (E + P) - 1)).toNat % 2 ^ (1 : Int).toNat) > 0)) = b := by
    intro b hb'
    rw [eSB, hb']
    cases b <;> rfl
  have tT : fdW E P X = 2 * biasOf E + 1 → (IntKind.i64.wrap (((wX (wordV X)) / (1 : Int) / 2 ^ (IntKind.i64.wrap (P - 1)).toNat % 2 ^ E.toNat) / (1 : Int)) == 2 * biasOf E + 1) = true := fun e => by rw [eFI, e]; simp
  have tF : ¬ fdW E P X = 2 * biasOf E + 1 → (IntKind.i64.wrap (((wX (wordV X)) / (1 : Int) / 2 ^ (IntKind.i64.wrap (P - 1)).toNat % 2 ^ E.toNat) / (1 : Int)) == 2 * biasOf E + 1) = false := fun e => by rw [eFI]; simp [e]
  have zT : fdW E P X = 0 → (IntKind.i64.wrap (((wX (wordV X)) / (1 : Int) / 2 ^ (IntKind.i64.wrap (P - 1)).toNat % 2 ^ E.toNat) / (1 : Int)) == 0) = true := fun e => by rw [eFI, e]; rfl
  have zF : ¬ fdW E P X = 0 → (IntKind.i64.wrap (((wX (wordV X)) / (1 : Int) / 2 ^ (IntKind.i64.wrap (P - 1)).toNat % 2 ^ E.toNat) / (1 : Int)) == 0) = false := fun e => by rw [eFI]; simp [e]
  have rT : frW P X = 0 → (sgI ((wX (wordV X)) / (1 : Int) / 2 ^ (0 : Int).toNat % 2 ^ (IntKind.i64.wrap (P - 1)).toNat) == 0) = true := fun e => by rw [eFR, e]; rfl
  have rF : ¬ frW P X = 0 → (sgI ((wX (wordV X)) / (1 : Int) / 2 ^ (0 : Int).toNat % 2 ^ (IntKind.i64.wrap (P - 1)).toNat) == 0) = false := fun e => by
    rw [eFR]; unfold sgI; rw [if_neg e, if_neg (by omega)]; rfl
  have cQ : (decide (cmpI (((wX (wordV X)) / (1 : Int) / 2 ^ (0 : Int).toNat % 2 ^ (IntKind.i64.wrap (P - 1)).toNat) * 2 ^ (-(IntKind.i64.wrap (P - 2))).toNat) (2 ^ (IntKind.i64.wrap (P - 2)).toNat * (1 : Int)) ≥ 0)) = decide (frW P X ≥ 2 ^ (P - 2).toNat) := by
    rw [eFR, hw2, z2, Int.pow_zero, Int.mul_one, Int.mul_one]
    apply decide_eq_decide.2
    unfold cmpI
    split
    · rename_i hl; exact ⟨fun hc => by omega, fun hc => by omega⟩
    · split <;> omega
  have hk := kind_parts h x0 x1
  have hsz := siz_parts h x0 x1
  have hiq := inf_q h
  have hqo : quietOf E P = infOf E P + 2 ^ (P - 2).toNat := rfl
  have hbe := bias_eq h.1
  have hl := leD_fine h
  have hlp := leD_pos E P
  rw [hk]
  by_cases ht : fdW E P X = 2 * biasOf E + 1
  · have t1 := tT ht
    rw [if_pos ht]
    have hF : fdW E P X * qP P = infOf E P := by rw [hiq, ht, show (2 : Int) ^ E.toNat - 1 = 2 * biasOf E + 1 by omega]
    rw [if_pos ht] at hk
    by_cases hr : frW P X = 0
    · have t2 := rT hr
      rw [if_pos hr] at hk ⊢
      have e0 : opK E P X = 0 := by unfold opK; rw [hk]; rfl
      rw [e0]
      have sN := sB _ rfl
      exact con_imp (con_plain ok (lk_i E P X (negOf E P X)) (by simp only [lk_i_cs, List.forall_mem_cons]; (repeat' apply And.intro) <;> first | exact True.intro | with_reducible rfl | with_reducible assumption | (intro c hc; cases hc) | (simp [h]; done)) (by simp) g rfl rfl) (fun w v => opRZ_is hlp)
    · have t2 := rF hr
      rw [if_neg hr] at hk ⊢
      have sN := sB _ rfl
      by_cases hc : frW P X ≥ 2 ^ (P - 2).toNat
      · have t3 := cQ.trans (decide_eq_true hc)
        rw [if_pos hc] at hk ⊢
        have e0 : opK E P X = (frW P X - 2 ^ (P - 2).toNat) * leD E P := by
          unfold opK; rw [hk, if_neg (by decide), if_neg (by decide), if_pos rfl, hl, hsz, hF, hqo, show infOf E P + frW P X - (infOf E P + 2 ^ (P - 2).toNat) = frW P X - 2 ^ (P - 2).toNat by omega]
        refine con_ref ok (lk_q E P X (negOf E P X)) (by simp only [lk_q_cs, List.forall_mem_cons]; (repeat' apply And.intro) <;> first | exact True.intro | with_reducible rfl | with_reducible assumption | (intro c hc; cases hc) | (simp [h]; done)) (by simp) g rfl hlp ?_
        rw [eFR, hw2, z2, Int.pow_zero, e0]
        generalize leD E P = D
        grind
      · have t3 := cQ.trans (decide_eq_false hc)
        rw [if_neg hc] at hk ⊢
        have e0 : opK E P X = frW P X * leD E P := by
          unfold opK; rw [hk, if_neg (by decide), if_pos rfl, hl, hsz, hF, show infOf E P + frW P X - infOf E P = frW P X by omega]
        refine con_ref ok (lk_s E P X (negOf E P X)) (by simp only [lk_s_cs, List.forall_mem_cons]; (repeat' apply And.intro) <;> first | exact True.intro | with_reducible rfl | with_reducible assumption | (intro c hc; cases hc) | (simp [h]; done)) (by simp) g rfl hlp ?_
        rw [eFR, e0]; grind
  · have t1 := tF ht
    rw [if_neg ht] at hk ⊢
    by_cases hz : fdW E P X = 0 ∧ frW P X = 0
    · have t2 := zT hz.1
      have t3 := rT hz.2
      rw [if_pos hz] at hk ⊢
      have e0 : opK E P X = 0 := by unfold opK; rw [hk]; rfl
      rw [e0]
      have sN := sB _ rfl
      exact con_imp (con_plain ok (lk_z E P X (negOf E P X)) (by simp only [lk_z_cs, List.forall_mem_cons]; (repeat' apply And.intro) <;> first | exact True.intro | with_reducible rfl | with_reducible assumption | (intro c hc; cases hc) | (simp [h]; done)) (by simp) g rfl rfl) (fun w v => opRZ_is hlp)
    · rw [if_neg hz] at hk ⊢
      have e0 := opK_parts h x0 x1 hk
      by_cases hd : fdW E P X = 0
      · have t2 := zT hd
        have t3 := rF (fun hq => hz ⟨hd, hq⟩)
        rw [if_pos hd] at e0
        cases hn : negOf E P X
        · have sN := sB _ hn
          refine con_ref ok (lk_pf E P X) (by simp only [lk_pf_cs, List.forall_mem_cons]; (repeat' apply And.intro) <;> first | exact True.intro | with_reducible rfl | with_reducible assumption | (intro c hc; cases hc) | (simp [h]; done)) (by simp) g rfl hlp ?_
          rw [eFR, e0, hn]; unfold sgM; rw [if_neg (by decide)]; grind
        · have sN := sB _ hn
          refine con_ref ok (lk_nf E P X) (by simp only [lk_nf_cs, List.forall_mem_cons]; (repeat' apply And.intro) <;> first | exact True.intro | with_reducible rfl | with_reducible assumption | (intro c hc; cases hc) | (simp [h]; done)) (by simp) g rfl hlp ?_
          rw [eFR, e0, hn]; unfold sgM; rw [if_pos rfl]; grind
      · have t2 := zF hd
        rw [if_neg hd] at e0
        have hx := le_cross (F := fdW E P X) h (by omega)
        cases hn : negOf E P X
        · have sN := sB _ hn
          refine con_ref ok (lk_pn E P X) (by simp only [lk_pn_cs, List.forall_mem_cons]; (repeat' apply And.intro) <;> first | exact True.intro | with_reducible rfl | with_reducible assumption | (intro c hc; cases hc) | (simp [h]; done)) (by simp) g rfl hlp ?_
          rw [eM, eN, eS, e0, hn]; unfold sgM; rw [if_neg (by decide)]
          generalize (2 : Int) ^ (fdW E P X - biasOf E - P + 1).toNat = a at *
          generalize (2 : Int) ^ (-(fdW E P X - biasOf E - P + 1)).toNat = b at *
          generalize (2 : Int) ^ (fdW E P X - 1).toNat = c at *
          rw [Int.mul_assoc, hx]; grind
        · have sN := sB _ hn
          refine con_ref ok (lk_nn E P X) (by simp only [lk_nn_cs, List.forall_mem_cons]; (repeat' apply And.intro) <;> first | exact True.intro | with_reducible rfl | with_reducible assumption | (intro c hc; cases hc) | (simp [h]; done)) (by simp) g rfl hlp ?_
          rw [eM, eN, eS, e0, hn]; unfold sgM; rw [if_pos rfl]
          generalize (2 : Int) ^ (fdW E P X - biasOf E - P + 1).toNat = a at *
          generalize (2 : Int) ^ (-(fdW E P X - biasOf E - P + 1)).toNat = b at *
          generalize (2 : Int) ^ (fdW E P X - 1).toNat = c at *
          rw [Int.neg_mul, Int.mul_assoc, hx]; grind
def rLookS (xs : List Ar) : Option Res := match xs with
  | [.v a, .v b] => match fmt2 a with
    | some (E, P) => some (⟨some (.r (opK E P (wX b)) (leD E P)), opRT (kindOf E P (wX b)) (negOf E P (wX b))⟩ : Res)
    | none => none
  | _ => none
def rLookP (xs : List Ar) : Bool := match xs with
  | [.v a, .v b] => match fmt2 a with
    | some (E, P) => decide (Fmt E P) && (wB b && decide (wX b < 2 * signOf E P))
    | none => false
  | _ => false
def rLookO : CF → St → Option (Value × St) := oracle 36 (conSpec TR rLookP rLookS)
theorem rLookO_ok : RunOkE Tryz.prog rLookO := con_oracle numG gTR roTR2 fun xs R h hp => by
  unfold rLookS at h
  split at h
  · split at h
    · rename_i hm
      injection h with h
      subst h
      unfold rLookP at hp
      simp only [hm, Bool.and_eq_true] at hp
      rw [fmt2_ok hm]
      have := look_con (of_decide_eq_true hp.1) (wX_range hp.2.1).1 (of_decide_eq_true hp.2.2)
      rwa [← wB_eq hp.2.1] at this
    · cases h
  · cases h
end Go.Proofs.YtaeekmlnfjimjaaGreatDoor
