/-
  Rounding: its contract.
-/
import Derived.Test.YtjomebgpnokboaaGreatDoorP22
set_option linter.unusedVariables false
set_option linter.unusedSimpArgs false
set_option linter.unusedSectionVars false
namespace Go.Proofs.YtjomebgpnokboaaGreatDoor
open Go.RowKit Go.Shelf Go.Canon

/-! what the numbers are -/
def tO (E K k : Int) : Int := if 0 > logI K k - (1 - biasOf E) then 0 else logI K k - (1 - biasOf E)
def sizeR (E P K k : Int) : Int := tO E K k * 2 ^ (P - 1).toNat + rD E P K k
def upR (E P m K k : Int) : Bool := upOf (modeOf m (decide (K < 0))) (rD E P K k % 2 == 1) (rR E P K k)
def sizeU (E P m K k : Int) : Int := sizeR E P K k + (if upR E P m K k = true then 1 else 0)
def rndW (E P m K k : Int) : Int :=
  if K = 0 then 0 else if logI K k > biasOf E then ovW E P m (decide (K < 0)) else if sizeU E P m K k < infOf E P then sizeU E P m K k + (if K < 0 then signOf E P else 0) else ovW E P m (decide (K < 0))
def rndF (E P m K k : Int) : Int :=
  if K = 0 then 0 else if logI K k > biasOf E then 20 else if sizeU E P m K k < infOf E P then (if rR E P K k = 0 then 0 else if logI K k < 1 - biasOf E then 24 else 16) else 20

theorem restF_range (A e : Int) : 0 ≤ restF A e ∧ restF A e ≤ 3 := by unfold restF; split <;> split <;> omega
theorem modeOf_range {m : Int} (neg : Bool) (h0 : 0 ≤ m) (h1 : m ≤ 4) : 0 ≤ modeOf m neg ∧ modeOf m neg ≤ 4 := by unfold modeOf; split <;> (try split) <;> (try split) <;> omega
theorem inf_eq {E P : Int} (h : Fmt E P) : infOf E P = (2 ^ E.toNat - 1) * 2 ^ (P - 1).toNat := by
  obtain ⟨h1, h2, h3, h4, h5⟩ := h
  unfold infOf
  rw [show (E + P - 1).toNat = E.toNat + (P - 1).toNat by omega, Int.pow_add, Int.sub_mul, Int.one_mul]
theorem bias_eq {E : Int} (h0 : 2 ≤ E) : 2 * biasOf E = 2 ^ E.toNat - 2 := by
  unfold biasOf
  rw [show E.toNat = (E - 1).toNat + 1 by omega, Int.pow_succ]
  omega
theorem stepOf_nz {E P K k : Int} (h : K ≠ 0) : stepOf E P K k = (if 1 - biasOf E > logI K k then 1 - biasOf E else logI K k) - P + 1 := by unfold stepOf; rw [if_neg h]
/-- in halves of the step: fewer than 2^(P + 1) -/
theorem halves_lt {E P K k : Int} (hP : 2 ≤ P) (h : K ≠ 0) : floorK K.natAbs (k + (1 - stepOf E P K k)) < 2 ^ (P + 1).toNat := by
  have hs : logI K k - P + 1 ≤ stepOf E P K k := by rw [stepOf_nz h]; split <;> omega
  have hp : 0 < (K.natAbs : Int) := by omega
  obtain ⟨b1, b2, b3⟩ := blen_spec hp
  have hl : logI K k = blen K.natAbs - 1 + k := by unfold logI; rw [if_neg h]
  generalize hst : stepOf E P K k = s at *
  unfold floorK
  generalize hB : blen K.natAbs = B at *
  generalize hAe : (K.natAbs : Int) = A at *
  obtain ⟨q, hq⟩ : ∃ q : Nat, P + 1 = q := ⟨(P + 1).toNat, by omega⟩
  rw [hq, Int.toNat_natCast]
  by_cases he : 0 ≤ k + (1 - s)
  · obtain ⟨e, he2⟩ : ∃ e : Nat, k + (1 - s) = e := ⟨(k + (1 - s)).toNat, by omega⟩
    rw [he2, Int.toNat_natCast, show (-(e : Int)).toNat = 0 by omega]
    simp only [Int.pow_zero, Int.ediv_one]
    obtain ⟨d, hd⟩ : ∃ d : Nat, q = B + e + d := ⟨q - (B + e), by omega⟩
    rw [hd, Int.pow_add, Int.pow_add]
    have h1 : A * 2 ^ e < 2 ^ B * 2 ^ e := Int.mul_lt_mul_of_pos_right b2 (p2pos e)
    have h2 : (2 : Int) ^ B * 2 ^ e * 1 ≤ 2 ^ B * 2 ^ e * 2 ^ d := Int.mul_le_mul_of_nonneg_left (p2pos d) (Int.mul_nonneg (Int.le_of_lt (p2pos B)) (Int.le_of_lt (p2pos e)))
    omega
  · obtain ⟨e, he2⟩ : ∃ e : Nat, k + (1 - s) = -(e : Int) := ⟨(-(k + (1 - s))).toNat, by omega⟩
    rw [he2, show (-(e : Int)).toNat = 0 by omega, Int.neg_neg, Int.toNat_natCast]
    simp only [Int.pow_zero, Int.mul_one]
    refine Int.ediv_lt_of_lt_mul (p2pos e) ?_
    by_cases hbe : B ≤ q + e
    · obtain ⟨d, hd⟩ : ∃ d : Nat, q + e = B + d := ⟨q + e - B, by omega⟩
      rw [← Int.pow_add, hd, Int.pow_add]
      have h2 : (2 : Int) ^ B * 1 ≤ 2 ^ B * 2 ^ d := Int.mul_le_mul_of_nonneg_left (p2pos d) (Int.le_of_lt (p2pos B))
      omega
    · omega
theorem rD_lt {E P K k : Int} (hP : 2 ≤ P) (h : K ≠ 0) : 0 ≤ rD E P K k ∧ rD E P K k < 2 * 2 ^ (P - 1).toNat := by
  have h1 := halves_lt (E := E) (k := k) hP h
  have h2 : (2 : Int) ^ (P + 1).toNat = 2 * (2 * 2 ^ (P - 1).toNat) := by
    rw [show (P + 1).toNat = (P - 1).toNat + 1 + 1 by omega, Int.pow_succ, Int.pow_succ]; omega
  have h3 : 0 ≤ floorK K.natAbs (k + (1 - stepOf E P K k)) := Int.ediv_nonneg (Int.mul_nonneg (by omega) (Int.le_of_lt (p2pos _))) (Int.le_of_lt (p2pos _))
  unfold rD
  omega
theorem p124_lt {P : Int} (hP : P ≤ 113) : (2 : Int) ^ (P + 1).toNat ≤ 2 ^ 124 := by
  obtain ⟨d, hd⟩ : ∃ d : Nat, 124 = (P + 1).toNat + d := ⟨124 - (P + 1).toNat, by omega⟩
  rw [hd, Int.pow_add]
  have := Int.mul_le_mul_of_nonneg_left (show (1 : Int) ≤ 2 ^ d from p2pos d) (Int.le_of_lt (p2pos (P + 1).toNat))
  omega
theorem p124_sml : (2 : Int) ^ 124 ≤ sml := by
  unfold sml
  rw [show (60000 : Nat) = 124 + 59876 from rfl, Int.pow_add]
  have := Int.mul_le_mul_of_nonneg_left (show (1 : Int) ≤ 2 ^ 59876 from p2pos _) (Int.le_of_lt (p2pos 124))
  omega
theorem stepsOk_of {E P K k : Int} (h : Fmt E P) (hb : inB K k) (hk : -40000 ≤ k) (h0 : K ≠ 0) (hbig : logI K k ≤ biasOf E) : stepsOk K k (stepOf E P K k) := by
  have h1 := halves_lt (E := E) (k := k) h.2.2.1 h0
  have h2 := p124_lt h.2.2.2.1
  have h3 := p124_sml
  have hbr := bias_range h.1 h.2.1
  obtain ⟨f1, f2, f3, f4, f5⟩ := h
  have hs := stepOf_nz (E := E) (P := P) (k := k) h0
  have hlo : 1 - biasOf E ≤ stepOf E P K k + P - 1 ∧ stepOf E P K k + P - 1 ≤ biasOf E := by rw [hs]; split <;> omega
  refine ⟨hb, by omega, by omega, by omega, ?_, by omega⟩
  by_cases he : 0 ≤ k + (1 - stepOf E P K k)
  · have : floorK K.natAbs (k + (1 - stepOf E P K k)) = K.natAbs * 2 ^ (k + (1 - stepOf E P K k)).toNat := by
      unfold floorK
      rw [show (-(k + (1 - stepOf E P K k))).toNat = 0 by omega]
      simp
    omega
  · rw [show (k + (1 - stepOf E P K k)).toNat = 0 by omega]
    have := hb.1
    have := hb.2.1
    simp only [Int.pow_zero, Int.mul_one]
    omega
theorem sizeR_lt {E P K k : Int} (h : Fmt E P) (h0 : K ≠ 0) (hbig : logI K k ≤ biasOf E) : 0 ≤ tO E K k ∧ 0 ≤ sizeR E P K k ∧ sizeR E P K k < infOf E P ∧ tO E K k * 2 ^ (P - 1).toNat < infOf E P := by
  have hd := rD_lt (E := E) (k := k) h.2.2.1 h0
  have hi := inf_eq h
  have hb := bias_eq h.1
  have hbr := bias_range h.1 h.2.1
  have ht : 0 ≤ tO E K k ∧ tO E K k ≤ 2 ^ E.toNat - 3 := by unfold tO; split <;> omega
  have hp := p2pos (P - 1).toNat
  have hm := Int.mul_le_mul_of_nonneg_right ht.2 (Int.le_of_lt hp)
  have hm0 := Int.mul_nonneg ht.1 (Int.le_of_lt hp)
  unfold sizeR
  rw [Int.sub_mul] at hm hi
  generalize tO E K k * 2 ^ (P - 1).toNat = X at *
  generalize (2 : Int) ^ E.toNat * 2 ^ (P - 1).toNat = Y at *
  generalize (2 : Int) ^ (P - 1).toNat = p at *
  omega

theorem round_con {E P m K k : Int} (h : Fmt E P) (m0 : 0 ≤ m) (m1 : m ≤ 4) (hb : inB K k) (hk : -40000 ≤ k) : Con Tryz.prog TR 74 [.v (machV E P m), .n K k] ⟨none, .tuple #[wordV (rndW E P m K k), .int .i64 (rndF E P m K k)]⟩ := by
  have hgr := groundMN E P m K k
  have hinf := inf_range h
  have hsg := sign_range h
  have hlr := logI_range hb
  have hbr := bias_range h.1 h.2.1
  by_cases h0 : K = 0
  · subst h0
    refine con_plain roundC_ok (round_zero E P m 0 k) (by simp [cs0, logE, hb]) (by simp) hgr ?_ rfl
    simp [rndW, rndF, wordV]
  have hz : (logE K != 0) = false := by simp [logE, h0]
  have c0 : ∀ c ∈ cs0 K k false, c.1 = c.2 := by simp [cs0, hz, hb]
  have hsgn : decide (sgI K < 0) = decide (K < 0) := by unfold sgI; rw [if_neg h0]; split <;> simp_all
  have c1 : ∀ neg big, decide (K < 0) = neg → decide (logI K k > biasOf E) = big → ∀ c ∈ cs1 E P m K k neg big, c.1 = c.2 := by
    intro neg big e1 e2
    unfold cs1
    simp only [List.forall_mem_cons]
    exact ⟨e2, decide_eq_true h, decide_eq_true ⟨m0, m1⟩, hsgn.trans e1, trivial, by simp, hsgn.trans e1, trivial, by simp, c0⟩
  have c5 : ∀ l, (∀ c ∈ l, c.1 = c.2) → ∀ c ∈ cs5 E P m l, c.1 = c.2 := by
    intro l hl
    unfold cs5
    simp only [List.forall_mem_cons]
    exact ⟨trivial, by simp [h, m0, m1], hl⟩
  by_cases hbig : logI K k > biasOf E
  · have vW : rndW E P m K k = ovW E P m (decide (K < 0)) := by unfold rndW; rw [if_neg h0, if_pos hbig]
    have vF : rndF E P m K k = 20 := by unfold rndF; rw [if_neg h0, if_pos hbig]
    rw [vW, vF]
    cases hn : decide (K < 0)
    · exact con_plain roundC_ok (round_big_f E P m K k) (c5 _ (c1 _ _ hn (by simpa using hbig))) (by simp) hgr rfl rfl
    · exact con_plain roundC_ok (round_big_t E P m K k) (c5 _ (c1 _ _ hn (by simpa using hbig))) (by simp) hgr rfl rfl
  have hle : logI K k ≤ biasOf E := by omega
  have hbg : decide (logI K k > biasOf E) = false := by simpa using hle
  obtain ⟨t0, s0, s1, s2⟩ := sizeR_lt (P := P) h h0 hle
  have hdr := rD_lt (E := E) (k := k) h.2.2.1 h0
  have hso := stepsOk_of h hb hk h0 hle
  have hrr := restF_range K.natAbs (k + (1 - stepOf E P K k))
  have wT : rT E K k = tO E K k := by
    unfold rT
    have e1 : IntKind.i64.wrap (logI K k - (1 - biasOf E)) = logI K k - (1 - biasOf E) := wrapI (by omega)
    rw [e1]
    show IntKind.u64.wrap (tO E K k) = tO E K k
    have : tO E K k ≤ 200000 := by unfold tO; split <;> omega
    rw [IntKind.wrap_u64]
    omega
  have wP : IntKind.i64.wrap (P - 1) = P - 1 := wrapI (by have := h.2.2.1; have := h.2.2.2.1; omega)
  have wA : wX (.agg #[.int .u64 0, .int .u64 (tO E K k)]) = tO E K k := by
    show 0 * 18446744073709551616 + tO E K k = tO E K k
    omega
  have wAB : wB (.agg #[.int .u64 0, .int .u64 (tO E K k)]) = true := by
    have : tO E K k ≤ 200000 := by unfold tO; split <;> omega
    exact decide_eq_true ⟨by omega, by omega, t0, by omega⟩
  have eL : rL E P K k = wordV (tO E K k * 2 ^ (P - 1).toNat) := by
    unfold rL
    rw [wT, wP, wA, Int.emod_eq_of_lt (Int.mul_nonneg t0 (Int.le_of_lt (p2pos _))) (by omega)]
  have eS : rS E P K k = wordV (sizeR E P K k) := by
    unfold rS
    rw [eL, wX_wordV, wX_wordV]
    show wordV (sizeR E P K k % two128) = _
    rw [Int.emod_eq_of_lt s0 (by omega)]
  have eU : rU E P K k = wordV (sizeR E P K k + 1) := by
    unfold rU
    rw [eS, wX_wordV, wX_wordV, Int.emod_eq_of_lt (by omega) (by omega)]
  have bD : wB (wordV (rD E P K k)) = true := wB_wordV hdr.1 (by unfold sizeR at s1; have := Int.mul_nonneg t0 (Int.le_of_lt (p2pos (P - 1).toNat)); omega)
  have bL : wB (rL E P K k) = true := by rw [eL]; exact wB_wordV (Int.mul_nonneg t0 (Int.le_of_lt (p2pos _))) (by omega)
  have b1 : wB (wordV 1) = true := wB_wordV (by omega) (by rw [two128_eq]; omega)
  have bI : wB (wordV (infOf E P)) = true := wB_wordV (by omega) (by omega)
  have hbit : bits BinOp.and IntKind.u64 (rD E P K k % 18446744073709551616) 1 = rD E P K k % 2 := by
    rw [and_one_u64 _ (by omega) (by omega)]; omega
  have c2 : ∀ neg odd up, decide (K < 0) = neg → (rD E P K k % 2 == 1) = odd → upOf (modeOf m neg) odd (rR E P K k) = up → ∀ c ∈ cs2 E P m K k neg odd up, c.1 = c.2 := by
    intro neg odd up e1 e2 e3
    have hmr := modeOf_range neg m0 m1
    unfold cs2
    simp only [List.forall_mem_cons]
    refine ⟨e3, decide_eq_true ⟨hmr.1, hmr.2, hrr.1, hrr.2⟩, by rw [hbit]; exact e2, trivial, trivial, by rw [bL, bD]; rfl, ?_, trivial, decide_eq_true h, trivial, decide_eq_true hso, by simp, by simp [h, hb], by simp, c1 _ _ e1 hbg⟩
    rw [wT, wAB, wP, decide_eq_true (by have := h.2.2.1; have := h.2.2.2.1; omega)]; rfl
  have c3 : ∀ neg odd, decide (K < 0) = neg → (rD E P K k % 2 == 1) = odd → upOf (modeOf m neg) odd (rR E P K k) = true → ∀ c ∈ cs3 E P m K k neg odd, c.1 = c.2 := by
    intro neg odd e1 e2 e3
    unfold cs3
    simp only [List.forall_mem_cons]
    exact ⟨trivial, by rw [eS, wB_wordV s0 (by omega), b1]; rfl, trivial, c2 _ _ _ e1 e2 e3⟩
  have c4 : ∀ S lt l, 0 ≤ S → S ≤ infOf E P → decide (S < infOf E P) = lt → (∀ c ∈ l, c.1 = c.2) → ∀ c ∈ cs4 E P m (wordV S) lt l, c.1 = c.2 := by
    intro S lt l g1 g2 e hl
    unfold cs4
    simp only [List.forall_mem_cons, wX_wordV]
    exact ⟨e, by rw [wB_wordV g1 (by omega), bI]; rfl, decide_eq_true h, hl⟩
  have c6 : ∀ S l, 0 ≤ S → S < infOf E P → (∀ c ∈ l, c.1 = c.2) → ∀ c ∈ cs6 E P (wordV S) l, c.1 = c.2 := by
    intro S l g1 g2 hl
    have g3 : S < signOf E P := by have := hinf.2.1; unfold signOf; omega
    unfold cs6
    simp only [List.forall_mem_cons, wX_wordV]
    exact ⟨trivial, by simp [h, wB_wordV g1 (by omega), g3], hl⟩
  have c7 : ∀ tiny l, rR E P K k ≠ 0 → decide (logI K k < 1 - biasOf E) = tiny → (∀ c ∈ l, c.1 = c.2) → ∀ c ∈ cs7 E P K k tiny l, c.1 = c.2 := by
    intro tiny l g1 e hl
    unfold cs7
    simp only [List.forall_mem_cons]
    exact ⟨e, decide_eq_true h, by simpa using g1, hl⟩
  have vO : ¬ sizeU E P m K k < infOf E P → rndW E P m K k = ovW E P m (decide (K < 0)) ∧ rndF E P m K k = 20 := fun g => by
    unfold rndW rndF; rw [if_neg h0, if_neg hbig, if_neg g, if_neg h0, if_neg hbig, if_neg g]; exact ⟨rfl, rfl⟩
  have vI : sizeU E P m K k < infOf E P → rndW E P m K k = sizeU E P m K k + (if K < 0 then signOf E P else 0) ∧ rndF E P m K k = (if rR E P K k = 0 then 0 else if logI K k < 1 - biasOf E then 24 else 16) := fun g => by
    unfold rndW rndF; rw [if_neg h0, if_neg hbig, if_pos g, if_neg h0, if_neg hbig, if_pos g]; exact ⟨rfl, rfl⟩
  -- one path of sixteen
  have leaf : ∀ (neg odd up : Bool), decide (K < 0) = neg → (rD E P K k % 2 == 1) = odd → upOf (modeOf m neg) odd (rR E P K k) = up → upR E P m K k = up := by
    intro neg odd up e1 e2 e3; unfold upR; rw [e1, e2, e3]
  cases hn : decide (K < 0)
  · have hK : ¬ K < 0 := by simpa using hn
    cases ho : (rD E P K k % 2 == 1)
    · cases hu : upOf (modeOf m false) false (rR E P K k)
      · have hsz : sizeU E P m K k = (sizeR E P K k) := by unfold sizeU; rw [leaf _ _ _ hn ho hu]; simp
        by_cases hlt : (sizeR E P K k) < infOf E P
        · obtain ⟨vW, vF⟩ := vI (by rw [hsz]; exact hlt)
          rw [vW, vF, hsz, if_neg hK, Int.add_zero]
          by_cases hr : rR E P K k = 0
          · rw [if_pos hr]
            have hrun := round_fff_e E P m K k
            rw [eS] at hrun
            refine con_plain roundC_ok hrun (c6 _ _ (by omega) (by omega) ?_) (by simp) hgr (by rw [wX_wordV]) rfl
            simp only [List.forall_mem_cons]
            exact ⟨by simp [hr], c4 _ _ _ (by omega) (by omega) (decide_eq_true hlt) (c2 _ _ _ hn ho hu)⟩
          · rw [if_neg hr]
            by_cases ht : logI K k < 1 - biasOf E
            · rw [if_pos ht]
              have hrun := round_fff_t E P m K k
              rw [eS] at hrun
              exact con_plain roundC_ok hrun (c6 _ _ (by omega) (by omega) (c7 _ _ hr (decide_eq_true ht) (c4 _ _ _ (by omega) (by omega) (decide_eq_true hlt) (c2 _ _ _ hn ho hu)))) (by simp) hgr (by rw [wX_wordV]) rfl
            · rw [if_neg ht]
              have hrun := round_fff_i E P m K k
              rw [eS] at hrun
              exact con_plain roundC_ok hrun (c6 _ _ (by omega) (by omega) (c7 _ _ hr (decide_eq_false ht) (c4 _ _ _ (by omega) (by omega) (decide_eq_true hlt) (c2 _ _ _ hn ho hu)))) (by simp) hgr (by rw [wX_wordV]) rfl
        · obtain ⟨vW, vF⟩ := vO (by rw [hsz]; exact hlt)
          rw [vW, vF, hn]
          have hrun := round_fff_o E P m K k
          rw [eS] at hrun
          exact con_plain roundC_ok hrun (c5 _ (c4 _ _ _ (by omega) (by omega) (decide_eq_false hlt) (c2 _ _ _ hn ho hu))) (by simp) hgr rfl rfl
      · have hsz : sizeU E P m K k = (sizeR E P K k + 1) := by unfold sizeU; rw [leaf _ _ _ hn ho hu]; simp
        by_cases hlt : (sizeR E P K k + 1) < infOf E P
        · obtain ⟨vW, vF⟩ := vI (by rw [hsz]; exact hlt)
          rw [vW, vF, hsz, if_neg hK, Int.add_zero]
          by_cases hr : rR E P K k = 0
          · rw [if_pos hr]
            have hrun := round_fft_e E P m K k
            rw [eU] at hrun
            refine con_plain roundC_ok hrun (c6 _ _ (by omega) (by omega) ?_) (by simp) hgr (by rw [wX_wordV]) rfl
            simp only [List.forall_mem_cons]
            exact ⟨by simp [hr], c4 _ _ _ (by omega) (by omega) (decide_eq_true hlt) (c3 _ _ hn ho hu)⟩
          · rw [if_neg hr]
            by_cases ht : logI K k < 1 - biasOf E
            · rw [if_pos ht]
              have hrun := round_fft_t E P m K k
              rw [eU] at hrun
              exact con_plain roundC_ok hrun (c6 _ _ (by omega) (by omega) (c7 _ _ hr (decide_eq_true ht) (c4 _ _ _ (by omega) (by omega) (decide_eq_true hlt) (c3 _ _ hn ho hu)))) (by simp) hgr (by rw [wX_wordV]) rfl
            · rw [if_neg ht]
              have hrun := round_fft_i E P m K k
              rw [eU] at hrun
              exact con_plain roundC_ok hrun (c6 _ _ (by omega) (by omega) (c7 _ _ hr (decide_eq_false ht) (c4 _ _ _ (by omega) (by omega) (decide_eq_true hlt) (c3 _ _ hn ho hu)))) (by simp) hgr (by rw [wX_wordV]) rfl
        · obtain ⟨vW, vF⟩ := vO (by rw [hsz]; exact hlt)
          rw [vW, vF, hn]
          have hrun := round_fft_o E P m K k
          rw [eU] at hrun
          exact con_plain roundC_ok hrun (c5 _ (c4 _ _ _ (by omega) (by omega) (decide_eq_false hlt) (c3 _ _ hn ho hu))) (by simp) hgr rfl rfl
    · cases hu : upOf (modeOf m false) true (rR E P K k)
      · have hsz : sizeU E P m K k = (sizeR E P K k) := by unfold sizeU; rw [leaf _ _ _ hn ho hu]; simp
        by_cases hlt : (sizeR E P K k) < infOf E P
        · obtain ⟨vW, vF⟩ := vI (by rw [hsz]; exact hlt)
          rw [vW, vF, hsz, if_neg hK, Int.add_zero]
          by_cases hr : rR E P K k = 0
          · rw [if_pos hr]
            have hrun := round_ftf_e E P m K k
            rw [eS] at hrun
            refine con_plain roundC_ok hrun (c6 _ _ (by omega) (by omega) ?_) (by simp) hgr (by rw [wX_wordV]) rfl
            simp only [List.forall_mem_cons]
            exact ⟨by simp [hr], c4 _ _ _ (by omega) (by omega) (decide_eq_true hlt) (c2 _ _ _ hn ho hu)⟩
          · rw [if_neg hr]
            by_cases ht : logI K k < 1 - biasOf E
            · rw [if_pos ht]
              have hrun := round_ftf_t E P m K k
              rw [eS] at hrun
              exact con_plain roundC_ok hrun (c6 _ _ (by omega) (by omega) (c7 _ _ hr (decide_eq_true ht) (c4 _ _ _ (by omega) (by omega) (decide_eq_true hlt) (c2 _ _ _ hn ho hu)))) (by simp) hgr (by rw [wX_wordV]) rfl
            · rw [if_neg ht]
              have hrun := round_ftf_i E P m K k
              rw [eS] at hrun
              exact con_plain roundC_ok hrun (c6 _ _ (by omega) (by omega) (c7 _ _ hr (decide_eq_false ht) (c4 _ _ _ (by omega) (by omega) (decide_eq_true hlt) (c2 _ _ _ hn ho hu)))) (by simp) hgr (by rw [wX_wordV]) rfl
        · obtain ⟨vW, vF⟩ := vO (by rw [hsz]; exact hlt)
          rw [vW, vF, hn]
          have hrun := round_ftf_o E P m K k
          rw [eS] at hrun
          exact con_plain roundC_ok hrun (c5 _ (c4 _ _ _ (by omega) (by omega) (decide_eq_false hlt) (c2 _ _ _ hn ho hu))) (by simp) hgr rfl rfl
      · have hsz : sizeU E P m K k = (sizeR E P K k + 1) := by unfold sizeU; rw [leaf _ _ _ hn ho hu]; simp
        by_cases hlt : (sizeR E P K k + 1) < infOf E P
        · obtain ⟨vW, vF⟩ := vI (by rw [hsz]; exact hlt)
          rw [vW, vF, hsz, if_neg hK, Int.add_zero]
          by_cases hr : rR E P K k = 0
          · rw [if_pos hr]
            have hrun := round_ftt_e E P m K k
            rw [eU] at hrun
            refine con_plain roundC_ok hrun (c6 _ _ (by omega) (by omega) ?_) (by simp) hgr (by rw [wX_wordV]) rfl
            simp only [List.forall_mem_cons]
            exact ⟨by simp [hr], c4 _ _ _ (by omega) (by omega) (decide_eq_true hlt) (c3 _ _ hn ho hu)⟩
          · rw [if_neg hr]
            by_cases ht : logI K k < 1 - biasOf E
            · rw [if_pos ht]
              have hrun := round_ftt_t E P m K k
              rw [eU] at hrun
              exact con_plain roundC_ok hrun (c6 _ _ (by omega) (by omega) (c7 _ _ hr (decide_eq_true ht) (c4 _ _ _ (by omega) (by omega) (decide_eq_true hlt) (c3 _ _ hn ho hu)))) (by simp) hgr (by rw [wX_wordV]) rfl
            · rw [if_neg ht]
              have hrun := round_ftt_i E P m K k
              rw [eU] at hrun
              exact con_plain roundC_ok hrun (c6 _ _ (by omega) (by omega) (c7 _ _ hr (decide_eq_false ht) (c4 _ _ _ (by omega) (by omega) (decide_eq_true hlt) (c3 _ _ hn ho hu)))) (by simp) hgr (by rw [wX_wordV]) rfl
        · obtain ⟨vW, vF⟩ := vO (by rw [hsz]; exact hlt)
          rw [vW, vF, hn]
          have hrun := round_ftt_o E P m K k
          rw [eU] at hrun
          exact con_plain roundC_ok hrun (c5 _ (c4 _ _ _ (by omega) (by omega) (decide_eq_false hlt) (c3 _ _ hn ho hu))) (by simp) hgr rfl rfl
  · have hK : K < 0 := by simpa using hn
    cases ho : (rD E P K k % 2 == 1)
    · cases hu : upOf (modeOf m true) false (rR E P K k)
      · have hsz : sizeU E P m K k = (sizeR E P K k) := by unfold sizeU; rw [leaf _ _ _ hn ho hu]; simp
        by_cases hlt : (sizeR E P K k) < infOf E P
        · obtain ⟨vW, vF⟩ := vI (by rw [hsz]; exact hlt)
          rw [vW, vF, hsz, if_pos hK]
          by_cases hr : rR E P K k = 0
          · rw [if_pos hr]
            have hrun := round_tff_e E P m K k
            rw [eS] at hrun
            refine con_plain roundC_ok hrun (c6 _ _ (by omega) (by omega) ?_) (by simp) hgr (by rw [wX_wordV]) rfl
            simp only [List.forall_mem_cons]
            exact ⟨by simp [hr], c4 _ _ _ (by omega) (by omega) (decide_eq_true hlt) (c2 _ _ _ hn ho hu)⟩
          · rw [if_neg hr]
            by_cases ht : logI K k < 1 - biasOf E
            · rw [if_pos ht]
              have hrun := round_tff_t E P m K k
              rw [eS] at hrun
              exact con_plain roundC_ok hrun (c6 _ _ (by omega) (by omega) (c7 _ _ hr (decide_eq_true ht) (c4 _ _ _ (by omega) (by omega) (decide_eq_true hlt) (c2 _ _ _ hn ho hu)))) (by simp) hgr (by rw [wX_wordV]) rfl
            · rw [if_neg ht]
              have hrun := round_tff_i E P m K k
              rw [eS] at hrun
              exact con_plain roundC_ok hrun (c6 _ _ (by omega) (by omega) (c7 _ _ hr (decide_eq_false ht) (c4 _ _ _ (by omega) (by omega) (decide_eq_true hlt) (c2 _ _ _ hn ho hu)))) (by simp) hgr (by rw [wX_wordV]) rfl
        · obtain ⟨vW, vF⟩ := vO (by rw [hsz]; exact hlt)
          rw [vW, vF, hn]
          have hrun := round_tff_o E P m K k
          rw [eS] at hrun
          exact con_plain roundC_ok hrun (c5 _ (c4 _ _ _ (by omega) (by omega) (decide_eq_false hlt) (c2 _ _ _ hn ho hu))) (by simp) hgr rfl rfl
      · have hsz : sizeU E P m K k = (sizeR E P K k + 1) := by unfold sizeU; rw [leaf _ _ _ hn ho hu]; simp
        by_cases hlt : (sizeR E P K k + 1) < infOf E P
        · obtain ⟨vW, vF⟩ := vI (by rw [hsz]; exact hlt)
          rw [vW, vF, hsz, if_pos hK]
          by_cases hr : rR E P K k = 0
          · rw [if_pos hr]
            have hrun := round_tft_e E P m K k
            rw [eU] at hrun
            refine con_plain roundC_ok hrun (c6 _ _ (by omega) (by omega) ?_) (by simp) hgr (by rw [wX_wordV]) rfl
            simp only [List.forall_mem_cons]
            exact ⟨by simp [hr], c4 _ _ _ (by omega) (by omega) (decide_eq_true hlt) (c3 _ _ hn ho hu)⟩
          · rw [if_neg hr]
            by_cases ht : logI K k < 1 - biasOf E
            · rw [if_pos ht]
              have hrun := round_tft_t E P m K k
              rw [eU] at hrun
              exact con_plain roundC_ok hrun (c6 _ _ (by omega) (by omega) (c7 _ _ hr (decide_eq_true ht) (c4 _ _ _ (by omega) (by omega) (decide_eq_true hlt) (c3 _ _ hn ho hu)))) (by simp) hgr (by rw [wX_wordV]) rfl
            · rw [if_neg ht]
              have hrun := round_tft_i E P m K k
              rw [eU] at hrun
              exact con_plain roundC_ok hrun (c6 _ _ (by omega) (by omega) (c7 _ _ hr (decide_eq_false ht) (c4 _ _ _ (by omega) (by omega) (decide_eq_true hlt) (c3 _ _ hn ho hu)))) (by simp) hgr (by rw [wX_wordV]) rfl
        · obtain ⟨vW, vF⟩ := vO (by rw [hsz]; exact hlt)
          rw [vW, vF, hn]
          have hrun := round_tft_o E P m K k
          rw [eU] at hrun
          exact con_plain roundC_ok hrun (c5 _ (c4 _ _ _ (by omega) (by omega) (decide_eq_false hlt) (c3 _ _ hn ho hu))) (by simp) hgr rfl rfl
    · cases hu : upOf (modeOf m true) true (rR E P K k)
      · have hsz : sizeU E P m K k = (sizeR E P K k) := by unfold sizeU; rw [leaf _ _ _ hn ho hu]; simp
        by_cases hlt : (sizeR E P K k) < infOf E P
        · obtain ⟨vW, vF⟩ := vI (by rw [hsz]; exact hlt)
          rw [vW, vF, hsz, if_pos hK]
          by_cases hr : rR E P K k = 0
          · rw [if_pos hr]
            have hrun := round_ttf_e E P m K k
            rw [eS] at hrun
            refine con_plain roundC_ok hrun (c6 _ _ (by omega) (by omega) ?_) (by simp) hgr (by rw [wX_wordV]) rfl
            simp only [List.forall_mem_cons]
            exact ⟨by simp [hr], c4 _ _ _ (by omega) (by omega) (decide_eq_true hlt) (c2 _ _ _ hn ho hu)⟩
          · rw [if_neg hr]
            by_cases ht : logI K k < 1 - biasOf E
            · rw [if_pos ht]
              have hrun := round_ttf_t E P m K k
              rw [eS] at hrun
              exact con_plain roundC_ok hrun (c6 _ _ (by omega) (by omega) (c7 _ _ hr (decide_eq_true ht) (c4 _ _ _ (by omega) (by omega) (decide_eq_true hlt) (c2 _ _ _ hn ho hu)))) (by simp) hgr (by rw [wX_wordV]) rfl
            · rw [if_neg ht]
              have hrun := round_ttf_i E P m K k
              rw [eS] at hrun
              exact con_plain roundC_ok hrun (c6 _ _ (by omega) (by omega) (c7 _ _ hr (decide_eq_false ht) (c4 _ _ _ (by omega) (by omega) (decide_eq_true hlt) (c2 _ _ _ hn ho hu)))) (by simp) hgr (by rw [wX_wordV]) rfl
        · obtain ⟨vW, vF⟩ := vO (by rw [hsz]; exact hlt)
          rw [vW, vF, hn]
          have hrun := round_ttf_o E P m K k
          rw [eS] at hrun
          exact con_plain roundC_ok hrun (c5 _ (c4 _ _ _ (by omega) (by omega) (decide_eq_false hlt) (c2 _ _ _ hn ho hu))) (by simp) hgr rfl rfl
      · have hsz : sizeU E P m K k = (sizeR E P K k + 1) := by unfold sizeU; rw [leaf _ _ _ hn ho hu]; simp
        by_cases hlt : (sizeR E P K k + 1) < infOf E P
        · obtain ⟨vW, vF⟩ := vI (by rw [hsz]; exact hlt)
          rw [vW, vF, hsz, if_pos hK]
          by_cases hr : rR E P K k = 0
          · rw [if_pos hr]
            have hrun := round_ttt_e E P m K k
            rw [eU] at hrun
            refine con_plain roundC_ok hrun (c6 _ _ (by omega) (by omega) ?_) (by simp) hgr (by rw [wX_wordV]) rfl
            simp only [List.forall_mem_cons]
            exact ⟨by simp [hr], c4 _ _ _ (by omega) (by omega) (decide_eq_true hlt) (c3 _ _ hn ho hu)⟩
          · rw [if_neg hr]
            by_cases ht : logI K k < 1 - biasOf E
            · rw [if_pos ht]
              have hrun := round_ttt_t E P m K k
              rw [eU] at hrun
              exact con_plain roundC_ok hrun (c6 _ _ (by omega) (by omega) (c7 _ _ hr (decide_eq_true ht) (c4 _ _ _ (by omega) (by omega) (decide_eq_true hlt) (c3 _ _ hn ho hu)))) (by simp) hgr (by rw [wX_wordV]) rfl
            · rw [if_neg ht]
              have hrun := round_ttt_i E P m K k
              rw [eU] at hrun
              exact con_plain roundC_ok hrun (c6 _ _ (by omega) (by omega) (c7 _ _ hr (decide_eq_false ht) (c4 _ _ _ (by omega) (by omega) (decide_eq_true hlt) (c3 _ _ hn ho hu)))) (by simp) hgr (by rw [wX_wordV]) rfl
        · obtain ⟨vW, vF⟩ := vO (by rw [hsz]; exact hlt)
          rw [vW, vF, hn]
          have hrun := round_ttt_o E P m K k
          rw [eU] at hrun
          exact con_plain roundC_ok hrun (c5 _ (c4 _ _ _ (by omega) (by omega) (decide_eq_false hlt) (c3 _ _ hn ho hu))) (by simp) hgr rfl rfl
def roundS (xs : List Ar) : Option Res := match xs with
  | [.v a, .n K k] => match mach3 a with
    | some (E, P, m) => some (⟨none, .tuple #[wordV (rndW E P m K k), .int .i64 (rndF E P m K k)]⟩ : Res)
    | none => none
  | _ => none
def roundP (xs : List Ar) : Bool := match xs with
  | [.v a, .n K k] => match mach3 a with
    | some (E, P, m) => decide (Fmt E P) && (decide (0 ≤ m ∧ m ≤ 4) && decide (inB K k ∧ -40000 ≤ k))
    | none => false
  | _ => false
def roundO : CF → St → Option (Value × St) := oracle 74 (conSpec TR roundP roundS)
theorem roundO_ok : RunOkE Tryz.prog roundO := con_oracle numG gTR roTR2 fun xs R h hp => by
  unfold roundS at h
  split at h
  · split at h
    · rename_i hm
      injection h with h
      subst h
      unfold roundP at hp
      simp only [hm, Bool.and_eq_true] at hp
      rw [mach3_ok hm]
      have h2 := of_decide_eq_true hp.2.1
      have h3 := of_decide_eq_true hp.2.2
      exact round_con (of_decide_eq_true hp.1) h2.1 h2.2 h3.1 h3.2
    · cases h
  · cases h
end Go.Proofs.YtjomebgpnokboaaGreatDoor
/-
  What a word of a number stands for.
-/
namespace Go.Proofs.YtjomebgpnokboaaGreatDoor
open Go.RowKit Go.Shelf Go.Canon

theorem wB_eq {b : Value} (h : wB b = true) : b = wordV (wX b) := by
  obtain ⟨h1, l1, rfl, w1⟩ := wB_ok h
  exact wordV_of w1
theorem wX_range {b : Value} (h : wB b = true) : 0 ≤ wX b ∧ wX b < two128 := by
  obtain ⟨h1, l1, rfl, w1⟩ := wB_ok h
  exact w1.range
theorem con_imp {P : Program} {T : Tabs} {g : FuncId} {xs : List Ar} {R R' : Res} (h : Con P T g xs R) (hi : ∀ w v, ResIs w R v → ResIs w R' v) : Con P T g xs R' :=
  fun w hw he args' ha => (h w hw he args' ha).mono fun e w1 ⟨v, h1, h2, h3⟩ => ⟨v, h1, hi _ _ h2, h3⟩
theorem numT_lower (K : Int) (j : Nat) : numT (K * 2 ^ j) = numT K := by
  unfold numT
  have : decide (K * 2 ^ j < 0) = decide (K < 0) := by
    have hp := p2pos j
    by_cases h : K < 0
    · have := Int.mul_neg_of_neg_of_pos h hp
      simp [h, this]
    · have := Int.mul_nonneg (show 0 ≤ K by omega) (Int.le_of_lt hp)
      rw [decide_eq_false h, decide_eq_false (by omega)]
  rw [this]
theorem is_lower {w : World} {K k : Int} {x : Array Value} (h : Ghosts.is w 0 [K, k] x) (m : Int) (hm : m ≤ k) : Ghosts.is w 0 [K * 2 ^ (k - m).toNat, m] x := is_dn.2 ((is_dn.1 h).lower m hm)
theorem resN_lower {w : World} {K k m : Int} {v : Value} (hm : m ≤ k) (h : ResIs w (resN K k) v) : ResIs w (resN (K * 2 ^ (k - m).toNat) m) v := by
  obtain ⟨x, h1, h2⟩ := h
  refine ⟨x, is_lower h1 m hm, fun ρ n hn => ?_⟩
  show VRel ρ (subst n 4 (numT (K * 2 ^ (k - m).toNat))) v
  rw [numT_lower]
  exact h2 ρ n hn
/-- a run that ends with a number alone -/
theorem con_num {call : CF → St → Option (Value × St)} (hcall : RunOkE Tryz.prog call) {g : Nat} {xs : List Ar} {an : List Bool} {n : Nat} {K k : Int} {cs : List (Bool × Bool)}
    (h : conRun Tryz.prog TR call 1000 g xs an n = some (subst n 4 (numT K), some (.ghost 0 [K, k]), cs)) (hcs : ∀ c ∈ cs, c.1 = c.2) (hlen : xs.length < 2 ^ 38) (hgr : ∀ x, Ar.v x ∈ xs → ground 9 x = true) : Con Tryz.prog TR g xs (resN K k) :=
  con_sym hcall h hcs hlen hgr ⟨rfl, rfl, rfl⟩

def finiteC : CF → St → Option (Value × St) := orElse rightO (orElse leftO (orElse minusO (orElse toNumO (orElse finestO (orElse shiftedO negO)))))
theorem finiteC_ok : RunOkE Tryz.prog finiteC := orElse_ok rightO_ok (orElse_ok leftO_ok (orElse_ok minusO_ok (orElse_ok toNumO_ok (orElse_ok finestO_ok (orElse_ok shiftedO_ok negO_ok)))))
def fP (P : Int) : Int := IntKind.i64.wrap (P - 1)
def fF (P X : Int) : Int := IntKind.i64.wrap (wX (wordV X) / 2 ^ (fP P).toNat % 18446744073709551616)
def fG (P X : Int) : Value := .agg #[.int .u64 0, .int .u64 (IntKind.u64.wrap (IntKind.i64.wrap (fF P X - 1)))]
def fL (P X : Int) : Value := wordV (wX (fG P X) * 2 ^ (fP P).toNat % two128)
def fW (P X : Int) (pos : Bool) : Value := match pos with
  | true => wordV ((wX (wordV X) - wX (fL P X)) % two128)
  | false => wordV X
def fE (E P X : Int) : Int := IntKind.i64.wrap (fineOf E P + (if 0 > IntKind.i64.wrap (fF P X - 1) then 0 else IntKind.i64.wrap (fF P X - 1)))
def fcs0 (P X : Int) (pos : Bool) : List (Bool × Bool) := [(decide (fF P X > 0), pos), (wB (wordV X) && decide (0 ≤ fP P ∧ fP P ≤ 127), true), (true, true), (true, true)]
def fcs1 (P X : Int) : List (Bool × Bool) := (true, true) :: (wB (wordV X) && wB (fL P X), true) :: (wB (fG P X) && decide (0 ≤ fP P ∧ fP P ≤ 127), true) :: (true, true) :: fcs0 P X true
def fcs2 (E P X : Int) (pos : Bool) (l : List (Bool × Bool)) : List (Bool × Bool) :=
  (true, true) :: (decide (inB (wX (fW P X pos)) 0 ∧ -20000 ≤ fE E P X ∧ fE E P X ≤ 20000), true) :: (decide (wX (fW P X pos) < 0) == decide (wX (fW P X pos) < 0), true) :: (decide (Fmt E P), true) ::
    (wB (fW P X pos) && decide (wX (fW P X pos) < 2 ^ 124), true) :: l
def fcsN (P X : Int) (pos : Bool) (l : List (Bool × Bool)) : List (Bool × Bool) := (true, true) :: (true, true) :: (decide (wX (fW P X pos) < 0) == decide (wX (fW P X pos) < 0), true) :: l
noncomputable def finRun (E P m X : Int) (neg : Bool) (an : List Bool) (n : Nat) : Option (Value × Option CObj × List (Bool × Bool)) := conRun Tryz.prog TR finiteC 1000 124 [.v (machV E P m), .v (.bool neg), .v (wordV X)] an n
set_option maxRecDepth 1000000 in
theorem fin_ft (E P m X : Int) : finRun E P m X false [true, true] 19 = some (subst 19 4 (numT (wX (fW P X true))), some (.ghost 0 [wX (fW P X true), 0 + fE E P X]), (true, true) :: fcs2 E P X true (fcs1 P X)) := by kernel_rfl
set_option maxRecDepth 1000000 in
theorem fin_tt (E P m X : Int) : finRun E P m X true [true, true] 21 = some (subst 21 4 (numT (-wX (fW P X true))), some (.ghost 0 [-wX (fW P X true), 0 + fE E P X]), fcsN P X true (fcs2 E P X true (fcs1 P X))) := by kernel_rfl
set_option maxRecDepth 1000000 in
theorem fin_ff (E P m X : Int) : finRun E P m X false [false, true] 19 = some (subst 19 4 (numT (wX (fW P X false))), some (.ghost 0 [wX (fW P X false), 0 + fE E P X]), (true, true) :: fcs2 E P X false (fcs0 P X false)) := by kernel_rfl
set_option maxRecDepth 1000000 in
theorem fin_tf (E P m X : Int) : finRun E P m X true [false, true] 21 = some (subst 21 4 (numT (-wX (fW P X false))), some (.ghost 0 [-wX (fW P X false), 0 + fE E P X]), fcsN P X false (fcs2 E P X false (fcs0 P X false))) := by kernel_rfl

def fieldOf (P X : Int) : Int := X / 2 ^ (P - 1).toNat
def digOf (P X : Int) : Int := if fieldOf P X > 0 then X - (fieldOf P X - 1) * 2 ^ (P - 1).toNat else X
def liftOf (P X : Int) : Int := if fieldOf P X > 0 then fieldOf P X - 1 else 0
/-- the size of a word of a number, in units of the least value -/
def magOf (P X : Int) : Int := digOf P X * 2 ^ (liftOf P X).toNat
def sgM (neg : Bool) (x : Int) : Int := if neg = true then -x else x

theorem field_facts {E P X : Int} (h : Fmt E P) (h0 : 0 ≤ X) (h1 : X < infOf E P) : 0 ≤ fieldOf P X ∧ fieldOf P X ≤ 2 ^ E.toNat - 2 ∧ (2 : Int) ^ E.toNat ≤ 2048 ∧ 0 ≤ digOf P X ∧ digOf P X < 2 * 2 ^ (P - 1).toNat ∧ fieldOf P X * 2 ^ (P - 1).toNat ≤ X := by
  have hp := p2pos (P - 1).toNat
  have hi := inf_eq h
  have he : (2 : Int) ^ E.toNat ≤ 2048 := by
    obtain ⟨f1, f2, _⟩ := h
    rcases (show E = 2 ∨ E = 3 ∨ E = 4 ∨ E = 5 ∨ E = 6 ∨ E = 7 ∨ E = 8 ∨ E = 9 ∨ E = 10 ∨ E = 11 by omega) with rfl | rfl | rfl | rfl | rfl | rfl | rfl | rfl | rfl | rfl <;> decide
  have hf0 : 0 ≤ fieldOf P X := Int.ediv_nonneg h0 (Int.le_of_lt hp)
  have hdm := Int.mul_ediv_add_emod X (2 ^ (P - 1).toNat)
  have hm0 := Int.emod_nonneg X (Int.ne_of_gt hp)
  have hm1 := Int.emod_lt_of_pos X hp
  have hf1 : fieldOf P X < 2 ^ E.toNat - 1 := Int.ediv_lt_of_lt_mul hp (by rw [← hi]; exact h1)
  have hmul : 2 ^ (P - 1).toNat * (X / 2 ^ (P - 1).toNat) = fieldOf P X * 2 ^ (P - 1).toNat := Int.mul_comm _ _
  rw [hmul] at hdm
  refine ⟨hf0, by omega, he, ?_, ?_, by omega⟩
  · unfold digOf
    split
    · rw [Int.sub_mul]; omega
    · exact h0
  · unfold digOf
    split
    · rw [Int.sub_mul]; omega
    · rename_i hz
      have : fieldOf P X = 0 := by omega
      rw [this, Int.zero_mul] at hdm
      omega
theorem p_le {P : Int} (h : P ≤ 113) : 2 * (2 : Int) ^ (P - 1).toNat ≤ 2 ^ 124 := by
  obtain ⟨d, hd⟩ : ∃ d : Nat, 123 = (P - 1).toNat + d := ⟨123 - (P - 1).toNat, by omega⟩
  rw [show (124 : Nat) = 123 + 1 from rfl, Int.pow_succ, hd, Int.pow_add]
  have := Int.mul_le_mul_of_nonneg_left (show (1 : Int) ≤ 2 ^ d from p2pos d) (Int.le_of_lt (p2pos (P - 1).toNat))
  omega
theorem finite_con {E P m X : Int} (neg : Bool) (h : Fmt E P) (h0 : 0 ≤ X) (h1 : X < infOf E P) : Con Tryz.prog TR 124 [.v (machV E P m), .v (.bool neg), .v (wordV X)] (resN (sgM neg (magOf P X)) (fineOf E P)) := by
  obtain ⟨f0, f1, f2, d0, d1, fm⟩ := field_facts h h0 h1
  have hinf := inf_range h
  have hbr := bias_range h.1 h.2.1
  have hp := p2pos (P - 1).toNat
  have hp2 := p_le h.2.2.2.1
  have hs := p124_sml
  have p124 : (2 : Int) ^ 124 = 21267647932558653966460912964485513216 := by decide
  obtain ⟨e1, e2, e3, e4, e5⟩ := h
  have h : Fmt E P := ⟨e1, e2, e3, e4, e5⟩
  have wP : fP P = P - 1 := wrapI (by omega)
  have wF : fF P X = fieldOf P X := by
    unfold fF
    rw [wP, wX_wordV]
    show IntKind.i64.wrap (fieldOf P X % 18446744073709551616) = fieldOf P X
    rw [Int.emod_eq_of_lt f0 (by omega), wrapI (by omega)]
  have bX : wB (wordV X) = true := wB_wordV h0 (by omega)
  have hE : fE E P X = fineOf E P + liftOf P X := by
    unfold fE
    rw [wF, wrapI (x := fieldOf P X - 1) (by omega)]
    have : (if 0 > fieldOf P X - 1 then 0 else fieldOf P X - 1) = liftOf P X := by unfold liftOf; split <;> split <;> omega
    rw [this]
    have hl : 0 ≤ liftOf P X ∧ liftOf P X ≤ 2047 := by unfold liftOf; split <;> omega
    exact wrapI (by unfold fineOf; omega)
  have hl : 0 ≤ liftOf P X ∧ liftOf P X ≤ 2047 := by unfold liftOf; split <;> omega
  have hfr : -20000 ≤ fE E P X ∧ fE E P X ≤ 20000 := by rw [hE]; unfold fineOf; omega
  have g : ∀ x, Ar.v x ∈ [Ar.v (machV E P m), .v (.bool neg), .v (wordV X)] → ground 9 x = true := fun x hx => by
    simp at hx; rcases hx with rfl | rfl | rfl <;> rfl
  have low : ∀ K v w, ResIs w (resN K (0 + fE E P X)) v → ResIs w (resN (K * 2 ^ (liftOf P X).toNat) (fineOf E P)) v := fun K v w hr => by
    have := resN_lower (m := fineOf E P) (by omega) hr
    rwa [show 0 + fE E P X - fineOf E P = liftOf P X by omega] at this
  have fin : ∀ (pos : Bool) (l : List (Bool × Bool)), fW P X pos = wordV (digOf P X) → (∀ c ∈ l, c.1 = c.2) → ∀ c ∈ fcs2 E P X pos l, c.1 = c.2 := by
    intro pos l hw hl
    unfold fcs2
    simp only [List.forall_mem_cons, hw, wX_wordV]
    refine ⟨trivial, decide_eq_true ⟨⟨by omega, by omega, by omega, by omega⟩, hfr⟩, by simp, decide_eq_true h, ?_, hl⟩
    rw [wB_wordV d0 (by rw [two128_eq]; omega), decide_eq_true (show digOf P X < 2 ^ 124 by omega)]; rfl
  have fN : ∀ (pos : Bool) (l : List (Bool × Bool)), (∀ c ∈ l, c.1 = c.2) → ∀ c ∈ fcsN P X pos l, c.1 = c.2 := by
    intro pos l hl
    unfold fcsN
    simp only [List.forall_mem_cons]
    exact ⟨trivial, trivial, by simp, hl⟩
  have f0s : ∀ pos, decide (fieldOf P X > 0) = pos → ∀ c ∈ fcs0 P X pos, c.1 = c.2 := by
    intro pos hpos
    unfold fcs0
    simp only [List.forall_mem_cons, wF, wP, bX]
    exact ⟨hpos, by rw [decide_eq_true (show 0 ≤ P - 1 ∧ P - 1 ≤ 127 by omega)]; rfl, trivial, trivial, fun c hc => by cases hc⟩
  by_cases hpos : fieldOf P X > 0
  · have wG : fG P X = .agg #[.int .u64 0, .int .u64 (fieldOf P X - 1)] := by
      unfold fG
      rw [wF, wrapI (x := fieldOf P X - 1) (by omega), IntKind.wrap_u64, Int.emod_eq_of_lt (by omega) (by omega)]
    have xG : wX (fG P X) = fieldOf P X - 1 := by
      rw [wG]
      show 0 * 18446744073709551616 + (fieldOf P X - 1) = fieldOf P X - 1
      omega
    have bG : wB (fG P X) = true := by rw [wG]; exact decide_eq_true ⟨by omega, by omega, by omega, by omega⟩
    have hmul : (fieldOf P X - 1) * 2 ^ (P - 1).toNat = fieldOf P X * 2 ^ (P - 1).toNat - 2 ^ (P - 1).toNat := by rw [Int.sub_mul]; omega
    have hmul0 : 0 ≤ (fieldOf P X - 1) * 2 ^ (P - 1).toNat := Int.mul_nonneg (by omega) (Int.le_of_lt hp)
    have eL : fL P X = wordV ((fieldOf P X - 1) * 2 ^ (P - 1).toNat) := by
      unfold fL
      rw [xG, wP, Int.emod_eq_of_lt hmul0 (by omega)]
    have eW : fW P X true = wordV (digOf P X) := by
      show wordV ((wX (wordV X) - wX (fL P X)) % two128) = _
      rw [eL, wX_wordV, wX_wordV, Int.emod_eq_of_lt (by omega) (by omega)]
      unfold digOf; rw [if_pos hpos]
    have c1 : ∀ c ∈ fcs1 P X, c.1 = c.2 := by
      unfold fcs1
      simp only [List.forall_mem_cons, wP]
      refine ⟨trivial, ?_, ?_, trivial, f0s _ (decide_eq_true hpos)⟩
      · rw [bX, eL, wB_wordV hmul0 (by omega)]; rfl
      · rw [bG, decide_eq_true (show 0 ≤ P - 1 ∧ P - 1 ≤ 127 by omega)]; rfl
    cases neg
    · have hrun := fin_ft E P m X
      have := con_num finiteC_ok hrun (by simp only [List.forall_mem_cons]; exact ⟨trivial, fin _ _ eW c1⟩) (by simp) g
      rw [eW, wX_wordV] at this
      exact con_imp this fun w v hr => low _ _ _ hr
    · have hrun := fin_tt E P m X
      have := con_num finiteC_ok hrun (fN _ _ (fin _ _ eW c1)) (by simp) g
      rw [eW, wX_wordV] at this
      refine con_imp this fun w v hr => ?_
      have := low _ _ _ hr
      rw [Int.neg_mul] at this
      exact this
  · have eW : fW P X false = wordV (digOf P X) := by
      show wordV X = _
      unfold digOf; rw [if_neg hpos]
    have c0 := f0s false (decide_eq_false hpos)
    cases neg
    · have hrun := fin_ff E P m X
      have := con_num finiteC_ok hrun (by simp only [List.forall_mem_cons]; exact ⟨trivial, fin _ _ eW c0⟩) (by simp) g
      rw [eW, wX_wordV] at this
      exact con_imp this fun w v hr => low _ _ _ hr
    · have hrun := fin_tf E P m X
      have := con_num finiteC_ok hrun (fN _ _ (fin _ _ eW c0)) (by simp) g
      rw [eW, wX_wordV] at this
      refine con_imp this fun w v hr => ?_
      have := low _ _ _ hr
      rw [Int.neg_mul] at this
      exact this
def finiteS (xs : List Ar) : Option Res := match xs with
  | [.v a, .v (.bool s), .v b] => match mach3 a with
    | some (E, P, _) => some (resN (sgM s (magOf P (wX b))) (fineOf E P))
    | none => none
  | _ => none
def finiteP (xs : List Ar) : Bool := match xs with
  | [.v a, .v (.bool _), .v b] => match mach3 a with
    | some (E, P, _) => decide (Fmt E P) && (wB b && decide (wX b < infOf E P))
    | none => false
  | _ => false
def finiteO : CF → St → Option (Value × St) := oracle 124 (conSpec TR finiteP finiteS)
theorem finiteO_ok : RunOkE Tryz.prog finiteO := con_oracle numG gTR roTR2 fun xs R h hp => by
  unfold finiteS at h
  split at h
  · split at h
    · rename_i hm
      injection h with h
      subst h
      unfold finiteP at hp
      simp only [hm, Bool.and_eq_true] at hp
      rw [mach3_ok hm, wB_eq hp.2.1, wX_wordV]
      exact finite_con _ (of_decide_eq_true hp.1) (wX_range hp.2.1).1 (of_decide_eq_true hp.2.2)
    · cases h
  · cases h
end Go.Proofs.YtjomebgpnokboaaGreatDoor
/-
  What a word stands for.
-/
namespace Go.Proofs.YtjomebgpnokboaaGreatDoor
open Go.RowKit Go.Shelf Go.Canon

def decodeC : CF → St → Option (Value × St) := orElse unsignedO (orElse infinityO (orElse quietO (orElse lessO (orElse finiteO (orElse minusO toNumO)))))
theorem decodeC_ok : RunOkE Tryz.prog decodeC := orElse_ok unsignedO_ok (orElse_ok infinityO_ok (orElse_ok quietO_ok (orElse_ok lessO_ok (orElse_ok finiteO_ok (orElse_ok minusO_ok toNumO_ok)))))
/-- an operand as a result -/
def opT (kind : Int) (neg : Bool) (K : Int) : Value := .agg #[.int .i64 kind, .bool neg, .bool (decide (K < 0)), .complex .f64 0 1, .complex .f64 0 2, .complex .f64 0 3]
def opZ (kind : Int) (neg : Bool) : Value := .agg #[.int .i64 kind, .bool neg, .bool false, .slice none 0 0, .slice none 0 0, .int .i64 0]
def dS (E P X : Int) : Int := sizeOf' E P (wX (wordV X))
def eqW (X Y : Int) : Bool := decide (X / 18446744073709551616 = Y / 18446744073709551616 ∧ X % 18446744073709551616 = Y % 18446744073709551616)
def dcs0 (E P X : Int) (neg z : Bool) : List (Bool × Bool) := [(decide (dS E P X / 18446744073709551616 = 0 ∧ dS E P X % 18446744073709551616 = 0), z), (true, true), (true, true), (decide (Fmt E P), true), (decide (Fmt E P), true), (true, true), (decide (signOf E P ≤ wX (wordV X)), neg), (decide (Fmt E P) && wB (wordV X), true)]
def dcs1 (E P X : Int) (neg i : Bool) : List (Bool × Bool) := (eqW (dS E P X) (infOf E P), i) :: dcs0 E P X neg false
def dcs2 (E P X : Int) (neg f : Bool) : List (Bool × Bool) := (decide (wX (wordV (dS E P X)) < wX (wordV (infOf E P))), f) :: (wB (wordV (dS E P X)) && wB (wordV (infOf E P)), true) :: dcs1 E P X neg false
def dcs3 (E P X : Int) (neg q : Bool) : List (Bool × Bool) := (decide (wX (wordV (dS E P X)) < wX (wordV (quietOf E P))), q) :: (wB (wordV (dS E P X)) && wB (wordV (quietOf E P)), true) :: dcs2 E P X neg false
def payW (E P X B : Int) : Value := wordV ((wX (wordV (dS E P X)) - wX (wordV B)) % two128)
def dcs4 (E P X B : Int) (l : List (Bool × Bool)) : List (Bool × Bool) := (true, true) :: (wB (payW E P X B) && decide (wX (payW E P X B) < 2 ^ 124), true) :: (wB (wordV (dS E P X)) && wB (wordV B), true) :: l
def dcs5 (E P X : Int) (neg : Bool) : List (Bool × Bool) := (true, true) :: (decide (Fmt E P) && (wB (wordV (dS E P X)) && decide (wX (wordV (dS E P X)) < infOf E P)), true) :: dcs2 E P X neg true
noncomputable def decRun (E P m X : Int) (an : List Bool) (n : Nat) : Option (Value × Option CObj × List (Bool × Bool)) := conRun Tryz.prog TR decodeC 1000 79 [.v (machV E P m), .v (wordV X)] an n
set_option maxRecDepth 1000000 in
theorem dec_t_z (E P m X : Int) : decRun E P m X [true, true, true] 0 = some (opZ 1 true, some (.fact 0), (true, true) :: dcs0 E P X true true) := by kernel_rfl
set_option maxRecDepth 1000000 in
theorem dec_t_i (E P m X : Int) : decRun E P m X [true, false, true, true] 0 = some (opZ 3 true, some (.fact 0), (true, true) :: dcs1 E P X true true) := by kernel_rfl
set_option maxRecDepth 1000000 in
theorem dec_t_f (E P m X : Int) : decRun E P m X [true, false, false, true, true] 19 = some (subst 19 4 (opT 2 true (sgM true (magOf P (wX (wordV (dS E P X)))))), some (.ghost 0 [sgM true (magOf P (wX (wordV (dS E P X)))), fineOf E P]), dcs5 E P X true) := by kernel_rfl
set_option maxRecDepth 1000000 in
theorem dec_t_s (E P m X : Int) : decRun E P m X [true, false, false, false, true, true] 19 = some (subst 19 4 (opT 5 true (wX (payW E P X (infOf E P)))), some (.ghost 0 [wX (payW E P X (infOf E P)), 0]), dcs4 E P X (infOf E P) (dcs3 E P X true true)) := by kernel_rfl
set_option maxRecDepth 1000000 in
theorem dec_t_q (E P m X : Int) : decRun E P m X [true, false, false, false, false, true] 19 = some (subst 19 4 (opT 4 true (wX (payW E P X (quietOf E P)))), some (.ghost 0 [wX (payW E P X (quietOf E P)), 0]), dcs4 E P X (quietOf E P) (dcs3 E P X true false)) := by kernel_rfl
set_option maxRecDepth 1000000 in
theorem dec_f_z (E P m X : Int) : decRun E P m X [false, true, true] 0 = some (opZ 1 false, some (.fact 0), (true, true) :: dcs0 E P X false true) := by kernel_rfl
set_option maxRecDepth 1000000 in
theorem dec_f_i (E P m X : Int) : decRun E P m X [false, false, true, true] 0 = some (opZ 3 false, some (.fact 0), (true, true) :: dcs1 E P X false true) := by kernel_rfl
set_option maxRecDepth 1000000 in
theorem dec_f_f (E P m X : Int) : decRun E P m X [false, false, false, true, true] 19 = some (subst 19 4 (opT 2 false (sgM false (magOf P (wX (wordV (dS E P X)))))), some (.ghost 0 [sgM false (magOf P (wX (wordV (dS E P X)))), fineOf E P]), dcs5 E P X false) := by kernel_rfl
set_option maxRecDepth 1000000 in
theorem dec_f_s (E P m X : Int) : decRun E P m X [false, false, false, false, true, true] 19 = some (subst 19 4 (opT 5 false (wX (payW E P X (infOf E P)))), some (.ghost 0 [wX (payW E P X (infOf E P)), 0]), dcs4 E P X (infOf E P) (dcs3 E P X false true)) := by kernel_rfl
set_option maxRecDepth 1000000 in
theorem dec_f_q (E P m X : Int) : decRun E P m X [false, false, false, false, false, true] 19 = some (subst 19 4 (opT 4 false (wX (payW E P X (quietOf E P)))), some (.ghost 0 [wX (payW E P X (quietOf E P)), 0]), dcs4 E P X (quietOf E P) (dcs3 E P X false false)) := by kernel_rfl

/-! the contract -/
def sizW (E P X : Int) : Int := sizeOf' E P X
def kindOf (E P X : Int) : Int := if sizW E P X = 0 then 1 else if sizW E P X = infOf E P then 3 else if sizW E P X < infOf E P then 2 else if sizW E P X < quietOf E P then 5 else 4
def negOf (E P X : Int) : Bool := decide (signOf E P ≤ X)
/-- the number of an operand, in units of the least value -/
def opK (E P X : Int) : Int :=
  if kindOf E P X = 2 then sgM (negOf E P X) (magOf P (sizW E P X)) else if kindOf E P X = 5 then (sizW E P X - infOf E P) * 2 ^ (0 - fineOf E P).toNat else if kindOf E P X = 4 then (sizW E P X - quietOf E P) * 2 ^ (0 - fineOf E P).toNat else 0
def opR (kind : Int) (neg : Bool) (K k : Int) : Res := ⟨some (K, k), opT kind neg K⟩
theorem is_zero (w : World) (k : Int) : Ghosts.is w 0 [0, k] zeroA := is_dn.2 ⟨false, 0, 0, ⟨none, 0, 0, none, 0, 0, rfl, .zero w, .inl ⟨rfl, rfl⟩⟩, .inl ⟨rfl, rfl, rfl, rfl⟩⟩
theorem opZ_is {w : World} {v : Value} {kind k : Int} {neg : Bool} (h : ResIs w ⟨none, opZ kind neg⟩ v) : ResIs w (opR kind neg 0 k) v := by
  have e : v = opZ kind neg := h
  subst e
  refine ⟨zeroA, is_zero w k, fun ρ n hn => ?_⟩
  exact VRel.agg_of (LRel.arel (l := [_, _, _, _, _, _]) (l' := [_, _, _, _, _, _]) ⟨.int _ _, .bool _, .bool _, .tok _ 1 _ _ hn rfl rfl, .tok _ 2 _ _ hn rfl rfl, .tok _ 3 _ _ hn rfl rfl, trivial⟩)
theorem opT_lower (kind : Int) (neg : Bool) (K : Int) (j : Nat) : opT kind neg (K * 2 ^ j) = opT kind neg K := by
  have := numT_lower K j
  unfold numT at this
  injection this with this
  have e : decide (K * 2 ^ j < 0) = decide (K < 0) := by
    have := congrArg (fun x : Array Value => x[0]?) this
    simpa using this
  unfold opT; rw [e]
theorem opR_lower {w : World} {kind K k m : Int} {neg : Bool} {v : Value} (hm : m ≤ k) (h : ResIs w (opR kind neg K k) v) : ResIs w (opR kind neg (K * 2 ^ (k - m).toNat) m) v := by
  obtain ⟨x, h1, h2⟩ := h
  refine ⟨x, is_lower h1 m hm, fun ρ n hn => ?_⟩
  show VRel ρ (subst n 4 (opT kind neg (K * 2 ^ (k - m).toNat))) v
  rw [opT_lower]
  exact h2 ρ n hn
theorem con_op {call : CF → St → Option (Value × St)} (hcall : RunOkE Tryz.prog call) {g : Nat} {xs : List Ar} {an : List Bool} {n : Nat} {kind K k : Int} {neg : Bool} {cs : List (Bool × Bool)}
    (h : conRun Tryz.prog TR call 1000 g xs an n = some (subst n 4 (opT kind neg K), some (.ghost 0 [K, k]), cs)) (hcs : ∀ c ∈ cs, c.1 = c.2) (hlen : xs.length < 2 ^ 38) (hgr : ∀ x, Ar.v x ∈ xs → ground 9 x = true) : Con Tryz.prog TR g xs (opR kind neg K k) :=
  con_sym hcall h hcs hlen hgr ⟨rfl, rfl, rfl⟩
theorem eqW_iff {X Y : Int} : eqW X Y = decide (X = Y) := by
  unfold eqW
  congr 1
  apply propext
  constructor
  · intro ⟨h1, h2⟩; omega
  · rintro rfl; exact ⟨rfl, rfl⟩
theorem fine_le {E P : Int} (h : Fmt E P) : fineOf E P ≤ 0 := by
  have := bias_range h.1 h.2.1
  have := h.2.2.1
  unfold fineOf; omega
theorem decode_con {E P m X : Int} (h : Fmt E P) (h0 : 0 ≤ X) (h1 : X < 2 * signOf E P) : Con Tryz.prog TR 79 [.v (machV E P m), .v (wordV X)] (opR (kindOf E P X) (negOf E P X) (opK E P X) (fineOf E P)) := by
  have hinf := inf_range h
  have hq := quiet_range h
  have hsg := sign_range h
  have hfl := fine_le h
  have bX : wB (wordV X) = true := wB_wordV h0 (by omega)
  have eS : dS E P X = sizW E P X := by unfold dS; rw [wX_wordV]; rfl
  have s0 : 0 ≤ sizW E P X ∧ sizW E P X < signOf E P := by unfold sizW sizeOf'; split <;> omega
  have hS2 : signOf E P = 2 ^ (E + P - 1).toNat := rfl
  have bS : wB (wordV (sizW E P X)) = true := wB_wordV s0.1 (by omega)
  have bI : wB (wordV (infOf E P)) = true := wB_wordV (by omega) (by omega)
  have bQ : wB (wordV (quietOf E P)) = true := wB_wordV (by omega) (by omega)
  have g : ∀ x, Ar.v x ∈ [Ar.v (machV E P m), .v (wordV X)] → ground 9 x = true := fun x hx => by
    simp at hx; rcases hx with rfl | rfl <;> rfl
  have p124 : (2 : Int) ^ 124 = 21267647932558653966460912964485513216 := by decide
  have hpay : quietOf E P - infOf E P ≤ 2 ^ 124 ∧ signOf E P - quietOf E P ≤ 2 ^ 124 := by
    have hp2 := p_le h.2.2.2.1
    have e1 : signOf E P - infOf E P = 2 ^ (P - 1).toNat := by unfold signOf infOf; omega
    omega
  have z0 : ∀ neg z, decide (signOf E P ≤ X) = neg → decide (sizW E P X = 0) = z → ∀ c ∈ dcs0 E P X neg z, c.1 = c.2 := by
    intro neg z e1 e2
    have e3 : decide (sizW E P X / 18446744073709551616 = 0 ∧ sizW E P X % 18446744073709551616 = 0) = decide (sizW E P X = 0) := by
      congr 1; apply propext; omega
    unfold dcs0
    simp only [List.forall_mem_cons, eS, wX_wordV]
    exact ⟨e3.trans e2, trivial, trivial, decide_eq_true h, decide_eq_true h, trivial, e1, by simp [h, bX], fun c hc => by cases hc⟩
  have z1 : ∀ neg i, decide (signOf E P ≤ X) = neg → decide (sizW E P X = 0) = false → decide (sizW E P X = infOf E P) = i → ∀ c ∈ dcs1 E P X neg i, c.1 = c.2 := by
    intro neg i e1 e2 e3
    unfold dcs1
    simp only [List.forall_mem_cons, eS, eqW_iff]
    exact ⟨e3, z0 _ _ e1 e2⟩
  have z2 : ∀ neg f, decide (signOf E P ≤ X) = neg → decide (sizW E P X = 0) = false → decide (sizW E P X = infOf E P) = false → decide (sizW E P X < infOf E P) = f → ∀ c ∈ dcs2 E P X neg f, c.1 = c.2 := by
    intro neg f e1 e2 e3 e4
    unfold dcs2
    simp only [List.forall_mem_cons, eS, wX_wordV]
    exact ⟨e4, by rw [bS, bI]; rfl, z1 _ _ e1 e2 e3⟩
  have z3 : ∀ neg q, decide (signOf E P ≤ X) = neg → decide (sizW E P X = 0) = false → decide (sizW E P X = infOf E P) = false → decide (sizW E P X < infOf E P) = false → decide (sizW E P X < quietOf E P) = q → ∀ c ∈ dcs3 E P X neg q, c.1 = c.2 := by
    intro neg q e1 e2 e3 e4 e5
    unfold dcs3
    simp only [List.forall_mem_cons, eS, wX_wordV]
    exact ⟨e5, by rw [bS, bQ]; rfl, z2 _ _ e1 e2 e3 e4⟩
  have pay : ∀ B, 0 ≤ B → B ≤ sizW E P X → payW E P X B = wordV (sizW E P X - B) := by
    intro B hB hB2
    unfold payW
    rw [eS, wX_wordV, wX_wordV, Int.emod_eq_of_lt (by omega) (by omega)]
  have z4 : ∀ B l, 0 ≤ B → B ≤ sizW E P X → wB (wordV B) = true → sizW E P X - B < 2 ^ 124 → (∀ c ∈ l, c.1 = c.2) → ∀ c ∈ dcs4 E P X B l, c.1 = c.2 := by
    intro B l hB hB2 hB3 hB4 hl
    unfold dcs4
    rw [pay B hB hB2]
    simp only [List.forall_mem_cons, eS, wX_wordV]
    refine ⟨trivial, ?_, by rw [bS, hB3]; rfl, hl⟩
    rw [wB_wordV (by omega) (by omega), decide_eq_true hB4]; rfl
  have lowK : ∀ K kind neg v w, ResIs w (opR kind neg K 0) v → ResIs w (opR kind neg (K * 2 ^ (0 - fineOf E P).toNat) (fineOf E P)) v := fun K kind neg v w hr => opR_lower hfl hr
  cases hn : decide (signOf E P ≤ X)
  · have hneg : negOf E P X = false := hn
    rw [hneg]
    by_cases c1 : sizW E P X = 0
    · have hk : kindOf E P X = 1 := by unfold kindOf; rw [if_pos c1]
      have hK : opK E P X = 0 := by unfold opK; rw [hk]; rfl
      rw [hk, hK]
      refine con_imp (con_plain decodeC_ok (dec_f_z E P m X) (by simp only [List.forall_mem_cons]; exact ⟨trivial, z0 _ _ hn (decide_eq_true c1)⟩) (by simp) g rfl rfl) fun w v hr => opZ_is hr
    by_cases c2 : sizW E P X = infOf E P
    · have hk : kindOf E P X = 3 := by unfold kindOf; rw [if_neg c1, if_pos c2]
      have hK : opK E P X = 0 := by unfold opK; rw [hk]; rfl
      rw [hk, hK]
      refine con_imp (con_plain decodeC_ok (dec_f_i E P m X) (by simp only [List.forall_mem_cons]; exact ⟨trivial, z1 _ _ hn (decide_eq_false c1) (decide_eq_true c2)⟩) (by simp) g rfl rfl) fun w v hr => opZ_is hr
    by_cases c3 : sizW E P X < infOf E P
    · have hk : kindOf E P X = 2 := by unfold kindOf; rw [if_neg c1, if_neg c2, if_pos c3]
      have hK : opK E P X = sgM false (magOf P (sizW E P X)) := by unfold opK; rw [hk, hneg]; rfl
      rw [hk, hK]
      have hrun := dec_f_f E P m X
      rw [eS, wX_wordV] at hrun
      refine con_op decodeC_ok hrun ?_ (by simp) g
      unfold dcs5
      simp only [List.forall_mem_cons, eS, wX_wordV]
      exact ⟨trivial, by simp [h, bS, c3], z2 _ _ hn (decide_eq_false c1) (decide_eq_false c2) (decide_eq_true c3)⟩
    by_cases c4 : sizW E P X < quietOf E P
    · have hk : kindOf E P X = 5 := by unfold kindOf; rw [if_neg c1, if_neg c2, if_neg c3, if_pos c4]
      have hK : opK E P X = (sizW E P X - infOf E P) * 2 ^ (0 - fineOf E P).toNat := by unfold opK; rw [hk]; rfl
      rw [hk, hK]
      have hrun := dec_f_s E P m X
      rw [pay _ (by omega) (by omega), wX_wordV] at hrun
      exact con_imp (con_op decodeC_ok hrun (z4 _ _ (by omega) (by omega) bI (by omega) (z3 _ _ hn (decide_eq_false c1) (decide_eq_false c2) (decide_eq_false c3) (decide_eq_true c4))) (by simp) g) fun w v hr => lowK _ _ _ _ _ hr
    · have hk : kindOf E P X = 4 := by unfold kindOf; rw [if_neg c1, if_neg c2, if_neg c3, if_neg c4]
      have hK : opK E P X = (sizW E P X - quietOf E P) * 2 ^ (0 - fineOf E P).toNat := by unfold opK; rw [hk]; rfl
      rw [hk, hK]
      have hrun := dec_f_q E P m X
      rw [pay _ (by omega) (by omega), wX_wordV] at hrun
      exact con_imp (con_op decodeC_ok hrun (z4 _ _ (by omega) (by omega) bQ (by omega) (z3 _ _ hn (decide_eq_false c1) (decide_eq_false c2) (decide_eq_false c3) (decide_eq_false c4))) (by simp) g) fun w v hr => lowK _ _ _ _ _ hr
  · have hneg : negOf E P X = true := hn
    rw [hneg]
    by_cases c1 : sizW E P X = 0
    · have hk : kindOf E P X = 1 := by unfold kindOf; rw [if_pos c1]
      have hK : opK E P X = 0 := by unfold opK; rw [hk]; rfl
      rw [hk, hK]
      refine con_imp (con_plain decodeC_ok (dec_t_z E P m X) (by simp only [List.forall_mem_cons]; exact ⟨trivial, z0 _ _ hn (decide_eq_true c1)⟩) (by simp) g rfl rfl) fun w v hr => opZ_is hr
    by_cases c2 : sizW E P X = infOf E P
    · have hk : kindOf E P X = 3 := by unfold kindOf; rw [if_neg c1, if_pos c2]
      have hK : opK E P X = 0 := by unfold opK; rw [hk]; rfl
      rw [hk, hK]
      refine con_imp (con_plain decodeC_ok (dec_t_i E P m X) (by simp only [List.forall_mem_cons]; exact ⟨trivial, z1 _ _ hn (decide_eq_false c1) (decide_eq_true c2)⟩) (by simp) g rfl rfl) fun w v hr => opZ_is hr
    by_cases c3 : sizW E P X < infOf E P
    · have hk : kindOf E P X = 2 := by unfold kindOf; rw [if_neg c1, if_neg c2, if_pos c3]
      have hK : opK E P X = sgM true (magOf P (sizW E P X)) := by unfold opK; rw [hk, hneg]; rfl
      rw [hk, hK]
      have hrun := dec_t_f E P m X
      rw [eS, wX_wordV] at hrun
      refine con_op decodeC_ok hrun ?_ (by simp) g
      unfold dcs5
      simp only [List.forall_mem_cons, eS, wX_wordV]
      exact ⟨trivial, by simp [h, bS, c3], z2 _ _ hn (decide_eq_false c1) (decide_eq_false c2) (decide_eq_true c3)⟩
    by_cases c4 : sizW E P X < quietOf E P
    · have hk : kindOf E P X = 5 := by unfold kindOf; rw [if_neg c1, if_neg c2, if_neg c3, if_pos c4]
      have hK : opK E P X = (sizW E P X - infOf E P) * 2 ^ (0 - fineOf E P).toNat := by unfold opK; rw [hk]; rfl
      rw [hk, hK]
      have hrun := dec_t_s E P m X
      rw [pay _ (by omega) (by omega), wX_wordV] at hrun
      exact con_imp (con_op decodeC_ok hrun (z4 _ _ (by omega) (by omega) bI (by omega) (z3 _ _ hn (decide_eq_false c1) (decide_eq_false c2) (decide_eq_false c3) (decide_eq_true c4))) (by simp) g) fun w v hr => lowK _ _ _ _ _ hr
    · have hk : kindOf E P X = 4 := by unfold kindOf; rw [if_neg c1, if_neg c2, if_neg c3, if_neg c4]
      have hK : opK E P X = (sizW E P X - quietOf E P) * 2 ^ (0 - fineOf E P).toNat := by unfold opK; rw [hk]; rfl
      rw [hk, hK]
      have hrun := dec_t_q E P m X
      rw [pay _ (by omega) (by omega), wX_wordV] at hrun
      exact con_imp (con_op decodeC_ok hrun (z4 _ _ (by omega) (by omega) bQ (by omega) (z3 _ _ hn (decide_eq_false c1) (decide_eq_false c2) (decide_eq_false c3) (decide_eq_false c4))) (by simp) g) fun w v hr => lowK _ _ _ _ _ hr
def decodeS (xs : List Ar) : Option Res := match xs with
  | [.v a, .v b] => match mach3 a with
    | some (E, P, _) => some (opR (kindOf E P (wX b)) (negOf E P (wX b)) (opK E P (wX b)) (fineOf E P))
    | none => none
  | _ => none
def decodeP (xs : List Ar) : Bool := match xs with
  | [.v a, .v b] => match mach3 a with
    | some (E, P, _) => decide (Fmt E P) && (wB b && decide (wX b < 2 * signOf E P))
    | none => false
  | _ => false
def decodeO : CF → St → Option (Value × St) := oracle 79 (conSpec TR decodeP decodeS)
theorem decodeO_ok : RunOkE Tryz.prog decodeO := con_oracle numG gTR roTR2 fun xs R h hp => by
  unfold decodeS at h
  split at h
  · split at h
    · rename_i hm
      injection h with h
      subst h
      unfold decodeP at hp
      simp only [hm, Bool.and_eq_true] at hp
      rw [mach3_ok hm, wB_eq hp.2.1, wX_wordV]
      exact decode_con (of_decide_eq_true hp.1) (wX_range hp.2.1).1 (of_decide_eq_true hp.2.2)
    · cases h
  · cases h
end Go.Proofs.YtjomebgpnokboaaGreatDoor
/-
  What one word of a format stands for, or its error.
-/
namespace Go.Proofs.YtjomebgpnokboaaGreatDoor
open Go.RowKit Go.Shelf Go.Canon

def fmtV (E P : Int) : Value := .agg #[.int .i64 E, .int .i64 P]
def readC : CF → St → Option (Value × St) := orElse checkO (orElse rightO decodeO)
noncomputable def readX : CF → St → Option (Value × St) := orElse readC (runO Tryz.prog (orElse readC (runO Tryz.prog readC 1000)) 1000)
theorem readC_ok : RunOkE Tryz.prog readC := orElse_ok checkO_ok (orElse_ok rightO_ok decodeO_ok)
theorem readX_ok : RunOkE Tryz.prog readX := orElse_ok readC_ok (runO_ok noCountP mixedP (orElse_ok readC_ok (runO_ok noCountP mixedP readC_ok 1000).e) 1000).e
def chkE (E P : Int) : Int := if Fmt E P then 0 else 2
def rY (E P X : Int) : Value := wordV (wX (wordV X) / 2 ^ (IntKind.i64.wrap (E + P)).toNat)
def rcs0 (E P X : Int) (far : Bool) : List (Bool × Bool) :=
  [(!decide (wX (wordV X) / 2 ^ (IntKind.i64.wrap (E + P)).toNat / 18446744073709551616 = 0 ∧ wX (wordV X) / 2 ^ (IntKind.i64.wrap (E + P)).toNat % 18446744073709551616 = 0), far), (wB (wordV X) && decide (0 ≤ IntKind.i64.wrap (E + P) ∧ IntKind.i64.wrap (E + P) ≤ 127), true),
   (true, true), (true, true), (true, true), (true, true), (true, true), (false, false), (true, true), (true, true), (true, true), (false, false), (false, false), (chkE E P != 0, false), (true, true)]
def rcs1 (E P X : Int) (neg : Bool) : List (Bool × Bool) := (true, true) :: (true, true) :: (false, false) :: (false, false) :: (true, true) :: (true, true) :: (negOf E P (wX (wordV X)), neg) :: (decide (Fmt E P) && (wB (wordV X) && decide (wX (wordV X) < 2 * signOf E P)), true) :: rcs0 E P X false
noncomputable def readRun (E P X : Int) (an : List Bool) (n : Nat) : Option (Value × Option CObj × List (Bool × Bool)) := conRun Tryz.prog TR readX 1000 37 [.v (fmtV E P), .v (wordV X)] an n
set_option maxRecDepth 1000000 in
theorem read_bad (E P X : Int) : readRun E P X [true, true, true] 0 = some (.tuple #[opZ 0 false, .int .i64 2], some (.fact 0), [(true, true), (true, true), (true, true), (true, true), (true, true), (chkE E P != 0, true), (true, true)]) := by kernel_rfl
set_option maxRecDepth 1000000 in
theorem read_far (E P X : Int) : readRun E P X [false, false, false, false, true, true, true, true] 0 = some (.tuple #[opZ 0 false, .int .i64 6], some (.fact 0), (true, true) :: (true, true) :: rcs0 E P X true) := by kernel_rfl
set_option maxRecDepth 1000000 in
theorem read_t (E P X : Int) : readRun E P X [false, false, false, false, true, false, true, false, false, true] 25 = some (.tuple #[subst 25 4 (opT (kindOf E P (wX (wordV X))) true (opK E P (wX (wordV X)))), .int .i64 0], some (.ghost 0 [opK E P (wX (wordV X)), fineOf E P]), rcs1 E P X true) := by kernel_rfl
set_option maxRecDepth 1000000 in
theorem read_f (E P X : Int) : readRun E P X [false, false, false, false, true, false, false, false, false, true] 25 = some (.tuple #[subst 25 4 (opT (kindOf E P (wX (wordV X))) false (opK E P (wX (wordV X)))), .int .i64 0], some (.ghost 0 [opK E P (wX (wordV X)), fineOf E P]), rcs1 E P X false) := by kernel_rfl
end Go.Proofs.YtjomebgpnokboaaGreatDoor
