/-
  FloatsDiffers: the law returns true whatever its argument. Condition: E, P, m any numbers, the halves of the words below 2^64.
-/
import Derived.Test.YtjomebgpnokboaaGreatDoorP27A
set_option linter.unusedVariables false
set_option linter.unusedSimpArgs false
set_option linter.unusedSectionVars false
namespace Go.Proofs.YtjomebgpnokboaaGreatDoor
open Go.RowKit Go.Shelf Go.Canon

theorem vErr_of {E P X : Int} (h : Fmt E P) (h1 : X < 2 * signOf E P) (hk : kindOf E P X = 1 ∨ kindOf E P X = 2) : vErr E P X = 0 ∧ vK E P X = opK E P X := by
  have he : rdErr E P X = 0 := by unfold rdErr; rw [if_pos h, if_neg (by omega)]
  have hkd : rdKind E P X = kindOf E P X := by unfold rdKind; rw [if_pos he]
  have hv : vErr E P X = 0 := by unfold vErr; rw [if_pos he, hkd, if_pos (by omega)]
  exact ⟨hv, by unfold vK rdK; rw [if_pos hv, if_pos he]⟩
theorem kind_zero {E P X : Int} (h : X = 0 ∨ X = signOf E P) (hs : 0 < signOf E P) : kindOf E P X = 1 ∧ opK E P X = 0 := by
  have hz : sizW E P X = 0 := by
    unfold sizW sizeOf'
    rcases h with rfl | rfl
    · split <;> omega
    · split <;> omega
  have hk : kindOf E P X = 1 := by unfold kindOf; rw [if_pos hz]
  refine ⟨hk, ?_⟩
  unfold opK
  rw [hk]; simp
/-- the difference of numbers that are near each other is a value -/
theorem dif_ok {E P m X Y : Int} {na nb : Bool} (h : Fmt E P) (x0 : 0 ≤ X) (x1 : X < 2 * signOf E P) (y0 : 0 ≤ Y) (y1 : Y < 2 * signOf E P) (kx : kindOf E P X = 1 ∨ kindOf E P X = 2) (ky : kindOf E P Y = 1 ∨ kindOf E P Y = 2)
    (a0 : 0 ≤ opK E P X) (b0 : 0 ≤ opK E P Y) (ha : opK E P X ≤ 2 * opK E P Y) (hb : opK E P Y ≤ 2 * opK E P X) :
    arF E P m (opK E P X) (-opK E P Y) = 0 ∧ (0 ≤ arW E P m (opK E P X) (-opK E P Y) na nb ∧ arW E P m (opK E P X) (-opK E P Y) na nb < two128) ∧ vErr E P (arW E P m (opK E P X) (-opK E P Y) na nb) = 0 ∧ vK E P (arW E P m (opK E P X) (-opK E P Y) na nb) = opK E P X - opK E P Y := by
  have hsg := sign_range h
  by_cases hz : opK E P X + -opK E P Y = 0
  · have hF : arF E P m (opK E P X) (-opK E P Y) = 0 := by unfold arF; rw [if_pos hz]
    have hW : arW E P m (opK E P X) (-opK E P Y) na nb = 0 ∨ arW E P m (opK E P X) (-opK E P Y) na nb = signOf E P := by
      unfold arW
      rw [if_pos hz]
      generalize (if na = nb then na else decide (m = 4)) = t
      cases t
      · exact .inl rfl
      · exact .inr rfl
    generalize arW E P m (opK E P X) (-opK E P Y) na nb = W at hW
    obtain ⟨k1, k2⟩ := kind_zero hW hsg.1
    have hlt : 0 ≤ W ∧ W < 2 * signOf E P := by rcases hW with rfl | rfl <;> omega
    obtain ⟨v1, v2⟩ := vErr_of h hlt.2 (.inl k1)
    exact ⟨hF, ⟨hlt.1, by omega⟩, v1, by omega⟩
  · obtain ⟨da, ea, fa, _, da1, _⟩ := val_form h x0 x1 kx
    obtain ⟨db, eb, fb, _, db1, _⟩ := val_form h y0 y1 ky
    have hKl := opK_lt h x0 x1 kx
    have hLl := opK_lt h y0 y1 ky
    obtain ⟨d, e, hd, hd2⟩ := near_form h a0 b0 (show opK E P X = da * 2 ^ ea by omega) (show opK E P Y = db * 2 ^ eb by omega) da1 db1 ha hb
    have hF : arF E P m (opK E P X) (-opK E P Y) = rndF E P m (opK E P X - opK E P Y) (fineOf E P) := by unfold arF; rw [if_neg hz]; rfl
    have hW : arW E P m (opK E P X) (-opK E P Y) na nb = rndW E P m (opK E P X - opK E P Y) (fineOf E P) := by unfold arW; rw [if_neg hz]; rfl
    rw [hF, hW]
    obtain ⟨r1, r2, r3, r4, r5⟩ := rnd_exact (m := m) h (show opK E P X - opK E P Y ≠ 0 by omega) hd hd2 (by omega)
    obtain ⟨v1, v2⟩ := vErr_of h r3 (.inr r4)
    exact ⟨r1, ⟨r2, by omega⟩, v1, by omega⟩
theorem nP_ok (K : Int) : (nP K).1 = (nP K).2 := by simp [nP]
theorem sg_lt (K : Int) : decide (sgI K < 0) = decide (K < 0) := by
  unfold sgI
  by_cases h0 : K = 0
  · rw [if_pos h0, h0]
  · rw [if_neg h0]
    by_cases h1 : K < 0
    · rw [if_pos h1, decide_eq_true h1]; rfl
    · rw [if_neg h1, decide_eq_false h1]; rfl
theorem cm_gt (K L : Int) : decide (cmpI K L > 0) = decide (K > L) := by
  unfold cmpI
  by_cases h0 : K < L
  · rw [if_pos h0, decide_eq_false (show ¬K > L by omega)]; rfl
  · rw [if_neg h0]
    by_cases h1 : L < K
    · rw [if_pos h1, decide_eq_true (show K > L from h1)]; rfl
    · rw [if_neg h1, decide_eq_false (show ¬K > L from h1)]; rfl
theorem upK_min (K f : Int) : upK K f (min f f) = K := by rw [show min f f = f by omega, upK_same]
theorem upK_min' (K f : Int) : upK K (min f f) f = K := by rw [show min f f = f by omega, upK_same]
theorem dbl_eq (f L : Int) : dbl f L = L + L := by unfold dbl; rw [upK_same]
theorem dD_eq (f K L : Int) : dD f K L = K - L := by unfold dD; rw [upK_same, upK_same]
theorem pP_ok {K L k : Int} (h1 : -sml < K ∧ K < sml) (h2 : -sml < L ∧ L < sml) (h3 : -50000 ≤ k ∧ k ≤ 50000) : pP K k L k = true := by
  unfold pP
  rw [upK_same, upK_same, show min k k = k by omega, decide_eq_true (show inB K k from ⟨h1.1, h1.2, h3.1, h3.2⟩), decide_eq_true (show inB L k from ⟨h2.1, h2.2, h3.1, h3.2⟩)]; rfl
theorem pP_min {K L k : Int} (h1 : -sml < K ∧ K < sml) (h2 : -sml < L ∧ L < sml) (h3 : -50000 ≤ k ∧ k ≤ 50000) : pP K k L (min k k) = true := by
  rw [show min k k = k by omega]; exact pP_ok h1 h2 h3
theorem lcsC_ok {f K L : Int} {b : Bool} (hf : -50000 ≤ f ∧ f ≤ 50000) (h1 : -sml < 2 * K ∧ 2 * K < sml) (h2 : -sml < 2 * L ∧ 2 * L < sml) (hb : decide (K > 2 * L) = b) {l : List (Bool × Bool)} (hl : ∀ c ∈ l, c.1 = c.2) : ∀ c ∈ lcsC f K L b l, c.1 = c.2 := by
  unfold lcsC
  simp only [List.forall_mem_cons]
  refine ⟨?_, ?_, nP_ok _, nP_ok _, pP_ok ⟨by omega, by omega⟩ ⟨by omega, by omega⟩ hf, nP_ok _, nP_ok _, hl⟩
  · rw [upK_min, upK_min', cm_gt, dbl_eq, ← hb]
    congr 2; omega
  · rw [dbl_eq]; exact pP_min ⟨by omega, by omega⟩ ⟨by omega, by omega⟩ hf
theorem lcsE_ok {l : List (Bool × Bool)} (hl : ∀ c ∈ l, c.1 = c.2) : ∀ c ∈ lcsE l, c.1 = c.2 := by
  unfold lcsE; simp only [List.forall_mem_cons]; exact ⟨trivial, trivial, hl⟩
theorem lcs4_ok {l : List (Bool × Bool)} (hl : ∀ c ∈ l, c.1 = c.2) : ∀ c ∈ lcs4 l, c.1 = c.2 := by
  unfold lcs4; simp only [List.forall_mem_cons]; exact ⟨trivial, trivial, trivial, trivial, hl⟩
theorem lcsS_ok {K : Int} {b : Bool} (hb : decide (K < 0) = b) {l : List (Bool × Bool)} (hl : ∀ c ∈ l, c.1 = c.2) : ∀ c ∈ lcsS K b l, c.1 = c.2 := by
  unfold lcsS; simp only [List.forall_mem_cons]; exact ⟨by rw [sg_lt]; exact hb, trivial, nP_ok _, hl⟩
theorem lcs9_ok {m : Int} {p b : Bool} (hb : decide (m < 0) = b) (hp : p = true) {l : List (Bool × Bool)} (hl : ∀ c ∈ l, c.1 = c.2) : ∀ c ∈ lcs9 m p b l, c.1 = c.2 := by
  unfold lcs9; simp only [List.forall_mem_cons]; exact ⟨hb, trivial, trivial, hp, trivial, hl⟩
theorem lcs10_ok {m : Int} {p b : Bool} (h0 : decide (m < 0) = false) (hb : decide (m > 4) = b) (hp : p = true) {l : List (Bool × Bool)} (hl : ∀ c ∈ l, c.1 = c.2) : ∀ c ∈ lcs10 m p b l, c.1 = c.2 := by
  unfold lcs10; simp only [List.forall_mem_cons]; exact ⟨hb, trivial, lcs9_ok h0 hp hl⟩

theorem diff_con {E P m ah al bh bl ch cl : Int} (hA : wB (wv ah al) = true) (hB : wB (wv bh bl) = true) : Con Tryz.prog TL 3 [.v (opV E P m ah al bh bl ch cl)] ⟨none, .bool true⟩ := by
  have g : ∀ x, Ar.v x ∈ [Ar.v (opV E P m ah al bh bl ch cl)] → ground 9 x = true := fun x hx => by
    simp at hx; subst hx; rfl
  have fin : ∀ {s : CF → St → Option (Value × St)}, RunOkE Tryz.prog s → ∀ {an : List Bool} {o : Option CObj} {cs : List (Bool × Bool)}, diffRun s E P m ah al bh bl ch cl an = some (.bool true, o, lcsE cs) → (∀ c ∈ cs, c.1 = c.2) → Con Tryz.prog TL 3 [.v (opV E P m ah al bh bl ch cl)] ⟨none, .bool true⟩ :=
    fun hs _ _ _ h hcs => con_of_run numG noCountP mixedP gTL roTL sizeP (nest_ok (lawC_ok hs) 1) (by simp) g h (lcsE_ok hcs) ⟨rfl, rfl⟩
  have l0 : ∀ c ∈ lcs0 ah al bh bl, c.1 = c.2 := by
    unfold lcs0; simp only [List.forall_mem_cons]; exact ⟨trivial, hB, trivial, hA, fun c hc => by cases hc⟩
  by_cases eA : dA E P ah al = 0
  · have l1 : ∀ c ∈ lcs1 E P ah al bh bl true, c.1 = c.2 := by
      unfold lcs1; simp only [List.forall_mem_cons]; exact ⟨by rw [eA]; rfl, l0⟩
    by_cases eB : dA E P bh bl = 0
    · have l2 : ∀ c ∈ lcs2 E P ah al bh bl true, c.1 = c.2 := by
        unfold lcs2; simp only [List.forall_mem_cons]; exact ⟨by rw [eB]; rfl, l1⟩
      obtain ⟨hF, a1, kA, vA⟩ := vErr_zero eA
      obtain ⟨_, b1, kB, vB⟩ := vErr_zero eB
      have a0 := (wX_range hA).1
      have b0 := (wX_range hB).1
      have hK := opK_lt hF a0 a1 kA
      have hL := opK_lt hF b0 b1 kB
      have hm := max_sml hF
      have hbr := bias_range hF.1 hF.2.1
      have hf : -50000 ≤ fineOf E P ∧ fineOf E P ≤ 50000 := ⟨by have := hF.2.2.2.1; unfold fineOf; omega, by have := fine_le hF; omega⟩
      have vA' : dV E P ah al = opK E P (wX (wv ah al)) := vA
      have vB' : dV E P bh bl = opK E P (wX (wv bh bl)) := vB
      have hK2 : -sml < 2 * dV E P ah al ∧ 2 * dV E P ah al < sml := by rw [vA']; omega
      have hL2 : -sml < 2 * dV E P bh bl ∧ 2 * dV E P bh bl < sml := by rw [vB']; omega
      by_cases hK0 : dV E P ah al < 0
      · exact fin subFO_ok (diff_c E P m ah al bh bl ch cl) (lcsS_ok (decide_eq_true hK0) (lcs4_ok l2))
      have l5 : ∀ c ∈ lcs5 E P ah al bh bl false, c.1 = c.2 := lcsS_ok (decide_eq_false hK0) (lcs4_ok l2)
      by_cases hL0 : dV E P bh bl < 0
      · exact fin subFO_ok (diff_d E P m ah al bh bl ch cl) (lcsS_ok (decide_eq_true hL0) l5)
      have l6 : ∀ c ∈ lcs6 E P ah al bh bl false, c.1 = c.2 := lcsS_ok (decide_eq_false hL0) l5
      by_cases hKL : dV E P ah al > 2 * dV E P bh bl
      · exact fin subFO_ok (diff_e E P m ah al bh bl ch cl) (lcsC_ok hf hK2 hL2 (decide_eq_true hKL) l6)
      have l7 : ∀ c ∈ lcs7 E P ah al bh bl false, c.1 = c.2 := lcsC_ok hf hK2 hL2 (decide_eq_false hKL) l6
      by_cases hLK : dV E P bh bl > 2 * dV E P ah al
      · exact fin subFO_ok (diff_f E P m ah al bh bl ch cl) (lcsC_ok hf hL2 hK2 (decide_eq_true hLK) l7)
      have l8 : ∀ c ∈ lcs8 E P ah al bh bl false, c.1 = c.2 := lcsC_ok hf hL2 hK2 (decide_eq_false hLK) l7
      have eA' : vErr E P (wX (wv ah al)) = 0 := eA
      have eB' : vErr E P (wX (wv bh bl)) = 0 := eB
      by_cases hmd : 0 ≤ m ∧ m ≤ 4
      · have hs : sPr E P m ah al bh bl = true := by unfold sPr; rw [hA, hB, decide_eq_true hmd, eA', eB']; rfl
        have hd := dif_ok (m := m) (na := negOf E P (wX (wv ah al))) (nb := !negOf E P (wX (wv bh bl))) hF a0 a1 b0 b1 kA kB (by omega) (by omega) (by omega) (by omega)
        obtain ⟨hdF, hdR, hdE, hdK⟩ := hd
        have hdF : dF E P m ah al bh bl = 0 := hdF
        have hdE : vErr E P (dW E P m ah al bh bl) = 0 := hdE
        have hdK : vK E P (dW E P m ah al bh bl) = dV E P ah al - dV E P bh bl := by rw [vA', vB']; exact hdK
        refine fin subFO_ok (diff_i E P m ah al bh bl ch cl) ?_
        unfold lcs11
        simp only [List.forall_mem_cons, wX_wordV, dD_eq, hdK, hdF, hdE, upK_min, upK_min', cmpI_eq]
        exact ⟨rfl, pP_min ⟨by omega, by omega⟩ ⟨by omega, by omega⟩ hf, nP_ok _, nP_ok _, pP_ok ⟨by omega, by omega⟩ ⟨by omega, by omega⟩ hf, nP_ok _, nP_ok _, rfl, rfl, trivial, trivial, wB_wordV hdR.1 hdR.2,
          lcs10_ok (decide_eq_false (by omega)) (decide_eq_false (by omega)) hs l8⟩
      · have hs : sBr E P m ah al bh bl = true := by unfold sBr; rw [hA, hB, decide_eq_false hmd, decide_eq_true hF]; rfl
        by_cases h0 : m < 0
        · refine fin subBO_ok (diff_g E P m ah al bh bl ch cl) ?_
          simp only [List.forall_mem_cons]
          exact ⟨trivial, lcs9_ok (decide_eq_true h0) hs l8⟩
        · refine fin subBO_ok (diff_h E P m ah al bh bl ch cl) ?_
          simp only [List.forall_mem_cons]
          exact ⟨trivial, lcs10_ok (decide_eq_false h0) (decide_eq_true (by omega)) hs l8⟩
    · refine fin subFO_ok (diff_b E P m ah al bh bl ch cl) (lcs4_ok ?_)
      unfold lcs2; simp only [List.forall_mem_cons]; exact ⟨by simpa using eB, l1⟩
  · refine fin subFO_ok (diff_a E P m ah al bh bl ch cl) (lcs4_ok ?_)
    unfold lcs1; simp only [List.forall_mem_cons]; exact ⟨by simpa using eA, l0⟩
end Go.Proofs.YtjomebgpnokboaaGreatDoor
