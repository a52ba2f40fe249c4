/-
  FloatsErrs: the law returns true whatever its argument. Condition: E, P, m any numbers, the halves of the words below 2^64.
-/
import Derived.Test.YtebibadldcempaaGreatDoorP29D
set_option linter.unusedVariables false
set_option linter.unusedSimpArgs false
set_option linter.unusedSectionVars false
namespace Go.Proofs.YtebibadldcempaaGreatDoor
open Go.RowKit Go.Shelf Go.Canon

/-- an infinity has no number -/
theorem over_even {E P : Int} (neg : Bool) (h : Fmt E P) : (0 ≤ ovW E P 0 neg ∧ ovW E P 0 neg < 2 * signOf E P) ∧ vErr E P (ovW E P 0 neg) = 4 := by
  have hinf := inf_range h
  have hinfS : infOf E P < signOf E P := hinf.2.1
  have hm : modeOf 0 neg = 0 := by unfold modeOf; cases neg <;> simp
  have hW : ovW E P 0 neg = infOf E P + (if neg = true then signOf E P else 0) := by
    unfold ovW; rw [hm]; simp
  have hr : 0 ≤ ovW E P 0 neg ∧ ovW E P 0 neg < 2 * signOf E P := by rw [hW]; split <;> omega
  have hs : sizW E P (ovW E P 0 neg) = infOf E P := by
    rw [hW]; unfold sizW sizeOf'
    cases neg
    · simp; intro; omega
    · rw [if_pos rfl, if_neg (by omega)]; omega
  have hk : kindOf E P (ovW E P 0 neg) = 3 := by unfold kindOf; rw [hs, if_neg (by omega), if_pos rfl]
  have he : rdErr E P (ovW E P 0 neg) = 0 := by unfold rdErr; rw [if_pos h, if_neg (by omega)]
  have hkd : rdKind E P (ovW E P 0 neg) = 3 := by unfold rdKind; rw [if_pos he, hk]
  exact ⟨hr, by unfold vErr; rw [if_pos he, hkd, if_neg (by decide)]⟩
theorem has_zero {E P k : Int} (h : Fmt E P) : hasB E P 0 k = true := by
  unfold hasB rndF; rw [decide_eq_true h, if_pos rfl]; rfl
theorem cm_eq (K L : Int) : (cmpI K L == 0) = decide (K = L) := by
  unfold cmpI
  by_cases h0 : K < L
  · rw [if_pos h0, decide_eq_false (by omega)]; rfl
  · rw [if_neg h0]
    by_cases h1 : L < K
    · rw [if_pos h1, decide_eq_false (by omega)]; rfl
    · rw [if_neg h1, decide_eq_true (by omega)]; rfl
theorem eS_eq (f K L : Int) : eS f K L = K + L := by unfold eS; rw [upK_same, upK_same]
theorem eR_eq (f S V : Int) : eR f S V = S - V := by unfold eR; rw [upK_min', upK_min]
/-- **the sum of two numbers, rounded to the nearest value**: what its word tells -/
theorem sum_cases {E P K L : Int} {na nb : Bool} (h : Fmt E P) (hK : (K.natAbs : Int) < 2 ^ (2 * biasOf E - 1 + P).toNat) {dk dl : Int} {ek el : Nat} (fK : (K.natAbs : Int) = dk * 2 ^ ek) (fL : (L.natAbs : Int) = dl * 2 ^ el) (k1 : dk < 2 ^ P.toNat) (l1 : dl < 2 ^ P.toNat) :
    (0 ≤ arW E P 0 K L na nb ∧ arW E P 0 K L na nb < 2 * signOf E P) ∧
    ((vErr E P (arW E P 0 K L na nb) = 4 ∧ arF E P 0 K L = 20) ∨
     (vErr E P (arW E P 0 K L na nb) = 0 ∧ (arF E P 0 K L = 0 ↔ vK E P (arW E P 0 K L na nb) = K + L) ∧ (((K + L - vK E P (arW E P 0 K L na nb)).natAbs : Int) ≤ K.natAbs) ∧ ((vK E P (arW E P 0 K L na nb)).natAbs : Int) < 2 ^ (2 * biasOf E - 1 + P).toNat ∧ hasB E P (K + L - vK E P (arW E P 0 K L na nb)) (fineOf E P) = true)) := by
  have hsg := sign_range h
  by_cases hz : K + L = 0
  · have hF : arF E P 0 K L = 0 := by unfold arF; rw [if_pos hz]
    have hW : arW E P 0 K L na nb = 0 ∨ arW E P 0 K L na nb = signOf E P := by
      unfold arW
      rw [if_pos hz]
      generalize (if na = nb then na else decide ((0 : Int) = 4)) = t
      cases t
      · exact .inl rfl
      · exact .inr rfl
    generalize arW E P 0 K L na nb = W at hW ⊢
    obtain ⟨k1, k2⟩ := kind_zero hW hsg.1
    have hlt : 0 ≤ W ∧ W < 2 * signOf E P := by rcases hW with rfl | rfl <;> omega
    obtain ⟨v1, v2⟩ := vErr_of h hlt.2 (.inl k1)
    have hv : vK E P W = 0 := by omega
    refine ⟨hlt, .inr ⟨v1, ⟨fun _ => by omega, fun _ => hF⟩, by rw [hv, hz]; simp, by rw [hv]; exact p2pos _, ?_⟩⟩
    rw [hv, hz]
    exact has_zero h
  · have hF : arF E P 0 K L = rndF E P 0 (K + L) (fineOf E P) := by unfold arF; rw [if_neg hz]
    have hW : arW E P 0 K L na nb = rndW E P 0 (K + L) (fineOf E P) := by unfold arW; rw [if_neg hz]
    rw [hF, hW]
    by_cases ho : logI (K + L) (fineOf E P) > biasOf E ∨ ¬ sizeU E P 0 (K + L) (fineOf E P) < infOf E P
    · obtain ⟨o1, o2⟩ := rnd_over hz ho
      rw [o1, o2]
      obtain ⟨r1, r2⟩ := over_even (decide (K + L < 0)) h
      exact ⟨r1, .inl ⟨r2, rfl⟩⟩
    · have hbig : ¬ logI (K + L) (fineOf E P) > biasOf E := fun hc => ho (.inl hc)
      have hlt : sizeU E P 0 (K + L) (fineOf E P) < infOf E P := Classical.byContradiction fun hc => ho (.inr hc)
      obtain ⟨r1, r2, r3, _, _⟩ := rnd_val h hz hbig hlt
      obtain ⟨v1, v2⟩ := vErr_of h r1.2 (.inr r2)
      have hfl := rnd_flag (E := E) (P := P) (m := 0) hz hbig hlt
      have hex := even_exact (E := E) (P := P) hz
      obtain ⟨d, e, f1, f2, f3, f4⟩ := err_form h hz fK fL k1 l1
      have hvl := opK_lt h r1.1 r1.2 (.inr r2)
      rw [← v2] at hvl
      have hv : vK E P (rndW E P 0 (K + L) (fineOf E P)) = sgM (decide (K + L < 0)) (nrN E P (K + L)) := by rw [v2, r3]; rfl
      generalize vK E P (rndW E P 0 (K + L) (fineOf E P)) = V at *
      have hab : ((K + L - V).natAbs : Int) = ((((K + L).natAbs : Int) - nrN E P (K + L)).natAbs : Int) := by
        rw [hv]
        unfold sgM
        by_cases hn : K + L < 0
        · rw [decide_eq_true hn, if_pos rfl]; omega
        · rw [decide_eq_false hn, if_neg (by decide)]; omega
      have hVD : V = K + L ↔ nrN E P (K + L) = ((K + L).natAbs : Int) := by
        rw [hv]
        unfold sgM
        by_cases hn : K + L < 0
        · rw [decide_eq_true hn, if_pos rfl]; omega
        · rw [decide_eq_false hn, if_neg (by decide)]; omega
      refine ⟨r1, .inr ⟨v1, ?_, by omega, hvl, ?_⟩⟩
      · rw [hfl, hVD, hex]
      · by_cases hr : K + L - V = 0
        · rw [hr]; exact has_zero h
        · obtain ⟨x1, _⟩ := rnd_exact (m := 2) h hr (d := d) (e := e) (by omega) f2 (by omega)
          unfold hasB; rw [decide_eq_true h, x1]; rfl
theorem ecsS_ok {f K L : Int} (hf : -50000 ≤ f ∧ f ≤ 50000) (h1 : -sml < K ∧ K < sml) (h2 : -sml < L ∧ L < sml) {l : List (Bool × Bool)} (hl : ∀ c ∈ l, c.1 = c.2) : ∀ c ∈ ecsS f K L l, c.1 = c.2 := by
  unfold ecsS; simp only [List.forall_mem_cons]
  exact ⟨pP_ok h1 h2 hf, nP_ok _, nP_ok _, hl⟩

theorem ecs1_ok {f K L V F E P : Int} {b : Bool} (hf : -40000 ≤ f ∧ f ≤ 40000) (h1 : -sml < 2 * K ∧ 2 * K < sml) (h2 : -sml < 2 * L ∧ 2 * L < sml) (h3 : -sml < V ∧ V < sml) (h4 : -sml < K + L - V ∧ K + L - V < sml) (hb : (F == 0) = b) (hv : F = 0 ↔ V = K + L) (hh : hasB E P (K + L - V) f = true)
    {l : List (Bool × Bool)} (hl : ∀ c ∈ l, c.1 = c.2) : ∀ c ∈ ecs1 f K L V F E P b l, c.1 = c.2 := by
  have hf5 : -50000 ≤ f ∧ f ≤ 50000 := by omega
  have k1 : -sml < K ∧ K < sml := by omega
  have k2 : -sml < L ∧ L < sml := by omega
  have k3 : -sml < K + L ∧ K + L < sml := by omega
  have hm : min f f = f := by omega
  unfold ecs1
  simp only [List.forall_mem_cons, eS_eq, eR_eq, hm, upK_same, cm_eq]
  refine ⟨trivial, hb, ?_, pP_ok h3 k3 hf5, nP_ok _, nP_ok _, ecsS_ok hf5 k1 k2 ?_⟩
  · rw [← hb]
    by_cases hz : F = 0
    · rw [decide_eq_true (hv.1 hz), hz]; rfl
    · rw [decide_eq_false (fun hq => hz (hv.2 hq))]
      simp [hz]
  · simp only [List.forall_mem_cons]
    exact ⟨hh, decide_eq_true ⟨⟨h4.1, h4.2, hf5.1, hf5.2⟩, hf.1⟩, nP_ok _, pP_ok k3 h3 hf5, nP_ok _, nP_ok _, ecsS_ok hf5 k1 k2 hl⟩
theorem err_con {E P m ah al bh bl ch cl : Int} (hA : wB (wv ah al) = true) (hB : wB (wv bh bl) = true) : Con Tryz.prog TL 3 [.v (opV E P m ah al bh bl ch cl)] ⟨none, .bool true⟩ := by
  have g : ∀ x, Ar.v x ∈ [Ar.v (opV E P m ah al bh bl ch cl)] → ground 9 x = true := fun x hx => by
    simp at hx; subst hx; rfl
  have fin : ∀ {an : List Bool} {o : Option CObj} {cs : List (Bool × Bool)}, errRun E P m ah al bh bl ch cl an = some (.bool true, o, lcsE cs) → (∀ c ∈ cs, c.1 = c.2) → Con Tryz.prog TL 3 [.v (opV E P m ah al bh bl ch cl)] ⟨none, .bool true⟩ :=
    fun h hcs => con_of_run numG noCountP mixedP gTL roTL sizeP (nest_ok errC_ok 1) (by simp) g h (lcsE_ok hcs) ⟨rfl, rfl⟩
  have l0 : ∀ c ∈ lcs0 ah al bh bl, c.1 = c.2 := by
    unfold lcs0; simp only [List.forall_mem_cons]; exact ⟨trivial, hB, trivial, hA, fun c hc => by cases hc⟩
  by_cases eA : dA E P ah al = 0
  · have l1 : ∀ c ∈ lcs1 E P ah al bh bl true, c.1 = c.2 := by
      unfold lcs1; simp only [List.forall_mem_cons]; exact ⟨by rw [eA]; rfl, l0⟩
    by_cases eB : dA E P bh bl = 0
    · have l2 : ∀ c ∈ lcs2 E P ah al bh bl true, c.1 = c.2 := by
        unfold lcs2; simp only [List.forall_mem_cons]; exact ⟨by rw [eB]; rfl, l1⟩
      obtain ⟨hF, a1, kA, vA⟩ := vErr_zero eA
      obtain ⟨_, b1, kB, vB⟩ := vErr_zero eB
      have a0 := (wX_range hA).1
      have b0 := (wX_range hB).1
      have hK := opK_lt hF a0 a1 kA
      have hL := opK_lt hF b0 b1 kB
      have hm := max_sml hF
      have hsg := sign_range hF
      have hbr := bias_range hF.1 hF.2.1
      have hf : -40000 ≤ fineOf E P ∧ fineOf E P ≤ 40000 := ⟨by have := hF.2.2.2.1; unfold fineOf; omega, by have := fine_le hF; omega⟩
      have hf5 : -50000 ≤ fineOf E P ∧ fineOf E P ≤ 50000 := by omega
      have vA' : dV E P ah al = opK E P (wX (wv ah al)) := vA
      have vB' : dV E P bh bl = opK E P (wX (wv bh bl)) := vB
      obtain ⟨da, ea, fa, _, da1, _⟩ := val_form hF a0 a1 kA
      obtain ⟨db, eb, fb, _, db1, _⟩ := val_form hF b0 b1 kB
      have eA' : vErr E P (wX (wv ah al)) = 0 := eA
      have eB' : vErr E P (wX (wv bh bl)) = 0 := eB
      have hp : aPr E P ah al bh bl = true := by unfold aPr; rw [hA, hB, eA', eB']; rfl
      obtain ⟨hr, hc⟩ := sum_cases (na := negOf E P (wX (wv ah al))) (nb := negOf E P (wX (wv bh bl))) hF hK fa fb da1 db1
      have hr : 0 ≤ eW E P ah al bh bl ∧ eW E P ah al bh bl < 2 * signOf E P := hr
      have bW : wB (wordV (eW E P ah al bh bl)) = true := wB_wordV hr.1 (by omega)
      have e0 : ∀ o, (vErr E P (wX (wordV (eW E P ah al bh bl))) != 0) = o → ∀ c ∈ ecs0 E P ah al bh bl o, c.1 = c.2 := by
        intro o ho
        unfold ecs0
        simp only [List.forall_mem_cons]
        exact ⟨ho, trivial, trivial, bW, trivial, hp, lcs4_ok l2⟩
      rcases hc with ⟨hc1, hc2⟩ | ⟨hc1, hc2, hc3, hc5, hc4⟩
      · have hc1 : vErr E P (eW E P ah al bh bl) = 4 := hc1
        have hc2 : eF E P ah al bh bl = 20 := hc2
        refine fin (err_c E P m ah al bh bl ch cl) ?_
        simp only [List.forall_mem_cons]
        exact ⟨by rw [hc2]; rfl, e0 _ (by rw [wX_wordV, hc1]; rfl)⟩
      · have hc1 : vErr E P (eW E P ah al bh bl) = 0 := hc1
        have hV : vK E P (eW E P ah al bh bl) = eV E P ah al bh bl := by unfold eV; rw [wX_wordV]
        have hc2 : eF E P ah al bh bl = 0 ↔ vK E P (eW E P ah al bh bl) = opK E P (wX (wv ah al)) + opK E P (wX (wv bh bl)) := hc2
        have hc3 : ((opK E P (wX (wv ah al)) + opK E P (wX (wv bh bl)) - vK E P (eW E P ah al bh bl)).natAbs : Int) ≤ (opK E P (wX (wv ah al))).natAbs := hc3
        have hc4 : hasB E P (opK E P (wX (wv ah al)) + opK E P (wX (wv bh bl)) - vK E P (eW E P ah al bh bl)) (fineOf E P) = true := hc4
        have hc5 : ((vK E P (eW E P ah al bh bl)).natAbs : Int) < 2 ^ (2 * biasOf E - 1 + P).toNat := hc5
        rw [hV] at hc2 hc3 hc4 hc5
        have e0' := e0 false (by rw [wX_wordV, hc1]; rfl)
        have e1 : ∀ b, (eF E P ah al bh bl == 0) = b → ∀ c ∈ ecs1 (fineOf E P) (dV E P ah al) (dV E P bh bl) (eV E P ah al bh bl) (eF E P ah al bh bl) E P b (ecs0 E P ah al bh bl false), c.1 = c.2 := by
          intro b hb
          rw [vA', vB']
          clear fa fb da1 db1 l0 l1 l2 e0 hr bW hV
          generalize opK E P (wX (wv ah al)) = K at *
          generalize opK E P (wX (wv bh bl)) = L at *
          generalize eV E P ah al bh bl = V at *
          generalize eF E P ah al bh bl = F at *
          exact ecs1_ok hf (by omega) (by omega) (by omega) (by omega) hb hc2 hc4 e0'
        cases hb : (eF E P ah al bh bl == 0)
        · exact fin (err_e E P m ah al bh bl ch cl) (e1 _ hb)
        · exact fin (err_d E P m ah al bh bl ch cl) (e1 _ hb)
    · refine fin (err_b E P m ah al bh bl ch cl) (lcs4_ok ?_)
      unfold lcs2; simp only [List.forall_mem_cons]; exact ⟨by simpa using eB, l1⟩
  · refine fin (err_a E P m ah al bh bl ch cl) (lcs4_ok ?_)
    unfold lcs1; simp only [List.forall_mem_cons]; exact ⟨by simpa using eA, l0⟩
end Go.Proofs.YtebibadldcempaaGreatDoor
