/-
  FloatsWider: the law returns true whatever its arguments. Condition: E, P, m, G, Q any numbers, the halves of the words below 2^64.
-/
import Derived.Test.YtebibadldcempaaGreatDoorP34C
set_option linter.unusedVariables false
set_option linter.unusedSimpArgs false
set_option linter.unusedSectionVars false
namespace Go.Proofs.YtebibadldcempaaGreatDoor
open Go.RowKit Go.Shelf Go.Canon

theorem blen_one : blen ((1 : Int).natAbs : Int) = 1 := by decide
theorem has_least {G Q k : Int} (h : Fmt G Q) (hk : k ≤ 0) (hh : hasB G Q 1 k = true) : fineOf G Q ≤ k := by
  apply Classical.byContradiction
  intro hlt
  have hbr := bias_range h.1 h.2.1
  have hfl : fineOf G Q = 1 - biasOf G - Q + 1 := rfl
  have hQ := h.2.2.1
  unfold hasB at hh
  rw [decide_eq_true h, Bool.true_and, beq_iff_eq] at hh
  have hl : logI 1 k = k := by unfold logI; rw [if_neg (by decide), blen_one]; omega
  have hst : stepOf G Q 1 k = fineOf G Q := by rw [stepOf_nz (by decide), hl, if_pos (by omega)]; omega
  have hr : rR G Q 1 k ≠ 0 := by
    unfold rR restF floorK isI'
    rw [hst, show (k + (1 - fineOf G Q)).toNat = 0 by omega]
    obtain ⟨n, hn⟩ : ∃ n : Nat, (-(k + (1 - fineOf G Q))).toNat = n := ⟨_, rfl⟩
    rw [hn, Int.pow_zero, Int.mul_one]
    cases n with
    | zero => decide
    | succ t =>
      have h1 : ((1 : Int).natAbs : Int) % 2 ^ (t + 1) = 1 := Int.emod_eq_of_lt (by decide) (by rw [Int.pow_succ]; have := p2pos t; omega)
      rw [h1]
      split <;> decide
  unfold rndF at hh
  rw [if_neg (by decide), if_neg (by omega)] at hh
  rw [if_neg hr] at hh
  split at hh
  · split at hh <;> omega
  · omega
theorem blen_ones {P : Int} (hP : 2 ≤ P) : blen (((2 : Int) ^ P.toNat - 1).natAbs : Int) = P.toNat := by
  have hp := p2pos (P - 1).toNat
  have hP2 : (2 : Int) ^ P.toNat = 2 * 2 ^ (P - 1).toNat := by
    rw [show P.toNat = (P - 1).toNat + 1 by omega, Int.pow_succ]; omega
  have e : (((2 : Int) ^ P.toNat - 1).natAbs : Int) = 2 ^ P.toNat - 1 := by omega
  rw [e]
  have h0 : 0 < (2 : Int) ^ P.toNat - 1 := by
    have := pow_split (show 1 ≤ P.toNat by omega)
    have := p2pos (P.toNat - 1)
    omega
  have h1 := (blen_lt (k := P.toNat) (Int.le_of_lt h0)).2 (by omega)
  have h2 : ¬ blen ((2 : Int) ^ P.toNat - 1) ≤ P.toNat - 1 := by
    intro hc
    have := (blen_lt (Int.le_of_lt h0)).1 hc
    rw [show P.toNat - 1 = (P - 1).toNat by omega] at this
    have h4 : (2 : Int) ≤ 2 ^ (P - 1).toNat := by
      have := pow_split (show 1 ≤ (P - 1).toNat by omega)
      have := p2pos ((P - 1).toNat - 1)
      omega
    omega
  omega
theorem has_great {E P G Q : Int} (hf : Fmt E P) (h : Fmt G Q) (hh : hasB G Q (gK E P) (gk E P) = true) : biasOf E ≤ biasOf G := by
  apply Classical.byContradiction
  intro hlt
  obtain ⟨e1, e2⟩ := gK_eq hf
  obtain ⟨_, _, h0⟩ := gK_in hf
  have hP := hf.2.2.1
  unfold hasB at hh
  rw [decide_eq_true h, Bool.true_and, beq_iff_eq] at hh
  have hl : logI (gK E P) (gk E P) = biasOf E := by
    unfold logI; rw [if_neg (by omega), e1, e2, blen_ones hP]; omega
  unfold rndF at hh
  rw [if_neg (by omega), if_pos (by omega)] at hh
  omega
/-- **a number that is cast to a format that has it, and back** -/
theorem cast_there {E P G Q m X : Int} (hf : Fmt E P) (hg : Fmt G Q) (hPQ : P ≤ Q) (hu : fineOf G Q ≤ fineOf E P) (hb : biasOf E ≤ biasOf G) (x0 : 0 ≤ X) (x1 : X < 2 * signOf E P) (kx : kindOf E P X = 1 ∨ kindOf E P X = 2) :
    castF E P G Q m X = 0 ∧ (0 ≤ castW E P G Q m X ∧ castW E P G Q m X < 2 * signOf G Q) ∧ vErr G Q (castW E P G Q m X) = 0 ∧ vK G Q (castW E P G Q m X) = opK E P X * 2 ^ (fineOf E P - fineOf G Q).toNat ∧
    ((opK E P X * 2 ^ (fineOf E P - fineOf G Q).toNat).natAbs : Int) < 2 ^ (2 * biasOf G - 1 + Q).toNat ∧
    castF G Q E P m (castW E P G Q m X) = 0 ∧ castW G Q E P m (castW E P G Q m X) = X := by
  have sf := sign_range hf
  have sg := sign_range hg
  rcases kx with kx | kx
  · have hz := kind_one_K kx
    have hX : X = if negOf E P X = true then signOf E P else 0 := by
      have hs : sizW E P X = 0 := by
        apply Classical.byContradiction
        intro hs
        unfold kindOf at kx
        rw [if_neg hs] at kx
        split at kx
        · omega
        · split at kx
          · omega
          · split at kx <;> omega
      unfold sizW sizeOf' at hs
      unfold negOf
      split at hs
      · rw [decide_eq_false (by omega)]; simp; omega
      · rw [decide_eq_true (by omega)]; simp; omega
    have hW : castW E P G Q m X = if negOf E P X = true then signOf G Q else 0 := by unfold castW; rw [if_pos hz]
    have hF : castF E P G Q m X = 0 := by unfold castF; rw [if_pos hz]
    have hW2 : castW E P G Q m X = 0 ∨ castW E P G Q m X = signOf G Q := by rw [hW]; split <;> simp
    have hn : negOf G Q (castW E P G Q m X) = negOf E P X := by
      rw [hW]; unfold negOf
      cases hc : decide (signOf E P ≤ X)
      · simp; omega
      · simp
    obtain ⟨k1, k2⟩ := kind_zero hW2 sg.1
    have hlt : 0 ≤ castW E P G Q m X ∧ castW E P G Q m X < 2 * signOf G Q := by rcases hW2 with h | h <;> omega
    obtain ⟨v1, v2⟩ := vErr_of hg hlt.2 (.inl k1)
    refine ⟨hF, hlt, v1, by rw [v2, k2, hz]; simp, by rw [hz]; simp; exact p2pos _, by unfold castF; rw [if_pos k2], ?_⟩
    unfold castW at hn k2 ⊢
    rw [if_pos k2, hn]
    exact hX.symm
  · have hz := kind_two_K hf x0 kx
    obtain ⟨d, e, f1, f2, f3, f4⟩ := val_form hf x0 x1 (.inr kx)
    have hKl := opK_lt hf x0 x1 (.inr kx)
    generalize hD : opK E P X = D at *
    have eu := rnd_unit (E := G) (P := Q) (m := m) (K := D) hu
    have eb := rnd_unit (E := E) (P := P) (m := m) (K := D) hu
    have hD' := mul_pow_ne (fineOf E P - fineOf G Q).toNat hz
    have hab := natAbs_mul_pow D (fineOf E P - fineOf G Q).toNat
    have hbr := bias_range hf.1 hf.2.1
    have hbg := bias_range hg.1 hg.2.1
    have ff : fineOf E P = 1 - biasOf E - P + 1 := rfl
    have fg : fineOf G Q = 1 - biasOf G - Q + 1 := rfl
    have hP := hf.2.2.1
    have hsm : ((D * 2 ^ (fineOf E P - fineOf G Q).toNat).natAbs : Int) < 2 ^ (2 * biasOf G - 1 + Q).toNat := by
      rw [hab]
      have h1 : (D.natAbs : Int) * 2 ^ (fineOf E P - fineOf G Q).toNat < 2 ^ (2 * biasOf E - 1 + P).toNat * 2 ^ (fineOf E P - fineOf G Q).toNat := Int.mul_lt_mul_of_pos_right hKl (p2pos _)
      rw [← Int.pow_add] at h1
      have h2 := pow_split (show (2 * biasOf E - 1 + P).toNat + (fineOf E P - fineOf G Q).toNat ≤ (2 * biasOf G - 1 + Q).toNat by omega)
      have h3 := Int.mul_le_mul_of_nonneg_right (show (1 : Int) ≤ 2 ^ ((2 * biasOf G - 1 + Q).toNat - ((2 * biasOf E - 1 + P).toNat + (fineOf E P - fineOf G Q).toNat)) from p2pos _) (Int.le_of_lt (p2pos ((2 * biasOf E - 1 + P).toNat + (fineOf E P - fineOf G Q).toNat)))
      omega
    have hd2 : d < 2 ^ Q.toNat := by
      have h2 := pow_split (show P.toNat ≤ Q.toNat by omega)
      have h3 := Int.mul_le_mul_of_nonneg_right (show (1 : Int) ≤ 2 ^ (Q.toNat - P.toNat) from p2pos _) (Int.le_of_lt (p2pos P.toNat))
      omega
    obtain ⟨r1, r2, r3, r4, r5⟩ := rnd_exact (m := m) hg hD' (d := d) (e := e + (fineOf E P - fineOf G Q).toNat) (by rw [hab, f1, Int.mul_assoc, ← Int.pow_add]) hd2 hsm
    rw [eu.1] at r2 r3 r4 r5
    rw [eu.2] at r1
    have hW : castW E P G Q m X = rndW G Q m D (fineOf E P) := by unfold castW; rw [hD, if_neg hz]
    have hF : castF E P G Q m X = rndF G Q m D (fineOf E P) := by unfold castF; rw [hD, if_neg hz]
    rw [hW, hF]
    obtain ⟨v1, v2⟩ := vErr_of hg r3 (.inr r4)
    obtain ⟨b1, b2, b3, b4, b5⟩ := rnd_exact (m := m) hf hz f1 f3 hKl
    have hF2 : castF G Q E P m (rndW G Q m D (fineOf E P)) = rndF E P m D (fineOf E P) := by unfold castF; rw [r5, if_neg hD', eb.2]
    have hW2 : castW G Q E P m (rndW G Q m D (fineOf E P)) = rndW E P m D (fineOf E P) := by unfold castW; rw [r5, if_neg hD', eb.1]
    refine ⟨r1, ⟨r2, r3⟩, v1, by rw [v2, r5], hsm, by rw [hF2, b1], ?_⟩
    rw [hW2]
    exact word_inj hf b2 x0 b4 kx (by rw [b5, hD])

theorem hasL_ok {E P K k : Int} {b : Bool} (h1 : inB K k ∧ -40000 ≤ k) (hb : hasB E P K k = b) {l : List (Bool × Bool)} (hl : ∀ c ∈ l, c.1 = c.2) : ∀ c ∈ hasL E P K k b l, c.1 = c.2 := by
  unfold hasL; simp only [List.forall_mem_cons]; exact ⟨hb, decide_eq_true h1, nP_ok _, hl⟩
theorem wid_con {E P m ah al bh bl ch cl G Q : Int} (hA : wB (wv ah al) = true) : Con Tryz.prog TL 6 [.v (opV E P m ah al bh bl ch cl), .v (fmtV G Q)] ⟨none, .bool true⟩ := by
  have g : ∀ x, Ar.v x ∈ [Ar.v (opV E P m ah al bh bl ch cl), .v (fmtV G Q)] → ground 9 x = true := fun x hx => by
    simp at hx; rcases hx with rfl | rfl <;> rfl
  have fin : ∀ {an : List Bool} {o : Option CObj} {cs : List (Bool × Bool)}, widRun E P m ah al bh bl ch cl G Q an = some (.bool true, o, lcsE cs) → (∀ c ∈ cs, c.1 = c.2) → Con Tryz.prog TL 6 [.v (opV E P m ah al bh bl ch cl), .v (fmtV G Q)] ⟨none, .bool true⟩ :=
    fun h hcs => con_of_run numG noCountP mixedP gTL roTL sizeP (nest_ok widC_ok 1) (by simp) g h (lcsE_ok hcs) ⟨rfl, rfl⟩
  have w0 : ∀ b, insB E P G Q = b → ∀ c ∈ wcs0 E P G Q b, c.1 = c.2 := by
    intro b hb; unfold wcs0; simp only [List.forall_mem_cons]; exact ⟨hb, trivial, trivial, trivial, trivial, trivial, trivial, fun c hc => by cases hc⟩
  have wV : ∀ l : List (Bool × Bool), (∀ c ∈ l, c.1 = c.2) → ∀ c ∈ wcsV ah al l, c.1 = c.2 := by
    intro l hl; unfold wcsV; simp only [List.forall_mem_cons]; exact ⟨trivial, hA, trivial, hl⟩
  by_cases hF : Fmt E P
  · have eF : (fmtE E P != 0) = false := by unfold fmtE; rw [if_pos hF]; rfl
    have hf := fine_range hF
    have hgk := gK_in hF
    by_cases hG : Fmt G Q
    · have eG : (chkE G Q != 0) = false := by unfold chkE; rw [if_pos hG]; rfl
      have w1 : ∀ b, insB E P G Q = b → ∀ c ∈ wcs1 E P G Q b false, c.1 = c.2 := by
        intro b hb; unfold wcs1; simp only [List.forall_mem_cons]; exact ⟨eG, trivial, eF, eF, w0 b hb⟩
      have w2 : ∀ b c, insB E P G Q = b → hasB G Q 1 (fineOf E P) = c → ∀ x ∈ wcs2 E P G Q b c, x.1 = x.2 := by
        intro b c hb hc; unfold wcs2; rw [if_pos hF]; exact hasL_ok ⟨one_in (by omega) (by omega), by omega⟩ hc (w1 b hb)
      cases hL : hasB G Q 1 (fineOf E P)
      · have hi : insB E P G Q = false := by unfold insB; rw [hL]; simp
        exact fin (wid_c E P m ah al bh bl ch cl G Q) (wV _ (w2 _ _ hi hL))
      have w3 : ∀ b c, insB E P G Q = b → hasB G Q (gK E P) (gk E P) = c → ∀ x ∈ wcs3 E P G Q b c, x.1 = x.2 := by
        intro b c hb hc; unfold wcs3; rw [if_pos hF]; exact hasL_ok ⟨hgk.1, hgk.2.1⟩ hc (w2 b _ hb hL)
      cases hM : hasB G Q (gK E P) (gk E P)
      · have hi : insB E P G Q = false := by unfold insB; rw [hM]; simp
        exact fin (wid_d E P m ah al bh bl ch cl G Q) (wV _ (w3 _ _ hi hM))
      have w4 : ∀ b c, insB E P G Q = b → decide (P ≤ Q) = c → ∀ x ∈ wcs4 E P G Q b c, x.1 = x.2 := by
        intro b c hb hc; unfold wcs4; simp only [List.forall_mem_cons]; exact ⟨hc, trivial, trivial, w3 b _ hb hM⟩
      by_cases hPQ : P ≤ Q
      · have hi : insB E P G Q = true := by unfold insB; rw [hM, hL, decide_eq_true hF, decide_eq_true hG, decide_eq_true hPQ]; rfl
        have wv' := wV _ (w4 _ _ hi (decide_eq_true hPQ))
        by_cases eA : dA E P ah al = 0
        · have w5 : ∀ c ∈ wcs5 E P ah al G Q false, c.1 = c.2 := by
            unfold wcs5; simp only [List.forall_mem_cons]; exact ⟨by rw [eA]; rfl, wv'⟩
          by_cases hm0 : m < 0
          · refine fin (wid_g E P m ah al bh bl ch cl G Q) ?_
            unfold wcs6; simp only [List.forall_mem_cons]; exact ⟨decide_eq_true hm0, trivial, w5⟩
          have w6 : ∀ c ∈ wcs6 E P m ah al G Q false, c.1 = c.2 := by
            unfold wcs6; simp only [List.forall_mem_cons]; exact ⟨decide_eq_false hm0, trivial, w5⟩
          by_cases hm4 : m > 4
          · refine fin (wid_h E P m ah al bh bl ch cl G Q) ?_
            unfold wcs7; simp only [List.forall_mem_cons]; exact ⟨decide_eq_true hm4, trivial, w6⟩
          have w7 : ∀ c ∈ wcs7 E P m ah al G Q false, c.1 = c.2 := by
            unfold wcs7; simp only [List.forall_mem_cons]; exact ⟨decide_eq_false hm4, trivial, w6⟩
          obtain ⟨_, a1, kA, vA⟩ := vErr_zero eA
          have a0 := (wX_range hA).1
          have eA' : vErr E P (wX (wv ah al)) = 0 := eA
          have vA' : dV E P ah al = opK E P (wX (wv ah al)) := vA
          have hu := has_least hG hf.2 hL
          have hbE := has_great hF hG hM
          have hmx := max_sml hG
          have hfg := fine_range hG
          have hsg := sign_range hG
          obtain ⟨c1, c2, c3, c4, c5, c6, c7⟩ := cast_there (m := m) hF hG hPQ hu hbE a0 a1 kA
          have hW : castW E P G Q m (wX (wv ah al)) = wW E P m ah al G Q := rfl
          rw [hW] at c2 c3 c4 c6 c7
          have hb : 0 ≤ ah ∧ ah < 18446744073709551616 ∧ 0 ≤ al ∧ al < 18446744073709551616 := of_decide_eq_true hA
          have hX : wX (wv ah al) = ah * 18446744073709551616 + al := rfl
          refine fin (wid_i E P m ah al bh bl ch cl G Q) ?_
          unfold wcs8 wW2
          have hmin : min (fineOf E P) (fineOf G Q) = fineOf G Q := by omega
          have hmin' : min (fineOf G Q) (fineOf E P) = fineOf G Q := by omega
          have k1 : upK (dV E P ah al) (fineOf E P) (fineOf G Q) = opK E P (wX (wv ah al)) * 2 ^ (fineOf E P - fineOf G Q).toNat := by unfold upK; rw [hmin, vA']
          have k2 : upK (vK G Q (wW E P m ah al G Q)) (fineOf G Q) (fineOf E P) = opK E P (wX (wv ah al)) * 2 ^ (fineOf E P - fineOf G Q).toNat := by
            unfold upK; rw [hmin', c4, show fineOf G Q - fineOf G Q = 0 by omega]; simp
          have bW : wB (wordV (wW E P m ah al G Q)) = true := wB_wordV c2.1 (by omega)
          simp only [List.forall_mem_cons, wX_wordV, c1, c3, c6, c7, k1, k2, cmpI_eq, bW, hA, eA']
          refine ⟨decide_eq_true (by rw [hX]; omega), rfl, ?_, nP_ok _, nP_ok _, rfl, rfl, trivial, rfl, trivial, trivial, ?_, trivial, trivial, trivial, trivial, ?_, trivial, w7⟩
          · unfold pP
            rw [k1, k2, hmin]
            have hin : inB (opK E P (wX (wv ah al)) * 2 ^ (fineOf E P - fineOf G Q).toNat) (fineOf G Q) := ⟨by omega, by omega, by omega, by omega⟩
            rw [decide_eq_true hin]; rfl
          · rw [decide_eq_true hF, decide_eq_true (show 0 ≤ m ∧ m ≤ 4 by omega)]; rfl
          · rw [decide_eq_true hG, decide_eq_true (show 0 ≤ m ∧ m ≤ 4 by omega)]; rfl
        · refine fin (wid_f E P m ah al bh bl ch cl G Q) ?_
          unfold wcs5; simp only [List.forall_mem_cons]; exact ⟨by simpa using eA, wv'⟩
      · have hi : insB E P G Q = false := by unfold insB; rw [decide_eq_false hPQ]; simp
        exact fin (wid_e E P m ah al bh bl ch cl G Q) (wV _ (w4 _ _ hi (decide_eq_false hPQ)))
    · have hi : insB E P G Q = false := by unfold insB; rw [decide_eq_false hG]; simp
      refine fin (wid_b E P m ah al bh bl ch cl G Q) ?_
      unfold wcs1; simp only [List.forall_mem_cons]; exact ⟨by unfold chkE; rw [if_neg hG]; rfl, trivial, eF, eF, w0 _ hi⟩
  · have hi : insB E P G Q = false := by unfold insB; rw [decide_eq_false hF]; simp
    refine fin (wid_a E P m ah al bh bl ch cl G Q) ?_
    simp only [List.forall_mem_cons]; exact ⟨by unfold fmtE; rw [if_neg hF]; rfl, w0 _ hi⟩
end Go.Proofs.YtebibadldcempaaGreatDoor
