/-
  Least, Greatest, Inside, Cast: their contracts, as answers.
-/
import Derived.Test.YtebibadldcempaaGreatDoorP34A
set_option linter.unusedVariables false
set_option linter.unusedSimpArgs false
set_option linter.unusedSectionVars false
namespace Go.Proofs.YtebibadldcempaaGreatDoor
open Go.RowKit Go.Shelf Go.Canon

theorem groundF (E P : Int) : ∀ x, Ar.v x ∈ [Ar.v (fmtV E P)] → ground 9 x = true := fun x hx => by
  simp at hx; subst hx; rfl
theorem groundFF (E P G Q : Int) : ∀ x, Ar.v x ∈ [Ar.v (fmtV E P), .v (fmtV G Q)] → ground 9 x = true := fun x hx => by
  simp at hx; rcases hx with rfl | rfl <;> rfl
theorem groundC (E P G Q m X : Int) : ∀ x, Ar.v x ∈ [Ar.v (fmtV E P), .v (fmtV G Q), .v (.int .i64 m), .v (wordV X)] → ground 9 x = true := fun x hx => by
  simp at hx; rcases hx with rfl | rfl | rfl | rfl <;> rfl
theorem pmcs_ok {E P : Int} (h : Fmt E P) : ∀ c ∈ pmcs E P, c.1 = c.2 := by
  unfold pmcs; simp only [List.forall_mem_cons]
  exact ⟨trivial, trivial, trivial, trivial, trivial, trivial, by unfold chkE; rw [if_pos h]; rfl, trivial, fun c hc => by cases hc⟩
theorem badcs_ok {E P : Int} (h : ¬ Fmt E P) : ∀ c ∈ badcs E P, c.1 = c.2 := by
  unfold badcs; simp only [List.forall_mem_cons]
  exact ⟨trivial, trivial, trivial, trivial, trivial, by unfold chkE; rw [if_neg h]; rfl, trivial, fun c hc => by cases hc⟩
theorem fine_range {E P : Int} (h : Fmt E P) : -2000 ≤ fineOf E P ∧ fineOf E P ≤ 0 := by
  have hbr := bias_range h.1 h.2.1
  have := h.2.2.2.1
  exact ⟨by unfold fineOf; omega, fine_le h⟩
theorem gd_eq {E P : Int} (h : Fmt E P) : gd1 E = biasOf E + 1 ∧ gd2 E P = biasOf E - P + 1 := by
  have hbr := bias_range h.1 h.2.1
  obtain ⟨h1, h2, h3, h4, h5⟩ := h
  unfold gd1 gd2
  rw [wrapI (x := biasOf E - P) (by omega), wrapI (by omega), wrapI (by omega)]
  exact ⟨rfl, rfl⟩
theorem p113 {P : Int} (hP : P ≤ 113) : (2 : Int) ^ P.toNat ≤ 2 ^ 113 := by
  obtain ⟨d, hd⟩ : ∃ d : Nat, 113 = P.toNat + d := ⟨113 - P.toNat, by omega⟩
  rw [hd, Int.pow_add]
  have := Int.mul_le_mul_of_nonneg_left (show (1 : Int) ≤ 2 ^ d from p2pos d) (Int.le_of_lt (p2pos P.toNat))
  omega
theorem p113_sml : (2 : Int) ^ 113 < sml := by
  have h1 := p124_sml
  have h2 : (2 : Int) ^ 113 < 2 ^ 124 := by decide
  omega
theorem gK_eq {E P : Int} (h : Fmt E P) : gK E P = 2 ^ P.toNat - 1 ∧ gk E P = biasOf E - P + 1 := by
  obtain ⟨e1, e2⟩ := gd_eq h
  have hbr := bias_range h.1 h.2.1
  obtain ⟨h1, h2, h3, h4, h5⟩ := h
  unfold gK gk upK
  rw [e1, e2, show min (biasOf E + 1) (biasOf E - P + 1) = biasOf E - P + 1 by omega, show min (biasOf E - P + 1) (biasOf E + 1) = biasOf E - P + 1 by omega, show (biasOf E + 1 - (biasOf E - P + 1)).toNat = P.toNat by omega, show (biasOf E - P + 1 - (biasOf E - P + 1)).toNat = 0 by omega]
  simp
theorem gK_in {E P : Int} (h : Fmt E P) : inB (gK E P) (gk E P) ∧ -40000 ≤ gk E P ∧ 0 < gK E P := by
  obtain ⟨e1, e2⟩ := gK_eq h
  have hbr := bias_range h.1 h.2.1
  have h4 := h.2.2.2.1
  have h3 := h.2.2.1
  have p1 := p113 h4
  have p2 := p113_sml
  have p3 : (4 : Int) ≤ 2 ^ P.toNat := by
    have := pow_split (show 2 ≤ P.toNat by omega)
    have h7 := p2pos (P.toNat - 2)
    have h8 : (2 : Int) ^ 2 = 4 := by decide
    omega
  rw [e1, e2]
  exact ⟨⟨by omega, by omega, by omega, by omega⟩, by omega, by omega⟩
theorem grcs_ok {E P : Int} (h : Fmt E P) {l : List (Bool × Bool)} (hl : ∀ c ∈ l, c.1 = c.2) : ∀ c ∈ grcs E P l, c.1 = c.2 := by
  obtain ⟨e1, e2⟩ := gd_eq h
  have hbr := bias_range h.1 h.2.1
  have h4 := h.2.2.2.1
  have h3 := h.2.2.1
  have p1 := p113 h4
  have p2 := p113_sml
  have p0 := p2pos P.toNat
  unfold grcs powB
  simp only [List.forall_mem_cons]
  refine ⟨trivial, ?_, nP_ok _, nP_ok _, decide_eq_true (by omega), trivial, decide_eq_true h, decide_eq_true (by omega), decide_eq_true h, hl⟩
  unfold pP upK
  rw [e1, e2, show min (biasOf E + 1) (biasOf E - P + 1) = biasOf E - P + 1 by omega, show min (biasOf E - P + 1) (biasOf E + 1) = biasOf E - P + 1 by omega, show (biasOf E + 1 - (biasOf E - P + 1)).toNat = P.toNat by omega, show (biasOf E - P + 1 - (biasOf E - P + 1)).toNat = 0 by omega]
  rw [decide_eq_true (show inB (1 * 2 ^ P.toNat) (biasOf E - P + 1) from ⟨by omega, by omega, by omega, by omega⟩), decide_eq_true (show inB (1 * 2 ^ 0) (biasOf E - P + 1) from ⟨by omega, by omega, by omega, by omega⟩)]; rfl
theorem one_in {k : Int} (h0 : -50000 ≤ k) (h1 : k ≤ 50000) : inB 1 k := by
  have p2 := p113_sml
  have : (1 : Int) ≤ 2 ^ 113 := p2pos 113
  exact ⟨by omega, by omega, h0, h1⟩

def fmtE (E P : Int) : Int := if Fmt E P then 0 else 2
theorem least_con (E P : Int) : Con Tryz.prog TR 28 [.v (fmtV E P)] (resNE (if Fmt E P then 1 else 0) (fineOf E P) (fmtE E P)) := by
  have g := groundF E P
  have ok := nest_ok leastC_ok 3
  unfold fmtE
  by_cases h : Fmt E P
  · rw [if_pos h, if_pos h]
    have hf := fine_range h
    refine con_sym ok (least_good E P) ?_ (by simp) g ⟨rfl, rfl, rfl⟩
    simp only [List.forall_mem_cons]
    exact ⟨trivial, decide_eq_true (by omega), decide_eq_true h, pmcs_ok h⟩
  · rw [if_neg h, if_neg h]
    exact con_imp (con_plain ok (least_bad E P) (badcs_ok h) (by simp) g rfl rfl) fun w v hr => zeroE_is hr
theorem great_con (E P : Int) : Con Tryz.prog TR 29 [.v (fmtV E P)] (resNE (if Fmt E P then gK E P else 0) (gk E P) (fmtE E P)) := by
  have g := groundF E P
  have ok := nest_ok greatC_ok 3
  unfold fmtE
  by_cases h : Fmt E P
  · rw [if_pos h, if_pos h]
    refine con_sym ok (great_good E P) ?_ (by simp) g ⟨rfl, rfl, rfl⟩
    simp only [List.forall_mem_cons]
    exact ⟨trivial, grcs_ok h (pmcs_ok h)⟩
  · rw [if_neg h, if_neg h]
    exact con_imp (con_plain ok (great_bad E P) (badcs_ok h) (by simp) g rfl rfl) fun w v hr => zeroE_is hr
/-- whether all values of a format are values of another one -/
def insB (E P G Q : Int) : Bool := decide (Fmt E P) && (decide (Fmt G Q) && (decide (P ≤ Q) && (hasB G Q 1 (fineOf E P) && hasB G Q (gK E P) (gk E P))))
theorem ins_con (E P G Q : Int) : Con Tryz.prog TR 30 [.v (fmtV E P), .v (fmtV G Q)] ⟨none, .bool (insB E P G Q)⟩ := by
  have g := groundFF E P G Q
  have ok := nest_ok insC_ok 3
  by_cases h : Fmt E P
  · have hf := fine_range h
    have hg := gK_in h
    by_cases h2 : Fmt G Q
    · have c1 : ∀ c ∈ ics1 E P G Q false, c.1 = c.2 := by
        unfold ics1; simp only [List.forall_mem_cons]; exact ⟨by unfold chkE; rw [if_pos h2]; rfl, trivial, pmcs_ok h⟩
      have c2 : ∀ b, decide (P ≤ Q) = b → ∀ c ∈ ics2 E P G Q b, c.1 = c.2 := by
        intro b hb; unfold ics2; simp only [List.forall_mem_cons]; exact ⟨hb, trivial, trivial, c1⟩
      by_cases hP : P ≤ Q
      · have c3 : ∀ b, hasB G Q 1 (fineOf E P) = b → ∀ c ∈ ics3 E P G Q b, c.1 = c.2 := by
          intro b hb
          unfold ics3 hasL powB
          simp only [List.forall_mem_cons]
          exact ⟨hb, decide_eq_true ⟨one_in (by omega) (by omega), by omega⟩, nP_ok _, decide_eq_true (by omega), decide_eq_true h, c2 _ (decide_eq_true hP)⟩
        cases hl : hasB G Q 1 (fineOf E P)
        · exact con_plain ok (ins_l E P G Q) (c3 _ hl) (by simp) g (by unfold insB; rw [hl]; simp) rfl
        · have c4 : ∀ b, hasB G Q (gK E P) (gk E P) = b → ∀ c ∈ ics4 E P G Q b, c.1 = c.2 := by
            intro b hb
            unfold ics4 hasL
            simp only [List.forall_mem_cons]
            exact ⟨hb, decide_eq_true ⟨hg.1, hg.2.1⟩, nP_ok _, grcs_ok h (c3 _ hl)⟩
          cases hq : hasB G Q (gK E P) (gk E P)
          · exact con_plain ok (ins_g E P G Q) (c4 _ hq) (by simp) g (by unfold insB; rw [hq]; simp) rfl
          · exact con_plain ok (ins_t E P G Q) (c4 _ hq) (by simp) g (by unfold insB; rw [hq, hl, decide_eq_true h, decide_eq_true h2, decide_eq_true hP]; rfl) rfl
      · exact con_plain ok (ins_p E P G Q) (c2 _ (decide_eq_false hP)) (by simp) g (by unfold insB; rw [decide_eq_false hP]; simp) rfl
    · refine con_plain ok (ins_bad2 E P G Q) ?_ (by simp) g (by unfold insB; rw [decide_eq_false h2]; simp) rfl
      unfold ics1; simp only [List.forall_mem_cons]; exact ⟨by unfold chkE; rw [if_neg h2]; rfl, trivial, pmcs_ok h⟩
  · refine con_plain ok (ins_bad E P G Q) ?_ (by simp) g (by unfold insB; rw [decide_eq_false h]; simp) rfl
    simp only [List.forall_mem_cons]
    exact ⟨trivial, trivial, trivial, trivial, by unfold chkE; rw [if_neg h]; rfl, trivial, fun c hc => by cases hc⟩

/-- the word and the flags of a number that is cast -/
def castW (E P G Q m X : Int) : Int := if opK E P X = 0 then (if negOf E P X = true then signOf G Q else 0) else rndW G Q m (opK E P X) (fineOf E P)
def castF (E P G Q m X : Int) : Int := if opK E P X = 0 then 0 else rndF G Q m (opK E P X) (fineOf E P)
theorem kind_one_K {E P X : Int} (h : kindOf E P X = 1) : opK E P X = 0 := by unfold opK; rw [h]; simp
theorem kind_two_K {E P X : Int} (hF : Fmt E P) (h0 : 0 ≤ X) (h : kindOf E P X = 2) : opK E P X ≠ 0 := by
  have zx : 0 < sizW E P X := by
    have : 0 ≤ sizW E P X := by unfold sizW sizeOf'; split <;> omega
    have hz : sizW E P X ≠ 0 := fun hz => by unfold kindOf at h; rw [if_pos hz] at h; omega
    omega
  have mx := mag_pos hF.2.2.1 zx
  unfold opK
  rw [if_pos h]
  unfold sgM
  split <;> omega
theorem ccs0_ok {E P m : Int} (h : Fmt E P) (m0 : 0 ≤ m) (m1 : m ≤ 4) {l : List (Bool × Bool)} (hl : ∀ c ∈ l, c.1 = c.2) : ∀ c ∈ ccs0 E P m l, c.1 = c.2 := by
  unfold ccs0; simp only [List.forall_mem_cons]
  exact ⟨trivial, trivial, trivial, by simp; omega, by simp; omega, by unfold chkE; rw [if_pos h]; rfl, trivial, hl⟩
theorem cast_con {E P G Q m X : Int} (h : Fmt E P) (h2 : Fmt G Q) (m0 : 0 ≤ m) (m1 : m ≤ 4) (x0 : 0 ≤ X) (x1 : X < 2 * signOf E P) (kx : kindOf E P X = 1 ∨ kindOf E P X = 2) :
    Con Tryz.prog TR 27 [.v (fmtV E P), .v (fmtV G Q), .v (.int .i64 m), .v (wordV X)] ⟨none, .tuple #[wordV (castW E P G Q m X), .int .i64 (castF E P G Q m X), .int .i64 0]⟩ := by
  have g := groundC E P G Q m X
  have ok := nest_ok castC_ok 5
  have hs := sign_range h2
  have hK := opK_lt h x0 x1 kx
  have hm := max_sml h
  have hf := fine_range h
  have dX : dK E P X = opK E P X := by unfold dK; rw [wX_wordV]
  have kX : dKind E P X = kindOf E P X := by unfold dKind; rw [wX_wordV]
  have z0 : wX zeroW = 0 := rfl
  have b0 : wB zeroW = true := rfl
  have base : ∀ neg, negOf E P X = neg → ∀ c ∈ ccs1 E P G Q m X neg, c.1 = c.2 := by
    intro neg hn
    unfold ccs1
    simp only [List.forall_mem_cons]
    refine ⟨trivial, trivial, trivial, acsN_ok kx ?_⟩
    simp only [List.forall_mem_cons]
    exact ⟨trivial, trivial, acsW_ok h x0 x1 hn (ccs0_ok h2 m0 m1 (ccs0_ok h m0 m1 fun c hc => by cases hc))⟩
  rcases kx with kx | kx
  · have hz := kind_one_K kx
    have eF : castF E P G Q m X = 0 := by unfold castF; rw [if_pos hz]
    have eZ : ∀ neg, negOf E P X = neg → ∀ c ∈ ccsZ E P G Q m X neg, c.1 = c.2 := by
      intro neg hn
      refine acsE_ok ?_ 5
      simp only [List.forall_mem_cons]
      exact ⟨by simp [h2, b0, z0, hs.1], by rw [kX, kx]; rfl, base _ hn⟩
    rw [eF]
    unfold castW
    rw [if_pos hz]
    cases hn : negOf E P X
    · exact con_plain ok (cast_zf E P G Q m X) (eZ _ hn) (by simp) g (by simp [z0]) rfl
    · exact con_plain ok (cast_zt E P G Q m X) (eZ _ hn) (by simp) g (by simp [z0]) rfl
  · have hz := kind_two_K h x0 kx
    have eF : castF E P G Q m X = rndF G Q m (opK E P X) (fineOf E P) := by unfold castF; rw [if_neg hz]
    have eW : castW E P G Q m X = rndW G Q m (opK E P X) (fineOf E P) := by unfold castW; rw [if_neg hz]
    have eZ : ∀ neg, negOf E P X = neg → ∀ c ∈ ccsF E P G Q m X neg, c.1 = c.2 := by
      intro neg hn
      refine acsE_ok ?_ 5
      simp only [List.forall_mem_cons]
      refine ⟨?_, nP_ok _, by rw [kX, kx]; rfl, by rw [kX, kx]; rfl, base _ hn⟩
      rw [dX, decide_eq_true h2, decide_eq_true (show 0 ≤ m ∧ m ≤ 4 from ⟨m0, m1⟩), decide_eq_true (show inB (opK E P X) (fineOf E P) ∧ -40000 ≤ fineOf E P from ⟨⟨by omega, by omega, by omega, by omega⟩, by omega⟩)]; rfl
    rw [eF, eW]
    cases hn : negOf E P X
    · have hrun := cast_ff E P G Q m X
      rw [dX] at hrun
      exact con_plain ok hrun (eZ _ hn) (by simp) g rfl rfl
    · have hrun := cast_ft E P G Q m X
      rw [dX] at hrun
      exact con_plain ok hrun (eZ _ hn) (by simp) g rfl rfl

/-! as answers -/
def leastS (xs : List Ar) : Option Res := match xs with
  | [.v a] => match fmt2 a with
    | some (E, P) => some (resNE (if Fmt E P then 1 else 0) (fineOf E P) (fmtE E P))
    | none => none
  | _ => none
def leastO : CF → St → Option (Value × St) := oracle 28 (conSpec TR (fun _ => true) leastS)
theorem leastO_ok : RunOkE Tryz.prog leastO := con_oracle numG gTR roTR2 fun xs R h hp => by
  unfold leastS at h
  split at h
  · split at h
    · rename_i hm
      injection h with h
      subst h
      rw [fmt2_ok hm]
      exact least_con _ _
    · cases h
  · cases h
def greatS (xs : List Ar) : Option Res := match xs with
  | [.v a] => match fmt2 a with
    | some (E, P) => some (resNE (if Fmt E P then gK E P else 0) (gk E P) (fmtE E P))
    | none => none
  | _ => none
def greatO : CF → St → Option (Value × St) := oracle 29 (conSpec TR (fun _ => true) greatS)
theorem greatO_ok : RunOkE Tryz.prog greatO := con_oracle numG gTR roTR2 fun xs R h hp => by
  unfold greatS at h
  split at h
  · split at h
    · rename_i hm
      injection h with h
      subst h
      rw [fmt2_ok hm]
      exact great_con _ _
    · cases h
  · cases h
def insS (xs : List Ar) : Option Res := match xs with
  | [.v a, .v b] => match fmt2 a with
    | some (E, P) => match fmt2 b with
      | some (G, Q) => some (⟨none, .bool (insB E P G Q)⟩ : Res)
      | none => none
    | none => none
  | _ => none
def insO : CF → St → Option (Value × St) := oracle 30 (conSpec TR (fun _ => true) insS)
theorem insO_ok : RunOkE Tryz.prog insO := con_oracle numG gTR roTR2 fun xs R h hp => by
  unfold insS at h
  split at h
  · split at h
    · rename_i hm
      split at h
      · rename_i hm2
        injection h with h
        subst h
        rw [fmt2_ok hm, fmt2_ok hm2]
        exact ins_con _ _ _ _
      · cases h
    · cases h
  · cases h
def castS (xs : List Ar) : Option Res := match xs with
  | [.v a, .v b, .v (.int .i64 m), .v c] => match fmt2 a with
    | some (E, P) => match fmt2 b with
      | some (G, Q) => some (⟨none, .tuple #[wordV (castW E P G Q m (wX c)), .int .i64 (castF E P G Q m (wX c)), .int .i64 0]⟩ : Res)
      | none => none
    | none => none
  | _ => none
def castP (xs : List Ar) : Bool := match xs with
  | [.v a, .v b, .v (.int .i64 m), .v c] => match fmt2 a with
    | some (E, P) => match fmt2 b with
      | some (G, Q) => wB c && (decide (Fmt G Q) && (decide (0 ≤ m ∧ m ≤ 4) && vErr E P (wX c) == 0))
      | none => false
    | none => false
  | _ => false
def castO : CF → St → Option (Value × St) := oracle 27 (conSpec TR castP castS)
theorem castO_ok : RunOkE Tryz.prog castO := con_oracle numG gTR roTR2 fun xs R h hp => by
  unfold castS at h
  split at h
  · split at h
    · rename_i hm
      split at h
      · rename_i hm2
        injection h with h
        subst h
        unfold castP at hp
        simp only [hm, hm2, Bool.and_eq_true, decide_eq_true_eq, beq_iff_eq] at hp
        obtain ⟨hc, hG, hmd, ec⟩ := hp
        obtain ⟨hF, c1, c2, _⟩ := vErr_zero ec
        rw [fmt2_ok hm, fmt2_ok hm2, wB_eq hc, wX_wordV]
        exact cast_con hF hG hmd.1 hmd.2 (wX_range hc).1 c1 c2
      · cases h
    · cases h
  · cases h
end Go.Proofs.YtebibadldcempaaGreatDoor
