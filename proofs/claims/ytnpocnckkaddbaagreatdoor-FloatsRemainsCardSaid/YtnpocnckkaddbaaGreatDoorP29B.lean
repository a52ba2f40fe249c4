/-
  Add of numbers: its contract. The difference of two numbers, each at most twice the other one, is a value.
-/
import Derived.Test.YtnpocnckkaddbaaGreatDoorP28A
import Derived.Test.YtnpocnckkaddbaaGreatDoorP29A
set_option linter.unusedVariables false
set_option linter.unusedSimpArgs false
set_option linter.unusedSectionVars false
namespace Go.Proofs.YtnpocnckkaddbaaGreatDoor
open Go.RowKit Go.Shelf Go.Canon

/-! what numbers are -/
theorem siz_range {E P X : Int} (h0 : 0 ≤ X) (h1 : X < 2 * signOf E P) : 0 ≤ sizW E P X ∧ sizW E P X < signOf E P := by
  unfold sizW sizeOf'; split <;> omega
theorem kind_two {E P X : Int} (h : kindOf E P X = 2) : sizW E P X < infOf E P := by
  unfold kindOf at h
  split at h
  · omega
  · split at h
    · omega
    · split at h
      · assumption
      · split at h <;> omega
theorem val_form {E P X : Int} (h : Fmt E P) (h0 : 0 ≤ X) (h1 : X < 2 * signOf E P) (hk : kindOf E P X = 1 ∨ kindOf E P X = 2) :
    ∃ (d : Int) (e : Nat), ((opK E P X).natAbs : Int) = d * 2 ^ e ∧ 0 ≤ d ∧ d < 2 ^ P.toNat ∧ (e : Int) ≤ 2 * biasOf E - 1 := by
  have hbr := bias_range h.1 h.2.1
  rcases hk with hk | hk
  · refine ⟨0, 0, ?_, by omega, p2pos _, by omega⟩
    unfold opK
    rw [hk]; simp
  · have hs := siz_range (E := E) (P := P) h0 h1
    have hlt := kind_two hk
    obtain ⟨f0, f1, f2, d0, d1, _⟩ := field_facts h hs.1 hlt
    have hbe := bias_eq h.1
    have hP2 : (2 : Int) ^ P.toNat = 2 * 2 ^ (P - 1).toNat := by
      have := h.2.2.1
      rw [show P.toNat = (P - 1).toNat + 1 by omega, Int.pow_succ]; omega
    have hl : 0 ≤ liftOf P (sizW E P X) ∧ liftOf P (sizW E P X) ≤ 2 * biasOf E - 1 := by unfold liftOf; split <;> omega
    refine ⟨digOf P (sizW E P X), (liftOf P (sizW E P X)).toNat, ?_, d0, by omega, by omega⟩
    have hm : 0 ≤ magOf P (sizW E P X) := Int.mul_nonneg d0 (Int.le_of_lt (p2pos _))
    unfold opK
    rw [if_pos hk]
    show _ = magOf P (sizW E P X)
    unfold sgM
    split <;> omega
theorem form_lt {E P d : Int} {e : Nat} (h : Fmt E P) (h0 : 0 ≤ d) (h1 : d < 2 ^ P.toNat) (h2 : (e : Int) ≤ 2 * biasOf E - 1) : d * 2 ^ e < 2 ^ (2 * biasOf E - 1 + P).toNat := by
  have := h.2.2.1
  have h3 : d * 2 ^ e < 2 ^ P.toNat * 2 ^ e := Int.mul_lt_mul_of_pos_right h1 (p2pos e)
  rw [← Int.pow_add] at h3
  have h4 := pow_split (show P.toNat + e ≤ (2 * biasOf E - 1 + P).toNat by omega)
  have h5 := Int.mul_le_mul_of_nonneg_right (show (1 : Int) ≤ 2 ^ ((2 * biasOf E - 1 + P).toNat - (P.toNat + e)) from p2pos _) (Int.le_of_lt (p2pos (P.toNat + e)))
  omega
theorem max_sml {E P : Int} (h : Fmt E P) : (2 : Int) * 2 ^ (2 * biasOf E - 1 + P).toNat < sml := by
  have hbr := bias_range h.1 h.2.1
  obtain ⟨f1, f2, f3, f4, f5⟩ := h
  unfold sml
  have h4 := pow_split (show (2 * biasOf E - 1 + P).toNat ≤ 3000 by omega)
  have h5 := pow_split (show (3000 : Nat) ≤ 60000 by omega)
  have h6 : (4 : Int) ≤ 2 ^ (60000 - 3000) := by
    have := pow_split (show (2 : Nat) ≤ 60000 - 3000 by omega)
    have h7 := p2pos (60000 - 3000 - 2)
    have h8 : (2 : Int) ^ 2 = 4 := by decide
    omega
  have h7 := p2pos (2 * biasOf E - 1 + P).toNat
  have h8 := Int.mul_le_mul_of_nonneg_right (show (1 : Int) ≤ 2 ^ (3000 - (2 * biasOf E - 1 + P).toNat) from p2pos _) (Int.le_of_lt h7)
  have h9 := Int.mul_le_mul_of_nonneg_right h6 (Int.le_of_lt (p2pos 3000))
  have h10 := p2pos 3000
  generalize (2 : Int) ^ 3000 = a at *
  generalize (2 : Int) ^ 60000 = b at *
  generalize (2 : Int) ^ (2 * biasOf E - 1 + P).toNat = c at *
  omega
theorem opK_lt {E P X : Int} (h : Fmt E P) (h0 : 0 ≤ X) (h1 : X < 2 * signOf E P) (hk : kindOf E P X = 1 ∨ kindOf E P X = 2) : ((opK E P X).natAbs : Int) < 2 ^ (2 * biasOf E - 1 + P).toNat := by
  obtain ⟨d, e, h2, h3, h4, h5⟩ := val_form h h0 h1 hk
  rw [h2]; exact form_lt h h3 h4 h5

/-- the difference of numbers, each at most twice the other one -/
theorem near_form {E P A B da db : Int} {ea eb : Nat} (h : Fmt E P) (a0 : 0 ≤ A) (b0 : 0 ≤ B) (hA : A = da * 2 ^ ea) (hB : B = db * 2 ^ eb) (da1 : da < 2 ^ P.toNat) (db1 : db < 2 ^ P.toNat)
    (ha : A ≤ 2 * B) (hb : B ≤ 2 * A) : ∃ (d : Int) (e : Nat), ((A - B).natAbs : Int) = d * 2 ^ e ∧ d < 2 ^ P.toNat := by
  have hle : ((A - B).natAbs : Int) ≤ A ∧ ((A - B).natAbs : Int) ≤ B := by omega
  by_cases hab : ea ≤ eb
  · obtain ⟨j, rfl⟩ := Nat.exists_eq_add_of_le hab
    have e1 : B = (db * 2 ^ j) * 2 ^ ea := by rw [hB, Int.mul_assoc, ← Int.pow_add]; congr 2; omega
    have e2 : ((A - B).natAbs : Int) = ((da - db * 2 ^ j).natAbs : Int) * 2 ^ ea := by
      have e3 : A - B = (da - db * 2 ^ j) * 2 ^ ea := by rw [hA, e1, Int.sub_mul]
      rw [e3, Int.natAbs_mul]
      have : (((2 : Int) ^ ea).natAbs : Int) = 2 ^ ea := by have := p2pos ea; omega
      push_cast
      rw [← this]; simp
    refine ⟨_, ea, e2, ?_⟩
    have : ((da - db * 2 ^ j).natAbs : Int) ≤ da := by
      apply Int.le_of_mul_le_mul_right (a := 2 ^ ea) _ (p2pos ea)
      rw [← e2, ← hA]; exact hle.1
    omega
  · obtain ⟨j, rfl⟩ := Nat.exists_eq_add_of_le (show eb ≤ ea by omega)
    have e1 : A = (da * 2 ^ j) * 2 ^ eb := by rw [hA, Int.mul_assoc, ← Int.pow_add]; congr 2; omega
    have e2 : ((A - B).natAbs : Int) = ((da * 2 ^ j - db).natAbs : Int) * 2 ^ eb := by
      have e3 : A - B = (da * 2 ^ j - db) * 2 ^ eb := by rw [hB, e1, Int.sub_mul]
      rw [e3, Int.natAbs_mul]
      have : (((2 : Int) ^ eb).natAbs : Int) = 2 ^ eb := by have := p2pos eb; omega
      push_cast
      rw [← this]; simp
    refine ⟨_, eb, e2, ?_⟩
    have : ((da * 2 ^ j - db).natAbs : Int) ≤ db := by
      apply Int.le_of_mul_le_mul_right (a := 2 ^ eb) _ (p2pos eb)
      rw [← e2, ← hB]; exact hle.2
    omega

/-! the contracts -/
theorem upK_same (K k : Int) : upK K k k = K := by unfold upK; rw [show (k - min k k) = 0 by omega]; simp
theorem sumK_eq (E P K L : Int) : sumK E P K L = K + L := by unfold sumK; rw [upK_same, upK_same]
theorem fi_eq (E P : Int) : fi E P = fineOf E P := by unfold fi; omega
/-- the word of a sum -/
def arW (E P m K L : Int) (na nb : Bool) : Int := if K + L = 0 then (if (if na = nb then na else decide (m = 4)) = true then signOf E P else 0) else rndW E P m (K + L) (fineOf E P)
def arF (E P m K L : Int) : Int := if K + L = 0 then 0 else rndF E P m (K + L) (fineOf E P)
theorem groundOp (E P m X Y : Int) : ∀ x, Ar.v x ∈ [Ar.v (fmtV E P), .v (.int .i64 m), .v (wordV X), .v (wordV Y)] → ground 9 x = true := fun x hx => by
  simp at hx; rcases hx with rfl | rfl | rfl | rfl <;> rfl

theorem acsE_ok {l : List (Bool × Bool)} (hl : ∀ c ∈ l, c.1 = c.2) : ∀ n, ∀ c ∈ acsE n l, c.1 = c.2
  | 0 => hl
  | n + 1 => by unfold acsE; simp only [List.forall_mem_cons]; exact ⟨trivial, acsE_ok hl n⟩
theorem acsW_ok {E P X : Int} {neg : Bool} (h : Fmt E P) (h0 : 0 ≤ X) (h1 : X < 2 * signOf E P) (hn : negOf E P X = neg) {l : List (Bool × Bool)} (hl : ∀ c ∈ l, c.1 = c.2) : ∀ c ∈ acsW E P X neg l, c.1 = c.2 := by
  have hs := sign_range h
  have bX : wB (wordV X) = true := wB_wordV h0 (by omega)
  have hw : IntKind.i64.wrap (E + P) = E + P := wrapI (by obtain ⟨a, b, c, d, e⟩ := h; omega)
  have h2 : (2 : Int) ^ (E + P).toNat = 2 * signOf E P := by
    obtain ⟨a, b, c, d, e⟩ := h
    unfold signOf
    rw [show (E + P).toNat = (E + P - 1).toNat + 1 by omega, Int.pow_succ]; omega
  have hz : X / (2 * signOf E P) = 0 := Int.ediv_eq_zero_of_lt h0 h1
  unfold acsW
  simp only [List.forall_mem_cons, wX_wordV, hw, h2, bX, hz]
  refine ⟨trivial, trivial, hn, by simp [h, h1], by simp, ?_, trivial, trivial, trivial, trivial, trivial, hl⟩
  rw [decide_eq_true (show 0 ≤ E + P ∧ E + P ≤ 127 by obtain ⟨a, b, c, d, e⟩ := h; omega)]; rfl
theorem acsN_ok {E P X : Int} (hk : kindOf E P X = 1 ∨ kindOf E P X = 2) {l : List (Bool × Bool)} (hl : ∀ c ∈ l, c.1 = c.2) : ∀ c ∈ acsN E P X l, c.1 = c.2 := by
  have e5 : (kindOf E P X == 5) = false := by simp; omega
  have e4 : (kindOf E P X == 4) = false := by simp; omega
  unfold acsN dKind
  simp only [List.forall_mem_cons, wX_wordV]
  exact ⟨e5, trivial, e5, trivial, e4, trivial, trivial, trivial, trivial, hl⟩
theorem acs1_ok {E P m X Y : Int} {na nb : Bool} (h : Fmt E P) (m0 : 0 ≤ m) (m1 : m ≤ 4) (x0 : 0 ≤ X) (x1 : X < 2 * signOf E P) (y0 : 0 ≤ Y) (y1 : Y < 2 * signOf E P) (kx : kindOf E P X = 1 ∨ kindOf E P X = 2) (ky : kindOf E P Y = 1 ∨ kindOf E P Y = 2)
    (hna : negOf E P X = na) (hnb : negOf E P Y = nb) : ∀ c ∈ acs1 E P m X Y na nb, c.1 = c.2 := by
  unfold acs1
  simp only [List.forall_mem_cons]
  refine ⟨trivial, acsN_ok ky (acsN_ok kx ?_)⟩
  unfold acs0
  simp only [List.forall_mem_cons]
  refine ⟨trivial, trivial, acsW_ok h y0 y1 hnb (acsW_ok h x0 x1 hna ?_)⟩
  simp only [List.forall_mem_cons]
  refine ⟨trivial, trivial, trivial, by simp; omega, by simp; omega, by unfold chkE; rw [if_pos h]; simp, trivial, fun c hc => by cases hc⟩
theorem acs2_ok {E P X Y K L : Int} {nz : Bool} (h : Fmt E P) (kx : kindOf E P X = 1 ∨ kindOf E P X = 2) (ky : kindOf E P Y = 1 ∨ kindOf E P Y = 2) (hK : (K.natAbs : Int) < 2 ^ (2 * biasOf E - 1 + P).toNat) (hL : (L.natAbs : Int) < 2 ^ (2 * biasOf E - 1 + P).toNat)
    (hnz : (K + L != 0) = nz) {l : List (Bool × Bool)} (hl : ∀ c ∈ l, c.1 = c.2) : ∀ c ∈ acs2 E P X Y K L nz l, c.1 = c.2 := by
  have hm := max_sml h
  have hbr := bias_range h.1 h.2.1
  have hf : -1200 ≤ fineOf E P ∧ fineOf E P ≤ 0 := ⟨by have := h.2.2.2.1; unfold fineOf; omega, fine_le h⟩
  have e3x : (kindOf E P X == 3) = false := by simp; omega
  have e3y : (kindOf E P Y == 3) = false := by simp; omega
  have hsg : (sgI (K + L) != 0) = nz := by
    rw [← hnz]
    unfold sgI
    by_cases hz : K + L = 0
    · rw [if_pos hz, hz]
    · rw [if_neg hz]
      have : (K + L != 0) = true := by simpa using hz
      rw [this]
      split <;> rfl
  unfold acs2 dKind
  simp only [List.forall_mem_cons, wX_wordV, sumK_eq, upK_same, fi_eq]
  refine ⟨hsg, trivial, by simp, trivial, ?_, by simp, by simp, e3y, trivial, e3x, trivial, e3x, trivial, trivial, trivial, trivial, trivial, hl⟩
  rw [decide_eq_true (show inB K (fineOf E P) from ⟨by omega, by omega, by omega, by omega⟩), decide_eq_true (show inB L (fineOf E P) from ⟨by omega, by omega, by omega, by omega⟩)]; rfl
theorem acs3_ok {E P m K L : Int} (h : Fmt E P) (m0 : 0 ≤ m) (m1 : m ≤ 4) (hK : (K.natAbs : Int) < 2 ^ (2 * biasOf E - 1 + P).toNat) (hL : (L.natAbs : Int) < 2 ^ (2 * biasOf E - 1 + P).toNat)
    {l : List (Bool × Bool)} (hl : ∀ c ∈ l, c.1 = c.2) : ∀ c ∈ acs3 E P m K L l, c.1 = c.2 := by
  have hm := max_sml h
  have hbr := bias_range h.1 h.2.1
  have hf : -1200 ≤ fineOf E P ∧ fineOf E P ≤ 0 := ⟨by have := h.2.2.2.1; unfold fineOf; omega, fine_le h⟩
  unfold acs3
  simp only [List.forall_mem_cons, sumK_eq, fi_eq]
  refine ⟨?_, by simp, hl⟩
  rw [decide_eq_true h, decide_eq_true (show 0 ≤ m ∧ m ≤ 4 from ⟨m0, m1⟩), decide_eq_true (show inB (K + L) (fineOf E P) ∧ -40000 ≤ fineOf E P from ⟨⟨by omega, by omega, by omega, by omega⟩, by omega⟩)]; rfl
theorem acs4_ok {E P m : Int} {m4 eq : Bool} (h : Fmt E P) (hm4 : (m == 4) = m4) {l : List (Bool × Bool)} (hl : ∀ c ∈ l, c.1 = c.2) : ∀ c ∈ acs4 E P m m4 eq l, c.1 = c.2 := by
  have hs := sign_range h
  have b0 : wB zeroW = true := rfl
  have x0 : wX zeroW = 0 := rfl
  unfold acs4
  simp only [List.forall_mem_cons, b0, x0]
  exact ⟨by simp [h, hs.1], trivial, trivial, trivial, hm4, trivial, hl⟩
theorem addN_con {E P m X Y : Int} (h : Fmt E P) (m0 : 0 ≤ m) (m1 : m ≤ 4) (x0 : 0 ≤ X) (x1 : X < 2 * signOf E P) (y0 : 0 ≤ Y) (y1 : Y < 2 * signOf E P) (kx : kindOf E P X = 1 ∨ kindOf E P X = 2) (ky : kindOf E P Y = 1 ∨ kindOf E P Y = 2) :
    Con Tryz.prog TR 8 [.v (fmtV E P), .v (.int .i64 m), .v (wordV X), .v (wordV Y)] ⟨none, .tuple #[wordV (arW E P m (opK E P X) (opK E P Y) (negOf E P X) (negOf E P Y)), .int .i64 (arF E P m (opK E P X) (opK E P Y)), .int .i64 0]⟩ := by
  have hK := opK_lt h x0 x1 kx
  have hL0 := opK_lt h y0 y1 ky
  have hL : (((opK E P Y)).natAbs : Int) < 2 ^ (2 * biasOf E - 1 + P).toNat := by omega
  have g := groundOp E P m X Y
  have ok := nest_ok arithC_ok 6
  have dX : dK E P X = opK E P X := by unfold dK; rw [wX_wordV]
  have dY : dK E P Y = opK E P Y := by unfold dK; rw [wX_wordV]
  have z0 : wX zeroW = 0 := rfl
  have base : ∀ na nb, negOf E P X = na → negOf E P Y = nb → ∀ c ∈ acs1 E P m X Y na nb, c.1 = c.2 := by
    intro na nb e1 e2
    exact acs1_ok h m0 m1 x0 x1 y0 y1 kx ky e1 e2
  by_cases hz : opK E P X + (opK E P Y) = 0
  · have hnz : (opK E P X + (opK E P Y) != 0) = false := by simpa using hz
    have vF : arF E P m (opK E P X) (opK E P Y) = 0 := by unfold arF; rw [if_pos hz]
    rw [vF]
    unfold arW
    rw [if_pos hz]
    cases hna : negOf E P X <;> cases hnb : negOf E P Y <;> cases hm4 : (m == 4)
    · have hrun := add_ff_f E P m X Y
      rw [dX, dY] at hrun
      have hm : decide (m = 4) = false := by simpa using hm4
      refine con_plain ok hrun (acsE_ok (acs4_ok h hm4 (acs2_ok h kx ky hK hL hnz (base _ _ hna hnb))) 6) (by simp) g ?_ rfl
      simp [hm, z0]
    · have hrun := add_ff_t E P m X Y
      rw [dX, dY] at hrun
      have hm : decide (m = 4) = true := by simpa using hm4
      refine con_plain ok hrun (acsE_ok (acs4_ok h hm4 (acs2_ok h kx ky hK hL hnz (base _ _ hna hnb))) 6) (by simp) g ?_ rfl
      simp [hm, z0]
    · have hrun := add_ft_f E P m X Y
      rw [dX, dY] at hrun
      have hm : decide (m = 4) = false := by simpa using hm4
      refine con_plain ok hrun (acsE_ok (acs4_ok h hm4 (acs2_ok h kx ky hK hL hnz (base _ _ hna hnb))) 6) (by simp) g ?_ rfl
      simp [hm, z0]
    · have hrun := add_ft_t E P m X Y
      rw [dX, dY] at hrun
      have hm : decide (m = 4) = true := by simpa using hm4
      refine con_plain ok hrun (acsE_ok (acs4_ok h hm4 (acs2_ok h kx ky hK hL hnz (base _ _ hna hnb))) 6) (by simp) g ?_ rfl
      simp [hm, z0]
    · have hrun := add_tf_f E P m X Y
      rw [dX, dY] at hrun
      have hm : decide (m = 4) = false := by simpa using hm4
      refine con_plain ok hrun (acsE_ok (acs4_ok h hm4 (acs2_ok h kx ky hK hL hnz (base _ _ hna hnb))) 6) (by simp) g ?_ rfl
      simp [hm, z0]
    · have hrun := add_tf_t E P m X Y
      rw [dX, dY] at hrun
      have hm : decide (m = 4) = true := by simpa using hm4
      refine con_plain ok hrun (acsE_ok (acs4_ok h hm4 (acs2_ok h kx ky hK hL hnz (base _ _ hna hnb))) 6) (by simp) g ?_ rfl
      simp [hm, z0]
    · have hrun := add_tt_f E P m X Y
      rw [dX, dY] at hrun
      have hm : decide (m = 4) = false := by simpa using hm4
      refine con_plain ok hrun (acsE_ok (acs4_ok h hm4 (acs2_ok h kx ky hK hL hnz (base _ _ hna hnb))) 6) (by simp) g ?_ rfl
      simp [hm, z0]
    · have hrun := add_tt_t E P m X Y
      rw [dX, dY] at hrun
      have hm : decide (m = 4) = true := by simpa using hm4
      refine con_plain ok hrun (acsE_ok (acs4_ok h hm4 (acs2_ok h kx ky hK hL hnz (base _ _ hna hnb))) 6) (by simp) g ?_ rfl
      simp [hm, z0]
  · have hnz : (opK E P X + (opK E P Y) != 0) = true := by simpa using hz
    have vF : arF E P m (opK E P X) (opK E P Y) = rndF E P m (opK E P X + (opK E P Y)) (fineOf E P) := by unfold arF; rw [if_neg hz]
    have vW : ∀ na nb, arW E P m (opK E P X) (opK E P Y) na nb = rndW E P m (opK E P X + (opK E P Y)) (fineOf E P) := fun na nb => by unfold arW; rw [if_neg hz]
    rw [vF, vW]
    cases hna : negOf E P X <;> cases hnb : negOf E P Y
    · have hrun := add_ff_n E P m X Y
      rw [dX, dY] at hrun
      refine con_plain ok hrun (acsE_ok (acs3_ok h m0 m1 hK hL (acs2_ok h kx ky hK hL hnz (base _ _ hna hnb))) 5) (by simp) g ?_ rfl
      rw [sumK_eq, fi_eq]
    · have hrun := add_ft_n E P m X Y
      rw [dX, dY] at hrun
      refine con_plain ok hrun (acsE_ok (acs3_ok h m0 m1 hK hL (acs2_ok h kx ky hK hL hnz (base _ _ hna hnb))) 5) (by simp) g ?_ rfl
      rw [sumK_eq, fi_eq]
    · have hrun := add_tf_n E P m X Y
      rw [dX, dY] at hrun
      refine con_plain ok hrun (acsE_ok (acs3_ok h m0 m1 hK hL (acs2_ok h kx ky hK hL hnz (base _ _ hna hnb))) 5) (by simp) g ?_ rfl
      rw [sumK_eq, fi_eq]
    · have hrun := add_tt_n E P m X Y
      rw [dX, dY] at hrun
      refine con_plain ok hrun (acsE_ok (acs3_ok h m0 m1 hK hL (acs2_ok h kx ky hK hL hnz (base _ _ hna hnb))) 5) (by simp) g ?_ rfl
      rw [sumK_eq, fi_eq]
end Go.Proofs.YtnpocnckkaddbaaGreatDoor
