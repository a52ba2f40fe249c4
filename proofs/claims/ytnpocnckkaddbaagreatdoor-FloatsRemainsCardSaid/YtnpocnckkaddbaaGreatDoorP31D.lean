/-
  Remainders of numbers: the contract; the word tells the number that is left, exactly.
-/
import Derived.Test.YtnpocnckkaddbaaGreatDoorP31C
import Derived.Test.YtnpocnckkaddbaaGreatDoorP29B
set_option linter.unusedVariables false
set_option linter.unusedSimpArgs false
set_option linter.unusedSectionVars false
namespace Go.Proofs.YtnpocnckkaddbaaGreatDoor
open Go.RowKit Go.Shelf Go.Canon

theorem max_qs {E P : Int} (h : Fmt E P) : (8 : Int) * 2 ^ (2 * biasOf E - 1 + P).toNat < qs := by
  have hbr := bias_range h.1 h.2.1
  obtain ⟨f1, f2, f3, f4, f5⟩ := h
  have h1 := p2_mono (show (2 * biasOf E - 1 + P).toNat + 4 ≤ 2400 by omega)
  rw [Int.pow_add] at h1
  have h2 := p2pos (2 * biasOf E - 1 + P).toNat
  unfold qs
  generalize (2 : Int) ^ (2 * biasOf E - 1 + P).toNat = x at *
  have h3 : (2 : Int) ^ 4 = 16 := by decide
  omega
theorem op_ne {E P X : Int} (h : Fmt E P) (h0 : 0 ≤ X) (h1 : X < 2 * signOf E P) (hk : kindOf E P X = 2) : opK E P X ≠ 0 := by
  have hs := siz_range (E := E) (P := P) h0 h1
  have hlt := kind_two hk
  have hz : sizW E P X ≠ 0 := fun h => by
    unfold kindOf at hk; rw [if_pos h] at hk; omega
  obtain ⟨f0, f1, f2, d0, d1, fm⟩ := field_facts h hs.1 hlt
  have hd : 0 < digOf P (sizW E P X) := by
    have hp := p2pos (P - 1).toNat
    unfold digOf
    split
    · rw [Int.sub_mul, Int.one_mul]; omega
    · omega
  have hm : 0 < magOf P (sizW E P X) := Int.mul_pos hd (p2pos _)
  unfold opK
  rw [if_pos hk]
  show sgM _ (magOf P (sizW E P X)) ≠ 0
  unfold sgM
  split <;> omega
theorem op_zero {E P X : Int} (hk : kindOf E P X = 1) : opK E P X = 0 := by
  unfold opK
  rw [if_neg (by omega), if_neg (by omega), if_neg (by omega)]
theorem reQ_size {K L : Int} (hL : L ≠ 0) : ((L * reQ K L).natAbs : Int) ≤ 2 * K.natAbs ∧ ((reQ K L).natAbs : Int) ≤ 2 * K.natAbs := by
  obtain ⟨h1, h2⟩ := rm_near (A := K) hL
  have e : L * reQ K L = K - rmR K L := by unfold rmR reQ; omega
  have h3 : ((L * reQ K L).natAbs : Int) ≤ 2 * K.natAbs := by rw [e]; omega
  refine ⟨h3, ?_⟩
  rw [Int.natAbs_mul] at h3
  have := Nat.mul_le_mul_right (reQ K L).natAbs (show 1 ≤ L.natAbs by omega)
  omega
theorem reR_eq (f K L : Int) : reR f K L = rmR K L ∧ reE f = f := by
  unfold reR reE rmR reQ
  rw [show f + 0 = f by omega, upK_same, upK_same, show min f f = f by omega]
  exact ⟨rfl, rfl⟩
/-- the word of a remainder, its flags -/
def rmW (E P K L : Int) (na : Bool) : Int := if rmR K L = 0 then (if na = true then signOf E P else 0) else rndW E P 0 (rmR K L) (fineOf E P)
def rmF (E P K L : Int) : Int := if rmR K L = 0 then 0 else rndF E P 0 (rmR K L) (fineOf E P)
theorem groundRm (E P X Y : Int) : ∀ x, Ar.v x ∈ [Ar.v (fmtV E P), .v (wordV X), .v (wordV Y)] → ground 9 x = true := fun x hx => by
  simp at hx; rcases hx with rfl | rfl | rfl <;> rfl
theorem rcs5_ok {l : List (Bool × Bool)} (hl : ∀ c ∈ l, c.1 = c.2) : ∀ c ∈ rcs5 l, c.1 = c.2 := by
  unfold rcs5; simp only [List.forall_mem_cons]; exact ⟨trivial, trivial, trivial, trivial, trivial, hl⟩
theorem rcsA_ok {E P X Y : Int} (kx : kindOf E P X = 1 ∨ kindOf E P X = 2) (ky : kindOf E P Y = 2) {l : List (Bool × Bool)} (hl : ∀ c ∈ l, c.1 = c.2) : ∀ c ∈ rcsA E P X Y l, c.1 = c.2 := by
  have e1 : (kindOf E P X == 3) = false := by simp; omega
  unfold rcsA dKind
  simp only [List.forall_mem_cons, wX_wordV, ky, e1]
  exact ⟨rfl, trivial, rfl, trivial, trivial, rcs5_ok hl⟩
theorem rcsI_ok {E P X Y : Int} (h : Fmt E P) (kx : kindOf E P X = 1 ∨ kindOf E P X = 2) (ky : kindOf E P Y = 1) {l : List (Bool × Bool)} (hl : ∀ c ∈ l, c.1 = c.2) : ∀ c ∈ rcsI E P X Y l, c.1 = c.2 := by
  have e1 : (kindOf E P X == 3) = false := by simp; omega
  unfold rcsI dKind
  simp only [List.forall_mem_cons, wX_wordV, ky, e1]
  exact ⟨decide_eq_true h, rfl, trivial, trivial, rcs5_ok hl⟩
theorem rcsB_ok {E P K L : Int} {z : Bool} (h : Fmt E P) (hK : (K.natAbs : Int) < 2 ^ (2 * biasOf E - 1 + P).toNat) (hL : (L.natAbs : Int) < 2 ^ (2 * biasOf E - 1 + P).toNat) (h0 : L ≠ 0) (hz : decide (rmR K L = 0) = z)
    {l : List (Bool × Bool)} (hl : ∀ c ∈ l, c.1 = c.2) : ∀ c ∈ rcsB (fineOf E P) K L z l, c.1 = c.2 := by
  have hm := max_sml h
  have hq := max_qs h
  have hbr := bias_range h.1 h.2.1
  have hf : -1200 ≤ fineOf E P ∧ fineOf E P ≤ 0 := ⟨by have := h.2.2.2.1; unfold fineOf; omega, fine_le h⟩
  obtain ⟨s1, s2⟩ := reQ_size (K := K) h0
  have e := (reR_eq (fineOf E P) K L).1
  have o1 : (1 : Int) < qs := p2_one
  have hsg : (sgI (rmR K L) == 0) = z := by
    rw [← hz]
    unfold sgI
    by_cases h0 : rmR K L = 0
    · rw [if_pos h0, decide_eq_true h0]; rfl
    · rw [if_neg h0, decide_eq_false h0]; split <;> rfl
  have q1 : -qs < quK K L ∧ quK K L < qs := by unfold quK; split <;> omega
  have q2 : 0 < quD L ∧ quD L < qs := by unfold quD; omega
  have q3 : -qs < 2 * quK K L + quD L ∧ 2 * quK K L + quD L < qs := by unfold quK quD; split <;> omega
  generalize hQ : reQ K L = Q at *
  unfold rcsB
  simp only [List.forall_mem_cons, e, hQ]
  refine ⟨hsg, trivial, nP_ok _, trivial, ?_, nP_ok _, nP_ok _, ?_, nP_ok _, nP_ok _, ?_, nP_ok _, trivial, ?_, nP_ok _, nP_ok _, hl⟩
  · rw [show fineOf E P + 0 = fineOf E P by omega]
    exact pP_ok ⟨by omega, by omega⟩ ⟨by omega, by omega⟩ ⟨by omega, by omega⟩
  · rw [decide_eq_true (show inQ L 1 (fineOf E P) from ⟨by omega, by omega, by omega, o1, by omega, by omega⟩), decide_eq_true (show inQ Q 1 0 from ⟨by omega, by omega, by omega, o1, by omega, by omega⟩)]; rfl
  · exact decide_eq_true ⟨by omega, ⟨q1.1, q1.2, q2.1, q2.2, by omega, by omega⟩, ⟨q3.1, q3.2, q2.1, q2.2, by omega, by omega⟩⟩
  · rw [decide_eq_true (show inQ K 1 (fineOf E P) from ⟨by omega, by omega, by omega, o1, by omega, by omega⟩), decide_eq_true (show inQ L 1 (fineOf E P) from ⟨by omega, by omega, by omega, o1, by omega, by omega⟩), decide_eq_true h0]; rfl
theorem rem_con {E P X Y : Int} (h : Fmt E P) (x0 : 0 ≤ X) (x1 : X < 2 * signOf E P) (y0 : 0 ≤ Y) (y1 : Y < 2 * signOf E P) (kx : kindOf E P X = 1 ∨ kindOf E P X = 2) (ky : kindOf E P Y = 1 ∨ kindOf E P Y = 2) :
    Con Tryz.prog TR 16 [.v (fmtV E P), .v (wordV X), .v (wordV Y)] ⟨none, .tuple #[wordV (if kindOf E P Y = 1 then quietOf E P else rmW E P (opK E P X) (opK E P Y) (negOf E P X)), .int .i64 (if kindOf E P Y = 1 then 1 else rmF E P (opK E P X) (opK E P Y)), .int .i64 0]⟩ := by
  have g := groundRm E P X Y
  have ok := nest_ok remC_ok 6
  have dX : dK E P X = opK E P X := by unfold dK; rw [wX_wordV]
  have dY : dK E P Y = opK E P Y := by unfold dK; rw [wX_wordV]
  have z0 : wX zeroW = 0 := rfl
  have base : ∀ na nb, negOf E P X = na → negOf E P Y = nb → ∀ c ∈ acs1 E P 0 X Y na nb, c.1 = c.2 := by
    intro na nb e1 e2
    exact acs1_ok h (by omega) (by omega) x0 x1 y0 y1 kx ky e1 e2
  by_cases hi : kindOf E P Y = 1
  · rw [if_pos hi, if_pos hi]
    cases hna : negOf E P X <;> cases hnb : negOf E P Y
    · exact con_plain ok (rem_ff_i E P X Y) (acsE_ok (rcsI_ok h kx hi (base _ _ hna hnb)) 6) (by simp) g rfl rfl
    · exact con_plain ok (rem_ft_i E P X Y) (acsE_ok (rcsI_ok h kx hi (base _ _ hna hnb)) 6) (by simp) g rfl rfl
    · exact con_plain ok (rem_tf_i E P X Y) (acsE_ok (rcsI_ok h kx hi (base _ _ hna hnb)) 6) (by simp) g rfl rfl
    · exact con_plain ok (rem_tt_i E P X Y) (acsE_ok (rcsI_ok h kx hi (base _ _ hna hnb)) 6) (by simp) g rfl rfl
  · have ky2 : kindOf E P Y = 2 := by omega
    have hne := op_ne h y0 y1 ky2
    have hK := opK_lt h x0 x1 kx
    have hL := opK_lt h y0 y1 ky
    rw [if_neg hi, if_neg hi]
    have hrmz := (rm_near (A := opK E P X) hne).2
    by_cases hz : rmR (opK E P X) (opK E P Y) = 0
    · have vF : rmF E P (opK E P X) (opK E P Y) = 0 := by unfold rmF; rw [if_pos hz]
      rw [vF]
      unfold rmW
      rw [if_pos hz]
      have b0 : wB zeroW = true := rfl
      have hsg := sign_range h
      have hzz : ∀ l : List (Bool × Bool), (∀ c ∈ l, c.1 = c.2) → ∀ c ∈ rcsZ E P l, c.1 = c.2 := fun l hl => by
        unfold rcsZ
        simp only [List.forall_mem_cons, b0, z0]
        exact ⟨by simp [h, hsg.1], hl⟩
      cases hna : negOf E P X <;> cases hnb : negOf E P Y
      · have hrun := rem_ff_z E P X Y
        rw [dX, dY] at hrun
        exact con_plain ok hrun (acsE_ok (hzz _ (rcsB_ok h hK hL hne (decide_eq_true hz) (rcsA_ok kx ky2 (base _ _ hna hnb)))) 5) (by simp) g (by simp [z0]) rfl
      · have hrun := rem_ft_z E P X Y
        rw [dX, dY] at hrun
        exact con_plain ok hrun (acsE_ok (hzz _ (rcsB_ok h hK hL hne (decide_eq_true hz) (rcsA_ok kx ky2 (base _ _ hna hnb)))) 5) (by simp) g (by simp [z0]) rfl
      · have hrun := rem_tf_z E P X Y
        rw [dX, dY] at hrun
        exact con_plain ok hrun (acsE_ok (hzz _ (rcsB_ok h hK hL hne (decide_eq_true hz) (rcsA_ok kx ky2 (base _ _ hna hnb)))) 5) (by simp) g (by simp [z0]) rfl
      · have hrun := rem_tt_z E P X Y
        rw [dX, dY] at hrun
        exact con_plain ok hrun (acsE_ok (hzz _ (rcsB_ok h hK hL hne (decide_eq_true hz) (rcsA_ok kx ky2 (base _ _ hna hnb)))) 5) (by simp) g (by simp [z0]) rfl
    · have vF : rmF E P (opK E P X) (opK E P Y) = rndF E P 0 (rmR (opK E P X) (opK E P Y)) (fineOf E P) := by unfold rmF; rw [if_neg hz]
      have vW : ∀ na, rmW E P (opK E P X) (opK E P Y) na = rndW E P 0 (rmR (opK E P X) (opK E P Y)) (fineOf E P) := fun na => by unfold rmW; rw [if_neg hz]
      rw [vF, vW]
      have hm := max_sml h
      have hbr := bias_range h.1 h.2.1
      have hf : -1200 ≤ fineOf E P ∧ fineOf E P ≤ 0 := ⟨by have := h.2.2.2.1; unfold fineOf; omega, fine_le h⟩
      have hnn : ∀ l : List (Bool × Bool), (∀ c ∈ l, c.1 = c.2) → ∀ c ∈ rcsN E P (rmR (opK E P X) (opK E P Y)) (fineOf E P) l, c.1 = c.2 := fun l hl => by
        unfold rcsN
        simp only [List.forall_mem_cons]
        refine ⟨?_, nP_ok _, hl⟩
        rw [decide_eq_true h, decide_eq_true (show inB (rmR (opK E P X) (opK E P Y)) (fineOf E P) ∧ -40000 ≤ fineOf E P from ⟨⟨by omega, by omega, by omega, by omega⟩, by omega⟩)]; rfl
      cases hna : negOf E P X <;> cases hnb : negOf E P Y
      · have hrun := rem_ff_n E P X Y
        rw [dX, dY, (reR_eq _ _ _).1, (reR_eq (fineOf E P) 0 0).2] at hrun
        exact con_plain ok hrun (acsE_ok (hnn _ (rcsB_ok h hK hL hne (decide_eq_false hz) (rcsA_ok kx ky2 (base _ _ hna hnb)))) 5) (by simp) g rfl rfl
      · have hrun := rem_ft_n E P X Y
        rw [dX, dY, (reR_eq _ _ _).1, (reR_eq (fineOf E P) 0 0).2] at hrun
        exact con_plain ok hrun (acsE_ok (hnn _ (rcsB_ok h hK hL hne (decide_eq_false hz) (rcsA_ok kx ky2 (base _ _ hna hnb)))) 5) (by simp) g rfl rfl
      · have hrun := rem_tf_n E P X Y
        rw [dX, dY, (reR_eq _ _ _).1, (reR_eq (fineOf E P) 0 0).2] at hrun
        exact con_plain ok hrun (acsE_ok (hnn _ (rcsB_ok h hK hL hne (decide_eq_false hz) (rcsA_ok kx ky2 (base _ _ hna hnb)))) 5) (by simp) g rfl rfl
      · have hrun := rem_tt_n E P X Y
        rw [dX, dY, (reR_eq _ _ _).1, (reR_eq (fineOf E P) 0 0).2] at hrun
        exact con_plain ok hrun (acsE_ok (hnn _ (rcsB_ok h hK hL hne (decide_eq_false hz) (rcsA_ok kx ky2 (base _ _ hna hnb)))) 5) (by simp) g rfl rfl
/-- what the word of a remainder tells -/
theorem rem_val {E P X Y : Int} {na : Bool} (h : Fmt E P) (x0 : 0 ≤ X) (x1 : X < 2 * signOf E P) (y0 : 0 ≤ Y) (y1 : Y < 2 * signOf E P) (kx : kindOf E P X = 1 ∨ kindOf E P X = 2) (ky : kindOf E P Y = 2) :
    rmF E P (opK E P X) (opK E P Y) = 0 ∧ (0 ≤ rmW E P (opK E P X) (opK E P Y) na ∧ rmW E P (opK E P X) (opK E P Y) na < 2 * signOf E P) ∧ vErr E P (rmW E P (opK E P X) (opK E P Y) na) = 0 ∧ vK E P (rmW E P (opK E P X) (opK E P Y) na) = rmR (opK E P X) (opK E P Y) := by
  have hsg := sign_range h
  have hne := op_ne h y0 y1 ky
  by_cases hz : rmR (opK E P X) (opK E P Y) = 0
  · have hF : rmF E P (opK E P X) (opK E P Y) = 0 := by unfold rmF; rw [if_pos hz]
    have hW : rmW E P (opK E P X) (opK E P Y) na = 0 ∨ rmW E P (opK E P X) (opK E P Y) na = signOf E P := by
      unfold rmW
      rw [if_pos hz]
      cases na
      · exact .inl rfl
      · exact .inr rfl
    generalize rmW E P (opK E P X) (opK E P Y) na = W at hW
    obtain ⟨k1, k2⟩ := kind_zero hW hsg.1
    have hlt : 0 ≤ W ∧ W < 2 * signOf E P := by rcases hW with rfl | rfl <;> omega
    obtain ⟨v1, v2⟩ := vErr_of h hlt.2 (.inl k1)
    exact ⟨hF, hlt, v1, by omega⟩
  · obtain ⟨da, ea, fa, _, da1, _⟩ := val_form h x0 x1 kx
    obtain ⟨db, eb, fb, _, db1, _⟩ := val_form h y0 y1 (.inr ky)
    have hKl := opK_lt h x0 x1 kx
    obtain ⟨d, e, hd, hd2⟩ := rm_form hne fa fb da1 db1
    have hle := (rm_near (A := opK E P X) hne).2
    have hF : rmF E P (opK E P X) (opK E P Y) = rndF E P 0 (rmR (opK E P X) (opK E P Y)) (fineOf E P) := by unfold rmF; rw [if_neg hz]
    have hW : rmW E P (opK E P X) (opK E P Y) na = rndW E P 0 (rmR (opK E P X) (opK E P Y)) (fineOf E P) := by unfold rmW; rw [if_neg hz]
    rw [hF, hW]
    obtain ⟨r1, r2, r3, r4, r5⟩ := rnd_exact (m := 0) h hz hd hd2 (by omega)
    obtain ⟨v1, v2⟩ := vErr_of h r3 (.inr r4)
    exact ⟨r1, ⟨r2, r3⟩, v1, by omega⟩
/-- the quiet NaN is no number -/
theorem quiet_val {E P : Int} (h : Fmt E P) : (0 ≤ quietOf E P ∧ quietOf E P < 2 * signOf E P) ∧ vErr E P (quietOf E P) = 4 := by
  obtain ⟨q1, q2, q3⟩ := quiet_range h
  have hi := inf_range h
  have hq : quietOf E P < signOf E P := q2
  have hs : sizW E P (quietOf E P) = quietOf E P := by unfold sizW sizeOf'; rw [if_pos hq]
  have hk : kindOf E P (quietOf E P) = 4 := by
    unfold kindOf
    rw [hs, if_neg (by omega), if_neg (by omega), if_neg (by omega), if_neg (by omega)]
  have he : rdErr E P (quietOf E P) = 0 := by unfold rdErr; rw [if_pos h, if_neg (by omega)]
  have hkd : rdKind E P (quietOf E P) = 4 := by unfold rdKind; rw [if_pos he, hk]
  exact ⟨⟨by omega, by omega⟩, by unfold vErr; rw [if_pos he, hkd, if_neg (by decide)]⟩
/-! Rem as an answer -/
def remS (xs : List Ar) : Option Res := match xs with
  | [.v a, .v b, .v c] => match fmt2 a with
    | some (E, P) => some ⟨none, .tuple #[wordV (if kindOf E P (wX c) = 1 then quietOf E P else rmW E P (opK E P (wX b)) (opK E P (wX c)) (negOf E P (wX b))), .int .i64 (if kindOf E P (wX c) = 1 then 1 else rmF E P (opK E P (wX b)) (opK E P (wX c))), .int .i64 0]⟩
    | none => none
  | _ => none
def remP (xs : List Ar) : Bool := match xs with
  | [.v a, .v b, .v c] => match fmt2 a with
    | some (E, P) => wB b && (wB c && (vErr E P (wX b) == 0 && vErr E P (wX c) == 0))
    | none => false
  | _ => false
def remO : CF → St → Option (Value × St) := oracle 16 (conSpec TR remP remS)
theorem remO_ok : RunOkE Tryz.prog remO := con_oracle numG gTR roTR2 fun xs R h hp => by
  unfold remS at h
  split at h
  · split at h
    · rename_i hm
      injection h with h
      subst h
      unfold remP at hp
      simp only [hm, Bool.and_eq_true, beq_iff_eq] at hp
      obtain ⟨hb, hc, eb, ec⟩ := hp
      obtain ⟨hF, b1, b2, _⟩ := vErr_zero eb
      obtain ⟨_, c1, c2, _⟩ := vErr_zero ec
      have := rem_con hF (wX_range hb).1 b1 (wX_range hc).1 c1 b2 c2
      rw [fmt2_ok hm, wB_eq hb, wB_eq hc, wX_wordV, wX_wordV]
      exact this
    · cases h
  · cases h
end Go.Proofs.YtnpocnckkaddbaaGreatDoor
