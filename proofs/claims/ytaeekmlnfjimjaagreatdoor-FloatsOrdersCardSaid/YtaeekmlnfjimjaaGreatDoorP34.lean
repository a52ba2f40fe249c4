/-
  The contracts of the reference as answers of calls.
-/
import Derived.Test.YtaeekmlnfjimjaaGreatDoorP33
import Derived.Test.YtaeekmlnfjimjaaGreatDoorP32
set_option linter.unusedVariables false
set_option linter.unusedSimpArgs false
set_option linter.unusedSectionVars false
namespace Go.Proofs.YtaeekmlnfjimjaaGreatDoor
open Go.RowKit Go.Shelf Go.Canon

instance (K D : Int) : Decidable (R.inR K D) := by unfold R.inR; infer_instance
/-- an integer as a quotient -/
def intR (K D : Int) : Prop := K % D = 0
instance (K D : Int) : Decidable (intR K D) := by unfold intR; infer_instance
theorem intR_eq {K D : Int} (h : intR K D) : K / D * D = K := by
  have := Int.ediv_mul_add_emod K D
  unfold intR at h
  omega
theorem rq_int {w : World} {v : Value} {K D : Int} (h : R.Rq w v K D) (h1 : intR K D) : R.Rq w v (K / D) 1 :=
  h.cross (by decide) (by rw [intR_eq h1]; omega)
theorem R.Rq.sgn {w : World} {v : Value} {K D : Int} (h : R.Rq w v K D) : ∃ s n d, R.Rm w v s n d ∧ s = sgI K := by
  obtain ⟨h0, s, n, d, h1, h2⟩ := h
  refine ⟨s, n, d, h1, ?_⟩
  obtain ⟨d0, n0, hs⟩ := h1.pos
  rcases hs with ⟨rfl, rfl, rfl⟩ | ⟨hs, np⟩
  · have : K = 0 := by omega
    subst this; rfl
  · have hp := Int.mul_pos np h0
    have hq : s * n * D = s * (n * D) := Int.mul_assoc _ _ _
    unfold sgI
    rcases hs with rfl | rfl
    · have hK : 0 < K := by
        apply Classical.byContradiction
        intro hn
        have := Int.mul_nonneg (show 0 ≤ -K by omega) (Int.le_of_lt d0)
        rw [Int.neg_mul] at this
        omega
      rw [if_neg (by omega), if_neg (by omega)]
    · have hK : K < 0 := by
        apply Classical.byContradiction
        intro hn
        have := Int.mul_nonneg (show 0 ≤ K by omega) (Int.le_of_lt d0)
        omega
      rw [if_neg (by omega), if_pos hK]
/-- the divisors of the least value and of the least normal one: 2^(bias + P - 2), 2^(bias - 1) -/
def leD (E P : Int) : Int := 2 ^ (biasOf E + P - 2).toNat
def noD (E : Int) : Int := 2 ^ (biasOf E - 1).toNat
theorem rSign_con {K D : Int} : Con Tryz.prog TT 52 [.r K D] ⟨none, .int .i64 (sgI K)⟩ := con_mk fun w hE l ha => by
  obtain ⟨v, rfl, h⟩ := ars_r ha
  obtain ⟨s, n, d, h1, h2⟩ := h.sgn
  refine (R.sign_any w v s n d h1).mono ?_
  rintro en w1 ⟨rfl, hb⟩
  exact ⟨_, rfl, by rw [h2]; rfl, hb⟩
theorem con_r {g : FuncId} {xs : List Ar} {K D : Int} (h : ∀ w, Env w → ∀ l : List Value, AreArs w xs l → Calls Tryz.prog g ⟨l⟩ w (R.RqPost w K D)) : Con Tryz.prog TT g xs (resR K D) :=
  con_mk fun w hE l ha => (h w hE l ha).mono fun e w1 ⟨v, h1, h2, h3⟩ => ⟨_, h1, resR_is h2, h3⟩
theorem rNeg_con {K D : Int} : Con Tryz.prog TT 95 [.r K D] (resR (-K) D) := con_r fun w hE l ha => by
  obtain ⟨v, rfl, h⟩ := ars_r ha
  exact R.negR_any w v K D h
theorem rAdd_con {K D L C : Int} (h1 : R.inR K D) (h2 : R.inR L C) : Con Tryz.prog TT 77 [.r K D, .r L C] (resR (K * C + L * D) (D * C)) := con_r fun w hE l ha => by
  obtain ⟨v, u, rfl, a, b⟩ := ars_rr ha
  exact R.addR_any w v u K D L C a b h1 h2
theorem rSub_con {K D L C : Int} (h1 : R.inR K D) (h2 : R.inR L C) : Con Tryz.prog TT 49 [.r K D, .r L C] (resR (K * C + -L * D) (D * C)) := con_r fun w hE l ha => by
  obtain ⟨v, u, rfl, a, b⟩ := ars_rr ha
  exact R.subR_any w v u K D L C a b h1 h2
theorem rMul_con {K D L C : Int} (h1 : R.inR K D) (h2 : R.inR L C) : Con Tryz.prog TT 110 [.r K D, .r L C] (resR (K * L) (D * C)) := con_r fun w hE l ha => by
  obtain ⟨v, u, rfl, a, b⟩ := ars_rr ha
  exact R.mulR_any w v u K D L C a b h1 h2
theorem rQuo_con {K D L C : Int} (h1 : R.inR K D) (h2 : R.inR L C) (h3 : L ≠ 0) : Con Tryz.prog TT 106 [.r K D, .r L C] (resRE (if L < 0 then -(K * C) else K * C) (D * L.natAbs) 0) := con_mk fun w hE l ha => by
  obtain ⟨v, u, rfl, a, b⟩ := ars_rr ha
  refine (R.quoR_any w v u K D L C a b h1 h2 h3).mono ?_
  rintro en w1 ⟨v', rfl, h1, hb⟩
  exact ⟨_, rfl, resRE_is h1, hb⟩
theorem rCmp_con {K D L C : Int} (h1 : R.inR K D) (h2 : R.inR L C) : Con Tryz.prog TT 69 [.r K D, .r L C] ⟨none, .int .i64 (cmpI (K * C) (L * D))⟩ := con_mk fun w hE l ha => by
  obtain ⟨v, u, rfl, a, b⟩ := ars_rr ha
  refine (R.cmpR_any w v u K D L C a b h1 h2).mono ?_
  rintro en w1 ⟨rfl, hb⟩
  exact ⟨_, rfl, rfl, hb⟩
theorem rShift_con {K D k : Int} (h1 : R.inR K D) (k0 : -28000 ≤ k) (k1 : k ≤ 28000) : Con Tryz.prog TT 93 [.r K D, .v (.int .i64 k)] (resR (K * 2 ^ k.toNat) (D * 2 ^ (-k).toNat)) := con_r fun w hE l ha => by
  obtain ⟨v, rfl, h⟩ := ars_rv ha
  exact R.shiftR_any w v K D k h h1 k0 k1
theorem rInt_con {n : Int} (h0 : -9223372036854775808 ≤ n) (h1 : n ≤ 9223372036854775807) : Con Tryz.prog TT 73 [.v (.int .i64 n)] (resR n 1) := con_r fun w hE l ha => by
  rw [ars_v ha]; exact R.intR_any w n h0 h1
theorem rTwo_con {k : Int} (h0 : -28000 ≤ k) (h1 : k ≤ 28000) : Con Tryz.prog TT 78 [.v (.int .i64 k)] (resR (2 ^ k.toNat) (2 ^ (-k).toNat)) := con_r fun w hE l ha => by
  rw [ars_v ha]; exact R.twoR_any w k h0 h1
theorem rBits_con {a : Value} (ha : wB a = true) : Con Tryz.prog TT 76 [.v a] (resR (wX a) 1) := con_r fun w hE l hl => by
  obtain ⟨h1, l1, rfl, a0, a1, a2, a3, a4⟩ := wB_ok ha
  rw [ars_v hl, a4]
  exact R.bits_any w h1 l1 a0 a1 a2 a3
theorem rPacked_con {K D : Int} (h1 : intR K D) (h2 : 0 ≤ K / D) (h3 : K / D < 340282366920938463463374607431768211456) : Con Tryz.prog TT 75 [.r K D] ⟨none, wordV (K / D)⟩ := con_mk fun w hE l ha => by
  obtain ⟨v, rfl, h⟩ := ars_r ha
  refine (R.packed_any w v (K / D) (rq_int h h1) h2 h3).mono ?_
  rintro en w1 ⟨rfl, hb⟩
  exact ⟨_, rfl, rfl, hb⟩
theorem rPart_con {K D f b : Int} (h1 : intR K D) (h2 : 0 ≤ K / D) (h3 : K / D < 340282366920938463463374607431768211456) (f0 : 0 ≤ f) (f1 : f ≤ 200) (b0 : 0 ≤ b) (b1 : b ≤ 200) :
    Con Tryz.prog TT 90 [.r K D, .v (.int .i64 f), .v (.int .i64 b)] (resR (K / D / 2 ^ f.toNat % 2 ^ b.toNat) 1) := con_r fun w hE l ha => by
  obtain ⟨v, rfl, h⟩ := ars_rvv ha
  have := R.part_any w v (K / D) f.toNat b.toNat (rq_int h h1) h2 (by omega) (by omega) (by omega)
  rwa [show ((f.toNat : Nat) : Int) = f by omega, show ((b.toNat : Nat) : Int) = b by omega] at this
theorem rSmall_con {K D : Int} (h1 : intR K D) (h2 : 0 ≤ K / D) (h3 : K / D < 4294967296) : Con Tryz.prog TT 91 [.r K D] ⟨none, .int .u64 (K / D)⟩ := con_mk fun w hE l ha => by
  obtain ⟨v, rfl, h⟩ := ars_r ha
  refine (R.small_any w v (K / D) (rq_int h h1) h2 h3).mono ?_
  rintro en w1 ⟨rfl, hb⟩
  exact ⟨_, rfl, rfl, hb⟩
def fmtW (E P : Int) : Value := .agg #[.int .i64 E, .int .i64 P]
theorem rCheck_con (E P : Int) : Con Tryz.prog TT 164 [.v (fmtW E P)] ⟨none, .int .i64 (if Fmt E P then 0 else 2)⟩ := con_mk fun w hE l hl => by
  rw [ars_v hl]
  exact (R.check_any w E P).mono fun e w1 h => ⟨_, h.1, rfl, h.2⟩
theorem rBias_con {E P : Int} (h : Fmt E P) : Con Tryz.prog TT 94 [.v (fmtW E P)] ⟨none, .int .i64 (biasOf E)⟩ := con_mk fun w hE l hl => by
  rw [ars_v hl]
  exact (R.bias_any w E P h.1 h.2.1).mono fun e w1 h => ⟨_, h.1, rfl, h.2⟩
theorem rTop_con {E P : Int} (h : Fmt E P) : Con Tryz.prog TT 92 [.v (fmtW E P)] ⟨none, .int .i64 (2 * biasOf E + 1)⟩ := con_mk fun w hE l hl => by
  rw [ars_v hl]
  exact (R.top_any w E P h.1 h.2.1).mono fun e w1 h => ⟨_, h.1, rfl, h.2⟩
theorem bias_one {E : Int} (h : 2 ≤ E) (h1 : E ≤ 11) : 1 ≤ biasOf E := (bias_range h h1).1
theorem rLeast_con {E P : Int} (h : Fmt E P) : Con Tryz.prog TT 74 [.v (fmtW E P)] (resR 1 (leD E P)) := con_r fun w hE l hl => by
  rw [ars_v hl]
  have := R.least_any w E P h
  have hb := bias_one h.1 h.2.1
  have hP := h.2.2.1
  rw [show (2 - biasOf E - P).toNat = 0 by omega, show -(2 - biasOf E - P) = biasOf E + P - 2 by omega, Int.pow_zero] at this
  exact this
theorem below_eq {E K D : Int} (h : 2 ≤ E) (h1 : E ≤ 11) : (cmpI (K.natAbs * 2 ^ (-(1 - biasOf E)).toNat) (2 ^ (1 - biasOf E).toNat * D) < 0) ↔ (K.natAbs : Int) * noD E < D := by
  have hb := bias_one h h1
  rw [show (1 - biasOf E).toNat = 0 by omega, show -(1 - biasOf E) = biasOf E - 1 by omega, Int.pow_zero, Int.one_mul]
  unfold noD cmpI
  split
  · rename_i hl; exact ⟨fun _ => hl, fun _ => by decide⟩
  · rename_i hl
    exact ⟨fun h => by split at h <;> omega, fun h => absurd h hl⟩
theorem rBelow_con {E P K D : Int} (h : Fmt E P) (h1 : R.inR K D) : Con Tryz.prog TT 102 [.v (fmtW E P), .r K D] ⟨none, .bool (decide ((K.natAbs : Int) * noD E < D))⟩ := con_mk fun w hE l ha => by
  obtain ⟨v, rfl, hv⟩ := ars_vr ha
  refine (R.below_any w v E P K D h hv h1).mono ?_
  rintro en w1 ⟨rfl, hb⟩
  refine ⟨_, rfl, ?_, hb⟩
  show Value.bool _ = .bool _
  congr 1
  exact decide_eq_decide.2 (below_eq h.1 h.2.1)
theorem leD_pos (E P : Int) : 0 < leD E P := p2pos _
def rSignS (xs : List Ar) : Option Res := match xs with
  | [.r K D] => some (⟨none, .int .i64 (sgI K)⟩ : Res)
  | _ => none
def rSignP (xs : List Ar) : Bool := match xs with
  | [.r K D] => true
  | _ => false
def rSignO : CF → St → Option (Value × St) := oracle 52 (conSpec TT rSignP rSignS)
theorem rSignO_ok : RunOkE Tryz.prog rSignO := con_oracle numG gTT roTT fun xs R h hp => by
  unfold rSignS at h
  split at h
  · injection h with h
    subst h
    exact rSign_con
  · cases h

def rNegS (xs : List Ar) : Option Res := match xs with
  | [.r K D] => some (resR (-K) D : Res)
  | _ => none
def rNegP (xs : List Ar) : Bool := match xs with
  | [.r K D] => true
  | _ => false
def rNegO : CF → St → Option (Value × St) := oracle 95 (conSpec TT rNegP rNegS)
theorem rNegO_ok : RunOkE Tryz.prog rNegO := con_oracle numG gTT roTT fun xs R h hp => by
  unfold rNegS at h
  split at h
  · injection h with h
    subst h
    exact rNeg_con
  · cases h

def rAddS (xs : List Ar) : Option Res := match xs with
  | [.r K D, .r L C] => some (resR (K * C + L * D) (D * C) : Res)
  | _ => none
def rAddP (xs : List Ar) : Bool := match xs with
  | [.r K D, .r L C] => decide (R.inR K D) && decide (R.inR L C)
  | _ => false
def rAddO : CF → St → Option (Value × St) := oracle 77 (conSpec TT rAddP rAddS)
theorem rAddO_ok : RunOkE Tryz.prog rAddO := con_oracle numG gTT roTT fun xs R h hp => by
  unfold rAddS at h
  split at h
  · injection h with h
    subst h
    unfold rAddP at hp; rw [Bool.and_eq_true] at hp; exact rAdd_con (of_decide_eq_true hp.1) (of_decide_eq_true hp.2)
  · cases h

def rSubS (xs : List Ar) : Option Res := match xs with
  | [.r K D, .r L C] => some (resR (K * C + -L * D) (D * C) : Res)
  | _ => none
def rSubP (xs : List Ar) : Bool := match xs with
  | [.r K D, .r L C] => decide (R.inR K D) && decide (R.inR L C)
  | _ => false
def rSubO : CF → St → Option (Value × St) := oracle 49 (conSpec TT rSubP rSubS)
theorem rSubO_ok : RunOkE Tryz.prog rSubO := con_oracle numG gTT roTT fun xs R h hp => by
  unfold rSubS at h
  split at h
  · injection h with h
    subst h
    unfold rSubP at hp; rw [Bool.and_eq_true] at hp; exact rSub_con (of_decide_eq_true hp.1) (of_decide_eq_true hp.2)
  · cases h

def rMulS (xs : List Ar) : Option Res := match xs with
  | [.r K D, .r L C] => some (resR (K * L) (D * C) : Res)
  | _ => none
def rMulP (xs : List Ar) : Bool := match xs with
  | [.r K D, .r L C] => decide (R.inR K D) && decide (R.inR L C)
  | _ => false
def rMulO : CF → St → Option (Value × St) := oracle 110 (conSpec TT rMulP rMulS)
theorem rMulO_ok : RunOkE Tryz.prog rMulO := con_oracle numG gTT roTT fun xs R h hp => by
  unfold rMulS at h
  split at h
  · injection h with h
    subst h
    unfold rMulP at hp; rw [Bool.and_eq_true] at hp; exact rMul_con (of_decide_eq_true hp.1) (of_decide_eq_true hp.2)
  · cases h

def rQuoS (xs : List Ar) : Option Res := match xs with
  | [.r K D, .r L C] => some (resRE (if L < 0 then -(K * C) else K * C) (D * L.natAbs) 0 : Res)
  | _ => none
def rQuoP (xs : List Ar) : Bool := match xs with
  | [.r K D, .r L C] => decide (R.inR K D) && (decide (R.inR L C) && decide (L ≠ 0))
  | _ => false
def rQuoO : CF → St → Option (Value × St) := oracle 106 (conSpec TT rQuoP rQuoS)
theorem rQuoO_ok : RunOkE Tryz.prog rQuoO := con_oracle numG gTT roTT fun xs R h hp => by
  unfold rQuoS at h
  split at h
  · injection h with h
    subst h
    unfold rQuoP at hp; rw [Bool.and_eq_true, Bool.and_eq_true] at hp; exact rQuo_con (of_decide_eq_true hp.1) (of_decide_eq_true hp.2.1) (of_decide_eq_true hp.2.2)
  · cases h

def rCmpS (xs : List Ar) : Option Res := match xs with
  | [.r K D, .r L C] => some (⟨none, .int .i64 (cmpI (K * C) (L * D))⟩ : Res)
  | _ => none
def rCmpP (xs : List Ar) : Bool := match xs with
  | [.r K D, .r L C] => decide (R.inR K D) && decide (R.inR L C)
  | _ => false
def rCmpO : CF → St → Option (Value × St) := oracle 69 (conSpec TT rCmpP rCmpS)
theorem rCmpO_ok : RunOkE Tryz.prog rCmpO := con_oracle numG gTT roTT fun xs R h hp => by
  unfold rCmpS at h
  split at h
  · injection h with h
    subst h
    unfold rCmpP at hp; rw [Bool.and_eq_true] at hp; exact rCmp_con (of_decide_eq_true hp.1) (of_decide_eq_true hp.2)
  · cases h

def rShiftS (xs : List Ar) : Option Res := match xs with
  | [.r K D, .v (.int .i64 k)] => some (resR (K * 2 ^ k.toNat) (D * 2 ^ (-k).toNat) : Res)
  | _ => none
def rShiftP (xs : List Ar) : Bool := match xs with
  | [.r K D, .v (.int .i64 k)] => decide (R.inR K D) && decide (-28000 ≤ k ∧ k ≤ 28000)
  | _ => false
def rShiftO : CF → St → Option (Value × St) := oracle 93 (conSpec TT rShiftP rShiftS)
theorem rShiftO_ok : RunOkE Tryz.prog rShiftO := con_oracle numG gTT roTT fun xs R h hp => by
  unfold rShiftS at h
  split at h
  · injection h with h
    subst h
    unfold rShiftP at hp; rw [Bool.and_eq_true] at hp; exact rShift_con (of_decide_eq_true hp.1) (of_decide_eq_true hp.2).1 (of_decide_eq_true hp.2).2
  · cases h

def rIntS (xs : List Ar) : Option Res := match xs with
  | [.v (.int .i64 n)] => some (resR n 1 : Res)
  | _ => none
def rIntP (xs : List Ar) : Bool := match xs with
  | [.v (.int .i64 n)] => decide (-9223372036854775808 ≤ n ∧ n ≤ 9223372036854775807)
  | _ => false
def rIntO : CF → St → Option (Value × St) := oracle 73 (conSpec TT rIntP rIntS)
theorem rIntO_ok : RunOkE Tryz.prog rIntO := con_oracle numG gTT roTT fun xs R h hp => by
  unfold rIntS at h
  split at h
  · injection h with h
    subst h
    unfold rIntP at hp; obtain ⟨h1, h2⟩ := of_decide_eq_true hp; exact rInt_con h1 h2
  · cases h

def rTwoS (xs : List Ar) : Option Res := match xs with
  | [.v (.int .i64 k)] => some (resR (2 ^ k.toNat) (2 ^ (-k).toNat) : Res)
  | _ => none
def rTwoP (xs : List Ar) : Bool := match xs with
  | [.v (.int .i64 k)] => decide (-28000 ≤ k ∧ k ≤ 28000)
  | _ => false
def rTwoO : CF → St → Option (Value × St) := oracle 78 (conSpec TT rTwoP rTwoS)
theorem rTwoO_ok : RunOkE Tryz.prog rTwoO := con_oracle numG gTT roTT fun xs R h hp => by
  unfold rTwoS at h
  split at h
  · injection h with h
    subst h
    unfold rTwoP at hp; obtain ⟨h1, h2⟩ := of_decide_eq_true hp; exact rTwo_con h1 h2
  · cases h

def rBitsS (xs : List Ar) : Option Res := match xs with
  | [.v a] => some (resR (wX a) 1 : Res)
  | _ => none
def rBitsP (xs : List Ar) : Bool := match xs with
  | [.v a] => wB a
  | _ => false
def rBitsO : CF → St → Option (Value × St) := oracle 76 (conSpec TT rBitsP rBitsS)
theorem rBitsO_ok : RunOkE Tryz.prog rBitsO := con_oracle numG gTT roTT fun xs R h hp => by
  unfold rBitsS at h
  split at h
  · injection h with h
    subst h
    unfold rBitsP at hp; exact rBits_con hp
  · cases h

def rPackedS (xs : List Ar) : Option Res := match xs with
  | [.r K D] => some (⟨none, wordV (K / D)⟩ : Res)
  | _ => none
def rPackedP (xs : List Ar) : Bool := match xs with
  | [.r K D] => decide (intR K D ∧ 0 ≤ K / D ∧ K / D < 340282366920938463463374607431768211456)
  | _ => false
def rPackedO : CF → St → Option (Value × St) := oracle 75 (conSpec TT rPackedP rPackedS)
theorem rPackedO_ok : RunOkE Tryz.prog rPackedO := con_oracle numG gTT roTT fun xs R h hp => by
  unfold rPackedS at h
  split at h
  · injection h with h
    subst h
    unfold rPackedP at hp; obtain ⟨h1, h2, h3⟩ := of_decide_eq_true hp; exact rPacked_con h1 h2 h3
  · cases h

def rPartS (xs : List Ar) : Option Res := match xs with
  | [.r K D, .v (.int .i64 f), .v (.int .i64 b)] => some (resR (K / D / 2 ^ f.toNat % 2 ^ b.toNat) 1 : Res)
  | _ => none
def rPartP (xs : List Ar) : Bool := match xs with
  | [.r K D, .v (.int .i64 f), .v (.int .i64 b)] => decide (intR K D ∧ 0 ≤ K / D ∧ K / D < 340282366920938463463374607431768211456) && decide (0 ≤ f ∧ f ≤ 200 ∧ 0 ≤ b ∧ b ≤ 200)
  | _ => false
def rPartO : CF → St → Option (Value × St) := oracle 90 (conSpec TT rPartP rPartS)
theorem rPartO_ok : RunOkE Tryz.prog rPartO := con_oracle numG gTT roTT fun xs R h hp => by
  unfold rPartS at h
  split at h
  · injection h with h
    subst h
    unfold rPartP at hp; rw [Bool.and_eq_true] at hp; obtain ⟨h1, h2, h3⟩ := of_decide_eq_true hp.1; obtain ⟨h4, h5, h6, h7⟩ := of_decide_eq_true hp.2; exact rPart_con h1 h2 h3 h4 h5 h6 h7
  · cases h

def rSmallS (xs : List Ar) : Option Res := match xs with
  | [.r K D] => some (⟨none, .int .u64 (K / D)⟩ : Res)
  | _ => none
def rSmallP (xs : List Ar) : Bool := match xs with
  | [.r K D] => decide (intR K D ∧ 0 ≤ K / D ∧ K / D < 4294967296)
  | _ => false
def rSmallO : CF → St → Option (Value × St) := oracle 91 (conSpec TT rSmallP rSmallS)
theorem rSmallO_ok : RunOkE Tryz.prog rSmallO := con_oracle numG gTT roTT fun xs R h hp => by
  unfold rSmallS at h
  split at h
  · injection h with h
    subst h
    unfold rSmallP at hp; obtain ⟨h1, h2, h3⟩ := of_decide_eq_true hp; exact rSmall_con h1 h2 h3
  · cases h

def rBiasS (xs : List Ar) : Option Res := match xs with
  | [.v a] => match fmt2 a with
    | some (E, P) => some (⟨none, .int .i64 (biasOf E)⟩ : Res)
    | none => none
  | _ => none
def rBiasP (xs : List Ar) : Bool := match xs with
  | [.v a] => match fmt2 a with
    | some (E, P) => decide (Fmt E P)
    | none => false
  | _ => false
def rBiasO : CF → St → Option (Value × St) := oracle 94 (conSpec TT rBiasP rBiasS)
theorem rBiasO_ok : RunOkE Tryz.prog rBiasO := con_oracle numG gTT roTT fun xs R h hp => by
  unfold rBiasS at h
  split at h
  · split at h
    · rename_i hm
      injection h with h
      subst h
      unfold rBiasP at hp
      simp only [hm] at hp
      rw [fmt2_ok hm]
      exact rBias_con (of_decide_eq_true hp)
    · cases h
  · cases h

def rTopS (xs : List Ar) : Option Res := match xs with
  | [.v a] => match fmt2 a with
    | some (E, P) => some (⟨none, .int .i64 (2 * biasOf E + 1)⟩ : Res)
    | none => none
  | _ => none
def rTopP (xs : List Ar) : Bool := match xs with
  | [.v a] => match fmt2 a with
    | some (E, P) => decide (Fmt E P)
    | none => false
  | _ => false
def rTopO : CF → St → Option (Value × St) := oracle 92 (conSpec TT rTopP rTopS)
theorem rTopO_ok : RunOkE Tryz.prog rTopO := con_oracle numG gTT roTT fun xs R h hp => by
  unfold rTopS at h
  split at h
  · split at h
    · rename_i hm
      injection h with h
      subst h
      unfold rTopP at hp
      simp only [hm] at hp
      rw [fmt2_ok hm]
      exact rTop_con (of_decide_eq_true hp)
    · cases h
  · cases h

def rLeastS (xs : List Ar) : Option Res := match xs with
  | [.v a] => match fmt2 a with
    | some (E, P) => some (resR 1 (leD E P) : Res)
    | none => none
  | _ => none
def rLeastP (xs : List Ar) : Bool := match xs with
  | [.v a] => match fmt2 a with
    | some (E, P) => decide (Fmt E P)
    | none => false
  | _ => false
def rLeastO : CF → St → Option (Value × St) := oracle 74 (conSpec TT rLeastP rLeastS)
theorem rLeastO_ok : RunOkE Tryz.prog rLeastO := con_oracle numG gTT roTT fun xs R h hp => by
  unfold rLeastS at h
  split at h
  · split at h
    · rename_i hm
      injection h with h
      subst h
      unfold rLeastP at hp
      simp only [hm] at hp
      rw [fmt2_ok hm]
      exact rLeast_con (of_decide_eq_true hp)
    · cases h
  · cases h

def rCheckS (xs : List Ar) : Option Res := match xs with
  | [.v a] => match fmt2 a with
    | some (E, P) => some (⟨none, .int .i64 (if Fmt E P then 0 else 2)⟩ : Res)
    | none => none
  | _ => none
def rCheckO : CF → St → Option (Value × St) := oracle 164 (conSpec TT (fun _ => true) rCheckS)
theorem rCheckO_ok : RunOkE Tryz.prog rCheckO := con_oracle numG gTT roTT fun xs R h hp => by
  unfold rCheckS at h
  split at h
  · split at h
    · rename_i hm
      injection h with h
      subst h
      rw [fmt2_ok hm]
      exact rCheck_con _ _
    · cases h
  · cases h

def rBelowS (xs : List Ar) : Option Res := match xs with
  | [.v a, .r K D] => match fmt2 a with
    | some (E, P) => some (⟨none, .bool (decide ((K.natAbs : Int) * noD E < D))⟩ : Res)
    | none => none
  | _ => none
def rBelowP (xs : List Ar) : Bool := match xs with
  | [.v a, .r K D] => match fmt2 a with
    | some (E, P) => decide (Fmt E P) && decide (R.inR K D)
    | none => false
  | _ => false
def rBelowO : CF → St → Option (Value × St) := oracle 102 (conSpec TT rBelowP rBelowS)
theorem rBelowO_ok : RunOkE Tryz.prog rBelowO := con_oracle numG gTT roTT fun xs R h hp => by
  unfold rBelowS at h
  split at h
  · split at h
    · rename_i hm
      injection h with h
      subst h
      unfold rBelowP at hp
      simp only [hm, Bool.and_eq_true] at hp
      rw [fmt2_ok hm]
      have h := And.intro (of_decide_eq_true hp.1) hp.2
      exact rBelow_con h.1 (of_decide_eq_true h.2)
    · cases h
  · cases h

end Go.Proofs.YtaeekmlnfjimjaaGreatDoor
