/-
  Answers of calls: the contracts of words, machines and numbers.
-/
import Derived.Test.YtaeekmlnfjimjaaGreatDoorP20
set_option linter.unusedVariables false
set_option linter.unusedSimpArgs false
set_option linter.unusedSectionVars false
namespace Go.Proofs.YtaeekmlnfjimjaaGreatDoor
open Go.RowKit Go.Shelf Go.Canon

theorem gTT : TT.g < Tryz.prog.globals.size := of_decide_eq_true (by kernel_rfl)
theorem mixedP : Tryz.prog.follows .mixedOrders = true := by kernel_rfl
theorem noCountP : NG Tryz.prog := ng_of (by kernel_rfl)
theorem roTT : ∀ p ∈ TT.ro, p.1 < Tryz.prog.globals.size ∧ p.2.all (ground 3) = true := fun p hp => by cases hp

/-! words -/
def wordV (X : Int) : Value := .agg #[.int .u64 (X / 18446744073709551616), .int .u64 (X % 18446744073709551616)]
def wX (v : Value) : Int := match v with
  | .agg x => match x.toList with
    | [.int .u64 h, .int .u64 l] => h * 18446744073709551616 + l
    | _ => 0
  | _ => 0
def wB (v : Value) : Bool := match v with
  | .agg x => match x.toList with
    | [.int .u64 h, .int .u64 l] => decide (0 ≤ h ∧ h < 18446744073709551616 ∧ 0 ≤ l ∧ l < 18446744073709551616)
    | _ => false
  | _ => false
theorem wB_ok {v : Value} (h : wB v = true) : ∃ a b, v = .agg #[.int .u64 a, .int .u64 b] ∧ Wn a b (wX v) := by
  unfold wB at h
  split at h
  · rename_i x
    split at h
    · rename_i a b hx
      have e : x = #[.int .u64 a, .int .u64 b] := Array.ext' hx
      subst e
      obtain ⟨h1, h2, h3, h4⟩ := of_decide_eq_true h
      exact ⟨a, b, rfl, h1, h2, h3, h4, rfl⟩
    · cases h
  · cases h
theorem wordV_of {h l X : Int} (w : Wn h l X) : (.agg #[.int .u64 h, .int .u64 l] : Value) = wordV X := by
  obtain ⟨a, b, c, d, rfl⟩ := w
  unfold wordV
  rw [show (h * 18446744073709551616 + l) / 18446744073709551616 = h by omega, show (h * 18446744073709551616 + l) % 18446744073709551616 = l by omega]
theorem con_w {g : FuncId} {xs : List Ar} {X : Int} (h : ∀ w, Env w → ∀ l : List Value, AreArs w xs l → Calls Tryz.prog g ⟨l⟩ w (WPost w X)) : Con Tryz.prog TT g xs ⟨none, wordV X⟩ :=
  con_mk fun w hE l ha => (h w hE l ha).mono fun e w1 ⟨a, b, h1, h2, h3⟩ => ⟨_, h1, wordV_of h2, h3⟩

theorem plus_con {a b : Value} (ha : wB a = true) (hb : wB b = true) : Con Tryz.prog TT 138 [.v a, .v b] ⟨none, wordV ((wX a + wX b) % two128)⟩ := con_w fun w hE l hl => by
  obtain ⟨h1, l1, rfl, w1⟩ := wB_ok ha
  obtain ⟨h2, l2, rfl, w2⟩ := wB_ok hb
  rw [ars_vv hl]
  exact plus_any w _ _ _ _ _ _ w1 w2
theorem minus_con {a b : Value} (ha : wB a = true) (hb : wB b = true) : Con Tryz.prog TT 137 [.v a, .v b] ⟨none, wordV ((wX a - wX b) % two128)⟩ := con_w fun w hE l hl => by
  obtain ⟨h1, l1, rfl, w1⟩ := wB_ok ha
  obtain ⟨h2, l2, rfl, w2⟩ := wB_ok hb
  rw [ars_vv hl]
  exact minus_any w _ _ _ _ _ _ w1 w2
theorem less_con {a b : Value} (ha : wB a = true) (hb : wB b = true) : Con Tryz.prog TT 163 [.v a, .v b] ⟨none, .bool (decide (wX a < wX b))⟩ := con_mk fun w hE l hl => by
  obtain ⟨h1, l1, rfl, w1⟩ := wB_ok ha
  obtain ⟨h2, l2, rfl, w2⟩ := wB_ok hb
  rw [ars_vv hl]
  exact (less_any w _ _ _ _ _ _ w1 w2).mono fun e w1 h => ⟨_, h.1, rfl, h.2⟩
theorem left_con {a : Value} {k : Int} (ha : wB a = true) (h0 : 0 ≤ k) (h1 : k ≤ 127) : Con Tryz.prog TT 160 [.v a, .v (.int .i64 k)] ⟨none, wordV (wX a * 2 ^ k.toNat % two128)⟩ := con_w fun w hE l hl => by
  obtain ⟨h1, l1, rfl, w1⟩ := wB_ok ha
  rw [ars_vv hl]
  obtain ⟨n, rfl⟩ := Int.eq_ofNat_of_zero_le h0
  exact wleft_any w _ _ _ w1 n (by omega)
theorem right_con {a : Value} {k : Int} (ha : wB a = true) (h0 : 0 ≤ k) (h1 : k ≤ 127) : Con Tryz.prog TT 127 [.v a, .v (.int .i64 k)] ⟨none, wordV (wX a / 2 ^ k.toNat)⟩ := con_w fun w hE l hl => by
  obtain ⟨h1, l1, rfl, w1⟩ := wB_ok ha
  rw [ars_vv hl]
  obtain ⟨n, rfl⟩ := Int.eq_ofNat_of_zero_le h0
  exact wright_any w _ _ _ w1 n (by omega)

/-! machines -/
instance (E P : Int) : Decidable (Fmt E P) := by unfold Fmt; infer_instance
def machV (E P m : Int) : Value := .agg #[.int .i64 E, .int .i64 P, .int .i64 m]
theorem one_con : Con Tryz.prog TT 136 [] ⟨none, wordV 1⟩ := con_mk fun w hE l hl => by
  rw [areArs_nil hl]
  exact (one_any w).mono fun e w1 h => ⟨_, h.1, wordV_of ⟨by omega, by omega, by omega, by omega, by omega⟩, h.2⟩
theorem check_con (E P : Int) : Con Tryz.prog TT 145 [.v (.agg #[.int .i64 E, .int .i64 P])] ⟨none, .int .i64 (if Fmt E P then 0 else 2)⟩ := con_mk fun w hE l hl => by
  rw [ars_v hl]
  by_cases h : Fmt E P
  · rw [if_pos h]; exact (check_yes w E P h).mono fun e w1 h => ⟨_, h.1, rfl, h.2⟩
  · rw [if_neg h]; exact (check_no w E P h).mono fun e w1 h => ⟨_, h.1, rfl, h.2⟩
def fineOf (E P : Int) : Int := 1 - biasOf E - P + 1
theorem finest_con {E P m : Int} (h : Fmt E P) : Con Tryz.prog TT 214 [.v (machV E P m)] ⟨none, .int .i64 (fineOf E P)⟩ := con_mk fun w hE l hl => by
  rw [ars_v hl]
  exact (finest_any w E P m h.1 h.2.1 h.2.2.1 h.2.2.2.1).mono fun e w1 h => ⟨_, h.1, rfl, h.2⟩
theorem infinity_con {E P m : Int} (h : Fmt E P) : Con Tryz.prog TT 104 [.v (machV E P m)] ⟨none, wordV (infOf E P)⟩ := con_w fun w hE l hl => by
  rw [ars_v hl]; exact infinity_any w E P m h
theorem quiet_con {E P m : Int} (h : Fmt E P) : Con Tryz.prog TT 146 [.v (machV E P m)] ⟨none, wordV (quietOf E P)⟩ := con_w fun w hE l hl => by
  rw [ars_v hl]; exact quiet_any w E P m h
def sizeOf' (E P X : Int) : Int := if X < signOf E P then X else X - signOf E P
theorem unsigned_con {E P m : Int} {a : Value} (h : Fmt E P) (ha : wB a = true) : Con Tryz.prog TT 135 [.v (machV E P m), .v a] ⟨none, .tuple #[.bool (decide (signOf E P ≤ wX a)), wordV (sizeOf' E P (wX a))]⟩ := con_mk fun w hE l hl => by
  obtain ⟨h1, l1, rfl, w1⟩ := wB_ok ha
  rw [ars_vv hl]
  unfold sizeOf'
  by_cases hX : wX (.agg #[.int .u64 h1, .int .u64 l1]) < signOf E P
  · rw [if_pos hX, decide_eq_false (by omega)]
    refine (unsigned_pos w E P m _ _ _ h w1 hX).mono ?_
    rintro e w2 ⟨a, b, k1, k2, k3⟩
    exact ⟨_, k1, by rw [wordV_of k2]; rfl, k3⟩
  · rw [if_neg hX, decide_eq_true (by omega)]
    refine (unsigned_neg w E P m _ _ _ h w1 (by omega)).mono ?_
    rintro e w2 ⟨a, b, k1, k2, k3⟩
    exact ⟨_, k1, by rw [wordV_of k2]; rfl, k3⟩
theorem signedT_con {E P m : Int} {a : Value} (h : Fmt E P) (ha : wB a = true) (hX : wX a < signOf E P) : Con Tryz.prog TT 103 [.v (machV E P m), .v (.bool true), .v a] ⟨none, wordV (wX a + signOf E P)⟩ := con_w fun w hE l hl => by
  obtain ⟨h1, l1, rfl, w1⟩ := wB_ok ha
  rw [ars_vvv hl]
  exact signed_yes w E P m _ _ _ h w1 hX
theorem signedF_con {E P m : Int} {a : Value} (ha : wB a = true) : Con Tryz.prog TT 103 [.v (machV E P m), .v (.bool false), .v a] ⟨none, wordV (wX a)⟩ := con_mk fun w hE l hl => by
  obtain ⟨h1, l1, rfl, w1⟩ := wB_ok ha
  rw [ars_vvv hl]
  exact (signed_no w E P m _ _).mono fun e w2 h => ⟨_, h.1, wordV_of w1, h.2⟩

/-! numbers -/
theorem shifted_con {K k d : Int} (hb : inB K k) (h1 : -20000 ≤ d) (h2 : d ≤ 20000) : Con Tryz.prog TT 182 [.n K k, .v (.int .i64 d)] (resN K (k + d)) := con_mk fun w hE l ha => by
  obtain ⟨v, rfl, h⟩ := ars_nv ha
  obtain ⟨p1, p2, p3, p4⟩ := hb
  refine (shifted_any w v K k d h ⟨p1, p2⟩ ⟨p3, p4⟩ ⟨h1, h2⟩).mono ?_
  rintro en w1 ⟨v', rfl, h1, hb⟩
  exact ⟨_, rfl, resN_is h1, hb⟩
theorem toNum_con {a : Value} (ha : wB a = true) (hX : wX a < 2 ^ 124) : Con Tryz.prog TT 197 [.v a] (resN (wX a) 0) := con_mk fun w hE l hl => by
  obtain ⟨h1, l1, rfl, w1⟩ := wB_ok ha
  rw [ars_v hl]
  refine (toNum_any w hE _ _ _ w1 hX).mono ?_
  rintro en w1 ⟨v', rfl, h1, hb⟩
  exact ⟨_, rfl, resN_is h1, hb⟩
end Go.Proofs.YtaeekmlnfjimjaaGreatDoor
