/-
  The reference's Flip: its contract as an answer of a call.
-/
import Derived.Test.YtaeekmlnfjimjaaGreatDoorP32
import Derived.Test.YtaeekmlnfjimjaaGreatDoorP22
set_option linter.unusedVariables false
set_option linter.unusedSimpArgs false
set_option linter.unusedSectionVars false
namespace Go.Proofs.YtaeekmlnfjimjaaGreatDoor
open Go.RowKit Go.Shelf Go.Canon

/-- a word with the other sign bit -/
def flipOf (E P X : Int) : Int := if signOf E P ≤ X then X - signOf E P else X + signOf E P
theorem flip_con {E P : Int} {a : Value} (h : Fmt E P) (ha : wB a = true) : Con Tryz.prog TT 27 [.v (.agg #[.int .i64 E, .int .i64 P]), .v a] ⟨none, wordV (flipOf E P (wX a))⟩ := con_w fun w hE l hl => by
  obtain ⟨h1, l1, rfl, w1⟩ := wB_ok ha
  rw [ars_vv hl]
  obtain ⟨a0, a1, a2, a3, a4⟩ := w1
  obtain ⟨f1, f2, f3, f4, f5⟩ := h
  have hk : E + P - 1 = ((E + P - 1).toNat : Int) := by omega
  have k1 : (E + P - 1).toNat ≤ 127 := by omega
  refine (R.flip_any w E P h1 l1 (E + P - 1).toNat hk k1 (by omega) (by omega) a0 a1 a2 a3).mono ?_
  rintro e w' ⟨rfl, hb⟩
  rw [a4]
  have hr := R.flipN_range k1 (n := h1 * 18446744073709551616 + l1) (by omega) (by omega)
  have e1 : flipOf E P (h1 * 18446744073709551616 + l1) = R.flipN (E + P - 1).toNat (h1 * 18446744073709551616 + l1) := rfl
  rw [e1]
  generalize R.flipN (E + P - 1).toNat (h1 * 18446744073709551616 + l1) = X at *
  exact ⟨_, _, rfl, ⟨by omega, by omega, by omega, by omega, by omega⟩, hb⟩
def flipS (xs : List Ar) : Option Res := match xs with
  | [.v a, .v b] => match fmt2 a with
    | some (E, P) => some (⟨none, wordV (flipOf E P (wX b))⟩ : Res)
    | none => none
  | _ => none
def flipP (xs : List Ar) : Bool := match xs with
  | [.v a, .v b] => match fmt2 a with
    | some (E, P) => decide (Fmt E P) && wB b
    | none => false
  | _ => false
def flipO : CF → St → Option (Value × St) := oracle 27 (conSpec TT flipP flipS)
theorem flipO_ok : RunOkE Tryz.prog flipO := con_oracle numG gTT roTT fun xs R h hp => by
  unfold flipS at h
  split at h
  · split at h
    · rename_i hm
      injection h with h
      subst h
      unfold flipP at hp
      simp only [hm] at hp
      rw [Bool.and_eq_true] at hp
      rw [fmt2_ok hm]
      exact flip_con (of_decide_eq_true hp.1) hp.2
    · cases h
  · cases h
end Go.Proofs.YtaeekmlnfjimjaaGreatDoor
