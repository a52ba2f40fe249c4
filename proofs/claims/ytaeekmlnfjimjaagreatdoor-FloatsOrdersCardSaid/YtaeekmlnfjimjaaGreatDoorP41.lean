/-
  The reference's asked, is, coded as answers of calls.
-/
import Derived.Test.YtaeekmlnfjimjaaGreatDoorP40
set_option linter.unusedVariables false
set_option linter.unusedSimpArgs false
set_option linter.unusedSectionVars false
namespace Go.Proofs.YtaeekmlnfjimjaaGreatDoor
open Go.RowKit Go.Shelf Go.Canon

def rAskS (xs : List Ar) : Option Res := match xs with
  | [.v a, .v (.int .i64 m)] => match fmt2 a with
    | some (E, P) => some (⟨none, .int .i64 (askE E P m)⟩ : Res)
    | none => none
  | _ => none
def rAskO : CF → St → Option (Value × St) := oracle 88 (conSpec TR (fun _ => true) rAskS)
theorem rAskO_ok : RunOkE Tryz.prog rAskO := con_oracle numG gTR roTR2 fun xs R h hp => by
  unfold rAskS at h
  split at h
  · split at h
    · rename_i hm
      injection h with h
      subst h
      rw [fmt2_ok hm]
      exact ask_con _ _ _
    · cases h
  · cases h
def rIsS (xs : List Ar) : Option Res := match xs with
  | [.v a, .v b] => match fmt2 a with
    | some (E, P) => some (⟨none, .bool (decide (wX b < 2 * signOf E P))⟩ : Res)
    | none => none
  | _ => none
def rIsP (xs : List Ar) : Bool := match xs with
  | [.v a, .v b] => match fmt2 a with
    | some (E, P) => decide (Fmt E P) && wB b
    | none => false
  | _ => false
def rIsO : CF → St → Option (Value × St) := oracle 89 (conSpec TR rIsP rIsS)
theorem rIsO_ok : RunOkE Tryz.prog rIsO := con_oracle numG gTR roTR2 fun xs R h hp => by
  unfold rIsS at h
  split at h
  · split at h
    · rename_i hm
      injection h with h
      subst h
      unfold rIsP at hp
      simp only [hm, Bool.and_eq_true] at hp
      rw [fmt2_ok hm]
      have h2 := wX_range hp.2
      have := is_con (of_decide_eq_true hp.1) h2.1 h2.2
      rwa [← wB_eq hp.2] at this
    · cases h
  · cases h
/-- a contract for an integer as a number with the divisor 1 holds for it with any divisor -/
theorem con_arR {g : FuncId} {T : Tabs} {a b c : Ar} {K D : Int} {R : Res} (h1 : intR K D) (h : Con Tryz.prog T g [a, b, c, .r (K / D) 1] R) : Con Tryz.prog T g [a, b, c, .r K D] R := fun w hw he args ha =>
  h w hw he args (by
    match hl : args.toList, ha with
    | [x, y, z, u], ha =>
      obtain ⟨p, q, r, ⟨v, e, k⟩, t⟩ := ha
      exact ⟨p, q, r, ⟨v, e, is_rq.2 (rq_int (is_rq.1 k) h1)⟩, t⟩)
theorem coded_con {E P d K D : Int} {neg : Bool} (h : Fmt E P) (d0 : 0 ≤ d) (d1 : d < 2048) (h1 : intR K D) (k0 : 0 ≤ K / D) (k1 : K / D < 10000000000000000000000000000000000000) : Con Tryz.prog TR 99 [.v (fmtW E P), .v (.bool neg), .v (.int .i64 d), .r K D] ⟨none, wordV (cdOf E P neg d (K / D))⟩ :=
  con_arR h1 (coded_1 h d0 d1 k0 k1)
def rCodS (xs : List Ar) : Option Res := match xs with
  | [.v a, .v (.bool s), .v (.int .i64 d), .r K D] => match fmt2 a with
    | some (E, P) => some (⟨none, wordV (cdOf E P s d (K / D))⟩ : Res)
    | none => none
  | _ => none
def rCodP (xs : List Ar) : Bool := match xs with
  | [.v a, .v (.bool _), .v (.int .i64 d), .r K D] => match fmt2 a with
    | some (E, P) => decide (Fmt E P) && decide (0 ≤ d ∧ d < 2048 ∧ intR K D ∧ 0 ≤ K / D ∧ K / D < 10000000000000000000000000000000000000)
    | none => false
  | _ => false
def rCodO : CF → St → Option (Value × St) := oracle 99 (conSpec TR rCodP rCodS)
theorem rCodO_ok : RunOkE Tryz.prog rCodO := con_oracle numG gTR roTR2 fun xs R h hp => by
  unfold rCodS at h
  split at h
  · split at h
    · rename_i hm
      injection h with h
      subst h
      unfold rCodP at hp
      simp only [hm, Bool.and_eq_true] at hp
      rw [fmt2_ok hm]
      obtain ⟨h1, h2, h3, h4, h5⟩ := of_decide_eq_true hp.2
      exact coded_con (of_decide_eq_true hp.1) h1 h2 h3 h4 h5
    · cases h
  · cases h
end Go.Proofs.YtaeekmlnfjimjaaGreatDoor
