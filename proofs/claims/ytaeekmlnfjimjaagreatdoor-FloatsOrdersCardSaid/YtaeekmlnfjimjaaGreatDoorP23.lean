/-
  The step of a number, by runs with unknown numbers.
-/
import Derived.Test.YtaeekmlnfjimjaaGreatDoorP22
set_option linter.unusedVariables false
set_option linter.unusedSimpArgs false
set_option linter.unusedSectionVars false
namespace Go.Proofs.YtaeekmlnfjimjaaGreatDoor
open Go.RowKit Go.Shelf Go.Canon

def osTab : List Value := [.int .i64 0, .int .i64 1, .int .i64 2, .int .i64 4, .int .i64 3]
def TR : Tabs := ⟨1, [(0, osTab)]⟩
theorem gTR : TR.g < Tryz.prog.globals.size := of_decide_eq_true (by kernel_rfl)
theorem sizeP : Tryz.prog.globals.size < 2 ^ 38 := of_decide_eq_true (by kernel_rfl)
theorem roTR : ∀ p ∈ TR.ro, p.1 < Tryz.prog.globals.size ∧ p.2.all (ground 3) = true ∧ p.1 ≠ TR.g := fun p hp => by
  rcases List.mem_cons.1 hp with rfl | hp
  · exact ⟨of_decide_eq_true (by kernel_rfl), rfl, by decide⟩
  · cases hp
theorem roTR2 : ∀ p ∈ TR.ro, p.1 < Tryz.prog.globals.size ∧ p.2.all (ground 3) = true := fun p hp => ⟨(roTR p hp).1, (roTR p hp).2.1⟩
theorem con_sym {call : CF → St → Option (Value × St)} (hcall : RunOkE Tryz.prog call) {g : Nat} {xs : List Ar} {an : List Bool} {n : Nat} {v : Value} {o : Option CObj} {cs : List (Bool × Bool)}
    (h : conRun Tryz.prog TR call 1000 g xs an n = some (v, o, cs)) (hcs : ∀ c ∈ cs, c.1 = c.2) (hlen : xs.length < 2 ^ 38) (hgr : ∀ x, Ar.v x ∈ xs → ground 9 x = true) {R : Res} (hfit : Fits R n v o) : Con Tryz.prog TR g xs R :=
  con_of_run numG noCountP mixedP gTR roTR sizeP hcall hlen hgr h hcs hfit
/-- a plain result -/
theorem con_plain {call : CF → St → Option (Value × St)} (hcall : RunOkE Tryz.prog call) {g : Nat} {xs : List Ar} {an : List Bool} {v : Value} {o : Option CObj} {cs : List (Bool × Bool)}
    (h : conRun Tryz.prog TR call 1000 g xs an 1 = some (v, o, cs)) (hcs : ∀ c ∈ cs, c.1 = c.2) (hlen : xs.length < 2 ^ 38) (hgr : ∀ x, Ar.v x ∈ xs → ground 9 x = true) {t : Value} (hv : v = t) (hg : ground 9 t = true) : Con Tryz.prog TR g xs ⟨none, t⟩ :=
  con_sym hcall h hcs hlen hgr ⟨hv, hg⟩
theorem wrapI {x : Int} (h : -9223372036854775808 ≤ x ∧ x ≤ 9223372036854775807) : IntKind.i64.wrap x = x := IntWalk.i64_in x h

end Go.Proofs.YtaeekmlnfjimjaaGreatDoor
/-
  What lies beyond; numbers in steps: contracts.
-/
namespace Go.Proofs.YtaeekmlnfjimjaaGreatDoor
open Go.RowKit Go.Shelf Go.Canon

theorem wX_wordV (X : Int) : wX (wordV X) = X := by
  show X / 18446744073709551616 * 18446744073709551616 + X % 18446744073709551616 = X
  omega
theorem wB_wordV {X : Int} (h0 : 0 ≤ X) (h1 : X < two128) : wB (wordV X) = true := by
  rw [two128_eq] at h1
  show decide (0 ≤ X / 18446744073709551616 ∧ X / 18446744073709551616 < 18446744073709551616 ∧ 0 ≤ X % 18446744073709551616 ∧ X % 18446744073709551616 < 18446744073709551616) = true
  exact decide_eq_true ⟨by omega, by omega, by omega, by omega⟩

/-! overflow -/
/-! inSteps -/
end Go.Proofs.YtaeekmlnfjimjaaGreatDoor
/-
  Rounding: its contract.
-/
namespace Go.Proofs.YtaeekmlnfjimjaaGreatDoor
open Go.RowKit Go.Shelf Go.Canon

/-! what the numbers are -/
theorem inf_eq {E P : Int} (h : Fmt E P) : infOf E P = (2 ^ E.toNat - 1) * 2 ^ (P - 1).toNat := by
  obtain ⟨h1, h2, h3, h4, h5⟩ := h
  unfold infOf
  rw [show (E + P - 1).toNat = E.toNat + (P - 1).toNat by omega, Int.pow_add, Int.sub_mul, Int.one_mul]
theorem bias_eq {E : Int} (h0 : 2 ≤ E) : 2 * biasOf E = 2 ^ E.toNat - 2 := by
  unfold biasOf
  rw [show E.toNat = (E - 1).toNat + 1 by omega, Int.pow_succ]
  omega
theorem p124_sml : (2 : Int) ^ 124 ≤ sml := by
  unfold sml
  rw [show (60000 : Nat) = 124 + 59876 from rfl, Int.pow_add]
  have := Int.mul_le_mul_of_nonneg_left (show (1 : Int) ≤ 2 ^ 59876 from p2pos _) (Int.le_of_lt (p2pos 124))
  omega
end Go.Proofs.YtaeekmlnfjimjaaGreatDoor
