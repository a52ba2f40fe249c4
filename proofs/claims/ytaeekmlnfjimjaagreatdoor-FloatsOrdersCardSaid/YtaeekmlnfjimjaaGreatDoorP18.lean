/-
  Contracts of package exact's naturals: the rest by a word, the greatest common divisor of two words.
-/
import Derived.WalkMore
import Derived.Deep.LoopGhost
import Derived.Deep.RegionHeld3
import Derived.Test.YtaeekmlnfjimjaaGreatDoorP11
import Derived.Test.YtaeekmlnfjimjaaGreatDoorP10
set_option linter.unusedVariables false
set_option linter.unusedSimpArgs false
set_option linter.unusedSectionVars false
namespace Go.Proofs.YtaeekmlnfjimjaaGreatDoor
open Go.RowKit Go.Shelf

theorem gcd_twos {a b m : Int} {k : Nat} (ha : a % 2 = 1) (h : b = 2 ^ k * m) : Int.gcd a b = Int.gcd a m := by
  subst h
  have hc : Nat.Coprime (2 ^ k) a.natAbs := by
    apply Nat.Coprime.pow_left
    rw [Nat.coprime_iff_gcd_eq_one, Nat.gcd_rec, show a.natAbs % 2 = 1 by omega]
    rfl
  rw [Int.gcd_eq_natAbs_gcd_natAbs, Int.gcd_eq_natAbs_gcd_natAbs, Int.natAbs_mul, Int.natAbs_pow]
  exact hc.gcd_mul_left_cancel_right _
theorem gcd_less (a b : Int) : Int.gcd a (b - a) = Int.gcd a b := by
  simp
end Go.Proofs.YtaeekmlnfjimjaaGreatDoor
/-
  Contracts of package exact's naturals: Lehmer's step from the highest words.
-/
namespace Go.Proofs.YtaeekmlnfjimjaaGreatDoor
open Go.RowKit Go.Shelf
attribute [local go_sem] eqNil neqNil

end Go.Proofs.YtaeekmlnfjimjaaGreatDoor
/-
  Contracts of package exact's naturals: simulate.
-/
namespace Go.Proofs.YtaeekmlnfjimjaaGreatDoor
open Go.RowKit Go.Shelf
attribute [local go_sem] eqNil neqNil

end Go.Proofs.YtaeekmlnfjimjaaGreatDoor
/-
  Contracts of package exact's naturals: apply.
-/
namespace Go.Proofs.YtaeekmlnfjimjaaGreatDoor
open Go.RowKit Go.Shelf
attribute [local go_sem] eqNil neqNil

end Go.Proofs.YtaeekmlnfjimjaaGreatDoor
/-
  Contracts of package exact's naturals: the greatest common divisor.
-/
namespace Go.Proofs.YtaeekmlnfjimjaaGreatDoor
open Go.RowKit Go.Shelf
attribute [local go_sem] eqNil neqNil

theorem gcd_rest (a b : Int) : Int.gcd b (a % b) = Int.gcd a b := by
  have e := Int.mul_ediv_add_emod a b
  apply Nat.dvd_antisymm
  · apply Int.dvd_gcd
    · rw [← e]
      conv => lhs; rw [e]
      exact Int.dvd_add (Int.dvd_trans (Int.gcd_dvd_left ..) (Int.dvd_mul_right ..)) (Int.gcd_dvd_right ..)
    · exact Int.gcd_dvd_left ..
  · apply Int.dvd_gcd
    · exact Int.gcd_dvd_right ..
    · rw [show a % b = a - b * (a / b) by omega]
      exact Int.dvd_sub (Int.gcd_dvd_left ..) (Int.dvd_trans (Int.gcd_dvd_right ..) (Int.dvd_mul_right ..))

end Go.Proofs.YtaeekmlnfjimjaaGreatDoor
