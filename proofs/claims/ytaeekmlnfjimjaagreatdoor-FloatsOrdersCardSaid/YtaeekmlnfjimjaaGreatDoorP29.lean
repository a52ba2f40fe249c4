/-
  Contracts of package exact: common, without.
-/
import Derived.Test.YtaeekmlnfjimjaaGreatDoorP18
import Derived.Test.YtaeekmlnfjimjaaGreatDoorP13
import Derived.Test.YtaeekmlnfjimjaaGreatDoorP14
import Derived.Deep.RegionHeld3
set_option linter.unusedVariables false
set_option linter.unusedSimpArgs false
set_option linter.unusedSectionVars false
namespace Go.Proofs.YtaeekmlnfjimjaaGreatDoor
open Go.RowKit Go.Shelf
attribute [local go_sem] eqNil neqNil

end Go.Proofs.YtaeekmlnfjimjaaGreatDoor
/-
  Contracts of package exact's numbers with a divisor: fraction in lowest terms, inverse.
-/
namespace Go.Proofs.YtaeekmlnfjimjaaGreatDoor
open Go.RowKit Go.Shelf
attribute [local go_sem] eqNil neqNil

end Go.Proofs.YtaeekmlnfjimjaaGreatDoor
/-
  Contract of package exact's Mul, for any two numbers (of each pair of factors one below 2^2496).
-/
namespace Go.Proofs.YtaeekmlnfjimjaaGreatDoor
open Go.RowKit Go.Shelf
attribute [local go_sem] eqNil neqNil

/-- three boxes behind a call's begin -/
structure Thr (w W : World) (g : Nat) (A B C : Array Value) : Prop where
  bel : Below w.heap.size w W
  a : Box W g A
  b : Box W (g + 1) B
  c : Box W (g + 1 + 1) C
theorem Thr.next {w W W' : World} {g : Nat} {A B C : Array Value} (h : Thr w W g A B C) (hb : Below W.heap.size W W') : Thr w W' g A B C :=
  ⟨h.bel.trans (hb.mono h.bel.size), h.a.below hb, h.b.below hb, h.c.below hb⟩

theorem drew_below (w : World) : Below w.heap.size w w.drew := (Drw.step w 1).below _
end Go.Proofs.YtaeekmlnfjimjaaGreatDoor
