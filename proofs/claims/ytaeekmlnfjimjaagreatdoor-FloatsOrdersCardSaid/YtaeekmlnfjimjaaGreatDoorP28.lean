/-
  FloatsOrders: a world in which the listed package variables read as the row lists them. No conditions.
-/
import Derived.Test.YtaeekmlnfjimjaaGreatDoorRows
import Derived.Test.YtaeekmlnfjimjaaGreatDoorP27
import Derived.ProofKit
import Derived.LaidMore
set_option linter.unusedVariables false
set_option linter.unusedSimpArgs false
set_option linter.unusedSectionVars false
namespace Go.Proofs.YtaeekmlnfjimjaaGreatDoor.floatsOrders
open Go.ChangeShapes Go.WideShapes Go.ChangeAt Go.RowKit Go.Canon

noncomputable def arg0 : Value := opV 0 0 0 0 0 0 0 0 0
/-- A WORLD FOR THE WITNESS: what the program's own texts lay, the pinned table by hand. -/
noncomputable def laidWorld (os : Os) : World :=
  { World.doorLaid Tryz.prog 77 os with heap := (World.doorLaid Tryz.prog 77 os).heap.modify 7 fun
      | .cells _ t frozen => .cells (Go.Pinned.utf8FirstZ.map fun (n : Nat) => Value.int .u8 n).toArray t frozen
      | o => o }
theorem laid_met (os : Os) : laidMet Tryz.prog Rows.floatsOrdersRow.laid ((laidWorld os).forCall (fun _ _ => 0) ⟨#[], #[arg0], []⟩).memory :=
  laidMet_of_run' 8 (by kernel_rfl) (by kernel_rfl)
theorem reads (os : Os) {H : Type} (enc : TypeId × Value → H) : ∃ places, DataW.whole enc Tryz.prog ((laidWorld os).forCall (fun _ _ => 0) ⟨#[], #[arg0], []⟩).memory Tryz.f4.params.toList Rows.floatsOrdersSpec.vars false #[arg0].toList 8 = some ([datO 0 0 0 0 0 0 0 0 0], [], places) :=
  ⟨[], by kernel_rfl⟩
end Go.Proofs.YtaeekmlnfjimjaaGreatDoor.floatsOrders
