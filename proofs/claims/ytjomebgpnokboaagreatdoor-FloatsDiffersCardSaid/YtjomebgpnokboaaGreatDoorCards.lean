/-
  DERIVED. GIVEN WITH THE SEED: THE CARDS: each row of YtjomebgpnokboaaGreatDoorRows.lean that lists a variable, with what it lists TIED to the program's text (the seventh form; the later family's looks); each row that meets fmt, with fmt's text TOLD by the authors' own Lean function (tested against real Go, not proved from fmt's source: count such statements apart). THE CARD IS WHAT COUNTS. Prove the row's statement (the work); the ties are given (YtjomebgpnokboaaGreatDoorTie.lean); close each card by the builder's one call (the guide's Derived/Test/ToyasCard.lean, 'card_holds'). Laid BY PROGRAM, IN A SANDBOX (cutbox-door.mjs). By AI agents, Wed Nov 11 2026. No macro, syntax, notation, axiom, sorry.
-/
import Derived.Test.YtjomebgpnokboaaGreatDoorRows
import GoSem.ClaimSeven
namespace Go.Proofs.YtjomebgpnokboaaGreatDoor
namespace Rows

/-- THE TIED CARD OF 'vernierlaw02.FloatsDiffers'. -/
def floatsDiffersCard : Claim7 := { stood := { row := floatsDiffersRow, standIns := [], harness := (true, "d02ac3bfd59fed92a65911b02ca7f9763a9ae32187f5dd12a0857cce60fada22"), looks := true }, kinds := [], alts := [], laidByText := true, laidKinds := [.data, .data, .data, .data, .sentinel, .sentinel, .data, .pinned], laidTests := true, laidLooks := .later }
def FloatsDiffersCardSaid : Prop := Claim7.holds Tryz.pinned (.plain (OpenSpec.ofChange floatsDiffersSpec)) floatsDiffersCard

/-- THE TIED CARD OF 'vernierlaw02.FloatsErrs'. -/
def floatsErrsCard : Claim7 := { stood := { row := floatsErrsRow, standIns := [], harness := (true, "d02ac3bfd59fed92a65911b02ca7f9763a9ae32187f5dd12a0857cce60fada22"), looks := true }, kinds := [], alts := [], laidByText := true, laidKinds := [.data, .data, .data, .data, .sentinel, .sentinel, .data, .pinned], laidTests := true, laidLooks := .later }
def FloatsErrsCardSaid : Prop := Claim7.holds Tryz.pinned (.plain (OpenSpec.ofChange floatsErrsSpec)) floatsErrsCard

/-- THE TIED CARD OF 'vernierlaw02.FloatsWider'. -/
def floatsWiderCard : Claim7 := { stood := { row := floatsWiderRow, standIns := [], harness := (true, "d02ac3bfd59fed92a65911b02ca7f9763a9ae32187f5dd12a0857cce60fada22"), looks := true }, kinds := [], alts := [], laidByText := true, laidKinds := [.data, .data, .data, .data, .sentinel, .sentinel, .data, .pinned], laidTests := true, laidLooks := .later }
def FloatsWiderCardSaid : Prop := Claim7.holds Tryz.pinned (.plain (OpenSpec.ofChange floatsWiderSpec)) floatsWiderCard

/-- THE SECOND FORM's CARD OF 'vernierlaw02.FloatsDiffers'. -/
def floatsDiffersUptoCard : Claim7 := { stood := { row := floatsDiffersUptoRow, standIns := [], harness := (true, "d02ac3bfd59fed92a65911b02ca7f9763a9ae32187f5dd12a0857cce60fada22"), looks := true }, kinds := [], alts := [], laidByText := true, laidKinds := [.data, .data, .data, .data, .sentinel, .sentinel, .data, .pinned], laidTests := true, laidLooks := .later }
def FloatsDiffersUptoCardSaid : Prop := Claim7.holds Tryz.pinned (.plain (OpenSpec.upto floatsDiffersSpec)) floatsDiffersUptoCard

/-- THE SECOND FORM's CARD OF 'vernierlaw02.FloatsErrs'. -/
def floatsErrsUptoCard : Claim7 := { stood := { row := floatsErrsUptoRow, standIns := [], harness := (true, "d02ac3bfd59fed92a65911b02ca7f9763a9ae32187f5dd12a0857cce60fada22"), looks := true }, kinds := [], alts := [], laidByText := true, laidKinds := [.data, .data, .data, .data, .sentinel, .sentinel, .data, .pinned], laidTests := true, laidLooks := .later }
def FloatsErrsUptoCardSaid : Prop := Claim7.holds Tryz.pinned (.plain (OpenSpec.upto floatsErrsSpec)) floatsErrsUptoCard

/-- THE SECOND FORM's CARD OF 'vernierlaw02.FloatsWider'. -/
def floatsWiderUptoCard : Claim7 := { stood := { row := floatsWiderUptoRow, standIns := [], harness := (true, "d02ac3bfd59fed92a65911b02ca7f9763a9ae32187f5dd12a0857cce60fada22"), looks := true }, kinds := [], alts := [], laidByText := true, laidKinds := [.data, .data, .data, .data, .sentinel, .sentinel, .data, .pinned], laidTests := true, laidLooks := .later }
def FloatsWiderUptoCardSaid : Prop := Claim7.holds Tryz.pinned (.plain (OpenSpec.upto floatsWiderSpec)) floatsWiderUptoCard
end Rows
end Go.Proofs.YtjomebgpnokboaaGreatDoor
