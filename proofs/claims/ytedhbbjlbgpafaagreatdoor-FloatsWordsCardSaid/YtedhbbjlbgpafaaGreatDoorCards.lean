/-
  DERIVED. GIVEN WITH THE SEED: THE CARDS: each row of YtedhbbjlbgpafaaGreatDoorRows.lean that lists a variable, with what it lists TIED to the program's text (the seventh form; the later family's looks); each row that meets fmt, with fmt's text TOLD by the authors' own Lean function (tested against real Go, not proved from fmt's source: count such statements apart). THE CARD IS WHAT COUNTS. Prove the row's statement (the work); the ties are given (YtedhbbjlbgpafaaGreatDoorTie.lean); close each card by the builder's one call (the guide's Derived/Test/ToyasCard.lean, 'card_holds'). Laid BY PROGRAM, IN A SANDBOX (cutbox-door.mjs). By AI agents, Wed Nov 11 2026. No macro, syntax, notation, axiom, sorry.
-/
import Derived.Test.YtedhbbjlbgpafaaGreatDoorRows
import GoSem.ClaimSeven
namespace Go.Proofs.YtedhbbjlbgpafaaGreatDoor
namespace Rows

/-- THE TIED CARD OF 'vernierlaw02.FloatsComputes'. -/
def floatsComputesCard : Claim7 := { stood := { row := floatsComputesRow, standIns := [], harness := (true, "337f412838b6d1d39b2c27550d99bfd4a927d354d3b3a5d595d7c7e826932dfb"), looks := true }, kinds := [], alts := [], laidByText := true, laidKinds := [.data, .data, .data, .data, .sentinel, .sentinel, .data, .pinned], laidTests := true, laidLooks := .later }
def FloatsComputesCardSaid : Prop := Claim7.holds Tryz.pinned (.plain (OpenSpec.ofChange floatsComputesSpec)) floatsComputesCard

/-- THE TIED CARD OF 'vernierlaw02.FloatsWords'. -/
def floatsWordsCard : Claim7 := { stood := { row := floatsWordsRow, standIns := [], harness := (true, "337f412838b6d1d39b2c27550d99bfd4a927d354d3b3a5d595d7c7e826932dfb"), looks := true }, kinds := [], alts := [], laidByText := true, laidKinds := [.data, .data, .data, .data, .sentinel, .sentinel, .data, .pinned], laidTests := true, laidLooks := .later }
def FloatsWordsCardSaid : Prop := Claim7.holds Tryz.pinned (.plain (OpenSpec.ofChange floatsWordsSpec)) floatsWordsCard

/-- THE TIED CARD OF 'vernierlaw02.FloatsMirrors'. -/
def floatsMirrorsCard : Claim7 := { stood := { row := floatsMirrorsRow, standIns := [], harness := (true, "337f412838b6d1d39b2c27550d99bfd4a927d354d3b3a5d595d7c7e826932dfb"), looks := true }, kinds := [], alts := [], laidByText := true, laidKinds := [.data, .data, .data, .data, .sentinel, .sentinel, .data, .pinned], laidTests := true, laidLooks := .later }
def FloatsMirrorsCardSaid : Prop := Claim7.holds Tryz.pinned (.plain (OpenSpec.ofChange floatsMirrorsSpec)) floatsMirrorsCard

/-- THE SECOND FORM's CARD OF 'vernierlaw02.FloatsComputes'. -/
def floatsComputesUptoCard : Claim7 := { stood := { row := floatsComputesUptoRow, standIns := [], harness := (true, "337f412838b6d1d39b2c27550d99bfd4a927d354d3b3a5d595d7c7e826932dfb"), looks := true }, kinds := [], alts := [], laidByText := true, laidKinds := [.data, .data, .data, .data, .sentinel, .sentinel, .data, .pinned], laidTests := true, laidLooks := .later }
def FloatsComputesUptoCardSaid : Prop := Claim7.holds Tryz.pinned (.plain (OpenSpec.upto floatsComputesSpec)) floatsComputesUptoCard

/-- THE SECOND FORM's CARD OF 'vernierlaw02.FloatsWords'. -/
def floatsWordsUptoCard : Claim7 := { stood := { row := floatsWordsUptoRow, standIns := [], harness := (true, "337f412838b6d1d39b2c27550d99bfd4a927d354d3b3a5d595d7c7e826932dfb"), looks := true }, kinds := [], alts := [], laidByText := true, laidKinds := [.data, .data, .data, .data, .sentinel, .sentinel, .data, .pinned], laidTests := true, laidLooks := .later }
def FloatsWordsUptoCardSaid : Prop := Claim7.holds Tryz.pinned (.plain (OpenSpec.upto floatsWordsSpec)) floatsWordsUptoCard

/-- THE SECOND FORM's CARD OF 'vernierlaw02.FloatsMirrors'. -/
def floatsMirrorsUptoCard : Claim7 := { stood := { row := floatsMirrorsUptoRow, standIns := [], harness := (true, "337f412838b6d1d39b2c27550d99bfd4a927d354d3b3a5d595d7c7e826932dfb"), looks := true }, kinds := [], alts := [], laidByText := true, laidKinds := [.data, .data, .data, .data, .sentinel, .sentinel, .data, .pinned], laidTests := true, laidLooks := .later }
def FloatsMirrorsUptoCardSaid : Prop := Claim7.holds Tryz.pinned (.plain (OpenSpec.upto floatsMirrorsSpec)) floatsMirrorsUptoCard
end Rows
end Go.Proofs.YtedhbbjlbgpafaaGreatDoor
