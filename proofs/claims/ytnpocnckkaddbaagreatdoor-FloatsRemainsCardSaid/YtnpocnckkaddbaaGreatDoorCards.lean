/-
  DERIVED. GIVEN WITH THE SEED: THE CARDS: each row of YtnpocnckkaddbaaGreatDoorRows.lean that lists a variable, with what it lists TIED to the program's text (the seventh form; the later family's looks); each row that meets fmt, with fmt's text TOLD by the authors' own Lean function (tested against real Go, not proved from fmt's source: count such statements apart). THE CARD IS WHAT COUNTS. Prove the row's statement (the work); the ties are given (YtnpocnckkaddbaaGreatDoorTie.lean); close each card by the builder's one call (the guide's Derived/Test/ToyasCard.lean, 'card_holds'). Laid BY PROGRAM, IN A SANDBOX (cutbox-door.mjs). By AI agents, Wed Nov 11 2026. No macro, syntax, notation, axiom, sorry.
-/
import Derived.Test.YtnpocnckkaddbaaGreatDoorRows
import GoSem.ClaimSeven
namespace Go.Proofs.YtnpocnckkaddbaaGreatDoor
namespace Rows

/-- THE TIED CARD OF 'vernierlaw02.FloatsComputes'. -/
def floatsComputesCard : Claim7 := { stood := { row := floatsComputesRow, standIns := [], harness := (true, "0b5266fb4d96c8687366b9fcdedb8ca6595b1e2c9d1c712e8a78d5018f8cb446"), looks := true }, kinds := [], alts := [], laidByText := true, laidKinds := [.data, .data, .data, .data, .sentinel, .sentinel, .data, .pinned], laidTests := true, laidLooks := .later }
def FloatsComputesCardSaid : Prop := Claim7.holds Tryz.pinned (.plain (OpenSpec.ofChange floatsComputesSpec)) floatsComputesCard

/-- THE TIED CARD OF 'vernierlaw02.FloatsOrders'. -/
def floatsOrdersCard : Claim7 := { stood := { row := floatsOrdersRow, standIns := [], harness := (true, "0b5266fb4d96c8687366b9fcdedb8ca6595b1e2c9d1c712e8a78d5018f8cb446"), looks := true }, kinds := [], alts := [], laidByText := true, laidKinds := [.data, .data, .data, .data, .sentinel, .sentinel, .data, .pinned], laidTests := true, laidLooks := .later }
def FloatsOrdersCardSaid : Prop := Claim7.holds Tryz.pinned (.plain (OpenSpec.ofChange floatsOrdersSpec)) floatsOrdersCard

/-- THE TIED CARD OF 'vernierlaw02.FloatsRemains'. -/
def floatsRemainsCard : Claim7 := { stood := { row := floatsRemainsRow, standIns := [], harness := (true, "0b5266fb4d96c8687366b9fcdedb8ca6595b1e2c9d1c712e8a78d5018f8cb446"), looks := true }, kinds := [], alts := [], laidByText := true, laidKinds := [.data, .data, .data, .data, .sentinel, .sentinel, .data, .pinned], laidTests := true, laidLooks := .later }
def FloatsRemainsCardSaid : Prop := Claim7.holds Tryz.pinned (.plain (OpenSpec.ofChange floatsRemainsSpec)) floatsRemainsCard

/-- THE TIED CARD OF 'vernierlaw02.FloatsMirrors'. -/
def floatsMirrorsCard : Claim7 := { stood := { row := floatsMirrorsRow, standIns := [], harness := (true, "0b5266fb4d96c8687366b9fcdedb8ca6595b1e2c9d1c712e8a78d5018f8cb446"), looks := true }, kinds := [], alts := [], laidByText := true, laidKinds := [.data, .data, .data, .data, .sentinel, .sentinel, .data, .pinned], laidTests := true, laidLooks := .later }
def FloatsMirrorsCardSaid : Prop := Claim7.holds Tryz.pinned (.plain (OpenSpec.ofChange floatsMirrorsSpec)) floatsMirrorsCard

/-- THE SECOND FORM's CARD OF 'vernierlaw02.FloatsComputes'. -/
def floatsComputesUptoCard : Claim7 := { stood := { row := floatsComputesUptoRow, standIns := [], harness := (true, "0b5266fb4d96c8687366b9fcdedb8ca6595b1e2c9d1c712e8a78d5018f8cb446"), looks := true }, kinds := [], alts := [], laidByText := true, laidKinds := [.data, .data, .data, .data, .sentinel, .sentinel, .data, .pinned], laidTests := true, laidLooks := .later }
def FloatsComputesUptoCardSaid : Prop := Claim7.holds Tryz.pinned (.plain (OpenSpec.upto floatsComputesSpec)) floatsComputesUptoCard

/-- THE SECOND FORM's CARD OF 'vernierlaw02.FloatsOrders'. -/
def floatsOrdersUptoCard : Claim7 := { stood := { row := floatsOrdersUptoRow, standIns := [], harness := (true, "0b5266fb4d96c8687366b9fcdedb8ca6595b1e2c9d1c712e8a78d5018f8cb446"), looks := true }, kinds := [], alts := [], laidByText := true, laidKinds := [.data, .data, .data, .data, .sentinel, .sentinel, .data, .pinned], laidTests := true, laidLooks := .later }
def FloatsOrdersUptoCardSaid : Prop := Claim7.holds Tryz.pinned (.plain (OpenSpec.upto floatsOrdersSpec)) floatsOrdersUptoCard

/-- THE SECOND FORM's CARD OF 'vernierlaw02.FloatsRemains'. -/
def floatsRemainsUptoCard : Claim7 := { stood := { row := floatsRemainsUptoRow, standIns := [], harness := (true, "0b5266fb4d96c8687366b9fcdedb8ca6595b1e2c9d1c712e8a78d5018f8cb446"), looks := true }, kinds := [], alts := [], laidByText := true, laidKinds := [.data, .data, .data, .data, .sentinel, .sentinel, .data, .pinned], laidTests := true, laidLooks := .later }
def FloatsRemainsUptoCardSaid : Prop := Claim7.holds Tryz.pinned (.plain (OpenSpec.upto floatsRemainsSpec)) floatsRemainsUptoCard

/-- THE SECOND FORM's CARD OF 'vernierlaw02.FloatsMirrors'. -/
def floatsMirrorsUptoCard : Claim7 := { stood := { row := floatsMirrorsUptoRow, standIns := [], harness := (true, "0b5266fb4d96c8687366b9fcdedb8ca6595b1e2c9d1c712e8a78d5018f8cb446"), looks := true }, kinds := [], alts := [], laidByText := true, laidKinds := [.data, .data, .data, .data, .sentinel, .sentinel, .data, .pinned], laidTests := true, laidLooks := .later }
def FloatsMirrorsUptoCardSaid : Prop := Claim7.holds Tryz.pinned (.plain (OpenSpec.upto floatsMirrorsSpec)) floatsMirrorsUptoCard
end Rows
end Go.Proofs.YtnpocnckkaddbaaGreatDoor
