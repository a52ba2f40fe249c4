/-
  DERIVED. GIVEN WITH THE SEED: THE CARDS: each row of YtnapiakfbihnjaaGreatDoorRows.lean that lists a variable, with what it lists TIED to the program's text (the seventh form; the later family's looks); each row that meets fmt, with fmt's text TOLD by the authors' own Lean function (tested against real Go, not proved from fmt's source: count such statements apart). THE CARD IS WHAT COUNTS. Prove the row's statement (the work); the ties are given (YtnapiakfbihnjaaGreatDoorTie.lean); close each card by the builder's one call (the guide's Derived/Test/ToyasCard.lean, 'card_holds'). Laid BY PROGRAM, IN A SANDBOX (cutbox-door.mjs). By AI agents, Wed Nov 11 2026. No macro, syntax, notation, axiom, sorry.
-/
import Derived.Test.YtnapiakfbihnjaaGreatDoorRows
import GoSem.ClaimSeven
namespace Go.Proofs.YtnapiakfbihnjaaGreatDoor
namespace Rows

/-- THE TIED CARD OF 'vernierlaw02.FloatsComputes'. -/
def floatsComputesCard : Claim7 := { stood := { row := floatsComputesRow, standIns := [], harness := (true, "c918b5076aad2b4c6ecc1c8e62f7d97c56c88d0bbb75536314d3634e620bc2c3"), looks := true }, kinds := [], alts := [], laidByText := true, laidKinds := [.data, .data, .data, .data, .sentinel, .sentinel, .data, .pinned], laidTests := true, laidLooks := .later }
def FloatsComputesCardSaid : Prop := Claim7.holds Tryz.pinned (.plain (OpenSpec.ofChange floatsComputesSpec)) floatsComputesCard

/-- THE TIED CARD OF 'vernierlaw02.FloatsMirrors'. -/
def floatsMirrorsCard : Claim7 := { stood := { row := floatsMirrorsRow, standIns := [], harness := (true, "c918b5076aad2b4c6ecc1c8e62f7d97c56c88d0bbb75536314d3634e620bc2c3"), looks := true }, kinds := [], alts := [], laidByText := true, laidKinds := [.data, .data, .data, .data, .sentinel, .sentinel, .data, .pinned], laidTests := true, laidLooks := .later }
def FloatsMirrorsCardSaid : Prop := Claim7.holds Tryz.pinned (.plain (OpenSpec.ofChange floatsMirrorsSpec)) floatsMirrorsCard

/-- THE SECOND FORM's CARD OF 'vernierlaw02.FloatsComputes'. -/
def floatsComputesUptoCard : Claim7 := { stood := { row := floatsComputesUptoRow, standIns := [], harness := (true, "c918b5076aad2b4c6ecc1c8e62f7d97c56c88d0bbb75536314d3634e620bc2c3"), looks := true }, kinds := [], alts := [], laidByText := true, laidKinds := [.data, .data, .data, .data, .sentinel, .sentinel, .data, .pinned], laidTests := true, laidLooks := .later }
def FloatsComputesUptoCardSaid : Prop := Claim7.holds Tryz.pinned (.plain (OpenSpec.upto floatsComputesSpec)) floatsComputesUptoCard

/-- THE SECOND FORM's CARD OF 'vernierlaw02.FloatsMirrors'. -/
def floatsMirrorsUptoCard : Claim7 := { stood := { row := floatsMirrorsUptoRow, standIns := [], harness := (true, "c918b5076aad2b4c6ecc1c8e62f7d97c56c88d0bbb75536314d3634e620bc2c3"), looks := true }, kinds := [], alts := [], laidByText := true, laidKinds := [.data, .data, .data, .data, .sentinel, .sentinel, .data, .pinned], laidTests := true, laidLooks := .later }
def FloatsMirrorsUptoCardSaid : Prop := Claim7.holds Tryz.pinned (.plain (OpenSpec.upto floatsMirrorsSpec)) floatsMirrorsUptoCard
end Rows
end Go.Proofs.YtnapiakfbihnjaaGreatDoor
