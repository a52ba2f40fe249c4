/-
  DERIVED. GIVEN WITH THE SEED: THE CARDS: each row of YtebibadldcempaaGreatDoorRows.lean that lists a variable, with what it lists TIED to the program's text (the seventh form; the later family's looks); each row that meets fmt, with fmt's text TOLD by the authors' own Lean function (tested against real Go, not proved from fmt's source: count such statements apart). THE CARD IS WHAT COUNTS. Prove the row's statement (the work); the ties are given (YtebibadldcempaaGreatDoorTie.lean); close each card by the builder's one call (the guide's Derived/Test/ToyasCard.lean, 'card_holds'). Laid BY PROGRAM, IN A SANDBOX (cutbox-door.mjs). By AI agents, Wed Nov 11 2026. No macro, syntax, notation, axiom, sorry.
-/
import Derived.Test.YtebibadldcempaaGreatDoorRows
import GoSem.ClaimSeven
namespace Go.Proofs.YtebibadldcempaaGreatDoor
namespace Rows

/-- THE TIED CARD OF 'vernierlaw02.FloatsErrs'. -/
def floatsErrsCard : Claim7 := { stood := { row := floatsErrsRow, standIns := [], harness := (true, "12c52776333a7e06684fbe284538d35cfcae347a37359922d517596054a69207"), looks := true }, kinds := [], alts := [], laidByText := true, laidKinds := [.data, .data, .data, .data, .sentinel, .sentinel, .data, .pinned], laidTests := true, laidLooks := .later }
def FloatsErrsCardSaid : Prop := Claim7.holds Tryz.pinned (.plain (OpenSpec.ofChange floatsErrsSpec)) floatsErrsCard

/-- THE TIED CARD OF 'vernierlaw02.FloatsRemains'. -/
def floatsRemainsCard : Claim7 := { stood := { row := floatsRemainsRow, standIns := [], harness := (true, "12c52776333a7e06684fbe284538d35cfcae347a37359922d517596054a69207"), looks := true }, kinds := [], alts := [], laidByText := true, laidKinds := [.data, .data, .data, .data, .sentinel, .sentinel, .data, .pinned], laidTests := true, laidLooks := .later }
def FloatsRemainsCardSaid : Prop := Claim7.holds Tryz.pinned (.plain (OpenSpec.ofChange floatsRemainsSpec)) floatsRemainsCard

/-- THE TIED CARD OF 'vernierlaw02.FloatsMirrors'. -/
def floatsMirrorsCard : Claim7 := { stood := { row := floatsMirrorsRow, standIns := [], harness := (true, "12c52776333a7e06684fbe284538d35cfcae347a37359922d517596054a69207"), looks := true }, kinds := [], alts := [], laidByText := true, laidKinds := [.data, .data, .data, .data, .sentinel, .sentinel, .data, .pinned], laidTests := true, laidLooks := .later }
def FloatsMirrorsCardSaid : Prop := Claim7.holds Tryz.pinned (.plain (OpenSpec.ofChange floatsMirrorsSpec)) floatsMirrorsCard

/-- THE TIED CARD OF 'vernierlaw02.FloatsWider'. -/
def floatsWiderCard : Claim7 := { stood := { row := floatsWiderRow, standIns := [], harness := (true, "12c52776333a7e06684fbe284538d35cfcae347a37359922d517596054a69207"), looks := true }, kinds := [], alts := [], laidByText := true, laidKinds := [.data, .data, .data, .data, .sentinel, .sentinel, .data, .pinned], laidTests := true, laidLooks := .later }
def FloatsWiderCardSaid : Prop := Claim7.holds Tryz.pinned (.plain (OpenSpec.ofChange floatsWiderSpec)) floatsWiderCard

/-- THE SECOND FORM's CARD OF 'vernierlaw02.FloatsErrs'. -/
def floatsErrsUptoCard : Claim7 := { stood := { row := floatsErrsUptoRow, standIns := [], harness := (true, "12c52776333a7e06684fbe284538d35cfcae347a37359922d517596054a69207"), looks := true }, kinds := [], alts := [], laidByText := true, laidKinds := [.data, .data, .data, .data, .sentinel, .sentinel, .data, .pinned], laidTests := true, laidLooks := .later }
def FloatsErrsUptoCardSaid : Prop := Claim7.holds Tryz.pinned (.plain (OpenSpec.upto floatsErrsSpec)) floatsErrsUptoCard

/-- THE SECOND FORM's CARD OF 'vernierlaw02.FloatsRemains'. -/
def floatsRemainsUptoCard : Claim7 := { stood := { row := floatsRemainsUptoRow, standIns := [], harness := (true, "12c52776333a7e06684fbe284538d35cfcae347a37359922d517596054a69207"), looks := true }, kinds := [], alts := [], laidByText := true, laidKinds := [.data, .data, .data, .data, .sentinel, .sentinel, .data, .pinned], laidTests := true, laidLooks := .later }
def FloatsRemainsUptoCardSaid : Prop := Claim7.holds Tryz.pinned (.plain (OpenSpec.upto floatsRemainsSpec)) floatsRemainsUptoCard

/-- THE SECOND FORM's CARD OF 'vernierlaw02.FloatsMirrors'. -/
def floatsMirrorsUptoCard : Claim7 := { stood := { row := floatsMirrorsUptoRow, standIns := [], harness := (true, "12c52776333a7e06684fbe284538d35cfcae347a37359922d517596054a69207"), looks := true }, kinds := [], alts := [], laidByText := true, laidKinds := [.data, .data, .data, .data, .sentinel, .sentinel, .data, .pinned], laidTests := true, laidLooks := .later }
def FloatsMirrorsUptoCardSaid : Prop := Claim7.holds Tryz.pinned (.plain (OpenSpec.upto floatsMirrorsSpec)) floatsMirrorsUptoCard

/-- THE SECOND FORM's CARD OF 'vernierlaw02.FloatsWider'. -/
def floatsWiderUptoCard : Claim7 := { stood := { row := floatsWiderUptoRow, standIns := [], harness := (true, "12c52776333a7e06684fbe284538d35cfcae347a37359922d517596054a69207"), looks := true }, kinds := [], alts := [], laidByText := true, laidKinds := [.data, .data, .data, .data, .sentinel, .sentinel, .data, .pinned], laidTests := true, laidLooks := .later }
def FloatsWiderUptoCardSaid : Prop := Claim7.holds Tryz.pinned (.plain (OpenSpec.upto floatsWiderSpec)) floatsWiderUptoCard
end Rows
end Go.Proofs.YtebibadldcempaaGreatDoor
