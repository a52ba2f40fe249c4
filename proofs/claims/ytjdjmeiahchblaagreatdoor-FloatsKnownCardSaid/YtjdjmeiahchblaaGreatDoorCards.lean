/-
  DERIVED. GIVEN WITH THE SEED: THE CARDS: each row of YtjdjmeiahchblaaGreatDoorRows.lean that lists a variable, with what it lists TIED to the program's text (the seventh form; the later family's looks); each row that meets fmt, with fmt's text TOLD by the authors' own Lean function (tested against real Go, not proved from fmt's source: count such statements apart). THE CARD IS WHAT COUNTS. Prove the row's statement (the work); the ties are given (YtjdjmeiahchblaaGreatDoorTie.lean); close each card by the builder's one call (the guide's Derived/Test/ToyasCard.lean, 'card_holds'). Laid BY PROGRAM, IN A SANDBOX (cutbox-door.mjs). By AI agents, Wed Nov 11 2026. No macro, syntax, notation, axiom, sorry.
-/
import Derived.Test.YtjdjmeiahchblaaGreatDoorRows
import GoSem.ClaimSeven
namespace Go.Proofs.YtjdjmeiahchblaaGreatDoor
namespace Rows

/-- THE TIED CARD OF 'vernierlaw02.FloatsDiffers'. -/
def floatsDiffersCard : Claim7 := { stood := { row := floatsDiffersRow, standIns := [], harness := (true, "16410a184fc1ed52c25062b4a43c39712f802b4be9c2aa1bea5a9ba0363f1e5c"), looks := true }, kinds := [], alts := [], laidByText := true, laidKinds := [.data, .data, .data, .data, .sentinel, .sentinel, .data, .pinned], laidTests := true, laidLooks := .later }
def FloatsDiffersCardSaid : Prop := Claim7.holds Tryz.pinned (.plain (OpenSpec.ofChange floatsDiffersSpec)) floatsDiffersCard

/-- THE TIED CARD OF 'vernierlaw02.FloatsErrs'. -/
def floatsErrsCard : Claim7 := { stood := { row := floatsErrsRow, standIns := [], harness := (true, "16410a184fc1ed52c25062b4a43c39712f802b4be9c2aa1bea5a9ba0363f1e5c"), looks := true }, kinds := [], alts := [], laidByText := true, laidKinds := [.data, .data, .data, .data, .sentinel, .sentinel, .data, .pinned], laidTests := true, laidLooks := .later }
def FloatsErrsCardSaid : Prop := Claim7.holds Tryz.pinned (.plain (OpenSpec.ofChange floatsErrsSpec)) floatsErrsCard

/-- THE TIED CARD OF 'vernierlaw02.FloatsRemains'. -/
def floatsRemainsCard : Claim7 := { stood := { row := floatsRemainsRow, standIns := [], harness := (true, "16410a184fc1ed52c25062b4a43c39712f802b4be9c2aa1bea5a9ba0363f1e5c"), looks := true }, kinds := [], alts := [], laidByText := true, laidKinds := [.data, .data, .data, .data, .sentinel, .sentinel, .data, .pinned], laidTests := true, laidLooks := .later }
def FloatsRemainsCardSaid : Prop := Claim7.holds Tryz.pinned (.plain (OpenSpec.ofChange floatsRemainsSpec)) floatsRemainsCard

/-- THE TIED CARD OF 'vernierlaw02.FloatsWords'. -/
def floatsWordsCard : Claim7 := { stood := { row := floatsWordsRow, standIns := [], harness := (true, "16410a184fc1ed52c25062b4a43c39712f802b4be9c2aa1bea5a9ba0363f1e5c"), looks := true }, kinds := [], alts := [], laidByText := true, laidKinds := [.data, .data, .data, .data, .sentinel, .sentinel, .data, .pinned], laidTests := true, laidLooks := .later }
def FloatsWordsCardSaid : Prop := Claim7.holds Tryz.pinned (.plain (OpenSpec.ofChange floatsWordsSpec)) floatsWordsCard

/-- THE TIED CARD OF 'vernierlaw02.FloatsWider'. -/
def floatsWiderCard : Claim7 := { stood := { row := floatsWiderRow, standIns := [], harness := (true, "16410a184fc1ed52c25062b4a43c39712f802b4be9c2aa1bea5a9ba0363f1e5c"), looks := true }, kinds := [], alts := [], laidByText := true, laidKinds := [.data, .data, .data, .data, .sentinel, .sentinel, .data, .pinned], laidTests := true, laidLooks := .later }
def FloatsWiderCardSaid : Prop := Claim7.holds Tryz.pinned (.plain (OpenSpec.ofChange floatsWiderSpec)) floatsWiderCard

/-- THE TIED CARD OF 'vernierlaw02.FloatsKnown'. -/
def floatsKnownCard : Claim7 := { stood := { row := floatsKnownRow, standIns := [], harness := (true, "16410a184fc1ed52c25062b4a43c39712f802b4be9c2aa1bea5a9ba0363f1e5c"), looks := true }, kinds := [], alts := [], laidByText := true, laidKinds := [.data, .data, .data, .data, .sentinel, .sentinel, .data, .pinned], laidTests := true, laidLooks := .later }
def FloatsKnownCardSaid : Prop := Claim7.holds Tryz.pinned (.plain (OpenSpec.ofChange floatsKnownSpec)) floatsKnownCard

/-- THE SECOND FORM's CARD OF 'vernierlaw02.FloatsDiffers'. -/
def floatsDiffersUptoCard : Claim7 := { stood := { row := floatsDiffersUptoRow, standIns := [], harness := (true, "16410a184fc1ed52c25062b4a43c39712f802b4be9c2aa1bea5a9ba0363f1e5c"), looks := true }, kinds := [], alts := [], laidByText := true, laidKinds := [.data, .data, .data, .data, .sentinel, .sentinel, .data, .pinned], laidTests := true, laidLooks := .later }
def FloatsDiffersUptoCardSaid : Prop := Claim7.holds Tryz.pinned (.plain (OpenSpec.upto floatsDiffersSpec)) floatsDiffersUptoCard

/-- THE SECOND FORM's CARD OF 'vernierlaw02.FloatsErrs'. -/
def floatsErrsUptoCard : Claim7 := { stood := { row := floatsErrsUptoRow, standIns := [], harness := (true, "16410a184fc1ed52c25062b4a43c39712f802b4be9c2aa1bea5a9ba0363f1e5c"), looks := true }, kinds := [], alts := [], laidByText := true, laidKinds := [.data, .data, .data, .data, .sentinel, .sentinel, .data, .pinned], laidTests := true, laidLooks := .later }
def FloatsErrsUptoCardSaid : Prop := Claim7.holds Tryz.pinned (.plain (OpenSpec.upto floatsErrsSpec)) floatsErrsUptoCard

/-- THE SECOND FORM's CARD OF 'vernierlaw02.FloatsRemains'. -/
def floatsRemainsUptoCard : Claim7 := { stood := { row := floatsRemainsUptoRow, standIns := [], harness := (true, "16410a184fc1ed52c25062b4a43c39712f802b4be9c2aa1bea5a9ba0363f1e5c"), looks := true }, kinds := [], alts := [], laidByText := true, laidKinds := [.data, .data, .data, .data, .sentinel, .sentinel, .data, .pinned], laidTests := true, laidLooks := .later }
def FloatsRemainsUptoCardSaid : Prop := Claim7.holds Tryz.pinned (.plain (OpenSpec.upto floatsRemainsSpec)) floatsRemainsUptoCard

/-- THE SECOND FORM's CARD OF 'vernierlaw02.FloatsWords'. -/
def floatsWordsUptoCard : Claim7 := { stood := { row := floatsWordsUptoRow, standIns := [], harness := (true, "16410a184fc1ed52c25062b4a43c39712f802b4be9c2aa1bea5a9ba0363f1e5c"), looks := true }, kinds := [], alts := [], laidByText := true, laidKinds := [.data, .data, .data, .data, .sentinel, .sentinel, .data, .pinned], laidTests := true, laidLooks := .later }
def FloatsWordsUptoCardSaid : Prop := Claim7.holds Tryz.pinned (.plain (OpenSpec.upto floatsWordsSpec)) floatsWordsUptoCard

/-- THE SECOND FORM's CARD OF 'vernierlaw02.FloatsWider'. -/
def floatsWiderUptoCard : Claim7 := { stood := { row := floatsWiderUptoRow, standIns := [], harness := (true, "16410a184fc1ed52c25062b4a43c39712f802b4be9c2aa1bea5a9ba0363f1e5c"), looks := true }, kinds := [], alts := [], laidByText := true, laidKinds := [.data, .data, .data, .data, .sentinel, .sentinel, .data, .pinned], laidTests := true, laidLooks := .later }
def FloatsWiderUptoCardSaid : Prop := Claim7.holds Tryz.pinned (.plain (OpenSpec.upto floatsWiderSpec)) floatsWiderUptoCard

/-- THE SECOND FORM's CARD OF 'vernierlaw02.FloatsKnown'. -/
def floatsKnownUptoCard : Claim7 := { stood := { row := floatsKnownUptoRow, standIns := [], harness := (true, "16410a184fc1ed52c25062b4a43c39712f802b4be9c2aa1bea5a9ba0363f1e5c"), looks := true }, kinds := [], alts := [], laidByText := true, laidKinds := [.data, .data, .data, .data, .sentinel, .sentinel, .data, .pinned], laidTests := true, laidLooks := .later }
def FloatsKnownUptoCardSaid : Prop := Claim7.holds Tryz.pinned (.plain (OpenSpec.upto floatsKnownSpec)) floatsKnownUptoCard
end Rows
end Go.Proofs.YtjdjmeiahchblaaGreatDoor
