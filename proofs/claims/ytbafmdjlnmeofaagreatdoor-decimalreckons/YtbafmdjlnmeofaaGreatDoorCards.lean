/-
  DERIVED. GIVEN WITH THE SEED: THE CARDS: each row of YtbafmdjlnmeofaaGreatDoorRows.lean that lists a variable, with what it lists TIED to the program's text (the seventh form; the later family's looks); each row that meets fmt, with fmt's text TOLD by the authors' own Lean function (tested against real Go, not proved from fmt's source: count such statements apart). THE CARD IS WHAT COUNTS. Prove the row's statement (the work); the ties are given (YtbafmdjlnmeofaaGreatDoorTie.lean); close each card by the builder's one call (the guide's Derived/Test/ToyasCard.lean, 'card_holds'). Laid BY PROGRAM, IN A SANDBOX (cutbox-door.mjs). By AI agents, Wed Nov 11 2026. No macro, syntax, notation, axiom, sorry.
-/
import Derived.Test.YtbafmdjlnmeofaaGreatDoorRows
import GoSem.ClaimSeven
namespace Go.Proofs.YtbafmdjlnmeofaaGreatDoor
namespace Rows

/-- THE TIED CARD OF 'scrivenerlaw6.DecimalReckons'. -/
def decimalReckonsCard : Claim7 := { stood := { row := decimalReckonsRow, standIns := [], harness := (true, "e43f09118aedbea103cc8c5133ad1132625859f46e93176583f6c67cedc19063"), looks := false }, kinds := [], alts := [], laidByText := true, laidKinds := [.data, .data, .data], laidTests := true, laidLooks := .later }
def DecimalReckonsCardSaid : Prop := Claim7.holds Tryz.pinned (.plain (OpenSpec.ofChange decimalReckonsSpec)) decimalReckonsCard

/-- THE TIED CARD OF 'scrivenerlaw6.DecimalTexts'. -/
def decimalTextsCard : Claim7 := { stood := { row := decimalTextsRow, standIns := [], harness := (true, "e43f09118aedbea103cc8c5133ad1132625859f46e93176583f6c67cedc19063"), looks := false }, kinds := [], alts := [], laidByText := true, laidKinds := [.data, .data, .data, .data, .pinned], laidTests := true, laidLooks := .later }
def DecimalTextsCardSaid : Prop := Claim7.holds Tryz.pinned (.plain (OpenSpec.ofChange decimalTextsSpec)) decimalTextsCard

/-- THE SECOND FORM's CARD OF 'scrivenerlaw6.DecimalReckons'. -/
def decimalReckonsUptoCard : Claim7 := { stood := { row := decimalReckonsUptoRow, standIns := [], harness := (true, "e43f09118aedbea103cc8c5133ad1132625859f46e93176583f6c67cedc19063"), looks := false }, kinds := [], alts := [], laidByText := true, laidKinds := [.data, .data, .data], laidTests := true, laidLooks := .later }
def DecimalReckonsUptoCardSaid : Prop := Claim7.holds Tryz.pinned (.plain (OpenSpec.upto decimalReckonsSpec)) decimalReckonsUptoCard

/-- THE SECOND FORM's CARD OF 'scrivenerlaw6.DecimalTexts'. -/
def decimalTextsUptoCard : Claim7 := { stood := { row := decimalTextsUptoRow, standIns := [], harness := (true, "e43f09118aedbea103cc8c5133ad1132625859f46e93176583f6c67cedc19063"), looks := false }, kinds := [], alts := [], laidByText := true, laidKinds := [.data, .data, .data, .data, .pinned], laidTests := true, laidLooks := .later }
def DecimalTextsUptoCardSaid : Prop := Claim7.holds Tryz.pinned (.plain (OpenSpec.upto decimalTextsSpec)) decimalTextsUptoCard
end Rows
end Go.Proofs.YtbafmdjlnmeofaaGreatDoor
