/-
  DERIVED. GIVEN WITH THE SEED: THE CARDS: each row of YtehkaploinklmaaDoorRows.lean that lists a variable, with what it lists TIED to the program's text (the seventh form; the later family's looks); each row that meets fmt, with fmt's text TOLD by the authors' own Lean function (tested against real Go, not proved from fmt's source: count such statements apart). THE CARD IS WHAT COUNTS. Prove the row's statement (the work); the ties are given (YtehkaploinklmaaDoorTie.lean); close each card by the builder's one call (the guide's Derived/Test/ToyasCard.lean, 'card_holds'). Laid BY PROGRAM, IN A SANDBOX (cutbox-door.mjs). By AI agents, Wed Nov 11 2026. No macro, syntax, notation, axiom, sorry.
-/
import Derived.Test.YtehkaploinklmaaDoorRows
import GoSem.ClaimSeven
namespace Go.Proofs.YtehkaploinklmaaDoor
namespace Rows

/-- THE TIED CARD OF 'scrivenerlaw10.MerkleProves'. -/
def merkleProvesCard : Claim7 := { stood := { row := merkleProvesRow, standIns := [], harness := (true, "4aa7c164cfe9ed1cb13a5a26e4051a5de12fdd4b2e9d0fbe771770de9542cef0"), looks := false }, kinds := [], alts := [], laidByText := true, laidKinds := [.data, .data], laidTests := true, laidLooks := .later }
def MerkleProvesCardSaid : Prop := Claim7.holds Tryd.pinned (.plain (OpenSpec.ofChange merkleProvesSpec)) merkleProvesCard

/-- THE TIED CARD OF 'scrivenerlaw10.MerkleTrue'. -/
def merkleTrueCard : Claim7 := { stood := { row := merkleTrueRow, standIns := [], harness := (true, "4aa7c164cfe9ed1cb13a5a26e4051a5de12fdd4b2e9d0fbe771770de9542cef0"), looks := false }, kinds := [], alts := [], laidByText := true, laidKinds := [.data, .data], laidTests := true, laidLooks := .later }
def MerkleTrueCardSaid : Prop := Claim7.holds Tryd.pinned (.plain (OpenSpec.ofChange merkleTrueSpec)) merkleTrueCard

/-- THE TIED CARD OF 'scrivenerlaw10.MerkleTells'. -/
def merkleTellsCard : Claim7 := { stood := { row := merkleTellsRow, standIns := [], harness := (true, "4aa7c164cfe9ed1cb13a5a26e4051a5de12fdd4b2e9d0fbe771770de9542cef0"), looks := false }, kinds := [], alts := [], laidByText := true, laidKinds := [.data, .data], laidTests := true, laidLooks := .later }
def MerkleTellsCardSaid : Prop := Claim7.holds Tryd.pinned (.plain (OpenSpec.ofChange merkleTellsSpec)) merkleTellsCard

/-- THE TIED CARD OF 'scrivenerlaw10.MerkleChanged'. -/
def merkleChangedCard : Claim7 := { stood := { row := merkleChangedRow, standIns := [], harness := (true, "4aa7c164cfe9ed1cb13a5a26e4051a5de12fdd4b2e9d0fbe771770de9542cef0"), looks := false }, kinds := [], alts := [], laidByText := true, laidKinds := [.data, .data], laidTests := true, laidLooks := .later }
def MerkleChangedCardSaid : Prop := Claim7.holds Tryd.pinned (.plain (OpenSpec.ofChange merkleChangedSpec)) merkleChangedCard

/-- THE TIED CARD OF 'scrivenerlaw10.MerkleGoes'. -/
def merkleGoesCard : Claim7 := { stood := { row := merkleGoesRow, standIns := [], harness := (true, "4aa7c164cfe9ed1cb13a5a26e4051a5de12fdd4b2e9d0fbe771770de9542cef0"), looks := false }, kinds := [], alts := [], laidByText := true, laidKinds := [.data, .data], laidTests := true, laidLooks := .later }
def MerkleGoesCardSaid : Prop := Claim7.holds Tryd.pinned (.plain (OpenSpec.ofChange merkleGoesSpec)) merkleGoesCard

/-- THE TIED CARD OF 'scrivenerlaw10.MerkleOfNothing'. -/
def merkleOfNothingCard : Claim7 := { stood := { row := merkleOfNothingRow, standIns := [], harness := (true, "4aa7c164cfe9ed1cb13a5a26e4051a5de12fdd4b2e9d0fbe771770de9542cef0"), looks := false }, kinds := [], alts := [], laidByText := true, laidKinds := [.data, .data], laidTests := true, laidLooks := .later }
def MerkleOfNothingCardSaid : Prop := Claim7.holds Tryd.pinned (.plain (OpenSpec.ofChange merkleOfNothingSpec)) merkleOfNothingCard

/-- THE SECOND FORM's CARD OF 'scrivenerlaw10.MerkleProves'. -/
def merkleProvesUptoCard : Claim7 := { stood := { row := merkleProvesUptoRow, standIns := [], harness := (true, "4aa7c164cfe9ed1cb13a5a26e4051a5de12fdd4b2e9d0fbe771770de9542cef0"), looks := false }, kinds := [], alts := [], laidByText := true, laidKinds := [.data, .data], laidTests := true, laidLooks := .later }
def MerkleProvesUptoCardSaid : Prop := Claim7.holds Tryd.pinned (.plain (OpenSpec.upto merkleProvesSpec)) merkleProvesUptoCard

/-- THE SECOND FORM's CARD OF 'scrivenerlaw10.MerkleTrue'. -/
def merkleTrueUptoCard : Claim7 := { stood := { row := merkleTrueUptoRow, standIns := [], harness := (true, "4aa7c164cfe9ed1cb13a5a26e4051a5de12fdd4b2e9d0fbe771770de9542cef0"), looks := false }, kinds := [], alts := [], laidByText := true, laidKinds := [.data, .data], laidTests := true, laidLooks := .later }
def MerkleTrueUptoCardSaid : Prop := Claim7.holds Tryd.pinned (.plain (OpenSpec.upto merkleTrueSpec)) merkleTrueUptoCard

/-- THE SECOND FORM's CARD OF 'scrivenerlaw10.MerkleTells'. -/
def merkleTellsUptoCard : Claim7 := { stood := { row := merkleTellsUptoRow, standIns := [], harness := (true, "4aa7c164cfe9ed1cb13a5a26e4051a5de12fdd4b2e9d0fbe771770de9542cef0"), looks := false }, kinds := [], alts := [], laidByText := true, laidKinds := [.data, .data], laidTests := true, laidLooks := .later }
def MerkleTellsUptoCardSaid : Prop := Claim7.holds Tryd.pinned (.plain (OpenSpec.upto merkleTellsSpec)) merkleTellsUptoCard

/-- THE SECOND FORM's CARD OF 'scrivenerlaw10.MerkleChanged'. -/
def merkleChangedUptoCard : Claim7 := { stood := { row := merkleChangedUptoRow, standIns := [], harness := (true, "4aa7c164cfe9ed1cb13a5a26e4051a5de12fdd4b2e9d0fbe771770de9542cef0"), looks := false }, kinds := [], alts := [], laidByText := true, laidKinds := [.data, .data], laidTests := true, laidLooks := .later }
def MerkleChangedUptoCardSaid : Prop := Claim7.holds Tryd.pinned (.plain (OpenSpec.upto merkleChangedSpec)) merkleChangedUptoCard

/-- THE SECOND FORM's CARD OF 'scrivenerlaw10.MerkleGoes'. -/
def merkleGoesUptoCard : Claim7 := { stood := { row := merkleGoesUptoRow, standIns := [], harness := (true, "4aa7c164cfe9ed1cb13a5a26e4051a5de12fdd4b2e9d0fbe771770de9542cef0"), looks := false }, kinds := [], alts := [], laidByText := true, laidKinds := [.data, .data], laidTests := true, laidLooks := .later }
def MerkleGoesUptoCardSaid : Prop := Claim7.holds Tryd.pinned (.plain (OpenSpec.upto merkleGoesSpec)) merkleGoesUptoCard

/-- THE SECOND FORM's CARD OF 'scrivenerlaw10.MerkleOfNothing'. -/
def merkleOfNothingUptoCard : Claim7 := { stood := { row := merkleOfNothingUptoRow, standIns := [], harness := (true, "4aa7c164cfe9ed1cb13a5a26e4051a5de12fdd4b2e9d0fbe771770de9542cef0"), looks := false }, kinds := [], alts := [], laidByText := true, laidKinds := [.data, .data], laidTests := true, laidLooks := .later }
def MerkleOfNothingUptoCardSaid : Prop := Claim7.holds Tryd.pinned (.plain (OpenSpec.upto merkleOfNothingSpec)) merkleOfNothingUptoCard
end Rows
end Go.Proofs.YtehkaploinklmaaDoor
