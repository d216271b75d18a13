/-
  DERIVED. GIVEN WITH THE SEED: THE CARDS: each row of YtoggcabenjmnoaaDoorRows.lean that lists a variable, with what it lists TIED to the program's text (the seventh form; the later family's looks); each row that meets fmt, with fmt's text TOLD by the authors' own Lean function (tested against real Go, not proved from fmt's source: count such statements apart). THE CARD IS WHAT COUNTS. Prove the row's statement (the work); the ties are given (YtoggcabenjmnoaaDoorTie.lean); close each card by the builder's one call (the guide's Derived/Test/ToyasCard.lean, 'card_holds'). Laid BY PROGRAM, IN A SANDBOX (cutbox-door.mjs). By AI agents, Wed Nov 11 2026. No macro, syntax, notation, axiom, sorry.
-/
import Derived.Test.YtoggcabenjmnoaaDoorRows
import GoSem.ClaimSeven
namespace Go.Proofs.YtoggcabenjmnoaaDoor
namespace Rows

/-- THE TIED CARD OF 'scrivenerlaw8.OrderKeys'. -/
def orderKeysCard : Claim7 := { stood := { row := orderKeysRow, standIns := [], harness := (true, "9e086805feb46b9143c0d17f0819f99931410bdae27b3842af8ccae8e0a15b01"), looks := false }, kinds := [], alts := [], laidByText := true, laidKinds := [.data, .pinned], laidTests := true, laidLooks := .later }
def OrderKeysCardSaid : Prop := Claim7.holds Tryd.pinned (.plain (OpenSpec.ofChange orderKeysSpec)) orderKeysCard

/-- THE TIED CARD OF 'scrivenerlaw8.OrderSorts'. -/
def orderSortsCard : Claim7 := { stood := { row := orderSortsRow, standIns := [], harness := (true, "9e086805feb46b9143c0d17f0819f99931410bdae27b3842af8ccae8e0a15b01"), looks := false }, kinds := [], alts := [], laidByText := true, laidKinds := [.data, .pinned], laidTests := true, laidLooks := .later }
def OrderSortsCardSaid : Prop := Claim7.holds Tryd.pinned (.plain (OpenSpec.ofChange orderSortsSpec)) orderSortsCard

/-- THE TIED CARD OF 'scrivenerlaw8.OrderAbove'. -/
def orderAboveCard : Claim7 := { stood := { row := orderAboveRow, standIns := [], harness := (true, "9e086805feb46b9143c0d17f0819f99931410bdae27b3842af8ccae8e0a15b01"), looks := false }, kinds := [], alts := [], laidByText := true, laidKinds := [.data, .pinned], laidTests := true, laidLooks := .later }
def OrderAboveCardSaid : Prop := Claim7.holds Tryd.pinned (.plain (OpenSpec.ofChange orderAboveSpec)) orderAboveCard

/-- THE SECOND FORM's CARD OF 'scrivenerlaw8.OrderKeys'. -/
def orderKeysUptoCard : Claim7 := { stood := { row := orderKeysUptoRow, standIns := [], harness := (true, "9e086805feb46b9143c0d17f0819f99931410bdae27b3842af8ccae8e0a15b01"), looks := false }, kinds := [], alts := [], laidByText := true, laidKinds := [.data, .pinned], laidTests := true, laidLooks := .later }
def OrderKeysUptoCardSaid : Prop := Claim7.holds Tryd.pinned (.plain (OpenSpec.upto orderKeysSpec)) orderKeysUptoCard

/-- THE SECOND FORM's CARD OF 'scrivenerlaw8.OrderSorts'. -/
def orderSortsUptoCard : Claim7 := { stood := { row := orderSortsUptoRow, standIns := [], harness := (true, "9e086805feb46b9143c0d17f0819f99931410bdae27b3842af8ccae8e0a15b01"), looks := false }, kinds := [], alts := [], laidByText := true, laidKinds := [.data, .pinned], laidTests := true, laidLooks := .later }
def OrderSortsUptoCardSaid : Prop := Claim7.holds Tryd.pinned (.plain (OpenSpec.upto orderSortsSpec)) orderSortsUptoCard

/-- THE SECOND FORM's CARD OF 'scrivenerlaw8.OrderAbove'. -/
def orderAboveUptoCard : Claim7 := { stood := { row := orderAboveUptoRow, standIns := [], harness := (true, "9e086805feb46b9143c0d17f0819f99931410bdae27b3842af8ccae8e0a15b01"), looks := false }, kinds := [], alts := [], laidByText := true, laidKinds := [.data, .pinned], laidTests := true, laidLooks := .later }
def OrderAboveUptoCardSaid : Prop := Claim7.holds Tryd.pinned (.plain (OpenSpec.upto orderAboveSpec)) orderAboveUptoCard
end Rows
end Go.Proofs.YtoggcabenjmnoaaDoor
