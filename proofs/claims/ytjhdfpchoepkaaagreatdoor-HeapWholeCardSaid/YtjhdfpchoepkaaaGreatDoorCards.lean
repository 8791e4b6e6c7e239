/-
  DERIVED. GIVEN WITH THE SEED: THE CARDS: each row of YtjhdfpchoepkaaaGreatDoorRows.lean that lists a variable, with what it lists TIED to the program's text (the seventh form; the later family's looks); each row that meets fmt, with fmt's text TOLD by the authors' own Lean function (tested against real Go, not proved from fmt's source: count such statements apart). THE CARD IS WHAT COUNTS. Prove the row's statement (the work); the ties are given (YtjhdfpchoepkaaaGreatDoorTie.lean); close each card by the builder's one call (the guide's Derived/Test/ToyasCard.lean, 'card_holds'). Laid BY PROGRAM, IN A SANDBOX (cutbox-door.mjs). By AI agents, Wed Nov 11 2026. No macro, syntax, notation, axiom, sorry.
-/
import Derived.Test.YtjhdfpchoepkaaaGreatDoorRows
import GoSem.ClaimSeven
namespace Go.Proofs.YtjhdfpchoepkaaaGreatDoor
namespace Rows

/-- THE TIED CARD OF 'vestibulelaw05.SpaceOver'. -/
def spaceOverCard : Claim7 := { stood := { row := spaceOverRow, standIns := [], harness := (true, "63e338a3631e277fdbf87d39920ea12ee42c98963aada10cc5d66bf97678c9b1"), looks := false }, kinds := [], alts := [], laidByText := true, laidKinds := [.data], laidTests := true, laidLooks := .later }
def SpaceOverCardSaid : Prop := Claim7.holds Tryz.pinned (.plain (OpenSpec.ofChange spaceOverSpec)) spaceOverCard

/-- THE TIED CARD OF 'vestibulelaw07.HeapPlays'. -/
def heapPlaysCard : Claim7 := { stood := { row := heapPlaysRow, standIns := [], harness := (true, "63e338a3631e277fdbf87d39920ea12ee42c98963aada10cc5d66bf97678c9b1"), looks := false }, kinds := [], alts := [], laidByText := true, laidKinds := [.data], laidTests := true, laidLooks := .later }
def HeapPlaysCardSaid : Prop := Claim7.holds Tryz.pinned (.plain (OpenSpec.ofChange heapPlaysSpec)) heapPlaysCard

/-- THE TIED CARD OF 'vestibulelaw07.HeapKept'. -/
def heapKeptCard : Claim7 := { stood := { row := heapKeptRow, standIns := [], harness := (true, "63e338a3631e277fdbf87d39920ea12ee42c98963aada10cc5d66bf97678c9b1"), looks := false }, kinds := [], alts := [], laidByText := true, laidKinds := [.data], laidTests := true, laidLooks := .later }
def HeapKeptCardSaid : Prop := Claim7.holds Tryz.pinned (.plain (OpenSpec.ofChange heapKeptSpec)) heapKeptCard

/-- THE TIED CARD OF 'vestibulelaw07.HeapWhole'. -/
def heapWholeCard : Claim7 := { stood := { row := heapWholeRow, standIns := [], harness := (true, "63e338a3631e277fdbf87d39920ea12ee42c98963aada10cc5d66bf97678c9b1"), looks := false }, kinds := [], alts := [], laidByText := true, laidKinds := [.data], laidTests := true, laidLooks := .later }
def HeapWholeCardSaid : Prop := Claim7.holds Tryz.pinned (.plain (OpenSpec.ofChange heapWholeSpec)) heapWholeCard

/-- THE TIED CARD OF 'vestibulelaw07.HeapCells'. -/
def heapCellsCard : Claim7 := { stood := { row := heapCellsRow, standIns := [], harness := (true, "63e338a3631e277fdbf87d39920ea12ee42c98963aada10cc5d66bf97678c9b1"), looks := false }, kinds := [], alts := [], laidByText := true, laidKinds := [.data], laidTests := true, laidLooks := .later }
def HeapCellsCardSaid : Prop := Claim7.holds Tryz.pinned (.plain (OpenSpec.ofChange heapCellsSpec)) heapCellsCard

/-- THE TIED CARD OF 'vestibulelaw07.HeapNobody'. -/
def heapNobodyCard : Claim7 := { stood := { row := heapNobodyRow, standIns := [], harness := (true, "63e338a3631e277fdbf87d39920ea12ee42c98963aada10cc5d66bf97678c9b1"), looks := false }, kinds := [], alts := [], laidByText := true, laidKinds := [.data], laidTests := true, laidLooks := .later }
def HeapNobodyCardSaid : Prop := Claim7.holds Tryz.pinned (.plain (OpenSpec.ofChange heapNobodySpec)) heapNobodyCard

/-- THE TIED CARD OF 'vestibulelaw07.HeapStays'. -/
def heapStaysCard : Claim7 := { stood := { row := heapStaysRow, standIns := [], harness := (true, "63e338a3631e277fdbf87d39920ea12ee42c98963aada10cc5d66bf97678c9b1"), looks := false }, kinds := [], alts := [], laidByText := true, laidKinds := [.data], laidTests := true, laidLooks := .later }
def HeapStaysCardSaid : Prop := Claim7.holds Tryz.pinned (.plain (OpenSpec.ofChange heapStaysSpec)) heapStaysCard

/-- THE SECOND FORM's CARD OF 'vestibulelaw05.SpaceOver'. -/
def spaceOverUptoCard : Claim7 := { stood := { row := spaceOverUptoRow, standIns := [], harness := (true, "63e338a3631e277fdbf87d39920ea12ee42c98963aada10cc5d66bf97678c9b1"), looks := false }, kinds := [], alts := [], laidByText := true, laidKinds := [.data], laidTests := true, laidLooks := .later }
def SpaceOverUptoCardSaid : Prop := Claim7.holds Tryz.pinned (.plain (OpenSpec.upto spaceOverSpec)) spaceOverUptoCard

/-- THE SECOND FORM's CARD OF 'vestibulelaw07.HeapPlays'. -/
def heapPlaysUptoCard : Claim7 := { stood := { row := heapPlaysUptoRow, standIns := [], harness := (true, "63e338a3631e277fdbf87d39920ea12ee42c98963aada10cc5d66bf97678c9b1"), looks := false }, kinds := [], alts := [], laidByText := true, laidKinds := [.data], laidTests := true, laidLooks := .later }
def HeapPlaysUptoCardSaid : Prop := Claim7.holds Tryz.pinned (.plain (OpenSpec.upto heapPlaysSpec)) heapPlaysUptoCard

/-- THE SECOND FORM's CARD OF 'vestibulelaw07.HeapKept'. -/
def heapKeptUptoCard : Claim7 := { stood := { row := heapKeptUptoRow, standIns := [], harness := (true, "63e338a3631e277fdbf87d39920ea12ee42c98963aada10cc5d66bf97678c9b1"), looks := false }, kinds := [], alts := [], laidByText := true, laidKinds := [.data], laidTests := true, laidLooks := .later }
def HeapKeptUptoCardSaid : Prop := Claim7.holds Tryz.pinned (.plain (OpenSpec.upto heapKeptSpec)) heapKeptUptoCard

/-- THE SECOND FORM's CARD OF 'vestibulelaw07.HeapWhole'. -/
def heapWholeUptoCard : Claim7 := { stood := { row := heapWholeUptoRow, standIns := [], harness := (true, "63e338a3631e277fdbf87d39920ea12ee42c98963aada10cc5d66bf97678c9b1"), looks := false }, kinds := [], alts := [], laidByText := true, laidKinds := [.data], laidTests := true, laidLooks := .later }
def HeapWholeUptoCardSaid : Prop := Claim7.holds Tryz.pinned (.plain (OpenSpec.upto heapWholeSpec)) heapWholeUptoCard

/-- THE SECOND FORM's CARD OF 'vestibulelaw07.HeapCells'. -/
def heapCellsUptoCard : Claim7 := { stood := { row := heapCellsUptoRow, standIns := [], harness := (true, "63e338a3631e277fdbf87d39920ea12ee42c98963aada10cc5d66bf97678c9b1"), looks := false }, kinds := [], alts := [], laidByText := true, laidKinds := [.data], laidTests := true, laidLooks := .later }
def HeapCellsUptoCardSaid : Prop := Claim7.holds Tryz.pinned (.plain (OpenSpec.upto heapCellsSpec)) heapCellsUptoCard

/-- THE SECOND FORM's CARD OF 'vestibulelaw07.HeapNobody'. -/
def heapNobodyUptoCard : Claim7 := { stood := { row := heapNobodyUptoRow, standIns := [], harness := (true, "63e338a3631e277fdbf87d39920ea12ee42c98963aada10cc5d66bf97678c9b1"), looks := false }, kinds := [], alts := [], laidByText := true, laidKinds := [.data], laidTests := true, laidLooks := .later }
def HeapNobodyUptoCardSaid : Prop := Claim7.holds Tryz.pinned (.plain (OpenSpec.upto heapNobodySpec)) heapNobodyUptoCard

/-- THE SECOND FORM's CARD OF 'vestibulelaw07.HeapStays'. -/
def heapStaysUptoCard : Claim7 := { stood := { row := heapStaysUptoRow, standIns := [], harness := (true, "63e338a3631e277fdbf87d39920ea12ee42c98963aada10cc5d66bf97678c9b1"), looks := false }, kinds := [], alts := [], laidByText := true, laidKinds := [.data], laidTests := true, laidLooks := .later }
def HeapStaysUptoCardSaid : Prop := Claim7.holds Tryz.pinned (.plain (OpenSpec.upto heapStaysSpec)) heapStaysUptoCard
end Rows
end Go.Proofs.YtjhdfpchoepkaaaGreatDoor
