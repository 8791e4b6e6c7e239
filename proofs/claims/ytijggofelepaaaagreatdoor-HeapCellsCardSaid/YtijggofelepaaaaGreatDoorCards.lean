/-
  DERIVED. GIVEN WITH THE SEED: THE CARDS: each row of YtijggofelepaaaaGreatDoorRows.lean that lists a variable, with what it lists TIED to the program's text (the seventh form; the later family's looks); each row that meets fmt, with fmt's text TOLD by the authors' own Lean function (tested against real Go, not proved from fmt's source: count such statements apart). THE CARD IS WHAT COUNTS. Prove the row's statement (the work); the ties are given (YtijggofelepaaaaGreatDoorTie.lean); close each card by the builder's one call (the guide's Derived/Test/ToyasCard.lean, 'card_holds'). Laid BY PROGRAM, IN A SANDBOX (cutbox-door.mjs). By AI agents, Wed Nov 11 2026. No macro, syntax, notation, axiom, sorry.
-/
import Derived.Test.YtijggofelepaaaaGreatDoorRows
import GoSem.ClaimSeven
namespace Go.Proofs.YtijggofelepaaaaGreatDoor
namespace Rows

/-- THE TIED CARD OF 'vestibulelaw05.SpaceOver'. -/
def spaceOverCard : Claim7 := { stood := { row := spaceOverRow, standIns := [], harness := (true, "3c034a4557810e19f86b5ed09d73e72f6f8cf53b0af36773a1f530690163dbac"), looks := false }, kinds := [], alts := [], laidByText := true, laidKinds := [.data], laidTests := true, laidLooks := .later }
def SpaceOverCardSaid : Prop := Claim7.holds Tryz.pinned (.plain (OpenSpec.ofChange spaceOverSpec)) spaceOverCard

/-- THE TIED CARD OF 'vestibulelaw07.HeapKept'. -/
def heapKeptCard : Claim7 := { stood := { row := heapKeptRow, standIns := [], harness := (true, "3c034a4557810e19f86b5ed09d73e72f6f8cf53b0af36773a1f530690163dbac"), looks := false }, kinds := [], alts := [], laidByText := true, laidKinds := [.data], laidTests := true, laidLooks := .later }
def HeapKeptCardSaid : Prop := Claim7.holds Tryz.pinned (.plain (OpenSpec.ofChange heapKeptSpec)) heapKeptCard

/-- THE TIED CARD OF 'vestibulelaw07.HeapCells'. -/
def heapCellsCard : Claim7 := { stood := { row := heapCellsRow, standIns := [], harness := (true, "3c034a4557810e19f86b5ed09d73e72f6f8cf53b0af36773a1f530690163dbac"), looks := false }, kinds := [], alts := [], laidByText := true, laidKinds := [.data], laidTests := true, laidLooks := .later }
def HeapCellsCardSaid : Prop := Claim7.holds Tryz.pinned (.plain (OpenSpec.ofChange heapCellsSpec)) heapCellsCard

/-- THE SECOND FORM's CARD OF 'vestibulelaw05.SpaceOver'. -/
def spaceOverUptoCard : Claim7 := { stood := { row := spaceOverUptoRow, standIns := [], harness := (true, "3c034a4557810e19f86b5ed09d73e72f6f8cf53b0af36773a1f530690163dbac"), looks := false }, kinds := [], alts := [], laidByText := true, laidKinds := [.data], laidTests := true, laidLooks := .later }
def SpaceOverUptoCardSaid : Prop := Claim7.holds Tryz.pinned (.plain (OpenSpec.upto spaceOverSpec)) spaceOverUptoCard

/-- THE SECOND FORM's CARD OF 'vestibulelaw07.HeapKept'. -/
def heapKeptUptoCard : Claim7 := { stood := { row := heapKeptUptoRow, standIns := [], harness := (true, "3c034a4557810e19f86b5ed09d73e72f6f8cf53b0af36773a1f530690163dbac"), looks := false }, kinds := [], alts := [], laidByText := true, laidKinds := [.data], laidTests := true, laidLooks := .later }
def HeapKeptUptoCardSaid : Prop := Claim7.holds Tryz.pinned (.plain (OpenSpec.upto heapKeptSpec)) heapKeptUptoCard

/-- THE SECOND FORM's CARD OF 'vestibulelaw07.HeapCells'. -/
def heapCellsUptoCard : Claim7 := { stood := { row := heapCellsUptoRow, standIns := [], harness := (true, "3c034a4557810e19f86b5ed09d73e72f6f8cf53b0af36773a1f530690163dbac"), looks := false }, kinds := [], alts := [], laidByText := true, laidKinds := [.data], laidTests := true, laidLooks := .later }
def HeapCellsUptoCardSaid : Prop := Claim7.holds Tryz.pinned (.plain (OpenSpec.upto heapCellsSpec)) heapCellsUptoCard
end Rows
end Go.Proofs.YtijggofelepaaaaGreatDoor
