/-
  DERIVED. GIVEN WITH THE SEED: THE CARDS: each row of YtgboeolnojpehaaGreatDoorRows.lean that lists a variable, with what it lists TIED to the program's text (the seventh form; the later family's looks); each row that meets fmt, with fmt's text TOLD by the authors' own Lean function (tested against real Go, not proved from fmt's source: count such statements apart). THE CARD IS WHAT COUNTS. Prove the row's statement (the work); the ties are given (YtgboeolnojpehaaGreatDoorTie.lean); close each card by the builder's one call (the guide's Derived/Test/ToyasCard.lean, 'card_holds'). Laid BY PROGRAM, IN A SANDBOX (cutbox-door.mjs). By AI agents, Wed Nov 11 2026. No macro, syntax, notation, axiom, sorry.
-/
import Derived.Test.YtgboeolnojpehaaGreatDoorRows
import GoSem.ClaimSeven
namespace Go.Proofs.YtgboeolnojpehaaGreatDoor
namespace Rows

/-- THE TIED CARD OF 'vestibulelaw05.SpaceOver'. -/
def spaceOverCard : Claim7 := { stood := { row := spaceOverRow, standIns := [], harness := (true, "b972cbfb7ea55b97a03ccc8ae8cf49aeab3141b3415c1733d4b469e269bbe323"), looks := false }, kinds := [], alts := [], laidByText := true, laidKinds := [.data], laidTests := true, laidLooks := .later }
def SpaceOverCardSaid : Prop := Claim7.holds Tryz.pinned (.plain (OpenSpec.ofChange spaceOverSpec)) spaceOverCard

/-- THE TIED CARD OF 'vestibulelaw05.SpaceRoom'. -/
def spaceRoomCard : Claim7 := { stood := { row := spaceRoomRow, standIns := [], harness := (true, "b972cbfb7ea55b97a03ccc8ae8cf49aeab3141b3415c1733d4b469e269bbe323"), looks := false }, kinds := [], alts := [], laidByText := true, laidKinds := [.data], laidTests := true, laidLooks := .later }
def SpaceRoomCardSaid : Prop := Claim7.holds Tryz.pinned (.plain (OpenSpec.ofChange spaceRoomSpec)) spaceRoomCard

/-- THE SECOND FORM's CARD OF 'vestibulelaw05.SpaceOver'. -/
def spaceOverUptoCard : Claim7 := { stood := { row := spaceOverUptoRow, standIns := [], harness := (true, "b972cbfb7ea55b97a03ccc8ae8cf49aeab3141b3415c1733d4b469e269bbe323"), looks := false }, kinds := [], alts := [], laidByText := true, laidKinds := [.data], laidTests := true, laidLooks := .later }
def SpaceOverUptoCardSaid : Prop := Claim7.holds Tryz.pinned (.plain (OpenSpec.upto spaceOverSpec)) spaceOverUptoCard

/-- THE SECOND FORM's CARD OF 'vestibulelaw05.SpaceRoom'. -/
def spaceRoomUptoCard : Claim7 := { stood := { row := spaceRoomUptoRow, standIns := [], harness := (true, "b972cbfb7ea55b97a03ccc8ae8cf49aeab3141b3415c1733d4b469e269bbe323"), looks := false }, kinds := [], alts := [], laidByText := true, laidKinds := [.data], laidTests := true, laidLooks := .later }
def SpaceRoomUptoCardSaid : Prop := Claim7.holds Tryz.pinned (.plain (OpenSpec.upto spaceRoomSpec)) spaceRoomUptoCard
end Rows
end Go.Proofs.YtgboeolnojpehaaGreatDoor
