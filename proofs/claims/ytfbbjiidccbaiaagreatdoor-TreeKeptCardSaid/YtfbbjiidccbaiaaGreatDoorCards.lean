/-
  DERIVED. GIVEN WITH THE SEED: THE CARDS: each row of YtfbbjiidccbaiaaGreatDoorRows.lean that lists a variable, with what it lists TIED to the program's text (the seventh form; the later family's looks); each row that meets fmt, with fmt's text TOLD by the authors' own Lean function (tested against real Go, not proved from fmt's source: count such statements apart). THE CARD IS WHAT COUNTS. Prove the row's statement (the work); the ties are given (YtfbbjiidccbaiaaGreatDoorTie.lean); close each card by the builder's one call (the guide's Derived/Test/ToyasCard.lean, 'card_holds'). Laid BY PROGRAM, IN A SANDBOX (cutbox-door.mjs). By AI agents, Wed Nov 11 2026. No macro, syntax, notation, axiom, sorry.
-/
import Derived.Test.YtfbbjiidccbaiaaGreatDoorRows
import GoSem.ClaimSeven
namespace Go.Proofs.YtfbbjiidccbaiaaGreatDoor
namespace Rows

/-- THE TIED CARD OF 'vestibulelaw05.SpaceOver'. -/
def spaceOverCard : Claim7 := { stood := { row := spaceOverRow, standIns := [], harness := (true, "d1bb8fffae3f99fe6157575af41d3414929c98b6f192ab91bbd7f5d7f7a52cc4"), looks := false }, kinds := [], alts := [], laidByText := true, laidKinds := [.data], laidTests := true, laidLooks := .later }
def SpaceOverCardSaid : Prop := Claim7.holds Tryz.pinned (.plain (OpenSpec.ofChange spaceOverSpec)) spaceOverCard

/-- THE TIED CARD OF 'vestibulelaw06.TreePlays'. -/
def treePlaysCard : Claim7 := { stood := { row := treePlaysRow, standIns := [], harness := (true, "d1bb8fffae3f99fe6157575af41d3414929c98b6f192ab91bbd7f5d7f7a52cc4"), looks := false }, kinds := [], alts := [], laidByText := true, laidKinds := [.data], laidTests := true, laidLooks := .later }
def TreePlaysCardSaid : Prop := Claim7.holds Tryz.pinned (.plain (OpenSpec.ofChange treePlaysSpec)) treePlaysCard

/-- THE TIED CARD OF 'vestibulelaw06.TreeApart'. -/
def treeApartCard : Claim7 := { stood := { row := treeApartRow, standIns := [], harness := (true, "d1bb8fffae3f99fe6157575af41d3414929c98b6f192ab91bbd7f5d7f7a52cc4"), looks := false }, kinds := [], alts := [], laidByText := true, laidKinds := [.data], laidTests := true, laidLooks := .later }
def TreeApartCardSaid : Prop := Claim7.holds Tryz.pinned (.plain (OpenSpec.ofChange treeApartSpec)) treeApartCard

/-- THE TIED CARD OF 'vestibulelaw06.TreeKept'. -/
def treeKeptCard : Claim7 := { stood := { row := treeKeptRow, standIns := [], harness := (true, "d1bb8fffae3f99fe6157575af41d3414929c98b6f192ab91bbd7f5d7f7a52cc4"), looks := false }, kinds := [], alts := [], laidByText := true, laidKinds := [.data], laidTests := true, laidLooks := .later }
def TreeKeptCardSaid : Prop := Claim7.holds Tryz.pinned (.plain (OpenSpec.ofChange treeKeptSpec)) treeKeptCard

/-- THE TIED CARD OF 'vestibulelaw06.TreeNobody'. -/
def treeNobodyCard : Claim7 := { stood := { row := treeNobodyRow, standIns := [], harness := (true, "d1bb8fffae3f99fe6157575af41d3414929c98b6f192ab91bbd7f5d7f7a52cc4"), looks := false }, kinds := [], alts := [], laidByText := true, laidKinds := [.data], laidTests := true, laidLooks := .later }
def TreeNobodyCardSaid : Prop := Claim7.holds Tryz.pinned (.plain (OpenSpec.ofChange treeNobodySpec)) treeNobodyCard

/-- THE TIED CARD OF 'vestibulelaw06.TreeSteps'. -/
def treeStepsCard : Claim7 := { stood := { row := treeStepsRow, standIns := [], harness := (true, "d1bb8fffae3f99fe6157575af41d3414929c98b6f192ab91bbd7f5d7f7a52cc4"), looks := false }, kinds := [], alts := [], laidByText := true, laidKinds := [.data], laidTests := true, laidLooks := .later }
def TreeStepsCardSaid : Prop := Claim7.holds Tryz.pinned (.plain (OpenSpec.ofChange treeStepsSpec)) treeStepsCard

/-- THE SECOND FORM's CARD OF 'vestibulelaw05.SpaceOver'. -/
def spaceOverUptoCard : Claim7 := { stood := { row := spaceOverUptoRow, standIns := [], harness := (true, "d1bb8fffae3f99fe6157575af41d3414929c98b6f192ab91bbd7f5d7f7a52cc4"), looks := false }, kinds := [], alts := [], laidByText := true, laidKinds := [.data], laidTests := true, laidLooks := .later }
def SpaceOverUptoCardSaid : Prop := Claim7.holds Tryz.pinned (.plain (OpenSpec.upto spaceOverSpec)) spaceOverUptoCard

/-- THE SECOND FORM's CARD OF 'vestibulelaw06.TreePlays'. -/
def treePlaysUptoCard : Claim7 := { stood := { row := treePlaysUptoRow, standIns := [], harness := (true, "d1bb8fffae3f99fe6157575af41d3414929c98b6f192ab91bbd7f5d7f7a52cc4"), looks := false }, kinds := [], alts := [], laidByText := true, laidKinds := [.data], laidTests := true, laidLooks := .later }
def TreePlaysUptoCardSaid : Prop := Claim7.holds Tryz.pinned (.plain (OpenSpec.upto treePlaysSpec)) treePlaysUptoCard

/-- THE SECOND FORM's CARD OF 'vestibulelaw06.TreeApart'. -/
def treeApartUptoCard : Claim7 := { stood := { row := treeApartUptoRow, standIns := [], harness := (true, "d1bb8fffae3f99fe6157575af41d3414929c98b6f192ab91bbd7f5d7f7a52cc4"), looks := false }, kinds := [], alts := [], laidByText := true, laidKinds := [.data], laidTests := true, laidLooks := .later }
def TreeApartUptoCardSaid : Prop := Claim7.holds Tryz.pinned (.plain (OpenSpec.upto treeApartSpec)) treeApartUptoCard

/-- THE SECOND FORM's CARD OF 'vestibulelaw06.TreeKept'. -/
def treeKeptUptoCard : Claim7 := { stood := { row := treeKeptUptoRow, standIns := [], harness := (true, "d1bb8fffae3f99fe6157575af41d3414929c98b6f192ab91bbd7f5d7f7a52cc4"), looks := false }, kinds := [], alts := [], laidByText := true, laidKinds := [.data], laidTests := true, laidLooks := .later }
def TreeKeptUptoCardSaid : Prop := Claim7.holds Tryz.pinned (.plain (OpenSpec.upto treeKeptSpec)) treeKeptUptoCard

/-- THE SECOND FORM's CARD OF 'vestibulelaw06.TreeNobody'. -/
def treeNobodyUptoCard : Claim7 := { stood := { row := treeNobodyUptoRow, standIns := [], harness := (true, "d1bb8fffae3f99fe6157575af41d3414929c98b6f192ab91bbd7f5d7f7a52cc4"), looks := false }, kinds := [], alts := [], laidByText := true, laidKinds := [.data], laidTests := true, laidLooks := .later }
def TreeNobodyUptoCardSaid : Prop := Claim7.holds Tryz.pinned (.plain (OpenSpec.upto treeNobodySpec)) treeNobodyUptoCard

/-- THE SECOND FORM's CARD OF 'vestibulelaw06.TreeSteps'. -/
def treeStepsUptoCard : Claim7 := { stood := { row := treeStepsUptoRow, standIns := [], harness := (true, "d1bb8fffae3f99fe6157575af41d3414929c98b6f192ab91bbd7f5d7f7a52cc4"), looks := false }, kinds := [], alts := [], laidByText := true, laidKinds := [.data], laidTests := true, laidLooks := .later }
def TreeStepsUptoCardSaid : Prop := Claim7.holds Tryz.pinned (.plain (OpenSpec.upto treeStepsSpec)) treeStepsUptoCard
end Rows
end Go.Proofs.YtfbbjiidccbaiaaGreatDoor
