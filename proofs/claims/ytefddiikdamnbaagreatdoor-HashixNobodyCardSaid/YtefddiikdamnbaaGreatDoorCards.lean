/-
  DERIVED. GIVEN WITH THE SEED: THE CARDS: each row of YtefddiikdamnbaaGreatDoorRows.lean that lists a variable, with what it lists TIED to the program's text (the seventh form; the later family's looks); each row that meets fmt, with fmt's text TOLD by the authors' own Lean function (tested against real Go, not proved from fmt's source: count such statements apart). THE CARD IS WHAT COUNTS. Prove the row's statement (the work); the ties are given (YtefddiikdamnbaaGreatDoorTie.lean); close each card by the builder's one call (the guide's Derived/Test/ToyasCard.lean, 'card_holds'). Laid BY PROGRAM, IN A SANDBOX (cutbox-door.mjs). By AI agents, Wed Nov 11 2026. No macro, syntax, notation, axiom, sorry.
-/
import Derived.Test.YtefddiikdamnbaaGreatDoorRows
import GoSem.ClaimSeven
namespace Go.Proofs.YtefddiikdamnbaaGreatDoor
namespace Rows

/-- THE TIED CARD OF 'vestibulelaw05.SpaceOver'. -/
def spaceOverCard : Claim7 := { stood := { row := spaceOverRow, standIns := [], harness := (true, "ff9eb63baed6b5490b94633c0b03e5b1c0aeeeb859ba99799c3199fcbb6b4b2c"), looks := false }, kinds := [], alts := [], laidByText := true, laidKinds := [.data], laidTests := true, laidLooks := .later }
def SpaceOverCardSaid : Prop := Claim7.holds Tryz.pinned (.plain (OpenSpec.ofChange spaceOverSpec)) spaceOverCard

/-- THE TIED CARD OF 'vestibulelaw11.HashixPlays'. -/
def hashixPlaysCard : Claim7 := { stood := { row := hashixPlaysRow, standIns := [], harness := (true, "ff9eb63baed6b5490b94633c0b03e5b1c0aeeeb859ba99799c3199fcbb6b4b2c"), looks := false }, kinds := [], alts := [], laidByText := true, laidKinds := [.data], laidTests := true, laidLooks := .later }
def HashixPlaysCardSaid : Prop := Claim7.holds Tryz.pinned (.plain (OpenSpec.ofChange hashixPlaysSpec)) hashixPlaysCard

/-- THE TIED CARD OF 'vestibulelaw11.HashixKept'. -/
def hashixKeptCard : Claim7 := { stood := { row := hashixKeptRow, standIns := [], harness := (true, "ff9eb63baed6b5490b94633c0b03e5b1c0aeeeb859ba99799c3199fcbb6b4b2c"), looks := false }, kinds := [], alts := [], laidByText := true, laidKinds := [.data], laidTests := true, laidLooks := .later }
def HashixKeptCardSaid : Prop := Claim7.holds Tryz.pinned (.plain (OpenSpec.ofChange hashixKeptSpec)) hashixKeptCard

/-- THE TIED CARD OF 'vestibulelaw11.HashixBuckets'. -/
def hashixBucketsCard : Claim7 := { stood := { row := hashixBucketsRow, standIns := [], harness := (true, "ff9eb63baed6b5490b94633c0b03e5b1c0aeeeb859ba99799c3199fcbb6b4b2c"), looks := false }, kinds := [], alts := [], laidByText := true, laidKinds := [.data], laidTests := true, laidLooks := .later }
def HashixBucketsCardSaid : Prop := Claim7.holds Tryz.pinned (.plain (OpenSpec.ofChange hashixBucketsSpec)) hashixBucketsCard

/-- THE TIED CARD OF 'vestibulelaw11.HashixGrows'. -/
def hashixGrowsCard : Claim7 := { stood := { row := hashixGrowsRow, standIns := [], harness := (true, "ff9eb63baed6b5490b94633c0b03e5b1c0aeeeb859ba99799c3199fcbb6b4b2c"), looks := false }, kinds := [], alts := [], laidByText := true, laidKinds := [.data], laidTests := true, laidLooks := .later }
def HashixGrowsCardSaid : Prop := Claim7.holds Tryz.pinned (.plain (OpenSpec.ofChange hashixGrowsSpec)) hashixGrowsCard

/-- THE TIED CARD OF 'vestibulelaw11.HashixNobody'. -/
def hashixNobodyCard : Claim7 := { stood := { row := hashixNobodyRow, standIns := [], harness := (true, "ff9eb63baed6b5490b94633c0b03e5b1c0aeeeb859ba99799c3199fcbb6b4b2c"), looks := false }, kinds := [], alts := [], laidByText := true, laidKinds := [.data], laidTests := true, laidLooks := .later }
def HashixNobodyCardSaid : Prop := Claim7.holds Tryz.pinned (.plain (OpenSpec.ofChange hashixNobodySpec)) hashixNobodyCard

/-- THE TIED CARD OF 'vestibulelaw11.HashixTurns'. -/
def hashixTurnsCard : Claim7 := { stood := { row := hashixTurnsRow, standIns := [], harness := (true, "ff9eb63baed6b5490b94633c0b03e5b1c0aeeeb859ba99799c3199fcbb6b4b2c"), looks := false }, kinds := [], alts := [], laidByText := true, laidKinds := [.data], laidTests := true, laidLooks := .later }
def HashixTurnsCardSaid : Prop := Claim7.holds Tryz.pinned (.plain (OpenSpec.ofChange hashixTurnsSpec)) hashixTurnsCard

/-- THE SECOND FORM's CARD OF 'vestibulelaw05.SpaceOver'. -/
def spaceOverUptoCard : Claim7 := { stood := { row := spaceOverUptoRow, standIns := [], harness := (true, "ff9eb63baed6b5490b94633c0b03e5b1c0aeeeb859ba99799c3199fcbb6b4b2c"), looks := false }, kinds := [], alts := [], laidByText := true, laidKinds := [.data], laidTests := true, laidLooks := .later }
def SpaceOverUptoCardSaid : Prop := Claim7.holds Tryz.pinned (.plain (OpenSpec.upto spaceOverSpec)) spaceOverUptoCard

/-- THE SECOND FORM's CARD OF 'vestibulelaw11.HashixPlays'. -/
def hashixPlaysUptoCard : Claim7 := { stood := { row := hashixPlaysUptoRow, standIns := [], harness := (true, "ff9eb63baed6b5490b94633c0b03e5b1c0aeeeb859ba99799c3199fcbb6b4b2c"), looks := false }, kinds := [], alts := [], laidByText := true, laidKinds := [.data], laidTests := true, laidLooks := .later }
def HashixPlaysUptoCardSaid : Prop := Claim7.holds Tryz.pinned (.plain (OpenSpec.upto hashixPlaysSpec)) hashixPlaysUptoCard

/-- THE SECOND FORM's CARD OF 'vestibulelaw11.HashixKept'. -/
def hashixKeptUptoCard : Claim7 := { stood := { row := hashixKeptUptoRow, standIns := [], harness := (true, "ff9eb63baed6b5490b94633c0b03e5b1c0aeeeb859ba99799c3199fcbb6b4b2c"), looks := false }, kinds := [], alts := [], laidByText := true, laidKinds := [.data], laidTests := true, laidLooks := .later }
def HashixKeptUptoCardSaid : Prop := Claim7.holds Tryz.pinned (.plain (OpenSpec.upto hashixKeptSpec)) hashixKeptUptoCard

/-- THE SECOND FORM's CARD OF 'vestibulelaw11.HashixBuckets'. -/
def hashixBucketsUptoCard : Claim7 := { stood := { row := hashixBucketsUptoRow, standIns := [], harness := (true, "ff9eb63baed6b5490b94633c0b03e5b1c0aeeeb859ba99799c3199fcbb6b4b2c"), looks := false }, kinds := [], alts := [], laidByText := true, laidKinds := [.data], laidTests := true, laidLooks := .later }
def HashixBucketsUptoCardSaid : Prop := Claim7.holds Tryz.pinned (.plain (OpenSpec.upto hashixBucketsSpec)) hashixBucketsUptoCard

/-- THE SECOND FORM's CARD OF 'vestibulelaw11.HashixGrows'. -/
def hashixGrowsUptoCard : Claim7 := { stood := { row := hashixGrowsUptoRow, standIns := [], harness := (true, "ff9eb63baed6b5490b94633c0b03e5b1c0aeeeb859ba99799c3199fcbb6b4b2c"), looks := false }, kinds := [], alts := [], laidByText := true, laidKinds := [.data], laidTests := true, laidLooks := .later }
def HashixGrowsUptoCardSaid : Prop := Claim7.holds Tryz.pinned (.plain (OpenSpec.upto hashixGrowsSpec)) hashixGrowsUptoCard

/-- THE SECOND FORM's CARD OF 'vestibulelaw11.HashixNobody'. -/
def hashixNobodyUptoCard : Claim7 := { stood := { row := hashixNobodyUptoRow, standIns := [], harness := (true, "ff9eb63baed6b5490b94633c0b03e5b1c0aeeeb859ba99799c3199fcbb6b4b2c"), looks := false }, kinds := [], alts := [], laidByText := true, laidKinds := [.data], laidTests := true, laidLooks := .later }
def HashixNobodyUptoCardSaid : Prop := Claim7.holds Tryz.pinned (.plain (OpenSpec.upto hashixNobodySpec)) hashixNobodyUptoCard

/-- THE SECOND FORM's CARD OF 'vestibulelaw11.HashixTurns'. -/
def hashixTurnsUptoCard : Claim7 := { stood := { row := hashixTurnsUptoRow, standIns := [], harness := (true, "ff9eb63baed6b5490b94633c0b03e5b1c0aeeeb859ba99799c3199fcbb6b4b2c"), looks := false }, kinds := [], alts := [], laidByText := true, laidKinds := [.data], laidTests := true, laidLooks := .later }
def HashixTurnsUptoCardSaid : Prop := Claim7.holds Tryz.pinned (.plain (OpenSpec.upto hashixTurnsSpec)) hashixTurnsUptoCard
end Rows
end Go.Proofs.YtefddiikdamnbaaGreatDoor
