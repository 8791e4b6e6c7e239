/-
  DERIVED. GIVEN WITH THE SEED: THE CARDS: each row of YtoiahhfjejddjaaDoorRows.lean that lists a variable, with what it lists TIED to the program's text (the seventh form; the later family's looks); each row that meets fmt, with fmt's text TOLD by the authors' own Lean function (tested against real Go, not proved from fmt's source: count such statements apart). THE CARD IS WHAT COUNTS. Prove the row's statement (the work); the ties are given (YtoiahhfjejddjaaDoorTie.lean); close each card by the builder's one call (the guide's Derived/Test/ToyasCard.lean, 'card_holds'). Laid BY PROGRAM, IN A SANDBOX (cutbox-door.mjs). By AI agents, Wed Nov 11 2026. No macro, syntax, notation, axiom, sorry.
-/
import Derived.Test.YtoiahhfjejddjaaDoorRows
import GoSem.ClaimSeven
namespace Go.Proofs.YtoiahhfjejddjaaDoor
namespace Rows

/-- THE TIED CARD OF 'vestibulelaw01.DatumOrders'. -/
def datumOrdersCard : Claim7 := { stood := { row := datumOrdersRow, standIns := [], harness := (true, "144ed51010df1918c3369d744bf84d26a3ccb91a4c67b2f14ff09099d6812e7b"), looks := true }, kinds := [], alts := [], laidByText := true, laidKinds := [.data, .data, .data, .sentinel, .sentinel], laidTests := true, laidLooks := .later }
def DatumOrdersCardSaid : Prop := Claim7.holds Tryd.pinned (.plain (OpenSpec.ofChange datumOrdersSpec)) datumOrdersCard

/-- THE TIED CARD OF 'vestibulelaw01.DatumBytes'. -/
def datumBytesCard : Claim7 := { stood := { row := datumBytesRow, standIns := [], harness := (true, "144ed51010df1918c3369d744bf84d26a3ccb91a4c67b2f14ff09099d6812e7b"), looks := true }, kinds := [], alts := [], laidByText := true, laidKinds := [.data, .data, .data, .sentinel, .sentinel], laidTests := true, laidLooks := .later }
def DatumBytesCardSaid : Prop := Claim7.holds Tryd.pinned (.plain (OpenSpec.ofChange datumBytesSpec)) datumBytesCard

/-- THE TIED CARD OF 'vestibulelaw01.DatumReads'. -/
def datumReadsCard : Claim7 := { stood := { row := datumReadsRow, standIns := [], harness := (true, "144ed51010df1918c3369d744bf84d26a3ccb91a4c67b2f14ff09099d6812e7b"), looks := true }, kinds := [], alts := [], laidByText := true, laidKinds := [.data, .data, .data, .sentinel, .sentinel], laidTests := true, laidLooks := .later }
def DatumReadsCardSaid : Prop := Claim7.holds Tryd.pinned (.plain (OpenSpec.ofChange datumReadsSpec)) datumReadsCard

/-- THE TIED CARD OF 'vestibulelaw01.DatumBack'. -/
def datumBackCard : Claim7 := { stood := { row := datumBackRow, standIns := [], harness := (true, "144ed51010df1918c3369d744bf84d26a3ccb91a4c67b2f14ff09099d6812e7b"), looks := true }, kinds := [], alts := [], laidByText := true, laidKinds := [.data, .data, .data, .sentinel, .sentinel], laidTests := true, laidLooks := .later }
def DatumBackCardSaid : Prop := Claim7.holds Tryd.pinned (.plain (OpenSpec.ofChange datumBackSpec)) datumBackCard

/-- THE TIED CARD OF 'vestibulelaw01.DatumStands'. -/
def datumStandsCard : Claim7 := { stood := { row := datumStandsRow, standIns := [], harness := (true, "144ed51010df1918c3369d744bf84d26a3ccb91a4c67b2f14ff09099d6812e7b"), looks := true }, kinds := [], alts := [], laidByText := true, laidKinds := [.data, .data, .data, .sentinel, .sentinel], laidTests := true, laidLooks := .later }
def DatumStandsCardSaid : Prop := Claim7.holds Tryd.pinned (.plain (OpenSpec.ofChange datumStandsSpec)) datumStandsCard

/-- THE TIED CARD OF 'vestibulelaw01.DatumLine'. -/
def datumLineCard : Claim7 := { stood := { row := datumLineRow, standIns := [], harness := (true, "144ed51010df1918c3369d744bf84d26a3ccb91a4c67b2f14ff09099d6812e7b"), looks := true }, kinds := [], alts := [], laidByText := true, laidKinds := [.data, .data, .data, .sentinel, .sentinel], laidTests := true, laidLooks := .later }
def DatumLineCardSaid : Prop := Claim7.holds Tryd.pinned (.plain (OpenSpec.ofChange datumLineSpec)) datumLineCard

/-- THE TIED CARD OF 'vestibulelaw01.DatumLists'. -/
def datumListsCard : Claim7 := { stood := { row := datumListsRow, standIns := [], harness := (true, "144ed51010df1918c3369d744bf84d26a3ccb91a4c67b2f14ff09099d6812e7b"), looks := true }, kinds := [], alts := [], laidByText := true, laidKinds := [.data, .data, .data, .sentinel, .sentinel], laidTests := true, laidLooks := .later }
def DatumListsCardSaid : Prop := Claim7.holds Tryd.pinned (.plain (OpenSpec.ofChange datumListsSpec)) datumListsCard

/-- THE SECOND FORM's CARD OF 'vestibulelaw01.DatumOrders'. -/
def datumOrdersUptoCard : Claim7 := { stood := { row := datumOrdersUptoRow, standIns := [], harness := (true, "144ed51010df1918c3369d744bf84d26a3ccb91a4c67b2f14ff09099d6812e7b"), looks := true }, kinds := [], alts := [], laidByText := true, laidKinds := [.data, .data, .data, .sentinel, .sentinel], laidTests := true, laidLooks := .later }
def DatumOrdersUptoCardSaid : Prop := Claim7.holds Tryd.pinned (.plain (OpenSpec.upto datumOrdersSpec)) datumOrdersUptoCard

/-- THE SECOND FORM's CARD OF 'vestibulelaw01.DatumBytes'. -/
def datumBytesUptoCard : Claim7 := { stood := { row := datumBytesUptoRow, standIns := [], harness := (true, "144ed51010df1918c3369d744bf84d26a3ccb91a4c67b2f14ff09099d6812e7b"), looks := true }, kinds := [], alts := [], laidByText := true, laidKinds := [.data, .data, .data, .sentinel, .sentinel], laidTests := true, laidLooks := .later }
def DatumBytesUptoCardSaid : Prop := Claim7.holds Tryd.pinned (.plain (OpenSpec.upto datumBytesSpec)) datumBytesUptoCard

/-- THE SECOND FORM's CARD OF 'vestibulelaw01.DatumReads'. -/
def datumReadsUptoCard : Claim7 := { stood := { row := datumReadsUptoRow, standIns := [], harness := (true, "144ed51010df1918c3369d744bf84d26a3ccb91a4c67b2f14ff09099d6812e7b"), looks := true }, kinds := [], alts := [], laidByText := true, laidKinds := [.data, .data, .data, .sentinel, .sentinel], laidTests := true, laidLooks := .later }
def DatumReadsUptoCardSaid : Prop := Claim7.holds Tryd.pinned (.plain (OpenSpec.upto datumReadsSpec)) datumReadsUptoCard

/-- THE SECOND FORM's CARD OF 'vestibulelaw01.DatumBack'. -/
def datumBackUptoCard : Claim7 := { stood := { row := datumBackUptoRow, standIns := [], harness := (true, "144ed51010df1918c3369d744bf84d26a3ccb91a4c67b2f14ff09099d6812e7b"), looks := true }, kinds := [], alts := [], laidByText := true, laidKinds := [.data, .data, .data, .sentinel, .sentinel], laidTests := true, laidLooks := .later }
def DatumBackUptoCardSaid : Prop := Claim7.holds Tryd.pinned (.plain (OpenSpec.upto datumBackSpec)) datumBackUptoCard

/-- THE SECOND FORM's CARD OF 'vestibulelaw01.DatumStands'. -/
def datumStandsUptoCard : Claim7 := { stood := { row := datumStandsUptoRow, standIns := [], harness := (true, "144ed51010df1918c3369d744bf84d26a3ccb91a4c67b2f14ff09099d6812e7b"), looks := true }, kinds := [], alts := [], laidByText := true, laidKinds := [.data, .data, .data, .sentinel, .sentinel], laidTests := true, laidLooks := .later }
def DatumStandsUptoCardSaid : Prop := Claim7.holds Tryd.pinned (.plain (OpenSpec.upto datumStandsSpec)) datumStandsUptoCard

/-- THE SECOND FORM's CARD OF 'vestibulelaw01.DatumLine'. -/
def datumLineUptoCard : Claim7 := { stood := { row := datumLineUptoRow, standIns := [], harness := (true, "144ed51010df1918c3369d744bf84d26a3ccb91a4c67b2f14ff09099d6812e7b"), looks := true }, kinds := [], alts := [], laidByText := true, laidKinds := [.data, .data, .data, .sentinel, .sentinel], laidTests := true, laidLooks := .later }
def DatumLineUptoCardSaid : Prop := Claim7.holds Tryd.pinned (.plain (OpenSpec.upto datumLineSpec)) datumLineUptoCard

/-- THE SECOND FORM's CARD OF 'vestibulelaw01.DatumLists'. -/
def datumListsUptoCard : Claim7 := { stood := { row := datumListsUptoRow, standIns := [], harness := (true, "144ed51010df1918c3369d744bf84d26a3ccb91a4c67b2f14ff09099d6812e7b"), looks := true }, kinds := [], alts := [], laidByText := true, laidKinds := [.data, .data, .data, .sentinel, .sentinel], laidTests := true, laidLooks := .later }
def DatumListsUptoCardSaid : Prop := Claim7.holds Tryd.pinned (.plain (OpenSpec.upto datumListsSpec)) datumListsUptoCard
end Rows
end Go.Proofs.YtoiahhfjejddjaaDoor
