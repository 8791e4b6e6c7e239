/-
  DERIVED. GIVEN WITH THE SEED: THE CARDS: each row of YtpjpkpbfbbpmdaaDoorRows.lean that lists a variable, with what it lists TIED to the program's text (the seventh form; the later family's looks); each row that meets fmt, with fmt's text TOLD by the authors' own Lean function (tested against real Go, not proved from fmt's source: count such statements apart). THE CARD IS WHAT COUNTS. Prove the row's statement (the work); the ties are given (YtpjpkpbfbbpmdaaDoorTie.lean); close each card by the builder's one call (the guide's Derived/Test/ToyasCard.lean, 'card_holds'). Laid BY PROGRAM, IN A SANDBOX (cutbox-door.mjs). By AI agents, Wed Nov 11 2026. No macro, syntax, notation, axiom, sorry.
-/
import Derived.Test.YtpjpkpbfbbpmdaaDoorRows
import GoSem.ClaimSeven
namespace Go.Proofs.YtpjpkpbfbbpmdaaDoor
namespace Rows

/-- THE TIED CARD OF 'vestibulelaw14.TidsetMixes'. -/
def tidsetMixesCard : Claim7 := { stood := { row := tidsetMixesRow, standIns := [], harness := (true, "810667d03e009e3b317992b57c86cdabfe9228a1c38a8816c100777159e45315"), looks := false }, kinds := [], alts := [], laidByText := true, laidKinds := [.data], laidTests := true, laidLooks := .later }
def TidsetMixesCardSaid : Prop := Claim7.holds Tryd.pinned (.plain (OpenSpec.ofChange tidsetMixesSpec)) tidsetMixesCard

/-- THE TIED CARD OF 'vestibulelaw14.TidsetHolds'. -/
def tidsetHoldsCard : Claim7 := { stood := { row := tidsetHoldsRow, standIns := [], harness := (true, "810667d03e009e3b317992b57c86cdabfe9228a1c38a8816c100777159e45315"), looks := false }, kinds := [], alts := [], laidByText := true, laidKinds := [.data], laidTests := true, laidLooks := .later }
def TidsetHoldsCardSaid : Prop := Claim7.holds Tryd.pinned (.plain (OpenSpec.ofChange tidsetHoldsSpec)) tidsetHoldsCard

/-- THE TIED CARD OF 'vestibulelaw14.TidsetSame'. -/
def tidsetSameCard : Claim7 := { stood := { row := tidsetSameRow, standIns := [], harness := (true, "810667d03e009e3b317992b57c86cdabfe9228a1c38a8816c100777159e45315"), looks := false }, kinds := [], alts := [], laidByText := true, laidKinds := [.data], laidTests := true, laidLooks := .later }
def TidsetSameCardSaid : Prop := Claim7.holds Tryd.pinned (.plain (OpenSpec.ofChange tidsetSameSpec)) tidsetSameCard

/-- THE TIED CARD OF 'vestibulelaw14.TidsetNobody'. -/
def tidsetNobodyCard : Claim7 := { stood := { row := tidsetNobodyRow, standIns := [], harness := (true, "810667d03e009e3b317992b57c86cdabfe9228a1c38a8816c100777159e45315"), looks := false }, kinds := [], alts := [], laidByText := true, laidKinds := [.data], laidTests := true, laidLooks := .later }
def TidsetNobodyCardSaid : Prop := Claim7.holds Tryd.pinned (.plain (OpenSpec.ofChange tidsetNobodySpec)) tidsetNobodyCard

/-- THE TIED CARD OF 'vestibulelaw14.TidsetTurns'. -/
def tidsetTurnsCard : Claim7 := { stood := { row := tidsetTurnsRow, standIns := [], harness := (true, "810667d03e009e3b317992b57c86cdabfe9228a1c38a8816c100777159e45315"), looks := false }, kinds := [], alts := [], laidByText := true, laidKinds := [.data], laidTests := true, laidLooks := .later }
def TidsetTurnsCardSaid : Prop := Claim7.holds Tryd.pinned (.plain (OpenSpec.ofChange tidsetTurnsSpec)) tidsetTurnsCard

/-- THE TIED CARD OF 'vestibulelaw14.TidsetWhole'. -/
def tidsetWholeCard : Claim7 := { stood := { row := tidsetWholeRow, standIns := [], harness := (true, "810667d03e009e3b317992b57c86cdabfe9228a1c38a8816c100777159e45315"), looks := false }, kinds := [], alts := [], laidByText := true, laidKinds := [.data], laidTests := true, laidLooks := .later }
def TidsetWholeCardSaid : Prop := Claim7.holds Tryd.pinned (.plain (OpenSpec.ofChange tidsetWholeSpec)) tidsetWholeCard

/-- THE SECOND FORM's CARD OF 'vestibulelaw14.TidsetMixes'. -/
def tidsetMixesUptoCard : Claim7 := { stood := { row := tidsetMixesUptoRow, standIns := [], harness := (true, "810667d03e009e3b317992b57c86cdabfe9228a1c38a8816c100777159e45315"), looks := false }, kinds := [], alts := [], laidByText := true, laidKinds := [.data], laidTests := true, laidLooks := .later }
def TidsetMixesUptoCardSaid : Prop := Claim7.holds Tryd.pinned (.plain (OpenSpec.upto tidsetMixesSpec)) tidsetMixesUptoCard

/-- THE SECOND FORM's CARD OF 'vestibulelaw14.TidsetHolds'. -/
def tidsetHoldsUptoCard : Claim7 := { stood := { row := tidsetHoldsUptoRow, standIns := [], harness := (true, "810667d03e009e3b317992b57c86cdabfe9228a1c38a8816c100777159e45315"), looks := false }, kinds := [], alts := [], laidByText := true, laidKinds := [.data], laidTests := true, laidLooks := .later }
def TidsetHoldsUptoCardSaid : Prop := Claim7.holds Tryd.pinned (.plain (OpenSpec.upto tidsetHoldsSpec)) tidsetHoldsUptoCard

/-- THE SECOND FORM's CARD OF 'vestibulelaw14.TidsetSame'. -/
def tidsetSameUptoCard : Claim7 := { stood := { row := tidsetSameUptoRow, standIns := [], harness := (true, "810667d03e009e3b317992b57c86cdabfe9228a1c38a8816c100777159e45315"), looks := false }, kinds := [], alts := [], laidByText := true, laidKinds := [.data], laidTests := true, laidLooks := .later }
def TidsetSameUptoCardSaid : Prop := Claim7.holds Tryd.pinned (.plain (OpenSpec.upto tidsetSameSpec)) tidsetSameUptoCard

/-- THE SECOND FORM's CARD OF 'vestibulelaw14.TidsetNobody'. -/
def tidsetNobodyUptoCard : Claim7 := { stood := { row := tidsetNobodyUptoRow, standIns := [], harness := (true, "810667d03e009e3b317992b57c86cdabfe9228a1c38a8816c100777159e45315"), looks := false }, kinds := [], alts := [], laidByText := true, laidKinds := [.data], laidTests := true, laidLooks := .later }
def TidsetNobodyUptoCardSaid : Prop := Claim7.holds Tryd.pinned (.plain (OpenSpec.upto tidsetNobodySpec)) tidsetNobodyUptoCard

/-- THE SECOND FORM's CARD OF 'vestibulelaw14.TidsetTurns'. -/
def tidsetTurnsUptoCard : Claim7 := { stood := { row := tidsetTurnsUptoRow, standIns := [], harness := (true, "810667d03e009e3b317992b57c86cdabfe9228a1c38a8816c100777159e45315"), looks := false }, kinds := [], alts := [], laidByText := true, laidKinds := [.data], laidTests := true, laidLooks := .later }
def TidsetTurnsUptoCardSaid : Prop := Claim7.holds Tryd.pinned (.plain (OpenSpec.upto tidsetTurnsSpec)) tidsetTurnsUptoCard

/-- THE SECOND FORM's CARD OF 'vestibulelaw14.TidsetWhole'. -/
def tidsetWholeUptoCard : Claim7 := { stood := { row := tidsetWholeUptoRow, standIns := [], harness := (true, "810667d03e009e3b317992b57c86cdabfe9228a1c38a8816c100777159e45315"), looks := false }, kinds := [], alts := [], laidByText := true, laidKinds := [.data], laidTests := true, laidLooks := .later }
def TidsetWholeUptoCardSaid : Prop := Claim7.holds Tryd.pinned (.plain (OpenSpec.upto tidsetWholeSpec)) tidsetWholeUptoCard
end Rows
end Go.Proofs.YtpjpkpbfbbpmdaaDoor
