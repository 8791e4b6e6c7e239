/-
  No cell of these rows narrows 'for every input' (looked for: loops, veiled, ifaces, maps, wideKeys, modest, calm, conditions, laid).
  DERIVED. THE GIVEN ROWS OF THIS SEAT. 6 by the template 'for every input the law returns true; each argument reads behind the call as it read before'; 0 by the template 'total and deterministic' (their statements: YtgegljbocacdnaaTotals.lean).
  GIVEN WITH THE SEED: the statements are not yours to turn. If you find one false, say at which input.
  Laid BY PROGRAM, IN A SANDBOX (cutbox-rows.mjs): the forced cells as the released guide's own fill.sh prints them over the translation fd59eaa4b6e90d52… (all of the seat's roots in one cut). By AI agents, Wed Nov 11 2026. No macro, syntax, notation, axiom, sorry.
-/
import Derived.Test.YtgegljbocacdnaaChecked
import GoSem.Claim
import GoSem.ClaimJoined
import GoSem.ClaimMapViews
import Derived.JoinedTies
import Derived.KernelRfl
namespace Go.Proofs.Ytgegljbocacdnaa
/- THE CELL 'sum', in the pinned program and in every row, IS THE sha256 OF THE DUMP (.gsa) THAT YtgegljbocacdnaaProg.lean LOADS. Nothing in Lean hashes anything: it is a label: what it is worth is what the hold of that sum in a sandbox is worth. -/
noncomputable def Try.pinned : Pinned := { name := "ytgegljbocacdnaa", sum := "fd59eaa4b6e90d52e9e55ba5041890312a00af0630002cd2000e742ad49ff067", checked := Try.checked }
namespace Rows
def none {H : Type} : Left H := { results := [], args := [] }

/-- 'vestibulelaw08.SorterSorts': WHATEVER THE INPUT: true; the input reads as it did. -/
def sorterSortsSpec : ChangeSpec := { name := "sorterSorts", fn := fun _ => fun
  | [d1, d2] => { results := [.lit (.bool true)], args := [d1, d2] }
  | _ => none }
def sorterSortsRow : OpenClaim := { program := "ytgegljbocacdnaa", sum := "fd59eaa4b6e90d52e9e55ba5041890312a00af0630002cd2000e742ad49ff067", func := "vestibule/vestibulelaw08.SorterSorts", spec := "sorterSorts", unfollowed := true, recurses := true, apart := false }
def SorterSortsSaid : Prop := sorterSortsRow.holds Try.pinned (OpenSpec.ofChange sorterSortsSpec)

/-- ITS FALSE NEIGHBOUR: 'it returns false'. Refute it at one input. -/
def sorterSortsWrong : ChangeSpec := { name := "sorterSorts", fn := fun _ => fun
  | [d1, d2] => { results := [.lit (.bool false)], args := [d1, d2] }
  | _ => none }
def SorterSortsWrongFalsely : Prop := sorterSortsRow.holds Try.pinned (OpenSpec.ofChange sorterSortsWrong)

/-- 'vestibulelaw08.SorterMerges': WHATEVER THE INPUT: true; the input reads as it did. -/
def sorterMergesSpec : ChangeSpec := { name := "sorterMerges", fn := fun _ => fun
  | [d] => { results := [.lit (.bool true)], args := [d] }
  | _ => none }
def sorterMergesRow : OpenClaim := { program := "ytgegljbocacdnaa", sum := "fd59eaa4b6e90d52e9e55ba5041890312a00af0630002cd2000e742ad49ff067", func := "vestibule/vestibulelaw08.SorterMerges", spec := "sorterMerges", unfollowed := true, recurses := true, apart := false }
def SorterMergesSaid : Prop := sorterMergesRow.holds Try.pinned (OpenSpec.ofChange sorterMergesSpec)

/-- ITS FALSE NEIGHBOUR: 'it returns false'. Refute it at one input. -/
def sorterMergesWrong : ChangeSpec := { name := "sorterMerges", fn := fun _ => fun
  | [d] => { results := [.lit (.bool false)], args := [d] }
  | _ => none }
def SorterMergesWrongFalsely : Prop := sorterMergesRow.holds Try.pinned (OpenSpec.ofChange sorterMergesWrong)

/-- 'vestibulelaw08.SorterRooms': WHATEVER THE INPUT: true; the input reads as it did. -/
def sorterRoomsSpec : ChangeSpec := { name := "sorterRooms", fn := fun _ => fun
  | [d1, d2, d3] => { results := [.lit (.bool true)], args := [d1, d2, d3] }
  | _ => none }
def sorterRoomsRow : OpenClaim := { program := "ytgegljbocacdnaa", sum := "fd59eaa4b6e90d52e9e55ba5041890312a00af0630002cd2000e742ad49ff067", func := "vestibule/vestibulelaw08.SorterRooms", spec := "sorterRooms", unfollowed := true, recurses := true, apart := false }
def SorterRoomsSaid : Prop := sorterRoomsRow.holds Try.pinned (OpenSpec.ofChange sorterRoomsSpec)

/-- ITS FALSE NEIGHBOUR: 'it returns false'. Refute it at one input. -/
def sorterRoomsWrong : ChangeSpec := { name := "sorterRooms", fn := fun _ => fun
  | [d1, d2, d3] => { results := [.lit (.bool false)], args := [d1, d2, d3] }
  | _ => none }
def SorterRoomsWrongFalsely : Prop := sorterRoomsRow.holds Try.pinned (OpenSpec.ofChange sorterRoomsWrong)

/-- 'vestibulelaw08.SorterParts': WHATEVER THE INPUT: true; the input reads as it did. -/
def sorterPartsSpec : ChangeSpec := { name := "sorterParts", fn := fun _ => fun
  | [d1, d2, d3] => { results := [.lit (.bool true)], args := [d1, d2, d3] }
  | _ => none }
def sorterPartsRow : OpenClaim := { program := "ytgegljbocacdnaa", sum := "fd59eaa4b6e90d52e9e55ba5041890312a00af0630002cd2000e742ad49ff067", func := "vestibule/vestibulelaw08.SorterParts", spec := "sorterParts", unfollowed := true, recurses := true, apart := false }
def SorterPartsSaid : Prop := sorterPartsRow.holds Try.pinned (OpenSpec.ofChange sorterPartsSpec)

/-- ITS FALSE NEIGHBOUR: 'it returns false'. Refute it at one input. -/
def sorterPartsWrong : ChangeSpec := { name := "sorterParts", fn := fun _ => fun
  | [d1, d2, d3] => { results := [.lit (.bool false)], args := [d1, d2, d3] }
  | _ => none }
def SorterPartsWrongFalsely : Prop := sorterPartsRow.holds Try.pinned (OpenSpec.ofChange sorterPartsWrong)

/-- 'vestibulelaw08.SorterNobody': WHATEVER THE INPUT: true; the input reads as it did. -/
def sorterNobodySpec : ChangeSpec := { name := "sorterNobody", fn := fun _ => fun
  | [d] => { results := [.lit (.bool true)], args := [d] }
  | _ => none }
def sorterNobodyRow : OpenClaim := { program := "ytgegljbocacdnaa", sum := "fd59eaa4b6e90d52e9e55ba5041890312a00af0630002cd2000e742ad49ff067", func := "vestibule/vestibulelaw08.SorterNobody", spec := "sorterNobody", unfollowed := true, recurses := true, apart := false }
def SorterNobodySaid : Prop := sorterNobodyRow.holds Try.pinned (OpenSpec.ofChange sorterNobodySpec)

/-- ITS FALSE NEIGHBOUR: 'it returns false'. Refute it at one input. -/
def sorterNobodyWrong : ChangeSpec := { name := "sorterNobody", fn := fun _ => fun
  | [d] => { results := [.lit (.bool false)], args := [d] }
  | _ => none }
def SorterNobodyWrongFalsely : Prop := sorterNobodyRow.holds Try.pinned (OpenSpec.ofChange sorterNobodyWrong)

/-- 'vestibulelaw08.SorterKeeps': WHATEVER THE INPUT: true; the input reads as it did. -/
def sorterKeepsSpec : ChangeSpec := { name := "sorterKeeps", fn := fun _ => fun
  | [d1, d2, d3] => { results := [.lit (.bool true)], args := [d1, d2, d3] }
  | _ => none }
def sorterKeepsRow : OpenClaim := { program := "ytgegljbocacdnaa", sum := "fd59eaa4b6e90d52e9e55ba5041890312a00af0630002cd2000e742ad49ff067", func := "vestibule/vestibulelaw08.SorterKeeps", spec := "sorterKeeps", unfollowed := true, recurses := true, apart := false }
def SorterKeepsSaid : Prop := sorterKeepsRow.holds Try.pinned (OpenSpec.ofChange sorterKeepsSpec)

/-- ITS FALSE NEIGHBOUR: 'it returns false'. Refute it at one input. -/
def sorterKeepsWrong : ChangeSpec := { name := "sorterKeeps", fn := fun _ => fun
  | [d1, d2, d3] => { results := [.lit (.bool false)], args := [d1, d2, d3] }
  | _ => none }
def SorterKeepsWrongFalsely : Prop := sorterKeepsRow.holds Try.pinned (OpenSpec.ofChange sorterKeepsWrong)

/- THE SECOND FORM. 'bulk': how many values and letters a reading holds, each counted each time it is reached (what is shared counts as often as it is met; a slice's spare places count too). A statement '..UptoSaid' is the law's where the arguments, and the package variables that the reading takes, are together of bulk at most 1048576: NARROWER than '..Said'. Prove '..Said' where nothing that the law and all that it calls make is longer than what came in: it says more and counts as full. Else prove '..UptoSaid'. A law counts once. -/
mutual
def uptoBulk {H : Type} : DataW H → Nat
  | .lit (.string bytes) => bytes.length + 1
  | .lit _ => 1
  | .nil => 1
  | .ptr d => uptoBulk d + 1
  | .slice elems spare => uptoBulkAll elems + uptoBulkAll spare + 1
  | .agg parts => uptoBulkAll parts + 1
  | .iface _ d => uptoBulk d + 1
  | .map entries => uptoBulkEntries entries + 1
  | .held _ => 1
def uptoBulkAll {H : Type} : List (DataW H) → Nat
  | [] => 0
  | d :: r => uptoBulk d + uptoBulkAll r
def uptoBulkEntries {H : Type} : List (Lit × DataW H) → Nat
  | [] => 0
  | x :: r => uptoBulkEntry x + uptoBulkEntries r
def uptoBulkEntry {H : Type} : Lit × DataW H → Nat
  | (.string bytes, d) => bytes.length + uptoBulk d + 1
  | (_, d) => uptoBulk d + 1
 end
def uptoSmall : (H : Type) → List (DataW H) → Bool := fun _ ds => decide (uptoBulkAll ds ≤ 1048576)
def OpenSpec.upto (s : _root_.Go.ChangeSpec) : _root_.Go.OpenSpec := { _root_.Go.OpenSpec.ofChange s with cond := some uptoSmall }

/-- 'vestibulelaw08.SorterSorts', WHERE WHAT IT READS IS OF BULK AT MOST 1048576: true; the input reads as it did. -/
def sorterSortsUptoRow : OpenClaim := { program := "ytgegljbocacdnaa", sum := "fd59eaa4b6e90d52e9e55ba5041890312a00af0630002cd2000e742ad49ff067", func := "vestibule/vestibulelaw08.SorterSorts", spec := "sorterSorts", unfollowed := true, recurses := true, apart := false, narrowed := true }
def SorterSortsUptoSaid : Prop := sorterSortsUptoRow.holds Try.pinned (OpenSpec.upto sorterSortsSpec)

/-- 'vestibulelaw08.SorterMerges', WHERE WHAT IT READS IS OF BULK AT MOST 1048576: true; the input reads as it did. -/
def sorterMergesUptoRow : OpenClaim := { program := "ytgegljbocacdnaa", sum := "fd59eaa4b6e90d52e9e55ba5041890312a00af0630002cd2000e742ad49ff067", func := "vestibule/vestibulelaw08.SorterMerges", spec := "sorterMerges", unfollowed := true, recurses := true, apart := false, narrowed := true }
def SorterMergesUptoSaid : Prop := sorterMergesUptoRow.holds Try.pinned (OpenSpec.upto sorterMergesSpec)

/-- 'vestibulelaw08.SorterRooms', WHERE WHAT IT READS IS OF BULK AT MOST 1048576: true; the input reads as it did. -/
def sorterRoomsUptoRow : OpenClaim := { program := "ytgegljbocacdnaa", sum := "fd59eaa4b6e90d52e9e55ba5041890312a00af0630002cd2000e742ad49ff067", func := "vestibule/vestibulelaw08.SorterRooms", spec := "sorterRooms", unfollowed := true, recurses := true, apart := false, narrowed := true }
def SorterRoomsUptoSaid : Prop := sorterRoomsUptoRow.holds Try.pinned (OpenSpec.upto sorterRoomsSpec)

/-- 'vestibulelaw08.SorterParts', WHERE WHAT IT READS IS OF BULK AT MOST 1048576: true; the input reads as it did. -/
def sorterPartsUptoRow : OpenClaim := { program := "ytgegljbocacdnaa", sum := "fd59eaa4b6e90d52e9e55ba5041890312a00af0630002cd2000e742ad49ff067", func := "vestibule/vestibulelaw08.SorterParts", spec := "sorterParts", unfollowed := true, recurses := true, apart := false, narrowed := true }
def SorterPartsUptoSaid : Prop := sorterPartsUptoRow.holds Try.pinned (OpenSpec.upto sorterPartsSpec)

/-- 'vestibulelaw08.SorterNobody', WHERE WHAT IT READS IS OF BULK AT MOST 1048576: true; the input reads as it did. -/
def sorterNobodyUptoRow : OpenClaim := { program := "ytgegljbocacdnaa", sum := "fd59eaa4b6e90d52e9e55ba5041890312a00af0630002cd2000e742ad49ff067", func := "vestibule/vestibulelaw08.SorterNobody", spec := "sorterNobody", unfollowed := true, recurses := true, apart := false, narrowed := true }
def SorterNobodyUptoSaid : Prop := sorterNobodyUptoRow.holds Try.pinned (OpenSpec.upto sorterNobodySpec)

/-- 'vestibulelaw08.SorterKeeps', WHERE WHAT IT READS IS OF BULK AT MOST 1048576: true; the input reads as it did. -/
def sorterKeepsUptoRow : OpenClaim := { program := "ytgegljbocacdnaa", sum := "fd59eaa4b6e90d52e9e55ba5041890312a00af0630002cd2000e742ad49ff067", func := "vestibule/vestibulelaw08.SorterKeeps", spec := "sorterKeeps", unfollowed := true, recurses := true, apart := false, narrowed := true }
def SorterKeepsUptoSaid : Prop := sorterKeepsUptoRow.holds Try.pinned (OpenSpec.upto sorterKeepsSpec)

end Rows
end Go.Proofs.Ytgegljbocacdnaa
