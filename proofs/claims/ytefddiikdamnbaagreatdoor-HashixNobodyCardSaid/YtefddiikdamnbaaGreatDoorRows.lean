/-
  NARROWER THAN 'FOR EVERY INPUT', by the rows' own cells (each row's printed sentence says how): SpaceOver: laid · HashixPlays: loops, laid · HashixKept: loops, laid · HashixBuckets: loops, laid · HashixGrows: laid · HashixNobody: loops, laid · HashixTurns: loops, laid.
  DERIVED. THE GIVEN ROWS OF THIS SEAT. 7 by the template 'for every input the law returns true; each argument reads behind the call as it read before'; 0 by the template 'total and deterministic' (their statements: YtefddiikdamnbaaGreatDoorTotals.lean).
  GIVEN WITH THE SEED: the statements are not yours to turn. If you find one false, say at which input.
  Laid BY PROGRAM, IN A SANDBOX (cutbox-rows.mjs): the forced cells as the released guide's own fill.sh prints them over the translation f17ee291ac0f5f65… (all of the seat's roots in one cut). By AI agents, Wed Nov 11 2026. No macro, syntax, notation, axiom, sorry.
-/
import Derived.Test.YtefddiikdamnbaaGreatDoorChecked
import GoSem.Claim
import GoSem.ClaimJoined
import GoSem.ClaimMapViews
import Derived.JoinedTies
import Derived.KernelRfl
namespace Go.Proofs.YtefddiikdamnbaaGreatDoor
/- THE CELL 'sum', in the pinned program and in every row, IS THE sha256 OF THE DUMP (.gsa) THAT YtefddiikdamnbaaGreatDoorProg.lean LOADS. Nothing in Lean hashes anything: it is a label: what it is worth is what the hold of that sum in a sandbox is worth. -/
noncomputable def Tryz.pinned : Pinned := { name := "ytefddiikdamnbaagreatdoor", sum := "f17ee291ac0f5f651511a72e0ef537e7aa8fb97dcbd69a040e648e9224abf4ad", checked := Tryz.checked }
namespace Rows
def none {H : Type} : Left H := { results := [], args := [] }

/- WHAT THE LISTED PACKAGE-LEVEL VARIABLES READ AS WHEN THE CALL BEGINS. Each datum BY PROGRAM (the guide's laid-datum.mjs) off the statement by which the dump's own 'gosem.cut.vars' lays the variable. In a bare row this is a premise. The card (YtefddiikdamnbaaGreatDoorCards.lean) ties it to the program's text. -/
def laid_math_bits_deBruijn64tab {H : Type} : DataW H := .agg [.lit (.int .u8 0), .lit (.int .u8 1), .lit (.int .u8 56), .lit (.int .u8 2), .lit (.int .u8 57), .lit (.int .u8 49), .lit (.int .u8 28), .lit (.int .u8 3), .lit (.int .u8 61), .lit (.int .u8 58), .lit (.int .u8 42), .lit (.int .u8 50), .lit (.int .u8 38), .lit (.int .u8 29), .lit (.int .u8 17), .lit (.int .u8 4), .lit (.int .u8 62), .lit (.int .u8 47), .lit (.int .u8 59), .lit (.int .u8 36), .lit (.int .u8 45), .lit (.int .u8 43), .lit (.int .u8 51), .lit (.int .u8 22), .lit (.int .u8 53), .lit (.int .u8 39), .lit (.int .u8 33), .lit (.int .u8 30), .lit (.int .u8 24), .lit (.int .u8 18), .lit (.int .u8 12), .lit (.int .u8 5), .lit (.int .u8 63), .lit (.int .u8 55), .lit (.int .u8 48), .lit (.int .u8 27), .lit (.int .u8 60), .lit (.int .u8 41), .lit (.int .u8 37), .lit (.int .u8 16), .lit (.int .u8 46), .lit (.int .u8 35), .lit (.int .u8 44), .lit (.int .u8 21), .lit (.int .u8 52), .lit (.int .u8 32), .lit (.int .u8 23), .lit (.int .u8 11), .lit (.int .u8 54), .lit (.int .u8 26), .lit (.int .u8 40), .lit (.int .u8 15), .lit (.int .u8 34), .lit (.int .u8 20), .lit (.int .u8 31), .lit (.int .u8 10), .lit (.int .u8 25), .lit (.int .u8 14), .lit (.int .u8 19), .lit (.int .u8 9), .lit (.int .u8 13), .lit (.int .u8 8), .lit (.int .u8 7), .lit (.int .u8 6)]

/-- 'vestibulelaw05.SpaceOver': WHATEVER THE INPUT: true; the input reads as it did. -/
def spaceOverSpec : ChangeSpec := { name := "spaceOver", fn := fun _ => fun
  | [d1, d2] => { results := [.lit (.bool true)], args := [d1, d2] }
  | _ => none }
def spaceOverRow : OpenClaim := { program := "ytefddiikdamnbaagreatdoor", sum := "f17ee291ac0f5f651511a72e0ef537e7aa8fb97dcbd69a040e648e9224abf4ad", func := "vestibule/vestibulelaw05.SpaceOver", spec := "spaceOver", inPlace := ["internal/abi.NoEscape", "internal/bytealg.MakeNoZero"], unfollowed := true, recurses := true, named := ["math/bits.deBruijn64tab"], apart := false, laid := [("math/bits.deBruijn64tab", laid_math_bits_deBruijn64tab)] }
def SpaceOverSaid : Prop := spaceOverRow.holds Tryz.pinned (OpenSpec.ofChange spaceOverSpec)

/-- ITS FALSE NEIGHBOUR: 'it returns false'. Refute it at one input. -/
def spaceOverWrong : ChangeSpec := { name := "spaceOver", fn := fun _ => fun
  | [d1, d2] => { results := [.lit (.bool false)], args := [d1, d2] }
  | _ => none }
def SpaceOverWrongFalsely : Prop := spaceOverRow.holds Tryz.pinned (OpenSpec.ofChange spaceOverWrong)

/-- 'vestibulelaw11.HashixPlays': WHATEVER THE INPUT: true; the input reads as it did. -/
def hashixPlaysSpec : ChangeSpec := { name := "hashixPlays", fn := fun _ => fun
  | [d] => { results := [.lit (.bool true)], args := [d] }
  | _ => none }
def hashixPlaysRow : OpenClaim := { program := "ytefddiikdamnbaagreatdoor", sum := "f17ee291ac0f5f651511a72e0ef537e7aa8fb97dcbd69a040e648e9224abf4ad", func := "vestibule/vestibulelaw11.HashixPlays", spec := "hashixPlays", inPlace := ["internal/abi.NoEscape", "internal/bytealg.MakeNoZero"], unfollowed := true, recurses := true, named := ["math/bits.deBruijn64tab"], loops := true, apart := false, laid := [("math/bits.deBruijn64tab", laid_math_bits_deBruijn64tab)] }
def HashixPlaysSaid : Prop := hashixPlaysRow.holds Tryz.pinned (OpenSpec.ofChange hashixPlaysSpec)

/-- ITS FALSE NEIGHBOUR: 'it returns false'. Refute it at one input. -/
def hashixPlaysWrong : ChangeSpec := { name := "hashixPlays", fn := fun _ => fun
  | [d] => { results := [.lit (.bool false)], args := [d] }
  | _ => none }
def HashixPlaysWrongFalsely : Prop := hashixPlaysRow.holds Tryz.pinned (OpenSpec.ofChange hashixPlaysWrong)

/-- 'vestibulelaw11.HashixKept': WHATEVER THE INPUT: true; the input reads as it did. -/
def hashixKeptSpec : ChangeSpec := { name := "hashixKept", fn := fun _ => fun
  | [d1, d2] => { results := [.lit (.bool true)], args := [d1, d2] }
  | _ => none }
def hashixKeptRow : OpenClaim := { program := "ytefddiikdamnbaagreatdoor", sum := "f17ee291ac0f5f651511a72e0ef537e7aa8fb97dcbd69a040e648e9224abf4ad", func := "vestibule/vestibulelaw11.HashixKept", spec := "hashixKept", inPlace := ["internal/abi.NoEscape", "internal/bytealg.MakeNoZero"], unfollowed := true, recurses := true, named := ["math/bits.deBruijn64tab"], loops := true, apart := false, laid := [("math/bits.deBruijn64tab", laid_math_bits_deBruijn64tab)] }
def HashixKeptSaid : Prop := hashixKeptRow.holds Tryz.pinned (OpenSpec.ofChange hashixKeptSpec)

/-- ITS FALSE NEIGHBOUR: 'it returns false'. Refute it at one input. -/
def hashixKeptWrong : ChangeSpec := { name := "hashixKept", fn := fun _ => fun
  | [d1, d2] => { results := [.lit (.bool false)], args := [d1, d2] }
  | _ => none }
def HashixKeptWrongFalsely : Prop := hashixKeptRow.holds Tryz.pinned (OpenSpec.ofChange hashixKeptWrong)

/-- 'vestibulelaw11.HashixBuckets': WHATEVER THE INPUT: true; the input reads as it did. -/
def hashixBucketsSpec : ChangeSpec := { name := "hashixBuckets", fn := fun _ => fun
  | [d1, d2] => { results := [.lit (.bool true)], args := [d1, d2] }
  | _ => none }
def hashixBucketsRow : OpenClaim := { program := "ytefddiikdamnbaagreatdoor", sum := "f17ee291ac0f5f651511a72e0ef537e7aa8fb97dcbd69a040e648e9224abf4ad", func := "vestibule/vestibulelaw11.HashixBuckets", spec := "hashixBuckets", inPlace := ["internal/abi.NoEscape", "internal/bytealg.MakeNoZero"], unfollowed := true, recurses := true, named := ["math/bits.deBruijn64tab"], loops := true, apart := false, laid := [("math/bits.deBruijn64tab", laid_math_bits_deBruijn64tab)] }
def HashixBucketsSaid : Prop := hashixBucketsRow.holds Tryz.pinned (OpenSpec.ofChange hashixBucketsSpec)

/-- ITS FALSE NEIGHBOUR: 'it returns false'. Refute it at one input. -/
def hashixBucketsWrong : ChangeSpec := { name := "hashixBuckets", fn := fun _ => fun
  | [d1, d2] => { results := [.lit (.bool false)], args := [d1, d2] }
  | _ => none }
def HashixBucketsWrongFalsely : Prop := hashixBucketsRow.holds Tryz.pinned (OpenSpec.ofChange hashixBucketsWrong)

/-- 'vestibulelaw11.HashixGrows': WHATEVER THE INPUT: true; the input reads as it did. -/
def hashixGrowsSpec : ChangeSpec := { name := "hashixGrows", fn := fun _ => fun
  | [d1, d2] => { results := [.lit (.bool true)], args := [d1, d2] }
  | _ => none }
def hashixGrowsRow : OpenClaim := { program := "ytefddiikdamnbaagreatdoor", sum := "f17ee291ac0f5f651511a72e0ef537e7aa8fb97dcbd69a040e648e9224abf4ad", func := "vestibule/vestibulelaw11.HashixGrows", spec := "hashixGrows", inPlace := ["internal/abi.NoEscape", "internal/bytealg.MakeNoZero"], unfollowed := true, recurses := true, named := ["math/bits.deBruijn64tab"], apart := false, laid := [("math/bits.deBruijn64tab", laid_math_bits_deBruijn64tab)] }
def HashixGrowsSaid : Prop := hashixGrowsRow.holds Tryz.pinned (OpenSpec.ofChange hashixGrowsSpec)

/-- ITS FALSE NEIGHBOUR: 'it returns false'. Refute it at one input. -/
def hashixGrowsWrong : ChangeSpec := { name := "hashixGrows", fn := fun _ => fun
  | [d1, d2] => { results := [.lit (.bool false)], args := [d1, d2] }
  | _ => none }
def HashixGrowsWrongFalsely : Prop := hashixGrowsRow.holds Tryz.pinned (OpenSpec.ofChange hashixGrowsWrong)

/-- 'vestibulelaw11.HashixNobody': WHATEVER THE INPUT: true; the input reads as it did. -/
def hashixNobodySpec : ChangeSpec := { name := "hashixNobody", fn := fun _ => fun
  | [d1, d2] => { results := [.lit (.bool true)], args := [d1, d2] }
  | _ => none }
def hashixNobodyRow : OpenClaim := { program := "ytefddiikdamnbaagreatdoor", sum := "f17ee291ac0f5f651511a72e0ef537e7aa8fb97dcbd69a040e648e9224abf4ad", func := "vestibule/vestibulelaw11.HashixNobody", spec := "hashixNobody", inPlace := ["internal/abi.NoEscape", "internal/bytealg.MakeNoZero"], unfollowed := true, recurses := true, named := ["math/bits.deBruijn64tab"], loops := true, apart := false, laid := [("math/bits.deBruijn64tab", laid_math_bits_deBruijn64tab)] }
def HashixNobodySaid : Prop := hashixNobodyRow.holds Tryz.pinned (OpenSpec.ofChange hashixNobodySpec)

/-- ITS FALSE NEIGHBOUR: 'it returns false'. Refute it at one input. -/
def hashixNobodyWrong : ChangeSpec := { name := "hashixNobody", fn := fun _ => fun
  | [d1, d2] => { results := [.lit (.bool false)], args := [d1, d2] }
  | _ => none }
def HashixNobodyWrongFalsely : Prop := hashixNobodyRow.holds Tryz.pinned (OpenSpec.ofChange hashixNobodyWrong)

/-- 'vestibulelaw11.HashixTurns': WHATEVER THE INPUT: true; the input reads as it did. -/
def hashixTurnsSpec : ChangeSpec := { name := "hashixTurns", fn := fun _ => fun
  | [d1, d2] => { results := [.lit (.bool true)], args := [d1, d2] }
  | _ => none }
def hashixTurnsRow : OpenClaim := { program := "ytefddiikdamnbaagreatdoor", sum := "f17ee291ac0f5f651511a72e0ef537e7aa8fb97dcbd69a040e648e9224abf4ad", func := "vestibule/vestibulelaw11.HashixTurns", spec := "hashixTurns", inPlace := ["internal/abi.NoEscape", "internal/bytealg.MakeNoZero"], unfollowed := true, recurses := true, named := ["math/bits.deBruijn64tab"], loops := true, apart := false, laid := [("math/bits.deBruijn64tab", laid_math_bits_deBruijn64tab)] }
def HashixTurnsSaid : Prop := hashixTurnsRow.holds Tryz.pinned (OpenSpec.ofChange hashixTurnsSpec)

/-- ITS FALSE NEIGHBOUR: 'it returns false'. Refute it at one input. -/
def hashixTurnsWrong : ChangeSpec := { name := "hashixTurns", fn := fun _ => fun
  | [d1, d2] => { results := [.lit (.bool false)], args := [d1, d2] }
  | _ => none }
def HashixTurnsWrongFalsely : Prop := hashixTurnsRow.holds Tryz.pinned (OpenSpec.ofChange hashixTurnsWrong)

/- THE SECOND FORM. 'bulk': how many values and letters a reading holds, each counted each time it is reached (what is shared counts as often as it is met; a slice's spare places count too). A statement '..UptoSaid' is the law's where the arguments, and the package variables that the reading takes, are together of bulk at most 1048576: NARROWER than '..Said'. Prove '..Said' where nothing that the law and all that it calls make is longer than what came in: it says more and counts as full. Else prove '..UptoSaid'. A law counts once. -/
mutual
def uptoBulk {H : Type} : DataW H → Nat
  | .lit (.string bytes) => bytes.length + 1
  | .lit _ => 1
  | .nil => 1
  | .ptr d => uptoBulk d + 1
  | .slice elems spare => uptoBulkAll elems + uptoBulkAll spare + 1
  | .agg parts => uptoBulkAll parts + 1
  | .iface _ d => uptoBulk d + 1
  | .map entries => uptoBulkEntries entries + 1
  | .held _ => 1
def uptoBulkAll {H : Type} : List (DataW H) → Nat
  | [] => 0
  | d :: r => uptoBulk d + uptoBulkAll r
def uptoBulkEntries {H : Type} : List (Lit × DataW H) → Nat
  | [] => 0
  | x :: r => uptoBulkEntry x + uptoBulkEntries r
def uptoBulkEntry {H : Type} : Lit × DataW H → Nat
  | (.string bytes, d) => bytes.length + uptoBulk d + 1
  | (_, d) => uptoBulk d + 1
 end
def uptoSmall : (H : Type) → List (DataW H) → Bool := fun _ ds => decide (uptoBulkAll ds ≤ 1048576)
def OpenSpec.upto (s : _root_.Go.ChangeSpec) : _root_.Go.OpenSpec := { _root_.Go.OpenSpec.ofChange s with cond := some uptoSmall }

/-- 'vestibulelaw05.SpaceOver', WHERE WHAT IT READS IS OF BULK AT MOST 1048576: true; the input reads as it did. -/
def spaceOverUptoRow : OpenClaim := { program := "ytefddiikdamnbaagreatdoor", sum := "f17ee291ac0f5f651511a72e0ef537e7aa8fb97dcbd69a040e648e9224abf4ad", func := "vestibule/vestibulelaw05.SpaceOver", spec := "spaceOver", inPlace := ["internal/abi.NoEscape", "internal/bytealg.MakeNoZero"], unfollowed := true, recurses := true, named := ["math/bits.deBruijn64tab"], apart := false, laid := [("math/bits.deBruijn64tab", laid_math_bits_deBruijn64tab)], narrowed := true }
def SpaceOverUptoSaid : Prop := spaceOverUptoRow.holds Tryz.pinned (OpenSpec.upto spaceOverSpec)

/-- 'vestibulelaw11.HashixPlays', WHERE WHAT IT READS IS OF BULK AT MOST 1048576: true; the input reads as it did. -/
def hashixPlaysUptoRow : OpenClaim := { program := "ytefddiikdamnbaagreatdoor", sum := "f17ee291ac0f5f651511a72e0ef537e7aa8fb97dcbd69a040e648e9224abf4ad", func := "vestibule/vestibulelaw11.HashixPlays", spec := "hashixPlays", inPlace := ["internal/abi.NoEscape", "internal/bytealg.MakeNoZero"], unfollowed := true, recurses := true, named := ["math/bits.deBruijn64tab"], loops := true, apart := false, laid := [("math/bits.deBruijn64tab", laid_math_bits_deBruijn64tab)], narrowed := true }
def HashixPlaysUptoSaid : Prop := hashixPlaysUptoRow.holds Tryz.pinned (OpenSpec.upto hashixPlaysSpec)

/-- 'vestibulelaw11.HashixKept', WHERE WHAT IT READS IS OF BULK AT MOST 1048576: true; the input reads as it did. -/
def hashixKeptUptoRow : OpenClaim := { program := "ytefddiikdamnbaagreatdoor", sum := "f17ee291ac0f5f651511a72e0ef537e7aa8fb97dcbd69a040e648e9224abf4ad", func := "vestibule/vestibulelaw11.HashixKept", spec := "hashixKept", inPlace := ["internal/abi.NoEscape", "internal/bytealg.MakeNoZero"], unfollowed := true, recurses := true, named := ["math/bits.deBruijn64tab"], loops := true, apart := false, laid := [("math/bits.deBruijn64tab", laid_math_bits_deBruijn64tab)], narrowed := true }
def HashixKeptUptoSaid : Prop := hashixKeptUptoRow.holds Tryz.pinned (OpenSpec.upto hashixKeptSpec)

/-- 'vestibulelaw11.HashixBuckets', WHERE WHAT IT READS IS OF BULK AT MOST 1048576: true; the input reads as it did. -/
def hashixBucketsUptoRow : OpenClaim := { program := "ytefddiikdamnbaagreatdoor", sum := "f17ee291ac0f5f651511a72e0ef537e7aa8fb97dcbd69a040e648e9224abf4ad", func := "vestibule/vestibulelaw11.HashixBuckets", spec := "hashixBuckets", inPlace := ["internal/abi.NoEscape", "internal/bytealg.MakeNoZero"], unfollowed := true, recurses := true, named := ["math/bits.deBruijn64tab"], loops := true, apart := false, laid := [("math/bits.deBruijn64tab", laid_math_bits_deBruijn64tab)], narrowed := true }
def HashixBucketsUptoSaid : Prop := hashixBucketsUptoRow.holds Tryz.pinned (OpenSpec.upto hashixBucketsSpec)

/-- 'vestibulelaw11.HashixGrows', WHERE WHAT IT READS IS OF BULK AT MOST 1048576: true; the input reads as it did. -/
def hashixGrowsUptoRow : OpenClaim := { program := "ytefddiikdamnbaagreatdoor", sum := "f17ee291ac0f5f651511a72e0ef537e7aa8fb97dcbd69a040e648e9224abf4ad", func := "vestibule/vestibulelaw11.HashixGrows", spec := "hashixGrows", inPlace := ["internal/abi.NoEscape", "internal/bytealg.MakeNoZero"], unfollowed := true, recurses := true, named := ["math/bits.deBruijn64tab"], apart := false, laid := [("math/bits.deBruijn64tab", laid_math_bits_deBruijn64tab)], narrowed := true }
def HashixGrowsUptoSaid : Prop := hashixGrowsUptoRow.holds Tryz.pinned (OpenSpec.upto hashixGrowsSpec)

/-- 'vestibulelaw11.HashixNobody', WHERE WHAT IT READS IS OF BULK AT MOST 1048576: true; the input reads as it did. -/
def hashixNobodyUptoRow : OpenClaim := { program := "ytefddiikdamnbaagreatdoor", sum := "f17ee291ac0f5f651511a72e0ef537e7aa8fb97dcbd69a040e648e9224abf4ad", func := "vestibule/vestibulelaw11.HashixNobody", spec := "hashixNobody", inPlace := ["internal/abi.NoEscape", "internal/bytealg.MakeNoZero"], unfollowed := true, recurses := true, named := ["math/bits.deBruijn64tab"], loops := true, apart := false, laid := [("math/bits.deBruijn64tab", laid_math_bits_deBruijn64tab)], narrowed := true }
def HashixNobodyUptoSaid : Prop := hashixNobodyUptoRow.holds Tryz.pinned (OpenSpec.upto hashixNobodySpec)

/-- 'vestibulelaw11.HashixTurns', WHERE WHAT IT READS IS OF BULK AT MOST 1048576: true; the input reads as it did. -/
def hashixTurnsUptoRow : OpenClaim := { program := "ytefddiikdamnbaagreatdoor", sum := "f17ee291ac0f5f651511a72e0ef537e7aa8fb97dcbd69a040e648e9224abf4ad", func := "vestibule/vestibulelaw11.HashixTurns", spec := "hashixTurns", inPlace := ["internal/abi.NoEscape", "internal/bytealg.MakeNoZero"], unfollowed := true, recurses := true, named := ["math/bits.deBruijn64tab"], loops := true, apart := false, laid := [("math/bits.deBruijn64tab", laid_math_bits_deBruijn64tab)], narrowed := true }
def HashixTurnsUptoSaid : Prop := hashixTurnsUptoRow.holds Tryz.pinned (OpenSpec.upto hashixTurnsSpec)

end Rows
end Go.Proofs.YtefddiikdamnbaaGreatDoor
