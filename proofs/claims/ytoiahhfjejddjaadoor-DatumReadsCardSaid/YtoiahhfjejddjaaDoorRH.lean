/- The contract of the reference's read at whatever text; whether a text is quoted. -/
import Derived.Test.YtoiahhfjejddjaaDoorRG
set_option maxRecDepth 100000
namespace Go.Proofs.YtoiahhfjejddjaaDoor
open Go Go.RowKit

theorem read_any (s : ByteArray) (w : World) (hs : s.size ≤ 140737488355000) : Calls Tryd.prog 49 #[.string s] w (ReadR s.data.toList w) := by
  by_cases h : s.data.toList.head? = some 39
  · exact read_quot s w hs h
  · exact read_num s w (by omega) h
end Go.Proofs.YtoiahhfjejddjaaDoor
