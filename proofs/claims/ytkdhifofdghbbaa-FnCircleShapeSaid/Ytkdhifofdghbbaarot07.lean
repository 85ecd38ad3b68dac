/- TEXTS SCol3. -/
import Derived.Test.Ytkdhifofdghbbaarot06
/- THE WALKS of the model's l5Back, ColourMove, ColourStep, ColourBack. -/
namespace Go.Proofs.Ytkdhifofdghbbaa
open Go.RowKit Go.Lib

/-- what a move back answers -/
def bkV (c : UInt8) (s : ByteArray) : ByteArray := if cbOk c (lst s) then ofL (bk1 c (lst s)) else ByteArray.empty

end Go.Proofs.Ytkdhifofdghbbaa
