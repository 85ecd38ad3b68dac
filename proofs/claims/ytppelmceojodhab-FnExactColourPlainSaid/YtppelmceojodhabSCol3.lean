/- THE WALKS of the model's l5Back, ColourMove, ColourStep, ColourBack. -/
import Derived.Test.YtppelmceojodhabSCol2
import Derived.Test.YtppelmceojodhabCol5
namespace Go.Proofs.Ytppelmceojodhab
open Go.RowKit Go.Lib

/-- what a move back answers -/
def bkV (c : UInt8) (s : ByteArray) : ByteArray := if cbOk c (lst s) then ofL (bk1 c (lst s)) else ByteArray.empty

end Go.Proofs.Ytppelmceojodhab
