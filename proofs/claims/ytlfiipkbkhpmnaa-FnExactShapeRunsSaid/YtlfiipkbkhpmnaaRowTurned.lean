/- THE WALKS of RowTurned, of the model and of the program, and of its exact law. -/
import Derived.Test.YtlfiipkbkhpmnaaReverse
namespace Go.Proofs.Ytlfiipkbkhpmnaa
open Go.RowKit

/-- the boxes up to the last ball in the opposite order, up to the last ball -/
def turnB (l : List Bool) : List Bool := cut (cut l).reverse
def turnS (s : ByteArray) : ByteArray := if vld s then ofBits (turnB (bits s)) else ByteArray.empty

theorem sub_toList (t : ByteArray) (k : Nat) (h : k < t.size) : (t.extract k (k + 1)).data.toList = [t[k]] := by
  rw [Lib.extract_data, show k + 1 - k = 1 by omega, List.drop_eq_getElem_cons (by simpa using h)]
  simp
  rfl

end Go.Proofs.Ytlfiipkbkhpmnaa
