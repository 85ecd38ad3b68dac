/- THE WALKS of the exact laws of ShapeOf and ShapeRow. -/
import Derived.Test.YtlfiipkbkhpmnacRowF
import Derived.Test.YtlfiipkbkhpmnacShape5
import Derived.Test.YtlfiipkbkhpmnacRowOf
namespace Go.Proofs.Ytlfiipkbkhpmnac
open Go.RowKit

theorem shR_len (s : ByteArray) : (shR s).length ≤ 120 := by
  unfold shR
  cases hv : vld s
  · exact Nat.zero_le _
  · have h120 := vld_le s hv
    show (ni (shB3 (bits s))).length ≤ 120
    rw [ni_length, shB3_length, ← (runs_energy (bits s)).1]
    have := runs_few (bits s)
    rw [length_bits] at this
    omega

end Go.Proofs.Ytlfiipkbkhpmnac
