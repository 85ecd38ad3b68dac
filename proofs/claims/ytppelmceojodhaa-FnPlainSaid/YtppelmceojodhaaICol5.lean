/- THE WALKS of bytes.TrimRight of zeros and of the program's method text of coloured rows. -/
import Derived.Test.YtppelmceojodhaaICol4
import Derived.Lib.ConvBytes
import Derived.Laws.IdiomStrings
namespace Go.Proofs.Ytppelmceojodhaa
open Go.RowKit Go.Lib

theorem madeU8 (n : Nat) : (madeCells (Value.int .u8 0).cells (n * 1)).toList = bV (List.replicate n 0) := by
  rw [Nat.mul_one]
  show (madeCells #[Value.int .u8 0] n).toList = _
  rw [toList_madeCells_one]
  unfold bV
  rw [List.map_replicate]
  rfl
theorem tl_nz_take {l : List UInt8} {k : Nat} (h : l[k]? = some 48) : tl ((nz l).take (k + 1)) = tl ((nz l).take k) := by
  have hk := (List.getElem?_eq_some_iff.1 h).1
  exact tl_take_pred (nz l) k (by rw [nz_length]; exact hk) (by unfold nz; rw [List.getElem?_map, h]; rfl)
theorem tl_nz_stop {l : List UInt8} {k : Nat} {x : UInt8} (h : l[k]? = some x) (hx : x ≠ 48) : tl ((nz l).take (k + 1)) = k + 1 := by
  have hk := (List.getElem?_eq_some_iff.1 h).1
  exact tl_take_stop (nz l) k (by rw [nz_length]; exact hk) (by unfold nz; rw [List.getElem?_map, h]; simpa using hx)

end Go.Proofs.Ytppelmceojodhaa
