/- THE WALKS of the model's ColourCounts and ColourPlain. -/
import Derived.Test.YtppelmceojodhaaDoorSCol4
import Derived.Test.YtppelmceojodhaaDoorInts
namespace Go.Proofs.YtppelmceojodhaaDoor
open Go.RowKit Go.Lib

/-- ColourCounts -/
def ccT (l : List UInt8) : List Int := [(l.count 49 : Int), (l.count 50 : Int), (l.count 51 : Int)]
def ccL (s : ByteArray) : List Int := if cIn s then ccT (lst s) else []
theorem ccL_in {s : ByteArray} (h : cIn s = true) : ccL s = ccT (lst s) := by unfold ccL; rw [if_pos h]
theorem ccL_length (s : ByteArray) : (ccL s).length ≤ 3 := by
  unfold ccL
  split
  · exact Nat.le_refl _
  · exact Nat.zero_le _
theorem count_next {l : List UInt8} {k : Nat} {y : UInt8} (h : l[k]? = some y) (d : UInt8) : (l.take (k + 1)).count d = (l.take k).count d + if y = d then 1 else 0 := by
  rw [(take_one h).1, List.count_append, List.count_cons, List.count_nil]
  simp
theorem ccT_none {l : List UInt8} {k : Nat} (h : l[k]? = some 48) : ccT (l.take (k + 1)) = ccT (l.take k) := by
  unfold ccT
  rw [count_next h, count_next h, count_next h]
  rfl
theorem ccT_one {l : List UInt8} {k : Nat} (h : l[k]? = some 49) : ccT (l.take (k + 1)) = (ccT (l.take k)).set 0 (((l.take k).count 49 : Int) + 1) := by
  unfold ccT
  rw [count_next h, count_next h, count_next h]
  rfl
theorem ccT_two {l : List UInt8} {k : Nat} (h : l[k]? = some 50) : ccT (l.take (k + 1)) = (ccT (l.take k)).set 1 (((l.take k).count 50 : Int) + 1) := by
  unfold ccT
  rw [count_next h, count_next h, count_next h]
  rfl
theorem ccT_three {l : List UInt8} {k : Nat} (h : l[k]? = some 51) : ccT (l.take (k + 1)) = (ccT (l.take k)).set 2 (((l.take k).count 51 : Int) + 1) := by
  unfold ccT
  rw [count_next h, count_next h, count_next h]
  rfl
theorem infoI64 : (Tryd.prog.info? 3).map (fun i => (i.zero, i.size, i.bytes)) = some (some (.int .i64 0), 1, 8) := by kernel_rfl

end Go.Proofs.YtppelmceojodhaaDoor
