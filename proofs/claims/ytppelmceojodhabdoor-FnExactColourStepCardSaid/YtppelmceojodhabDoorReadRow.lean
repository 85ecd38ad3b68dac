/- THE WALKS of readRow and of its method tidy. -/
import Derived.Test.YtppelmceojodhabDoorValid
import Derived.Test.YtppelmceojodhabDoorCells
namespace Go.Proofs.YtppelmceojodhabDoor
open Go.RowKit

theorem ret_slice {a : Option Addr} {n m c : Nat} (h : n = m) : Ending.returned (.slice a n c) = .returned (.slice a m c) := by rw [h]

theorem infoB : (Tryd.prog.info? 4).map (fun i => (i.zero, i.size, i.bytes)) = some (some (.bool false), 1, 1) := by kernel_rfl

theorem vld_len (s : ByteArray) (h : vld s = true) : s.size ≤ 120 := by
  unfold vld at h; simp at h; exact h.2

end Go.Proofs.YtppelmceojodhabDoor
