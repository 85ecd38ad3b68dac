/- TEXTS Fit4. -/
import Derived.Test.YteibopcneflidabDoorRl20
/- THE WALKS of readParts, readFitting, roomIn, and the program's RigRoom, RigFits. -/
namespace Go.Proofs.YteibopcneflidabDoor
open Go.RowKit Go.Sort Go.Shelf

theorem RigAt.down {w : World} {r lo lo' : Nat} {v : Value} {l : List (Int × Int)} {m : Int} (h : RigAt w r lo v l m) (hl : lo' ≤ lo) : RigAt w r lo' v l m :=
  ⟨h.fn, h.items, h.boxes, h.free, owns_lo h.own hl, h.ne, Nat.le_trans hl h.lo_le⟩

theorem rgRoomOk_iff (l : List (Int × Int)) (n j : Int) : rgRoomOk l n j = true ↔ rgIn l = true ∧ (0 ≤ n ∧ n ≤ 120) ∧ 1 ≤ j ∧ j ≤ 60 := by
  unfold rgRoomOk szOne
  rw [Bool.and_eq_true, Bool.and_eq_true, rgBox_iff, and_assoc]
  simp

/-- what readFitting hands back -/
def FitPost (w : World) (l : List (Int × Int)) (n : Int) (ok : Bool) (e : Ending) (w' : World) : Prop :=
  if ok then ∃ r v', e = .returned (.tuple #[.pointer (some ⟨r, 0, none⟩), .nilIface]) ∧ RigAt w' r w.heap.size v' l n else ∃ s, e = .returned (.tuple #[.pointer none, .iface 61 (.string s)])

end Go.Proofs.YteibopcneflidabDoor
