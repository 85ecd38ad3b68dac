/- TEXTS Spec4b. -/
import Derived.Test.YteibopcneflidabDoorRl41
import Derived.Test.YteibopcneflidabDoorRl19
import Derived.Test.YteibopcneflidabDoorRl08
import Derived.Test.YteibopcneflidabDoorRl03
/- THE WALKS of the model's RigRoom, RigFits, RigSizes; of the program's RigSizes. -/
namespace Go.Proofs.YteibopcneflidabDoor
open Go.RowKit Go.Sort Go.Shelf

theorem rgIn_small {l : List (Int × Int)} (h : rgIn l = true) : l.length ≤ 1000 ∧ ∀ a ∈ l, 0 ≤ a.1 ∧ a.1 ≤ 1000 := by
  obtain ⟨h1, _, h3⟩ := (rgIn_iff l).1 h
  exact ⟨by omega, fun a ha => by have := h1 a ha; omega⟩

/-- the loop that lists sizes -/
def SzRel (l : List (Int × Int)) (N B : Nat) (w : World) (o i : Value) (wr : World) : Prop :=
  ∃ k : Nat, k ≤ N ∧ i = .int .i64 (k : Int) ∧ Hid (wr.ownsRow B 3 1 o k (((l.take k).map (fun a => a.1)).map (.int .i64))) ∧ Hid (Below B w wr) ∧ B ≤ wr.heap.size
theorem sz_next {l : List (Int × Int)} {k : Nat} {x : Int × Int} (hx : l[k]? = some x) : (((l.take (k + 1)).map (fun a => a.1)).map (Value.int .i64)) = (((l.take k).map (fun a => a.1)).map (Value.int .i64)) ++ [.int .i64 x.1] := by
  rw [List.take_add_one, hx, List.map_append, List.map_append]
  rfl

end Go.Proofs.YteibopcneflidabDoor
