/- THE WALK of the program's ColourPlain. -/
import Derived.Test.YtppelmceojodhaaDoorICol7
import Derived.Test.YtppelmceojodhaaDoorText
namespace Go.Proofs.YtppelmceojodhaaDoor
open Go.RowKit

theorem plB_take {c : Int} {l : List UInt8} {xs : List Bool} {k : Nat} {y : UInt8} (hy : l[k]? = some y) (hx : xs.length = l.length) (ht : xs.take k = (plL c l).take k) : (xs.set k (plB c y)).take (k + 1) = (plL c l).take (k + 1) := by
  obtain ⟨hk, e⟩ := List.getElem?_eq_some_iff.1 hy
  have hl : (plL c l).length = l.length := by simp [plL]
  rw [List.take_succ_eq_append_getElem (by simp; omega), List.take_succ_eq_append_getElem (by omega), List.take_set_of_le (Nat.le_refl _), ht]
  simp [plL, e]

end Go.Proofs.YtppelmceojodhaaDoor
