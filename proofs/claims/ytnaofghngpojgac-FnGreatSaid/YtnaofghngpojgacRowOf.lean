/- THE WALKS of RowOf, of the model and of the program, and of its exact law. -/
import Derived.Test.YtnaofghngpojgacRowTidy
import Derived.Test.YtnaofghngpojgacDraw3
import Derived.Test.YtnaofghngpojgacLevels
namespace Go.Proofs.Ytnaofghngpojgac
open Go.RowKit

/-- balls put into boxes one by one -/
def ofR : List Bool → List Int → Option (List Bool)
  | h, [] => some h
  | h, x :: r => if 0 ≤ x ∧ x < 120 ∧ h[x.toNat]? = some false then ofR (h.set x.toNat true) r else none
def none120 : List Bool := List.replicate 120 false
def ofS (l : List Int) : ByteArray := match ofR none120 l with | some h => ofBits (cut h) | none => ByteArray.empty
def ofOk (l : List Int) : Bool := (ofR none120 l).isSome
theorem ofR_bad (h : List Bool) (x : Int) (r : List Int) (hx : ¬ (0 ≤ x ∧ x < 120 ∧ h[x.toNat]? = some false)) : ofR h (x :: r) = none := by unfold ofR; rw [if_neg hx]
theorem ofR_good (h : List Bool) (x : Int) (r : List Int) (hx : 0 ≤ x ∧ x < 120 ∧ h[x.toNat]? = some false) : ofR h (x :: r) = ofR (h.set x.toNat true) r := by
  rw [ofR, if_pos hx]
theorem ofS_none {l : List Int} (h : ofR none120 l = none) : ofS l = ByteArray.empty ∧ ofOk l = false := by unfold ofS ofOk; rw [h]; exact ⟨rfl, rfl⟩
theorem ofS_some {l : List Int} {b : List Bool} (h : ofR none120 l = some b) : ofS l = ofBits (cut b) ∧ ofOk l = true := by unfold ofS ofOk; rw [h]; exact ⟨rfl, rfl⟩

end Go.Proofs.Ytnaofghngpojgac
