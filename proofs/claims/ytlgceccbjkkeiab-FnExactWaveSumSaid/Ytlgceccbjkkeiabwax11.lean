/- TEXTS RowTurned. -/
import Derived.Test.Ytlgceccbjkkeiabwax04
import Derived.RegionTactic
import Derived.ChangeAlike
import Derived.BigRegion
/- slices.Reverse of a row, in place. -/
namespace Go.Proofs.Ytlgceccbjkkeiab
open Go.RowKit

/-- the first k and the last k boxes have been exchanged -/
def Turned (l xs : List Bool) (k : Nat) : Prop := xs.length = l.length ∧ ∀ j, j < l.length → xs[j]? = if j < k ∨ l.length - 1 - j < k then l[l.length - 1 - j]? else l[j]?
theorem Turned.start (l : List Bool) : Turned l l 0 := ⟨rfl, fun j _ => by simp⟩
theorem Turned.step {l xs : List Bool} {k m : Nat} (h : Turned l xs k) (hk : k < m) (hm : k + m + 1 = l.length) (x y : Bool) (hx : l[k]? = some x) (hy : l[m]? = some y) : Turned l ((xs.set k y).set m x) (k + 1) := by
  refine ⟨by simp [h.1], ?_⟩
  intro j hj
  have hl := h.1
  rw [List.getElem?_set, List.getElem?_set]
  by_cases e1 : m = j
  · subst e1
    rw [if_pos rfl, if_pos (by simp; omega), if_pos (by omega), show l.length - 1 - m = k by omega, hx]
  · rw [if_neg e1]
    by_cases e2 : k = j
    · subst e2
      rw [if_pos rfl, if_pos (by omega), if_pos (by omega), show l.length - 1 - k = m by omega, hy]
    · rw [if_neg e2, h.2 j hj]
      by_cases c : j < k ∨ l.length - 1 - j < k
      · rw [if_pos c, if_pos (by omega)]
      · rw [if_neg c, if_neg (by omega)]
theorem Turned.stop {l xs : List Bool} {k m : Nat} (h : Turned l xs k) (hk : ¬ k < m) (hm : k + m + 1 = l.length) : xs = l.reverse := by
  apply List.ext_getElem?
  intro j
  by_cases hj : j < l.length
  · rw [h.2 j hj, List.getElem?_reverse hj]
    by_cases c : j < k ∨ l.length - 1 - j < k
    · rw [if_pos c]
    · rw [if_neg c, show l.length - 1 - j = j by omega]
  · rw [List.getElem?_eq_none_iff.2 (by rw [h.1]; omega), List.getElem?_eq_none_iff.2 (by simp; omega)]

end Go.Proofs.Ytlgceccbjkkeiab

/- THE WALKS of RowTurned, of the model and of the program, and of its exact law. -/
namespace Go.Proofs.Ytlgceccbjkkeiab
open Go.RowKit

/-- the boxes up to the last ball in the opposite order, up to the last ball -/
def turnB (l : List Bool) : List Bool := cut (cut l).reverse
def turnS (s : ByteArray) : ByteArray := if vld s then ofBits (turnB (bits s)) else ByteArray.empty

theorem sub_toList (t : ByteArray) (k : Nat) (h : k < t.size) : (t.extract k (k + 1)).data.toList = [t[k]] := by
  rw [Lib.extract_data, show k + 1 - k = 1 by omega, List.drop_eq_getElem_cons (by simpa using h)]
  simp
  rfl

end Go.Proofs.Ytlgceccbjkkeiab
