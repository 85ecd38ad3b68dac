/- WHAT THE MODEL ANSWERS OF ROWS AND RIGGED PARTITIONS: the facts behind the promises of chapter 4. Pure: no walk. -/
import Derived.Test.YteibopcneflidaaDoorRigA
import Derived.Test.YteibopcneflidaaDoorRig5
import Derived.Test.YteibopcneflidaaDoorRowHigh
namespace Go.Proofs.YteibopcneflidaaDoor
open Go.RowKit

/-- the reversed row of a text -/
def rvB (s : ByteArray) : List Bool := (bits s).reverse
/-- RigOf -/
def rgOf (s : ByteArray) : List (Int × Int) := if highB s then kRc (rvB s) else []
/-- levels of a row and balances of its beginnings -/
theorem kBal_levAt (l : List Bool) : ∀ k, k ≤ l.length → kBal (l.take k).reverse = levAt l k
  | 0, _ => by rw [levAt_zero]; rfl
  | k + 1, h => by
    have ih := kBal_levAt l k (by omega)
    have hk : k < l.length := by omega
    rw [List.take_succ_eq_append_getElem hk, List.reverse_append, levAt_succ l k l[k] (List.getElem?_eq_getElem hk), ← ih]
    rfl
theorem kHi_lev (l : List Bool) : ∀ k, k ≤ l.length → (kHi (l.take k).reverse ↔ ∀ j, j ≤ k → 0 ≤ levAt l j)
  | 0, _ => ⟨fun _ j hj => by rw [Nat.le_zero.1 hj, levAt_zero]; exact Int.le_refl _, fun _ => trivial⟩
  | k + 1, h => by
    have ih := kHi_lev l k (by omega)
    have hb := kBal_levAt l (k + 1) h
    have hk : k < l.length := by omega
    rw [List.take_succ_eq_append_getElem hk, List.reverse_append] at hb ⊢
    have e : kHi ([l[k]].reverse ++ (l.take k).reverse) ↔ (kHi (l.take k).reverse ∧ 0 ≤ kBal ([l[k]].reverse ++ (l.take k).reverse)) := Iff.rfl
    rw [e, ih, hb]
    exact ⟨fun g j hj => by
      by_cases hjk : j ≤ k
      · exact g.1 j hjk
      · rw [show j = k + 1 by omega]; exact g.2, fun g => ⟨fun j hj => g j (by omega), g _ (Nat.le_refl _)⟩⟩
theorem kHi_all (l : List Bool) : kHi l.reverse ↔ (lev l).all nn = true := by
  have h := kHi_lev l l.length (Nat.le_refl _)
  rw [List.take_length] at h
  rw [h, List.all_eq_true]
  unfold lev
  constructor
  · intro g x hx
    obtain ⟨j, hj, rfl⟩ := List.mem_map.1 hx
    have := g j (by have := List.mem_range.1 hj; omega)
    unfold nn
    simpa using this
  · intro g j hj
    have := g _ (List.mem_map.2 ⟨j, List.mem_range.2 (by omega), rfl⟩)
    unfold nn at this
    simpa using this
theorem highB_iff (s : ByteArray) : highB s = true ↔ levOk s = true ∧ kHi (rvB s) := by
  unfold highB rvB
  rw [Bool.and_eq_true, kHi_all]
  refine ⟨fun h => ⟨h.1, by have := h.2; unfold levR at this; rw [h.1] at this; exact this⟩, fun h => ⟨h.1, by unfold levR; rw [h.1]; exact h.2⟩⟩
end Go.Proofs.YteibopcneflidaaDoor
