/- One cell of a row of one's own is set. -/
import Derived.Test.YtppelmceojodhaaDoorCells
namespace Go.Proofs.YtppelmceojodhaaDoor
open Go.RowKit
theorem own_set {w : World} {B e size n k : Nat} {a : Option Addr} {g c : Nat} {xs : List Value} (h : w.ownsRow B e size (.slice a n c) n xs) (ha : a = some ⟨g, 0, none⟩) (u : Value) : (w.setCell ⟨g, k, none⟩ u).ownsRow B e size (.slice a n c) n (xs.set k u) := by
  refine ⟨by rw [List.length_set]; exact h.1, ?_⟩
  rcases h.2 with ⟨h1, _⟩ | ⟨g', cap, cur, h1, h2, h3, h4, h5, h6, h7⟩
  · injection h1 with h1; rw [ha] at h1; cases h1
  · injection h1 with h1 _ h8
    rw [ha] at h1
    injection h1 with h1
    injection h1 with h1
    subst h1
    refine .inr ⟨g, cap, cur.set! k u, by rw [ha, h8], h2, ?_, h4, h5, by simpa using h6, ?_⟩
    · show (w.heap.modify g _)[g]? = _
      obtain ⟨hlt, hg⟩ := Array.getElem?_eq_some_iff.1 h3
      rw [Array.getElem?_eq_getElem (by rw [Array.size_modify]; exact hlt), Array.getElem_modify_self, hg]
      rfl
    · rw [← h7]
      simp [List.take_set]
end Go.Proofs.YtppelmceojodhaaDoor
