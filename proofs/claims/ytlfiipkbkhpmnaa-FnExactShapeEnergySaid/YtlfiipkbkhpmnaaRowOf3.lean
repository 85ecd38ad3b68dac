/- THE WALK of the exact law of RowOf. -/
import Derived.Test.YtlfiipkbkhpmnaaRowOf2
namespace Go.Proofs.Ytlfiipkbkhpmnaa
open Go.RowKit

/-- an argument that came in lies as it lay -/
theorem IsRow.below {k : IntKind} {w w' : World} {a : Option Addr} {len cap : Nat} {z : List Int} (h : IsRow k w a len cap z) (hb : Below w.heap.size w w') : IsRow k w' a len cap z := by
  rcases h with h | ⟨x, rfl, hl, hm, hz, hcell, hwz⟩
  · exact .inl h
  · refine .inr ⟨x, rfl, hl, hm, hz, fun i hi => ?_, hwz⟩
    have hc := hcell i hi
    have hlt := World.block_lt_of_cell? w _ hc
    exact (hb.cell hlt).trans hc
theorem IsRow.take_len {k : IntKind} {w : World} {a : Option Addr} {len cap : Nat} {z : List Int} (h : IsRow k w a len cap z) : (z.take len).length = len := by
  rcases h with ⟨_, rfl, _, rfl⟩ | ⟨x, rfl, hl, hm, hz, hcell, hwz⟩
  · rfl
  · rw [List.length_take]; omega

end Go.Proofs.Ytlfiipkbkhpmnaa
