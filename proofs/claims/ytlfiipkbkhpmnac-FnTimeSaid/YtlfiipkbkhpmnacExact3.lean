/- THE WALKS of the exact laws of ShapeRounds, ShapeRuns, ShapeApart. -/
import Derived.Test.YtlfiipkbkhpmnacApart
namespace Go.Proofs.Ytlfiipkbkhpmnac
open Go.RowKit

theorem rdR_len (s : ByteArray) : (rdR s).length ≤ 120 := by
  unfold rdR
  cases hv : vld s
  · exact Nat.zero_le _
  · have h120 := vld_le s hv
    obtain ⟨b1, _⟩ := rdB_bd (bits s)
    have hnb : nballs (bits s) ≤ s.size := by
      have h1 := nballs_le (bits s) s.size
      rw [List.take_of_length_le (by rw [length_bits]; exact Nat.le_refl _)] at h1
      exact h1
    show (ni (rdB (bits s))).length ≤ 120
    rw [ni_length]; omega
theorem rnR_len (s : ByteArray) : (rnR s).length ≤ 120 := by
  unfold rnR
  cases hv : vld s
  · exact Nat.zero_le _
  · have h120 := vld_le s hv
    show (ni (rr (bits s)).1).length ≤ 120
    rw [ni_length, ← (rsS_rr s).1, List.length_map]
    have := rsS_len s
    omega

end Go.Proofs.Ytlfiipkbkhpmnac
