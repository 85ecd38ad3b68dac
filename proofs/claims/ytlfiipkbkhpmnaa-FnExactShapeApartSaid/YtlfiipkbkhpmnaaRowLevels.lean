/- THE WALKS of RowLevels, of the model and of the program, and of its exact law. -/
import Derived.Test.YtlfiipkbkhpmnaaLevels
namespace Go.Proofs.Ytlfiipkbkhpmnaa
open Go.RowKit

/-- a row that is tidy -/
def levOk (s : ByteArray) : Bool := vld s && decide (tl (bits s) = s.size)
def levR (s : ByteArray) : List Int := if levOk s then lev (bits s) else []

theorem tidyS_self (s : ByteArray) (h : tl (bits s) = s.size) : tidyS s = s := by
  unfold tidyS; rw [h]; simp
theorem tidyS_size (s : ByteArray) : (tidyS s).size = tl (bits s) := by
  have := tl_le (bits s)
  rw [length_bits] at this
  unfold tidyS; simp; omega

theorem levR_len (s : ByteArray) : (levR s).length ≤ 121 := by
  unfold levR
  cases h : levOk s
  · simp
  · have : vld s = true := by unfold levOk at h; simp at h; exact h.1
    have := vld_le s this
    simp [lev_length, length_bits]; omega

end Go.Proofs.Ytlfiipkbkhpmnaa
