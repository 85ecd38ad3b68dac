/- THE WALK of the law FnBalls: balls are counted boxes. -/
import Derived.Test.YtlfiipkbkhpmnaaPTidy
import Derived.Test.YtlfiipkbkhpmnaaRowAt
import Derived.Test.YtlfiipkbkhpmnaaRowShift
import Derived.Test.YtlfiipkbkhpmnaaRowOf2
namespace Go.Proofs.Ytlfiipkbkhpmnaa
open Go.RowKit

theorem bits_ofBits (l : List Bool) : bits (ofBits l) = l := bits_chars l (ofBits l) (by simp [ofBits])
theorem vld_ofBits (l : List Bool) (h : l.length ≤ 120) : vld (ofBits l) = true := by
  unfold vld
  have e : (ofBits l).data.toList = chars l := by simp [ofBits]
  have hz : (ofBits l).size = l.length := by
    have := congrArg List.length e; rw [chars_length] at this; exact this
  rw [e, chars_sgn, hz]; simpa using h
theorem nballs_shB (n : Nat) (l : List Bool) : nballs (shB n l) = nballs l := by
  have : nballs (shB n l) = nballs (cut l) := by unfold shB nballs; rw [List.count_append, List.count_replicate]; simp
  rw [this, nballs_cut]
/-- what a shifted row is -/
theorem shS_facts (s : ByteArray) (n : Int) (h : shOk s n = true) : vld (shS s n) = true ∧ bits (shS s n) = if tl (bits s) = 0 then [] else shB n.toNat (bits s) := by
  by_cases h0 : tl (bits s) = 0
  · have e : shS s n = ByteArray.empty := by unfold shS; simp [h0]
    rw [e, if_pos h0]; exact ⟨rfl, rfl⟩
  · have e : shS s n = ofBits (shB n.toNat (bits s)) := by unfold shS; simp [h0, h]
    rw [e, if_neg h0, bits_ofBits]
    refine ⟨vld_ofBits _ ?_, rfl⟩
    rw [shB_length]
    unfold shOk at h
    simp [h0] at h
    omega
theorem nballs_shS (s : ByteArray) (n : Int) (h : shOk s n = true) : nballs (bits (shS s n)) = nballs (bits s) := by
  rw [(shS_facts s n h).2]
  by_cases h0 : tl (bits s) = 0
  · rw [if_pos h0, ← nballs_cut (bits s)]
    have : cut (bits s) = [] := by unfold cut; rw [h0]; rfl
    rw [this]
  · rw [if_neg h0, nballs_shB]
theorem shS_le (s : ByteArray) (n : Int) : (shS s n).size ≤ 120 := by
  cases h : shOk s n
  · have : shS s n = ByteArray.empty := by unfold shS; simp [h]
    rw [this]; exact Nat.zero_le _
  · exact vld_le _ (shS_facts s n h).1
theorem atR_length (s : ByteArray) (h : vld s = true) : (atR s).length = nballs (bits s) := by
  unfold atR; rw [h, if_pos rfl]; unfold posI; rw [List.length_map, count_boxes]

end Go.Proofs.Ytlfiipkbkhpmnaa
