/- THE WALK of the program's StepTaken; the walks of StepBack, of the model and of the program. -/
import Derived.Test.YtlfiipkbkhpmnaaStep3
import Derived.Test.YtlfiipkbkhpmnaaRowTurned
namespace Go.Proofs.Ytlfiipkbkhpmnaa
open Go.RowKit

theorem tk_up {K : Nat} {f : Nat → Bool} {k : Nat} (h : ld K f k < ld K f (k + 1)) : tk K f (k + 1) = tk K f k + 1 := by
  cases hf : f k
  · by_cases hu : 0 < ld K f k
    · have := (box_put hf hu).2.1; omega
    · have := (box_none hf hu).2.1; omega
  · by_cases hu : ld K f k < K
    · exact (box_take hf hu).2.2
    · have := (box_full hf hu).2.1; omega
theorem tk_flat {K : Nat} {f : Nat → Bool} {k : Nat} (h : ¬ ld K f k < ld K f (k + 1)) : tk K f (k + 1) = tk K f k := by
  cases hf : f k
  · by_cases hu : 0 < ld K f k
    · exact (box_put hf hu).2.2
    · exact (box_none hf hu).2.2
  · by_cases hu : ld K f k < K
    · have := (box_take hf hu).2.1; omega
    · exact (box_full hf hu).2.2
theorem tk_le (K : Nat) (f : Nat → Bool) (i : Nat) : tk K f i ≤ i := by
  induction i with
  | zero => exact Nat.le_refl _
  | succ i ih => show tk K _ i + _ ≤ _; split <;> omega

end Go.Proofs.Ytlfiipkbkhpmnaa
