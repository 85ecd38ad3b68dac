/- THE WALK of the model's l6In. -/
import Derived.Test.YtkdhifofdghbbaaChecked
import Derived.Test.YtkdhifofdghbbaaCells
namespace Go.Proofs.Ytkdhifofdghbbaa
open Go.RowKit

theorem l6In_any (n low high : Int) (b : Bool) (w : World) (hb : (decide (low ≤ n) && decide (n ≤ high)) = b) :
    Calls Try.prog 39 #[.int .i64 n, .int .i64 low, .int .i64 high] w fun e w' => e = .returned (.bool b) ∧ w = w' := by
  by_cases h1 : low ≤ n
  · by_cases h2 : n ≤ high
    · obtain rfl : true = b := by rw [← hb]; simp [h1, h2]
      clear hb
      go_enter Try.func39, Try.ntmps39
      go_wp2
      go_ret
      exact ⟨rfl, rfl⟩
    · obtain rfl : false = b := by rw [← hb]; simp [h2]
      clear hb
      go_enter Try.func39, Try.ntmps39
      go_wp2
      go_ret
      exact ⟨rfl, rfl⟩
  · obtain rfl : false = b := by rw [← hb]; simp [h1]
    clear hb
    go_enter Try.func39, Try.ntmps39
    go_wp2
    go_ret
    exact ⟨rfl, rfl⟩
end Go.Proofs.Ytkdhifofdghbbaa
