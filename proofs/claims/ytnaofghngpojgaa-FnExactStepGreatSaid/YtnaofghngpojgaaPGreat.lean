/- THE WALKS of the exact law of StepGreat and of the law FnGreat. -/
import Derived.Test.YtnaofghngpojgaaGreat3
import Derived.Test.YtnaofghngpojgaaDraw5
namespace Go.Proofs.Ytnaofghngpojgaa
open Go.RowKit

set_option maxHeartbeats 400000 in
theorem walkFnExactStepGreat (s : ByteArray) (hs : s.size ≤ maxLen) (w : World) :
    Calls Try.prog 8 #[.string s] w fun e w' => e = .returned (.bool true) ∧ Below w.heap.size w w' := by
  have hs' := hs
  unfold maxLen at hs'
  by_cases hbig : 1048576 < s.size
  · go_enter Try.func8, Try.ntmps8
    go_wp2
    go_ret
    exact ⟨rfl, Below.refl _ _⟩
  · have C0 := hide (fun w => specStepGreat_any s w hs)
    have C1 := hide (fun w => implStepGreat_any s w hs)
    obtain ⟨x, ex⟩ : ∃ x, x = stS s 200 := ⟨_, rfl⟩
    obtain ⟨b, eb⟩ : ∃ x, x = stOk s 200 := ⟨_, rfl⟩
    rw [← ex, ← eb] at C0 C1
    clear ex eb
    go_enter Try.func8, Try.ntmps8
    go_wp2_with (first | (go_at_call 22; refine (C0.out _).mono ?_; rintro e w1 ⟨rfl, hb1⟩) | (go_at_call 23; refine (C1.out _).mono ?_; rintro e w2 ⟨rfl, hb2⟩))
    go_ret
    exact ⟨rfl, hb1.trans (hb2.mono hb1.size)⟩

end Go.Proofs.Ytnaofghngpojgaa
