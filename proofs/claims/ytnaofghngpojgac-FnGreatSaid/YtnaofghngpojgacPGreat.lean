/- THE WALKS of the exact law of StepGreat and of the law FnGreat. -/
import Derived.Test.YtnaofghngpojgacGreat3
import Derived.Test.YtnaofghngpojgacDraw5
namespace Go.Proofs.Ytnaofghngpojgac
open Go.RowKit

set_option maxHeartbeats 2000000 in
theorem walkFnGreat {w : World} (a : Option Addr) (len cap : Nat) (z : List Int) (hr : IsRow .u8 w a len cap z) :
    Calls Try.prog 5 #[.slice a len cap] w fun e w' => e = .returned (.bool true) ∧ Below w.heap.size w w' := by
  have hcap := hr.le
  have hmax := hr.max
  unfold maxLen at hmax
  by_cases hbig : 1048576 < len
  · go_enter Try.func5, Try.ntmps5
    go_wp2
    go_ret
    exact ⟨rfl, Below.refl _ _⟩
  · have D := hide (DrawStepGreat_any a len cap z w (by omega) hcap hr.bytes)
    clear hr
    go_enter Try.func5, Try.ntmps5
    go_wp2_with fail
    refine D.out.mono ?_
    rintro e w1 ⟨s, rfl, hs, hb1⟩
    have hs' : s.size ≤ maxLen := by unfold maxLen; omega
    have C1 := hide (fun w => implStepGreat_any s w hs')
    have C0 := hide (fun w => specStepGreat_any s w hs')
    have A1 := hide (fun w => implStepOf_any s 200 w hs')
    obtain ⟨x, ex⟩ : ∃ x, x = stS s 200 := ⟨_, rfl⟩
    obtain ⟨b, eb⟩ : ∃ x, x = stOk s 200 := ⟨_, rfl⟩
    rw [← ex, ← eb] at C0 C1 A1
    clear ex eb
    cases b
    · go_wp2_with fail
      refine (C1.out _).mono ?_
      rintro e w2 ⟨rfl, hb2⟩
      go_wp2_with fail
      refine (C0.out _).mono ?_
      rintro e w3 ⟨rfl, hb3⟩
      go_wp2_with fail
      go_ret
      have b2 := hb1.trans (hb2.mono hb1.size)
      exact ⟨rfl, b2.trans (hb3.mono b2.size)⟩
    · go_wp2_with fail
      refine (C1.out _).mono ?_
      rintro e w2 ⟨rfl, hb2⟩
      have g2 := hb1.trans (hb2.mono hb1.size)
      go_wp2_with fail
      refine (C0.out _).mono ?_
      rintro e w3 ⟨rfl, hb3⟩
      have g3 := g2.trans (hb3.mono g2.size)
      go_wp2_with fail
      refine (A1.out _).mono ?_
      rintro e w4 ⟨rfl, hb4⟩
      have g4 := g3.trans (hb4.mono g3.size)
      go_wp2_with fail
      go_ret
      exact ⟨rfl, g4⟩
end Go.Proofs.Ytnaofghngpojgac
