/- THE WALKS of the exact laws of chapter 5: ColourMove, ColourStep, ColourBack. -/
import Derived.Test.YtppelmceojodhabDoorICol6
namespace Go.Proofs.YtppelmceojodhabDoor
open Go.RowKit

set_option maxHeartbeats 400000 in
theorem walkFnExactColourMove (s : ByteArray) (hs : s.size ≤ maxLen) (n : Int) (_hn : (Lit.int .i64 n).wf = true) (w : World) :
    Calls Tryd.prog 3 #[.string s, .int .i64 n] w fun e w' => e = .returned (.bool true) ∧ Below w.heap.size w w' := by
  have hs' := hs
  unfold maxLen at hs'
  by_cases hbig : 1048576 < s.size
  · go_enter Tryd.func3, Tryd.ntmps3
    go_wp2
    go_ret
    exact ⟨rfl, Below.refl _ _⟩
  · have C0 := hide (fun w => specColourMove_any s n w hs)
    have C1 := hide (fun w => implColourMove_any s n w hs)
    obtain ⟨x, ex⟩ : ∃ x : ByteArray, x = cmS s n := ⟨_, rfl⟩
    obtain ⟨b, eb⟩ : ∃ x : Bool, x = cmOk s n := ⟨_, rfl⟩
    rw [← ex, ← eb] at C0 C1
    clear ex eb
    go_enter Tryd.func3, Tryd.ntmps3
    go_wp2_with (first | (go_at_call 6; refine (C0.out _).mono ?_; rintro e w1 ⟨rfl, hb1⟩) | (go_at_call 7; refine (C1.out _).mono ?_; rintro e w2 ⟨rfl, hb2⟩))
    go_ret
    exact ⟨rfl, hb1.trans (hb2.mono hb1.size)⟩

set_option maxHeartbeats 400000 in
theorem walkFnExactColourStep (s : ByteArray) (hs : s.size ≤ maxLen) (w : World) :
    Calls Tryd.prog 4 #[.string s] w fun e w' => e = .returned (.bool true) ∧ Below w.heap.size w w' := by
  have hs' := hs
  unfold maxLen at hs'
  by_cases hbig : 1048576 < s.size
  · go_enter Tryd.func4, Tryd.ntmps4
    go_wp2
    go_ret
    exact ⟨rfl, Below.refl _ _⟩
  · have C0 := hide (fun w => specColourStep_any s w hs)
    have C1 := hide (fun w => implColourStep_any s w hs)
    obtain ⟨x, ex⟩ : ∃ x : ByteArray, x = csS s := ⟨_, rfl⟩
    obtain ⟨b, eb⟩ : ∃ x : Bool, x = csOk s := ⟨_, rfl⟩
    rw [← ex, ← eb] at C0 C1
    clear ex eb
    go_enter Tryd.func4, Tryd.ntmps4
    go_wp2_with (first | (go_at_call 8; refine (C0.out _).mono ?_; rintro e w1 ⟨rfl, hb1⟩) | (go_at_call 9; refine (C1.out _).mono ?_; rintro e w2 ⟨rfl, hb2⟩))
    go_ret
    exact ⟨rfl, hb1.trans (hb2.mono hb1.size)⟩

set_option maxHeartbeats 400000 in
theorem walkFnExactColourBack (s : ByteArray) (hs : s.size ≤ maxLen) (w : World) :
    Calls Tryd.prog 5 #[.string s] w fun e w' => e = .returned (.bool true) ∧ Below w.heap.size w w' := by
  have hs' := hs
  unfold maxLen at hs'
  by_cases hbig : 1048576 < s.size
  · go_enter Tryd.func5, Tryd.ntmps5
    go_wp2
    go_ret
    exact ⟨rfl, Below.refl _ _⟩
  · have C0 := hide (fun w => specColourBack_any s w hs)
    have C1 := hide (fun w => implColourBack_any s w hs)
    obtain ⟨x, ex⟩ : ∃ x : ByteArray, x = cbkS s := ⟨_, rfl⟩
    obtain ⟨b, eb⟩ : ∃ x : Bool, x = cbkO s := ⟨_, rfl⟩
    rw [← ex, ← eb] at C0 C1
    clear ex eb
    go_enter Tryd.func5, Tryd.ntmps5
    go_wp2_with (first | (go_at_call 10; refine (C0.out _).mono ?_; rintro e w1 ⟨rfl, hb1⟩) | (go_at_call 11; refine (C1.out _).mono ?_; rintro e w2 ⟨rfl, hb2⟩))
    go_ret
    exact ⟨rfl, hb1.trans (hb2.mono hb1.size)⟩

end Go.Proofs.YtppelmceojodhabDoor
