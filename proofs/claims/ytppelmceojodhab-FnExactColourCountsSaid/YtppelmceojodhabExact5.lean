/- THE WALKS of the exact laws of chapter 5: ColourIn, ColourCounts, ColourPlain. -/
import Derived.Test.YtppelmceojodhabICol8
import Derived.Test.YtppelmceojodhabInts
namespace Go.Proofs.Ytppelmceojodhab
open Go.RowKit

set_option maxHeartbeats 400000 in
theorem walkFnExactColourIn (s : ByteArray) (hs : s.size ≤ maxLen) (w : World) :
    Calls Try.prog 3 #[.string s] w fun e w' => e = .returned (.bool true) ∧ Below w.heap.size w w' := by
  have hs' := hs
  unfold maxLen at hs'
  by_cases hbig : 1048576 < s.size
  · go_enter Try.func3, Try.ntmps3
    go_wp2
    go_ret
    exact ⟨rfl, Below.refl _ _⟩
  · have C0 := hide (fun w => specColourIn_any s w hs)
    have C1 := hide (fun w => implColourIn_any s w hs)
    obtain ⟨b, eb⟩ : ∃ x : Bool, x = cIn s := ⟨_, rfl⟩
    rw [← eb] at C0 C1
    clear eb
    go_enter Try.func3, Try.ntmps3
    go_wp2_with (first | (go_at_call 6; refine (C0.out _).mono ?_; rintro e w1 ⟨rfl, rfl⟩) | (go_at_call 7; refine (C1.out _).mono ?_; rintro e w2 ⟨rfl, hb2⟩))
    go_ret
    exact ⟨rfl, hb2⟩

set_option maxHeartbeats 1000000 in
theorem walkFnExactColourCounts (s : ByteArray) (hs : s.size ≤ maxLen) (w : World) :
    Calls Try.prog 4 #[.string s] w fun e w' => e = .returned (.bool true) ∧ Below w.heap.size w w' := by
  have hs' := hs
  unfold maxLen at hs'
  have hlen := ccL_length s
  by_cases hbig0 : 1048576 < s.size
  · go_enter Try.func4, Try.ntmps4
    go_wp2
    go_ret
    exact ⟨rfl, Below.refl _ _⟩
  obtain ⟨l, hl⟩ : ∃ l, l = ccL s := ⟨_, rfl⟩
  obtain ⟨b, hb⟩ : ∃ b, b = cIn s := ⟨_, rfl⟩
  have C0 := hide (fun w => specColourCounts_any s w hs)
  have C1 := hide (fun w => implColourCounts_any s w hs)
  rw [← hl, ← hb] at C0 C1
  rw [← hl] at hlen
  clear hl hb
  have hm : l.length ≤ maxLen := by unfold maxLen; omega
  have hm2 : l.length ≤ 4611686018427387904 := by omega
  go_enter Try.func4, Try.ntmps4
  go_wp2_with fail
  refine (C0.out _).mono ?_
  rintro e w1 ⟨v0, rfl, hi0, hb0⟩
  go_wp2_with fail
  refine (C1.out _).mono ?_
  rintro e w2 ⟨v1, rfl, hi1, hb1⟩
  have hi0' := hi0.below hb1 (Nat.le_refl _)
  have s0 := hb0.size
  have s1 := hb1.size
  go_wp2_with fail
  refine (eqIntS_same hm hi1 hi0').mono ?_
  rintro e w3 ⟨rfl, q3⟩
  have hi1' := q3.ints hi1
  have b13 := hb1.trans (q3.2 _)
  clear hi0' hi1
  cases b
  all_goals
    go_wp2_with fail
    refine (markIntS_any hm2 hi1').mono ?_
    rintro e w4 ⟨rfl, b34, hi1m⟩
    have b14 := b13.trans b34
    go_wp2_with fail
    refine (heldIntS_any hm2 hi1m).mono ?_
    rintro e w5 ⟨rfl, q5⟩
    have b15 := b14.trans (q5.2 _)
    have s5 := b15.size
    have s45 := q5.1
    go_wp2_with fail
    refine (C1.out _).mono ?_
    rintro e w6 ⟨v2, rfl, hi2, hb6⟩
    have b16 := b15.trans (hb6.mono s5)
    have hi0' := hi0.below b16 (Nat.le_refl _)
    go_wp2_with fail
    refine (eqIntS_same hm hi2 hi0').mono ?_
    rintro e w7 ⟨rfl, q7⟩
    have hi1n := (q5.ints hi1m).below (hb6.trans (q7.2 _)) (Nat.le_refl _)
    go_wp2_with fail
    refine (heldIntS_any hm2 hi1n).mono ?_
    rintro e w8 ⟨rfl, q8⟩
    go_wp2_with fail
    go_ret
    exact ⟨rfl, ((hb0.trans (b16.mono s0)).trans (q7.2 _)).trans (q8.2 _)⟩

set_option maxHeartbeats 400000 in
theorem walkFnExactColourPlain (s : ByteArray) (hs : s.size ≤ maxLen) (n : Int) (_hn : (Lit.int .i64 n).wf = true) (w : World) :
    Calls Try.prog 5 #[.string s, .int .i64 n] w fun e w' => e = .returned (.bool true) ∧ Below w.heap.size w w' := by
  have hs' := hs
  unfold maxLen at hs'
  by_cases hbig : 1048576 < s.size
  · go_enter Try.func5, Try.ntmps5
    go_wp2
    go_ret
    exact ⟨rfl, Below.refl _ _⟩
  · have C0 := hide (fun w => specColourPlain_any s n w hs)
    have C1 := hide (fun w => implColourPlain_any s n w hs)
    obtain ⟨x, ex⟩ : ∃ x : ByteArray, x = cpS s n := ⟨_, rfl⟩
    obtain ⟨b, eb⟩ : ∃ x : Bool, x = cpOk s n := ⟨_, rfl⟩
    rw [← ex, ← eb] at C0 C1
    clear ex eb
    go_enter Try.func5, Try.ntmps5
    go_wp2_with (first | (go_at_call 13; refine (C0.out _).mono ?_; rintro e w1 ⟨rfl, rfl⟩) | (go_at_call 14; refine (C1.out _).mono ?_; rintro e w2 ⟨rfl, hb2⟩))
    go_ret
    exact ⟨rfl, hb2⟩
end Go.Proofs.Ytppelmceojodhab
