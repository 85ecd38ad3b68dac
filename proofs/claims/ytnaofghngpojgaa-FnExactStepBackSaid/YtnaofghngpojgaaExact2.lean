/- THE WALKS of the exact laws of StepOf, StepLoads, StepTaken, StepBack, StepMany. -/
import Derived.Test.YtnaofghngpojgaaStep6
namespace Go.Proofs.Ytnaofghngpojgaa
open Go.RowKit


set_option maxHeartbeats 400000 in
theorem walkFnExactStepOf (s : ByteArray) (hs : s.size ≤ maxLen) (n : Int) (_hn : (Lit.int .i64 n).wf = true) (w : World) :
    Calls Try.prog 3 #[.string s, .int .i64 n] w fun e w' => e = .returned (.bool true) ∧ Below w.heap.size w w' := by
  have hs' := hs
  unfold maxLen at hs'
  by_cases hbig : 1048576 < s.size
  · go_enter Try.func3, Try.ntmps3
    go_wp2
    go_ret
    exact ⟨rfl, Below.refl _ _⟩
  · have C0 := hide (fun w => specStepOf_any s n w hs)
    have C1 := hide (fun w => implStepOf_any s n w hs)
    obtain ⟨x, ex⟩ : ∃ x : ByteArray, x = stS s n := ⟨_, rfl⟩
    obtain ⟨b, eb⟩ : ∃ x : Bool, x = stOk s n := ⟨_, rfl⟩
    rw [← ex, ← eb] at C0 C1
    clear ex eb
    go_enter Try.func3, Try.ntmps3
    go_wp2_with (first | (go_at_call 9; refine (C0.out _).mono ?_; rintro e w1 ⟨rfl, hb1⟩) | (go_at_call 10; refine (C1.out _).mono ?_; rintro e w2 ⟨rfl, hb2⟩))
    go_ret
    exact ⟨rfl, hb1.trans (hb2.mono hb1.size)⟩

set_option maxHeartbeats 400000 in
theorem walkFnExactStepTaken (s : ByteArray) (hs : s.size ≤ maxLen) (n : Int) (_hn : (Lit.int .i64 n).wf = true) (w : World) :
    Calls Try.prog 5 #[.string s, .int .i64 n] w fun e w' => e = .returned (.bool true) ∧ Below w.heap.size w w' := by
  have hs' := hs
  unfold maxLen at hs'
  by_cases hbig : 1048576 < s.size
  · go_enter Try.func5, Try.ntmps5
    go_wp2
    go_ret
    exact ⟨rfl, Below.refl _ _⟩
  · have C0 := hide (fun w => specStepTaken_any s n w hs)
    have C1 := hide (fun w => implStepTaken_any s n w hs)
    obtain ⟨x, ex⟩ : ∃ x : Int, x = tkN s n := ⟨_, rfl⟩
    obtain ⟨b, eb⟩ : ∃ x : Bool, x = tkOk s n := ⟨_, rfl⟩
    rw [← ex, ← eb] at C0 C1
    clear ex eb
    go_enter Try.func5, Try.ntmps5
    go_wp2_with (first | (go_at_call 16; refine (C0.out _).mono ?_; rintro e w1 ⟨rfl, hb1⟩) | (go_at_call 17; refine (C1.out _).mono ?_; rintro e w2 ⟨rfl, hb2⟩))
    go_ret
    exact ⟨rfl, hb1.trans (hb2.mono hb1.size)⟩

set_option maxHeartbeats 400000 in
theorem walkFnExactStepBack (s : ByteArray) (hs : s.size ≤ maxLen) (n : Int) (_hn : (Lit.int .i64 n).wf = true) (w : World) :
    Calls Try.prog 6 #[.string s, .int .i64 n] w fun e w' => e = .returned (.bool true) ∧ Below w.heap.size w w' := by
  have hs' := hs
  unfold maxLen at hs'
  by_cases hbig : 1048576 < s.size
  · go_enter Try.func6, Try.ntmps6
    go_wp2
    go_ret
    exact ⟨rfl, Below.refl _ _⟩
  · have C0 := hide (fun w => specStepBack_any s n w hs)
    have C1 := hide (fun w => implStepBack_any s n w hs)
    obtain ⟨x, ex⟩ : ∃ x : ByteArray, x = bkS s n := ⟨_, rfl⟩
    obtain ⟨b, eb⟩ : ∃ x : Bool, x = bkOk s n := ⟨_, rfl⟩
    rw [← ex, ← eb] at C0 C1
    clear ex eb
    go_enter Try.func6, Try.ntmps6
    go_wp2_with (first | (go_at_call 18; refine (C0.out _).mono ?_; rintro e w1 ⟨rfl, hb1⟩) | (go_at_call 19; refine (C1.out _).mono ?_; rintro e w2 ⟨rfl, hb2⟩))
    go_ret
    exact ⟨rfl, by subst hb1; exact hb2⟩

set_option maxHeartbeats 400000 in
theorem walkFnExactStepMany (s : ByteArray) (hs : s.size ≤ maxLen) (n : Int) (_hn : (Lit.int .i64 n).wf = true) (m : Int) (_hm : (Lit.int .i64 m).wf = true) (w : World) :
    Calls Try.prog 7 #[.string s, .int .i64 n, .int .i64 m] w fun e w' => e = .returned (.bool true) ∧ Below w.heap.size w w' := by
  have hs' := hs
  unfold maxLen at hs'
  by_cases hbig : 1048576 < s.size
  · go_enter Try.func7, Try.ntmps7
    go_wp2
    go_ret
    exact ⟨rfl, Below.refl _ _⟩
  · have C0 := hide (fun w => specStepMany_any s n m w hs)
    have C1 := hide (fun w => implStepMany_any s n m w hs)
    obtain ⟨x, ex⟩ : ∃ x : ByteArray, x = (smR s n m).1 := ⟨_, rfl⟩
    obtain ⟨b, eb⟩ : ∃ x : Bool, x = (smR s n m).2 := ⟨_, rfl⟩
    rw [← ex, ← eb] at C0 C1
    clear ex eb
    go_enter Try.func7, Try.ntmps7
    go_wp2_with (first | (go_at_call 20; refine (C0.out _).mono ?_; rintro e w1 ⟨rfl, hb1⟩) | (go_at_call 21; refine (C1.out _).mono ?_; rintro e w2 ⟨rfl, hb2⟩))
    go_ret
    exact ⟨rfl, hb1.trans (hb2.mono hb1.size)⟩

theorem ldR_len (s : ByteArray) (n : Int) : (ldR s n).length ≤ 121 := by
  unfold ldR
  cases h : ldOk s n
  · simp
  · have : vld s = true := by unfold ldOk at h; simp at h; exact h.1.1
    have := vld_le s this
    simp [ldsU_length]; omega


set_option maxHeartbeats 1000000 in
theorem walkFnExactStepLoads (s : ByteArray) (hs : s.size ≤ maxLen) (n : Int) (_hn : (Lit.int .i64 n).wf = true) (w : World) :
    Calls Try.prog 4 #[.string s, .int .i64 n] w fun e w' => e = .returned (.bool true) ∧ Below w.heap.size w w' := by
  have hs' := hs
  unfold maxLen at hs'
  have hlen := ldR_len s n
  by_cases hbig0 : 1048576 < s.size
  · go_enter Try.func4, Try.ntmps4
    go_wp2
    go_ret
    exact ⟨rfl, Below.refl _ _⟩
  obtain ⟨l, hl⟩ : ∃ l, l = ldR s n := ⟨_, rfl⟩
  obtain ⟨b, hb⟩ : ∃ b, b = ldOk s n := ⟨_, rfl⟩
  have C0 := hide (fun w => specStepLoads_any s n w hs)
  have C1 := hide (fun w => implStepLoads_any s n w hs)
  rw [← hl, ← hb] at C0 C1
  rw [← hl] at hlen
  clear hl hb
  have hm : l.length ≤ maxLen := by unfold maxLen; omega
  have hm2 : l.length ≤ 4611686018427387904 := by omega
  go_enter Try.func4, Try.ntmps4
  go_wp2_with fail
  refine (C0.out _).mono ?_
  rintro e w1 ⟨v0, rfl, hi0, hb0⟩
  go_wp2_with fail
  refine (C1.out _).mono ?_
  rintro e w2 ⟨v1, rfl, hi1, hb1⟩
  have hi0' := hi0.below hb1 (Nat.le_refl _)
  have s0 := hb0.size
  have s1 := hb1.size
  go_wp2_with fail
  refine (eqIntS_same hm hi1 hi0').mono ?_
  rintro e w3 ⟨rfl, q3⟩
  have hi1' := q3.ints hi1
  have b13 := hb1.trans (q3.2 _)
  clear hi0' hi1
  cases b
  all_goals
    go_wp2_with fail
    refine (markIntS_any hm2 hi1').mono ?_
    rintro e w4 ⟨rfl, b34, hi1m⟩
    have b14 := b13.trans b34
    go_wp2_with fail
    refine (heldIntS_any hm2 hi1m).mono ?_
    rintro e w5 ⟨rfl, q5⟩
    have b15 := b14.trans (q5.2 _)
    have s5 := b15.size
    have s45 := q5.1
    go_wp2_with fail
    refine (C1.out _).mono ?_
    rintro e w6 ⟨v2, rfl, hi2, hb6⟩
    have b16 := b15.trans (hb6.mono s5)
    have hi0' := hi0.below b16 (Nat.le_refl _)
    go_wp2_with fail
    refine (eqIntS_same hm hi2 hi0').mono ?_
    rintro e w7 ⟨rfl, q7⟩
    have hi1n := (q5.ints hi1m).below (hb6.trans (q7.2 _)) (Nat.le_refl _)
    go_wp2_with fail
    refine (heldIntS_any hm2 hi1n).mono ?_
    rintro e w8 ⟨rfl, q8⟩
    go_wp2_with fail
    go_ret
    exact ⟨rfl, ((hb0.trans (b16.mono s0)).trans (q7.2 _)).trans (q8.2 _)⟩

end Go.Proofs.Ytnaofghngpojgaa
