/- THE WALKS of the exact laws of ShapeRounds, ShapeRuns, ShapeApart. -/
import Derived.Test.YtlfiipkbkhpmnaaApart
namespace Go.Proofs.Ytlfiipkbkhpmnaa
open Go.RowKit

theorem rdR_len (s : ByteArray) : (rdR s).length ≤ 120 := by
  unfold rdR
  cases hv : vld s
  · exact Nat.zero_le _
  · have h120 := vld_le s hv
    obtain ⟨b1, _⟩ := rdB_bd (bits s)
    have hnb : nballs (bits s) ≤ s.size := by
      have h1 := nballs_le (bits s) s.size
      rw [List.take_of_length_le (by rw [length_bits]; exact Nat.le_refl _)] at h1
      exact h1
    show (ni (rdB (bits s))).length ≤ 120
    rw [ni_length]; omega
theorem rnR_len (s : ByteArray) : (rnR s).length ≤ 120 := by
  unfold rnR
  cases hv : vld s
  · exact Nat.zero_le _
  · have h120 := vld_le s hv
    show (ni (rr (bits s)).1).length ≤ 120
    rw [ni_length, ← (rsS_rr s).1, List.length_map]
    have := rsS_len s
    omega

set_option maxHeartbeats 1000000 in
theorem walkFnExactShapeRounds (s : ByteArray) (hs : s.size ≤ maxLen) (w : World) :
    Calls Try.prog 3 #[.string s] w fun e w' => e = .returned (.bool true) ∧ Below w.heap.size w w' := by
  have hs' := hs
  unfold maxLen at hs'
  have hlen := rdR_len s
  by_cases hbig0 : 1048576 < s.size
  · go_enter Try.func3, Try.ntmps3
    go_wp2
    go_ret
    exact ⟨rfl, Below.refl _ _⟩
  obtain ⟨l, hl⟩ : ∃ l, l = rdR s := ⟨_, rfl⟩
  obtain ⟨b, hb⟩ : ∃ b, b = vld s := ⟨_, rfl⟩
  have C0 := hide (fun w => specShapeRounds_any s w hs)
  have C1 := hide (fun w => implShapeRounds_any s w hs)
  rw [← hl, ← hb] at C0 C1
  rw [← hl] at hlen
  clear hl hb
  have hm : l.length ≤ maxLen := by unfold maxLen; omega
  have hm2 : l.length ≤ 4611686018427387904 := by omega
  go_enter Try.func3, Try.ntmps3
  go_wp2_with fail
  refine (C0.out _).mono ?_
  rintro e w1 ⟨v0, rfl, hi0, hb0⟩
  go_wp2_with fail
  refine (C1.out _).mono ?_
  rintro e w2 ⟨v1, rfl, hi1, hb1⟩
  have hi0' := hi0.below hb1 (Nat.le_refl _)
  have s0 := hb0.size
  have s1 := hb1.size
  go_wp2_with fail
  refine (eqIntS_same hm hi1 hi0').mono ?_
  rintro e w3 ⟨rfl, q3⟩
  have hi1' := q3.ints hi1
  have b13 := hb1.trans (q3.2 _)
  clear hi0' hi1
  cases b
  all_goals
    go_wp2_with fail
    refine (markIntS_any hm2 hi1').mono ?_
    rintro e w4 ⟨rfl, b34, hi1m⟩
    have b14 := b13.trans b34
    go_wp2_with fail
    refine (heldIntS_any hm2 hi1m).mono ?_
    rintro e w5 ⟨rfl, q5⟩
    have b15 := b14.trans (q5.2 _)
    have s5 := b15.size
    have s45 := q5.1
    go_wp2_with fail
    refine (C1.out _).mono ?_
    rintro e w6 ⟨v2, rfl, hi2, hb6⟩
    have b16 := b15.trans (hb6.mono s5)
    have hi0' := hi0.below b16 (Nat.le_refl _)
    go_wp2_with fail
    refine (eqIntS_same hm hi2 hi0').mono ?_
    rintro e w7 ⟨rfl, q7⟩
    have hi1n := (q5.ints hi1m).below (hb6.trans (q7.2 _)) (Nat.le_refl _)
    go_wp2_with fail
    refine (heldIntS_any hm2 hi1n).mono ?_
    rintro e w8 ⟨rfl, q8⟩
    go_wp2_with fail
    go_ret
    exact ⟨rfl, ((hb0.trans (b16.mono s0)).trans (q7.2 _)).trans (q8.2 _)⟩

set_option maxHeartbeats 1000000 in
theorem walkFnExactShapeRuns (s : ByteArray) (hs : s.size ≤ maxLen) (w : World) :
    Calls Try.prog 6 #[.string s] w fun e w' => e = .returned (.bool true) ∧ Below w.heap.size w w' := by
  have hs' := hs
  unfold maxLen at hs'
  have hlen := rnR_len s
  by_cases hbig0 : 1048576 < s.size
  · go_enter Try.func6, Try.ntmps6
    go_wp2
    go_ret
    exact ⟨rfl, Below.refl _ _⟩
  obtain ⟨l, hl⟩ : ∃ l, l = rnR s := ⟨_, rfl⟩
  obtain ⟨b, hb⟩ : ∃ b, b = vld s := ⟨_, rfl⟩
  have C0 := hide (fun w => specShapeRuns_any s w hs)
  have C1 := hide (fun w => implShapeRuns_any s w hs)
  rw [← hl, ← hb] at C0 C1
  rw [← hl] at hlen
  clear hl hb
  have hm : l.length ≤ maxLen := by unfold maxLen; omega
  have hm2 : l.length ≤ 4611686018427387904 := by omega
  go_enter Try.func6, Try.ntmps6
  go_wp2_with fail
  refine (C0.out _).mono ?_
  rintro e w1 ⟨v0, rfl, hi0, hb0⟩
  go_wp2_with fail
  refine (C1.out _).mono ?_
  rintro e w2 ⟨v1, rfl, hi1, hb1⟩
  have hi0' := hi0.below hb1 (Nat.le_refl _)
  have s0 := hb0.size
  have s1 := hb1.size
  go_wp2_with fail
  refine (eqIntS_same hm hi1 hi0').mono ?_
  rintro e w3 ⟨rfl, q3⟩
  have hi1' := q3.ints hi1
  have b13 := hb1.trans (q3.2 _)
  clear hi0' hi1
  cases b
  all_goals
    go_wp2_with fail
    refine (markIntS_any hm2 hi1').mono ?_
    rintro e w4 ⟨rfl, b34, hi1m⟩
    have b14 := b13.trans b34
    go_wp2_with fail
    refine (heldIntS_any hm2 hi1m).mono ?_
    rintro e w5 ⟨rfl, q5⟩
    have b15 := b14.trans (q5.2 _)
    have s5 := b15.size
    have s45 := q5.1
    go_wp2_with fail
    refine (C1.out _).mono ?_
    rintro e w6 ⟨v2, rfl, hi2, hb6⟩
    have b16 := b15.trans (hb6.mono s5)
    have hi0' := hi0.below b16 (Nat.le_refl _)
    go_wp2_with fail
    refine (eqIntS_same hm hi2 hi0').mono ?_
    rintro e w7 ⟨rfl, q7⟩
    have hi1n := (q5.ints hi1m).below (hb6.trans (q7.2 _)) (Nat.le_refl _)
    go_wp2_with fail
    refine (heldIntS_any hm2 hi1n).mono ?_
    rintro e w8 ⟨rfl, q8⟩
    go_wp2_with fail
    go_ret
    exact ⟨rfl, ((hb0.trans (b16.mono s0)).trans (q7.2 _)).trans (q8.2 _)⟩

set_option maxHeartbeats 400000 in
theorem walkFnExactShapeApart (s : ByteArray) (hs : s.size ≤ maxLen) (w : World) :
    Calls Try.prog 7 #[.string s] w fun e w' => e = .returned (.bool true) ∧ Below w.heap.size w w' := by
  have hs' := hs
  unfold maxLen at hs'
  by_cases hbig : 1048576 < s.size
  · go_enter Try.func7, Try.ntmps7
    go_wp2
    go_ret
    exact ⟨rfl, Below.refl _ _⟩
  · have C0 := hide (fun w => specShapeApart_any s w hs)
    have C1 := hide (fun w => implShapeApart_any s w hs)
    obtain ⟨x, ex⟩ : ∃ x : Bool, x = apOk s := ⟨_, rfl⟩
    rw [← ex] at C0 C1
    clear ex
    cases x
    all_goals
      go_enter Try.func7, Try.ntmps7
      go_wp2_with (first | (go_at_call 21; refine (C0.out _).mono ?_; rintro e w1 ⟨rfl, hb1⟩) | (go_at_call 22; refine (C1.out _).mono ?_; rintro e w2 ⟨rfl, hb2⟩))
      go_ret
      exact ⟨rfl, hb1.trans (hb2.mono hb1.size)⟩
end Go.Proofs.Ytlfiipkbkhpmnaa
