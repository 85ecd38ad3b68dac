/- THE WALKS of RowLevels, of the model and of the program, and of its exact law. -/
import Derived.Test.YtaonngmjfemadacLevels
namespace Go.Proofs.Ytaonngmjfemadac
open Go.RowKit

/-- a row that is tidy -/
def levOk (s : ByteArray) : Bool := vld s && decide (tl (bits s) = s.size)
def levR (s : ByteArray) : List Int := if levOk s then lev (bits s) else []

theorem tidyS_self (s : ByteArray) (h : tl (bits s) = s.size) : tidyS s = s := by
  unfold tidyS; rw [h]; simp
theorem tidyS_size (s : ByteArray) : (tidyS s).size = tl (bits s) := by
  have := tl_le (bits s)
  rw [length_bits] at this
  unfold tidyS; simp; omega

set_option maxHeartbeats 400000 in
theorem specRowLevels_any (s : ByteArray) (w : World) (hs : s.size ≤ maxLen) :
    Calls Try.prog 24 #[.string s] w fun e w' => ∃ v, e = .returned (.tuple #[v, .bool (levOk s)]) ∧ IntsV w.heap.size w' v (levR s) ∧ Below w.heap.size w w' := by
  cases hv : vld s
  · have hk : levOk s = false := by simp [levOk, hv]
    have hr : levR s = [] := by simp [levR, hk]
    rw [hk, hr]
    clear hk hr
    go_enter Try.func24, Try.ntmps24
    go_wp2_with (go_at_call 11; refine (specRowValid_any _ _ hs).mono ?_; rintro e w' ⟨rfl, rfl⟩)
    go_ret2
    exact ⟨_, rfl, .inl ⟨_, _, rfl, rfl⟩, (Below.refl _ _).alloc (Nat.le_refl _) _⟩
  · have hg := hide (vld_sgn s hv)
    have h120 := vld_le s hv
    by_cases ht : tl (bits s) = s.size
    · have hk : levOk s = true := by simp [levOk, hv, ht]
      have hr : levR s = lev (bits s) := by simp [levR, hk]
      rw [hk, hr]
      have HT := hide (tidyS_self s ht)
      clear hk hr ht
      have c1 := fun w => (l1Tidy_any s w hs hg.out).mono (R' := fun e w' => e = .returned (.string s) ∧ w = w') (by rintro e w' ⟨rfl, h⟩; rw [HT.out]; exact ⟨rfl, h⟩)
      have C1 := hide c1
      clear c1
      go_enter Try.func24, Try.ntmps24
      go_wp2_with (first | (go_at_call 11; refine (specRowValid_any _ _ hs).mono ?_; rintro e w' ⟨rfl, rfl⟩) | (go_at_call 40; refine (C1.out _).mono ?_; rintro e w' ⟨rfl, rfl⟩) | (go_at_call 41; refine (l1Levels_any _ _ h120).mono ?_; rintro e w' ⟨v, rfl, hi, hb⟩))
      go_ret2
      exact ⟨_, rfl, hi, hb⟩
    · have hk : levOk s = false := by simp [levOk, ht]
      have hr : levR s = [] := by simp [levR, hk]
      rw [hk, hr]
      have HS := tidyS_size s
      have hne : ((tidyS s).toList == s.toList) = false := by
        rw [ByteArray.toList_eq, ByteArray.toList_eq]
        exact beq_eq_false_iff_ne.2 (fun e => ht (by rw [← HS]; have := congrArg List.length e; simpa using this))
      clear hk hr HS
      go_enter Try.func24, Try.ntmps24
      go_wp2_with (first | (go_at_call 11; refine (specRowValid_any _ _ hs).mono ?_; rintro e w' ⟨rfl, rfl⟩) | (go_at_call 40; refine (l1Tidy_any _ _ hs hg.out).mono ?_; rintro e w' ⟨rfl, rfl⟩))
      go_ret2
      exact ⟨_, rfl, .inl ⟨_, _, rfl, rfl⟩, (Below.refl _ _).alloc (Nat.le_refl _) _⟩

set_option maxHeartbeats 400000 in
theorem implRowLevels_any (s : ByteArray) (w : World) (hs : s.size ≤ maxLen) :
    Calls Try.prog 23 #[.string s] w fun e w' => ∃ v, e = .returned (.tuple #[v, .bool (levOk s)]) ∧ IntsV w.heap.size w' v (levR s) ∧ Below w.heap.size w w' := by
  have hs' := hs
  unfold maxLen at hs'
  cases hv : vld s
  · have hk : levOk s = false := by simp [levOk, hv]
    have hr : levR s = [] := by simp [levR, hk]
    rw [hk, hr]
    clear hk hr
    go_enter Try.func23, Try.ntmps23
    go_wp2_with (go_at_call 32; refine (readRow_no _ _ hs hv).mono ?_; rintro e w' ⟨rfl, rfl⟩)
    go_ret2
    exact ⟨_, rfl, .inl ⟨_, _, rfl, rfl⟩, Below.refl _ _⟩
  · have h120 := vld_le s hv
    have hle := tl_le (bits s)
    rw [length_bits] at hle
    by_cases ht : tl (bits s) = s.size
    · have hk : levOk s = true := by simp [levOk, hv, ht]
      have hr : levR s = lev (bits s) := by simp [levR, hk]
      rw [hk, hr]
      have c1 := fun w => readRow_yes s w hv
      rw [ht] at c1
      have C1 := hide c1
      clear c1 hk hr ht hle
      go_enter Try.func23, Try.ntmps23
      go_wp2_with (first | (go_at_call 32; refine (C1.out _).mono ?_; rintro e w1 ⟨rfl, hb1, hc1, hz1⟩) | (go_at_call 39; refine (levels_any _ _ _ (bits s) _ (length_bits s) hc1 (Nat.le_refl _) h120).mono ?_; rintro e w2 ⟨v, rfl, hi, hb⟩))
      go_ret2
      exact ⟨_, rfl, hi.mono hb1.size, hb1.trans (hb.mono hb1.size)⟩
    · have hk : levOk s = false := by simp [levOk, ht]
      have hr : levR s = [] := by simp [levR, hk]
      rw [hk, hr]
      obtain ⟨t, hte⟩ : ∃ t, t = tl (bits s) := ⟨_, rfl⟩
      have c1 := fun w => readRow_yes s w hv
      rw [← hte] at c1 hle ht
      have C1 := hide c1
      have hne : ((t : Int) != (s.size : Int)) = true := by simp; omega
      clear c1 hk hr ht hte
      go_enter Try.func23, Try.ntmps23
      go_wp2_with (go_at_call 32; refine (C1.out _).mono ?_; rintro e w1 ⟨rfl, hb1, hc1, hz1⟩)
      go_ret2
      exact ⟨_, rfl, .inl ⟨_, _, rfl, rfl⟩, hb1⟩

theorem levR_len (s : ByteArray) : (levR s).length ≤ 121 := by
  unfold levR
  cases h : levOk s
  · simp
  · have : vld s = true := by unfold levOk at h; simp at h; exact h.1
    have := vld_le s this
    simp [lev_length, length_bits]; omega

end Go.Proofs.Ytaonngmjfemadac
