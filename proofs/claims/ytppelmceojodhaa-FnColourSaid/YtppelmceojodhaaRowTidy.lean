/- THE WALKS of RowTidy, of the program, and of its exact law. -/
import Derived.Test.YtppelmceojodhaaText
namespace Go.Proofs.Ytppelmceojodhaa
open Go.RowKit

theorem tl_pad (l : List Bool) (n : Nat) : tl (l ++ List.replicate n false) = tl l := by
  induction n with
  | zero => simp
  | succ n ih => rw [List.replicate_succ', ← List.append_assoc, tl_snoc]; simpa using ih
theorem tl_cut (l : List Bool) : tl (cut l) = tl l := by
  obtain ⟨n, hn⟩ := cut_eq l
  have h := tl_pad (cut l) n
  rw [← hn] at h
  exact h.symm
theorem cut_cut (l : List Bool) : cut (cut l) = cut l := by
  have h : cut (cut l) = (cut l).take (tl (cut l)) := rfl
  rw [h, tl_cut, List.take_of_length_le (by rw [cut_length]; exact Nat.le_refl _)]
theorem chars_take (l : List Bool) (k : Nat) : chars (l.take k) = (chars l).take k := by unfold chars; rw [List.map_take]
theorem chars_bits (s : ByteArray) (h : allSgn s.data.toList = true) : chars (bits s) = s.data.toList := by
  unfold chars bits
  rw [List.map_map]
  unfold allSgn at h
  rw [List.all_eq_true] at h
  have : s.data.toList.map ((fun b => if b = true then (49 : UInt8) else 48) ∘ fun x => x == 49) = s.data.toList.map id := by
    apply List.map_congr_left
    intro c hc
    have hs := h c hc
    unfold sgn at hs
    by_cases h49 : c = 49
    · subst h49; rfl
    · have : c = 48 := by simpa [h49] using hs
      subst this; rfl
  rw [this, List.map_id]
theorem tidyS_eq (s : ByteArray) (h : allSgn s.data.toList = true) : ofBits (cut (bits s)) = tidyS s := by
  have hl : (tidyS s).data.toList = s.data.toList.take (tl (bits s)) := by
    unfold tidyS
    rw [Lib.extract_data]
    simp
  have e : ofBits (cut (bits s)) = ⟨(tidyS s).data.toList.toArray⟩ := by
    unfold ofBits
    rw [hl]
    unfold cut
    rw [chars_take, chars_bits s h]
  rw [e]

set_option maxHeartbeats 400000 in
theorem implRowTidy_any (s : ByteArray) (w : World) (hs : s.size ≤ maxLen) :
    Calls Try.prog 17 #[.string s] w fun e w' => e = .returned (.tuple #[.string (if vld s then tidyS s else ByteArray.empty), .bool (vld s)]) ∧ Below w.heap.size w w' := by
  cases hv : vld s
  · go_enter Try.func17, Try.ntmps17
    go_wp2_with (go_at_call 24; refine (readRow_no _ _ hs hv).mono ?_; rintro e w' ⟨rfl, rfl⟩)
    go_ret2
    exact ⟨rfl, Below.refl _ _⟩
  · have h120 := vld_le s hv
    have hle := tl_le (bits s)
    rw [length_bits] at hle
    have C1 := hide (fun w => readRow_yes s w hv)
    have HC := hide (cut_length (bits s))
    have HM := hide (cut_map (bits s))
    have HE := hide (show ofBits (cut (cut (bits s))) = tidyS s by rw [cut_cut]; exact tidyS_eq s (vld_sgn s hv))
    obtain ⟨t, ht⟩ : ∃ t, t = tl (bits s) := ⟨_, rfl⟩
    rw [← ht] at hle C1 HC HM
    clear ht
    go_enter Try.func17, Try.ntmps17
    go_wp2_with fail
    refine (C1.out _).mono ?_
    rintro e w1 ⟨rfl, hb1, hc1, hz1⟩
    go_wp2_with fail
    refine (text_any _ t s.size (cut (bits s)) w1 HC.out (by rw [HM.out]; exact hc1.take t) hle hs (by omega)).mono ?_
    rintro e w2 ⟨rfl, hb2⟩
    rw [HE.out]
    go_wp2_with fail
    go_ret2
    exact ⟨rfl, hb1.trans (hb2.mono hb1.size)⟩

end Go.Proofs.Ytppelmceojodhaa
