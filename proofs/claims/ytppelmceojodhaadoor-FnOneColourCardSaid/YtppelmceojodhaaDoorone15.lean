/- TEXTS RowTidy. -/
import Derived.Test.YtppelmceojodhaaDoorone14
/- THE WALKS of RowTidy, of the program, and of its exact law. -/
namespace Go.Proofs.YtppelmceojodhaaDoor
open Go.RowKit

theorem tl_pad (l : List Bool) (n : Nat) : tl (l ++ List.replicate n false) = tl l := by
  induction n with
  | zero => simp
  | succ n ih => rw [List.replicate_succ', ← List.append_assoc, tl_snoc]; simpa using ih
theorem tl_cut (l : List Bool) : tl (cut l) = tl l := by
  obtain ⟨n, hn⟩ := cut_eq l
  have h := tl_pad (cut l) n
  rw [← hn] at h
  exact h.symm
theorem cut_cut (l : List Bool) : cut (cut l) = cut l := by
  have h : cut (cut l) = (cut l).take (tl (cut l)) := rfl
  rw [h, tl_cut, List.take_of_length_le (by rw [cut_length]; exact Nat.le_refl _)]
theorem chars_take (l : List Bool) (k : Nat) : chars (l.take k) = (chars l).take k := by unfold chars; rw [List.map_take]
theorem chars_bits (s : ByteArray) (h : allSgn s.data.toList = true) : chars (bits s) = s.data.toList := by
  unfold chars bits
  rw [List.map_map]
  unfold allSgn at h
  rw [List.all_eq_true] at h
  have : s.data.toList.map ((fun b => if b = true then (49 : UInt8) else 48) ∘ fun x => x == 49) = s.data.toList.map id := by
    apply List.map_congr_left
    intro c hc
    have hs := h c hc
    unfold sgn at hs
    by_cases h49 : c = 49
    · subst h49; rfl
    · have : c = 48 := by simpa [h49] using hs
      subst this; rfl
  rw [this, List.map_id]
theorem tidyS_eq (s : ByteArray) (h : allSgn s.data.toList = true) : ofBits (cut (bits s)) = tidyS s := by
  have hl : (tidyS s).data.toList = s.data.toList.take (tl (bits s)) := by
    unfold tidyS
    rw [Lib.extract_data]
    simp
  have e : ofBits (cut (bits s)) = ⟨(tidyS s).data.toList.toArray⟩ := by
    unfold ofBits
    rw [hl]
    unfold cut
    rw [chars_take, chars_bits s h]
  rw [e]

end Go.Proofs.YtppelmceojodhaaDoor
