/- TEXTS Step6. -/
import Derived.Test.YtppelmceojodhaaDoorone34
import Derived.Test.YtppelmceojodhaaDoorone20
/- THE WALKS of StepMany, of the model and of the program. -/
namespace Go.Proofs.YtppelmceojodhaaDoor
open Go.RowKit

/-- the text behind k steps, and whether each of them was told -/
def smT (room : Int) (t : ByteArray) : Nat → ByteArray × Bool
  | 0 => (t, true)
  | k + 1 => if (smT room t k).2 then (stS (smT room t k).1 room, stOk (smT room t k).1 room) else (ByteArray.empty, false)
/-- what StepMany answers -/
def smIn (s : ByteArray) (room n : Int) : Bool := tkOk s room && (decide (0 ≤ n) && decide (n ≤ 100))
def smR (s : ByteArray) (room n : Int) : ByteArray × Bool := if smIn s room n then smT room (tidyS s) n.toNat else (ByteArray.empty, false)

theorem smT_no {room : Int} {t : ByteArray} {k : Nat} (h : (smT room t k).2 = false) (j : Nat) (hj : k < j) : smT room t j = (ByteArray.empty, false) := by
  have h1 : ∀ d, smT room t (k + 1 + d) = (ByteArray.empty, false) := by
    intro d
    induction d with
    | zero => show smT room t (k + 1) = _; unfold smT; rw [h]; rfl
    | succ d ih => show smT room t (k + 1 + d + 1) = _; rw [smT, ih]; rfl
  rw [show j = k + 1 + (j - (k + 1)) by omega]; exact h1 _
theorem stS_no {s : ByteArray} {room : Int} (h : stOk s room = false) : stS s room = ByteArray.empty := by unfold stS; rw [h]; rfl
theorem smT_empty {room : Int} {t : ByteArray} {k : Nat} (h : (smT room t k).2 = false) : smT room t k = (ByteArray.empty, false) := by
  cases k with
  | zero => cases h
  | succ k =>
    cases hk : (smT room t k).2 with
    | false => exact smT_no hk _ (Nat.lt_succ_self _)
    | true =>
      rw [smT, if_pos hk] at h ⊢
      have h2 : stOk (smT room t k).1 room = false := h
      rw [h2, stS_no h2]
theorem stS_size (s : ByteArray) (room : Int) : (stS s room).size ≤ 120 := by
  unfold stS
  cases h : stOk s room
  · exact Nat.zero_le _
  · unfold stOk at h
    simp at h
    rw [if_pos rfl]
    show (ofBits _).data.size ≤ 120
    unfold ofBits
    simp [chars_length, cut_length]
    exact h.2
theorem smT_size {room : Int} {t : ByteArray} (ht : t.size ≤ 120) (k : Nat) : (smT room t k).1.size ≤ 120 := by
  cases k with
  | zero => exact ht
  | succ k =>
    rw [smT]
    split
    · exact stS_size _ _
    · exact Nat.zero_le _

end Go.Proofs.YtppelmceojodhaaDoor
