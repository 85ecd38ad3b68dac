/- PLAIN FACTS on rows of signs, for the walks of chapter 1: nothing of the program is named here. -/
import Derived.WalkKit
namespace Go.Proofs.Ytkdhifofdghbbaa

open Go.RowKit in
theorem hide {p : Prop} (h : p) : Hid p := h
/-- a sign of a row -/
def sgn (c : UInt8) : Bool := c == 48 || c == 49
/-- all bytes are signs -/
def allSgn (l : List UInt8) : Bool := l.all sgn
/-- a row: signs alone, at most 120 -/
def vld (s : ByteArray) : Bool := allSgn s.data.toList && decide (s.size ≤ 120)

theorem take_snoc (s : ByteArray) (k : Nat) (h : k < s.size) : s.data.toList.take (k + 1) = s.data.toList.take k ++ [s[k]] := by
  rw [List.take_succ_eq_append_getElem (by simpa using h)]; rfl
theorem sgn_of (c : UInt8) : sgn c = decide ((c.toNat : Int) = 48 ∨ (c.toNat : Int) = 49) := by
  unfold sgn
  rw [Bool.eq_iff_iff]
  simp [← UInt8.toNat_inj]
  omega
theorem allSgn_snoc (s : ByteArray) (k : Nat) (h : k < s.size) (g : allSgn (s.data.toList.take k) = true) (hc : (s[k].toNat : Int) = 48 ∨ (s[k].toNat : Int) = 49) :
    allSgn (s.data.toList.take (k + 1)) = true := by
  rw [take_snoc s k h]; unfold allSgn at g ⊢; rw [List.all_append, g]; simp [sgn_of, hc]
theorem vld_bad (s : ByteArray) (k : Nat) (h : k < s.size) (hc : ¬((s[k].toNat : Int) = 48 ∨ (s[k].toNat : Int) = 49)) : vld s = false := by
  unfold vld allSgn
  have : s.data.toList.all sgn = false := by
    rw [List.all_eq_false]
    exact ⟨s[k], by exact List.getElem_mem (l := s.data.toList) (by simpa using h), by rw [sgn_of]; simpa using hc⟩
  rw [this]; rfl
theorem vld_good (s : ByteArray) (k : Nat) (h : k = s.size) (g : allSgn (s.data.toList.take k) = true) : vld s = decide (s.size ≤ 120) := by
  unfold vld
  rw [List.take_of_length_le (by simp [h])] at g
  rw [g]; rfl
end Go.Proofs.Ytkdhifofdghbbaa
