/- ROTATED CIRCLES AS TEXTS: promises 43 and 46. Pure: no walk. -/
import Derived.Test.YtkdhifofdghbbaaCir8
namespace Go.Proofs.Ytkdhifofdghbbaa
open Go.RowKit

theorem rtS_list {s : ByteArray} {n : Int} (h : rtOk s n = true) : (rtS s n).data.toList = s.data.toList.drop n.toNat ++ s.data.toList.take n.toNat := by
  unfold rtS
  rw [if_pos h, ByteArray.data_append, Array.toList_append, Lib.extract_data, Lib.extract_data]
  rw [List.drop_zero, Nat.sub_zero]
  congr 1
  exact List.take_of_length_le (by rw [List.length_drop]; exact Nat.le_refl _)
theorem rtOk_facts {s : ByteArray} {n : Int} (h : rtOk s n = true) : ciIn s = true ∧ n.toNat ≤ s.size := by
  unfold rtOk at h
  rw [Bool.and_eq_true, Bool.and_eq_true] at h
  obtain ⟨h1, h2, h3⟩ := h
  simp at h2 h3
  exact ⟨h1, by omega⟩
theorem rtS_bits {s : ByteArray} {n : Int} (h : rtOk s n = true) : bits (rtS s n) = (bits s).drop n.toNat ++ (bits s).take n.toNat := by
  unfold bits
  rw [rtS_list h, List.map_append, List.map_drop, List.map_take]
theorem rtS_rot {s : ByteArray} {n : Int} (h : rtOk s n = true) : Rot (bits s) (bits (rtS s n)) :=
  ⟨(bits s).take n.toNat, (bits s).drop n.toNat, (List.take_append_drop _ _).symm, rtS_bits h⟩
theorem Rot.drf {l l' : List Bool} (h : Rot l l') : drf l = drf l' := by
  obtain ⟨a, b, rfl, rfl⟩ := h
  rw [drf_app, drf_app]
  omega
theorem rtS_vld {s : ByteArray} {n : Int} (h : rtOk s n = true) : vld (rtS s n) = true := by
  obtain ⟨h1, _⟩ := rtOk_facts h
  have hv := (ciIn_facts h1).1
  have hz : (rtS s n).size = s.size := by rw [← length_bits, ← length_bits, (rtS_rot h).length]
  have hs := vld_sgn s hv
  have h120 := vld_le s hv
  unfold allSgn at hs
  rw [List.all_eq_true] at hs
  unfold vld
  rw [Bool.and_eq_true]
  refine ⟨?_, by rw [hz]; simpa using h120⟩
  unfold allSgn
  rw [List.all_eq_true, rtS_list h]
  intro x hx
  rcases List.mem_append.1 hx with hx | hx
  · exact hs x (List.mem_of_mem_drop hx)
  · exact hs x (List.mem_of_mem_take hx)
theorem rtS_ci {s : ByteArray} {n : Int} (h : rtOk s n = true) : ciIn (rtS s n) = true := by
  obtain ⟨h1, _⟩ := rtOk_facts h
  obtain ⟨_, _, _, h60, hd⟩ := ciIn_facts h1
  have hr := rtS_rot h
  rw [← ofB_bits (rtS_vld h)]
  refine ciIn_ofB ?_ ?_
  · rw [← hr.length, length_bits]; exact h60
  · rw [← hr.drf]; exact hd
theorem rtOk_turn {s : ByteArray} {n : Int} (h : rtOk s n = true) : rtOk (ctS s) n = true := by
  obtain ⟨h1, _⟩ := rtOk_facts h
  obtain ⟨_, h2, h3, _⟩ := ctS_facts h1
  unfold rtOk at h ⊢
  rw [h2, h3]
  rw [h1] at h
  exact h
/-- P46: turns go along with rotations -/
theorem turn_rot_S {s : ByteArray} {n : Int} (h : rtOk s n = true) : ctS (rtS s n) = rtS (ctS s) n := by
  obtain ⟨h1, hm⟩ := rtOk_facts h
  obtain ⟨_, _, _, h60, hd⟩ := ciIn_facts h1
  have ht := rtOk_turn h
  have hv : vld (rtS (ctS s) n) = true := rtS_vld ht
  have hv2 : vld (ctS (rtS s n)) = true := (ciIn_facts (ctS_facts (rtS_ci h)).2.1).1
  rw [← ofB_bits hv, ← ofB_bits hv2]
  congr 1
  rw [(ctS_facts (rtS_ci h)).1, rtS_bits h, rtS_bits ht, (ctS_facts h1).1]
  have e : (bits s).take n.toNat ++ (bits s).drop n.toNat = bits s := List.take_append_drop _ _
  obtain ⟨a', b', c1, c2, c3⟩ := cturn_rot (a := (bits s).take n.toNat) (b := (bits s).drop n.toNat) (by rw [e]; exact hd)
  rw [e] at c1
  have hl : a'.length = n.toNat := by rw [c3, List.length_take, length_bits]; omega
  rw [c2, c1, ← hl, List.drop_left, List.take_left]
/-- P46: and so does the shape -/
theorem shape_rot_S {s : ByteArray} {n : Int} (h : rtOk s n = true) : cshB (bits (rtS s n)) = cshB (bits s) := (cshB_rot (rtS_rot h)).symm
/-- P43: rotated by all its signs -/
theorem rot_all {s : ByteArray} (h : ciIn s = true) : rtOk s (s.size : Int) = true ∧ rtS s (s.size : Int) = s := by
  have hv := (ciIn_facts h).1
  have ho : rtOk s (s.size : Int) = true := by unfold rtOk; rw [h]; simp
  refine ⟨ho, ?_⟩
  rw [← ofB_bits (rtS_vld ho), rtS_bits ho]
  have e : ((s.size : Int)).toNat = (bits s).length := by rw [length_bits]; rfl
  rw [e, List.drop_length, List.take_length, List.nil_append, ofB_bits hv]
theorem ci_few {s : ByteArray} (h : ciIn s = true) : 2 * nballs (bits s) < s.size := by
  have := (ciIn_facts h).2.2.2.2
  rw [drf_balls, length_bits] at this
  omega
end Go.Proofs.Ytkdhifofdghbbaa
