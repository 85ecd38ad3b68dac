/- TEXTS PTidy, Step6. -/
import Derived.Test.Ytkdhifofdghbbabexc20
import Derived.Test.Ytkdhifofdghbbabexc21
import Derived.Test.Ytkdhifofdghbbabexc30
import Derived.Test.Ytkdhifofdghbbabexc24
import Derived.Test.Ytkdhifofdghbbabexc23
import Derived.Test.Ytkdhifofdghbbabexc29
/- THE WALK of the law FnTidy: tidy rows are tidy. -/
namespace Go.Proofs.Ytkdhifofdghbbab
open Go.RowKit

theorem bits_tidyS (s : ByteArray) : bits (tidyS s) = cut (bits s) := by
  unfold bits cut tidyS
  rw [Lib.extract_data]
  simp [bits]
theorem tidyS_size' (s : ByteArray) : (tidyS s).size = tl (bits s) := by
  have := tl_le (bits s)
  rw [length_bits] at this
  unfold tidyS; simp; omega
theorem vld_tidyS (s : ByteArray) (h : vld s = true) : vld (tidyS s) = true := by
  have h1 := vld_sgn s h
  have h2 := vld_le s h
  have h3 := tidyS_le s
  have hl : (tidyS s).data.toList = s.data.toList.take (tl (bits s)) := by
    unfold tidyS
    rw [Lib.extract_data]
    simp
  unfold vld
  rw [hl]
  unfold allSgn at h1 ⊢
  rw [List.all_eq_true] at h1
  rw [Bool.and_eq_true, List.all_eq_true]
  exact ⟨fun c hc => h1 c (List.mem_of_mem_take hc), by simp; omega⟩
theorem tidyS_tidyS (s : ByteArray) : tidyS (tidyS s) = tidyS s := by
  have h : tl (bits (tidyS s)) = (tidyS s).size := by rw [bits_tidyS, tl_cut, tidyS_size']
  have h2 : tidyS (tidyS s) = (tidyS s).extract 0 (tl (bits (tidyS s))) := rfl
  rw [h2, h]; simp
theorem tl_last (l : List Bool) (n : Nat) (h : tl l = n + 1) : l[n]? = some true := by
  have g : ∀ (m : List Bool) (n : Nat), tl m.reverse = n + 1 → m.reverse[n]? = some true := by
    intro m
    induction m with
    | nil => intro n h; simp [tl] at h
    | cons b m ih =>
      intro n h
      rw [List.reverse_cons, tl_snoc] at h
      rw [List.reverse_cons]
      cases b
      · have h2 : tl m.reverse = n + 1 := by simpa using h
        have := ih n h2
        rw [List.getElem?_append_left (List.getElem?_eq_some_iff.1 this).1]; exact this
      · have h2 : m.reverse.length = n := by simp at h; simpa using h
        rw [List.getElem?_append_right (by omega), h2]; simp
  have := g l.reverse n (by rw [List.reverse_reverse]; exact h)
  rwa [List.reverse_reverse] at this
theorem tidyS_last (s : ByteArray) (h : (tidyS s).size - 1 < (tidyS s).size) : (((tidyS s)[(tidyS s).size - 1].toNat : Int) == 49) = true := by
  rw [← bit_int]
  have h2 := bits_getElem (tidyS s) ((tidyS s).size - 1) h
  have h3 := tl_last (bits (tidyS s)) ((tidyS s).size - 1) (by rw [bits_tidyS, tl_cut, ← tidyS_size']; omega)
  rw [h3] at h2
  simpa using h2.symm

end Go.Proofs.Ytkdhifofdghbbab

/- THE WALK of the law FnBalls: balls are counted boxes. -/
namespace Go.Proofs.Ytkdhifofdghbbab
open Go.RowKit

theorem bits_ofBits (l : List Bool) : bits (ofBits l) = l := bits_chars l (ofBits l) (by simp [ofBits])
theorem vld_ofBits (l : List Bool) (h : l.length ≤ 120) : vld (ofBits l) = true := by
  unfold vld
  have e : (ofBits l).data.toList = chars l := by simp [ofBits]
  have hz : (ofBits l).size = l.length := by
    have := congrArg List.length e; rw [chars_length] at this; exact this
  rw [e, chars_sgn, hz]; simpa using h
theorem nballs_shB (n : Nat) (l : List Bool) : nballs (shB n l) = nballs l := by
  have : nballs (shB n l) = nballs (cut l) := by unfold shB nballs; rw [List.count_append, List.count_replicate]; simp
  rw [this, nballs_cut]
/-- what a shifted row is -/
theorem shS_facts (s : ByteArray) (n : Int) (h : shOk s n = true) : vld (shS s n) = true ∧ bits (shS s n) = if tl (bits s) = 0 then [] else shB n.toNat (bits s) := by
  by_cases h0 : tl (bits s) = 0
  · have e : shS s n = ByteArray.empty := by unfold shS; simp [h0]
    rw [e, if_pos h0]; exact ⟨rfl, rfl⟩
  · have e : shS s n = ofBits (shB n.toNat (bits s)) := by unfold shS; simp [h0, h]
    rw [e, if_neg h0, bits_ofBits]
    refine ⟨vld_ofBits _ ?_, rfl⟩
    rw [shB_length]
    unfold shOk at h
    simp [h0] at h
    omega
theorem nballs_shS (s : ByteArray) (n : Int) (h : shOk s n = true) : nballs (bits (shS s n)) = nballs (bits s) := by
  rw [(shS_facts s n h).2]
  by_cases h0 : tl (bits s) = 0
  · rw [if_pos h0, ← nballs_cut (bits s)]
    have : cut (bits s) = [] := by unfold cut; rw [h0]; rfl
    rw [this]
  · rw [if_neg h0, nballs_shB]
theorem shS_le (s : ByteArray) (n : Int) : (shS s n).size ≤ 120 := by
  cases h : shOk s n
  · have : shS s n = ByteArray.empty := by unfold shS; simp [h]
    rw [this]; exact Nat.zero_le _
  · exact vld_le _ (shS_facts s n h).1
theorem atR_length (s : ByteArray) (h : vld s = true) : (atR s).length = nballs (bits s) := by
  unfold atR; rw [h, if_pos rfl]; unfold posI; rw [List.length_map, count_boxes]

end Go.Proofs.Ytkdhifofdghbbab

/- THE WALKS of StepMany, of the model and of the program. -/
namespace Go.Proofs.Ytkdhifofdghbbab
open Go.RowKit

/-- the text behind k steps, and whether each of them was told -/
def smT (room : Int) (t : ByteArray) : Nat → ByteArray × Bool
  | 0 => (t, true)
  | k + 1 => if (smT room t k).2 then (stS (smT room t k).1 room, stOk (smT room t k).1 room) else (ByteArray.empty, false)
/-- what StepMany answers -/
def smIn (s : ByteArray) (room n : Int) : Bool := tkOk s room && (decide (0 ≤ n) && decide (n ≤ 100))
def smR (s : ByteArray) (room n : Int) : ByteArray × Bool := if smIn s room n then smT room (tidyS s) n.toNat else (ByteArray.empty, false)

theorem smT_no {room : Int} {t : ByteArray} {k : Nat} (h : (smT room t k).2 = false) (j : Nat) (hj : k < j) : smT room t j = (ByteArray.empty, false) := by
  have h1 : ∀ d, smT room t (k + 1 + d) = (ByteArray.empty, false) := by
    intro d
    induction d with
    | zero => show smT room t (k + 1) = _; unfold smT; rw [h]; rfl
    | succ d ih => show smT room t (k + 1 + d + 1) = _; rw [smT, ih]; rfl
  rw [show j = k + 1 + (j - (k + 1)) by omega]; exact h1 _
theorem stS_no {s : ByteArray} {room : Int} (h : stOk s room = false) : stS s room = ByteArray.empty := by unfold stS; rw [h]; rfl
theorem smT_empty {room : Int} {t : ByteArray} {k : Nat} (h : (smT room t k).2 = false) : smT room t k = (ByteArray.empty, false) := by
  cases k with
  | zero => cases h
  | succ k =>
    cases hk : (smT room t k).2 with
    | false => exact smT_no hk _ (Nat.lt_succ_self _)
    | true =>
      rw [smT, if_pos hk] at h ⊢
      have h2 : stOk (smT room t k).1 room = false := h
      rw [h2, stS_no h2]
theorem stS_size (s : ByteArray) (room : Int) : (stS s room).size ≤ 120 := by
  unfold stS
  cases h : stOk s room
  · exact Nat.zero_le _
  · unfold stOk at h
    simp at h
    rw [if_pos rfl]
    show (ofBits _).data.size ≤ 120
    unfold ofBits
    simp [chars_length, cut_length]
    exact h.2
theorem smT_size {room : Int} {t : ByteArray} (ht : t.size ≤ 120) (k : Nat) : (smT room t k).1.size ≤ 120 := by
  cases k with
  | zero => exact ht
  | succ k =>
    rw [smT]
    split
    · exact stS_size _ _
    · exact Nat.zero_le _

end Go.Proofs.Ytkdhifofdghbbab
