/- TEXTS Text, RowTidy. -/
import Derived.Test.Ytkdhifofdghbbabexc08
import Derived.Test.Ytkdhifofdghbbabexc19
/- THE WALK of the method text: the signs of a row, up to its last ball. -/
namespace Go.Proofs.Ytkdhifofdghbbab
open Go.RowKit Go.Shelf

attribute [local go_sem] Oper.semAt_some

def chars (l : List Bool) : List UInt8 := l.map fun b => if b then 49 else 48
def ofBits (l : List Bool) : ByteArray := ⟨(chars l).toArray⟩
/-- the cells of the signs: balls at some indexes -/
def sg (t : Nat) (ps : List Nat) : List Value := (List.range t).map fun j => .int .u8 (if ps.contains j then 49 else 48)

theorem sg_nil (t : Nat) : sg t [] = zeros t := by
  unfold sg zeros
  apply List.ext_getElem?
  intro j
  by_cases h : j < t <;> simp [h]
theorem sg_snoc (t : Nat) (ps : List Nat) (x : Nat) : sg t (ps ++ [x]) = (sg t ps).set x (.int .u8 49) := by
  apply List.ext_getElem?
  intro j
  rw [List.getElem?_set]
  unfold sg
  by_cases e : x = j
  · subst e
    by_cases h : x < t <;> simp [h]
  · have e2 : ¬ j = x := fun h => e h.symm
    by_cases h : j < t <;> simp [h, e, e2]
theorem sg_pos (l : List Bool) (t : Nat) (hl : l.length = t) : sg t (pos l) = (chars l).map fun c => .int .u8 (c.toNat : Int) := by
  subst hl
  apply List.ext_getElem?
  intro j
  unfold sg chars
  by_cases h : j < l.length
  · have e : l[j]? = some l[j] := List.getElem?_eq_getElem h
    have hm : (pos l).contains j = l[j] := by
      rw [Bool.eq_iff_iff, List.contains_iff_mem]
      unfold pos posU
      rw [List.mem_filter, e]
      simp [h]
    simp only [List.getElem?_map, List.getElem?_range h, e, Option.map_some, hm]
    cases l[j] <;> rfl
  · simp [h]

theorem CellsAt.kept {w w' : World} {g : Nat} {l : List Value} {row : Option Nat} (h : CellsAt w g l) (hg : w.grownBy w' row) (hr : ∀ r, row = some r → ∃ o : Obj, w.heap[r]? = some o ∧ o.isCells = false) : CellsAt w' g l := by
  intro j v hv
  obtain ⟨a, b⟩ := h j v hv
  exact ⟨cell_kept a hg hr, (frozen_kept a hg hr).trans b⟩

end Go.Proofs.Ytkdhifofdghbbab

/- THE WALKS of RowTidy, of the program, and of its exact law. -/
namespace Go.Proofs.Ytkdhifofdghbbab
open Go.RowKit

theorem tl_pad (l : List Bool) (n : Nat) : tl (l ++ List.replicate n false) = tl l := by
  induction n with
  | zero => simp
  | succ n ih => rw [List.replicate_succ', ← List.append_assoc, tl_snoc]; simpa using ih
theorem tl_cut (l : List Bool) : tl (cut l) = tl l := by
  obtain ⟨n, hn⟩ := cut_eq l
  have h := tl_pad (cut l) n
  rw [← hn] at h
  exact h.symm
theorem cut_cut (l : List Bool) : cut (cut l) = cut l := by
  have h : cut (cut l) = (cut l).take (tl (cut l)) := rfl
  rw [h, tl_cut, List.take_of_length_le (by rw [cut_length]; exact Nat.le_refl _)]
theorem chars_take (l : List Bool) (k : Nat) : chars (l.take k) = (chars l).take k := by unfold chars; rw [List.map_take]
theorem chars_bits (s : ByteArray) (h : allSgn s.data.toList = true) : chars (bits s) = s.data.toList := by
  unfold chars bits
  rw [List.map_map]
  unfold allSgn at h
  rw [List.all_eq_true] at h
  have : s.data.toList.map ((fun b => if b = true then (49 : UInt8) else 48) ∘ fun x => x == 49) = s.data.toList.map id := by
    apply List.map_congr_left
    intro c hc
    have hs := h c hc
    unfold sgn at hs
    by_cases h49 : c = 49
    · subst h49; rfl
    · have : c = 48 := by simpa [h49] using hs
      subst this; rfl
  rw [this, List.map_id]
theorem tidyS_eq (s : ByteArray) (h : allSgn s.data.toList = true) : ofBits (cut (bits s)) = tidyS s := by
  have hl : (tidyS s).data.toList = s.data.toList.take (tl (bits s)) := by
    unfold tidyS
    rw [Lib.extract_data]
    simp
  have e : ofBits (cut (bits s)) = ⟨(tidyS s).data.toList.toArray⟩ := by
    unfold ofBits
    rw [hl]
    unfold cut
    rw [chars_take, chars_bits s h]
  rw [e]

end Go.Proofs.Ytkdhifofdghbbab
