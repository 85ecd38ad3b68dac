/- CIRCLES. Pure: no walk. The boxes that are left behind some rounds, as indexes. -/
import Derived.Test.YtkdhifofdghbbaaCir5
namespace Go.Proofs.Ytkdhifofdghbbaa

/-- the signs of some boxes -/
def sgs (l : List Bool) (left : List Nat) : List Bool := left.map fun i => l.getD i false
theorem sel_map {α β : Type} (f : α → β) : ∀ (m : List Bool) (l : List α), (sel m l).map f = sel m (l.map f)
  | [], _ => by simp [sel]
  | _ :: _, [] => by simp [sel]
  | b :: m, x :: l => by
    have ih := sel_map f m l
    cases b <;> simp [sel, ih]
theorem sel_mem {α : Type} : ∀ (m : List Bool) (l : List α) (x : α), x ∈ sel m l → x ∈ l
  | [], _, _, h => by simp [sel] at h
  | _ :: _, [], _, h => by simp [sel] at h
  | b :: m, y :: l, x, h => by
    cases b
    · simp only [sel] at h
      exact List.mem_cons_of_mem _ (sel_mem m l x (by simpa using h))
    · simp only [sel] at h
      rcases List.mem_cons.1 (by simpa using h) with rfl | h
      · exact List.mem_cons_self ..
      · exact List.mem_cons_of_mem _ (sel_mem m l x h)
theorem sel_out {α : Type} : ∀ (m : List Bool) (l : List α) (x : α), m.length = l.length → x ∈ l → x ∉ sel m l → ∃ j : Nat, m[j]? = some false ∧ l[j]? = some x
  | [], [], x, _, h, _ => by simp at h
  | [], _ :: _, _, h, _, _ => by simp at h
  | _ :: _, [], _, h, _, _ => by simp at h
  | b :: m, y :: l, x, hl, h, hn => by
    cases b
    · rcases List.mem_cons.1 h with rfl | h
      · exact ⟨0, rfl, rfl⟩
      · obtain ⟨j, h1, h2⟩ := sel_out m l x (by simpa using hl) h (by simpa [sel] using hn)
        exact ⟨j + 1, h1, h2⟩
    · have hn' : x ≠ y ∧ x ∉ sel m l := by simpa [sel] using hn
      rcases List.mem_cons.1 h with e | h
      · exact absurd e hn'.1
      · obtain ⟨j, h1, h2⟩ := sel_out m l x (by simpa using hl) h hn'.2
        exact ⟨j + 1, h1, h2⟩
/-- what is known behind some rounds -/
def Stg (l : List Bool) (left : List Nat) : Prop :=
  drf (sgs l left) < 0 ∧ (∀ i ∈ left, i < l.length) ∧ cturn (sgs l left) = sgs (cturn l) left ∧
  ∀ i, i < l.length → i ∉ left → (cturn l).getD i false = !(l.getD i false)
theorem sgs_all (l : List Bool) : sgs l (List.range l.length) = l := by
  unfold sgs
  refine List.ext_getElem? fun j => ?_
  rw [List.getElem?_map]
  by_cases hj : j < l.length
  · rw [List.getElem?_range hj, List.getElem?_eq_getElem hj]
    simp [List.getD, hj]
  · rw [List.getElem?_eq_none_iff.2 (by rw [List.length_range]; omega), List.getElem?_eq_none_iff.2 (by omega)]
    rfl
theorem stg_start {l : List Bool} (h : drf l < 0) : Stg l (List.range l.length) := by
  refine ⟨by rw [sgs_all]; exact h, fun i hi => List.mem_range.1 hi, ?_, fun i hi hn => absurd (List.mem_range.2 hi) hn⟩
  rw [sgs_all]
  have := sgs_all (cturn l)
  rw [cturn_length] at this
  exact this.symm
/-- the boxes that are left behind one round more -/
def nxt (l : List Bool) (left : List Nat) : List Nat := sel (cm (sgs l left)) left
theorem nxt_signs (l : List Bool) (left : List Nat) : sgs l (nxt l left) = c10 (sgs l left) := by
  unfold nxt sgs
  rw [sel_map, c10_sel]
theorem stg_step {l : List Bool} {left : List Nat} (h : Stg l left) : Stg l (nxt l left) := by
  obtain ⟨h1, h2, h3, h4⟩ := h
  refine ⟨by rw [nxt_signs, c10_drf]; exact h1, fun i hi => h2 i (sel_mem _ _ i hi), ?_, fun i hi hn => ?_⟩
  · rw [nxt_signs, cturn_sel h1, h3]
    unfold nxt
    conv => rhs; unfold sgs
    rw [sel_map]
    rfl
  · by_cases hm : i ∈ left
    · obtain ⟨j, j1, j2⟩ := sel_out (cm (sgs l left)) left i (by rw [cm_length]; simp [sgs]) hm hn
      have e1 : (sgs l left)[j]? = some (l.getD i false) := by unfold sgs; rw [List.getElem?_map, j2]; rfl
      have e2 : (sgs (cturn l) left)[j]? = some ((cturn l).getD i false) := by unfold sgs; rw [List.getElem?_map, j2]; rfl
      have e3 := cturn_other h1 j1 e1
      rw [h3, e2] at e3
      injection e3
    · exact h4 i hi hm
/-- at the end: a turn's balls lie in the empty boxes that were paired -/
theorem stg_end {l : List Bool} {left : List Nat} (h : Stg l left) (he : (c10 (sgs l left)).length = (sgs l left).length) (i : Nat) (hi : i < l.length) :
    (cturn l).getD i false = (!(decide (i ∈ left)) && !(l.getD i false)) := by
  obtain ⟨h1, h2, h3, h4⟩ := h
  by_cases hm : i ∈ left
  · have hz := c10_none h1 he
    have hs := cturn_still hz
    rw [h3] at hs
    have hall : ∀ x ∈ sgs l left, x = false := by
      intro x hx
      cases x
      · rfl
      · unfold nballs at hz
        exact absurd hx (List.count_eq_zero.1 hz)
    have e : sgs (cturn l) left = sgs l left := hs
    have m1 : (cturn l).getD i false ∈ sgs (cturn l) left := List.mem_map.2 ⟨i, hm, rfl⟩
    rw [e] at m1
    rw [hall _ m1]
    simp [hm]
  · rw [h4 i hi hm]
    simp [hm]
/-- rounds behind rounds -/
theorem cnt_step {l : List Bool} {left : List Nat} (f : Nat) (he : (c10 (sgs l left)).length ≠ (sgs l left).length) :
    cnt10 (f + 1) (sgs l left) = ((sgs l left).length - (c10 (sgs l left)).length) / 2 :: cnt10 f (sgs l (nxt l left)) := by
  rw [nxt_signs]
  simp only [cnt10]
  rw [if_neg he]
end Go.Proofs.Ytkdhifofdghbbaa
