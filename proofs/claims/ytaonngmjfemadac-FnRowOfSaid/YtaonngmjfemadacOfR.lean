/- PLAIN FACTS on balls put into boxes one by one: their order is nothing to the row. -/
import Derived.Test.YtaonngmjfemadacRowOf
namespace Go.Proofs.Ytaonngmjfemadac
open Go.RowKit

def setAll (h : List Bool) (l : List Int) : List Bool := l.foldl (fun h x => h.set x.toNat true) h
theorem setAll_length (h : List Bool) (l : List Int) : (setAll h l).length = h.length := by
  induction l generalizing h with
  | nil => rfl
  | cons x r ih => show (setAll (h.set x.toNat true) r).length = _; rw [ih]; simp
theorem setAll_get (h : List Bool) (l : List Int) (j : Nat) (hj : j < h.length) : (setAll h l)[j]? = if ∃ x ∈ l, x.toNat = j then some true else h[j]? := by
  induction l generalizing h with
  | nil => simp [setAll]
  | cons x r ih =>
    show (setAll (h.set x.toNat true) r)[j]? = _
    rw [ih (h.set x.toNat true) (by simpa using hj)]
    by_cases c : ∃ y ∈ r, y.toNat = j
    · obtain ⟨y, hy, e⟩ := c
      rw [if_pos ⟨y, hy, e⟩, if_pos ⟨y, List.mem_cons_of_mem _ hy, e⟩]
    · rw [if_neg c, List.getElem?_set]
      by_cases e : x.toNat = j
      · subst e
        rw [if_pos rfl, if_pos hj, if_pos ⟨x, by simp, rfl⟩]
      · rw [if_neg e, if_neg]
        rintro ⟨y, hy, e2⟩
        rcases List.mem_cons.1 hy with rfl | hy
        · exact e e2
        · exact c ⟨y, hy, e2⟩
theorem ofR_iff (h : List Bool) (l : List Int) (hh : h.length = 120) : (∃ h', ofR h l = some h') ↔ (∀ x ∈ l, 0 ≤ x ∧ x < 120 ∧ h[x.toNat]? = some false) ∧ l.Nodup := by
  induction l generalizing h with
  | nil => simp [ofR]
  | cons x r ih =>
    by_cases c : 0 ≤ x ∧ x < 120 ∧ h[x.toNat]? = some false
    · rw [ofR_good h x r c, ih (h.set x.toNat true) (by simpa using hh)]
      constructor
      · rintro ⟨h1, h2⟩
        refine ⟨?_, ?_⟩
        · intro y hy
          rcases List.mem_cons.1 hy with rfl | hy
          · exact c
          · obtain ⟨y0, y1, y2⟩ := h1 y hy
            rw [List.getElem?_set] at y2
            split at y2
            · split at y2 <;> simp at y2
            · exact ⟨y0, y1, y2⟩
        · rw [List.nodup_cons]
          refine ⟨?_, h2⟩
          intro hx
          obtain ⟨_, _, y2⟩ := h1 x hx
          rw [List.getElem?_set, if_pos rfl, if_pos (by rw [hh]; omega)] at y2
          simp at y2
      · rintro ⟨h1, h2⟩
        rw [List.nodup_cons] at h2
        refine ⟨?_, h2.2⟩
        intro y hy
        obtain ⟨y0, y1, y2⟩ := h1 y (List.mem_cons_of_mem _ hy)
        refine ⟨y0, y1, ?_⟩
        rw [List.getElem?_set, if_neg]
        · exact y2
        · intro e
          have : x = y := by omega
          subst this
          exact h2.1 hy
    · rw [ofR_bad h x r c]
      constructor
      · rintro ⟨h', hn⟩; cases hn
      · rintro ⟨h1, _⟩; exact absurd (h1 x (by simp)) c
theorem ofR_val (h h' : List Bool) (l : List Int) (e : ofR h l = some h') : h' = setAll h l := by
  induction l generalizing h with
  | nil => simp [ofR] at e; exact e.symm
  | cons x r ih =>
    by_cases c : 0 ≤ x ∧ x < 120 ∧ h[x.toNat]? = some false
    · rw [ofR_good h x r c] at e; exact ih _ e
    · rw [ofR_bad h x r c] at e; cases e
theorem ofR_reverse (l : List Int) : ofR none120 l.reverse = ofR none120 l := by
  have hs : setAll none120 l.reverse = setAll none120 l := by
    apply List.ext_getElem?
    intro j
    by_cases hj : j < none120.length
    · rw [setAll_get _ _ _ hj, setAll_get _ _ _ hj]; simp
    · rw [List.getElem?_eq_none_iff.2 (by rw [setAll_length]; omega), List.getElem?_eq_none_iff.2 (by rw [setAll_length]; omega)]
  have hi : (∃ h', ofR none120 l.reverse = some h') ↔ (∃ h', ofR none120 l = some h') := by
    have hn : l.reverse.Nodup ↔ l.Nodup := by
      unfold List.Nodup
      rw [List.pairwise_reverse]
      constructor <;> exact fun h => h.imp (fun h => h.symm)
    rw [ofR_iff _ _ rfl, ofR_iff _ _ rfl, hn]; simp
  cases h1 : ofR none120 l with
  | none =>
    cases h2 : ofR none120 l.reverse with
    | none => rfl
    | some b => obtain ⟨b2, hb2⟩ := hi.1 ⟨b, h2⟩; rw [h1] at hb2; cases hb2
  | some a =>
    obtain ⟨b, hb⟩ := hi.2 ⟨a, h1⟩
    rw [hb, ofR_val _ _ _ hb, ofR_val _ _ _ h1, hs]
theorem ofR_balls (h h' : List Bool) (l : List Int) (e : ofR h l = some h') : nballs h' = nballs h + l.length := by
  induction l generalizing h with
  | nil => simp [ofR] at e; subst e; rfl
  | cons x r ih =>
    by_cases c : 0 ≤ x ∧ x < 120 ∧ h[x.toNat]? = some false
    · rw [ofR_good h x r c] at e
      rw [ih _ e]
      obtain ⟨hk, hf⟩ := List.getElem?_eq_some_iff.1 c.2.2
      have : nballs (h.set x.toNat true) = nballs h + 1 := by
        unfold nballs
        rw [List.count_set hk, hf]; simp
      rw [this, List.length_cons]; omega
    · rw [ofR_bad h x r c] at e; cases e
theorem ofS_reverse (l : List Int) : ofS l.reverse = ofS l ∧ ofOk l.reverse = ofOk l := by unfold ofS ofOk; rw [ofR_reverse]; exact ⟨rfl, rfl⟩
theorem ofR_len (h h' : List Bool) (l : List Int) (e : ofR h l = some h') : h'.length = h.length := by rw [ofR_val _ _ _ e, setAll_length]
end Go.Proofs.Ytaonngmjfemadac
