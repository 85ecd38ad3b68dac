/- THE WALKS of readStep and of the program's StepOf, StepLoads, StepTaken. -/
import Derived.Test.YtlfiipkbkhpmnaaStep2
import Derived.Test.YtlfiipkbkhpmnaaCarrier
namespace Go.Proofs.Ytlfiipkbkhpmnaa
open Go.RowKit

theorem tl_at (l : List Bool) (n : Nat) (h : tl l = n + 1) : bx l n = true := by
  have hlen : n < l.length := by have := tl_le l; omega
  obtain ⟨m, hm⟩ := cut_eq l
  have hc := cut_length l
  rw [h] at hc
  cases hb : bx l n with
  | true => rfl
  | false =>
    exfalso
    have e : tl (l.take (n + 1)) = n + 1 := by
      have : l.take (n + 1) = cut l := by unfold cut; rw [h]
      rw [this, tl_cut, h]
    have hb2 : l[n]? = some false := by
      unfold bx at hb
      rw [List.getElem?_eq_getElem hlen] at hb ⊢
      simpa using hb
    rw [tl_take_pred l n hlen hb2] at e
    have := tl_le (l.take n)
    rw [List.length_take] at this
    omega
theorem bx_cut (l : List Bool) (i : Nat) : bx (cut l) i = bx l i := by
  obtain ⟨m, hm⟩ := cut_eq l
  have : bx l i = bx (cut l ++ List.replicate m false) i := by rw [← hm]
  rw [this]
  unfold bx
  by_cases h : i < (cut l).length
  · rw [List.getElem?_append_left h]
  · rw [List.getElem?_append_right (by omega), List.getElem?_eq_none_iff.2 (by omega), List.getElem?_replicate]
    split <;> rfl
theorem tl_le_iff (l : List Bool) (n : Nat) : tl l ≤ n ↔ ∀ i, n ≤ i → bx l i = false := by
  constructor
  · intro h i hi
    rw [← bx_cut, bx_out _ _ (by rw [cut_length]; omega)]
  · intro h
    rcases Nat.lt_or_ge n (tl l) with h1 | h1
    · have := tl_at l (tl l - 1) (by omega)
      rw [h _ (by omega)] at this
      cases this
    · exact h1
theorem tl_ext {l m : List Bool} (h : ∀ i, bx l i = bx m i) : tl l = tl m :=
  Nat.le_antisymm ((tl_le_iff l _).2 fun i hi => by rw [h]; exact (tl_le_iff m _).1 (Nat.le_refl _) i hi) ((tl_le_iff m _).2 fun i hi => by rw [← h]; exact (tl_le_iff l _).1 (Nat.le_refl _) i hi)
theorem cut_ext {l m : List Bool} (h : ∀ i, bx l i = bx m i) : cut l = cut m := by
  apply List.ext_getElem?
  intro i
  have hl := cut_length l
  have hm := cut_length m
  have e := tl_ext h
  by_cases hi : i < tl l
  · have h1 := h i
    rw [← bx_cut l, ← bx_cut m] at h1
    unfold bx at h1
    rw [List.getElem?_eq_getElem (by omega), List.getElem?_eq_getElem (by omega)] at h1 ⊢
    simpa using h1
  · rw [List.getElem?_eq_none_iff.2 (by omega), List.getElem?_eq_none_iff.2 (by omega)]
theorem bx_fun_cut (l : List Bool) : bx (cut l) = bx l := funext (bx_cut l)
theorem stp_cut (K : Nat) (l : List Bool) : cut (stp K (cut l)) = cut (stp K l) := cut_ext fun i => by rw [bx_stp, bx_stp, bx_fun_cut]
theorem tl_stp_cut (K : Nat) (l : List Bool) : tl (stp K (cut l)) = tl (stp K l) := tl_ext fun i => by rw [bx_stp, bx_stp, bx_fun_cut]

end Go.Proofs.Ytlfiipkbkhpmnaa
