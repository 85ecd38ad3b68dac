/- TEXTS Step3. -/
import Derived.Test.Ytlgceccbjkkeiabwax09
import Derived.Test.Ytlgceccbjkkeiabwax10
import Derived.Test.Ytlgceccbjkkeiabwax11
/- THE WALKS of readStep and of the program's StepOf, StepLoads, StepTaken. -/
namespace Go.Proofs.Ytlgceccbjkkeiab
open Go.RowKit

theorem tl_at (l : List Bool) (n : Nat) (h : tl l = n + 1) : bx l n = true := by
  have hlen : n < l.length := by have := tl_le l; omega
  obtain ⟨m, hm⟩ := cut_eq l
  have hc := cut_length l
  rw [h] at hc
  cases hb : bx l n with
  | true => rfl
  | false =>
    exfalso
    have e : tl (l.take (n + 1)) = n + 1 := by
      have : l.take (n + 1) = cut l := by unfold cut; rw [h]
      rw [this, tl_cut, h]
    have hb2 : l[n]? = some false := by
      unfold bx at hb
      rw [List.getElem?_eq_getElem hlen] at hb ⊢
      simpa using hb
    rw [tl_take_pred l n hlen hb2] at e
    have := tl_le (l.take n)
    rw [List.length_take] at this
    omega
theorem bx_cut (l : List Bool) (i : Nat) : bx (cut l) i = bx l i := by
  obtain ⟨m, hm⟩ := cut_eq l
  have : bx l i = bx (cut l ++ List.replicate m false) i := by rw [← hm]
  rw [this]
  unfold bx
  by_cases h : i < (cut l).length
  · rw [List.getElem?_append_left h]
  · rw [List.getElem?_append_right (by omega), List.getElem?_eq_none_iff.2 (by omega), List.getElem?_replicate]
    split <;> rfl
theorem tl_le_iff (l : List Bool) (n : Nat) : tl l ≤ n ↔ ∀ i, n ≤ i → bx l i = false := by
  constructor
  · intro h i hi
    rw [← bx_cut, bx_out _ _ (by rw [cut_length]; omega)]
  · intro h
    rcases Nat.lt_or_ge n (tl l) with h1 | h1
    · have := tl_at l (tl l - 1) (by omega)
      rw [h _ (by omega)] at this
      cases this
    · exact h1
theorem tl_ext {l m : List Bool} (h : ∀ i, bx l i = bx m i) : tl l = tl m :=
  Nat.le_antisymm ((tl_le_iff l _).2 fun i hi => by rw [h]; exact (tl_le_iff m _).1 (Nat.le_refl _) i hi) ((tl_le_iff m _).2 fun i hi => by rw [← h]; exact (tl_le_iff l _).1 (Nat.le_refl _) i hi)
theorem cut_ext {l m : List Bool} (h : ∀ i, bx l i = bx m i) : cut l = cut m := by
  apply List.ext_getElem?
  intro i
  have hl := cut_length l
  have hm := cut_length m
  have e := tl_ext h
  by_cases hi : i < tl l
  · have h1 := h i
    rw [← bx_cut l, ← bx_cut m] at h1
    unfold bx at h1
    rw [List.getElem?_eq_getElem (by omega), List.getElem?_eq_getElem (by omega)] at h1 ⊢
    simpa using h1
  · rw [List.getElem?_eq_none_iff.2 (by omega), List.getElem?_eq_none_iff.2 (by omega)]
theorem bx_fun_cut (l : List Bool) : bx (cut l) = bx l := funext (bx_cut l)
theorem stp_cut (K : Nat) (l : List Bool) : cut (stp K (cut l)) = cut (stp K l) := cut_ext fun i => by rw [bx_stp, bx_stp, bx_fun_cut]
theorem tl_stp_cut (K : Nat) (l : List Bool) : tl (stp K (cut l)) = tl (stp K l) := tl_ext fun i => by rw [bx_stp, bx_stp, bx_fun_cut]

end Go.Proofs.Ytlgceccbjkkeiab

/- THE WALK of the program's StepTaken; the walks of StepBack, of the model and of the program. -/
namespace Go.Proofs.Ytlgceccbjkkeiab
open Go.RowKit

theorem tk_up {K : Nat} {f : Nat → Bool} {k : Nat} (h : ld K f k < ld K f (k + 1)) : tk K f (k + 1) = tk K f k + 1 := by
  cases hf : f k
  · by_cases hu : 0 < ld K f k
    · have := (box_put hf hu).2.1; omega
    · have := (box_none hf hu).2.1; omega
  · by_cases hu : ld K f k < K
    · exact (box_take hf hu).2.2
    · have := (box_full hf hu).2.1; omega
theorem tk_flat {K : Nat} {f : Nat → Bool} {k : Nat} (h : ¬ ld K f k < ld K f (k + 1)) : tk K f (k + 1) = tk K f k := by
  cases hf : f k
  · by_cases hu : 0 < ld K f k
    · exact (box_put hf hu).2.2
    · exact (box_none hf hu).2.2
  · by_cases hu : ld K f k < K
    · have := (box_take hf hu).2.1; omega
    · exact (box_full hf hu).2.2
theorem tk_le (K : Nat) (f : Nat → Bool) (i : Nat) : tk K f i ≤ i := by
  induction i with
  | zero => exact Nat.le_refl _
  | succ i ih => show tk K _ i + _ ≤ _; split <;> omega

end Go.Proofs.Ytlgceccbjkkeiab

/- THE WALKS of StepBack, of the model and of the program. -/
namespace Go.Proofs.Ytlgceccbjkkeiab
open Go.RowKit

theorem bx_reverse (l : List Bool) (i : Nat) : bx l.reverse i = rv l.length (bx l) i := by
  unfold rv
  by_cases h : i < l.length
  · rw [if_pos h]; unfold bx; rw [List.getElem?_reverse h]
  · rw [if_neg h, bx_out _ _ (by simp; omega)]
/-- the boxes that a carrier leaves that goes back -/
def bkB (K : Nat) (l : List Bool) : List Bool := (stpU K (rv l.length (bx l)) l.length).reverse
theorem bx_bkB (K : Nat) (l : List Bool) (i : Nat) : bx (bkB K l) i = bkF K (bx l) l.length i := by
  unfold bkB
  rw [bx_reverse, stpU_length]
  unfold bkF rv
  by_cases h : i < l.length
  · rw [if_pos h, if_pos h]
    unfold bx
    simp [stpU, show l.length - 1 - i < l.length by omega]
  · rw [if_neg h, if_neg h]
/-- what StepBack answers -/
def bkOk (s : ByteArray) (room : Int) : Bool := vld s && roomOk room && decide (bkL room.toNat (bx (bits s)) s.size = 0)
def bkS (s : ByteArray) (room : Int) : ByteArray := if bkOk s room then ofBits (cut (bkB room.toNat (bits s))) else ByteArray.empty

theorem rv_at (n j p : Nat) (f : Nat → Bool) (h : j + (p + 1) = n) : rv n f j = f p := by unfold rv; rw [if_pos (by omega), show n - 1 - j = p by omega]

/-- the loop of l2Back, between two boxes -/
def BackRel (s : ByteArray) (K : Nat) (u o i : Value) : Prop :=
  ∃ (x : ByteArray) (j m : Nat) (z : Int), j + m = s.size ∧ i = .int .i64 z ∧ z = (m : Int) - 1 ∧ o = .string x ∧ x.size = j ∧ u = .int .i64 (ld K (rv s.size (bx (bits s))) j : Int) ∧
    Hid (x.data.toList = chars (stpU K (rv s.size (bx (bits s))) j).reverse)
theorem BackRel.next {s : ByteArray} {K : Nat} {x : ByteArray} {j p : Nat} (hj : j + (p + 1) = s.size) (hx : x.size = j) (HX : Hid (x.data.toList = chars (stpU K (rv s.size (bx (bits s))) j).reverse)) (c : UInt8) (u : Int)
    (hc : (if tr K (rv s.size (bx (bits s))) j then 49 else 48) = c) (hu : (ld K (rv s.size (bx (bits s))) (j + 1) : Int) = u) :
    BackRel s K (.int .i64 u) (.string (⟨#[c]⟩ ++ x)) (.int .i64 ((p : Int) - 1)) := by
  refine ⟨_, j + 1, p, _, by omega, rfl, rfl, rfl, ?_, by rw [hu], ?_⟩
  · rw [ByteArray.size_append]; show 1 + x.size = _; omega
  · show (_ ++ x).data.toList = _
    rw [ByteArray.data_append, Array.toList_append, HX.out, stpU_succ, List.reverse_append, ← hc]
    unfold chars
    simp

end Go.Proofs.Ytlgceccbjkkeiab
