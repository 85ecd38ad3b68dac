/- THE WALKS of StepBack, of the model and of the program. -/
import Derived.Test.YtlfiipkbkhpmnaaStep4
namespace Go.Proofs.Ytlfiipkbkhpmnaa
open Go.RowKit

theorem bx_reverse (l : List Bool) (i : Nat) : bx l.reverse i = rv l.length (bx l) i := by
  unfold rv
  by_cases h : i < l.length
  · rw [if_pos h]; unfold bx; rw [List.getElem?_reverse h]
  · rw [if_neg h, bx_out _ _ (by simp; omega)]
/-- the boxes that a carrier leaves that goes back -/
def bkB (K : Nat) (l : List Bool) : List Bool := (stpU K (rv l.length (bx l)) l.length).reverse
theorem bx_bkB (K : Nat) (l : List Bool) (i : Nat) : bx (bkB K l) i = bkF K (bx l) l.length i := by
  unfold bkB
  rw [bx_reverse, stpU_length]
  unfold bkF rv
  by_cases h : i < l.length
  · rw [if_pos h, if_pos h]
    unfold bx
    simp [stpU, show l.length - 1 - i < l.length by omega]
  · rw [if_neg h, if_neg h]
/-- what StepBack answers -/
def bkOk (s : ByteArray) (room : Int) : Bool := vld s && roomOk room && decide (bkL room.toNat (bx (bits s)) s.size = 0)
def bkS (s : ByteArray) (room : Int) : ByteArray := if bkOk s room then ofBits (cut (bkB room.toNat (bits s))) else ByteArray.empty

theorem rv_at (n j p : Nat) (f : Nat → Bool) (h : j + (p + 1) = n) : rv n f j = f p := by unfold rv; rw [if_pos (by omega), show n - 1 - j = p by omega]

/-- the loop of l2Back, between two boxes -/
def BackRel (s : ByteArray) (K : Nat) (u o i : Value) : Prop :=
  ∃ (x : ByteArray) (j m : Nat) (z : Int), j + m = s.size ∧ i = .int .i64 z ∧ z = (m : Int) - 1 ∧ o = .string x ∧ x.size = j ∧ u = .int .i64 (ld K (rv s.size (bx (bits s))) j : Int) ∧
    Hid (x.data.toList = chars (stpU K (rv s.size (bx (bits s))) j).reverse)
theorem BackRel.next {s : ByteArray} {K : Nat} {x : ByteArray} {j p : Nat} (hj : j + (p + 1) = s.size) (hx : x.size = j) (HX : Hid (x.data.toList = chars (stpU K (rv s.size (bx (bits s))) j).reverse)) (c : UInt8) (u : Int)
    (hc : (if tr K (rv s.size (bx (bits s))) j then 49 else 48) = c) (hu : (ld K (rv s.size (bx (bits s))) (j + 1) : Int) = u) :
    BackRel s K (.int .i64 u) (.string (⟨#[c]⟩ ++ x)) (.int .i64 ((p : Int) - 1)) := by
  refine ⟨_, j + 1, p, _, by omega, rfl, rfl, rfl, ?_, by rw [hu], ?_⟩
  · rw [ByteArray.size_append]; show 1 + x.size = _; omega
  · show (_ ++ x).data.toList = _
    rw [ByteArray.data_append, Array.toList_append, HX.out, stpU_succ, List.reverse_append, ← hc]
    unfold chars
    simp

end Go.Proofs.Ytlfiipkbkhpmnaa
