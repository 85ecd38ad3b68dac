/- THE WALKS of the drawing of rows. -/
import Derived.Test.YtlfiipkbkhpmnaaDraw
namespace Go.Proofs.Ytlfiipkbkhpmnaa
open Go.RowKit

/-- what the drawing of a text leaves -/
def DrawnS (w : World) (R : Nat) (a : Option Addr) (len cap : Nat) (z : List Int) (p : Nat) (e : Ending) (w' : World) : Prop :=
  ∃ (s : ByteArray) (q : Nat), e = .returned (.string s) ∧ s.size ≤ 300 ∧ q ≤ p + 70 ∧ Rd w' R a len cap z q ∧ Below R w w' ∧ w'.heap.size = w.heap.size
/-- the same, of signs alone -/
def DrawnRel (w : World) (R : Nat) (a : Option Addr) (len cap : Nat) (z : List Int) (p d : Nat) (s : Value) (i : Value) (wr : World) : Prop :=
  ∃ (x : ByteArray) (k q : Nat), s = .string x ∧ i = .int .i64 (k : Int) ∧ x.size = k ∧ k ≤ 28 ∧ allSgn x.data.toList = true ∧ q ≤ p + 1 + d * k ∧ Rd wr R a len cap z q ∧ Below R w wr ∧ wr.heap.size = w.heap.size

theorem allSgn_push (x : ByteArray) (c : UInt8) (hc : sgn c = true) (h : allSgn x.data.toList = true) : allSgn (x ++ ⟨#[c]⟩).data.toList = true := by
  unfold allSgn at h ⊢
  simp [ByteArray.data_append, hc]
  simpa using h

theorem tidyS_le (x : ByteArray) : (tidyS x).size ≤ x.size := by
  unfold tidyS; simp; omega
theorem many61 (w : World) : Calls Try.prog 39 #[.string ⟨#[49, 48]⟩, .int .i64 61] w fun e w' => (∃ out : ByteArray, e = .returned (.string out) ∧ out.size = 122) ∧ w = w' :=
  (l6Many_any ⟨#[49, 48]⟩ 61 w (by omega) (by decide)).mono fun e w' ⟨⟨out, he, ho⟩, hw⟩ => ⟨⟨out, he, by have := congrArg List.length ho; rw [rep_length] at this; exact this⟩, hw⟩

end Go.Proofs.Ytlfiipkbkhpmnaa
