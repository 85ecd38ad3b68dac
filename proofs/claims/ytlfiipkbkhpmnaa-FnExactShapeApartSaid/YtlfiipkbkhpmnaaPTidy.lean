/- THE WALK of the law FnTidy: tidy rows are tidy. -/
import Derived.Test.YtlfiipkbkhpmnaaRowTidy
import Derived.Test.YtlfiipkbkhpmnaaDraw3
namespace Go.Proofs.Ytlfiipkbkhpmnaa
open Go.RowKit

theorem bits_tidyS (s : ByteArray) : bits (tidyS s) = cut (bits s) := by
  unfold bits cut tidyS
  rw [Lib.extract_data]
  simp [bits]
theorem tidyS_size' (s : ByteArray) : (tidyS s).size = tl (bits s) := by
  have := tl_le (bits s)
  rw [length_bits] at this
  unfold tidyS; simp; omega
theorem vld_tidyS (s : ByteArray) (h : vld s = true) : vld (tidyS s) = true := by
  have h1 := vld_sgn s h
  have h2 := vld_le s h
  have h3 := tidyS_le s
  have hl : (tidyS s).data.toList = s.data.toList.take (tl (bits s)) := by
    unfold tidyS
    rw [Lib.extract_data]
    simp
  unfold vld
  rw [hl]
  unfold allSgn at h1 ⊢
  rw [List.all_eq_true] at h1
  rw [Bool.and_eq_true, List.all_eq_true]
  exact ⟨fun c hc => h1 c (List.mem_of_mem_take hc), by simp; omega⟩
theorem tidyS_tidyS (s : ByteArray) : tidyS (tidyS s) = tidyS s := by
  have h : tl (bits (tidyS s)) = (tidyS s).size := by rw [bits_tidyS, tl_cut, tidyS_size']
  have h2 : tidyS (tidyS s) = (tidyS s).extract 0 (tl (bits (tidyS s))) := rfl
  rw [h2, h]; simp
theorem tl_last (l : List Bool) (n : Nat) (h : tl l = n + 1) : l[n]? = some true := by
  have g : ∀ (m : List Bool) (n : Nat), tl m.reverse = n + 1 → m.reverse[n]? = some true := by
    intro m
    induction m with
    | nil => intro n h; simp [tl] at h
    | cons b m ih =>
      intro n h
      rw [List.reverse_cons, tl_snoc] at h
      rw [List.reverse_cons]
      cases b
      · have h2 : tl m.reverse = n + 1 := by simpa using h
        have := ih n h2
        rw [List.getElem?_append_left (List.getElem?_eq_some_iff.1 this).1]; exact this
      · have h2 : m.reverse.length = n := by simp at h; simpa using h
        rw [List.getElem?_append_right (by omega), h2]; simp
  have := g l.reverse n (by rw [List.reverse_reverse]; exact h)
  rwa [List.reverse_reverse] at this
theorem tidyS_last (s : ByteArray) (h : (tidyS s).size - 1 < (tidyS s).size) : (((tidyS s)[(tidyS s).size - 1].toNat : Int) == 49) = true := by
  rw [← bit_int]
  have h2 := bits_getElem (tidyS s) ((tidyS s).size - 1) h
  have h3 := tl_last (bits (tidyS s)) ((tidyS s).size - 1) (by rw [bits_tidyS, tl_cut, ← tidyS_size']; omega)
  rw [h3] at h2
  simpa using h2.symm

end Go.Proofs.Ytlfiipkbkhpmnaa
