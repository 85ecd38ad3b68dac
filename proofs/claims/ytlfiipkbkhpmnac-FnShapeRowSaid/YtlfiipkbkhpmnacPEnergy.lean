/- THE WALKS of the laws FnEnergy and FnEnergies. -/
import Derived.Test.YtlfiipkbkhpmnacOfF
import Derived.Test.YtlfiipkbkhpmnacSShape
import Derived.Test.YtlfiipkbkhpmnacDraw6
namespace Go.Proofs.Ytlfiipkbkhpmnac
open Go.RowKit

theorem sum_take_succ (l : List Int) (k : Nat) (x : Int) (h : l[k]? = some x) : (l.take (k + 1)).sum = (l.take k).sum + x := by
  rw [List.take_add_one, h, List.sum_append]; simp
theorem sum_bd (l : List Int) (h : l.all szOk = true) : 0 ≤ l.sum ∧ l.sum ≤ 200 * (l.length : Int) := by
  have := enSum_bd l 200 rfl h
  have e : enSum l 200 = l.sum := by
    unfold enSum
    congr 1
    have : l.map (fun x => min x 200) = l.map id := List.map_congr_left (fun x hx => by
      have h1 := List.all_eq_true.1 h x hx
      unfold szOk at h1
      simp at h1
      show min x 200 = x
      omega)
    rw [this, List.map_id]
  rw [e] at this
  exact this
theorem enOk_parts {l : List Int} {n : Int} (h : enOk l n = true) : roomOk n = true ∧ l.length ≤ 100 ∧ l.all szOk = true := by
  unfold enOk at h
  rw [Bool.and_eq_true, Bool.and_eq_true] at h
  exact ⟨h.1.1, by simpa using h.1.2, h.2⟩
theorem enN_bd (l : List Int) (n : Int) : 0 ≤ enN l n ∧ enN l n ≤ 20000 := by
  unfold enN
  cases h : enOk l n
  · exact ⟨Int.le_refl _, by show (0 : Int) ≤ 20000; omega⟩
  · rw [if_pos rfl]
    obtain ⟨a, b, c⟩ := enOk_parts h
    have := enSum_bd l n a c
    omega

end Go.Proofs.Ytlfiipkbkhpmnac
