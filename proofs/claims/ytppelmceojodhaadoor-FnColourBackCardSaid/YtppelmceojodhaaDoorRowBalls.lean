/- THE WALKS of RowBalls, of the program, and of its exact law. -/
import Derived.Test.YtppelmceojodhaaDoorBalls
namespace Go.Proofs.YtppelmceojodhaaDoor
open Go.RowKit

theorem CellsAt.take {w : World} {g : Nat} {l : List Value} (h : CellsAt w g l) (k : Nat) : CellsAt w g (l.take k) := by
  intro j v hv
  rw [List.getElem?_take] at hv
  split at hv
  · exact h j v hv
  · cases hv
/-- a row up to its last ball -/
def cut (l : List Bool) : List Bool := l.take (tl l)
theorem cut_length (l : List Bool) : (cut l).length = tl l := by unfold cut; rw [List.length_take]; exact Nat.min_eq_left (tl_le l)
theorem cut_map (l : List Bool) : (cut l).map Value.bool = (l.map Value.bool).take (tl l) := by unfold cut; rw [List.map_take]
theorem cut_eq (l : List Bool) : ∃ n, l = cut l ++ List.replicate n false := by
  have h : ∀ m : List Bool, ∃ n, m.reverse = cut m.reverse ++ List.replicate n false := by
    intro m
    induction m with
    | nil => exact ⟨0, rfl⟩
    | cons b m ih =>
      obtain ⟨n, hn⟩ := ih
      rw [List.reverse_cons]
      cases b
      · refine ⟨n + 1, ?_⟩
        have e : cut (m.reverse ++ [false]) = cut m.reverse := by
          unfold cut
          rw [tl_snoc]
          exact List.take_append_of_le_length (tl_le _)
        rw [e, List.replicate_succ', ← List.append_assoc, ← hn]
      · refine ⟨0, ?_⟩
        unfold cut
        rw [tl_snoc, List.take_of_length_le (by simp)]
        simp
  have := h l.reverse
  rwa [List.reverse_reverse] at this
theorem nballs_cut (l : List Bool) : nballs (cut l) = nballs l := by
  obtain ⟨n, hn⟩ := cut_eq l
  have h2 : nballs l = nballs (cut l ++ List.replicate n false) := congrArg nballs hn
  rw [h2]
  unfold nballs
  rw [List.count_append, List.count_replicate]; simp

end Go.Proofs.YtppelmceojodhaaDoor
