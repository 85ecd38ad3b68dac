/- THE WALKS of RowBalls, of the program, and of its exact law. -/
import Derived.Test.YtkdhifofdghbbaaBalls
namespace Go.Proofs.Ytkdhifofdghbbaa
open Go.RowKit

theorem CellsAt.take {w : World} {g : Nat} {l : List Value} (h : CellsAt w g l) (k : Nat) : CellsAt w g (l.take k) := by
  intro j v hv
  rw [List.getElem?_take] at hv
  split at hv
  · exact h j v hv
  · cases hv
/-- a row up to its last ball -/
def cut (l : List Bool) : List Bool := l.take (tl l)
theorem cut_length (l : List Bool) : (cut l).length = tl l := by unfold cut; rw [List.length_take]; exact Nat.min_eq_left (tl_le l)
theorem cut_map (l : List Bool) : (cut l).map Value.bool = (l.map Value.bool).take (tl l) := by unfold cut; rw [List.map_take]
theorem cut_eq (l : List Bool) : ∃ n, l = cut l ++ List.replicate n false := by
  have h : ∀ m : List Bool, ∃ n, m.reverse = cut m.reverse ++ List.replicate n false := by
    intro m
    induction m with
    | nil => exact ⟨0, rfl⟩
    | cons b m ih =>
      obtain ⟨n, hn⟩ := ih
      rw [List.reverse_cons]
      cases b
      · refine ⟨n + 1, ?_⟩
        have e : cut (m.reverse ++ [false]) = cut m.reverse := by
          unfold cut
          rw [tl_snoc]
          exact List.take_append_of_le_length (tl_le _)
        rw [e, List.replicate_succ', ← List.append_assoc, ← hn]
      · refine ⟨0, ?_⟩
        unfold cut
        rw [tl_snoc, List.take_of_length_le (by simp)]
        simp
  have := h l.reverse
  rwa [List.reverse_reverse] at this
theorem nballs_cut (l : List Bool) : nballs (cut l) = nballs l := by
  obtain ⟨n, hn⟩ := cut_eq l
  have h2 : nballs l = nballs (cut l ++ List.replicate n false) := congrArg nballs hn
  rw [h2]
  unfold nballs
  rw [List.count_append, List.count_replicate]; simp

set_option maxHeartbeats 400000 in
theorem implRowBalls_any (s : ByteArray) (w : World) (hs : s.size ≤ maxLen) :
    Calls Try.prog 14 #[.string s] w fun e w' => e = .returned (.int .i64 (if vld s then (nballs (bits s) : Int) else -1)) ∧ Below w.heap.size w w' := by
  cases hv : vld s
  · go_enter Try.func14, Try.ntmps14
    go_wp2_with (go_at_call 41; refine (readRow_no _ _ hs hv).mono ?_; rintro e w' ⟨rfl, rfl⟩)
    go_ret
    exact ⟨rfl, Below.refl _ _⟩
  · have h120 := vld_le s hv
    have hle := tl_le (bits s)
    rw [length_bits] at hle
    have C1 := hide (fun w => readRow_yes s w hv)
    have HC := hide (cut_length (bits s))
    have HM := hide (cut_map (bits s))
    have HN := hide (nballs_cut (bits s))
    obtain ⟨t, ht⟩ : ∃ t, t = tl (bits s) := ⟨_, rfl⟩
    rw [← ht] at hle C1 HC HM
    clear ht
    go_enter Try.func14, Try.ntmps14
    go_wp2_with fail
    refine (C1.out _).mono ?_
    rintro e w1 ⟨rfl, hb1, hc1, hz1⟩
    go_wp2_with fail
    refine (count_any _ t s.size (cut (bits s)) HC.out (by omega) w1 (by rw [HM.out]; exact hc1.take t)).mono ?_
    rintro e w2 ⟨rfl, hb2⟩
    rw [HN.out]
    go_wp2_with fail
    go_ret
    exact ⟨rfl, hb1.trans (hb2.mono hb1.size)⟩

end Go.Proofs.Ytkdhifofdghbbaa
