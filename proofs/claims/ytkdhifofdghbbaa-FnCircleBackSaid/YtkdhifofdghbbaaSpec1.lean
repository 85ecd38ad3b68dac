/- THE WALKS of the model's functions of chapter 1: l1Tidy, RowTidy, l1Balls, RowBalls, l1Levels, RowLevels, RowHigh. -/
import Derived.Test.YtkdhifofdghbbaaValid
import Derived.Test.YtkdhifofdghbbaaInts
namespace Go.Proofs.Ytkdhifofdghbbaa
open Go.RowKit

/-- a text cut behind its last ball -/
def tidyS (s : ByteArray) : ByteArray := s.extract 0 (tl (bits s))
theorem ret_string {a b : ByteArray} (h : a = b) : Ending.returned (.string a) = .returned (.string b) := by rw [h]

/-- with signs alone, what is no '0' is a ball -/
theorem sgn_bit (s : ByteArray) (k : Nat) (h : k < s.size) (g : allSgn s.data.toList = true) : ((s[k].toNat : Int) == 48) = !(s[k] == 49) := by
  unfold allSgn at g
  rw [List.all_eq_true] at g
  have := g s[k] (List.getElem_mem (l := s.data.toList) (by simpa using h))
  rw [sgn_of] at this
  rw [bit_int]
  have h2 := of_decide_eq_true this
  rcases h2 with h2 | h2 <;> simp [h2]

set_option maxHeartbeats 400000 in
theorem l1Tidy_any (s : ByteArray) (w : World) (hs : s.size ≤ maxLen) (hg : allSgn s.data.toList = true) :
    Calls Try.prog 69 #[.string s] w fun e w' => e = .returned (.string (tidyS s)) ∧ w = w' := by
  unfold maxLen at hs
  have HG := hide hg
  clear hg
  go_enter Try.func69, Try.ntmps69
  go_wp2
  go_loop [3] (fun i => ∃ k : Nat, k ≤ s.size ∧ i = .int .i64 k ∧ Hid (tl ((bits s).take k) = tl (bits s))) (fun i => (intOf i).toNat)
  case atStart => exact ⟨s.size, Nat.le_refl _, rfl, by rw [List.take_of_length_le (by rw [length_bits]; exact Nat.le_refl _)]; rfl⟩
  case round =>
    obtain ⟨k, hk, rfl, HT⟩ := hrel
    by_cases hk0 : k = 0
    · subst hk0
      go_wp2
      go_ret
      exact ⟨ret_string (by unfold tidyS; rw [← HT.out, List.take_zero, tl_nil]; simp), rfl⟩
    · obtain ⟨j, rfl⟩ : ∃ j, k = j + 1 := ⟨k - 1, by omega⟩
      have hj : j < s.size := by omega
      have hJ : j < (bits s).length := by rw [length_bits]; exact hj
      have HJ := hide hJ
      clear hJ
      have HB := hide (bits_getElem s j hj)
      have hb := sgn_bit s j hj HG.out
      by_cases h49 : (s[j] == 49) = true
      · rw [h49] at hb
        have hb : ((s[j].toNat : Int) == 48) = false := hb
        have HB := hide ((HB.out).trans (congrArg some h49))
        clear h49
        go_wp2
        go_ret
        exact ⟨ret_string (by unfold tidyS; rw [← HT.out, tl_take_stop (bits s) j HJ.out HB.out]), rfl⟩
      · have h49 : (s[j] == 49) = false := by simpa using h49
        rw [h49] at hb
        have hb : ((s[j].toNat : Int) == 48) = true := hb
        have HB := hide ((HB.out).trans (congrArg some h49))
        clear h49
        go_wp2
        go_round
        case rel => exact ⟨j, by omega, rfl, (tl_take_pred (bits s) j HJ.out HB.out).symm.trans HT.out⟩
        case measure => simp [intOf]

theorem vld_sgn (s : ByteArray) (h : vld s = true) : allSgn s.data.toList = true := by
  unfold vld at h; simp at h; exact h.1
theorem vld_le (s : ByteArray) (h : vld s = true) : s.size ≤ 120 := by
  unfold vld at h; simp at h; exact h.2

/-- the number of balls -/
def nballs (l : List Bool) : Nat := l.count true
theorem nballs_snoc (l : List Bool) (k : Nat) (b : Bool) (h : l[k]? = some b) : nballs (l.take (k + 1)) = nballs (l.take k) + if b then 1 else 0 := by
  obtain ⟨hk, he⟩ := List.getElem?_eq_some_iff.1 h
  unfold nballs
  rw [List.take_succ_eq_append_getElem hk, List.count_append, he]
  cases b <;> rfl
theorem nballs_le (l : List Bool) (k : Nat) : nballs (l.take k) ≤ k := by
  unfold nballs; exact Nat.le_trans List.count_le_length (List.length_take_le _ _)

set_option maxHeartbeats 400000 in
theorem l1Balls_any (s : ByteArray) (w : World) (hs : s.size ≤ maxLen) :
    Calls Try.prog 40 #[.string s] w fun e w' => e = .returned (.int .i64 (nballs (bits s))) ∧ w = w' := by
  unfold maxLen at hs
  go_enter Try.func40, Try.ntmps40
  go_wp2
  go_loop [3, 4] (fun n i => ∃ k : Nat, k ≤ s.size ∧ i = .int .i64 k ∧ n = .int .i64 (nballs ((bits s).take k))) (fun _ i => s.size - (intOf i).toNat)
  case atStart => exact ⟨0, Nat.zero_le _, rfl, rfl⟩
  case round =>
    obtain ⟨k, hk, rfl, rfl⟩ := hrel
    have hl := nballs_le (bits s) k
    by_cases hlt : k < s.size
    · have HB := hide (bits_getElem s k hlt)
      rw [bit_int] at HB
      obtain ⟨m, hm⟩ : ∃ m, m = nballs ((bits s).take k) := ⟨_, rfl⟩
      have HM := hide hm
      rw [← hm] at hl ⊢
      clear hm
      cases hb : ((s[k].toNat : Int) == 49)
      · have HS := hide ((nballs_snoc (bits s) k _ HB.out).trans (by rw [hb, ← HM.out]; rfl : _ = m))
        clear HB
        go_wp2
        go_round
        case rel => exact ⟨k + 1, by omega, by go_num, by rw [HS.out]⟩
        case measure => simp [intOf]; omega
      · have HS := hide ((nballs_snoc (bits s) k _ HB.out).trans (by rw [hb, ← HM.out]; rfl : _ = m + 1))
        clear HB
        go_wp2
        go_round
        case rel => exact ⟨k + 1, by omega, by go_num, by rw [HS.out]; go_num⟩
        case measure => simp [intOf]; omega
    · go_wp2
      go_ret
      exact ⟨ret_int (by rw [List.take_of_length_le (by rw [length_bits]; omega)]), rfl⟩

end Go.Proofs.Ytkdhifofdghbbaa
