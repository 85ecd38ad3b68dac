/- THE WALKS of RowValid, of the model and of the program: both answer 'vld s'. -/
import Derived.Test.YtkdhifofdghbbaaChecked
import Derived.Test.YtkdhifofdghbbaaPlain
import Derived.WalkKit
import Derived.WalkSpells
import Derived.WalkLawsBesides
namespace Go.Proofs.Ytkdhifofdghbbaa
open Go.RowKit

theorem ret_bool {a b : Bool} (h : a = b) : Ending.returned (.bool a) = .returned (.bool b) := by rw [h]

set_option maxHeartbeats 400000 in
theorem specRowValid_any (s : ByteArray) (w : World) (hs : s.size ≤ maxLen) :
    Calls Try.prog 38 #[.string s] w fun e w' => e = .returned (.bool (vld s)) ∧ w = w' := by
  unfold maxLen at hs
  go_enter Try.func38, Try.ntmps38
  go_wp2
  go_loop [3] (fun i => ∃ k : Nat, k ≤ s.size ∧ i = .int .i64 k ∧ Hid (allSgn (s.data.toList.take k) = true)) (fun i => s.size - (intOf i).toNat)
  case atStart => exact ⟨0, Nat.zero_le _, rfl, rfl⟩
  case round =>
    obtain ⟨k, hk, rfl, HA⟩ := hrel
    by_cases hlt : k < s.size
    · by_cases hc : (s[k].toNat : Int) = 48 ∨ (s[k].toNat : Int) = 49
      · have HC := hide hc
        rcases hc with hc | hc
        · have h1 : ((s[k].toNat : Int) != 48) = false := by simp [hc]
          clear hc
          go_wp2
          go_round
          case rel => exact ⟨k + 1, by omega, by go_num, allSgn_snoc s k hlt HA.out HC.out⟩
          case measure => simp [intOf]; omega
        · have h1 : ((s[k].toNat : Int) != 48) = true := by simp [hc]
          have h2 : ((s[k].toNat : Int) != 49) = false := by simp [hc]
          clear hc
          go_wp2
          go_round
          case rel => exact ⟨k + 1, by omega, by go_num, allSgn_snoc s k hlt HA.out HC.out⟩
          case measure => simp [intOf]; omega
      · have HC := hide hc
        have h1 : ((s[k].toNat : Int) != 48) = true := by simp; omega
        have h2 : ((s[k].toNat : Int) != 49) = true := by simp; omega
        clear hc
        go_wp2
        go_ret
        exact ⟨ret_bool (vld_bad s k hlt HC.out).symm, rfl⟩
    · go_wp2
      go_ret
      exact ⟨ret_bool (by rw [vld_good s k (by omega) HA.out]; simp; omega), rfl⟩

set_option maxHeartbeats 400000 in
theorem implRowValid_any (s : ByteArray) (w : World) (hs : s.size ≤ maxLen) :
    Calls Try.prog 33 #[.string s] w fun e w' => e = .returned (.bool (vld s)) ∧ w = w' := by
  unfold maxLen at hs
  by_cases hbig : 120 < s.size
  · go_enter Try.func33, Try.ntmps33
    go_wp2
    go_ret
    exact ⟨ret_bool (by simp [vld]; omega), rfl⟩
  · go_enter Try.func33, Try.ntmps33
    go_wp2
    go_loop [9] (fun i => ∃ k : Nat, k ≤ s.size ∧ i = .int .i64 k ∧ Hid (allSgn (s.data.toList.take k) = true)) (fun i => s.size - (intOf i).toNat)
    case atStart => exact ⟨0, Nat.zero_le _, rfl, rfl⟩
    case round =>
      obtain ⟨k, hk, rfl, HA⟩ := hrel
      by_cases hlt : k < s.size
      · by_cases hc : (s[k].toNat : Int) = 48 ∨ (s[k].toNat : Int) = 49
        · have HC := hide hc
          rcases hc with hc | hc
          · have h1 : ((s[k].toNat : Int) != 48) = false := by simp [hc]
            clear hc
            go_wp2
            go_round
            case rel => exact ⟨k + 1, by omega, by go_num, allSgn_snoc s k hlt HA.out HC.out⟩
            case measure => simp [intOf]; omega
          · have h1 : ((s[k].toNat : Int) != 48) = true := by simp [hc]
            have h2 : ((s[k].toNat : Int) != 49) = false := by simp [hc]
            clear hc
            go_wp2
            go_round
            case rel => exact ⟨k + 1, by omega, by go_num, allSgn_snoc s k hlt HA.out HC.out⟩
            case measure => simp [intOf]; omega
        · have HC := hide hc
          have h1 : ((s[k].toNat : Int) != 48) = true := by simp; omega
          have h2 : ((s[k].toNat : Int) != 49) = true := by simp; omega
          clear hc
          go_wp2
          go_ret
          exact ⟨ret_bool (vld_bad s k hlt HC.out).symm, rfl⟩
      · go_wp2
        go_ret
        exact ⟨ret_bool (by rw [vld_good s k (by omega) HA.out]; simp; omega), rfl⟩
end Go.Proofs.Ytkdhifofdghbbaa
