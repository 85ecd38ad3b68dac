/- TEXTS SCol. -/
import Derived.Test.YtppelmceojodhaaDoorone07
import Derived.Test.YtppelmceojodhaaDoorone01
import Derived.Lib.Strings
/- THE WALKS of the model's ColourIn, l1Tidy and l1Done of whatever text. -/
namespace Go.Proofs.YtppelmceojodhaaDoor
open Go.RowKit

theorem lst_get (s : ByteArray) (k : Nat) (h : k < s.size) : (lst s)[k]? = some s[k] := by
  unfold lst
  rw [List.getElem?_eq_getElem (by simpa using h)]
  simp
  rfl
/-- a text cut behind its last ball, of whatever colour -/
def tidyC (s : ByteArray) : ByteArray := s.extract 0 (tl (nz (lst s)))
theorem tidyC_lst (s : ByteArray) : lst (tidyC s) = cz (lst s) := by
  unfold tidyC cz lst
  rw [Lib.extract_data]
  simp
theorem tidyC_ofL (s : ByteArray) : tidyC s = ofL (cz (lst s)) := by rw [← tidyC_lst, ofL_lst]
theorem tidyC_size (s : ByteArray) : (tidyC s).size = (cz (lst s)).length := by rw [← lst_size, tidyC_lst]

set_option maxHeartbeats 400000 in
theorem l1TidyC_any (s : ByteArray) (w : World) (hs : s.size ≤ maxLen) :
    Calls Tryd.prog 42 #[.string s] w fun e w' => e = .returned (.string (tidyC s)) ∧ w = w' := by
  unfold maxLen at hs
  go_enter Tryd.func42, Tryd.ntmps42
  go_wp2
  go_loop [3] (fun i => ∃ k : Nat, k ≤ s.size ∧ i = .int .i64 k ∧ Hid (tl ((nz (lst s)).take k) = tl (nz (lst s)))) (fun i => (Go.RowKit.intOf i).toNat)
  case atStart => exact ⟨s.size, Nat.le_refl _, rfl, by rw [List.take_of_length_le (by rw [nz_length, lst_size]; exact Nat.le_refl _)]; rfl⟩
  case round =>
    obtain ⟨k, hk, rfl, HT⟩ := hrel
    by_cases hk0 : k = 0
    · subst hk0
      go_wp2
      go_ret
      exact ⟨ret_string (by unfold tidyC; rw [← HT.out, List.take_zero, tl_nil]; simp), rfl⟩
    · obtain ⟨j, rfl⟩ : ∃ j, k = j + 1 := ⟨k - 1, by omega⟩
      have hj : j < s.size := by omega
      have HJ : Hid (j < (nz (lst s)).length) := by show _ < _; rw [nz_length, lst_size]; exact hj
      have HB : Hid ((nz (lst s))[j]? = some (!(s[j] == 48))) := by
        show _ = _
        unfold nz
        rw [List.getElem?_map, lst_get s j hj]
        rfl
      by_cases h48 : (s[j].toNat : Int) = 48
      · have h8 : s[j] = 48 := UInt8.toNat_inj.1 (by show s[j].toNat = 48; omega)
        have HB2 : Hid ((nz (lst s))[j]? = some false) := by show _ = _; rw [HB.out, h8]; rfl
        have hb : ((s[j].toNat : Int) == 48) = true := by simp [h48]
        clear h48 h8
        go_wp2
        go_round
        case rel => exact ⟨j, by omega, rfl, (tl_take_pred (nz (lst s)) j HJ.out HB2.out).symm.trans HT.out⟩
        case measure => simp [Go.RowKit.intOf]
      · have h8 : ¬ s[j] = 48 := fun h => h48 (by rw [h]; rfl)
        have HB2 : Hid ((nz (lst s))[j]? = some true) := by show _ = _; rw [HB.out]; simp [h8]
        have hb : ((s[j].toNat : Int) == 48) = false := by simpa using h48
        clear h48 h8
        go_wp2
        go_ret
        exact ⟨ret_string (by unfold tidyC; rw [← HT.out, tl_take_stop (nz (lst s)) j HJ.out HB2.out]), rfl⟩

set_option maxHeartbeats 400000 in
theorem l1DoneC_any (x : ByteArray) (w : World) (hs : x.size ≤ 1000) :
    Calls Tryd.prog 30 #[.string x] w fun e w' => e = .returned (.tuple #[.string (if (cz (lst x)).length ≤ 120 then ofL (cz (lst x)) else ByteArray.empty), .bool (decide ((cz (lst x)).length ≤ 120))]) ∧ w = w' := by
  have C := hide (fun w => l1TidyC_any x w (by unfold maxLen; omega))
  have hz := tidyC_size x
  rw [← hz, ← tidyC_ofL]
  obtain ⟨t, ht⟩ : ∃ t, t = tidyC x := ⟨_, rfl⟩
  rw [← ht] at C ⊢
  clear ht hz
  by_cases h : t.size ≤ 120
  · go_enter Tryd.func30, Tryd.ntmps30
    go_wp2_with (go_at_call 42; refine (C.out _).mono ?_; rintro e w' ⟨rfl, rfl⟩)
    go_ret2
    exact ⟨by simp, rfl⟩
  · go_enter Tryd.func30, Tryd.ntmps30
    go_wp2_with (go_at_call 42; refine (C.out _).mono ?_; rintro e w' ⟨rfl, rfl⟩)
    go_ret2
    exact ⟨by simp; rfl, rfl⟩

/-- a sign of a coloured row, as an int -/
theorem sg3_int (x : UInt8) : sg3 x = true ↔ 48 ≤ (x.toNat : Int) ∧ (x.toNat : Int) ≤ 51 := by
  rw [sg3_iff]
  constructor
  · rintro (h | h | h | h) <;> (rw [h]; decide)
  · rintro ⟨h1, h2⟩
    have h : x.toNat = 48 ∨ x.toNat = 49 ∨ x.toNat = 50 ∨ x.toNat = 51 := by omega
    rcases h with h | h | h | h
    · exact .inl (UInt8.toNat_inj.1 h)
    · exact .inr (.inl (UInt8.toNat_inj.1 h))
    · exact .inr (.inr (.inl (UInt8.toNat_inj.1 h)))
    · exact .inr (.inr (.inr (UInt8.toNat_inj.1 h)))
theorem cIn_bad (s : ByteArray) (k : Nat) (h : k < s.size) (hb : ¬ (48 ≤ (s[k].toNat : Int) ∧ (s[k].toNat : Int) ≤ 51)) : cIn s = false := by
  cases hc : cIn s
  · rfl
  · have := ((cIn_iff s).1 hc).1 s[k] (List.mem_of_getElem? (lst_get s k h))
    exact absurd ((sg3_int _).1 this) hb
theorem cIn_good (s : ByteArray) (h : ∀ k (h : k < s.size), sg3 s[k] = true) : cIn s = decide (s.size ≤ 120) := by
  have : (lst s).all sg3 = true := by
    rw [List.all_eq_true]
    intro x hx
    obtain ⟨k, hk, e⟩ := List.getElem_of_mem hx
    have hk' : k < s.size := by rw [← lst_size]; exact hk
    have e2 := lst_get s k hk'
    rw [List.getElem?_eq_getElem hk] at e2
    injection e2 with e2
    rw [← e, e2]
    exact h k hk'
  unfold cIn
  rw [this]
  rfl

set_option maxHeartbeats 400000 in
theorem specColourIn_any (s : ByteArray) (w : World) (hs : s.size ≤ maxLen) :
    Calls Tryd.prog 28 #[.string s] w fun e w' => e = .returned (.bool (cIn s)) ∧ w = w' := by
  unfold maxLen at hs
  go_enter Tryd.func28, Tryd.ntmps28
  go_wp2
  go_loop [3] (fun i => ∃ k : Nat, k ≤ s.size ∧ i = .int .i64 k ∧ Hid (∀ j (h : j < s.size), j < k → sg3 s[j] = true)) (fun i => s.size - (Go.RowKit.intOf i).toNat)
  case atStart => exact ⟨0, Nat.zero_le _, rfl, fun j _ h => by omega⟩
  case round =>
    obtain ⟨k, hk, rfl, HA⟩ := hrel
    by_cases hlt : k < s.size
    · by_cases hc : 48 ≤ (s[k].toNat : Int) ∧ (s[k].toNat : Int) ≤ 51
      · have HN : Hid (∀ j (h : j < s.size), j < k + 1 → sg3 s[j] = true) := by
          intro j h hj
          by_cases e : j = k
          · subst e; exact (sg3_int _).2 hc
          · exact HA.out j h (by omega)
        have h1 : decide ((s[k].toNat : Int) < 48) = false := by simp; omega
        have h2 : decide ((51 : Int) < (s[k].toNat : Int)) = false := by simp; omega
        clear hc
        go_wp2
        go_round
        case rel => exact ⟨k + 1, by omega, by go_num, HN.out⟩
        case measure => simp [Go.RowKit.intOf]; omega
      · have HC := hide (cIn_bad s k hlt hc)
        by_cases h3 : (s[k].toNat : Int) < 48
        · have h1 : decide ((s[k].toNat : Int) < 48) = true := by simpa using h3
          clear hc
          go_wp2
          go_ret
          exact ⟨ret_bool HC.out.symm, rfl⟩
        · have h1 : decide ((s[k].toNat : Int) < 48) = false := by simpa using h3
          have h4 : (51 : Int) < (s[k].toNat : Int) := by omega
          have h2 : decide ((51 : Int) < (s[k].toNat : Int)) = true := by simpa using h4
          clear hc
          go_wp2
          go_ret
          exact ⟨ret_bool HC.out.symm, rfl⟩
    · have HE := hide (cIn_good s (fun j h => HA.out j h (by omega)))
      go_wp2
      go_ret
      exact ⟨ret_bool (by rw [HE.out]; simp; omega), rfl⟩
end Go.Proofs.YtppelmceojodhaaDoor
