/- THE WALKS of the model's ColourIn, l1Tidy and l1Done of whatever text. -/
import Derived.Test.YtkdhifofdghbbaaCol3
import Derived.Test.YtkdhifofdghbbaaValid
import Derived.Test.YtkdhifofdghbbaaL6In
import Derived.Lib.Strings
namespace Go.Proofs.Ytkdhifofdghbbaa
open Go.RowKit

theorem lst_get (s : ByteArray) (k : Nat) (h : k < s.size) : (lst s)[k]? = some s[k] := by
  unfold lst
  rw [List.getElem?_eq_getElem (by simpa using h)]
  simp
  rfl
/-- a text cut behind its last ball, of whatever colour -/
def tidyC (s : ByteArray) : ByteArray := s.extract 0 (tl (nz (lst s)))
theorem tidyC_lst (s : ByteArray) : lst (tidyC s) = cz (lst s) := by
  unfold tidyC cz lst
  rw [Lib.extract_data]
  simp
theorem tidyC_ofL (s : ByteArray) : tidyC s = ofL (cz (lst s)) := by rw [← tidyC_lst, ofL_lst]
theorem tidyC_size (s : ByteArray) : (tidyC s).size = (cz (lst s)).length := by rw [← lst_size, tidyC_lst]

set_option maxHeartbeats 400000 in
theorem l1TidyC_any (s : ByteArray) (w : World) (hs : s.size ≤ maxLen) :
    Calls Try.prog 69 #[.string s] w fun e w' => e = .returned (.string (tidyC s)) ∧ w = w' := by
  unfold maxLen at hs
  go_enter Try.func69, Try.ntmps69
  go_wp2
  go_loop [3] (fun i => ∃ k : Nat, k ≤ s.size ∧ i = .int .i64 k ∧ Hid (tl ((nz (lst s)).take k) = tl (nz (lst s)))) (fun i => (intOf i).toNat)
  case atStart => exact ⟨s.size, Nat.le_refl _, rfl, by rw [List.take_of_length_le (by rw [nz_length, lst_size]; exact Nat.le_refl _)]; rfl⟩
  case round =>
    obtain ⟨k, hk, rfl, HT⟩ := hrel
    by_cases hk0 : k = 0
    · subst hk0
      go_wp2
      go_ret
      exact ⟨ret_string (by unfold tidyC; rw [← HT.out, List.take_zero, tl_nil]; simp), rfl⟩
    · obtain ⟨j, rfl⟩ : ∃ j, k = j + 1 := ⟨k - 1, by omega⟩
      have hj : j < s.size := by omega
      have HJ : Hid (j < (nz (lst s)).length) := by show _ < _; rw [nz_length, lst_size]; exact hj
      have HB : Hid ((nz (lst s))[j]? = some (!(s[j] == 48))) := by
        show _ = _
        unfold nz
        rw [List.getElem?_map, lst_get s j hj]
        rfl
      by_cases h48 : (s[j].toNat : Int) = 48
      · have h8 : s[j] = 48 := UInt8.toNat_inj.1 (by show s[j].toNat = 48; omega)
        have HB2 : Hid ((nz (lst s))[j]? = some false) := by show _ = _; rw [HB.out, h8]; rfl
        have hb : ((s[j].toNat : Int) == 48) = true := by simp [h48]
        clear h48 h8
        go_wp2
        go_round
        case rel => exact ⟨j, by omega, rfl, (tl_take_pred (nz (lst s)) j HJ.out HB2.out).symm.trans HT.out⟩
        case measure => simp [intOf]
      · have h8 : ¬ s[j] = 48 := fun h => h48 (by rw [h]; rfl)
        have HB2 : Hid ((nz (lst s))[j]? = some true) := by show _ = _; rw [HB.out]; simp [h8]
        have hb : ((s[j].toNat : Int) == 48) = false := by simpa using h48
        clear h48 h8
        go_wp2
        go_ret
        exact ⟨ret_string (by unfold tidyC; rw [← HT.out, tl_take_stop (nz (lst s)) j HJ.out HB2.out]), rfl⟩

set_option maxHeartbeats 400000 in
theorem l1DoneC_any (x : ByteArray) (w : World) (hs : x.size ≤ 1000) :
    Calls Try.prog 56 #[.string x] w fun e w' => e = .returned (.tuple #[.string (if (cz (lst x)).length ≤ 120 then ofL (cz (lst x)) else ByteArray.empty), .bool (decide ((cz (lst x)).length ≤ 120))]) ∧ w = w' := by
  have C := hide (fun w => l1TidyC_any x w (by unfold maxLen; omega))
  have hz := tidyC_size x
  rw [← hz, ← tidyC_ofL]
  obtain ⟨t, ht⟩ : ∃ t, t = tidyC x := ⟨_, rfl⟩
  rw [← ht] at C ⊢
  clear ht hz
  by_cases h : t.size ≤ 120
  · go_enter Try.func56, Try.ntmps56
    go_wp2_with (go_at_call 69; refine (C.out _).mono ?_; rintro e w' ⟨rfl, rfl⟩)
    go_ret2
    exact ⟨by simp, rfl⟩
  · go_enter Try.func56, Try.ntmps56
    go_wp2_with (go_at_call 69; refine (C.out _).mono ?_; rintro e w' ⟨rfl, rfl⟩)
    go_ret2
    exact ⟨by simp; rfl, rfl⟩

/-- a sign of a coloured row, as an int -/
theorem sg3_int (x : UInt8) : sg3 x = true ↔ 48 ≤ (x.toNat : Int) ∧ (x.toNat : Int) ≤ 51 := by
  rw [sg3_iff]
  constructor
  · rintro (h | h | h | h) <;> (rw [h]; decide)
  · rintro ⟨h1, h2⟩
    have h : x.toNat = 48 ∨ x.toNat = 49 ∨ x.toNat = 50 ∨ x.toNat = 51 := by omega
    rcases h with h | h | h | h
    · exact .inl (UInt8.toNat_inj.1 h)
    · exact .inr (.inl (UInt8.toNat_inj.1 h))
    · exact .inr (.inr (.inl (UInt8.toNat_inj.1 h)))
    · exact .inr (.inr (.inr (UInt8.toNat_inj.1 h)))
theorem cIn_bad (s : ByteArray) (k : Nat) (h : k < s.size) (hb : ¬ (48 ≤ (s[k].toNat : Int) ∧ (s[k].toNat : Int) ≤ 51)) : cIn s = false := by
  cases hc : cIn s
  · rfl
  · have := ((cIn_iff s).1 hc).1 s[k] (List.mem_of_getElem? (lst_get s k h))
    exact absurd ((sg3_int _).1 this) hb
theorem cIn_good (s : ByteArray) (h : ∀ k (h : k < s.size), sg3 s[k] = true) : cIn s = decide (s.size ≤ 120) := by
  have : (lst s).all sg3 = true := by
    rw [List.all_eq_true]
    intro x hx
    obtain ⟨k, hk, e⟩ := List.getElem_of_mem hx
    have hk' : k < s.size := by rw [← lst_size]; exact hk
    have e2 := lst_get s k hk'
    rw [List.getElem?_eq_getElem hk] at e2
    injection e2 with e2
    rw [← e, e2]
    exact h k hk'
  unfold cIn
  rw [this]
  rfl

end Go.Proofs.Ytkdhifofdghbbaa
