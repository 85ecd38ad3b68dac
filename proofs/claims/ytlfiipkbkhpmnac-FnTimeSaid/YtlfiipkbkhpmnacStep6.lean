/- THE WALKS of StepMany, of the model and of the program. -/
import Derived.Test.YtlfiipkbkhpmnacStep3
import Derived.Test.YtlfiipkbkhpmnacPTidy
namespace Go.Proofs.Ytlfiipkbkhpmnac
open Go.RowKit

/-- the text behind k steps, and whether each of them was told -/
def smT (room : Int) (t : ByteArray) : Nat → ByteArray × Bool
  | 0 => (t, true)
  | k + 1 => if (smT room t k).2 then (stS (smT room t k).1 room, stOk (smT room t k).1 room) else (ByteArray.empty, false)
/-- what StepMany answers -/
def smIn (s : ByteArray) (room n : Int) : Bool := tkOk s room && (decide (0 ≤ n) && decide (n ≤ 100))
def smR (s : ByteArray) (room n : Int) : ByteArray × Bool := if smIn s room n then smT room (tidyS s) n.toNat else (ByteArray.empty, false)

theorem smT_no {room : Int} {t : ByteArray} {k : Nat} (h : (smT room t k).2 = false) (j : Nat) (hj : k < j) : smT room t j = (ByteArray.empty, false) := by
  have h1 : ∀ d, smT room t (k + 1 + d) = (ByteArray.empty, false) := by
    intro d
    induction d with
    | zero => show smT room t (k + 1) = _; unfold smT; rw [h]; rfl
    | succ d ih => show smT room t (k + 1 + d + 1) = _; rw [smT, ih]; rfl
  rw [show j = k + 1 + (j - (k + 1)) by omega]; exact h1 _
theorem stS_no {s : ByteArray} {room : Int} (h : stOk s room = false) : stS s room = ByteArray.empty := by unfold stS; rw [h]; rfl
theorem smT_empty {room : Int} {t : ByteArray} {k : Nat} (h : (smT room t k).2 = false) : smT room t k = (ByteArray.empty, false) := by
  cases k with
  | zero => cases h
  | succ k =>
    cases hk : (smT room t k).2 with
    | false => exact smT_no hk _ (Nat.lt_succ_self _)
    | true =>
      rw [smT, if_pos hk] at h ⊢
      have h2 : stOk (smT room t k).1 room = false := h
      rw [h2, stS_no h2]
theorem stS_size (s : ByteArray) (room : Int) : (stS s room).size ≤ 120 := by
  unfold stS
  cases h : stOk s room
  · exact Nat.zero_le _
  · unfold stOk at h
    simp at h
    rw [if_pos rfl]
    show (ofBits _).data.size ≤ 120
    unfold ofBits
    simp [chars_length, cut_length]
    exact h.2
theorem smT_size {room : Int} {t : ByteArray} (ht : t.size ≤ 120) (k : Nat) : (smT room t k).1.size ≤ 120 := by
  cases k with
  | zero => exact ht
  | succ k =>
    rw [smT]
    split
    · exact stS_size _ _
    · exact Nat.zero_le _

set_option maxHeartbeats 1000000 in
theorem implStepMany_any (s : ByteArray) (room n : Int) (w : World) (hs : s.size ≤ maxLen) :
    Calls Try.prog 19 #[.string s, .int .i64 room, .int .i64 n] w fun e w' => e = .returned (.tuple #[.string (smR s room n).1, .bool (smR s room n).2]) ∧ Below w.heap.size w w' := by
  cases hk : tkOk s room
  · have e1 : smR s room n = (ByteArray.empty, false) := by unfold smR smIn; rw [hk]; rfl
    rw [e1]
    clear e1
    go_enter Try.func19, Try.ntmps19
    go_wp2_with (go_at_call 33; refine (readStep_no _ _ _ hs hk).mono ?_; rintro e w' ⟨rfl, rfl⟩)
    go_ret2
    exact ⟨rfl, Below.refl _ _⟩
  · have hk2 := hk
    unfold tkOk at hk
    simp at hk
    obtain ⟨hv, hr⟩ := hk
    have h120 := vld_le s hv
    have hle := tl_le (bits s)
    rw [length_bits] at hle
    obtain ⟨K, rfl, hK1, hK2, hK3⟩ := room_nat hr
    have C0 := hide (fun w => readStep_yes s K w hv ⟨hK1, hK2⟩)
    by_cases hn : 0 ≤ n ∧ n ≤ 100
    · have e1 : smR s (K : Int) n = smT (K : Int) (tidyS s) n.toNat := by unfold smR smIn; rw [hk2, decide_eq_true hn.1, decide_eq_true hn.2]; rfl
      rw [e1]
      obtain ⟨m, rfl⟩ : ∃ m : Nat, n = (m : Int) := ⟨n.toNat, by omega⟩
      rw [Int.toNat_natCast]
      obtain ⟨hn0, hn1⟩ := hn
      have HCL := hide (cut_length (bits s))
      have HE := hide (show ofBits (cut (cut (bits s))) = tidyS s by rw [cut_cut]; exact tidyS_eq s (vld_sgn s hv))
      have ht : (tidyS s).size ≤ 120 := Nat.le_trans (by rw [tidyS_size]; exact hle) h120
      obtain ⟨t, ht0⟩ : ∃ t, t = tidyS s := ⟨_, rfl⟩
      rw [← ht0] at HE ht ⊢
      obtain ⟨q, hq⟩ : ∃ q, q = tl (bits s) := ⟨_, rfl⟩
      rw [← hq] at hle HCL C0
      have HT := hide ht
      clear ht0 e1 hr hK3 hk2 hq ht
      go_enter Try.func19, Try.ntmps19
      go_wp2_with fail
      refine (C0.out _).mono ?_
      rintro e w1 ⟨rfl, hb1, hc1, hz1⟩
      go_wp2_with fail
      refine (text_any _ q s.size (cut (bits s)) w1 HCL.out hc1 hle hs (by omega)).mono ?_
      rintro e w2 ⟨rfl, hb2⟩
      rw [HE.out]
      have HB := hide (hb1.trans (hb2.mono hb1.size))
      clear hb1 hb2 hc1 hz1
      go_wp2
      go_loopw [9, 10, 11] (fun b o i wr => ∃ (x : ByteArray) (c : Bool) (k : Nat), k ≤ m ∧ i = .int .i64 (k : Int) ∧ o = .string x ∧ b = .bool c ∧ Hid (smT (K : Int) t k = (x, c)) ∧ Hid (Below w.heap.size w wr)) (fun _ _ i _ => m - (intOf i).toNat)
      case atStart => exact ⟨t, true, 0, Nat.zero_le _, rfl, rfl, rfl, rfl, HB⟩
      case round =>
        obtain ⟨x, c, k, hk, rfl, rfl, rfl, HX, HBW⟩ := hrel
        by_cases hlt : k < m
        · cases c
          · have HZ := hide (smT_no (show (smT (K : Int) t k).2 = false by rw [HX.out]) m hlt)
            have HY := hide (smT_empty (show (smT (K : Int) t k).2 = false by rw [HX.out]))
            have hxe : x = ByteArray.empty := by have := HX.out.symm.trans HY.out; simpa using this
            subst hxe
            go_wp2
            go_ret2
            exact ⟨by rw [HZ.out]; rfl, HBW.out⟩
          · have hx : x.size ≤ maxLen := by have := smT_size (room := (K : Int)) HT.out k; rw [HX.out] at this; unfold maxLen; simp at this; omega
            have HN : Hid (smT (K : Int) t (k + 1) = (stS x (K : Int), stOk x (K : Int))) := by show smT (K : Int) t (k + 1) = _; rw [smT, HX.out]; rfl
            have C2 := hide (fun w => implStepOf_any x (K : Int) w hx)
            go_wp2_with fail
            refine (C2.out _).mono ?_
            rintro e w3 ⟨rfl, hb3⟩
            have hb := HBW.out.trans (hb3.mono HBW.out.size)
            go_wp2
            go_roundw
            case rel => exact ⟨_, _, k + 1, by omega, by go_num, rfl, rfl, HN, hb⟩
            case measure => simp [intOf]; omega
        · obtain rfl : k = m := by omega
          cases c
          all_goals
            go_wp2
            go_ret2
            exact ⟨by rw [HX.out]; rfl, HBW.out⟩
    · have e1 : smR s (K : Int) n = (ByteArray.empty, false) := by
        have : (decide (0 ≤ n) && decide (n ≤ 100)) = false := by simp; omega
        unfold smR smIn; rw [this]; simp
      rw [e1]
      clear e1 hr hK3 hk2
      by_cases h0 : n < 0
      · go_enter Try.func19, Try.ntmps19
        go_wp2_with fail
        refine (C0.out _).mono ?_
        rintro e w1 ⟨rfl, hb1, hc1, hz1⟩
        go_wp2
        go_ret2
        exact ⟨rfl, hb1⟩
      · have h1 : 100 < n := by omega
        go_enter Try.func19, Try.ntmps19
        go_wp2_with fail
        refine (C0.out _).mono ?_
        rintro e w1 ⟨rfl, hb1, hc1, hz1⟩
        go_wp2
        go_ret2
        exact ⟨rfl, hb1⟩
end Go.Proofs.Ytlfiipkbkhpmnac
