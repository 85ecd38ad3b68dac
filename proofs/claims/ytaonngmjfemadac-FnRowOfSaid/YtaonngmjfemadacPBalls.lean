/- THE WALK of the law FnBalls: balls are counted boxes. -/
import Derived.Test.YtaonngmjfemadacPTidy
import Derived.Test.YtaonngmjfemadacRowAt
import Derived.Test.YtaonngmjfemadacRowShift
import Derived.Test.YtaonngmjfemadacRowOf2
namespace Go.Proofs.Ytaonngmjfemadac
open Go.RowKit

theorem bits_ofBits (l : List Bool) : bits (ofBits l) = l := bits_chars l (ofBits l) (by simp [ofBits])
theorem vld_ofBits (l : List Bool) (h : l.length ≤ 120) : vld (ofBits l) = true := by
  unfold vld
  have e : (ofBits l).data.toList = chars l := by simp [ofBits]
  have hz : (ofBits l).size = l.length := by
    have := congrArg List.length e; rw [chars_length] at this; exact this
  rw [e, chars_sgn, hz]; simpa using h
theorem nballs_shB (n : Nat) (l : List Bool) : nballs (shB n l) = nballs l := by
  have : nballs (shB n l) = nballs (cut l) := by unfold shB nballs; rw [List.count_append, List.count_replicate]; simp
  rw [this, nballs_cut]
/-- what a shifted row is -/
theorem shS_facts (s : ByteArray) (n : Int) (h : shOk s n = true) : vld (shS s n) = true ∧ bits (shS s n) = if tl (bits s) = 0 then [] else shB n.toNat (bits s) := by
  by_cases h0 : tl (bits s) = 0
  · have e : shS s n = ByteArray.empty := by unfold shS; simp [h0]
    rw [e, if_pos h0]; exact ⟨rfl, rfl⟩
  · have e : shS s n = ofBits (shB n.toNat (bits s)) := by unfold shS; simp [h0, h]
    rw [e, if_neg h0, bits_ofBits]
    refine ⟨vld_ofBits _ ?_, rfl⟩
    rw [shB_length]
    unfold shOk at h
    simp [h0] at h
    omega
theorem nballs_shS (s : ByteArray) (n : Int) (h : shOk s n = true) : nballs (bits (shS s n)) = nballs (bits s) := by
  rw [(shS_facts s n h).2]
  by_cases h0 : tl (bits s) = 0
  · rw [if_pos h0, ← nballs_cut (bits s)]
    have : cut (bits s) = [] := by unfold cut; rw [h0]; rfl
    rw [this]
  · rw [if_neg h0, nballs_shB]
theorem shS_le (s : ByteArray) (n : Int) : (shS s n).size ≤ 120 := by
  cases h : shOk s n
  · have : shS s n = ByteArray.empty := by unfold shS; simp [h]
    rw [this]; exact Nat.zero_le _
  · exact vld_le _ (shS_facts s n h).1
theorem atR_length (s : ByteArray) (h : vld s = true) : (atR s).length = nballs (bits s) := by
  unfold atR; rw [h, if_pos rfl]; unfold posI; rw [List.length_map, count_boxes]

set_option maxHeartbeats 1000000 in
theorem walkFnBalls {w : World} (a : Option Addr) (len cap : Nat) (z : List Int) (hr : IsRow .u8 w a len cap z) :
    Calls Try.prog 4 #[.slice a len cap] w fun e w' => e = .returned (.bool true) ∧ Below w.heap.size w w' := by
  have hcap := hr.le
  have hmax := hr.max
  unfold maxLen at hmax
  by_cases hbig : 1048576 < len
  · go_enter Try.func4, Try.ntmps4
    go_wp2
    go_ret
    exact ⟨rfl, Below.refl _ _⟩
  · have D := hide (DrawRowBalls_any a len cap z w (by omega) hcap hr.bytes)
    clear hr
    go_enter Try.func4, Try.ntmps4
    go_wp2_with fail
    refine D.out.mono ?_
    rintro e w1 ⟨s, rfl, hs, hb1⟩
    have hs' : s.size ≤ maxLen := by unfold maxLen; omega
    have C1 := hide (fun w => implRowBalls_any s w hs')
    have C0 := hide (fun w => specRowBalls_any s w hs')
    cases hv : vld s
    · rw [hv] at C0 C1
      simp only [Bool.false_eq_true, if_false] at C0 C1
      clear hv
      go_wp2_with (first | (go_at_call 15; refine (C1.out _).mono ?_; rintro e w2 ⟨rfl, hb2⟩) | (go_at_call 17; refine (C0.out _).mono ?_; rintro e w' ⟨rfl, rfl⟩))
      go_ret
      exact ⟨rfl, hb1.trans (hb2.mono hb1.size)⟩
    · have A := hide (fun w => implRowAt_any s w hs')
      have H := hide (fun w => implRowShift_any s 1 w hs' (by decide))
      have hal := atR_length s hv
      have hnb := nballs_le (bits s) s.size
      rw [← length_bits s, List.take_of_length_le (Nat.le_refl _)] at hnb
      have h120 := vld_le s hv
      rw [length_bits] at hnb
      have HT := hide (shS_le s 1)
      have HB2 : Hid (shOk s 1 = true → ∀ w, Calls Try.prog 15 #[.string (shS s 1)] w fun e w' => e = .returned (.int .i64 (nballs (bits s) : Int)) ∧ Below w.heap.size w w') := by
        intro hk w
        have c := implRowBalls_any (shS s 1) w (by have := HT.out; unfold maxLen; omega)
        rw [(shS_facts s 1 hk).1, nballs_shS s 1 hk] at c
        exact c
      rw [hv] at C0 C1 A
      simp only [if_true] at C0 C1
      obtain ⟨l, hl⟩ : ∃ l, l = atR s := ⟨_, rfl⟩
      obtain ⟨m, hm⟩ : ∃ m, m = nballs (bits s) := ⟨_, rfl⟩
      obtain ⟨t, ht⟩ : ∃ t, t = shS s 1 := ⟨_, rfl⟩
      obtain ⟨q, hq⟩ : ∃ q, q = shOk s 1 := ⟨_, rfl⟩
      rw [← hl] at A hal
      rw [← hm] at C0 C1 HB2 hal hnb
      rw [← ht] at H HB2
      rw [← hq] at H HB2
      clear hl hm ht hq HT hv
      have hm0 : (0 : Int) ≤ (m : Int) := by omega
      have HAL := hide hal
      clear hal
      go_wp2_with (first | (go_at_call 15; refine (C1.out _).mono ?_; rintro e w2 ⟨rfl, hb2⟩) | (go_at_call 17; refine (C0.out _).mono ?_; rintro e w' ⟨rfl, rfl⟩))
      have b2 := hb1.trans (hb2.mono hb1.size)
      refine (A.out _).mono ?_
      rintro e w3 ⟨v3, rfl, hi3, hb3⟩
      have b3 := b2.trans (hb3.mono b2.size)
      obtain ⟨a3, c3, rfl⟩ : ∃ a3 c3, v3 = .slice a3 m c3 := by
        rcases hi3 with ⟨a, c, rfl, h0⟩ | ⟨g, c, rfl, _⟩
        · exact ⟨a, c, by have := HAL.out; rw [h0] at this; simp at this; rw [← this]⟩
        · exact ⟨_, _, by rw [HAL.out]⟩
      clear hi3
      go_wp2_with fail
      refine (H.out _).mono ?_
      rintro e w4 ⟨rfl, hb4⟩
      have b4 := b3.trans (hb4.mono b3.size)
      cases q
      · go_wp2_with fail
        go_ret
        exact ⟨rfl, b4⟩
      · have HB3 := hide (HB2.out rfl)
        clear HB2
        go_wp2_with fail
        refine (HB3.out _).mono ?_
        rintro e w5 ⟨rfl, hb5⟩
        go_wp2_with fail
        go_ret
        exact ⟨rfl, b4.trans (hb5.mono b4.size)⟩
end Go.Proofs.Ytaonngmjfemadac
