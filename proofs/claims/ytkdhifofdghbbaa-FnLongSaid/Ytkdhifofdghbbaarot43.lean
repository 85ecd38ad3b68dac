/- TEXTS PCir4. -/
import Derived.Test.Ytkdhifofdghbbaarot40
import Derived.Test.Ytkdhifofdghbbaarot42
import Derived.Test.Ytkdhifofdghbbaarot22
/- THE WALK of the law FnLong. -/
namespace Go.Proofs.Ytkdhifofdghbbaa
open Go.RowKit

theorem lst_row {s : ByteArray} (h : vld s = true) : lst s = chC 49 (bits s) := by
  have h1 := ofB_bits h
  have h2 := congrArg lst h1
  unfold ofB at h2
  rw [lst_ofL] at h2
  exact h2.symm
theorem chC_zeros (k : Nat) : chC 49 (List.replicate k false) = List.replicate k 48 := by unfold chC; rw [List.map_replicate]; rfl
/-- P49 in texts -/
theorem long_S {s : ByteArray} (h : stOk s 200 = true) (h1 : 1 ≤ s.size) (h19 : s.size ≤ 19) {c : ByteArray} (hc : lst c = lst s ++ List.replicate (2 * s.size + 1) 48) :
    c.size = 3 * s.size + 1 ∧ ciIn c = true ∧ (ctS c).size = 3 * s.size + 1 ∧ vld (ctS c) = true ∧ tidyS (ctS c) = stS s 200 := by
  have hv : vld s = true := by unfold stOk at h; simp at h; exact h.1.1
  have hcz : c.size = 3 * s.size + 1 := by
    rw [← lst_size, hc, List.length_append, List.length_replicate, lst_size]; omega
  obtain ⟨L, hL⟩ : ∃ L, L = bits s ++ List.replicate (2 * s.size + 1) false := ⟨_, rfl⟩
  have hcL : c = ofB L := by
    rw [← ofL_lst c, hc, hL]
    unfold ofB
    congr 1
    rw [lst_row hv, ← chC_zeros]
    unfold chC
    rw [List.map_append]
  have hLl : L.length = 3 * s.size + 1 := by rw [hL, List.length_append, List.length_replicate, length_bits]; omega
  have hd : drf L < 0 := by
    rw [hL]
    have := drf_long (bits s)
    rw [length_bits] at this
    exact this
  have hci : ciIn c = true := by rw [hcL]; exact ciIn_ofB (by omega) hd
  have hct : ctS c = ofB (cturn L) := by unfold ctS; rw [if_pos hci, hcL, bits_ofB]
  have hlen : (cturn L).length ≤ 120 := by rw [cturn_length]; omega
  have hvt : vld (ctS c) = true := by rw [hct]; exact vld_ofB hlen
  obtain ⟨k1, k2⟩ := cturn_long (b := bits s) (by rw [length_bits]; omega) (3 * s.size + 1) (by rw [length_bits]; omega)
  rw [length_bits, show 3 * s.size + 1 - s.size = 2 * s.size + 1 by omega, ← hL] at k1
  refine ⟨hcz, hci, by rw [hct, ofB_size, cturn_length]; exact hLl, hvt, ?_⟩
  rw [← tidyS_eq _ (vld_sgn _ hvt), hct, bits_ofB, k1, k2]
  unfold stS
  rw [if_pos h]
  rfl
theorem lst_zero (x : ByteArray) : lst (x ++ ⟨#[48]⟩) = lst x ++ [48] := by unfold lst; rw [ByteArray.data_append, Array.toList_append]

set_option maxHeartbeats 2000000 in
theorem walkFnLong {w : World} (a : Option Addr) (len cap : Nat) (z : List Int) (hr : IsRow .u8 w a len cap z) :
    Calls Try.prog 9 #[.slice a len cap] w fun e w' => e = .returned (.bool true) ∧ Below w.heap.size w w' := by
  have hcap := hr.le
  have hmax := hr.max
  unfold maxLen at hmax
  by_cases hbig : 1048576 < len
  · go_enter Try.func9, Try.ntmps9
    go_wp2
    go_ret
    exact ⟨rfl, Below.refl _ _⟩
  · have D := hide (DrawStepGreat_any a len cap z w (by omega) hcap hr.bytes)
    clear hr
    go_enter Try.func9, Try.ntmps9
    go_wp2_with fail
    refine D.out.mono ?_
    rintro e w1 ⟨s, rfl, hs, hb1⟩
    have hs' : s.size ≤ maxLen := by unfold maxLen; omega
    have C1 := hide (fun w => implStepGreat_any s w hs')
    have C0 := hide (fun w => specStepGreat_any s w hs')
    have HB1 := hide hb1
    clear hb1
    obtain ⟨x, hx⟩ : ∃ x, x = stS s 200 := ⟨_, rfl⟩
    rw [← hx] at C0 C1
    have q1 : (x.toList == x.toList) = true := by simp
    have q2 : (x.toList != x.toList) = false := by simp
    cases hk : stOk s 200
    · rw [hk] at C0 C1
      clear hx hk
      go_wp2_with fail
      refine (C1.out _).mono ?_
      rintro e w2 ⟨rfl, hb2⟩
      have HB2 := hide (HB1.out.trans (hb2.mono HB1.out.size))
      clear hb2
      go_wp2_with fail
      refine (C0.out _).mono ?_
      rintro e w3 ⟨rfl, hb3⟩
      have HB3 := hide (HB2.out.trans (hb3.mono HB2.out.size))
      clear hb3
      go_wp2_with fail
      go_ret
      exact ⟨rfl, HB3.out⟩
    · rw [hk] at C0 C1
      have hv : vld s = true := by have h := hk; unfold stOk at h; simp at h; exact h.1.1
      have CV := hide (fun w => implRowValid_any s w hs')
      rw [hv] at CV
      have h120 := vld_le s hv
      have HK := hide hk
      have HXX := hide hx
      clear hk hv hx
      go_wp2_with fail
      refine (C1.out _).mono ?_
      rintro e w2 ⟨rfl, hb2⟩
      have HB2 := hide (HB1.out.trans (hb2.mono HB1.out.size))
      clear hb2
      go_wp2_with fail
      refine (C0.out _).mono ?_
      rintro e w3 ⟨rfl, hb3⟩
      have HB3 := hide (HB2.out.trans (hb3.mono HB2.out.size))
      clear hb3
      by_cases hn0 : s.size = 0
      · have t0 : ((s.size : Int) == 0) = true := by rw [hn0]; rfl
        clear hn0
        go_wp2_with (go_at_call 33; refine (CV.out _).mono ?_; rintro e w' ⟨rfl, rfl⟩)
        go_ret
        exact ⟨rfl, HB3.out⟩
      · have t0 : ((s.size : Int) == 0) = false := beq_eq_false_iff_ne.2 (by omega)
        by_cases hn19 : 19 < s.size
        · have t1 : (19 : Int) < (s.size : Int) := by omega
          go_wp2_with (go_at_call 33; refine (CV.out _).mono ?_; rintro e w' ⟨rfl, rfl⟩)
          go_ret
          exact ⟨rfl, HB3.out⟩
        · have t1 : ¬ (19 : Int) < (s.size : Int) := by omega
          obtain ⟨m, hm⟩ : ∃ m, s.size = m + 1 := ⟨s.size - 1, by omega⟩
          have hlt : m < s.size := by omega
          have w1 : IntKind.i64.wrap ((s.size : Int) - 1) = (m : Int) := by rw [IntKind.wrap_i64]; omega
          have i0 : (0 : Int) ≤ (m : Int) := by omega
          have i1 : (m : Int) < (s.size : Int) := by omega
          have HMS := hide hm
          clear hm
          by_cases h49 : (s[m].toNat : Int) = 49
          · have t2 : ((s[m].toNat : Int) != 49) = false := by rw [h49]; rfl
            have w2 : IntKind.i64.wrap (2 * (s.size : Int)) = 2 * (s.size : Int) := by rw [IntKind.wrap_i64]; omega
            have HT2 := hide t2
            clear h49
            go_wp2_with fail
            go_loop [9, 10] (fun cv iv => ∃ (c : ByteArray) (k : Nat), k ≤ 2 * s.size + 1 ∧ cv = .string c ∧ iv = .int .i64 (k : Int) ∧ c.size = s.size + k ∧ Hid (lst c = lst s ++ List.replicate k 48)) (fun _ iv => 2 * s.size + 1 - (Go.RowKit.intOf iv).toNat)
            case atStart => exact ⟨s, 0, Nat.zero_le _, rfl, rfl, rfl, by simp [Hid]⟩
            case round =>
              obtain ⟨c, k, hk, rfl, rfl, hcz, HC⟩ := hrel
              by_cases hle : k ≤ 2 * s.size
              · have d1 : (k : Int) ≤ 2 * (s.size : Int) := by omega
                have HC2 : Hid (lst (c ++ ⟨#[48]⟩) = lst s ++ List.replicate (k + 1) 48) := by
                  show _ = _
                  rw [lst_zero, HC.out, List.replicate_succ', List.append_assoc]
                go_wp2
                go_round
                case rel => exact ⟨_, k + 1, by omega, rfl, by go_num, by rw [ByteArray.size_append, hcz]; rfl, HC2⟩
                case measure => simp [Go.RowKit.intOf]; omega
              · have hkn : k = 2 * s.size + 1 := by omega
                have d1 : ¬ (k : Int) ≤ 2 * (s.size : Int) := by omega
                have hc := HC.out
                rw [hkn] at hc
                obtain ⟨l1, l2, l3, l4, l5⟩ := long_S HK.out (by omega) (by omega) hc
                have CT := hide (fun w => implCircleTurn_any c w (by rw [l1]; unfold maxLen; omega))
                rw [l2] at CT
                have CY := hide (fun w => implRowTidy_any (ctS c) w (by rw [l3]; unfold maxLen; omega))
                rw [l4, l5, if_pos rfl, ← HXX.out] at CY
                obtain ⟨t, ht⟩ : ∃ t, t = ctS c := ⟨_, rfl⟩
                rw [← ht] at CT CY l3
                have w3' : IntKind.i64.wrap (3 * (s.size : Int)) = 3 * (s.size : Int) := by rw [IntKind.wrap_i64]; omega
                have w4' : IntKind.i64.wrap (3 * (s.size : Int) + 1) = 3 * (s.size : Int) + 1 := by rw [IntKind.wrap_i64]; omega
                have t5 : ((t.size : Int) == 3 * (s.size : Int) + 1) = true := by
                  rw [l3]
                  simp
                clear hc hkn l1 l2 l3 l4 l5 ht
                go_wp2_with fail
                refine (CT.out _).mono ?_
                rintro e w4 ⟨rfl, hb4⟩
                have HB4 := hide (HB3.out.trans (hb4.mono HB3.out.size))
                clear hb4
                go_wp2_with fail
                refine (CY.out _).mono ?_
                rintro e w5 ⟨rfl, hb5⟩
                have HB5 := hide (HB4.out.trans (hb5.mono HB4.out.size))
                clear hb5
                go_wp2_with fail
                go_ret
                exact ⟨rfl, HB5.out⟩
          · have t2 : ((s[m].toNat : Int) != 49) = true := by simpa using h49
            clear h49
            go_wp2_with (go_at_call 33; refine (CV.out _).mono ?_; rintro e w' ⟨rfl, rfl⟩)
            go_ret
            exact ⟨rfl, HB3.out⟩
end Go.Proofs.Ytkdhifofdghbbaa
