/- THE WALKS of the laws FnTurn, FnPeriod. -/
import Derived.Test.YtkdhifofdghbbaaPCir
namespace Go.Proofs.Ytkdhifofdghbbaa
open Go.RowKit

theorem cpN_turn {s : ByteArray} (h : ciIn s = true) : cpN (ctS s) = cpN s := by
  obtain ⟨f1, f2, _⟩ := ctS_facts h
  unfold cpN
  rw [h, f2, f1, perB_turn (ciIn_facts h).2.2.2.2]
theorem cpN_one {s : ByteArray} (h : ciIn s = true) : (cpN s = 1 ↔ nballs (bits s) = 0) ∧ 0 ≤ cpN s := by
  unfold cpN
  rw [if_pos h]
  refine ⟨?_, Int.natCast_nonneg _⟩
  have h1 : perB (bits s) 5000 1 = 1 ↔ nballs (bits s) = 0 := perB_one (bits s) 4999
  rw [← h1]
  exact ⟨fun e => Int.ofNat.inj e, fun e => by rw [e]; rfl⟩
theorem balls_at {s : ByteArray} (h : vld s = true) (hs : s.size ≤ maxLen) (w : World) : Calls Try.prog 14 #[.string s] w fun e w' => e = .returned (.int .i64 (nballs (bits s) : Int)) ∧ Below w.heap.size w w' := by
  have := implRowBalls_any s w hs
  rw [h] at this
  simpa using this

set_option maxHeartbeats 1000000 in
theorem walkFnPeriod {w : World} (a : Option Addr) (len cap : Nat) (z : List Int) (hr : IsRow .u8 w a len cap z) :
    Calls Try.prog 8 #[.slice a len cap] w fun e w' => e = .returned (.bool true) ∧ Below w.heap.size w w' := by
  have hcap := hr.le
  have hmax := hr.max
  unfold maxLen at hmax
  by_cases hbig : 1048576 < len
  · go_enter Try.func8, Try.ntmps8
    go_wp2
    go_ret
    exact ⟨rfl, Below.refl _ _⟩
  · have D := hide (DrawCirclePeriod_any a len cap z w (by omega) hcap hr.bytes)
    clear hr
    go_enter Try.func8, Try.ntmps8
    go_wp2_with fail
    refine D.out.mono ?_
    rintro e w1 ⟨s, rfl, hs, hb1⟩
    have hs' : s.size ≤ maxLen := by unfold maxLen; omega
    have C1 := hide (fun w => implCirclePeriod_any s w hs')
    have C0 := hide (fun w => specCirclePeriod_any s w hs')
    have HB1 := hide hb1
    clear hb1
    obtain ⟨n, hn⟩ : ∃ n, n = cpN s := ⟨_, rfl⟩
    rw [← hn] at C0 C1
    have q1 : (n == n) = true := by simp
    have q2 : (n != n) = false := by simp
    cases hv : ciIn s
    · rw [hv] at C0 C1
      clear hv hn
      go_wp2_with fail
      refine (C1.out _).mono ?_
      rintro e w2 ⟨rfl, hb2⟩
      have HB2 := hide (HB1.out.trans (hb2.mono HB1.out.size))
      clear hb2
      go_wp2_with fail
      refine (C0.out _).mono ?_
      rintro e w3 ⟨rfl, hb3⟩
      have HB3 := hide (HB2.out.trans (hb3.mono HB2.out.size))
      clear hb3
      go_wp2_with fail
      go_ret
      exact ⟨rfl, HB3.out⟩
    · obtain ⟨f1, f2, f3, _⟩ := ctS_facts hv
      have h60 := (ciIn_facts hv).2.2.2.1
      have CT := hide (fun w => implCircleTurn_any s w hs')
      have CP := hide (fun w => implCirclePeriod_any (ctS s) w (by rw [f3]; unfold maxLen; omega))
      rw [cpN_turn hv, f2, ← hn] at CP
      have BA := hide (fun w => balls_at (ciIn_facts hv).1 hs' w)
      obtain ⟨k1, k2⟩ := cpN_one hv
      rw [← hn] at k1 k2
      obtain ⟨m, hm⟩ : ∃ m, m = nballs (bits s) := ⟨_, rfl⟩
      rw [← hm] at BA k1
      obtain ⟨t, ht⟩ : ∃ t, t = ctS s := ⟨_, rfl⟩
      rw [← ht] at CT CP
      have q3 : ((n == 1) == ((m : Int) == 0)) = true := by
        by_cases h : n = 1
        · have h0 := k1.1 h
          rw [h, h0]; rfl
        · have h0 : m ≠ 0 := fun e => h (k1.2 e)
          have e1 : (n == 1) = false := beq_eq_false_iff_ne.2 h
          have e2 : ((m : Int) == 0) = false := beq_eq_false_iff_ne.2 (by omega)
          rw [e1, e2]; rfl
      rw [hv] at C0 C1 CT
      clear hv f1 f2 f3 ht hn hm k1
      go_wp2_with fail
      refine (C1.out _).mono ?_
      rintro e w2 ⟨rfl, hb2⟩
      have HB2 := hide (HB1.out.trans (hb2.mono HB1.out.size))
      clear hb2
      go_wp2_with fail
      refine (C0.out _).mono ?_
      rintro e w3 ⟨rfl, hb3⟩
      have HB3 := hide (HB2.out.trans (hb3.mono HB2.out.size))
      clear hb3
      go_wp2_with fail
      refine (CT.out _).mono ?_
      rintro e w4 ⟨rfl, hb4⟩
      have HB4 := hide (HB3.out.trans (hb4.mono HB3.out.size))
      clear hb4
      go_wp2_with fail
      refine (CP.out _).mono ?_
      rintro e w5 ⟨rfl, hb5⟩
      have HB5 := hide (HB4.out.trans (hb5.mono HB4.out.size))
      clear hb5
      go_wp2_with fail
      refine (BA.out _).mono ?_
      rintro e w6 ⟨rfl, hb6⟩
      have HB6 := hide (HB5.out.trans (hb6.mono HB5.out.size))
      clear hb6
      go_wp2_with fail
      go_ret
      exact ⟨rfl, HB6.out⟩

set_option maxHeartbeats 1000000 in
theorem walkFnTurn {w : World} (a : Option Addr) (len cap : Nat) (z : List Int) (hr : IsRow .u8 w a len cap z) :
    Calls Try.prog 4 #[.slice a len cap] w fun e w' => e = .returned (.bool true) ∧ Below w.heap.size w w' := by
  have hcap := hr.le
  have hmax := hr.max
  unfold maxLen at hmax
  by_cases hbig : 1048576 < len
  · go_enter Try.func4, Try.ntmps4
    go_wp2
    go_ret
    exact ⟨rfl, Below.refl _ _⟩
  · have D := hide (DrawCircleTurn_any a len cap z w (by omega) hcap hr.bytes)
    clear hr
    go_enter Try.func4, Try.ntmps4
    go_wp2_with fail
    refine D.out.mono ?_
    rintro e w1 ⟨s, rfl, hs, hb1⟩
    have hs' : s.size ≤ maxLen := by unfold maxLen; omega
    have C1 := hide (fun w => implCircleTurn_any s w hs')
    have C0 := hide (fun w => specCircleTurn_any s w hs')
    have HB1 := hide hb1
    clear hb1
    obtain ⟨t, ht⟩ : ∃ t, t = ctS s := ⟨_, rfl⟩
    rw [← ht] at C0 C1
    have q1 : (t.toList == t.toList) = true := by simp
    have q2 : (t.toList != t.toList) = false := by simp
    cases hv : ciIn s
    · rw [hv] at C0 C1
      clear hv ht
      go_wp2_with fail
      refine (C1.out _).mono ?_
      rintro e w2 ⟨rfl, hb2⟩
      have HB2 := hide (HB1.out.trans (hb2.mono HB1.out.size))
      clear hb2
      go_wp2_with fail
      refine (C0.out _).mono ?_
      rintro e w3 ⟨rfl, hb3⟩
      have HB3 := hide (HB2.out.trans (hb3.mono HB2.out.size))
      clear hb3
      go_wp2_with fail
      go_ret
      exact ⟨rfl, HB3.out⟩
    · obtain ⟨f1, f2, f3, f4⟩ := ctS_facts hv
      have h60 := (ciIn_facts hv).2.2.2.1
      have CK := hide (fun w => implCircleBack_any (ctS s) w (by rw [f3]; unfold maxLen; omega))
      rw [turn_back_S hv, f2, ← ht] at CK
      have BA := hide (fun w => balls_at (ciIn_facts hv).1 hs' w)
      have BT := hide (fun w => balls_at (ciIn_facts f2).1 (by rw [f3]; unfold maxLen; omega) w)
      rw [f4, ← ht] at BT
      obtain ⟨m, hm⟩ : ∃ m, m = nballs (bits s) := ⟨_, rfl⟩
      rw [← hm] at BA BT
      have hts : t.size = s.size := by rw [ht]; exact f3
      have HAP : Hid (∀ (k : Nat) (h : k < s.size) (h' : k < t.size), ¬ ((s[k].toNat : Int) = 49 ∧ (t[k].toNat : Int) = 49)) := by
        intro k h h' hh
        have h1 : (bits s)[k]? = some true := by rw [bits_getElem s k h, bit_int, hh.1]; rfl
        have h2 := turn_apart hv h1
        rw [← ht, bits_getElem t k h', bit_int, hh.2] at h2
        cases h2
      have q3 : (s.toList == s.toList) = true := by simp
      have q4 : ((m : Int) == (m : Int)) = true := by simp
      rw [hv] at C0 C1
      have HTS := hide hts
      clear hv f1 f2 f3 f4 ht hm hts
      go_wp2_with fail
      refine (C1.out _).mono ?_
      rintro e w2 ⟨rfl, hb2⟩
      have HB2 := hide (HB1.out.trans (hb2.mono HB1.out.size))
      clear hb2
      go_wp2_with fail
      refine (C0.out _).mono ?_
      rintro e w3 ⟨rfl, hb3⟩
      have HB3 := hide (HB2.out.trans (hb3.mono HB2.out.size))
      clear hb3
      go_wp2_with fail
      refine (CK.out _).mono ?_
      rintro e w4 ⟨rfl, hb4⟩
      have HB4 := hide (HB3.out.trans (hb4.mono HB3.out.size))
      clear hb4
      go_wp2_with fail
      go_loop [10] (fun iv => ∃ k : Nat, k ≤ s.size ∧ iv = .int .i64 (k : Int)) (fun iv => s.size - (intOf iv).toNat)
      case atStart => exact ⟨0, Nat.zero_le _, rfl⟩
      case round =>
        obtain ⟨k, hk, rfl⟩ := hrel
        by_cases hlt : k < s.size
        · have hts : (t.size : Int) = (s.size : Int) := by rw [HTS.out]
          have j0 : ((t.size : Int) != (s.size : Int)) = false := by rw [hts]; simp
          have hkt : k < t.size := by rw [HTS.out]; exact hlt
          have hap := HAP.out k hlt hkt
          clear hts
          by_cases h49 : (s[k].toNat : Int) = 49
          · have t1 : ((s[k].toNat : Int) == 49) = true := by rw [h49]; rfl
            have t2 : ((t[k].toNat : Int) == 49) = false := beq_eq_false_iff_ne.2 (fun e => hap ⟨h49, e⟩)
            clear h49 hap
            go_wp2
            go_round
            case rel => exact ⟨k + 1, by omega, by go_num⟩
            case measure => simp [intOf]; omega
          · have t1 : ((s[k].toNat : Int) == 49) = false := beq_eq_false_iff_ne.2 h49
            clear h49 hap
            go_wp2
            go_round
            case rel => exact ⟨k + 1, by omega, by go_num⟩
            case measure => simp [intOf]; omega
        · go_wp2_with fail
          refine (BT.out _).mono ?_
          rintro e w5 ⟨rfl, hb5⟩
          have HB5 := hide (HB4.out.trans (hb5.mono HB4.out.size))
          clear hb5
          go_wp2_with fail
          refine (BA.out _).mono ?_
          rintro e w6 ⟨rfl, hb6⟩
          have HB6 := hide (HB5.out.trans (hb6.mono HB5.out.size))
          clear hb6
          go_wp2_with fail
          go_ret
          exact ⟨rfl, HB6.out⟩
end Go.Proofs.Ytkdhifofdghbbaa
