/- THE WALKS of the laws FnCircle, FnCircleBack, FnTurn, FnPeriod. -/
import Derived.Test.YtkdhifofdghbbaaDrawK
import Derived.Test.YtkdhifofdghbbaaRowBalls
import Derived.Test.YtkdhifofdghbbaaSCir5
import Derived.Test.YtkdhifofdghbbaaICir0
namespace Go.Proofs.Ytkdhifofdghbbaa
open Go.RowKit

set_option maxHeartbeats 1000000 in
theorem walkFnCircle {w : World} (a : Option Addr) (len cap : Nat) (z : List Int) (hr : IsRow .u8 w a len cap z) :
    Calls Try.prog 3 #[.slice a len cap] w fun e w' => e = .returned (.bool true) ∧ Below w.heap.size w w' := by
  have hcap := hr.le
  have hmax := hr.max
  unfold maxLen at hmax
  by_cases hbig : 1048576 < len
  · go_enter Try.func3, Try.ntmps3
    go_wp2
    go_ret
    exact ⟨rfl, Below.refl _ _⟩
  · have D := hide (DrawCircleIn_any a len cap z w (by omega) hcap hr.bytes)
    clear hr
    go_enter Try.func3, Try.ntmps3
    go_wp2_with fail
    refine D.out.mono ?_
    rintro e w1 ⟨s, rfl, hs, hb1⟩
    have hs' : s.size ≤ maxLen := by unfold maxLen; omega
    have C1 := hide (fun w => implCircleIn_any s w hs')
    have C0 := hide (fun w => specCircleIn_any s w hs')
    have HB1 := hide hb1
    clear hb1
    cases hv : ciIn s
    · rw [hv] at C0 C1
      clear hv
      go_wp2_with fail
      refine (C1.out _).mono ?_
      rintro e w2 ⟨rfl, hb2⟩
      have HB2 := hide (HB1.out.trans (hb2.mono HB1.out.size))
      clear hb2
      go_wp2_with fail
      refine (C0.out _).mono ?_
      rintro e w3 ⟨rfl, rfl⟩
      go_wp2_with fail
      go_ret
      exact ⟨rfl, HB2.out⟩
    · have CR := hide (fun w => implCircleRotate_any s (s.size : Int) w hs')
      obtain ⟨r1, r2⟩ := rot_all hv
      rw [r1, r2] at CR
      have BA := hide (fun w => implRowBalls_any s w hs')
      rw [(ciIn_facts hv).1] at BA
      simp only [if_true] at BA
      have hf := ci_few hv
      obtain ⟨n, hn⟩ : ∃ n, n = nballs (bits s) := ⟨_, rfl⟩
      rw [← hn] at BA hf
      rw [hv] at C0 C1
      have h60 := (ciIn_facts hv).2.2.2.1
      have w1 : IntKind.i64.wrap (2 * (n : Int)) = 2 * (n : Int) := by rw [IntKind.wrap_i64]; omega
      have d1 : 2 * (n : Int) < (s.size : Int) := by omega
      have hq : (s.toList == s.toList) = true := by simp
      clear hv r1 r2 hn hf
      go_wp2_with fail
      refine (C1.out _).mono ?_
      rintro e w2 ⟨rfl, hb2⟩
      have HB2 := hide (HB1.out.trans (hb2.mono HB1.out.size))
      clear hb2
      go_wp2_with fail
      refine (C0.out _).mono ?_
      rintro e w3 ⟨rfl, rfl⟩
      go_wp2_with fail
      refine (CR.out _).mono ?_
      rintro e w3 ⟨rfl, hb3⟩
      have HB3 := hide (HB2.out.trans (hb3.mono HB2.out.size))
      clear hb3
      go_wp2_with fail
      refine (BA.out _).mono ?_
      rintro e w4 ⟨rfl, hb4⟩
      have HB4 := hide (HB3.out.trans (hb4.mono HB3.out.size))
      clear hb4
      go_wp2_with fail
      go_ret
      exact ⟨rfl, HB4.out⟩

set_option maxHeartbeats 1000000 in
theorem walkFnCircleBack {w : World} (a : Option Addr) (len cap : Nat) (z : List Int) (hr : IsRow .u8 w a len cap z) :
    Calls Try.prog 5 #[.slice a len cap] w fun e w' => e = .returned (.bool true) ∧ Below w.heap.size w w' := by
  have hcap := hr.le
  have hmax := hr.max
  unfold maxLen at hmax
  by_cases hbig : 1048576 < len
  · go_enter Try.func5, Try.ntmps5
    go_wp2
    go_ret
    exact ⟨rfl, Below.refl _ _⟩
  · have D := hide (DrawCircleBack_any a len cap z w (by omega) hcap hr.bytes)
    clear hr
    go_enter Try.func5, Try.ntmps5
    go_wp2_with fail
    refine D.out.mono ?_
    rintro e w1 ⟨s, rfl, hs, hb1⟩
    have hs' : s.size ≤ maxLen := by unfold maxLen; omega
    have C1 := hide (fun w => implCircleBack_any s w hs')
    have C0 := hide (fun w => specCircleBack_any s w hs')
    have HB1 := hide hb1
    clear hb1
    obtain ⟨t, ht⟩ : ∃ t, t = cbS s := ⟨_, rfl⟩
    rw [← ht] at C0 C1
    have hq : (t.toList == t.toList) = true := by simp
    have hq2 : (t.toList != t.toList) = false := by simp
    cases hv : ciIn s
    · rw [hv] at C0 C1
      clear hv ht
      go_wp2_with fail
      refine (C1.out _).mono ?_
      rintro e w2 ⟨rfl, hb2⟩
      have HB2 := hide (HB1.out.trans (hb2.mono HB1.out.size))
      clear hb2
      go_wp2_with fail
      refine (C0.out _).mono ?_
      rintro e w3 ⟨rfl, hb3⟩
      have HB3 := hide (HB2.out.trans (hb3.mono HB2.out.size))
      clear hb3
      go_wp2_with fail
      go_ret
      exact ⟨rfl, HB3.out⟩
    · obtain ⟨_, f2, f3⟩ := cbS_facts hv
      have h60 := (ciIn_facts hv).2.2.2.1
      have CT := hide (fun w => implCircleTurn_any (cbS s) w (by rw [f3]; unfold maxLen; omega))
      rw [back_turn_S hv, f2, ← ht] at CT
      have hqs : (s.toList == s.toList) = true := by simp
      rw [hv] at C0 C1
      clear hv f2 f3 ht
      go_wp2_with fail
      refine (C1.out _).mono ?_
      rintro e w2 ⟨rfl, hb2⟩
      have HB2 := hide (HB1.out.trans (hb2.mono HB1.out.size))
      clear hb2
      go_wp2_with fail
      refine (C0.out _).mono ?_
      rintro e w3 ⟨rfl, hb3⟩
      have HB3 := hide (HB2.out.trans (hb3.mono HB2.out.size))
      clear hb3
      go_wp2_with fail
      refine (CT.out _).mono ?_
      rintro e w4 ⟨rfl, hb4⟩
      have HB4 := hide (HB3.out.trans (hb4.mono HB3.out.size))
      clear hb4
      go_wp2_with fail
      go_ret
      exact ⟨rfl, HB4.out⟩
end Go.Proofs.Ytkdhifofdghbbaa
