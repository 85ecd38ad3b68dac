/- THE WALK of the law FnRow: tidy rows have the same balls. -/
import Derived.Test.YtaonngmjfemadacPTidy
import Derived.Test.YtaonngmjfemadacRowAt
namespace Go.Proofs.Ytaonngmjfemadac
open Go.RowKit

set_option maxHeartbeats 1000000 in
theorem walkFnRow {w : World} (a : Option Addr) (len cap : Nat) (z : List Int) (hr : IsRow .u8 w a len cap z) :
    Calls Try.prog 3 #[.slice a len cap] w fun e w' => e = .returned (.bool true) ∧ Below w.heap.size w w' := by
  have hcap := hr.le
  have hmax := hr.max
  unfold maxLen at hmax
  by_cases hbig : 1048576 < len
  · go_enter Try.func3, Try.ntmps3
    go_wp2
    go_ret
    exact ⟨rfl, Below.refl _ _⟩
  · have D := hide (DrawRowValid_any a len cap z w (by omega) hcap hr.bytes)
    clear hr
    go_enter Try.func3, Try.ntmps3
    go_wp2_with fail
    refine D.out.mono ?_
    rintro e w1 ⟨s, rfl, hs, hb1⟩
    have hs' : s.size ≤ maxLen := by unfold maxLen; omega
    have C1 := hide (fun w => implRowValid_any s w hs')
    have C0 := hide (fun w => specRowValid_any s w hs')
    cases hv : vld s
    · rw [hv] at C0 C1
      clear hv
      go_wp2_with (first | (go_at_call 10; refine (C1.out _).mono ?_; rintro e w' ⟨rfl, rfl⟩) | (go_at_call 11; refine (C0.out _).mono ?_; rintro e w' ⟨rfl, rfl⟩))
      go_ret
      exact ⟨rfl, hb1⟩
    · rw [hv] at C0 C1
      have hv2 := vld_tidyS s hv
      have hle := tidyS_le s
      have T := hide (fun w => implRowTidy_any s w hs')
      have A := hide (fun w => implRowAt_any s w hs')
      have A2 := hide (fun w => implRowAt_any (tidyS s) w (Nat.le_trans hle hs'))
      have B := hide (fun w => implRowBalls_any s w hs')
      have B2 := hide (fun w => implRowBalls_any (tidyS s) w (Nat.le_trans hle hs'))
      have eA : atR (tidyS s) = atR s := by unfold atR posI; rw [hv, hv2, bits_tidyS, pos_cut]
      have hal := atR_len s
      rw [hv] at T A B
      rw [hv2, eA] at A2
      rw [hv2, bits_tidyS, nballs_cut] at B2
      simp only [if_true] at T B B2
      obtain ⟨t, ht⟩ : ∃ t, t = tidyS s := ⟨_, rfl⟩
      obtain ⟨l, hl⟩ : ∃ l, l = atR s := ⟨_, rfl⟩
      obtain ⟨m, hm⟩ : ∃ m, m = nballs (bits s) := ⟨_, rfl⟩
      rw [← ht] at T A2 B2
      rw [← hl] at A A2 hal
      rw [← hm] at B B2
      clear ht hl hm eA hv2 hle hv
      have HM := hide (show l.length ≤ maxLen by unfold maxLen; omega)
      clear hal
      go_wp2_with (first | (go_at_call 10; refine (C1.out _).mono ?_; rintro e w' ⟨rfl, rfl⟩) | (go_at_call 11; refine (C0.out _).mono ?_; rintro e w' ⟨rfl, rfl⟩) | (go_at_call 12; refine (T.out _).mono ?_; rintro e w2 ⟨rfl, hb2⟩))
      have b2 := hb1.trans (hb2.mono hb1.size)
      refine (A.out _).mono ?_
      rintro e w3 ⟨v3, rfl, hi3, hb3⟩
      have b3 := b2.trans (hb3.mono b2.size)
      go_wp2_with fail
      refine (A2.out _).mono ?_
      rintro e w4 ⟨v4, rfl, hi4, hb4⟩
      have b4 := b3.trans (hb4.mono b3.size)
      have hi3' := hi3.below hb4 (Nat.le_refl _)
      go_wp2_with fail
      refine (sameInts_same HM.out hi3' hi4).mono ?_
      rintro e w5 ⟨rfl, q5⟩
      have b5 := b4.trans (q5.2 _)
      go_wp2_with fail
      refine (B2.out _).mono ?_
      rintro e w6 ⟨rfl, hb6⟩
      have b6 := b5.trans (hb6.mono b5.size)
      go_wp2_with fail
      refine (B.out _).mono ?_
      rintro e w7 ⟨rfl, hb7⟩
      go_wp2_with fail
      go_ret
      exact ⟨rfl, b6.trans (hb7.mono b6.size)⟩
end Go.Proofs.Ytaonngmjfemadac
