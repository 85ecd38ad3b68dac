/- THE WALKS of the laws FnSwap, FnBack, FnStep, FnShifted, FnMany. -/
import Derived.Test.YtnaofghngpojgabSFacts
import Derived.Test.YtnaofghngpojgabDraw5
namespace Go.Proofs.Ytnaofghngpojgab
open Go.RowKit

set_option maxHeartbeats 2000000 in
theorem walkFnSwap {w : World} (a : Option Addr) (len cap : Nat) (z : List Int) (hr : IsRow .u8 w a len cap z) :
    Calls Try.prog 3 #[.slice a len cap] w fun e w' => e = .returned (.bool true) ∧ Below w.heap.size w w' := by
  have hcap := hr.le
  have hmax := hr.max
  unfold maxLen at hmax
  by_cases hbig : 1048576 < len
  · go_enter Try.func3, Try.ntmps3
    go_wp2
    go_ret
    exact ⟨rfl, Below.refl _ _⟩
  · have D := hide (DrawStepOf_any a len cap z w (by omega) hcap hr.bytes)
    clear hr
    go_enter Try.func3, Try.ntmps3
    go_wp2_with fail
    refine D.out.mono ?_
    rintro e w1 ⟨s, n, rfl, hs, hn0, hn1, hb1⟩
    have hs' : s.size ≤ maxLen := by unfold maxLen; omega
    have C1 := hide (fun w => implStepOf_any s n w hs')
    have C0 := hide (fun w => specStepOf_any s n w hs')
    cases hk : stOk s n
    · rw [hk] at C0 C1
      obtain ⟨x, hx⟩ : ∃ x, x = stS s n := ⟨_, rfl⟩
      rw [← hx] at C0 C1
      clear hk hx
      go_wp2_with fail
      refine (C1.out _).mono ?_
      rintro e w2 ⟨rfl, hb2⟩
      go_wp2_with fail
      refine (C0.out _).mono ?_
      rintro e w3 ⟨rfl, hb3⟩
      go_wp2_with fail
      go_ret
      have b2 := hb1.trans (hb2.mono hb1.size)
      exact ⟨rfl, b2.trans (hb3.mono b2.size)⟩
    · have hz1 : (stS s n).size ≤ maxLen := by have := stS_size s n; unfold maxLen; omega
      have hz2 : (stS s 2).size ≤ maxLen := by have := stS_size s 2; unfold maxLen; omega
      have A1 := hide (fun w => implStepOf_any (stS s n) 2 w hz1)
      have A2 := hide (fun w => implStepOf_any s 2 w hs')
      have A3 := hide (fun w => implStepOf_any (stS s 2) n w hz2)
      have M := hide (fun h1 h2 h3 => @swap_eq s n 2 hk h1 h2 h3)
      rw [hk] at C0 C1
      obtain ⟨x, hx⟩ : ∃ x, x = stS s n := ⟨_, rfl⟩
      obtain ⟨t, ht⟩ : ∃ x, x = stS s 2 := ⟨_, rfl⟩
      rw [← hx] at C0 C1 A1 M
      rw [← ht] at A2 A3 M
      obtain ⟨y1, hy1⟩ : ∃ y, y = stS x 2 := ⟨_, rfl⟩
      obtain ⟨y2, hy2⟩ : ∃ y, y = stS t n := ⟨_, rfl⟩
      obtain ⟨b1, hb1'⟩ : ∃ y, y = stOk x 2 := ⟨_, rfl⟩
      obtain ⟨b2, hb2'⟩ : ∃ y, y = stOk s 2 := ⟨_, rfl⟩
      obtain ⟨b3, hb3'⟩ : ∃ y, y = stOk t n := ⟨_, rfl⟩
      rw [← hy1, ← hb1'] at A1
      rw [← hb2'] at A2
      rw [← hy2, ← hb3'] at A3
      rw [← hy1, ← hy2, ← hb1', ← hb2', ← hb3'] at M
      clear hk hx ht hy1 hy2 hb1' hb2' hb3' hz1 hz2
      have M2 : b1 = true ∧ b2 = true ∧ b3 = true → y1 = y2 := fun ⟨h1, h2, h3⟩ => M.out h1 h2 h3
      cases b1 <;> cases b2 <;> cases b3
      all_goals first
        | (have hy : y1 = y2 := M2 ⟨rfl, rfl, rfl⟩
           subst hy
           clear M M2)
        | clear M M2
      all_goals
        go_wp2_with fail
        refine (C1.out _).mono ?_
        rintro e w2 ⟨rfl, hb2⟩
        have g2 := hb1.trans (hb2.mono hb1.size)
        go_wp2_with fail
        refine (C0.out _).mono ?_
        rintro e w3 ⟨rfl, hb3⟩
        have g3 := g2.trans (hb3.mono g2.size)
        go_wp2_with fail
        refine (A1.out _).mono ?_
        rintro e w4 ⟨rfl, hb4⟩
        have g4 := g3.trans (hb4.mono g3.size)
        go_wp2_with fail
        refine (A2.out _).mono ?_
        rintro e w5 ⟨rfl, hb5⟩
        have g5 := g4.trans (hb5.mono g4.size)
        go_wp2_with fail
        refine (A3.out _).mono ?_
        rintro e w6 ⟨rfl, hb6⟩
        have g6 := g5.trans (hb6.mono g5.size)
        go_wp2_with fail
        go_ret
        exact ⟨rfl, g6⟩

set_option maxHeartbeats 2000000 in
theorem walkFnBack {w : World} (a : Option Addr) (len cap : Nat) (z : List Int) (hr : IsRow .u8 w a len cap z) :
    Calls Try.prog 5 #[.slice a len cap] w fun e w' => e = .returned (.bool true) ∧ Below w.heap.size w w' := by
  have hcap := hr.le
  have hmax := hr.max
  unfold maxLen at hmax
  by_cases hbig : 1048576 < len
  · go_enter Try.func5, Try.ntmps5
    go_wp2
    go_ret
    exact ⟨rfl, Below.refl _ _⟩
  · have D := hide (DrawStepBack_any a len cap z w (by omega) hcap hr.bytes)
    clear hr
    go_enter Try.func5, Try.ntmps5
    go_wp2_with fail
    refine D.out.mono ?_
    rintro e w1 ⟨s, n, rfl, hs, hn0, hn1, hb1⟩
    have hs' : s.size ≤ maxLen := by unfold maxLen; omega
    have C1 := hide (fun w => implStepBack_any s n w hs')
    have C0 := hide (fun w => specStepBack_any s n w hs')
    cases hk : bkOk s n
    · rw [hk] at C0 C1
      obtain ⟨x, hx⟩ : ∃ x, x = bkS s n := ⟨_, rfl⟩
      rw [← hx] at C0 C1
      clear hk hx
      go_wp2_with fail
      refine (C1.out _).mono ?_
      rintro e w2 ⟨rfl, hb2⟩
      go_wp2_with fail
      refine (C0.out _).mono ?_
      rintro e w3 ⟨rfl, rfl⟩
      go_wp2_with fail
      go_ret
      exact ⟨rfl, hb1.trans (hb2.mono hb1.size)⟩
    · obtain ⟨k1, k2⟩ := back_eq hk
      have hv : vld s = true := by unfold bkOk at hk; simp at hk; exact hk.1.1
      have hz1 : (bkS s n).size ≤ maxLen := by
        unfold stOk at k1
        simp at k1
        have := vld_le _ k1.1.1
        unfold maxLen; omega
      have A1 := hide (fun w => implStepOf_any (bkS s n) n w hz1)
      have A2 := hide (fun w => implRowTidy_any s w hs')
      rw [k1, k2] at A1
      rw [hv, if_pos rfl] at A2
      rw [hk] at C0 C1
      obtain ⟨x, hx⟩ : ∃ x, x = bkS s n := ⟨_, rfl⟩
      obtain ⟨t, ht⟩ : ∃ x, x = tidyS s := ⟨_, rfl⟩
      rw [← hx] at C0 C1 A1
      rw [← ht] at A1 A2
      clear hk hx ht hz1 k1 k2 hv
      go_wp2_with fail
      refine (C1.out _).mono ?_
      rintro e w2 ⟨rfl, hb2⟩
      have g2 := hb1.trans (hb2.mono hb1.size)
      go_wp2_with fail
      refine (C0.out _).mono ?_
      rintro e w3 ⟨rfl, rfl⟩
      go_wp2_with fail
      refine (A1.out _).mono ?_
      rintro e w4 ⟨rfl, hb4⟩
      have g4 := g2.trans (hb4.mono g2.size)
      go_wp2_with fail
      refine (A2.out _).mono ?_
      rintro e w5 ⟨rfl, hb5⟩
      have g5 := g4.trans (hb5.mono g4.size)
      go_wp2_with fail
      go_ret
      exact ⟨rfl, g5⟩

set_option maxHeartbeats 2000000 in
theorem walkFnStep {w : World} (a : Option Addr) (len cap : Nat) (z : List Int) (hr : IsRow .u8 w a len cap z) :
    Calls Try.prog 6 #[.slice a len cap] w fun e w' => e = .returned (.bool true) ∧ Below w.heap.size w w' := by
  have hcap := hr.le
  have hmax := hr.max
  unfold maxLen at hmax
  by_cases hbig : 1048576 < len
  · go_enter Try.func6, Try.ntmps6
    go_wp2
    go_ret
    exact ⟨rfl, Below.refl _ _⟩
  · have D := hide (DrawStepOf_any a len cap z w (by omega) hcap hr.bytes)
    clear hr
    go_enter Try.func6, Try.ntmps6
    go_wp2_with fail
    refine D.out.mono ?_
    rintro e w1 ⟨s, n, rfl, hs, hn0, hn1, hb1⟩
    have hs' : s.size ≤ maxLen := by unfold maxLen; omega
    have C1 := hide (fun w => implStepOf_any s n w hs')
    have C0 := hide (fun w => specStepOf_any s n w hs')
    cases hk : stOk s n
    · rw [hk] at C0 C1
      obtain ⟨x, hx⟩ : ∃ x, x = stS s n := ⟨_, rfl⟩
      rw [← hx] at C0 C1
      clear hk hx
      go_wp2_with fail
      refine (C1.out _).mono ?_
      rintro e w2 ⟨rfl, hb2⟩
      go_wp2_with fail
      refine (C0.out _).mono ?_
      rintro e w3 ⟨rfl, hb3⟩
      go_wp2_with fail
      go_ret
      have b2 := hb1.trans (hb2.mono hb1.size)
      exact ⟨rfl, b2.trans (hb3.mono b2.size)⟩
    · obtain ⟨k1, k2, k3⟩ := step_eq hk
      have hv := (tkOk_iff (stOk_tk hk)).1
      have hz1 : (stS s n).size ≤ maxLen := by have := stS_size s n; unfold maxLen; omega
      have A1 := hide (fun w => implStepBack_any (stS s n) n w hz1)
      have A2 := hide (fun w => implRowTidy_any s w hs')
      have A3 := hide (fun w => implRowBalls_any (stS s n) w hz1)
      have A4 := hide (fun w => implRowBalls_any s w hs')
      rw [k1, k2] at A1
      rw [hv, if_pos rfl] at A2 A4
      rw [vld_stS hk, if_pos rfl, k3] at A3
      rw [hk] at C0 C1
      obtain ⟨x, hx⟩ : ∃ x, x = stS s n := ⟨_, rfl⟩
      obtain ⟨t, ht⟩ : ∃ x, x = tidyS s := ⟨_, rfl⟩
      obtain ⟨c, hc⟩ : ∃ x, x = nballs (bits s) := ⟨_, rfl⟩
      rw [← hx] at C0 C1 A1 A3
      rw [← ht] at A1 A2
      rw [← hc] at A3 A4
      clear hk hx ht hz1 k1 k2 k3 hv hc
      go_wp2_with fail
      refine (C1.out _).mono ?_
      rintro e w2 ⟨rfl, hb2⟩
      have g2 := hb1.trans (hb2.mono hb1.size)
      go_wp2_with fail
      refine (C0.out _).mono ?_
      rintro e w3 ⟨rfl, hb3⟩
      have g3 := g2.trans (hb3.mono g2.size)
      go_wp2_with fail
      refine (A1.out _).mono ?_
      rintro e w4 ⟨rfl, hb4⟩
      have g4 := g3.trans (hb4.mono g3.size)
      go_wp2_with fail
      refine (A2.out _).mono ?_
      rintro e w5 ⟨rfl, hb5⟩
      have g5 := g4.trans (hb5.mono g4.size)
      go_wp2_with fail
      refine (A3.out _).mono ?_
      rintro e w6 ⟨rfl, hb6⟩
      have g6 := g5.trans (hb6.mono g5.size)
      go_wp2_with fail
      refine (A4.out _).mono ?_
      rintro e w7 ⟨rfl, hb7⟩
      have g7 := g6.trans (hb7.mono g6.size)
      go_wp2_with fail
      go_ret
      exact ⟨by simp, g7⟩

set_option maxHeartbeats 2000000 in
theorem walkFnShifted {w : World} (a : Option Addr) (len cap : Nat) (z : List Int) (hr : IsRow .u8 w a len cap z) :
    Calls Try.prog 7 #[.slice a len cap] w fun e w' => e = .returned (.bool true) ∧ Below w.heap.size w w' := by
  have hcap := hr.le
  have hmax := hr.max
  unfold maxLen at hmax
  by_cases hbig : 1048576 < len
  · go_enter Try.func7, Try.ntmps7
    go_wp2
    go_ret
    exact ⟨rfl, Below.refl _ _⟩
  · have D := hide (DrawStepOf_any a len cap z w (by omega) hcap hr.bytes)
    clear hr
    go_enter Try.func7, Try.ntmps7
    go_wp2_with fail
    refine D.out.mono ?_
    rintro e w1 ⟨s, n, rfl, hs, hn0, hn1, hb1⟩
    have hs' : s.size ≤ maxLen := by unfold maxLen; omega
    have C1 := hide (fun w => implStepOf_any s n w hs')
    have C0 := hide (fun w => specStepOf_any s n w hs')
    cases hk : stOk s n
    · rw [hk] at C0 C1
      obtain ⟨x, hx⟩ : ∃ x, x = stS s n := ⟨_, rfl⟩
      rw [← hx] at C0 C1
      clear hk hx
      go_wp2_with fail
      refine (C1.out _).mono ?_
      rintro e w2 ⟨rfl, hb2⟩
      go_wp2_with fail
      refine (C0.out _).mono ?_
      rintro e w3 ⟨rfl, hb3⟩
      go_wp2_with fail
      go_ret
      have b2 := hb1.trans (hb2.mono hb1.size)
      exact ⟨rfl, b2.trans (hb3.mono b2.size)⟩
    · have hz1 : (stS s n).size ≤ maxLen := by have := stS_size s n; unfold maxLen; omega
      have hz2 : (shS s 3).size ≤ maxLen := by have := shS_le s 3; unfold maxLen; omega
      have A1 := hide (fun w => implRowShift_any s 3 w hs' rfl)
      have A2 := hide (fun w => implStepOf_any (shS s 3) n w hz2)
      have A3 := hide (fun w => implRowShift_any (stS s n) 3 w hz1 rfl)
      have M := hide (fun h => @shifted_eq s n hk h)
      rw [hk] at C0 C1
      obtain ⟨x, hx⟩ : ∃ x, x = stS s n := ⟨_, rfl⟩
      obtain ⟨t, ht⟩ : ∃ x, x = shS s 3 := ⟨_, rfl⟩
      rw [← hx] at C0 C1 A3 M
      rw [← ht] at A1 A2 M
      obtain ⟨y2, hy2⟩ : ∃ y, y = stS t n := ⟨_, rfl⟩
      obtain ⟨y3, hy3⟩ : ∃ y, y = shS x 3 := ⟨_, rfl⟩
      obtain ⟨b1, hb1'⟩ : ∃ y, y = shOk s 3 := ⟨_, rfl⟩
      obtain ⟨b2, hb2'⟩ : ∃ y, y = stOk t n := ⟨_, rfl⟩
      obtain ⟨b3, hb3'⟩ : ∃ y, y = shOk x 3 := ⟨_, rfl⟩
      rw [← hb1'] at A1
      rw [← hy2, ← hb2'] at A2
      rw [← hy3, ← hb3'] at A3
      rw [← hy2, ← hy3, ← hb1', ← hb2', ← hb3'] at M
      clear hk hx ht hy2 hy3 hb1' hb2' hb3' hz1 hz2
      cases b1
      · clear M
        go_wp2_with fail
        refine (C1.out _).mono ?_
        rintro e w2 ⟨rfl, hb2⟩
        have g2 := hb1.trans (hb2.mono hb1.size)
        go_wp2_with fail
        refine (C0.out _).mono ?_
        rintro e w3 ⟨rfl, hb3⟩
        have g3 := g2.trans (hb3.mono g2.size)
        go_wp2_with fail
        refine (A1.out _).mono ?_
        rintro e w4 ⟨rfl, hb4⟩
        have g4 := g3.trans (hb4.mono g3.size)
        go_wp2_with fail
        refine (A2.out _).mono ?_
        rintro e w5 ⟨rfl, hb5⟩
        have g5 := g4.trans (hb5.mono g4.size)
        go_wp2_with fail
        refine (A3.out _).mono ?_
        rintro e w6 ⟨rfl, hb6⟩
        have g6 := g5.trans (hb6.mono g5.size)
        go_wp2_with fail
        go_ret
        exact ⟨rfl, g6⟩
      · obtain ⟨m1, m2⟩ := M.out rfl
        subst m1
        clear M
        cases b2
        · clear m2
          go_wp2_with fail
          refine (C1.out _).mono ?_
          rintro e w2 ⟨rfl, hb2⟩
          have g2 := hb1.trans (hb2.mono hb1.size)
          go_wp2_with fail
          refine (C0.out _).mono ?_
          rintro e w3 ⟨rfl, hb3⟩
          have g3 := g2.trans (hb3.mono g2.size)
          go_wp2_with fail
          refine (A1.out _).mono ?_
          rintro e w4 ⟨rfl, hb4⟩
          have g4 := g3.trans (hb4.mono g3.size)
          go_wp2_with fail
          refine (A2.out _).mono ?_
          rintro e w5 ⟨rfl, hb5⟩
          have g5 := g4.trans (hb5.mono g4.size)
          go_wp2_with fail
          refine (A3.out _).mono ?_
          rintro e w6 ⟨rfl, hb6⟩
          have g6 := g5.trans (hb6.mono g5.size)
          go_wp2_with fail
          go_ret
          exact ⟨rfl, g6⟩
        · have hy := m2 rfl
          subst hy
          clear m2
          go_wp2_with fail
          refine (C1.out _).mono ?_
          rintro e w2 ⟨rfl, hb2⟩
          have g2 := hb1.trans (hb2.mono hb1.size)
          go_wp2_with fail
          refine (C0.out _).mono ?_
          rintro e w3 ⟨rfl, hb3⟩
          have g3 := g2.trans (hb3.mono g2.size)
          go_wp2_with fail
          refine (A1.out _).mono ?_
          rintro e w4 ⟨rfl, hb4⟩
          have g4 := g3.trans (hb4.mono g3.size)
          go_wp2_with fail
          refine (A2.out _).mono ?_
          rintro e w5 ⟨rfl, hb5⟩
          have g5 := g4.trans (hb5.mono g4.size)
          go_wp2_with fail
          refine (A3.out _).mono ?_
          rintro e w6 ⟨rfl, hb6⟩
          have g6 := g5.trans (hb6.mono g5.size)
          go_wp2_with fail
          go_ret
          exact ⟨rfl, g6⟩

set_option maxHeartbeats 2000000 in
theorem walkFnMany {w : World} (a : Option Addr) (len cap : Nat) (z : List Int) (hr : IsRow .u8 w a len cap z) :
    Calls Try.prog 8 #[.slice a len cap] w fun e w' => e = .returned (.bool true) ∧ Below w.heap.size w w' := by
  have hcap := hr.le
  have hmax := hr.max
  unfold maxLen at hmax
  by_cases hbig : 1048576 < len
  · go_enter Try.func8, Try.ntmps8
    go_wp2
    go_ret
    exact ⟨rfl, Below.refl _ _⟩
  · have D := hide (DrawStepMany_any a len cap z w (by omega) hcap hr.bytes (fun w' hb => hr.bytes.below hb))
    clear hr
    go_enter Try.func8, Try.ntmps8
    go_wp2_with fail
    refine D.out.mono ?_
    rintro e w1 ⟨s, n, m, rfl, hs, hn0, hn1, hm0, hm1, hb1⟩
    have hs' : s.size ≤ maxLen := by unfold maxLen; omega
    have C1 := hide (fun w => implStepMany_any s n m w hs')
    have C0 := hide (fun w => specStepMany_any s n m w hs')
    have A1 := hide (fun w => implStepMany_any s n (m + 1) w hs')
    have hz : (smR s n m).1.size ≤ maxLen := by
      unfold smR
      cases hin : smIn s n m
      · exact Nat.zero_le _
      · have hv : vld s = true := by unfold smIn tkOk at hin; simp at hin; exact hin.1.1
        rw [if_pos rfl]
        have := smT_size (room := n) (t := tidyS s) (Nat.le_trans (tidyS_le s) (vld_le s hv)) m.toNat
        unfold maxLen; omega
    have A2 := hide (fun w => implStepOf_any (smR s n m).1 n w hz)
    have M := hide (@many_eq s n m)
    obtain ⟨x, hx⟩ : ∃ x, x = (smR s n m).1 := ⟨_, rfl⟩
    obtain ⟨c, hc⟩ : ∃ x, x = (smR s n m).2 := ⟨_, rfl⟩
    rw [← hx, ← hc] at C0 C1
    rw [← hx] at A2
    rw [← hx, ← hc] at M
    clear hz hx hc
    cases c
    · clear M A1 A2
      go_wp2_with fail
      refine (C1.out _).mono ?_
      rintro e w2 ⟨rfl, hb2⟩
      go_wp2_with fail
      refine (C0.out _).mono ?_
      rintro e w3 ⟨rfl, hb3⟩
      go_wp2_with fail
      go_ret
      have b2 := hb1.trans (hb2.mono hb1.size)
      exact ⟨rfl, b2.trans (hb3.mono b2.size)⟩
    · by_cases h100 : m = 100
      · subst h100
        clear M
        obtain ⟨y1, hy1⟩ : ∃ y, y = smR s n (100 + 1) := ⟨_, rfl⟩
        rw [← hy1] at A1
        clear hy1
        go_wp2_with fail
        refine (C1.out _).mono ?_
        rintro e w2 ⟨rfl, hb2⟩
        have g2 := hb1.trans (hb2.mono hb1.size)
        go_wp2_with fail
        refine (C0.out _).mono ?_
        rintro e w3 ⟨rfl, hb3⟩
        have g3 := g2.trans (hb3.mono g2.size)
        go_wp2_with fail
        refine (A1.out _).mono ?_
        rintro e w4 ⟨rfl, hb4⟩
        have g4 := g3.trans (hb4.mono g3.size)
        go_wp2_with fail
        refine (A2.out _).mono ?_
        rintro e w5 ⟨rfl, hb5⟩
        have g5 := g4.trans (hb5.mono g4.size)
        go_wp2_with fail
        go_ret
        exact ⟨rfl, g5⟩
      · have hM := M.out rfl (by omega)
        rw [hM] at A1
        clear hM M
        have hm100 : ((m : Int) == 100) = false := beq_eq_false_iff_ne.2 h100
        obtain ⟨y1, hy1⟩ : ∃ y, y = stS x n := ⟨_, rfl⟩
        obtain ⟨b, hb⟩ : ∃ y, y = stOk x n := ⟨_, rfl⟩
        rw [← hy1, ← hb] at A1 A2
        clear hy1 hb
        go_wp2_with fail
        refine (C1.out _).mono ?_
        rintro e w2 ⟨rfl, hb2⟩
        have g2 := hb1.trans (hb2.mono hb1.size)
        go_wp2_with fail
        refine (C0.out _).mono ?_
        rintro e w3 ⟨rfl, hb3⟩
        have g3 := g2.trans (hb3.mono g2.size)
        go_wp2_with fail
        refine (A1.out _).mono ?_
        rintro e w4 ⟨rfl, hb4⟩
        have g4 := g3.trans (hb4.mono g3.size)
        go_wp2_with fail
        refine (A2.out _).mono ?_
        rintro e w5 ⟨rfl, hb5⟩
        have g5 := g4.trans (hb5.mono g4.size)
        go_wp2_with fail
        go_ret
        exact ⟨by simp, g5⟩
end Go.Proofs.Ytnaofghngpojgab
