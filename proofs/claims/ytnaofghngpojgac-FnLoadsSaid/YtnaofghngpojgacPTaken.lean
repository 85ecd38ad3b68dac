/- THE WALKS of the laws FnLoads and FnTaken. -/
import Derived.Test.YtnaofghngpojgacSFacts
import Derived.Test.YtnaofghngpojgacDraw5
namespace Go.Proofs.Ytnaofghngpojgac
open Go.RowKit

theorem ldR_le (s : ByteArray) (n : Int) : (ldR s n).length ≤ 121 := by
  unfold ldR
  cases h : ldOk s n
  · simp
  · have : vld s = true := by unfold ldOk at h; simp at h; exact h.1.1
    have := vld_le s this
    simp [ldsU_length]; omega

set_option maxRecDepth 100000 in
set_option maxHeartbeats 4000000 in
theorem walkFnLoads {w : World} (a : Option Addr) (len cap : Nat) (z : List Int) (hr : IsRow .u8 w a len cap z) :
    Calls Try.prog 3 #[.slice a len cap] w fun e w' => e = .returned (.bool true) ∧ Below w.heap.size w w' := by
  have hcap := hr.le
  have hmax := hr.max
  unfold maxLen at hmax
  by_cases hbig : 1048576 < len
  · go_enter Try.func3, Try.ntmps3
    go_wp2
    go_ret
    exact ⟨rfl, Below.refl _ _⟩
  · have D := hide (DrawStepLoads_any a len cap z w (by omega) hcap hr.bytes)
    clear hr
    go_enter Try.func3, Try.ntmps3
    go_wp2_with fail
    refine D.out.mono ?_
    rintro e w1 ⟨s, n, rfl, hs, hn0, hn1, hb1⟩
    have hs' : s.size ≤ maxLen := by unfold maxLen; omega
    have hlen := ldR_le s n
    have HM := hide (show (ldR s n).length ≤ maxLen by unfold maxLen; omega)
    have C1 := hide (fun w => implStepLoads_any s n w hs')
    have C0 := hide (fun w => specStepLoads_any s n w hs')
    cases hv : ldOk s n
    · rw [hv] at C0 C1
      obtain ⟨l, hl⟩ : ∃ l, l = ldR s n := ⟨_, rfl⟩
      rw [← hl] at C0 C1 HM
      clear hv hl hlen
      go_wp2_with fail
      refine (C1.out _).mono ?_
      rintro e w2 ⟨v2, rfl, hi2, hb2⟩
      have b2 := hb1.trans (hb2.mono hb1.size)
      go_wp2_with fail
      refine (C0.out _).mono ?_
      rintro e w3 ⟨v3, rfl, hi3, hb3⟩
      have b3 := b2.trans (hb3.mono b2.size)
      have hi2' := hi2.below hb3 (Nat.le_refl _)
      go_wp2_with fail
      refine (sameInts_same HM.out hi2' hi3).mono ?_
      rintro e w4 ⟨rfl, q4⟩
      have b4 := b3.trans (q4.2 _)
      have hi4 := q4.ints hi2'
      have hi4' := q4.ints hi3
      clear hi2' hi2 hi3 hb1 hb2 hb3
      go_wp2_with fail
      refine (sameInts_same HM.out hi4 hi4').mono ?_
      rintro e w5 ⟨rfl, q5⟩
      go_wp2_with fail
      go_ret
      exact ⟨rfl, b4.trans (q5.2 _)⟩
    · obtain ⟨f1, f2, f3⟩ := loads_eq hv
      have HLEN := hide f1
      have H0 := hide f2
      have HAT := hide f3
      have hs120 : s.size ≤ 120 := by omega
      rw [hv] at C0 C1
      obtain ⟨l, hl⟩ : ∃ l, l = ldR s n := ⟨_, rfl⟩
      rw [← hl] at C0 C1 HM HLEN H0 HAT
      clear hv hl hlen f1 f2 f3
      go_wp2_with fail
      refine (C1.out _).mono ?_
      rintro e w2 ⟨v2, rfl, hi2, hb2⟩
      have b2 := hb1.trans (hb2.mono hb1.size)
      go_wp2_with fail
      refine (C0.out _).mono ?_
      rintro e w3 ⟨v3, rfl, hi3, hb3⟩
      have b3 := b2.trans (hb3.mono b2.size)
      have hi2' := hi2.below hb3 (Nat.le_refl _)
      go_wp2_with fail
      refine (sameInts_same HM.out hi2' hi3).mono ?_
      rintro e w4 ⟨rfl, q4⟩
      have b4 := b3.trans (q4.2 _)
      have hi4 := q4.ints hi2'
      clear hi2' hi2 hi3 hb1 hb2 hb3
      rcases hi4 with ⟨a4, c4, rfl, hnil⟩ | ⟨g, c4, rfl, _, _, _, hc4⟩
      · have := HLEN.out; rw [hnil] at this; simp at this
      · have HC4 := hide hc4
        rw [HLEN.out]
        clear hc4
        go_wp2_with fail
        go_loopw [9] (fun i wr => ∃ (k : Nat) (t : Int), i = .int .i64 t ∧ t = (k : Int) ∧ k ≤ s.size + 1 ∧ Hid (Quiet w4 wr)) (fun i _ => s.size + 1 - (intOf i).toNat)
        case atStart => exact ⟨0, 0, rfl, rfl, by omega, Quiet.refl _⟩
        case round =>
          obtain ⟨k, t, rfl, ht, hkn, HQ⟩ := hrel
          by_cases hltk : k < s.size + 1
          · obtain ⟨x, hx⟩ : ∃ x, l[k]? = some x := ⟨_, List.getElem?_eq_getElem (by rw [HLEN.out]; exact hltk)⟩
            obtain ⟨x0, x1, x2, x3⟩ := HAT.out k x hx
            have c2 := ((HQ.out.cells HC4.out) k (.int .i64 x) (by simp [hx])).1
            cases k with
            | zero =>
              obtain rfl : t = 0 := by omega
              have i1 : (0 : Int) < (s.size : Int) + 1 := by omega
              have d1 : decide (x < 0) = false := by simp; omega
              have d2 : decide (n < x) = false := by simp; omega
              clear x0 x1 x2 x3 hx ht
              go_wp2
              go_quiet (fail)
              go_wp2
              go_roundw
              case rel => exact ⟨1, 1, rfl, rfl, by omega, HQ.out.trans (Quiet.drewN _)⟩
              case measure => simp [intOf]
            | succ j =>
              obtain rfl : t = (j : Int) + 1 := by omega
              obtain ⟨y, hy⟩ : ∃ y, l[j]? = some y := ⟨_, List.getElem?_eq_getElem (by rw [HLEN.out]; omega)⟩
              obtain ⟨y0, y1, y2, _⟩ := HAT.out j y hy
              obtain ⟨z0, z1⟩ := x3 j y rfl hy
              have c1 := ((HQ.out.cells HC4.out) j (.int .i64 y) (by simp [hy])).1
              have i0 : (0 : Int) ≤ (j : Int) := by omega
              have i1 : (j : Int) + 1 < (s.size : Int) + 1 := by omega
              have i2 : (j : Int) < (s.size : Int) + 1 := by omega
              have i3 : (0 : Int) < (j : Int) + 1 := by omega
              have d0 : decide ((0 : Int) < (j : Int) + 1) = true := decide_eq_true i3
              have d1 : decide (x < 0) = false := by simp; omega
              have d2 : decide (n < x) = false := by simp; omega
              have d3 : decide (1 < x - y) = false := by simp; omega
              have d4 : decide (1 < y - x) = false := by simp; omega
              have j3 : j ≤ 120 := by omega
              have hw1 : IntKind.i64.wrap (x - y) = x - y := IntWalk.i64_in _ (by omega)
              have hw2 : IntKind.i64.wrap (y - x) = y - x := IntWalk.i64_in _ (by omega)
              clear x3 hx hy ht
              go_wp2
              go_quiet (fail)
              go_wp2
              clear hw1 hw2
              go_roundw
              case rel => exact ⟨j + 1 + 1, _, rfl, by omega, by omega, HQ.out.trans (Quiet.drewN _)⟩
              case measure => simp [intOf]; omega
          · obtain rfl : k = s.size + 1 := by omega
            obtain rfl : t = (s.size : Int) + 1 := by omega
            clear ht
            have c0 := ((HQ.out.cells HC4.out) 0 (.int .i64 0) (by simp [H0.out])).1
            have i2 : (0 : Int) < (s.size : Int) + 1 := by omega
            have i3 : ¬ ((s.size : Int) + 1 < (s.size : Int) + 1) := by omega
            go_wp2_with fail
            go_ret
            exact ⟨by simp, b4.trans (HQ.out.2 _)⟩

set_option maxHeartbeats 4000000 in
theorem walkFnTaken {w : World} (a : Option Addr) (len cap : Nat) (z : List Int) (hr : IsRow .u8 w a len cap z) :
    Calls Try.prog 4 #[.slice a len cap] w fun e w' => e = .returned (.bool true) ∧ Below w.heap.size w w' := by
  have hcap := hr.le
  have hmax := hr.max
  unfold maxLen at hmax
  by_cases hbig : 1048576 < len
  · go_enter Try.func4, Try.ntmps4
    go_wp2
    go_ret
    exact ⟨rfl, Below.refl _ _⟩
  · have D := hide (DrawStepTaken_any a len cap z w (by omega) hcap hr.bytes)
    clear hr
    go_enter Try.func4, Try.ntmps4
    go_wp2_with fail
    refine D.out.mono ?_
    rintro e w1 ⟨s, n, rfl, hs, hn0, hn1, hb1⟩
    have hs' : s.size ≤ maxLen := by unfold maxLen; omega
    have C1 := hide (fun w => implStepTaken_any s n w hs')
    have C0 := hide (fun w => specStepTaken_any s n w hs')
    cases hk : tkOk s n
    · rw [hk] at C0 C1
      obtain ⟨x, hx⟩ : ∃ x, x = tkN s n := ⟨_, rfl⟩
      rw [← hx] at C0 C1
      clear hk hx
      go_wp2_with fail
      refine (C1.out _).mono ?_
      rintro e w2 ⟨rfl, hb2⟩
      go_wp2_with fail
      refine (C0.out _).mono ?_
      rintro e w3 ⟨rfl, hb3⟩
      go_wp2_with fail
      go_ret
      have b2 := hb1.trans (hb2.mono hb1.size)
      exact ⟨by simp, b2.trans (hb3.mono b2.size)⟩
    · obtain ⟨k0, k1, k2⟩ := taken_eq hk
      have hv := (tkOk_iff hk).1
      have A0 := hide (fun w => implStepTaken_any s 200 w hs')
      have B := hide (fun w => implRowBalls_any s w hs')
      rw [hv, if_pos rfl] at B
      rw [k0, k1] at A0
      rw [hk] at C0 C1
      have bd0 := tkN_bd s n
      obtain ⟨c, hc⟩ : ∃ c : Int, c = (nballs (bits s) : Int) := ⟨_, rfl⟩
      obtain ⟨x, hx⟩ : ∃ x, x = tkN s n := ⟨_, rfl⟩
      by_cases h198 : 198 < n
      · rw [← hc] at A0 B
        rw [← hx] at C0 C1 bd0
        clear k0 k1 k2 hk hv hc hx
        go_wp2_with fail
        refine (C1.out _).mono ?_
        rintro e w2 ⟨rfl, hb2⟩
        have g2 := hb1.trans (hb2.mono hb1.size)
        go_wp2_with fail
        refine (C0.out _).mono ?_
        rintro e w3 ⟨rfl, hb3⟩
        have g3 := g2.trans (hb3.mono g2.size)
        have hxx : ((x : Int) != x) = false := by simp
        go_wp2_with fail
        refine (A0.out _).mono ?_
        rintro e w4 ⟨rfl, hb4⟩
        have g4 := g3.trans (hb4.mono g3.size)
        go_wp2_with fail
        refine (B.out _).mono ?_
        rintro e w5 ⟨rfl, hb5⟩
        have g5 := g4.trans (hb5.mono g4.size)
        go_wp2_with fail
        go_ret
        exact ⟨by simp, g5⟩
      · obtain ⟨k3, k4, k5, k6⟩ := k2 (by omega)
        have A1 := hide (fun w => implStepTaken_any s (n + 1) w hs')
        have A2 := hide (fun w => implStepTaken_any s (n + 2) w hs')
        have bd1 := tkN_bd s (n + 1)
        have bd2 := tkN_bd s (n + 2)
        obtain ⟨y, hy⟩ : ∃ x, x = tkN s (n + 1) := ⟨_, rfl⟩
        obtain ⟨u, hu⟩ : ∃ x, x = tkN s (n + 2) := ⟨_, rfl⟩
        rw [k3] at A1
        rw [k4] at A2
        rw [← hc] at A0 B
        rw [← hx] at C0 C1 bd0 k5 k6
        rw [← hy] at A1 bd1 k5 k6
        rw [← hu] at A2 bd2 k6
        have hw1 := hide (show IntKind.i64.wrap (u - y) = u - y from IntWalk.i64_in _ (by omega))
        have hw2 := hide (show IntKind.i64.wrap (y - x) = y - x from IntWalk.i64_in _ (by omega))
        clear k0 k1 k2 k3 k4 hk hv hc hx hy hu bd0 bd1 bd2
        go_wp2_with fail
        refine (C1.out _).mono ?_
        rintro e w2 ⟨rfl, hb2⟩
        have g2 := hb1.trans (hb2.mono hb1.size)
        go_wp2_with fail
        refine (C0.out _).mono ?_
        rintro e w3 ⟨rfl, hb3⟩
        have g3 := g2.trans (hb3.mono g2.size)
        have hxx : ((x : Int) != x) = false := by simp
        go_wp2_with fail
        refine (A0.out _).mono ?_
        rintro e w4 ⟨rfl, hb4⟩
        have g4 := g3.trans (hb4.mono g3.size)
        go_wp2_with fail
        refine (A1.out _).mono ?_
        rintro e w5 ⟨rfl, hb5⟩
        have g5 := g4.trans (hb5.mono g4.size)
        go_wp2_with fail
        refine (A2.out _).mono ?_
        rintro e w6 ⟨rfl, hb6⟩
        have g6 := g5.trans (hb6.mono g5.size)
        have w1 := hw1.out
        have w2 := hw2.out
        go_wp2_with fail
        refine (B.out _).mono ?_
        rintro e w7 ⟨rfl, hb7⟩
        have g7 := g6.trans (hb7.mono g6.size)
        go_wp2_with fail
        go_ret
        exact ⟨by simp, g7⟩
end Go.Proofs.Ytnaofghngpojgac
