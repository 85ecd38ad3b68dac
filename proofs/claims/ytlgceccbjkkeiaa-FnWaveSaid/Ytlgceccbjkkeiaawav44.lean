/- TEXTS PWav, PWav2. -/
import Derived.Test.Ytlgceccbjkkeiaawav39
import Derived.Test.Ytlgceccbjkkeiaawav41
import Derived.Test.Ytlgceccbjkkeiaawav03
import Derived.Test.Ytlgceccbjkkeiaawav43
import Derived.Test.Ytlgceccbjkkeiaawav25
/- THE WALKS of the laws FnWave, FnWaveSum. -/
namespace Go.Proofs.Ytlgceccbjkkeiaa
open Go.RowKit

set_option maxHeartbeats 2000000 in
theorem walkFnWave {w : World} (a : Option Addr) (len cap : Nat) (z : List Int) (hr : IsRow .u8 w a len cap z) :
    Calls Try.prog 3 #[.slice a len cap] w fun e w' => e = .returned (.bool true) ∧ Below w.heap.size w w' := by
  have hcap := hr.le
  have hmax := hr.max
  unfold maxLen at hmax
  by_cases hbig : 1048576 < len
  · go_enter Try.func3, Try.ntmps3
    go_wp2
    go_ret
    exact ⟨rfl, Below.refl _ _⟩
  · have D := hide (DrawWaveIn_any a len cap z w (by omega) hcap hr.bytes)
    clear hr
    go_enter Try.func3, Try.ntmps3
    go_wp2_with fail
    refine D.out.mono ?_
    rintro e w1 ⟨st, u, v, X, Y, rfl, hX, hY, hu, hv, hb1⟩
    have HU := hide hu
    have HV := hide hv
    have HB1 := hide hb1
    have hX' : X.length ≤ 1048576 := by omega
    have hY' : Y.length ≤ 1048576 := by omega
    clear hu hv hb1
    cases hk : wIn st X Y
    · have C1 := hide (implWaveIn_any st u v X Y w1 hX' hY' HU.out HV.out)
      rw [hk] at C1
      go_wp2_with fail
      refine C1.out.mono ?_
      rintro e w2 ⟨rfl, hb2⟩
      have HB2 := hide (HB1.out.trans (hb2.mono HB1.out.size))
      have C0 := hide (specWaveIn_any st u v X Y w2 hX' hY' (HU.out.below hb2 (Nat.le_refl _)) (HV.out.below hb2 (Nat.le_refl _)))
      rw [hk] at C0
      clear hb2 hk
      go_wp2_with fail
      refine C0.out.mono ?_
      rintro e w3 ⟨rfl, rfl⟩
      go_wp2_with fail
      go_ret
      exact ⟨rfl, HB2.out⟩
    · obtain ⟨f1, _, f3⟩ := ws_facts hk
      obtain ⟨_, _, _, _, f5, _⟩ := (wIn_iff st X Y).1 hk
      have hs := f3 X.length
      rw [List.take_length] at hs
      have C1 := hide (implWaveIn_any st u v X Y w1 hX' hY' HU.out HV.out)
      rw [hk] at C1
      have eN : wsN st X Y = X.sum := by unfold wsN; rw [hk]; rfl
      obtain ⟨n, hn⟩ : ∃ n, n = X.sum := ⟨_, rfl⟩
      rw [← hn] at f1 hs eN
      obtain ⟨hs0, hs1⟩ := hs
      go_wp2_with fail
      refine C1.out.mono ?_
      rintro e w2 ⟨rfl, hb2⟩
      have HB2 := hide (HB1.out.trans (hb2.mono HB1.out.size))
      have HU2 := hide (HU.out.below hb2 (Nat.le_refl _))
      have HV2 := hide (HV.out.below hb2 (Nat.le_refl _))
      have C0 := hide (specWaveIn_any st u v X Y w2 hX' hY' HU2.out HV2.out)
      rw [hk] at C0
      have CS := hide (implWaveSum_any st u v X Y w2 hX' hY' HU2.out HV2.out)
      rw [hk, eN] at CS
      obtain ⟨a1, c1, e1, _⟩ := ints_form HU2.out
      obtain ⟨a2, c2, e2, _⟩ := ints_form HV2.out
      subst e1 e2
      have hlen : ((X.length : Int) == (Y.length : Int) + 1) = true := by rw [f5]; simp
      obtain ⟨p, hp⟩ : ∃ p, p = X.length := ⟨_, rfl⟩
      obtain ⟨q, hq⟩ : ∃ q, q = Y.length := ⟨_, rfl⟩
      rw [← hp, ← hq] at hlen
      rw [← hp] at hX hX' f1
      rw [← hq] at hY hY'
      rw [← hp, ← hq] at C0 CS ⊢
      clear hb2 hk f5 eN hn HU HV HU2 HV2 C1 D f3 hp hq
      go_wp2_with fail
      refine C0.out.mono ?_
      rintro e w3 ⟨rfl, rfl⟩
      go_wp2_with fail
      refine CS.out.mono ?_
      rintro e w4 ⟨rfl, hb4⟩
      have HB4 := hide (HB2.out.trans (hb4.mono HB2.out.size))
      clear hb4 CS C0
      go_wp2_with fail
      go_ret
      exact ⟨rfl, HB4.out⟩

set_option maxHeartbeats 2000000 in
theorem walkFnWaveSum {w : World} (a : Option Addr) (len cap : Nat) (z : List Int) (hr : IsRow .u8 w a len cap z) :
    Calls Try.prog 7 #[.slice a len cap] w fun e w' => e = .returned (.bool true) ∧ Below w.heap.size w w' := by
  have hcap := hr.le
  have hmax := hr.max
  unfold maxLen at hmax
  by_cases hbig : 1048576 < len
  · go_enter Try.func7, Try.ntmps7
    go_wp2
    go_ret
    exact ⟨rfl, Below.refl _ _⟩
  · have D := hide (DrawWaveSum_any a len cap z w (by omega) hcap hr.bytes)
    clear hr
    go_enter Try.func7, Try.ntmps7
    go_wp2_with fail
    refine D.out.mono ?_
    rintro e w1 ⟨st, u, v, X, Y, rfl, hX, hY, hu, hv, hb1⟩
    have HU := hide hu
    have HV := hide hv
    have HB1 := hide hb1
    have hX' : X.length ≤ 1048576 := by omega
    have hY' : Y.length ≤ 1048576 := by omega
    clear hu hv hb1 D
    have C1 := hide (implWaveSum_any st u v X Y w1 hX' hY' HU.out HV.out)
    have C0 := hide (fun (W : World) (h : Below w1.heap.size w1 W) => specWaveSum_any st u v X Y W hX' hY' (HU.out.below h (Nat.le_refl _)) (HV.out.below h (Nat.le_refl _)))
    cases hk : wIn st X Y
    · rw [hk] at C0 C1
      obtain ⟨n, hn⟩ : ∃ n, n = wsN st X Y := ⟨_, rfl⟩
      rw [← hn] at C0 C1
      clear hk hn
      go_wp2_with fail
      refine C1.out.mono ?_
      rintro e w2 ⟨rfl, hb2⟩
      have HB2 := hide (HB1.out.trans (hb2.mono HB1.out.size))
      have C0' := hide (C0.out w2 hb2)
      clear hb2
      go_wp2_with fail
      refine C0'.out.mono ?_
      rintro e w3 ⟨rfl, rfl⟩
      go_wp2_with fail
      go_ret
      exact ⟨by simp, HB2.out⟩
    · have eN : wsN st X Y = X.sum := by unfold wsN; rw [hk]; rfl
      have CR := hide (fun (W : World) (h : Below w1.heap.size w1 W) => implWaveRow_any st u v X Y W hX' hY' (HU.out.below h (Nat.le_refl _)) (HV.out.below h (Nat.le_refl _)))
      rw [hk, eN] at C0 C1
      obtain ⟨n, hn⟩ : ∃ n, n = X.sum := ⟨_, rfl⟩
      rw [← hn] at C0 C1
      have hF := (ws_facts hk).2.1
      rw [← hn] at hF
      have q0 : ((n : Int) == n) = true := by simp
      have q1 : ((n : Int) != n) = false := by simp
      cases hw : wrOk st X Y
      · rw [hw] at CR
        clear hk hn eN hF hw
        go_wp2_with fail
        refine C1.out.mono ?_
        rintro e w2 ⟨rfl, hb2⟩
        have HB2 := hide (HB1.out.trans (hb2.mono HB1.out.size))
        have C0' := hide (C0.out w2 hb2)
        have CR' := hide (CR.out w2 hb2)
        clear hb2
        go_wp2_with fail
        refine C0'.out.mono ?_
        rintro e w3 ⟨rfl, rfl⟩
        go_wp2_with fail
        refine CR'.out.mono ?_
        rintro e w4 ⟨rfl, hb4⟩
        have HB4 := hide (HB2.out.trans (hb4.mono HB2.out.size))
        clear hb4
        go_wp2_with fail
        go_ret
        exact ⟨rfl, HB4.out⟩
      · obtain ⟨_, h120, h3, h4, _⟩ := wrOk_facts hw
        have hb := hF hw
        have hsz : (wrS st X Y).size ≤ maxLen := by
          rw [← length_bits, h3]
          unfold maxLen
          omega
        have CB := hide (fun w => implRowBalls_any (wrS st X Y) w hsz)
        rw [h4, if_pos rfl, hb] at CB
        rw [hw] at CR
        obtain ⟨t, ht⟩ : ∃ t, t = wrS st X Y := ⟨_, rfl⟩
        rw [← ht] at CR CB
        clear hk hn eN hF hw h120 h3 h4 hb hsz ht
        go_wp2_with fail
        refine C1.out.mono ?_
        rintro e w2 ⟨rfl, hb2⟩
        have HB2 := hide (HB1.out.trans (hb2.mono HB1.out.size))
        have C0' := hide (C0.out w2 hb2)
        have CR' := hide (CR.out w2 hb2)
        clear hb2
        go_wp2_with fail
        refine C0'.out.mono ?_
        rintro e w3 ⟨rfl, rfl⟩
        go_wp2_with fail
        refine CR'.out.mono ?_
        rintro e w4 ⟨rfl, hb4⟩
        have HB4 := hide (HB2.out.trans (hb4.mono HB2.out.size))
        clear hb4
        go_wp2_with fail
        refine (CB.out _).mono ?_
        rintro e w5 ⟨rfl, hb5⟩
        have HB5 := hide (HB4.out.trans (hb5.mono HB4.out.size))
        clear hb5
        go_wp2_with fail
        go_ret
        exact ⟨rfl, HB5.out⟩

set_option maxHeartbeats 2000000 in
theorem walkFnWaveRow {w : World} (a : Option Addr) (len cap : Nat) (z : List Int) (hr : IsRow .u8 w a len cap z) :
    Calls Try.prog 5 #[.slice a len cap] w fun e w' => e = .returned (.bool true) ∧ Below w.heap.size w w' := by
  have hcap := hr.le
  have hmax := hr.max
  unfold maxLen at hmax
  by_cases hbig : 1048576 < len
  · go_enter Try.func5, Try.ntmps5
    go_wp2
    go_ret
    exact ⟨rfl, Below.refl _ _⟩
  · have D := hide (DrawWaveRow_any a len cap z w (by omega) hcap hr.bytes)
    clear hr
    go_enter Try.func5, Try.ntmps5
    go_wp2_with fail
    refine D.out.mono ?_
    rintro e w1 ⟨st, u, v, X, Y, rfl, hX, hY, hu, hv, hb1⟩
    have HU := hide hu
    have HV := hide hv
    have HB1 := hide hb1
    have hX' : X.length ≤ 1048576 := by omega
    have hY' : Y.length ≤ 1048576 := by omega
    clear hu hv hb1 D
    have C1 := hide (implWaveRow_any st u v X Y w1 hX' hY' HU.out HV.out)
    have C0 := hide (fun (W : World) (h : Below w1.heap.size w1 W) => specWaveRow_any st u v X Y W hX' hY' (HU.out.below h (Nat.le_refl _)) (HV.out.below h (Nat.le_refl _)))
    obtain ⟨t, ht⟩ : ∃ t, t = wrS st X Y := ⟨_, rfl⟩
    have q1 : (t.toList == t.toList) = true := by simp
    have q2 : (t.toList != t.toList) = false := by simp
    rw [← ht] at C0 C1
    cases hk : wrOk st X Y
    · rw [hk] at C0 C1
      clear hk ht
      go_wp2_with fail
      refine C1.out.mono ?_
      rintro e w2 ⟨rfl, hb2⟩
      have HB2 := hide (HB1.out.trans (hb2.mono HB1.out.size))
      have C0' := hide (C0.out w2 hb2)
      clear hb2
      go_wp2_with fail
      refine C0'.out.mono ?_
      rintro e w3 ⟨rfl, hq3⟩
      have HB3 := hide (HB2.out.trans (hq3.2 _))
      clear hq3
      go_wp2_with fail
      go_ret
      exact ⟨by simp, HB3.out⟩
    · obtain ⟨_, h120, h3, h4, _⟩ := wrOk_facts hk
      obtain ⟨f1, f2, f3, f4⟩ := wave_row hk
      have hsz : (wrS st X Y).size ≤ maxLen := by
        rw [← length_bits, h3]
        unfold maxLen
        omega
      have CO := hide (fun w => implWaveOf_any (wrS st X Y) w hsz)
      rw [f1, f2, f3, f4, ← ht] at CO
      rw [hk] at C0 C1
      have HLX := hide (show X.length ≤ maxLen by unfold maxLen; omega)
      have HLY := hide (show Y.length ≤ maxLen by unfold maxLen; omega)
      have q3 : ((st : Int) == st) = true := by simp
      clear hk ht h120 h3 h4 f1 f2 f3 f4 hsz
      go_wp2_with fail
      refine C1.out.mono ?_
      rintro e w2 ⟨rfl, hb2⟩
      have HB2 := hide (HB1.out.trans (hb2.mono HB1.out.size))
      have C0' := hide (C0.out w2 hb2)
      have HBa := hide hb2
      clear hb2
      go_wp2_with fail
      refine C0'.out.mono ?_
      rintro e w3 ⟨rfl, hq3⟩
      have HB3 := hide (HB2.out.trans (hq3.2 _))
      have HBb := hide (HBa.out.trans (hq3.2 _))
      clear hq3
      go_wp2_with fail
      refine (CO.out _).mono ?_
      rintro e w4 ⟨x, y, rfl, hx, hy, _, hb4⟩
      have HB4 := hide (HB3.out.trans (hb4.mono HB3.out.size))
      have HBc := hide (HBb.out.trans (hb4.mono HBb.out.size))
      have HU4 := hide (HU.out.below HBc.out (Nat.le_refl _))
      have HV4 := hide (HV.out.below HBc.out (Nat.le_refl _))
      have HX4 := hide hx
      have HY4 := hide hy
      clear hb4 hx hy
      go_wp2_with fail
      refine (sameInts_same HLX.out HX4.out HU4.out).mono ?_
      rintro e w5 ⟨rfl, hq5⟩
      have HB5 := hide (HB4.out.trans (hq5.2 _))
      have HY5 := hide (hq5.ints HY4.out)
      have HV5 := hide (hq5.ints HV4.out)
      clear hq5
      go_wp2_with fail
      refine (sameInts_same HLY.out HY5.out HV5.out).mono ?_
      rintro e w6 ⟨rfl, hq6⟩
      have HB6 := hide (HB5.out.trans (hq6.2 _))
      clear hq6
      go_wp2_with fail
      go_ret
      exact ⟨rfl, HB6.out⟩

end Go.Proofs.Ytlgceccbjkkeiaa

/- THE WALKS of the laws FnWaveOf, FnWaveNext. -/
namespace Go.Proofs.Ytlgceccbjkkeiaa
open Go.RowKit

set_option maxRecDepth 100000 in
set_option maxHeartbeats 4000000 in
theorem walkFnWaveOf {w : World} (a : Option Addr) (len cap : Nat) (z : List Int) (hr : IsRow .u8 w a len cap z) :
    Calls Try.prog 4 #[.slice a len cap] w fun e w' => e = .returned (.bool true) ∧ Below w.heap.size w w' := by
  have hcap := hr.le
  have hmax := hr.max
  unfold maxLen at hmax
  by_cases hbig : 1048576 < len
  · go_enter Try.func4, Try.ntmps4
    go_wp2
    go_ret
    exact ⟨rfl, Below.refl _ _⟩
  · have D := hide (DrawWaveOf_any a len cap z w (by omega) hcap hr.bytes)
    clear hr
    go_enter Try.func4, Try.ntmps4
    go_wp2_with fail
    refine D.out.mono ?_
    rintro e w1 ⟨s, rfl, hs, hb1⟩
    have hs' : s.size ≤ maxLen := by unfold maxLen; omega
    have C1 := hide (fun w => implWaveOf_any s w hs')
    have C0 := hide (fun w => specWaveOf_any s w hs')
    have HB1 := hide hb1
    clear hb1 D
    have HLX := hide (show (woR s).length ≤ maxLen by have := (woR_len s).1; unfold maxLen; omega)
    have HLY := hide (show (woG s).length ≤ maxLen by have := (woR_len s).2; unfold maxLen; omega)
    have hX' : (woR s).length ≤ 1048576 := by have := (woR_len s).1; omega
    have hY' : (woG s).length ≤ 1048576 := by have := (woR_len s).2; omega
    cases hk : woOk s
    · rw [hk] at C0 C1
      obtain ⟨n, hn⟩ : ∃ n, n = woN s := ⟨_, rfl⟩
      obtain ⟨X, hX⟩ : ∃ X, X = woR s := ⟨_, rfl⟩
      obtain ⟨Y, hY⟩ : ∃ Y, Y = woG s := ⟨_, rfl⟩
      rw [← hX] at HLX hX'
      rw [← hY] at HLY hY'
      rw [← hX, ← hY, ← hn] at C0 C1
      have q3 : ((n : Int) == n) = true := by simp
      have q4 : ((n : Int) != n) = false := by simp
      clear hn hX hY hX' hY' hk
      go_wp2_with fail
      refine (C1.out _).mono ?_
      rintro e w2 ⟨x, y, rfl, hx, hy, _, hb2⟩
      have HB2 := hide (HB1.out.trans (hb2.mono HB1.out.size))
      have GX := hide hx
      have GY := hide hy
      clear hb2 hx hy
      go_wp2_with fail
      refine (C0.out _).mono ?_
      rintro e w3 ⟨x', y', rfl, hx, hy, _, hb3⟩
      have HB3 := hide (HB2.out.trans (hb3.mono HB2.out.size))
      have GX := hide (GX.out.below hb3 (Nat.le_refl _))
      have GY := hide (GY.out.below hb3 (Nat.le_refl _))
      have WX := hide hx
      have WY := hide hy
      clear hb3 hx hy C0 C1
      go_wp2_with fail
      refine (sameInts_same HLX.out GX.out WX.out).mono ?_
      rintro e w4 ⟨rfl, hq⟩
      have HB4 := hide (HB3.out.trans (hq.2 _))
      have GX := hide (hq.ints GX.out)
      have GY := hide (hq.ints GY.out)
      have WX := hide (hq.ints WX.out)
      have WY := hide (hq.ints WY.out)
      clear hq
      go_wp2_with fail
      refine (sameInts_same HLY.out GY.out WY.out).mono ?_
      rintro e w5 ⟨rfl, hq⟩
      have HB5 := hide (HB4.out.trans (hq.2 _))
      have GX := hide (hq.ints GX.out)
      have GY := hide (hq.ints GY.out)
      have WX := hide (hq.ints WX.out)
      have WY := hide (hq.ints WY.out)
      clear hq
      go_wp2_with fail
      refine (sameInts_same HLX.out GX.out WX.out).mono ?_
      rintro e w6 ⟨rfl, hq⟩
      have HB6 := hide (HB5.out.trans (hq.2 _))
      have GY := hide (hq.ints GY.out)
      have WY := hide (hq.ints WY.out)
      clear hq
      go_wp2_with fail
      refine (sameInts_same HLY.out GY.out WY.out).mono ?_
      rintro e w7 ⟨rfl, hq⟩
      have HB7 := hide (HB6.out.trans (hq.2 _))
      clear hq
      go_wp2_with fail
      go_ret
      exact ⟨by simp, HB7.out⟩
    · obtain ⟨hv, _⟩ := (woOk_iff s).1 hk
      obtain ⟨f1, f2⟩ := wave_of hk
      have er : rnR s = woR s := by unfold rnR woR; rw [hv, hk]
      have CR := hide (fun (W : World) (u v : Value) (lo lo' : Nat) (hu : IntsV lo W u (woR s)) (hv : IntsV lo' W v (woG s)) => implWaveRow_any (woN s) u v (woR s) (woG s) W hX' hY' hu hv)
      have CT := hide (fun w => implRowTidy_any s w hs')
      have CS := hide (fun w => implShapeRuns_any s w hs')
      rw [f1, f2] at CR
      rw [hv, if_pos rfl] at CT
      rw [hv, er] at CS
      obtain ⟨t, ht⟩ : ∃ t, t = tidyS s := ⟨_, rfl⟩
      have q1 : (t.toList == t.toList) = true := by simp
      rw [← ht] at CR CT
      rw [hk] at C0 C1
      obtain ⟨n, hn⟩ : ∃ n, n = woN s := ⟨_, rfl⟩
      obtain ⟨X, hX⟩ : ∃ X, X = woR s := ⟨_, rfl⟩
      obtain ⟨Y, hY⟩ : ∃ Y, Y = woG s := ⟨_, rfl⟩
      rw [← hX] at HLX hX'
      rw [← hY] at HLY hY'
      rw [← hX, ← hY, ← hn] at C0 C1
      have q3 : ((n : Int) == n) = true := by simp
      have q4 : ((n : Int) != n) = false := by simp
      rw [← hX, ← hY, ← hn] at CR
      rw [← hX] at CS
      clear hn hX hY hX' hY' hk hv f1 f2 er ht
      go_wp2_with fail
      refine (C1.out _).mono ?_
      rintro e w2 ⟨x, y, rfl, hx, hy, _, hb2⟩
      have HB2 := hide (HB1.out.trans (hb2.mono HB1.out.size))
      have GX := hide hx
      have GY := hide hy
      clear hb2 hx hy
      go_wp2_with fail
      refine (C0.out _).mono ?_
      rintro e w3 ⟨x', y', rfl, hx, hy, _, hb3⟩
      have HB3 := hide (HB2.out.trans (hb3.mono HB2.out.size))
      have GX := hide (GX.out.below hb3 (Nat.le_refl _))
      have GY := hide (GY.out.below hb3 (Nat.le_refl _))
      have WX := hide hx
      have WY := hide hy
      clear hb3 hx hy C0 C1
      go_wp2_with fail
      refine (sameInts_same HLX.out GX.out WX.out).mono ?_
      rintro e w4 ⟨rfl, hq⟩
      have HB4 := hide (HB3.out.trans (hq.2 _))
      have GX := hide (hq.ints GX.out)
      have GY := hide (hq.ints GY.out)
      have WX := hide (hq.ints WX.out)
      have WY := hide (hq.ints WY.out)
      clear hq
      go_wp2_with fail
      refine (sameInts_same HLY.out GY.out WY.out).mono ?_
      rintro e w5 ⟨rfl, hq⟩
      have HB5 := hide (HB4.out.trans (hq.2 _))
      have GX := hide (hq.ints GX.out)
      have GY := hide (hq.ints GY.out)
      clear hq
      have CR' := hide (CR.out _ _ _ _ _ GX.out GY.out)
      go_wp2_with fail
      refine CR'.out.mono ?_
      rintro e w6 ⟨rfl, hb6⟩
      have HB6 := hide (HB5.out.trans (hb6.mono HB5.out.size))
      have GX := hide (GX.out.below hb6 (Nat.le_refl _))
      clear hb6 CR CR'
      go_wp2_with fail
      refine (CT.out _).mono ?_
      rintro e w7 ⟨rfl, hb7⟩
      have HB7 := hide (HB6.out.trans (hb7.mono HB6.out.size))
      have GX := hide (GX.out.below hb7 (Nat.le_refl _))
      clear hb7
      go_wp2_with fail
      refine (CS.out _).mono ?_
      rintro e w8 ⟨v, rfl, hv8, hb8⟩
      have HB8 := hide (HB7.out.trans (hb8.mono HB7.out.size))
      have GX := hide (GX.out.below hb8 (Nat.le_refl _))
      have GV := hide hv8
      clear hb8 hv8
      go_wp2_with fail
      refine (sameInts_same HLX.out GV.out GX.out).mono ?_
      rintro e w9 ⟨rfl, hq⟩
      have HB9 := hide (HB8.out.trans (hq.2 _))
      clear hq
      go_wp2_with fail
      go_ret
      exact ⟨rfl, HB9.out⟩

set_option maxRecDepth 100000 in
set_option maxHeartbeats 4000000 in
theorem walkFnWaveNext {w : World} (a : Option Addr) (len cap : Nat) (z : List Int) (hr : IsRow .u8 w a len cap z) :
    Calls Try.prog 6 #[.slice a len cap] w fun e w' => e = .returned (.bool true) ∧ Below w.heap.size w w' := by
  have hcap := hr.le
  have hmax := hr.max
  unfold maxLen at hmax
  by_cases hbig : 1048576 < len
  · go_enter Try.func6, Try.ntmps6
    go_wp2
    go_ret
    exact ⟨rfl, Below.refl _ _⟩
  · have D := hide (DrawWaveNext_any a len cap z w (by omega) hcap hr.bytes)
    clear hr
    go_enter Try.func6, Try.ntmps6
    go_wp2_with fail
    refine D.out.mono ?_
    rintro e w1 ⟨st, u, v, R, G, rfl, hX, hY, hu, hv, hb1⟩
    have HU := hide hu
    have HV := hide hv
    have HB1 := hide hb1
    have hR' : R.length ≤ 1048576 := by omega
    have hG' : G.length ≤ 1048576 := by omega
    clear hu hv hb1 D
    have C1 := hide (implWaveNext_any st u v R G w1 hR' hG' HU.out HV.out)
    have C0 := hide (fun (W : World) (h : Below w1.heap.size w1 W) => specWaveNext_any st u v R G W hR' hG' (HU.out.below h (Nat.le_refl _)) (HV.out.below h (Nat.le_refl _)))
    cases hk : wnOk st R G
    · rw [hk] at C0 C1
      have HE := hide (show (if (false : Bool) = true then wnR R G else []) = ([] : List Int) from rfl)
      go_wp2_with fail
      refine C1.out.mono ?_
      rintro e w2 ⟨x, y, rfl, hx, hy, _, hb2⟩
      have HB2 := hide (HB1.out.trans (hb2.mono HB1.out.size))
      have GX : Hid (IntsV w1.heap.size w2 x []) := hide hx
      have GY : Hid (IntsV w1.heap.size w2 y []) := hide hy
      have C0' := hide (C0.out w2 hb2)
      clear hb2 hx hy C0
      go_wp2_with fail
      refine C0'.out.mono ?_
      rintro e w3 ⟨x', y', rfl, hx, hy, _, hb3⟩
      have HB3 := hide (HB2.out.trans (hb3.mono HB2.out.size))
      have GX := hide (GX.out.below hb3 (Nat.le_refl _))
      have GY := hide (GY.out.below hb3 (Nat.le_refl _))
      have WX : Hid (IntsV w2.heap.size w3 x' []) := hide hx
      have WY : Hid (IntsV w2.heap.size w3 y' []) := hide hy
      have HN := hide (show ([] : List Int).length ≤ maxLen by simp)
      clear hb3 hx hy C0'
      go_wp2_with fail
      refine (sameInts_same HN.out GX.out WX.out).mono ?_
      rintro e w4 ⟨rfl, hq⟩
      have HB4 := hide (HB3.out.trans (hq.2 _))
      have GX := hide (hq.ints GX.out)
      have GY := hide (hq.ints GY.out)
      have WX := hide (hq.ints WX.out)
      have WY := hide (hq.ints WY.out)
      clear hq
      go_wp2_with fail
      refine (sameInts_same HN.out GY.out WY.out).mono ?_
      rintro e w5 ⟨rfl, hq⟩
      have HB5 := hide (HB4.out.trans (hq.2 _))
      have GX := hide (hq.ints GX.out)
      have GY := hide (hq.ints GY.out)
      have WX := hide (hq.ints WX.out)
      have WY := hide (hq.ints WY.out)
      clear hq
      go_wp2_with fail
      refine (sameInts_same HN.out GX.out WX.out).mono ?_
      rintro e w6 ⟨rfl, hq⟩
      have HB6 := hide (HB5.out.trans (hq.2 _))
      have GY := hide (hq.ints GY.out)
      have WY := hide (hq.ints WY.out)
      clear hq
      go_wp2_with fail
      refine (sameInts_same HN.out GY.out WY.out).mono ?_
      rintro e w7 ⟨rfl, hq⟩
      have HB7 := hide (HB6.out.trans (hq.2 _))
      clear hq
      go_wp2_with fail
      go_ret
      exact ⟨by simp, HB7.out⟩
    · obtain ⟨g1, g2, g3, g4, g5⟩ := wn_facts hk
      have eN : wsN st R G = R.sum := by unfold wsN; rw [g1]; rfl
      have eM : wsN (wnN st R) (wnR R G) (wnG R G) = R.sum := by unfold wsN; rw [g2, if_pos rfl, g5]
      have CA := hide (fun (W : World) (h : Below w1.heap.size w1 W) => implWaveSum_any st u v R G W hR' hG' (HU.out.below h (Nat.le_refl _)) (HV.out.below h (Nat.le_refl _)))
      have CB := hide (fun (W : World) (x y : Value) (lo lo' : Nat) (hx : IntsV lo W x (wnR R G)) (hy : IntsV lo' W y (wnG R G)) => implWaveSum_any (wnN st R) x y (wnR R G) (wnG R G) W (by omega) (by omega) hx hy)
      have CR := hide (fun (W : World) (h : Below w1.heap.size w1 W) => implWaveRow_any st u v R G W hR' hG' (HU.out.below h (Nat.le_refl _)) (HV.out.below h (Nat.le_refl _)))
      rw [g1, eN] at CA
      rw [g2, eM] at CB
      rw [hk, if_pos rfl, if_pos rfl, if_pos rfl] at C1
      rw [hk] at C0
      have hsz : (wrS st R G).size ≤ 120 := by
        unfold wrS
        cases hw : wrOk st R G
        · exact Nat.zero_le _
        · obtain ⟨_, h120, _⟩ := wrOk_facts hw
          rw [if_pos rfl, ofB_size]; exact h120
      have CG := hide (fun w => implStepGreat_any (wrS st R G) w (by unfold maxLen; omega))
      have hsz2 : (stS (wrS st R G) 200).size ≤ 120 := by
        cases hs : stOk (wrS st R G) 200
        · unfold stS; rw [hs]; exact Nat.zero_le _
        · exact vld_le _ (vld_stS hs)
      have CO := hide (fun w => implWaveOf_any (stS (wrS st R G) 200) w (by unfold maxLen; omega))
      have FIN : Hid (wrOk st R G = true → stOk (wrS st R G) 200 = true → woOk (stS (wrS st R G) 200) = true ∧ woN (stS (wrS st R G) 200) = wnN st R ∧ woR (stS (wrS st R G) 200) = wnR R G ∧ woG (stS (wrS st R G) 200) = wnG R G) := hide (fun h1 h2 => wn_step h1 h2)
      obtain ⟨n, hn⟩ : ∃ n, n = R.sum := ⟨_, rfl⟩
      obtain ⟨m, hm⟩ : ∃ m, m = wnN st R := ⟨_, rfl⟩
      obtain ⟨X, hX⟩ : ∃ X, X = wnR R G := ⟨_, rfl⟩
      obtain ⟨Y, hY⟩ : ∃ Y, Y = wnG R G := ⟨_, rfl⟩
      obtain ⟨b, hb⟩ : ∃ b, b = wrS st R G := ⟨_, rfl⟩
      rw [← hb] at CR CG CO FIN
      obtain ⟨t, ht⟩ : ∃ t, t = stS b 200 := ⟨_, rfl⟩
      rw [← ht] at CG CO FIN
      rw [← hX, ← hY, ← hm] at C0 C1 CB FIN
      rw [← hn] at CA CB
      have q1 : ((n : Int) == n) = true := by simp
      have q2 : ((n : Int) != n) = false := by simp
      have q3 : ((m : Int) == m) = true := by simp
      have q4 : ((m : Int) != m) = false := by simp
      have HLX := hide (show X.length ≤ maxLen by rw [hX]; unfold maxLen; omega)
      have HLY := hide (show Y.length ≤ maxLen by rw [hY]; unfold maxLen; omega)
      have HLE : Hid (X.length = R.length) := hide (by rw [hX]; exact g3)
      clear g1 g2 g3 g4 g5 eN eM hsz hsz2 hn hm hX hY hb ht hk
      obtain ⟨r, hr⟩ : ∃ r, r = wrOk st R G := ⟨_, rfl⟩
      obtain ⟨s, hs⟩ : ∃ s, s = stOk b 200 := ⟨_, rfl⟩
      rw [← hr] at CR FIN
      rw [← hs] at CG FIN
      clear hr hs
      obtain ⟨a1, c1, e1, _⟩ := ints_form HU.out
      subst e1
      go_wp2_with fail
      refine C1.out.mono ?_
      rintro e w2 ⟨x, y, rfl, hx, hy, _, hb2⟩
      have HB2 := hide (HB1.out.trans (hb2.mono HB1.out.size))
      have HA := hide hb2
      have GX := hide hx
      have GY := hide hy
      obtain ⟨a2, c2, e2, _⟩ := ints_form hx
      rw [HLE.out] at e2
      subst e2
      have C0' := hide (C0.out w2 hb2)
      clear hb2 hx hy C0 C1
      go_wp2_with fail
      refine C0'.out.mono ?_
      rintro e w3 ⟨x', y', rfl, hx, hy, _, hb3⟩
      have HB3 := hide (HB2.out.trans (hb3.mono HB2.out.size))
      have HA := hide (HA.out.trans (hb3.mono HA.out.size))
      have GX := hide (GX.out.below hb3 (Nat.le_refl _))
      have GY := hide (GY.out.below hb3 (Nat.le_refl _))
      have WX : Hid (IntsV w2.heap.size w3 x' X) := hide hx
      have WY : Hid (IntsV w2.heap.size w3 y' Y) := hide hy
      clear hb3 hx hy C0'
      go_wp2_with fail
      refine (sameInts_same HLX.out GX.out WX.out).mono ?_
      rintro e w4 ⟨rfl, hq⟩
      have HB4 := hide (HB3.out.trans (hq.2 _))
      have GX := hide (hq.ints GX.out)
      have GY := hide (hq.ints GY.out)
      have WX := hide (hq.ints WX.out)
      have WY := hide (hq.ints WY.out)
      have HA := hide (HA.out.trans (hq.2 _))
      clear hq
      go_wp2_with fail
      refine (sameInts_same HLY.out GY.out WY.out).mono ?_
      rintro e w5 ⟨rfl, hq⟩
      have HB5 := hide (HB4.out.trans (hq.2 _))
      have GX := hide (hq.ints GX.out)
      have GY := hide (hq.ints GY.out)
      have HA := hide (HA.out.trans (hq.2 _))
      clear hq
      have CA' := hide (CA.out _ HA.out)
      go_wp2_with fail
      refine CA'.out.mono ?_
      rintro e w6 ⟨rfl, hbb⟩
      have HB6 := hide (HB5.out.trans (hbb.mono HB5.out.size))
      have HA := hide (HA.out.trans (hbb.mono HA.out.size))
      have GX := hide (GX.out.below hbb (Nat.le_refl _))
      have GY := hide (GY.out.below hbb (Nat.le_refl _))
      clear hbb
      have CB' := hide (CB.out _ _ _ _ _ GX.out GY.out)
      go_wp2_with fail
      refine CB'.out.mono ?_
      rintro e w7 ⟨rfl, hbb⟩
      have HB7 := hide (HB6.out.trans (hbb.mono HB6.out.size))
      have HA := hide (HA.out.trans (hbb.mono HA.out.size))
      have GX := hide (GX.out.below hbb (Nat.le_refl _))
      have GY := hide (GY.out.below hbb (Nat.le_refl _))
      clear hbb
      have CR' := hide (CR.out _ HA.out)
      go_wp2_with fail
      refine CR'.out.mono ?_
      rintro e w8 ⟨rfl, hbb⟩
      have HB8 := hide (HB7.out.trans (hbb.mono HB7.out.size))
      have HA := hide (HA.out.trans (hbb.mono HA.out.size))
      have GX := hide (GX.out.below hbb (Nat.le_refl _))
      have GY := hide (GY.out.below hbb (Nat.le_refl _))
      clear hbb
      go_wp2_with fail
      refine (CG.out _).mono ?_
      rintro e w9 ⟨rfl, hbb⟩
      have HB9 := hide (HB8.out.trans (hbb.mono HB8.out.size))
      have HA := hide (HA.out.trans (hbb.mono HA.out.size))
      have GX := hide (GX.out.below hbb (Nat.le_refl _))
      have GY := hide (GY.out.below hbb (Nat.le_refl _))
      clear hbb
      cases r
      · go_wp2_with fail
        refine (CO.out _).mono ?_
        rintro e w10 ⟨x5, y5, rfl, _, _, _, hbb⟩
        have HB10 := hide (HB9.out.trans (hbb.mono HB9.out.size))
        clear hbb
        go_wp2_with fail
        go_ret
        exact ⟨rfl, HB10.out⟩
      cases s
      · go_wp2_with fail
        refine (CO.out _).mono ?_
        rintro e w10 ⟨x5, y5, rfl, _, _, _, hbb⟩
        have HB10 := hide (HB9.out.trans (hbb.mono HB9.out.size))
        clear hbb
        go_wp2_with fail
        go_ret
        exact ⟨rfl, HB10.out⟩
      obtain ⟨f1, f2, f3, f4⟩ := FIN.out rfl rfl
      rw [f1, f2, f3, f4] at CO
      clear f1 f2 f3 f4 FIN
      go_wp2_with fail
      refine (CO.out _).mono ?_
      rintro e w10 ⟨x5, y5, rfl, hx, hy, _, hbb⟩
      have HB10 := hide (HB9.out.trans (hbb.mono HB9.out.size))
      have GX := hide (GX.out.below hbb (Nat.le_refl _))
      have GY := hide (GY.out.below hbb (Nat.le_refl _))
      have WX := hide hx
      have WY := hide hy
      clear hbb hx hy
      go_wp2_with fail
      refine (sameInts_same HLX.out WX.out GX.out).mono ?_
      rintro e w11 ⟨rfl, hq⟩
      have HB11 := hide (HB10.out.trans (hq.2 _))
      have GY := hide (hq.ints GY.out)
      have WY := hide (hq.ints WY.out)
      clear hq
      go_wp2_with fail
      refine (sameInts_same HLY.out WY.out GY.out).mono ?_
      rintro e w12 ⟨rfl, hq⟩
      have HB12 := hide (HB11.out.trans (hq.2 _))
      clear hq
      go_wp2_with fail
      go_ret
      exact ⟨rfl, HB12.out⟩
end Go.Proofs.Ytlgceccbjkkeiaa
