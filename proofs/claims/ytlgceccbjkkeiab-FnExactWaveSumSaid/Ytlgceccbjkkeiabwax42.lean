/- TEXTS Exact7, Exact7b. -/
import Derived.Test.Ytlgceccbjkkeiabwax40
import Derived.Test.Ytlgceccbjkkeiabwax41
/- THE WALKS of the laws FnExactWaveIn, FnExactWaveSum, FnExactWaveRow, FnExactWaveSigns. -/
namespace Go.Proofs.Ytlgceccbjkkeiab
open Go.RowKit

set_option maxRecDepth 100000 in
set_option maxHeartbeats 2000000 in
theorem walkFnExactWaveIn {w : World} (st : Int) (_hst : (Lit.int .i64 st).wf = true) (a : Option Addr) (len cap : Nat) (z : List Int) (hr : IsRow .i64 w a len cap z) (a' : Option Addr) (len' cap' : Nat) (z' : List Int) (hr' : IsRow .i64 w a' len' cap' z') :
    Calls Try.prog 3 #[.int .i64 st, .slice a len cap, .slice a' len' cap'] w fun e w' => e = .returned (.bool true) ∧ Below w.heap.size w w' := by
  have hcap := hr.le
  have hmax := hr.max
  have hcap' := hr'.le
  have hmax' := hr'.max
  unfold maxLen at hmax hmax'
  by_cases hbig : 1048576 < len
  · go_enter Try.func3, Try.ntmps3
    go_wp2
    go_ret
    exact ⟨rfl, Below.refl _ _⟩
  by_cases hbig' : 1048576 < len'
  · go_enter Try.func3, Try.ntmps3
    go_wp2
    go_ret
    exact ⟨rfl, Below.refl _ _⟩
  have hlen := hr.take_len
  have hlen' := hr'.take_len
  have T := hide (fun (w : World) (h : IsRow .i64 w a len cap z) => toIntS_any a len cap z h (by omega))
  have T' := hide (fun (w : World) (h : IsRow .i64 w a' len' cap' z') => toIntS_any a' len' cap' z' h (by omega))
  obtain ⟨R, hR⟩ : ∃ R, R = z.take len := ⟨_, rfl⟩
  obtain ⟨G, hG⟩ : ∃ G, G = z'.take len' := ⟨_, rfl⟩
  rw [← hR] at hlen T
  rw [← hG] at hlen' T'
  clear hR hG
  have hRl : R.length ≤ 1048576 := by omega
  have hGl : G.length ≤ 1048576 := by omega
  have HRM := hide (show R.length ≤ maxLen by unfold maxLen; omega)
  have HGM := hide (show G.length ≤ maxLen by unfold maxLen; omega)
  have S0 := hide (fun (u v : Value) (w : World) (lo lo' : Nat) (h : IntsV lo w u R) (h' : IntsV lo' w v G) => specWaveIn_any st u v R G w hRl hGl h h')
  have S1 := hide (fun (u v : Value) (w : World) (lo lo' : Nat) (h : IntsV lo w u R) (h' : IntsV lo' w v G) => implWaveIn_any st u v R G w hRl hGl h h')
  obtain ⟨b, hb⟩ : ∃ b : Bool, b = wIn st R G := ⟨_, rfl⟩
  rw [← hb] at S0 S1
  clear hb
  have HR := hide hr
  have HR' := hide hr'
  clear hr hr' hlen hlen' hRl hGl
  go_enter Try.func3, Try.ntmps3
  go_wp2_with fail
  refine (T.out _ HR.out).mono ?_
  rintro e w1 ⟨u0, rfl, hi, hb⟩
  have I0 := hide hi
  have B1 := hide hb
  clear hi hb
  go_wp2_with fail
  refine (T'.out _ (HR'.out.below B1.out)).mono ?_
  rintro e w2 ⟨v0, rfl, hi, hb⟩
  have I0 := hide (I0.out.below hb (Nat.le_refl _))
  have J0 := hide hi
  have B2 := hide (B1.out.trans (hb.mono B1.out.size))
  clear hi hb
  have C0 := hide (S0.out u0 v0 w2 _ _ I0.out J0.out)
  go_wp2_with fail
  refine C0.out.mono ?_
  rintro e w3 ⟨rfl, hw⟩
  have hb : Below w2.heap.size w2 w3 := by rw [← hw]; exact Below.refl _ _
  clear hw
  have B3 := hide (B2.out.trans (hb.mono B2.out.size))
  clear hb C0 I0 J0
  go_wp2_with fail
  refine (T.out _ (HR.out.below B3.out)).mono ?_
  rintro e w4 ⟨u1, rfl, hi, hb⟩
  have I1 := hide hi
  have B4 := hide (B3.out.trans (hb.mono B3.out.size))
  clear hi hb
  go_wp2_with fail
  refine (T'.out _ (HR'.out.below B4.out)).mono ?_
  rintro e w5 ⟨v1, rfl, hi, hb⟩
  have I1 := hide (I1.out.below hb (Nat.le_refl _))
  have J1 := hide hi
  have B5 := hide (B4.out.trans (hb.mono B4.out.size))
  clear hi hb
  have C1 := hide (S1.out u1 v1 w5 _ _ I1.out J1.out)
  go_wp2_with fail
  refine C1.out.mono ?_
  rintro e w6 ⟨rfl, hb⟩
  have I1 := hide (I1.out.below hb (Nat.le_refl _))
  have J1 := hide (J1.out.below hb (Nat.le_refl _))
  have B6 := hide (B5.out.trans (hb.mono B5.out.size))
  clear hb C1
  go_wp2_with fail
  refine (T.out _ (HR.out.below B6.out)).mono ?_
  rintro e w7 ⟨u2, rfl, hi, hb⟩
  have I1 := hide (I1.out.below hb (Nat.le_refl _))
  have J1 := hide (J1.out.below hb (Nat.le_refl _))
  have I2 := hide hi
  have B7 := hide (B6.out.trans (hb.mono B6.out.size))
  clear hi hb
  go_wp2_with fail
  refine (eqIntS_same HRM.out I1.out I2.out).mono ?_
  rintro e w8 ⟨rfl, hq⟩
  have J1 := hide (hq.ints J1.out)
  have B8 := hide (B7.out.trans (hq.2 _))
  clear hq
  go_wp2_with fail
  refine (T'.out _ (HR'.out.below B8.out)).mono ?_
  rintro e w9 ⟨v2, rfl, hi, hb⟩
  have J1 := hide (J1.out.below hb (Nat.le_refl _))
  have J2 := hide hi
  have B9 := hide (B8.out.trans (hb.mono B8.out.size))
  clear hi hb
  go_wp2_with fail
  refine (eqIntS_same HGM.out J1.out J2.out).mono ?_
  rintro e w10 ⟨rfl, hq⟩
  have B10 := hide (B9.out.trans (hq.2 _))
  clear hq
  go_wp2_with fail
  go_ret
  exact ⟨rfl, B10.out⟩

set_option maxRecDepth 100000 in
set_option maxHeartbeats 2000000 in
theorem walkFnExactWaveSum {w : World} (st : Int) (_hst : (Lit.int .i64 st).wf = true) (a : Option Addr) (len cap : Nat) (z : List Int) (hr : IsRow .i64 w a len cap z) (a' : Option Addr) (len' cap' : Nat) (z' : List Int) (hr' : IsRow .i64 w a' len' cap' z') :
    Calls Try.prog 7 #[.int .i64 st, .slice a len cap, .slice a' len' cap'] w fun e w' => e = .returned (.bool true) ∧ Below w.heap.size w w' := by
  have hcap := hr.le
  have hmax := hr.max
  have hcap' := hr'.le
  have hmax' := hr'.max
  unfold maxLen at hmax hmax'
  by_cases hbig : 1048576 < len
  · go_enter Try.func7, Try.ntmps7
    go_wp2
    go_ret
    exact ⟨rfl, Below.refl _ _⟩
  by_cases hbig' : 1048576 < len'
  · go_enter Try.func7, Try.ntmps7
    go_wp2
    go_ret
    exact ⟨rfl, Below.refl _ _⟩
  have hlen := hr.take_len
  have hlen' := hr'.take_len
  have T := hide (fun (w : World) (h : IsRow .i64 w a len cap z) => toIntS_any a len cap z h (by omega))
  have T' := hide (fun (w : World) (h : IsRow .i64 w a' len' cap' z') => toIntS_any a' len' cap' z' h (by omega))
  obtain ⟨R, hR⟩ : ∃ R, R = z.take len := ⟨_, rfl⟩
  obtain ⟨G, hG⟩ : ∃ G, G = z'.take len' := ⟨_, rfl⟩
  rw [← hR] at hlen T
  rw [← hG] at hlen' T'
  clear hR hG
  have hRl : R.length ≤ 1048576 := by omega
  have hGl : G.length ≤ 1048576 := by omega
  have HRM := hide (show R.length ≤ maxLen by unfold maxLen; omega)
  have HGM := hide (show G.length ≤ maxLen by unfold maxLen; omega)
  have S0 := hide (fun (u v : Value) (w : World) (lo lo' : Nat) (h : IntsV lo w u R) (h' : IntsV lo' w v G) => specWaveSum_any st u v R G w hRl hGl h h')
  have S1 := hide (fun (u v : Value) (w : World) (lo lo' : Nat) (h : IntsV lo w u R) (h' : IntsV lo' w v G) => implWaveSum_any st u v R G w hRl hGl h h')
  obtain ⟨b, hb⟩ : ∃ b : Bool, b = wIn st R G := ⟨_, rfl⟩
  obtain ⟨x, hx⟩ : ∃ x : Int, x = wsN st R G := ⟨_, rfl⟩
  rw [← hb, ← hx] at S0 S1
  clear hb hx
  have HR := hide hr
  have HR' := hide hr'
  clear hr hr' hlen hlen' hRl hGl
  go_enter Try.func7, Try.ntmps7
  go_wp2_with fail
  refine (T.out _ HR.out).mono ?_
  rintro e w1 ⟨u0, rfl, hi, hb⟩
  have I0 := hide hi
  have B1 := hide hb
  clear hi hb
  go_wp2_with fail
  refine (T'.out _ (HR'.out.below B1.out)).mono ?_
  rintro e w2 ⟨v0, rfl, hi, hb⟩
  have I0 := hide (I0.out.below hb (Nat.le_refl _))
  have J0 := hide hi
  have B2 := hide (B1.out.trans (hb.mono B1.out.size))
  clear hi hb
  have C0 := hide (S0.out u0 v0 w2 _ _ I0.out J0.out)
  go_wp2_with fail
  refine C0.out.mono ?_
  rintro e w3 ⟨rfl, hw⟩
  have hb : Below w2.heap.size w2 w3 := by rw [← hw]; exact Below.refl _ _
  clear hw
  have B3 := hide (B2.out.trans (hb.mono B2.out.size))
  clear hb C0 I0 J0
  go_wp2_with fail
  refine (T.out _ (HR.out.below B3.out)).mono ?_
  rintro e w4 ⟨u1, rfl, hi, hb⟩
  have I1 := hide hi
  have B4 := hide (B3.out.trans (hb.mono B3.out.size))
  clear hi hb
  go_wp2_with fail
  refine (T'.out _ (HR'.out.below B4.out)).mono ?_
  rintro e w5 ⟨v1, rfl, hi, hb⟩
  have I1 := hide (I1.out.below hb (Nat.le_refl _))
  have J1 := hide hi
  have B5 := hide (B4.out.trans (hb.mono B4.out.size))
  clear hi hb
  have C1 := hide (S1.out u1 v1 w5 _ _ I1.out J1.out)
  go_wp2_with fail
  refine C1.out.mono ?_
  rintro e w6 ⟨rfl, hb⟩
  have I1 := hide (I1.out.below hb (Nat.le_refl _))
  have J1 := hide (J1.out.below hb (Nat.le_refl _))
  have B6 := hide (B5.out.trans (hb.mono B5.out.size))
  clear hb C1
  go_wp2_with fail
  refine (T.out _ (HR.out.below B6.out)).mono ?_
  rintro e w7 ⟨u2, rfl, hi, hb⟩
  have I1 := hide (I1.out.below hb (Nat.le_refl _))
  have J1 := hide (J1.out.below hb (Nat.le_refl _))
  have I2 := hide hi
  have B7 := hide (B6.out.trans (hb.mono B6.out.size))
  clear hi hb
  go_wp2_with fail
  refine (eqIntS_same HRM.out I1.out I2.out).mono ?_
  rintro e w8 ⟨rfl, hq⟩
  have J1 := hide (hq.ints J1.out)
  have B8 := hide (B7.out.trans (hq.2 _))
  clear hq
  go_wp2_with fail
  refine (T'.out _ (HR'.out.below B8.out)).mono ?_
  rintro e w9 ⟨v2, rfl, hi, hb⟩
  have J1 := hide (J1.out.below hb (Nat.le_refl _))
  have J2 := hide hi
  have B9 := hide (B8.out.trans (hb.mono B8.out.size))
  clear hi hb
  go_wp2_with fail
  refine (eqIntS_same HGM.out J1.out J2.out).mono ?_
  rintro e w10 ⟨rfl, hq⟩
  have B10 := hide (B9.out.trans (hq.2 _))
  clear hq
  go_wp2_with fail
  go_ret
  exact ⟨rfl, B10.out⟩

set_option maxRecDepth 100000 in
set_option maxHeartbeats 2000000 in
theorem walkFnExactWaveRow {w : World} (st : Int) (_hst : (Lit.int .i64 st).wf = true) (a : Option Addr) (len cap : Nat) (z : List Int) (hr : IsRow .i64 w a len cap z) (a' : Option Addr) (len' cap' : Nat) (z' : List Int) (hr' : IsRow .i64 w a' len' cap' z') :
    Calls Try.prog 5 #[.int .i64 st, .slice a len cap, .slice a' len' cap'] w fun e w' => e = .returned (.bool true) ∧ Below w.heap.size w w' := by
  have hcap := hr.le
  have hmax := hr.max
  have hcap' := hr'.le
  have hmax' := hr'.max
  unfold maxLen at hmax hmax'
  by_cases hbig : 1048576 < len
  · go_enter Try.func5, Try.ntmps5
    go_wp2
    go_ret
    exact ⟨rfl, Below.refl _ _⟩
  by_cases hbig' : 1048576 < len'
  · go_enter Try.func5, Try.ntmps5
    go_wp2
    go_ret
    exact ⟨rfl, Below.refl _ _⟩
  have hlen := hr.take_len
  have hlen' := hr'.take_len
  have T := hide (fun (w : World) (h : IsRow .i64 w a len cap z) => toIntS_any a len cap z h (by omega))
  have T' := hide (fun (w : World) (h : IsRow .i64 w a' len' cap' z') => toIntS_any a' len' cap' z' h (by omega))
  obtain ⟨R, hR⟩ : ∃ R, R = z.take len := ⟨_, rfl⟩
  obtain ⟨G, hG⟩ : ∃ G, G = z'.take len' := ⟨_, rfl⟩
  rw [← hR] at hlen T
  rw [← hG] at hlen' T'
  clear hR hG
  have hRl : R.length ≤ 1048576 := by omega
  have hGl : G.length ≤ 1048576 := by omega
  have HRM := hide (show R.length ≤ maxLen by unfold maxLen; omega)
  have HGM := hide (show G.length ≤ maxLen by unfold maxLen; omega)
  have S0 := hide (fun (u v : Value) (w : World) (lo lo' : Nat) (h : IntsV lo w u R) (h' : IntsV lo' w v G) => specWaveRow_any st u v R G w hRl hGl h h')
  have S1 := hide (fun (u v : Value) (w : World) (lo lo' : Nat) (h : IntsV lo w u R) (h' : IntsV lo' w v G) => implWaveRow_any st u v R G w hRl hGl h h')
  obtain ⟨b, hb⟩ : ∃ b : Bool, b = wrOk st R G := ⟨_, rfl⟩
  obtain ⟨x, hx⟩ : ∃ x, x = wrS st R G := ⟨_, rfl⟩
  rw [← hb, ← hx] at S0 S1
  have q1 : (x.toList == x.toList) = true := by simp
  have q2 : (x.toList != x.toList) = false := by simp
  clear hb hx
  have HR := hide hr
  have HR' := hide hr'
  clear hr hr' hlen hlen' hRl hGl
  go_enter Try.func5, Try.ntmps5
  go_wp2_with fail
  refine (T.out _ HR.out).mono ?_
  rintro e w1 ⟨u0, rfl, hi, hb⟩
  have I0 := hide hi
  have B1 := hide hb
  clear hi hb
  go_wp2_with fail
  refine (T'.out _ (HR'.out.below B1.out)).mono ?_
  rintro e w2 ⟨v0, rfl, hi, hb⟩
  have I0 := hide (I0.out.below hb (Nat.le_refl _))
  have J0 := hide hi
  have B2 := hide (B1.out.trans (hb.mono B1.out.size))
  clear hi hb
  have C0 := hide (S0.out u0 v0 w2 _ _ I0.out J0.out)
  go_wp2_with fail
  refine C0.out.mono ?_
  rintro e w3 ⟨rfl, hq⟩
  have hb : Below w2.heap.size w2 w3 := hq.2 _
  clear hq
  have B3 := hide (B2.out.trans (hb.mono B2.out.size))
  clear hb C0 I0 J0
  go_wp2_with fail
  refine (T.out _ (HR.out.below B3.out)).mono ?_
  rintro e w4 ⟨u1, rfl, hi, hb⟩
  have I1 := hide hi
  have B4 := hide (B3.out.trans (hb.mono B3.out.size))
  clear hi hb
  go_wp2_with fail
  refine (T'.out _ (HR'.out.below B4.out)).mono ?_
  rintro e w5 ⟨v1, rfl, hi, hb⟩
  have I1 := hide (I1.out.below hb (Nat.le_refl _))
  have J1 := hide hi
  have B5 := hide (B4.out.trans (hb.mono B4.out.size))
  clear hi hb
  have C1 := hide (S1.out u1 v1 w5 _ _ I1.out J1.out)
  go_wp2_with fail
  refine C1.out.mono ?_
  rintro e w6 ⟨rfl, hb⟩
  have I1 := hide (I1.out.below hb (Nat.le_refl _))
  have J1 := hide (J1.out.below hb (Nat.le_refl _))
  have B6 := hide (B5.out.trans (hb.mono B5.out.size))
  clear hb C1
  go_wp2_with fail
  refine (T.out _ (HR.out.below B6.out)).mono ?_
  rintro e w7 ⟨u2, rfl, hi, hb⟩
  have I1 := hide (I1.out.below hb (Nat.le_refl _))
  have J1 := hide (J1.out.below hb (Nat.le_refl _))
  have I2 := hide hi
  have B7 := hide (B6.out.trans (hb.mono B6.out.size))
  clear hi hb
  go_wp2_with fail
  refine (eqIntS_same HRM.out I1.out I2.out).mono ?_
  rintro e w8 ⟨rfl, hq⟩
  have J1 := hide (hq.ints J1.out)
  have B8 := hide (B7.out.trans (hq.2 _))
  clear hq
  go_wp2_with fail
  refine (T'.out _ (HR'.out.below B8.out)).mono ?_
  rintro e w9 ⟨v2, rfl, hi, hb⟩
  have J1 := hide (J1.out.below hb (Nat.le_refl _))
  have J2 := hide hi
  have B9 := hide (B8.out.trans (hb.mono B8.out.size))
  clear hi hb
  go_wp2_with fail
  refine (eqIntS_same HGM.out J1.out J2.out).mono ?_
  rintro e w10 ⟨rfl, hq⟩
  have B10 := hide (B9.out.trans (hq.2 _))
  clear hq
  go_wp2_with fail
  go_ret
  exact ⟨rfl, B10.out⟩

end Go.Proofs.Ytlgceccbjkkeiab

/- THE WALK of the law FnExactWaveOf. -/
namespace Go.Proofs.Ytlgceccbjkkeiab
open Go.RowKit

set_option maxRecDepth 100000 in
set_option maxHeartbeats 2000000 in
theorem walkFnExactWaveOf (s : ByteArray) (hs : s.size ≤ maxLen) (w : World) :
    Calls Try.prog 4 #[.string s] w fun e w' => e = .returned (.bool true) ∧ Below w.heap.size w w' := by
  have hs' := hs
  unfold maxLen at hs'
  by_cases hbig : 1048576 < s.size
  · go_enter Try.func4, Try.ntmps4
    go_wp2
    go_ret
    exact ⟨rfl, Below.refl _ _⟩
  have C0 := hide (fun w => specWaveOf_any s w hs)
  have C1 := hide (fun w => implWaveOf_any s w hs)
  obtain ⟨hX, hY⟩ := woR_len s
  obtain ⟨b, hb⟩ : ∃ b : Bool, b = woOk s := ⟨_, rfl⟩
  obtain ⟨x, hx⟩ : ∃ x : Int, x = woN s := ⟨_, rfl⟩
  obtain ⟨X, hX0⟩ : ∃ X, X = woR s := ⟨_, rfl⟩
  obtain ⟨Y, hY0⟩ : ∃ Y, Y = woG s := ⟨_, rfl⟩
  rw [← hb, ← hx, ← hX0, ← hY0] at C0 C1
  rw [← hX0] at hX
  rw [← hY0] at hY
  have HXM := hide (show X.length ≤ maxLen by unfold maxLen; omega)
  have HYM := hide (show Y.length ≤ maxLen by unfold maxLen; omega)
  have MK := hide (fun (b : Int) (h0 : 0 ≤ b) (h1 : b ≤ 4611686018427387904) (lo : Nat) (w : World) (v : Value) (h : IntsV lo w v X) => markIntS_from b h0 h1 (by omega) h)
  have ML := hide (fun (b : Int) (h0 : 0 ≤ b) (h1 : b ≤ 4611686018427387904) (lo : Nat) (w : World) (v : Value) (h : IntsV lo w v Y) => markIntS_from b h0 h1 (by omega) h)
  obtain ⟨p, hp⟩ : ∃ p, p = X.length := ⟨_, rfl⟩
  obtain ⟨r, hr⟩ : ∃ r, r = Y.length := ⟨_, rfl⟩
  rw [← hp] at MK hX
  rw [← hr] at ML hY
  have q3 : ((x : Int) == x) = true := by simp
  have q4 : ((x : Int) != x) = false := by simp
  have q5 : (((1 : Int) + (p : Int) + (r : Int)) != (1 : Int) + (p : Int) + (r : Int)) = false := by simp
  have q6 : (((1 : Int) + (p : Int) + (r : Int)) == (1 : Int) + (p : Int) + (r : Int)) = true := by simp
  clear hb hx hX0 hY0 hp hr
  cases b
  all_goals
    go_enter Try.func4, Try.ntmps4
    go_wp2_with fail
    refine (C0.out _).mono ?_
    rintro e w1 ⟨wx, wy, rfl, hi, hj, _, hb⟩
    have WX := hide hi
    have WY := hide hj
    have B1 := hide hb
    clear hi hj hb
    go_wp2_with fail
    refine (C1.out _).mono ?_
    rintro e w2 ⟨gx, gy, rfl, hi, hj, ha, hb⟩
    have AP := hide ha
    have GX := hide hi
    have GY := hide hj
    have Z2 := hide (show Below w1.heap.size w1 w2 from hb)
    clear hi hj hb ha
    go_wp2_with fail
    refine (eqIntS_same HXM.out GX.out (WX.out.below Z2.out (Nat.le_refl _))).mono ?_
    rintro e w3 ⟨rfl, hq⟩
    have GX := hide (hq.ints GX.out)
    have GY := hide (hq.ints GY.out)
    have Z3 := hide (Z2.out.trans (hq.2 _))
    clear hq
    go_wp2_with fail
    refine (eqIntS_same HYM.out GY.out (WY.out.below Z3.out (Nat.le_refl _))).mono ?_
    rintro e w4 ⟨rfl, hq⟩
    have GX := hide (hq.ints GX.out)
    have GY := hide (hq.ints GY.out)
    have Z4 := hide (Z3.out.trans (hq.2 _))
    clear hq
    have M1 := hide (MK.out 1 (by omega) (by omega) _ _ _ GX.out)
    go_wp2_with fail
    refine M1.out.mono ?_
    rintro e w5 ⟨rfl, hb, hi, ho⟩
    have GX := hide hi
    have GY := hide (ho _ _ _ GY.out AP.out.swap)
    have Z5 := hide (Z4.out.trans hb)
    clear hb hi ho M1
    have M2 := hide (ML.out (1 + (p : Int)) (by omega) (by omega) _ _ _ GY.out)
    go_wp2_with fail
    refine M2.out.mono ?_
    rintro e w6 ⟨rfl, hb, hi, ho⟩
    have GY := hide hi
    have GX := hide (ho _ _ _ GX.out AP.out)
    have Z6 := hide (Z5.out.trans hb)
    clear hb hi ho M2
    go_wp2_with fail
    refine (heldIntS_from 1 (by omega) (by omega) (by omega) GX.out).mono ?_
    rintro e w7 ⟨rfl, hq⟩
    have GX := hide (hq.ints GX.out)
    have GY := hide (hq.ints GY.out)
    have Z7 := hide (Z6.out.trans (hq.2 _))
    clear hq
    go_wp2_with fail
    refine (heldIntS_from (1 + (p : Int)) (by omega) (by omega) (by omega) GY.out).mono ?_
    rintro e w8 ⟨rfl, hq⟩
    have GX := hide (hq.ints GX.out)
    have GY := hide (hq.ints GY.out)
    have Z8 := hide (Z7.out.trans (hq.2 _))
    clear hq
    go_wp2_with fail
    refine (C1.out _).mono ?_
    rintro e w9 ⟨hx, hy, rfl, hi, hj, _, hb⟩
    have GX := hide (GX.out.below hb (Nat.le_refl _))
    have GY := hide (GY.out.below hb (Nat.le_refl _))
    have HX := hide hi
    have HY := hide hj
    have Z9 := hide (Z8.out.trans (hb.mono Z8.out.size))
    clear hi hj hb
    go_wp2_with fail
    refine (eqIntS_same HXM.out HX.out (WX.out.below Z9.out (Nat.le_refl _))).mono ?_
    rintro e w10 ⟨rfl, hq⟩
    have GX := hide (hq.ints GX.out)
    have GY := hide (hq.ints GY.out)
    have HY := hide (hq.ints HY.out)
    have Z10 := hide (Z9.out.trans (hq.2 _))
    clear hq
    go_wp2_with fail
    refine (eqIntS_same HYM.out HY.out (WY.out.below Z10.out (Nat.le_refl _))).mono ?_
    rintro e w11 ⟨rfl, hq⟩
    have GX := hide (hq.ints GX.out)
    have GY := hide (hq.ints GY.out)
    have Z11 := hide (Z10.out.trans (hq.2 _))
    clear hq
    go_wp2_with fail
    refine (heldIntS_from 1 (by omega) (by omega) (by omega) GX.out).mono ?_
    rintro e w12 ⟨rfl, hq⟩
    have GY := hide (hq.ints GY.out)
    have Z12 := hide (Z11.out.trans (hq.2 _))
    clear hq
    go_wp2_with fail
    refine (heldIntS_from (1 + (p : Int)) (by omega) (by omega) (by omega) GY.out).mono ?_
    rintro e w13 ⟨rfl, hq⟩
    have Z13 := hide (Z12.out.trans (hq.2 _))
    clear hq
    go_wp2_with fail
    go_ret
    exact ⟨rfl, B1.out.trans (Z13.out.mono B1.out.size)⟩
end Go.Proofs.Ytlgceccbjkkeiab
