/- TEXTS Exact7c. -/
import Derived.Test.Ytlgceccbjkkeiabwax42
/- THE WALK of the law FnExactWaveNext. -/
namespace Go.Proofs.Ytlgceccbjkkeiab
open Go.RowKit

set_option maxRecDepth 100000 in
set_option maxHeartbeats 4000000 in
theorem walkFnExactWaveNext {w : World} (st : Int) (_hst : (Lit.int .i64 st).wf = true) (a : Option Addr) (len cap : Nat) (z : List Int) (hr : IsRow .i64 w a len cap z) (a' : Option Addr) (len' cap' : Nat) (z' : List Int) (hr' : IsRow .i64 w a' len' cap' z') :
    Calls Try.prog 6 #[.int .i64 st, .slice a len cap, .slice a' len' cap'] w fun e w' => e = .returned (.bool true) ∧ Below w.heap.size w w' := by
  have hcap := hr.le
  have hmax := hr.max
  have hcap' := hr'.le
  have hmax' := hr'.max
  unfold maxLen at hmax hmax'
  by_cases hbig : 1048576 < len
  · go_enter Try.func6, Try.ntmps6
    go_wp2
    go_ret
    exact ⟨rfl, Below.refl _ _⟩
  by_cases hbig' : 1048576 < len'
  · go_enter Try.func6, Try.ntmps6
    go_wp2
    go_ret
    exact ⟨rfl, Below.refl _ _⟩
  have hlen := hr.take_len
  have hlen' := hr'.take_len
  have T := hide (fun (w : World) (h : IsRow .i64 w a len cap z) => toIntS_any a len cap z h (by omega))
  have T' := hide (fun (w : World) (h : IsRow .i64 w a' len' cap' z') => toIntS_any a' len' cap' z' h (by omega))
  obtain ⟨R, hR⟩ : ∃ R, R = z.take len := ⟨_, rfl⟩
  obtain ⟨G, hG⟩ : ∃ G, G = z'.take len' := ⟨_, rfl⟩
  rw [← hR] at hlen T
  rw [← hG] at hlen' T'
  clear hR hG
  have hRl : R.length ≤ 1048576 := by omega
  have hGl : G.length ≤ 1048576 := by omega
  have HRM := hide (show R.length ≤ maxLen by unfold maxLen; omega)
  have HGM := hide (show G.length ≤ maxLen by unfold maxLen; omega)
  have S0 := hide (fun (u v : Value) (w : World) (lo lo' : Nat) (h : IntsV lo w u R) (h' : IntsV lo' w v G) => specWaveNext_any st u v R G w hRl hGl h h')
  have S1 := hide (fun (u v : Value) (w : World) (lo lo' : Nat) (h : IntsV lo w u R) (h' : IntsV lo' w v G) => implWaveNext_any st u v R G w hRl hGl h h')
  obtain ⟨b, hb⟩ : ∃ b : Bool, b = wnOk st R G := ⟨_, rfl⟩
  obtain ⟨x, hx⟩ : ∃ x : Int, x = (if wnOk st R G then wnN st R else 0) := ⟨_, rfl⟩
  obtain ⟨X, hX0⟩ : ∃ X, X = (if wnOk st R G then wnR R G else []) := ⟨_, rfl⟩
  obtain ⟨Y, hY0⟩ : ∃ Y, Y = (if wnOk st R G then wnG R G else []) := ⟨_, rfl⟩
  have hX : X.length ≤ 200 ∧ Y.length ≤ 200 := by
    rw [hX0, hY0]
    cases hk : wnOk st R G
    · simp
    · obtain ⟨g1, _, g3, g4, _⟩ := wn_facts hk
      obtain ⟨_, _, _, n2, n3, _⟩ := (wIn_iff st R G).1 g1
      rw [if_pos rfl, if_pos rfl]
      omega
  obtain ⟨hX, hY⟩ := hX
  rw [← hx, ← hX0, ← hY0, ← hb] at S0 S1
  have HXM := hide (show X.length ≤ maxLen by unfold maxLen; omega)
  have HYM := hide (show Y.length ≤ maxLen by unfold maxLen; omega)
  have MX := hide (fun (b : Int) (h0 : 0 ≤ b) (h1 : b ≤ 4611686018427387904) (lo : Nat) (w : World) (v : Value) (h : IntsV lo w v X) => markIntS_from b h0 h1 (by omega) h)
  have MY := hide (fun (b : Int) (h0 : 0 ≤ b) (h1 : b ≤ 4611686018427387904) (lo : Nat) (w : World) (v : Value) (h : IntsV lo w v Y) => markIntS_from b h0 h1 (by omega) h)
  have MR := hide (fun (b : Int) (h0 : 0 ≤ b) (h1 : b ≤ 4611686018427387904) (lo : Nat) (w : World) (v : Value) (h : IntsV lo w v R) => markIntS_from b h0 h1 hRl h)
  have MG := hide (fun (b : Int) (h0 : 0 ≤ b) (h1 : b ≤ 4611686018427387904) (lo : Nat) (w : World) (v : Value) (h : IntsV lo w v G) => markIntS_from b h0 h1 hGl h)
  obtain ⟨p, hp⟩ : ∃ p, p = X.length := ⟨_, rfl⟩
  obtain ⟨r, hr2⟩ : ∃ r, r = Y.length := ⟨_, rfl⟩
  obtain ⟨c, hc⟩ : ∃ c, c = R.length := ⟨_, rfl⟩
  obtain ⟨d, hd⟩ : ∃ d, d = G.length := ⟨_, rfl⟩
  rw [← hp] at MX hX
  rw [← hr2] at MY hY
  rw [← hc] at MR hRl
  rw [← hd] at MG hGl
  have q3 : ((x : Int) == x) = true := by simp
  have q4 : ((x : Int) != x) = false := by simp
  have q5 : (((1 : Int) + (p : Int) + (r : Int)) != (1 : Int) + (p : Int) + (r : Int)) = false := by simp
  have q7 : ¬ ((1 : Int) + (c : Int) + (d : Int) < 0) := by omega
  clear hb hx hX0 hY0 hp hr2 hc hd
  have HR := hide hr
  have HR' := hide hr'
  clear hr hr' hlen hlen'
  cases b
  all_goals
    go_enter Try.func6, Try.ntmps6
    go_wp2_with fail
    refine (T.out _ HR.out).mono ?_
    rintro e w1 ⟨u0, rfl, hi, hb⟩
    have B1 := hide (hb)
    have I0 := hide hi
    clear hi hb
    go_wp2_with fail
    refine (T'.out _ (HR'.out.below B1.out)).mono ?_
    rintro e w2 ⟨v0, rfl, hi, hb⟩
    have I0 := hide (I0.out.below hb (Nat.le_refl _))
    have B2 := hide (B1.out.trans (hb.mono B1.out.size))
    have J0 := hide hi
    clear hi hb
    have C0 := hide (S0.out u0 v0 w2 _ _ I0.out J0.out)
    go_wp2_with fail
    refine (C0.out).mono ?_
    rintro e w3 ⟨wx, wy, rfl, hi, hj, _, hb⟩
    have B3 := hide (B2.out.trans (hb.mono B2.out.size))
    have WX := hide hi
    have WY := hide hj
    have Z3 := hide (Below.refl w3.heap.size w3)
    clear hi hj hb C0 I0 J0
    go_wp2_with fail
    refine (T.out _ (HR.out.below B3.out)).mono ?_
    rintro e w4 ⟨u1, rfl, hi, hb⟩
    have B4 := hide (B3.out.trans (hb.mono B3.out.size))
    have Z4 := hide (Z3.out.trans (hb.mono Z3.out.size))
    have I1 := hide hi
    clear hi hb
    have I14 := I1
    go_wp2_with fail
    refine (T'.out _ (HR'.out.below B4.out)).mono ?_
    rintro e w5 ⟨v1, rfl, hi, hb⟩
    have I1 := hide (I1.out.below hb (Nat.le_refl _))
    have B5 := hide (B4.out.trans (hb.mono B4.out.size))
    have Z5 := hide (Z4.out.trans (hb.mono Z4.out.size))
    have J1 := hide hi
    clear hi hb
    have A11 := hide (ApV.later I14.out J1.out (Nat.le_refl _))
    have C1 := hide (S1.out u1 v1 w5 _ _ I1.out J1.out)
    have I15 := I1
    have J15 := J1
    go_wp2_with fail
    refine (C1.out).mono ?_
    rintro e w6 ⟨gx, gy, rfl, hi, hj, ha, hb⟩
    have I1 := hide (I1.out.below hb (Nat.le_refl _))
    have J1 := hide (J1.out.below hb (Nat.le_refl _))
    have B6 := hide (B5.out.trans (hb.mono B5.out.size))
    have Z6 := hide (Z5.out.trans (hb.mono Z5.out.size))
    have AP := hide ha
    have GX := hide hi
    have GY := hide hj
    clear hi hj hb ha C1
    have A1x := hide (ApV.later I15.out GX.out (Nat.le_refl _))
    have A1y := hide (ApV.later I15.out GY.out (Nat.le_refl _))
    have A2x := hide (ApV.later J15.out GX.out (Nat.le_refl _))
    have A2y := hide (ApV.later J15.out GY.out (Nat.le_refl _))
    clear I14 I15 J15
    go_wp2_with fail
    refine (eqIntS_same HXM.out GX.out (WX.out.below Z6.out (Nat.le_refl _))).mono ?_
    rintro e w7 ⟨rfl, hq⟩
    have I1 := hide (hq.ints I1.out)
    have J1 := hide (hq.ints J1.out)
    have GX := hide (hq.ints GX.out)
    have GY := hide (hq.ints GY.out)
    have B7 := hide (B6.out.trans (hq.2 _))
    have Z7 := hide (Z6.out.trans (hq.2 _))
    clear hq
    go_wp2_with fail
    refine (eqIntS_same HYM.out GY.out (WY.out.below Z7.out (Nat.le_refl _))).mono ?_
    rintro e w8 ⟨rfl, hq⟩
    have I1 := hide (hq.ints I1.out)
    have J1 := hide (hq.ints J1.out)
    have GX := hide (hq.ints GX.out)
    have GY := hide (hq.ints GY.out)
    have B8 := hide (B7.out.trans (hq.2 _))
    have Z8 := hide (Z7.out.trans (hq.2 _))
    clear hq
    go_wp2_with fail
    refine (T.out _ (HR.out.below B8.out)).mono ?_
    rintro e w9 ⟨u2, rfl, hi, hb⟩
    have I1 := hide (I1.out.below hb (Nat.le_refl _))
    have J1 := hide (J1.out.below hb (Nat.le_refl _))
    have GX := hide (GX.out.below hb (Nat.le_refl _))
    have GY := hide (GY.out.below hb (Nat.le_refl _))
    have B9 := hide (B8.out.trans (hb.mono B8.out.size))
    have Z9 := hide (Z8.out.trans (hb.mono Z8.out.size))
    have I2 := hide hi
    clear hi hb
    go_wp2_with fail
    refine (eqIntS_same HRM.out I1.out I2.out).mono ?_
    rintro e w10 ⟨rfl, hq⟩
    have I1 := hide (hq.ints I1.out)
    have J1 := hide (hq.ints J1.out)
    have GX := hide (hq.ints GX.out)
    have GY := hide (hq.ints GY.out)
    have B10 := hide (B9.out.trans (hq.2 _))
    have Z10 := hide (Z9.out.trans (hq.2 _))
    clear hq
    go_wp2_with fail
    refine (T'.out _ (HR'.out.below B10.out)).mono ?_
    rintro e w11 ⟨v2, rfl, hi, hb⟩
    have I1 := hide (I1.out.below hb (Nat.le_refl _))
    have J1 := hide (J1.out.below hb (Nat.le_refl _))
    have GX := hide (GX.out.below hb (Nat.le_refl _))
    have GY := hide (GY.out.below hb (Nat.le_refl _))
    have B11 := hide (B10.out.trans (hb.mono B10.out.size))
    have Z11 := hide (Z10.out.trans (hb.mono Z10.out.size))
    have J2 := hide hi
    clear hi hb
    go_wp2_with fail
    refine (eqIntS_same HGM.out J1.out J2.out).mono ?_
    rintro e w12 ⟨rfl, hq⟩
    have I1 := hide (hq.ints I1.out)
    have J1 := hide (hq.ints J1.out)
    have GX := hide (hq.ints GX.out)
    have GY := hide (hq.ints GY.out)
    have B12 := hide (B11.out.trans (hq.2 _))
    have Z12 := hide (Z11.out.trans (hq.2 _))
    clear hq
    have M0 := hide (MR.out 1 (by omega) (by omega) _ _ _ I1.out)
    go_wp2_with fail
    refine (M0.out).mono ?_
    rintro e w13 ⟨rfl, hb, hi, ho⟩
    have J1 := hide (ho _ _ _ J1.out A11.out.swap)
    have GX := hide (ho _ _ _ GX.out A1x.out.swap)
    have GY := hide (ho _ _ _ GY.out A1y.out.swap)
    have I1 := hide hi
    have Z13 := hide (Z12.out.trans (hb.mono (Nat.le_refl _)))
    have B13 := hide (B12.out.trans (hb.mono B3.out.size))
    clear hb hi ho M0
    have M0 := hide (MG.out (1 + (c : Int)) (by omega) (by omega) _ _ _ J1.out)
    go_wp2_with fail
    refine (M0.out).mono ?_
    rintro e w14 ⟨rfl, hb, hi, ho⟩
    have GX := hide (ho _ _ _ GX.out A2x.out.swap)
    have GY := hide (ho _ _ _ GY.out A2y.out.swap)
    have J1 := hide hi
    have Z14 := hide (Z13.out.trans (hb.mono Z4.out.size))
    have B14 := hide (B13.out.trans (hb.mono B4.out.size))
    clear hb hi ho M0
    clear I1 J1
    go_wp2_with fail
    refine (eqIntS_same HXM.out GX.out (WX.out.below Z14.out (Nat.le_refl _))).mono ?_
    rintro e w15 ⟨rfl, hq⟩
    have GX := hide (hq.ints GX.out)
    have GY := hide (hq.ints GY.out)
    have B15 := hide (B14.out.trans (hq.2 _))
    have Z15 := hide (Z14.out.trans (hq.2 _))
    clear hq
    go_wp2_with fail
    refine (eqIntS_same HYM.out GY.out (WY.out.below Z15.out (Nat.le_refl _))).mono ?_
    rintro e w16 ⟨rfl, hq⟩
    have GX := hide (hq.ints GX.out)
    have GY := hide (hq.ints GY.out)
    have B16 := hide (B15.out.trans (hq.2 _))
    have Z16 := hide (Z15.out.trans (hq.2 _))
    clear hq
    have M0 := hide (MX.out 1 (by omega) (by omega) _ _ _ GX.out)
    go_wp2_with fail
    refine (M0.out).mono ?_
    rintro e w17 ⟨rfl, hb, hi, ho⟩
    have GY := hide (ho _ _ _ GY.out AP.out.swap)
    have GX := hide hi
    have Z17 := hide (Z16.out.trans (hb.mono Z5.out.size))
    have B17 := hide (B16.out.trans (hb.mono B5.out.size))
    clear hb hi ho M0
    have M0 := hide (MY.out (1 + (p : Int)) (by omega) (by omega) _ _ _ GY.out)
    go_wp2_with fail
    refine (M0.out).mono ?_
    rintro e w18 ⟨rfl, hb, hi, ho⟩
    have GX := hide (ho _ _ _ GX.out AP.out)
    have GY := hide hi
    have Z18 := hide (Z17.out.trans (hb.mono Z5.out.size))
    have B18 := hide (B17.out.trans (hb.mono B5.out.size))
    clear hb hi ho M0
    go_wp2_with fail
    refine (heldIntS_from 1 (by omega) (by omega) (by omega) GX.out).mono ?_
    rintro e w19 ⟨rfl, hq⟩
    have GX := hide (hq.ints GX.out)
    have GY := hide (hq.ints GY.out)
    have B19 := hide (B18.out.trans (hq.2 _))
    have Z19 := hide (Z18.out.trans (hq.2 _))
    clear hq
    go_wp2_with fail
    refine (heldIntS_from (1 + (p : Int)) (by omega) (by omega) (by omega) GY.out).mono ?_
    rintro e w20 ⟨rfl, hq⟩
    have GX := hide (hq.ints GX.out)
    have GY := hide (hq.ints GY.out)
    have B20 := hide (B19.out.trans (hq.2 _))
    have Z20 := hide (Z19.out.trans (hq.2 _))
    clear hq
    go_wp2_with fail
    refine (T.out _ (HR.out.below B20.out)).mono ?_
    rintro e w21 ⟨u3, rfl, hi, hb⟩
    have GX := hide (GX.out.below hb (Nat.le_refl _))
    have GY := hide (GY.out.below hb (Nat.le_refl _))
    have B21 := hide (B20.out.trans (hb.mono B20.out.size))
    have Z21 := hide (Z20.out.trans (hb.mono Z20.out.size))
    have I3 := hide hi
    clear hi hb
    go_wp2_with fail
    refine (T'.out _ (HR'.out.below B21.out)).mono ?_
    rintro e w22 ⟨v3, rfl, hi, hb⟩
    have GX := hide (GX.out.below hb (Nat.le_refl _))
    have GY := hide (GY.out.below hb (Nat.le_refl _))
    have I3 := hide (I3.out.below hb (Nat.le_refl _))
    have B22 := hide (B21.out.trans (hb.mono B21.out.size))
    have Z22 := hide (Z21.out.trans (hb.mono Z21.out.size))
    have J3 := hide hi
    clear hi hb
    have C1 := hide (S1.out u3 v3 _ _ _ I3.out J3.out)
    go_wp2_with fail
    refine (C1.out).mono ?_
    rintro e w23 ⟨hx, hy, rfl, hi, hj, _, hb⟩
    have GX := hide (GX.out.below hb (Nat.le_refl _))
    have GY := hide (GY.out.below hb (Nat.le_refl _))
    have B23 := hide (B22.out.trans (hb.mono B22.out.size))
    have Z23 := hide (Z22.out.trans (hb.mono Z22.out.size))
    have HX := hide hi
    have HY := hide hj
    clear hi hj hb C1 I3 J3
    go_wp2_with fail
    refine (eqIntS_same HXM.out HX.out (WX.out.below Z23.out (Nat.le_refl _))).mono ?_
    rintro e w24 ⟨rfl, hq⟩
    have GX := hide (hq.ints GX.out)
    have GY := hide (hq.ints GY.out)
    have HX := hide (hq.ints HX.out)
    have HY := hide (hq.ints HY.out)
    have B24 := hide (B23.out.trans (hq.2 _))
    have Z24 := hide (Z23.out.trans (hq.2 _))
    clear hq
    go_wp2_with fail
    refine (eqIntS_same HYM.out HY.out (WY.out.below Z24.out (Nat.le_refl _))).mono ?_
    rintro e w25 ⟨rfl, hq⟩
    have GX := hide (hq.ints GX.out)
    have GY := hide (hq.ints GY.out)
    have HX := hide (hq.ints HX.out)
    have HY := hide (hq.ints HY.out)
    have B25 := hide (B24.out.trans (hq.2 _))
    have Z25 := hide (Z24.out.trans (hq.2 _))
    clear hq
    go_wp2_with fail
    refine (heldIntS_from 1 (by omega) (by omega) (by omega) GX.out).mono ?_
    rintro e w26 ⟨rfl, hq⟩
    have GX := hide (hq.ints GX.out)
    have GY := hide (hq.ints GY.out)
    have B26 := hide (B25.out.trans (hq.2 _))
    have Z26 := hide (Z25.out.trans (hq.2 _))
    clear hq
    go_wp2_with fail
    refine (heldIntS_from (1 + (p : Int)) (by omega) (by omega) (by omega) GY.out).mono ?_
    rintro e w27 ⟨rfl, hq⟩
    have GX := hide (hq.ints GX.out)
    have GY := hide (hq.ints GY.out)
    have B27 := hide (B26.out.trans (hq.2 _))
    have Z27 := hide (Z26.out.trans (hq.2 _))
    clear hq
    go_wp2_with fail
    go_ret
    exact ⟨rfl, B27.out⟩
end Go.Proofs.Ytlgceccbjkkeiab
