/- THE WALK of the law of flows. -/
import Derived.Test.YteibopcneflidaaDoorDrawP
import Derived.Test.YteibopcneflidaaDoorDrawR
import Derived.Test.YteibopcneflidaaDoorFlow
import Derived.Test.YteibopcneflidaaDoorSRigFlow
import Derived.Test.YteibopcneflidaaDoorSpec4b
namespace Go.Proofs.YteibopcneflidaaDoor
open Go.RowKit Go.Sort Go.Shelf

/-- a drawing of parts and a room -/
def DrawnPR (w : World) (e : Ending) (w' : World) : Prop := ∃ (v : Value) (l : List (Int × Int)) (n : Int), e = .returned (.tuple #[v, .int .i64 n]) ∧ -1 ≤ n ∧ n ≤ 201 ∧ PartsS w.heap.size w' v l ∧ l.length ≤ 100 ∧ Below w.heap.size w w'

set_option maxHeartbeats 1000000 in
theorem DrawRigFlow_any (a : Option Addr) (len cap : Nat) (z : List Int) (w : World) (hlen : len ≤ 1048576) (hcap : len ≤ cap) (hb : Bytes w a len z) :
    Calls Tryd.prog 16 #[.slice a len cap] w (DrawnPR w) := by
  go_enter Tryd.func16, Tryd.ntmps16
  go_wp2_with fail
  refine (l6Open_any a len cap z w hlen hcap hb).mono ?_
  rintro e w1 ⟨rfl, hr, hb1, hz1⟩
  go_wp2_with fail
  refine (l91Parts_any w1 w.heap.size a _ cap z 0 hr (by omega)).mono ?_
  rintro e w2 ⟨v, l, q, rfl, p2, bd, hl, hq, hr2, hb2⟩
  have P2 := hide p2
  have B2 := hide (hb1.trans hb2)
  have LL := hide hl
  clear hb2 bd hb1 hr hz1 p2 hl
  go_wp2_with fail
  refine (l91Room_any w2 w.heap.size a _ cap z q hr2 (by omega)).mono ?_
  rintro e w3 ⟨x, q3, rfl, x0, x1, _, hr3, hb3, hg3⟩
  have P3 := hide (P2.out.kept hg3 (Nat.lt_succ_self _))
  have B3 := hide (B2.out.trans hb3)
  clear hb3 hg3 hr3
  go_wp2_with fail
  go_ret2
  exact ⟨_, l, _, rfl, by omega, by omega, P3.out.lo (Nat.le_succ _), LL.out, B3.out⟩

/-- what the flows of a list say -/
theorem flow_facts {l : List (Int × Int)} {K : Int} (h : rgFlowOk l K = true) :
    rgFlow l K = l.map (rgAdd K) ∧ rgIn l = true ∧ rgIn (l.map (rgAdd K)) = true ∧ rgSizes (l.map (rgAdd K)) = rgSizes l := by
  have h' := h
  unfold rgFlowOk at h'
  rw [Bool.and_eq_true, Bool.and_eq_true] at h'
  obtain ⟨⟨h1, _⟩, h2⟩ := h'
  refine ⟨by unfold rgFlow; rw [if_pos h], h1, h2, ?_⟩
  unfold rgSizes
  rw [if_pos h1, if_pos h2, add_sizes]
theorem flow_swap {l : List (Int × Int)} {K : Int} (h1 : rgFlowOk (l.map (rgAdd K)) 1 = true) (h2 : rgFlowOk l 1 = true) (h3 : rgFlowOk (rgFlow l 1) K = true) :
    rgFlow (rgFlow l 1) K = rgFlow (l.map (rgAdd K)) 1 := by
  rw [(flow_facts h1).1, (flow_facts h3).1, (flow_facts h2).1, add_swap]
theorem flow_length (l : List (Int × Int)) (K : Int) : (rgFlow l K).length ≤ l.length := by
  unfold rgFlow
  split
  · rw [List.length_map]; exact Nat.le_refl _
  · exact Nat.zero_le _

set_option maxRecDepth 100000 in
set_option maxHeartbeats 4000000 in
theorem walkFnFlow {w : World} (a : Option Addr) (len cap : Nat) (z : List Int) (hr : IsRow .u8 w a len cap z) (hE : EtAt w) :
    Calls Tryd.prog 4 #[.slice a len cap] w fun e w' => e = .returned (.bool true) ∧ Below w.heap.size w w' := by
  have hcap := hr.le
  have hmax := hr.max
  unfold maxLen at hmax
  by_cases hbig : 1048576 < len
  · go_enter Tryd.func4, Tryd.ntmps4
    go_wp2
    go_ret
    exact ⟨rfl, Below.refl _ _⟩
  · have D := hide (DrawRigFlow_any a len cap z w (by omega) hcap hr.bytes)
    have HE := hide hE
    clear hr hE
    go_enter Tryd.func4, Tryd.ntmps4
    go_wp2_with fail
    refine D.out.mono ?_
    rintro e w1 ⟨v, l, K, rfl, m0, m1, hp1, hlen, hb1⟩
    have P1 := hide hp1.1
    have B1 := hide hb1
    have IM := hide (fun (l : List (Int × Int)) (K : Int) (v : Value) (w : World) (lo : Nat) (hE : EtAt w) (h : PartsV lo w v l) (hl : l.length ≤ 100) => implRigFlow_any l v K w hE h (by omega))
    have SP := hide (fun (v : Value) (w : World) (lo : Nat) (h : PartsV lo w v l) => specRigFlow_any l v K w h (by omega))
    have hfl := flow_length l K
    have hmx : (rgFlow l K).length ≤ maxLen := by unfold maxLen; omega
    have EQ := hide (fun (v v' : Value) (w : World) (lo lo' : Nat) (h : PartsV lo w v (rgFlow l K)) (h' : PartsV lo' w v' (rgFlow l K)) => sameParts_same hmx h h')
    have IM1 := hide (IM.out l K v w1 _ (HE.out.below B1.out (Nat.le_refl _)) P1.out hlen)
    have FF := hide (fun (h : rgFlowOk l K = true) => flow_facts h)
    have HLEN := hide hlen
    clear hp1 hb1 hmx hfl hlen
    obtain ⟨u, hu⟩ : ∃ u, u = rgFlow l K := ⟨_, rfl⟩
    cases hok : rgFlowOk l K
    · rw [hok] at IM1 SP
      rw [← hu] at IM1 SP EQ
      clear hok IM hu FF
      go_wp2_with fail
      refine IM1.out.mono ?_
      rintro e w2 ⟨u1, rfl, i2, b2⟩
      have B2 := hide (B1.out.trans (b2.mono B1.out.size))
      have P2 := hide (P1.out.below b2 (Nat.le_refl _))
      have I2 := hide i2
      clear b2 i2
      go_wp2_with fail
      refine (SP.out v w2 _ P2.out).mono ?_
      rintro e w3 ⟨u2, rfl, i3, b3⟩
      have B3 := hide (B2.out.trans (b3.mono B2.out.size))
      have I3 := hide (I2.out.below b3 (Nat.le_refl _))
      have J3 := hide i3.1
      clear b3 i3
      go_wp2_with fail
      refine (EQ.out _ _ w3 _ _ I3.out J3.out).mono ?_
      rintro e w4 ⟨rfl, q4⟩
      have B4 := hide (B3.out.trans (q4.2 _))
      have I4 := hide (I3.out.below (q4.2 w3.heap.size) (Nat.le_refl _))
      have J4 := hide (J3.out.below (q4.2 w3.heap.size) (Nat.le_refl _))
      clear q4
      go_wp2_with fail
      refine (EQ.out _ _ w4 _ _ I4.out J4.out).mono ?_
      rintro e w5 ⟨rfl, q5⟩
      have B5 := hide (B4.out.trans (q5.2 _))
      clear q5
      go_wp2_with fail
      go_ret
      exact ⟨by simp, B5.out⟩
    · obtain ⟨f1, f2, f3, f4⟩ := FF.out hok
      rw [hok] at IM1 SP
      rw [f1] at hu
      rw [f1, ← hu] at IM1 SP EQ
      rw [← hu] at f3 f4
      have hul : u.length = l.length := by rw [hu, List.length_map]
      have hul2 : u.length ≤ 100 := by have := HLEN.out; omega
      have SZl := hide (fun (v : Value) (w : World) (lo : Nat) (hE : EtAt w) (h : PartsV lo w v l) => implRigSizes_any l v w hE h (by have := HLEN.out; omega))
      have SZu := hide (fun (v : Value) (w : World) (lo : Nat) (hE : EtAt w) (h : PartsV lo w v u) => implRigSizes_any u v w hE h (by omega))
      rw [f2] at SZl
      rw [f3, f4] at SZu
      have hsb : (rgSizes l).length ≤ maxLen := by unfold rgSizes maxLen; split <;> simp <;> (have := HLEN.out; omega)
      have EQI := hide (fun (v v' : Value) (w : World) (lo lo' : Nat) (h : IntsV lo w v (rgSizes l)) (h' : IntsV lo' w v' (rgSizes l)) => sameInts_same hsb h h')
      have Fu1 := hide (fun (v : Value) (w : World) (lo : Nat) (hE : EtAt w) (h : PartsV lo w v u) => IM.out u 1 v w lo hE h hul2)
      have Fl1 := hide (fun (v : Value) (w : World) (lo : Nat) (hE : EtAt w) (h : PartsV lo w v l) => IM.out l 1 v w lo hE h HLEN.out)
      have hx1 : (rgFlow l 1).length ≤ 100 := by have := flow_length l 1; have := HLEN.out; omega
      have Fx := hide (fun (v : Value) (w : World) (lo : Nat) (hE : EtAt w) (h : PartsV lo w v (rgFlow l 1)) => IM.out (rgFlow l 1) K v w lo hE h hx1)
      have SW := hide (fun (h1 : rgFlowOk u 1 = true) (h2 : rgFlowOk l 1 = true) (h3 : rgFlowOk (rgFlow l 1) K = true) => flow_swap (l := l) (K := K) (by rw [← hu]; exact h1) h2 h3)
      rw [← hu] at SW
      have hyl : (rgFlow u 1).length ≤ maxLen := by have := flow_length u 1; unfold maxLen; omega
      have EQP := hide (fun (v v' : Value) (w : World) (lo lo' : Nat) (h : PartsV lo w v (rgFlow u 1)) (h' : PartsV lo' w v' (rgFlow u 1)) => sameParts_same hyl h h')
      obtain ⟨sz, hsz⟩ : ∃ z, z = rgSizes l := ⟨_, rfl⟩
      obtain ⟨x, hx⟩ : ∃ z, z = rgFlow u 1 := ⟨_, rfl⟩
      obtain ⟨y, hy⟩ : ∃ z, z = rgFlow (rgFlow l 1) K := ⟨_, rfl⟩
      obtain ⟨b1, hb1⟩ : ∃ z, z = rgFlowOk u 1 := ⟨_, rfl⟩
      obtain ⟨b3, hb3⟩ : ∃ z, z = rgFlowOk (rgFlow l 1) K := ⟨_, rfl⟩
      obtain ⟨f, hf⟩ : ∃ z, z = rgFlow l 1 := ⟨_, rfl⟩
      obtain ⟨b2, hb2⟩ : ∃ z, z = rgFlowOk l 1 := ⟨_, rfl⟩
      rw [← hsz] at SZl SZu EQI
      rw [← hx, ← hb1] at Fu1
      rw [← hx] at EQP
      rw [← hy, ← hb3, ← hf] at Fx
      rw [← hf, ← hb2] at Fl1
      rw [← hx, ← hy, ← hb1, ← hb2, ← hb3] at SW
      clear hok hu f1 f2 f3 f4 hul hul2 hsb hx1 hyl hsz hx hy hb1 hb2 hb3 hf IM FF
      go_wp2_with fail
      refine IM1.out.mono ?_
      rintro e w2 ⟨u1, rfl, i2, q2⟩
      have B2 := hide (B1.out.trans (q2.mono B1.out.size))
      have P2 := hide (P1.out.below q2 (Nat.le_refl _))
      have I2 := hide i2
      clear q2 i2 P1 IM1 B1
      go_wp2_with fail
      refine (SP.out v w2 _ P2.out).mono ?_
      rintro e w3 ⟨u2, rfl, i3, q3⟩
      have B3 := hide (B2.out.trans (q3.mono B2.out.size))
      have P3 := hide (P2.out.below q3 (Nat.le_refl _))
      have I3 := hide (I2.out.below q3 (Nat.le_refl _))
      have J3 := hide i3.1
      clear q3 i3 P2 I2 SP B2
      go_wp2_with fail
      refine (EQ.out _ _ w3 _ _ I3.out J3.out).mono ?_
      rintro e w4 ⟨rfl, q4⟩
      have B4 := hide (B3.out.trans (q4.2 _))
      have P4 := hide (P3.out.below (q4.2 w3.heap.size) (Nat.le_refl _))
      have I4 := hide (I3.out.below (q4.2 w3.heap.size) (Nat.le_refl _))
      have E4 := hide (HE.out.below B4.out (Nat.le_refl _))
      clear q4 P3 I3 J3 EQ B3
      go_wp2_with fail
      refine (SZl.out _ w4 _ E4.out P4.out).mono ?_
      rintro e w5 ⟨za, rfl, i5, q5⟩
      have B5 := hide (B4.out.trans (q5.mono B4.out.size))
      have P5 := hide (P4.out.below q5 (Nat.le_refl _))
      have I5 := hide (I4.out.below q5 (Nat.le_refl _))
      have Z5 := hide i5
      have E5 := hide (HE.out.below B5.out (Nat.le_refl _))
      clear q5 i5 P4 I4 E4 SZl B4
      go_wp2_with fail
      refine (SZu.out _ w5 _ E5.out I5.out).mono ?_
      rintro e w6 ⟨zb, rfl, i6, q6⟩
      have B6 := hide (B5.out.trans (q6.mono B5.out.size))
      have P6 := hide (P5.out.below q6 (Nat.le_refl _))
      have I6 := hide (I5.out.below q6 (Nat.le_refl _))
      have Z6 := hide (Z5.out.below q6 (Nat.le_refl _))
      have Y6 := hide i6
      have E6 := hide (HE.out.below B6.out (Nat.le_refl _))
      clear q6 i6 P5 I5 E5 Z5 SZu B5
      go_wp2_with fail
      refine (Fu1.out _ w6 _ E6.out I6.out).mono ?_
      rintro e w7 ⟨vx, rfl, i7, q7⟩
      have B7 := hide (B6.out.trans (q7.mono B6.out.size))
      have P7 := hide (P6.out.below q7 (Nat.le_refl _))
      have Z7 := hide (Z6.out.below q7 (Nat.le_refl _))
      have Y7 := hide (Y6.out.below q7 (Nat.le_refl _))
      have X7 := hide i7
      have E7 := hide (HE.out.below B7.out (Nat.le_refl _))
      clear q7 i7 P6 I6 E6 Z6 Y6 Fu1 B6
      go_wp2_with fail
      refine (Fl1.out _ w7 _ E7.out P7.out).mono ?_
      rintro e w8 ⟨vf, rfl, i8, q8⟩
      have B8 := hide (B7.out.trans (q8.mono B7.out.size))
      have Z8 := hide (Z7.out.below q8 (Nat.le_refl _))
      have Y8 := hide (Y7.out.below q8 (Nat.le_refl _))
      have X8 := hide (X7.out.below q8 (Nat.le_refl _))
      have F8 := hide i8
      have E8 := hide (HE.out.below B8.out (Nat.le_refl _))
      clear q8 i8 P7 E7 Z7 Y7 X7 Fl1 B7
      go_wp2_with fail
      refine (Fx.out _ w8 _ E8.out F8.out).mono ?_
      rintro e w9 ⟨vy, rfl, i9, q9⟩
      have B9 := hide (B8.out.trans (q9.mono B8.out.size))
      have Z9 := hide (Z8.out.below q9 (Nat.le_refl _))
      have Y9 := hide (Y8.out.below q9 (Nat.le_refl _))
      have X9 := hide (X8.out.below q9 (Nat.le_refl _))
      have W9 := hide i9
      clear q9 i9 E8 Z8 Y8 X8 F8 Fx B8
      have END := hide (fun (W : World) (h : Quiet w9 W) => B9.out.trans (h.2 w.heap.size))
      have EQI9 := hide (EQI.out _ _ w9 _ _ Z9.out Y9.out)
      cases b1
      · clear SW EQP
        go_wp2_with fail
        refine EQI9.out.mono ?_
        rintro e w10 ⟨rfl, q10⟩
        have E10 := hide (END.out _ q10)
        clear q10
        go_wp2_with fail
        go_ret
        exact ⟨rfl, E10.out⟩
      · cases b2
        · clear SW EQP
          go_wp2_with fail
          refine EQI9.out.mono ?_
          rintro e w10 ⟨rfl, q10⟩
          have E10 := hide (END.out _ q10)
          clear q10
          go_wp2_with fail
          go_ret
          exact ⟨rfl, E10.out⟩
        · cases b3
          · clear SW EQP
            go_wp2_with fail
            refine EQI9.out.mono ?_
            rintro e w10 ⟨rfl, q10⟩
            have E10 := hide (END.out _ q10)
            clear q10
            go_wp2_with fail
            go_ret
            exact ⟨rfl, E10.out⟩
          · have hxy := SW.out rfl rfl rfl
            rw [hxy] at W9
            clear SW hxy
            go_wp2_with fail
            refine EQI9.out.mono ?_
            rintro e w10 ⟨rfl, q10⟩
            have EQP10 := hide (EQP.out _ _ w10 _ _ (X9.out.below (q10.2 w9.heap.size) (Nat.le_refl _)) (W9.out.below (q10.2 w9.heap.size) (Nat.le_refl _)))
            have Q10 := hide q10
            clear q10
            go_wp2_with fail
            refine EQP10.out.mono ?_
            rintro e w11 ⟨rfl, q11⟩
            have E11 := hide (END.out _ (Q10.out.trans q11))
            clear q11
            go_wp2_with fail
            go_ret
            exact ⟨rfl, E11.out⟩
end Go.Proofs.YteibopcneflidaaDoor
