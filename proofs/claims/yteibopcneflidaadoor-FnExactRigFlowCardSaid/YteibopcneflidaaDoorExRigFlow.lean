/- THE WALK of the exact law of RigFlow. -/
import Derived.Test.YteibopcneflidaaDoorSRigFlow
import Derived.Test.YteibopcneflidaaDoorFlow
import Derived.Test.YteibopcneflidaaDoorLawR
namespace Go.Proofs.YteibopcneflidaaDoor
open Go.RowKit Go.Sort Go.Shelf

set_option maxHeartbeats 4000000 in
theorem walkFnExactRigFlow {w : World} (a : Option Addr) (len cap : Nat) (l : List (Int × Int)) (hr : IsPairs w a len cap l) (K : Int) (_hK : (Lit.int .i64 K).wf = true) (hE : EtAt w) :
    Calls Tryd.prog 3 #[.slice a len cap, .int .i64 K] w fun e w' => e = .returned (.bool true) ∧ Below w.heap.size w w' := by
  have hcap := hr.2.2.1
  have hlc := hr.2.1
  have CZ := szPartS_any a len cap w (by unfold maxLen at hcap; omega)
  by_cases hbig : len ≤ 1048576
  · have CZ2 := hide CZ
    rw [if_pos hbig] at CZ2
    have h0 : ¬ ((1048576 : Int) - (len : Int) < 0) := by omega
    have T := hide (fun (w : World) (h : IsPairs w a len cap l) => toPartS_any a len cap l h hbig)
    have HR := hide hr
    have HE := hide hE
    have hll := hr.1
    have SP := hide (fun (v : Value) (w : World) (lo : Nat) (h : PartsV lo w v l) => specRigFlowV_any l v K w h (by omega))
    have IM := hide (fun (v : Value) (w : World) (lo : Nat) (hE : EtAt w) (h : PartsV lo w v l) => implRigFlow_any l v K w hE h (by omega))
    have hm : l.length ≤ maxLen := by unfold maxLen; omega
    have EQ := hide (fun (v v' : Value) (w : World) (lo lo' : Nat) (h : PartsV lo w v l) (h' : PartsV lo' w v' l) => eqPartS_same hm h h')
    have MP := hide (fun (lo hi : Nat) (v : Value) (w : World) (h : PartsIn lo hi w v l) => markPartS_in (by omega) h)
    have hLb : (rgFlow l K).length ≤ 1048576 := by unfold rgFlow; split <;> simp; omega
    obtain ⟨L, hL⟩ : ∃ L, L = rgFlow l K := ⟨_, rfl⟩
    obtain ⟨b, hb⟩ : ∃ b, b = rgFlowOk l K := ⟨_, rfl⟩
    rw [← hL, ← hb] at SP IM
    rw [← hL] at hLb
    have hLm : L.length ≤ maxLen := by unfold maxLen; omega
    have EQL := hide (fun (v v' : Value) (w : World) (lo lo' : Nat) (h : PartsV lo w v L) (h' : PartsV lo' w v' L) => eqPartS_same hLm h h')
    have hk0 : ¬ ((1 : Int) + 2 * (l.length : Int) < 0) := by omega
    have hm0 : ¬ (1 + 2 * (L.length : Int) < 0) := by omega
    obtain ⟨kv, hkv⟩ : ∃ kv, kv = (1 : Int) + 2 * (l.length : Int) := ⟨_, rfl⟩
    obtain ⟨mv, hmv⟩ : ∃ mv, mv = 1 + 2 * (L.length : Int) := ⟨_, rfl⟩
    rw [← hkv] at MP hk0
    rw [← hmv] at hm0
    have HLB := hide hLb
    have HMV := hide hmv
    clear hkv hmv hL hb hr hE hll hm hcap hlc CZ hLm
    go_enter Tryd.func3, Tryd.ntmps3
    go_wp2_with fail
    refine CZ2.out.mono ?_
    rintro e w' ⟨rfl, rfl⟩
    go_wp2_with fail
    refine (T.out w HR.out).mono ?_
    rintro e w1 ⟨v1, rfl, p1, b1⟩
    have B1 := hide b1
    go_wp2_with fail
    refine (SP.out v1 w1 _ p1).mono ?_
    rintro e w2 ⟨u0, rfl, i2, b2⟩
    have B2 := hide (B1.out.trans (b2.mono B1.out.size))
    have S12 := hide b2.size
    have I2 := hide i2.into
    clear p1 b1 b2 i2
    go_wp2_with fail
    refine (T.out w2 (HR.out.below B2.out)).mono ?_
    rintro e w3 ⟨v3, rfl, p3, b3⟩
    have B3 := hide (B2.out.trans (b3.mono B2.out.size))
    have S23 := hide b3.size
    have I3 := hide (I2.out.below b3 (.inr (Nat.le_refl _)))
    have X3 := hide p3.into
    clear p3 b3 I2
    go_wp2_with fail
    refine (IM.out v3 w3 _ (HE.out.below B3.out (Nat.le_refl _)) X3.out.v).mono ?_
    rintro e w4 ⟨ug, rfl, i4, b4⟩
    have B4 := hide (B3.out.trans (b4.mono B3.out.size))
    have S34 := hide b4.size
    have I4 := hide (I3.out.below b4 (.inr (Nat.le_refl _)))
    have X4 := hide (X3.out.below b4 (.inr (Nat.le_refl _)))
    have G4 := hide i4.into
    clear i4 b4 I3 X3
    cases b
    all_goals
      go_wp2_with fail
      refine (EQL.out _ _ w4 _ _ G4.out.v I4.out.v).mono ?_
      rintro e w5 ⟨rfl, g5⟩
      have Q5 := hide g5.below
      have S5 := hide g5.below.size
      clear g5
      have B5 := hide (B4.out.trans (Q5.out.mono B4.out.size))
      have I5 := hide (I4.out.below Q5.out (.inr (Nat.le_refl _)))
      have X5 := hide (X4.out.below Q5.out (.inr (Nat.le_refl _)))
      have G5 := hide (G4.out.below Q5.out (.inr (Nat.le_refl _)))
      clear I4 X4 G4
      go_wp2_with fail
      refine (T.out w5 (HR.out.below B5.out)).mono ?_
      rintro e w6 ⟨v6, rfl, p6, b6⟩
      have B6 := hide (B5.out.trans (b6.mono B5.out.size))
      have I6 := hide (I5.out.below b6 (.inr (Nat.le_refl _)))
      have X6 := hide (X5.out.below b6 (.inr (Nat.le_refl _)))
      have G6 := hide (G5.out.below b6 (.inr (Nat.le_refl _)))
      have P6 := hide p6
      clear p6 b6 I5 X5 G5
      go_wp2_with fail
      refine (EQ.out v3 v6 w6 _ _ X6.out.v P6.out).mono ?_
      rintro e w7 ⟨rfl, g7⟩
      have B7 := hide (B6.out.trans (g7.below.mono B6.out.size))
      have I7 := hide (I6.out.below g7.below (.inr (Nat.le_refl _)))
      have X7 := hide (X6.out.below g7.below (.inr (Nat.le_refl _)))
      have G7 := hide (G6.out.below g7.below (.inr (Nat.le_refl _)))
      clear g7 I6 X6 G6
      go_wp2_with fail
      refine (MP.out _ _ v3 w7 X7.out).mono ?_
      rintro e w8 ⟨rfl, ⟨row, hg8, hrow⟩, _⟩
      have B8 := hide (B7.out.grown hg8 B7.out.size (fun g e => by have := hrow g e; have := B2.out.size; omega))
      have I8 := hide (I7.out.grown hg8 (fun g e => by have := hrow g e; omega))
      have G8 := hide (G7.out.grown hg8 (fun g e => by have := hrow g e; omega))
      clear hg8 hrow I7 X7 G7
      go_wp2_with fail
      refine (EQL.out _ _ w8 _ _ G8.out.v I8.out.v).mono ?_
      rintro e w9 ⟨rfl, g9⟩
      have Q9 := hide g9.below
      have S9 := hide g9.below.size
      clear g9
      have B9 := hide (B8.out.trans (Q9.out.mono B8.out.size))
      have I9 := hide (I8.out.below Q9.out (.inr (Nat.le_refl _)))
      have G9 := hide (G8.out.below Q9.out (.inr (Nat.le_refl _)))
      clear I8 G8
      go_wp2_with fail
      refine (markPartS_in HLB.out G9.out).mono ?_
      rintro e w10 ⟨he10, ⟨row, hg10, hrow⟩, g10⟩
      rw [← HMV.out] at he10
      subst he10
      have B10 := hide (B9.out.grown hg10 B9.out.size (fun g e => by have := hrow g e; have := B3.out.size; omega))
      have I10 := hide (I9.out.grown hg10 (fun g e => by have := hrow g e; have := S23.out; omega))
      have G10 := hide g10
      have HD := hide (fun (W : World) (h : PartsV w3.heap.size W ug (marksP L.length)) => heldPartS_any HLB.out h)
      rw [← HMV.out] at HD
      clear hg10 hrow g10
      clear I9 G9
      go_wp2_with fail
      refine (HD.out w10 G10.out.v).mono ?_
      rintro e w11 ⟨rfl, q11⟩
      have B11 := hide (B10.out.trans (q11.2 _))
      have I11 := hide (I10.out.below (q11.2 w10.heap.size) (.inr (Nat.le_refl _)))
      have G11 := hide (G10.out.below (q11.2 w10.heap.size) (.inr (Nat.le_refl _)))
      clear q11 I10 G10
      go_wp2_with fail
      refine (T.out w11 (HR.out.below B11.out)).mono ?_
      rintro e w12 ⟨v12, rfl, p12, b12⟩
      have B12 := hide (B11.out.trans (b12.mono B11.out.size))
      have I12 := hide (I11.out.below b12 (.inr (Nat.le_refl _)))
      have G12 := hide (G11.out.below b12 (.inr (Nat.le_refl _)))
      have P12 := hide p12
      clear p12 b12 I11 G11
      go_wp2_with fail
      refine (IM.out v12 w12 _ (HE.out.below B12.out (Nat.le_refl _)) P12.out).mono ?_
      rintro e w13 ⟨uh, rfl, i13, b13⟩
      have B13 := hide (B12.out.trans (b13.mono B12.out.size))
      have I13 := hide (I12.out.below b13 (.inr (Nat.le_refl _)))
      have G13 := hide (G12.out.below b13 (.inr (Nat.le_refl _)))
      have H13 := hide i13.into
      clear i13 b13 I12 G12
      go_wp2_with fail
      refine (EQL.out _ _ w13 _ _ H13.out.v I13.out.v).mono ?_
      rintro e w14 ⟨rfl, g14⟩
      have Q14 := hide g14.below
      have S14 := hide g14.below.size
      clear g14
      have B14 := hide (B13.out.trans (Q14.out.mono B13.out.size))
      have G14 := hide (G13.out.below Q14.out (.inr (Nat.le_refl _)))
      go_wp2_with fail
      refine (HD.out w14 G14.out.v).mono ?_
      rintro e w15 ⟨rfl, q15⟩
      have B15 := hide (B14.out.trans (q15.2 _))
      clear q15
      go_wp2_with fail
      go_ret
      exact ⟨rfl, B15.out⟩
  · have CZ2 := hide CZ
    rw [if_neg hbig] at CZ2
    clear hr hE hcap hlc CZ
    go_enter Tryd.func3, Tryd.ntmps3
    go_wp2_with fail
    refine CZ2.out.mono ?_
    rintro e w' ⟨rfl, rfl⟩
    go_wp2_with fail
    go_ret
    exact ⟨rfl, Below.refl _ _⟩
end Go.Proofs.YteibopcneflidaaDoor
