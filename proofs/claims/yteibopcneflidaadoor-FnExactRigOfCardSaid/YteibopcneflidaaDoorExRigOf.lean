/- THE WALK of the exact law of RigOf. -/
import Derived.Test.YteibopcneflidaaDoorSRigOf
import Derived.Test.YteibopcneflidaaDoorRigOfP
import Derived.Test.YteibopcneflidaaDoorLawR
namespace Go.Proofs.YteibopcneflidaaDoor
open Go.RowKit Go.Sort Go.Shelf

theorem rgOf_len (s : ByteArray) : (rgOf s).length ≤ 60 := by
  unfold rgOf
  split
  · rename_i h
    obtain ⟨h1, h2⟩ := (highB_iff s).1 h
    obtain ⟨h3, _⟩ := (levOk_iff s).1 h1
    have := vld_le s h3
    exact ((rgIn_iff _).1 ((rgFits_iff _ _).1 (rc_in h2 (by rw [rvB_length]; exact this)).1).1).2.2
  · exact Nat.zero_le _

set_option maxHeartbeats 4000000 in
theorem walkFnExactRigOf (s : ByteArray) (hs : s.size ≤ maxLen) (w : World) (hE : EtAt w) :
    Calls Tryd.prog 5 #[.string s] w fun e w' => e = .returned (.bool true) ∧ Below w.heap.size w w' := by
  have hs' := hs
  unfold maxLen at hs'
  by_cases hbig : 1048576 < s.size
  · go_enter Tryd.func5, Tryd.ntmps5
    go_wp2
    go_ret
    exact ⟨rfl, Below.refl _ _⟩
  have HE := hide hE
  have SP := hide (fun (w : World) => specRigOf_any s w hs)
  have IM := hide (fun (w : World) (hE : EtAt w) => implRigOf_any s w hE hs)
  have hL := rgOf_len s
  obtain ⟨L, hLe⟩ : ∃ L, L = rgOf s := ⟨_, rfl⟩
  obtain ⟨b, hb⟩ : ∃ b, b = highB s := ⟨_, rfl⟩
  rw [← hLe, ← hb] at SP IM
  rw [← hLe] at hL
  have HLB : Hid (L.length ≤ 1048576) := hide (by omega)
  have EQL := hide (fun (v v' : Value) (w : World) (lo lo' : Nat) (h : PartsV lo w v L) (h' : PartsV lo' w v' L) => eqPartS_same (by have := HLB.out; unfold maxLen; omega) h h')
  obtain ⟨mv, hmv⟩ : ∃ mv, mv = 1 + 2 * (L.length : Int) := ⟨_, rfl⟩
  have hm0 : ¬ (mv < 0) := by omega
  have HMV := hide hmv
  have hbig' : ¬ ((1048576 : Int) < (s.size : Int)) := by omega
  clear hmv hLe hb hE hL hs'
  go_enter Tryd.func5, Tryd.ntmps5
  go_wp2_with fail
  refine (SP.out w).mono ?_
  rintro e w1 ⟨u0, rfl, i1, b1⟩
  have B1 := hide b1
  have S1 := hide b1.size
  have I1 := hide i1.1.into
  clear b1 i1
  go_wp2_with fail
  refine (IM.out w1 (HE.out.below B1.out (Nat.le_refl _))).mono ?_
  rintro e w2 ⟨ug, rfl, i2, b2⟩
  have B2 := hide (B1.out.trans (b2.mono B1.out.size))
  have S2 := hide b2.size
  have I2 := hide (I1.out.below b2 (.inl (Nat.le_refl _)))
  have G2 := hide i2.into
  clear b2 i2 I1
  go_wp2_with fail
  refine (EQL.out _ _ w2 _ _ G2.out.v I2.out.v).mono ?_
  rintro e w3 ⟨rfl, g3⟩
  have B3 := hide (B2.out.trans (g3.below.mono B2.out.size))
  have I3 := hide (I2.out.below g3.below (.inr (Nat.le_refl _)))
  have G3 := hide (G2.out.below g3.below (.inr (Nat.le_refl _)))
  clear g3 I2 G2
  cases b
  all_goals
    go_wp2_with fail
    refine (markPartS_in HLB.out G3.out).mono ?_
    rintro e w4 ⟨he4, ⟨row, hg4, hrow⟩, g4⟩
    rw [← HMV.out] at he4
    subst he4
    have B4 := hide (B3.out.grown hg4 B3.out.size (fun g e => by have := hrow g e; have := S1.out; omega))
    have I4 := hide (I3.out.grown hg4 (fun g e => by have := hrow g e; omega))
    have G4 := hide g4
    have HD := hide (fun (W : World) (h : PartsV w1.heap.size W ug (marksP L.length)) => heldPartS_any HLB.out h)
    rw [← HMV.out] at HD
    clear hg4 hrow g4 I3 G3
    go_wp2_with fail
    refine (HD.out w4 G4.out.v).mono ?_
    rintro e w5 ⟨rfl, q5⟩
    have B5 := hide (B4.out.trans (q5.2 _))
    have I5 := hide (I4.out.below (q5.2 w4.heap.size) (.inr (Nat.le_refl _)))
    have G5 := hide (G4.out.below (q5.2 w4.heap.size) (.inr (Nat.le_refl _)))
    clear q5 I4 G4
    go_wp2_with fail
    refine (IM.out w5 (HE.out.below B5.out (Nat.le_refl _))).mono ?_
    rintro e w6 ⟨uh, rfl, i6, b6⟩
    have B6 := hide (B5.out.trans (b6.mono B5.out.size))
    have I6 := hide (I5.out.below b6 (.inr (Nat.le_refl _)))
    have G6 := hide (G5.out.below b6 (.inr (Nat.le_refl _)))
    have H6 := hide i6
    clear i6 b6 I5 G5
    go_wp2_with fail
    refine (EQL.out _ _ w6 _ _ H6.out I6.out.v).mono ?_
    rintro e w7 ⟨rfl, g7⟩
    have B7 := hide (B6.out.trans (g7.below.mono B6.out.size))
    have G7 := hide (G6.out.below g7.below (.inr (Nat.le_refl _)))
    clear g7
    go_wp2_with fail
    refine (HD.out w7 G7.out.v).mono ?_
    rintro e w8 ⟨rfl, q8⟩
    have B8 := hide (B7.out.trans (q8.2 _))
    clear q8
    go_wp2_with fail
    go_ret
    exact ⟨rfl, B8.out⟩
end Go.Proofs.YteibopcneflidaaDoor
