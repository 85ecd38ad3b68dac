/- TEXTS PRigOf. -/
import Derived.Test.YteibopcneflidabGreatDoorRo14
import Derived.Test.YteibopcneflidabGreatDoorRo40
import Derived.Test.YteibopcneflidabGreatDoorRo41
import Derived.Test.YteibopcneflidabGreatDoorRo39
import Derived.Test.YteibopcneflidabGreatDoorRo38
import Derived.Test.YteibopcneflidabGreatDoorRo13
import Derived.Test.YteibopcneflidabGreatDoorRo44
/- THE WALKS of the laws of the rigged partitions of high rows. -/
namespace Go.Proofs.YteibopcneflidabGreatDoor
open Go.RowKit Go.Sort Go.Shelf

set_option maxRecDepth 100000 in
set_option maxHeartbeats 4000000 in
theorem walkFnRigOf {w : World} (a : Option Addr) (len cap : Nat) (z : List Int) (hr : IsRow .u8 w a len cap z) (hE : EtAt w) :
    Calls Tryz.prog 3 #[.slice a len cap] w fun e w' => e = .returned (.bool true) ∧ Below w.heap.size w w' := by
  have hcap := hr.le
  have hmax := hr.max
  unfold maxLen at hmax
  by_cases hbig : 1048576 < len
  · go_enter Tryz.func3, Tryz.ntmps3
    go_wp2
    go_ret
    exact ⟨rfl, Below.refl _ _⟩
  · have D := hide (DrawRigOf_any a len cap z w (by omega) hcap hr.bytes)
    have HE := hide hE
    clear hr hE
    go_enter Tryz.func3, Tryz.ntmps3
    go_wp2_with fail
    refine D.out.mono ?_
    rintro e w1 ⟨s, rfl, hs, hb1⟩
    have B1 := hide hb1
    have hs' : s.size ≤ maxLen := by unfold maxLen; omega
    have IM := hide (fun (w : World) (hE : EtAt w) => implRigOf_any s w hE hs')
    have SP := hide (fun (w : World) => specRigOf_any s w hs')
    have hl60 := rgOf_length s
    have EQ := hide (fun (v v' : Value) (w : World) (lo lo' : Nat) (h : PartsV lo w v (rgOf s)) (h' : PartsV lo' w v' (rgOf s)) => sameParts_same (by unfold maxLen; omega) h h')
    clear hb1
    cases hok : highB s
    · rw [hok] at IM SP
      obtain ⟨l, hl⟩ : ∃ l, l = rgOf s := ⟨_, rfl⟩
      rw [← hl] at IM SP EQ
      clear hok hl hl60
      go_wp2_with fail
      refine (IM.out w1 (HE.out.below B1.out (Nat.le_refl _))).mono ?_
      rintro e w2 ⟨u1, rfl, i2, b2⟩
      have B2 := hide (B1.out.trans (b2.mono B1.out.size))
      have I2 := hide i2
      clear b2 i2
      go_wp2_with fail
      refine (SP.out w2).mono ?_
      rintro e w3 ⟨u2, rfl, i3, b3⟩
      have B3 := hide (B2.out.trans (b3.mono B2.out.size))
      have I3 := hide (I2.out.below b3 (Nat.le_refl _))
      have J3 := hide i3.1
      clear b3 i3
      go_wp2_with fail
      refine (EQ.out _ _ w3 _ _ I3.out J3.out).mono ?_
      rintro e w4 ⟨rfl, q4⟩
      have B4 := hide (B3.out.trans (q4.2 _))
      have I4 := hide (I3.out.below (q4.2 w3.heap.size) (Nat.le_refl _))
      have J4 := hide (J3.out.below (q4.2 w3.heap.size) (Nat.le_refl _))
      clear q4
      go_wp2_with fail
      refine (EQ.out _ _ w4 _ _ I4.out J4.out).mono ?_
      rintro e w5 ⟨rfl, q5⟩
      have B5 := hide (B4.out.trans (q5.2 _))
      clear q5
      go_wp2_with fail
      go_ret
      exact ⟨by simp, B5.out⟩
    · obtain ⟨f1, f2, f3⟩ := rigOf_facts hok
      obtain ⟨h1, _, _, h120, _⟩ := high_parts hok
      have RO := hide (fun (v : Value) (w : World) (lo : Nat) (hE : EtAt w) (h : PartsV lo w v (rgOf s)) => implRigRow_any (rgOf s) v (s.size : Int) w hE h (by omega))
      have RT := hide (fun (v : Value) (w : World) (lo : Nat) (hE : EtAt w) (h : PartsV lo w v (rgOf s)) => implRigFits_any (rgOf s) v (s.size : Int) w hE h (by omega))
      have RS := hide (fun (v : Value) (w : World) (lo : Nat) (hE : EtAt w) (h : PartsV lo w v (rgOf s)) => implRigSizes_any (rgOf s) v w hE h (by omega))
      have SH := hide (fun (w : World) => implShapeOf_any s w hs')
      have g1 : rgIn (rgOf s) = true := ((rgFits_iff _ _).1 f1).1
      have e1 : rgSizes (rgOf s) = shR s := by unfold rgSizes; rw [g1, if_pos rfl]; exact f3
      have hm : (shR s).length ≤ maxLen := by rw [← f3, List.length_map]; unfold maxLen; omega
      have EI := hide (fun (v v' : Value) (w : World) (lo lo' : Nat) (h : IntsV lo w v (shR s)) (h' : IntsV lo' w v' (shR s)) => sameInts_same hm h h')
      rw [f1, f2] at RO
      rw [f1] at RT
      rw [g1, e1] at RS
      rw [h1] at SH
      rw [hok] at IM SP
      obtain ⟨l, hl⟩ : ∃ l, l = rgOf s := ⟨_, rfl⟩
      obtain ⟨t, ht⟩ : ∃ t, t = shR s := ⟨_, rfl⟩
      rw [← hl] at IM SP EQ RO RT RS
      rw [← ht] at RS SH EI
      clear hok hl ht hl60 f1 f2 f3 h1 g1 e1 hm
      go_wp2_with fail
      refine (IM.out w1 (HE.out.below B1.out (Nat.le_refl _))).mono ?_
      rintro e w2 ⟨u1, rfl, i2, b2⟩
      have B2 := hide (B1.out.trans (b2.mono B1.out.size))
      have I2 := hide i2
      clear b2 i2
      go_wp2_with fail
      refine (SP.out w2).mono ?_
      rintro e w3 ⟨u2, rfl, i3, b3⟩
      have B3 := hide (B2.out.trans (b3.mono B2.out.size))
      have I3 := hide (I2.out.below b3 (Nat.le_refl _))
      have J3 := hide i3.1
      clear b3 i3
      go_wp2_with fail
      refine (EQ.out _ _ w3 _ _ I3.out J3.out).mono ?_
      rintro e w4 ⟨rfl, q4⟩
      have B4 := hide (B3.out.trans (q4.2 _))
      have I4 := hide (I3.out.below (q4.2 w3.heap.size) (Nat.le_refl _))
      clear q4 I3 J3
      go_wp2_with fail
      refine (RO.out _ w4 _ (HE.out.below B4.out (Nat.le_refl _)) I4.out).mono ?_
      rintro e w5 ⟨rfl, b5⟩
      have B5 := hide (B4.out.trans (b5.mono B4.out.size))
      have I5 := hide (I4.out.below b5 (Nat.le_refl _))
      clear b5 I4
      go_wp2_with fail
      refine (RS.out _ w5 _ (HE.out.below B5.out (Nat.le_refl _)) I5.out).mono ?_
      rintro e w6 ⟨za, rfl, i6, b6⟩
      have B6 := hide (B5.out.trans (b6.mono B5.out.size))
      have I6 := hide (I5.out.below b6 (Nat.le_refl _))
      have Z6 := hide i6
      clear b6 i6 I5
      go_wp2_with fail
      refine (SH.out w6).mono ?_
      rintro e w7 ⟨zb, rfl, i7, b7⟩
      have B7 := hide (B6.out.trans (b7.mono B6.out.size))
      have I7 := hide (I6.out.below b7 (Nat.le_refl _))
      have Z7 := hide (Z6.out.below b7 (Nat.le_refl _))
      have Y7 := hide i7
      clear b7 i7 I6 Z6
      go_wp2_with fail
      refine (EI.out _ _ w7 _ _ Z7.out Y7.out).mono ?_
      rintro e w8 ⟨rfl, q8⟩
      have B8 := hide (B7.out.trans (q8.2 _))
      have I8 := hide (I7.out.below (q8.2 w7.heap.size) (Nat.le_refl _))
      clear q8 I7
      go_wp2_with fail
      refine (RT.out _ w8 _ (HE.out.below B8.out (Nat.le_refl _)) I8.out).mono ?_
      rintro e w9 ⟨rfl, b9⟩
      have B9 := hide (B8.out.trans (b9.mono B8.out.size))
      clear b9
      go_wp2_with fail
      go_ret
      exact ⟨rfl, B9.out⟩
end Go.Proofs.YteibopcneflidabGreatDoor
