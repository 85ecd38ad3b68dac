/- THE WALK of the law of rooms. -/
import Derived.Test.YtgdjcfnmpljaiaaDoorDrawP
import Derived.Test.YtgdjcfnmpljaiaaDoorFit4
import Derived.Test.YtgdjcfnmpljaiaaDoorSpec4b
namespace Go.Proofs.YtgdjcfnmpljaiaaDoor
open Go.RowKit Go.Sort Go.Shelf

theorem roomOk_iff (l : List (Int × Int)) (n j : Int) : rgRoomOk l n j = true ↔ rgIn l = true ∧ (0 ≤ n ∧ n ≤ 120) ∧ 1 ≤ j ∧ j ≤ 60 := by
  unfold rgRoomOk szOne
  rw [Bool.and_eq_true, Bool.and_eq_true, rgBox_iff, Bool.and_eq_true, decide_eq_true_eq, decide_eq_true_eq]
  exact ⟨fun h => ⟨h.1.1, h.1.2, h.2⟩, fun h => ⟨⟨h.1, h.2.1⟩, h.2.2⟩⟩
theorem room_of {l : List (Int × Int)} {n j : Int} (h : rgRoomOk l n j = true) : rgRoom l n j = pRoom l n j := by unfold rgRoom; rw [if_pos h]

set_option maxHeartbeats 4000000 in
theorem walkFnRoom {w : World} (a : Option Addr) (len cap : Nat) (z : List Int) (hr : IsRow .u8 w a len cap z) (hE : EtAt w) :
    Calls Tryd.prog 8 #[.slice a len cap] w fun e w' => e = .returned (.bool true) ∧ Below w.heap.size w w' := by
  have hcap := hr.le
  have hmax := hr.max
  unfold maxLen at hmax
  by_cases hbig : 1048576 < len
  · go_enter Tryd.func8, Tryd.ntmps8
    go_wp2
    go_ret
    exact ⟨rfl, Below.refl _ _⟩
  · have D := hide (DrawRigRoom_any a len cap z w (by omega) hcap hr.bytes)
    have HE := hide hE
    clear hr hE
    go_enter Tryd.func8, Tryd.ntmps8
    go_wp2_with fail
    refine D.out.mono ?_
    rintro e w1 ⟨v, l, n, j, rfl, n0, n1, j0, j1, hp1, _, hlen, hb1⟩
    have P1 := hide hp1.1
    have B1 := hide hb1
    have IM := hide (fun (j : Int) (v : Value) (w : World) (lo : Nat) (hE : EtAt w) (h : PartsV lo w v l) => implRigRoom_any l v n j w hE h (by omega))
    have IE := hide (fun (v : Value) (w : World) (lo : Nat) (hE : EtAt w) (h : PartsV lo w v []) => implRigRoom_any [] v n j w hE h (by simp))
    have SP := hide (fun (v : Value) (w : World) (lo : Nat) (h : PartsV lo w v l) => specRigRoom_any l v n j w h (by omega))
    clear hp1 hb1
    cases hok : rgRoomOk l n j
    · have IMj := hide (IM.out j)
      rw [hok] at IMj SP
      obtain ⟨x, hx⟩ : ∃ x, x = rgRoom l n j := ⟨_, rfl⟩
      rw [← hx] at IMj SP
      clear hok IM IE hx
      go_wp2_with fail
      refine (IMj.out v w1 _ (HE.out.below B1.out (Nat.le_refl _)) P1.out).mono ?_
      rintro e w2 ⟨rfl, b2⟩
      have B2 := hide (B1.out.trans (b2.mono B1.out.size))
      have P2 := hide (P1.out.below b2 (Nat.le_refl _))
      clear b2
      go_wp2_with fail
      refine (SP.out v w2 _ P2.out).mono ?_
      rintro e w3 ⟨rfl, b3⟩
      have B3 := hide (B2.out.trans (b3.mono B2.out.size))
      clear b3
      go_wp2_with fail
      go_ret
      exact ⟨by simp, B3.out⟩
    · obtain ⟨k1, k2, k3⟩ := (roomOk_iff l n j).1 hok
      have e0 : rgRoomOk [] n j = true := (roomOk_iff [] n j).2 ⟨rfl, k2, k3⟩
      have IMj := hide (IM.out j)
      rw [hok, room_of hok] at IMj SP
      rw [e0, room_of e0, show pRoom [] n j = n by unfold pRoom; simp] at IE
      by_cases hj : 58 < j
      · obtain ⟨x, hx⟩ : ∃ x, x = pRoom l n j := ⟨_, rfl⟩
        rw [← hx] at IMj SP
        have hxx : ((x : Int) != x) = false := by simp
        have hnn : ((n : Int) == n) = true := by simp
        clear hok IM hx k1 k2 k3 e0
        go_wp2_with fail
        refine (IMj.out v w1 _ (HE.out.below B1.out (Nat.le_refl _)) P1.out).mono ?_
        rintro e w2 ⟨rfl, b2⟩
        have B2 := hide (B1.out.trans (b2.mono B1.out.size))
        have P2 := hide (P1.out.below b2 (Nat.le_refl _))
        clear b2
        go_wp2_with fail
        refine (SP.out v w2 _ P2.out).mono ?_
        rintro e w3 ⟨rfl, b3⟩
        have B3 := hide (B2.out.trans (b3.mono B2.out.size))
        have B3A := hide (B3.out.alloc B3.out.size (.cells #[] 47))
        have PL := hide (parts_lit w3).1
        clear b3
        go_wp2_with fail
        refine (IE.out _ (w3.alloc (.cells #[] 47)) _ (HE.out.below B3A.out (Nat.le_refl _)) PL.out).mono ?_
        rintro e w4 ⟨rfl, b4⟩
        have B4 := hide (B3A.out.trans (b4.mono B3A.out.size))
        clear b4
        go_wp2_with fail
        go_ret
        exact ⟨by simp, B4.out⟩
      · have e1 : rgRoomOk l n (j + 1) = true := (roomOk_iff l n (j + 1)).2 ⟨k1, k2, by omega⟩
        have e2 : rgRoomOk l n (j + 2) = true := (roomOk_iff l n (j + 2)).2 ⟨k1, k2, by omega⟩
        obtain ⟨s1, s2⟩ := room_steps l n j
        have hsz := (rgIn_iff l).1 k1
        have hl60 := hsz.2.2
        have a0 : ∀ a ∈ l, 0 ≤ a.1 := fun a ha => by have := hsz.1 a ha; omega
        have r0 := room_bd l n j (by omega) a0
        have r1 := room_bd l n (j + 1) (by omega) a0
        have r2 := room_bd l n (j + 2) (by omega) a0
        have IM1 := hide (IM.out (j + 1))
        have IM2 := hide (IM.out (j + 2))
        rw [e1, room_of e1] at IM1
        rw [e2, room_of e2] at IM2
        obtain ⟨x0, hx0⟩ : ∃ x, x = pRoom l n j := ⟨_, rfl⟩
        obtain ⟨x1, hx1⟩ : ∃ x, x = pRoom l n (j + 1) := ⟨_, rfl⟩
        obtain ⟨x2, hx2⟩ : ∃ x, x = pRoom l n (j + 2) := ⟨_, rfl⟩
        rw [← hx0] at IMj SP r0
        rw [← hx1] at IM1 r1
        rw [← hx2] at IM2 r2
        rw [← hx0, ← hx1] at s1
        rw [← hx0, ← hx1, ← hx2] at s2
        have hxx : ((x0 : Int) != x0) = false := by simp
        have hnn : ((n : Int) == n) = true := by simp
        have y0 : -1000000 ≤ x0 ∧ x0 ≤ 1000 := by omega
        have y1 : -1000000 ≤ x1 ∧ x1 ≤ 1000 := by omega
        have y2 : -1000000 ≤ x2 ∧ x2 ≤ 1000 := by omega
        obtain ⟨y01, y02⟩ := y0
        obtain ⟨y11, y12⟩ := y1
        obtain ⟨y21, y22⟩ := y2
        have t1 : decide (x1 ≤ x0) = true := by simpa using s1
        have t2 : decide (x1 - x2 ≤ x0 - x1) = true := by simpa using s2
        clear hok IM hx0 hx1 hx2 k1 k2 k3 e0 e1 e2 hsz a0 r0 r1 r2 hl60
        go_wp2_with fail
        refine (IMj.out v w1 _ (HE.out.below B1.out (Nat.le_refl _)) P1.out).mono ?_
        rintro e w2 ⟨rfl, b2⟩
        have B2 := hide (B1.out.trans (b2.mono B1.out.size))
        have P2 := hide (P1.out.below b2 (Nat.le_refl _))
        clear b2
        go_wp2_with fail
        refine (SP.out v w2 _ P2.out).mono ?_
        rintro e w3 ⟨rfl, b3⟩
        have B3 := hide (B2.out.trans (b3.mono B2.out.size))
        have P3 := hide (P2.out.below b3 (Nat.le_refl _))
        have B3A := hide (B3.out.alloc B3.out.size (.cells #[] 47))
        have P3A := hide (P3.out.below ((Below.refl w3.heap.size w3).alloc (Nat.le_refl _) (.cells #[] 47)) (Nat.le_refl _))
        have PL := hide (parts_lit w3).1
        clear b3
        go_wp2_with fail
        refine (IE.out _ (w3.alloc (.cells #[] 47)) _ (HE.out.below B3A.out (Nat.le_refl _)) PL.out).mono ?_
        rintro e w4 ⟨rfl, b4⟩
        have B4 := hide (B3A.out.trans (b4.mono B3A.out.size))
        have P4 := hide (P3A.out.below b4 (Nat.le_refl _))
        clear b4
        go_wp2_with fail
        refine (IM1.out v w4 _ (HE.out.below B4.out (Nat.le_refl _)) P4.out).mono ?_
        rintro e w5 ⟨rfl, b5⟩
        have B5 := hide (B4.out.trans (b5.mono B4.out.size))
        have P5 := hide (P4.out.below b5 (Nat.le_refl _))
        clear b5
        go_wp2_with fail
        refine (IM2.out v w5 _ (HE.out.below B5.out (Nat.le_refl _)) P5.out).mono ?_
        rintro e w6 ⟨rfl, b6⟩
        have B6 := hide (B5.out.trans (b6.mono B5.out.size))
        clear b6
        go_wp2_with fail
        go_ret
        exact ⟨by simp, B6.out⟩
end Go.Proofs.YtgdjcfnmpljaiaaDoor
