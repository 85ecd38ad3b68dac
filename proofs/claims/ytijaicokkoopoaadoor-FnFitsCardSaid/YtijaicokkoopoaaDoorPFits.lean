/- THE WALK of the law of fitting. -/
import Derived.Test.YtijaicokkoopoaaDoorDrawF
import Derived.Test.YtijaicokkoopoaaDoorFit4
import Derived.Test.YtijaicokkoopoaaDoorSpec4b
namespace Go.Proofs.YtijaicokkoopoaaDoor
open Go.RowKit Go.Sort Go.Shelf

theorem fits_room {l : List (Int × Int)} {n : Int} (h : rgFits l n = true) {x : Int × Int} (hx : x ∈ l) : rgRoomOk l n x.1 = true ∧ rgRoom l n x.1 = pRoom l n x.1 ∧ x.2 ≤ pRoom l n x.1 := by
  obtain ⟨h1, h2, h3⟩ := (rgFits_iff l n).1 h
  have hok : rgRoomOk l n x.1 = true := by
    have := ((rgIn_iff l).1 h1).1 x hx
    unfold rgRoomOk szOne
    rw [h1, (rgBox_iff n).2 h2]
    simp
    omega
  exact ⟨hok, by unfold rgRoom; rw [if_pos hok], h3 x hx⟩

set_option maxRecDepth 100000 in
set_option maxHeartbeats 4000000 in
theorem walkFnFits {w : World} (a : Option Addr) (len cap : Nat) (z : List Int) (hr : IsRow .u8 w a len cap z) (hE : EtAt w) :
    Calls Tryd.prog 3 #[.slice a len cap] w fun e w' => e = .returned (.bool true) ∧ Below w.heap.size w w' := by
  have hcap := hr.le
  have hmax := hr.max
  unfold maxLen at hmax
  by_cases hbig : 1048576 < len
  · go_enter Tryd.func3, Tryd.ntmps3
    go_wp2
    go_ret
    exact ⟨rfl, Below.refl _ _⟩
  · have D := hide (DrawRigFits_any a len cap z w (by omega) hcap hr.bytes)
    have HE := hide hE
    clear hr hE
    go_enter Tryd.func3, Tryd.ntmps3
    go_wp2_with fail
    refine D.out.mono ?_
    rintro e w1 ⟨v, l, m, rfl, m0, m1, hp1, _, hlen, hb1⟩
    have P1 := hide hp1
    have B1 := hide hb1
    have IM := hide (fun (m : Int) (v : Value) (w : World) (lo : Nat) (hE : EtAt w) (h : PartsV lo w v l) => implRigFits_any l v m w hE h (by omega))
    have SP := hide (fun (v : Value) (w : World) (lo : Nat) (h : PartsV lo w v l) => specRigFits_any l v m w h (by omega))
    clear hp1 hb1
    have IMm := hide (IM.out m)
    cases hok : rgFits l m
    · rw [hok] at IMm SP
      clear hok IM
      go_wp2_with fail
      refine (IMm.out v w1 _ (HE.out.below B1.out (Nat.le_refl _)) P1.out.1).mono ?_
      rintro e w2 ⟨rfl, b2⟩
      have B2 := hide (B1.out.trans (b2.mono B1.out.size))
      have P2 := hide (P1.out.below b2 (Nat.le_refl _))
      clear b2
      go_wp2_with fail
      refine (SP.out v w2 _ P2.out.1).mono ?_
      rintro e w3 ⟨rfl, b3⟩
      have B3 := hide (B2.out.trans (b3.mono B2.out.size))
      clear b3
      go_wp2_with fail
      go_ret
      exact ⟨by simp, B3.out⟩
    · have hbox := ((rgFits_iff l m).1 hok).2.1
      have ROOM := hide (fun (j : Int) (v : Value) (w : World) (lo : Nat) (hE : EtAt w) (h : PartsV lo w v l) => implRigRoom_any l v m j w hE h (by omega))
      have FR := hide (fun (x : Int × Int) (hx : x ∈ l) => fits_room hok hx)
      have MORE := hide (fun (h : m < 120) => fits_more hok h)
      rw [hok] at IMm SP
      obtain ⟨n, hn⟩ : ∃ n, l.length = n := ⟨_, rfl⟩
      rw [hn] at hlen
      obtain ⟨_, g, c, rfl, q1, q2, q3, q4⟩ := P1.out
      rw [hn] at P1 q1 ⊢
      have HNN := hide hn
      have HC1 := hide q4
      obtain ⟨mb0, mb1⟩ := hbox
      clear hok hn q4 q2
      go_wp2_with fail
      refine (IMm.out _ w1 _ (HE.out.below B1.out (Nat.le_refl _)) P1.out.1).mono ?_
      rintro e w2 ⟨rfl, b2⟩
      have B2 := hide (B1.out.trans (b2.mono B1.out.size))
      have P2 := hide (P1.out.below b2 (Nat.le_refl _))
      have HC2 := hide (HC1.out.below' b2 (Nat.le_refl _))
      clear b2
      go_wp2_with fail
      refine (SP.out _ w2 _ P2.out.1).mono ?_
      rintro e w3 ⟨rfl, b3⟩
      have B3 := hide (B2.out.trans (b3.mono B2.out.size))
      have P3 := hide (P2.out.below b3 (Nat.le_refl _))
      have HC3 := hide (HC2.out.below' b3 (Nat.le_refl _))
      clear b3 P1 P2 HC1 HC2 B1 B2 IMm SP q3
      go_wp2_with fail
      go_loopw [7] (fun i wr => ∃ k : Nat, k ≤ n ∧ i = .int .i64 (k : Int) ∧ Hid (Below w3.heap.size w3 wr)) (fun i _ => n - (intOf i).toNat)
      case atStart => exact ⟨0, Nat.zero_le _, rfl, Below.refl _ _⟩
      case round =>
        obtain ⟨k, hk, rfl, HW⟩ := hrel
        have BW := hide (B3.out.trans (HW.out.mono B3.out.size))
        have PW := hide (P3.out.below HW.out (Nat.le_refl _))
        have EW := hide (HE.out.below BW.out (Nat.le_refl _))
        by_cases hlt : k < n
        · obtain ⟨x, hx⟩ : ∃ x, l[k]? = some x := ⟨_, List.getElem?_eq_getElem (by rw [HNN.out]; exact hlt)⟩
          obtain ⟨g1, g2⟩ := encZ_get l k x hx
          have hcw := HC3.out.below' HW.out (Nat.le_refl _)
          have c1 : wr.cell? ⟨g, k * 2, none⟩ = some (.int .i64 x.1) := (hcw _ _ g1).1
          have HC2' : Hid (∀ W, Below wr.heap.size wr W → W.cell? ⟨g, k * 2 + 1, none⟩ = some (.int .i64 x.2)) := hide (fun W hW => ((hcw.below' hW (Nat.le_refl _)) _ _ g2).1)
          obtain ⟨f1, f2, f3⟩ := FR.out x (List.mem_of_getElem? hx)
          have RW := hide (ROOM.out x.1 _ wr _ EW.out PW.out.1)
          rw [f1, f2] at RW
          obtain ⟨r, hr⟩ : ∃ r, r = pRoom l m x.1 := ⟨_, rfl⟩
          rw [← hr] at RW f3
          obtain ⟨x1, hx1⟩ : ∃ y, y = x.1 := ⟨_, rfl⟩
          obtain ⟨x2, hx2⟩ : ∃ y, y = x.2 := ⟨_, rfl⟩
          rw [← hx1] at c1 RW
          rw [← hx2] at HC2' f3
          have d1 : decide (r < x2) = false := by simpa using f3
          have i0 : (0 : Int) ≤ (k : Int) := by omega
          have i1 : (k : Int) < (n : Int) := by omega
          clear hx g1 g2 hcw f1 f2 hr hx1 hx2 f3
          go_wp2_with fail
          refine RW.out.mono ?_
          rintro e w4 ⟨rfl, b4⟩
          have c2 := HC2'.out w4 b4
          have HW4 := hide (HW.out.trans (b4.mono HW.out.size))
          clear b4 c1
          go_wp2
          go_roundw
          case rel => exact ⟨k + 1, by omega, by go_num, HW4⟩
          case measure => simp [intOf]; omega
        · have kn : ¬ ((k : Int) < (n : Int)) := by omega
          by_cases hm : m = 120
          · subst hm
            go_wp2_with fail
            go_ret
            exact ⟨rfl, BW.out⟩
          · have hmi : ((m : Int) == 120) = false := beq_eq_false_iff_ne.2 hm
            have IW := hide (IM.out (m + 1) _ wr _ EW.out PW.out.1)
            rw [MORE.out (by omega)] at IW
            go_wp2_with fail
            refine IW.out.mono ?_
            rintro e w5 ⟨rfl, b5⟩
            have B5 := hide (BW.out.trans (b5.mono BW.out.size))
            clear b5
            go_wp2_with fail
            go_ret
            exact ⟨rfl, B5.out⟩
end Go.Proofs.YtijaicokkoopoaaDoor
