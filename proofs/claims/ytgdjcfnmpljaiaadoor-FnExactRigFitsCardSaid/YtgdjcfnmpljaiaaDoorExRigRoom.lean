/- THE WALKS of the exact laws of RigRoom, RigFits. -/
import Derived.Test.YtgdjcfnmpljaiaaDoorFit4
import Derived.Test.YtgdjcfnmpljaiaaDoorSpec4b
import Derived.Test.YtgdjcfnmpljaiaaDoorLawQ
namespace Go.Proofs.YtgdjcfnmpljaiaaDoor
open Go.RowKit Go.Sort Go.Shelf

set_option maxHeartbeats 2000000 in
theorem walkFnExactRigRoom {w : World} (a : Option Addr) (len cap : Nat) (l : List (Int × Int)) (hr : IsPairs w a len cap l) (n : Int) (_hn : (Lit.int .i64 n).wf = true) (j : Int) (_hj : (Lit.int .i64 j).wf = true) (hE : EtAt w) :
    Calls Tryd.prog 4 #[.slice a len cap, .int .i64 n, .int .i64 j] w fun e w' => e = .returned (.bool true) ∧ Below w.heap.size w w' := by
  have hcap := hr.2.2.1
  have hlc := hr.2.1
  have CZ := szPartS_any a len cap w (by unfold maxLen at hcap; omega)
  by_cases hbig : len ≤ 1048576
  · have CZ2 := hide CZ
    rw [if_pos hbig] at CZ2
    have h0 : ¬ ((1048576 : Int) - (len : Int) < 0) := by omega
    have T := hide (fun (w : World) (h : IsPairs w a len cap l) => toPartS_any a len cap l h hbig)
    have HR := hide hr
    have HE := hide hE
    have hll := hr.1
    have SP := hide (fun (v : Value) (w : World) (lo : Nat) (h : PartsV lo w v l) => specRigRoom_any l v n j w h (by omega))
    have IM := hide (fun (v : Value) (w : World) (lo : Nat) (hE : EtAt w) (h : PartsV lo w v l) => implRigRoom_any l v n j w hE h (by omega))
    have hm : l.length ≤ maxLen := by unfold maxLen; omega
    have EQ := hide (fun (v v' : Value) (w : World) (lo lo' : Nat) (h : PartsV lo w v l) (h' : PartsV lo' w v' l) => eqPartS_same hm h h')
    obtain ⟨x, hx⟩ : ∃ x, x = rgRoom l n j := ⟨_, rfl⟩
    obtain ⟨b, hb⟩ : ∃ b, b = rgRoomOk l n j := ⟨_, rfl⟩
    rw [← hx, ← hb] at SP IM
    clear hx hb hr hE hll hm hcap hlc CZ
    go_enter Tryd.func4, Tryd.ntmps4
    go_wp2_with fail
    refine CZ2.out.mono ?_
    rintro e w' ⟨rfl, rfl⟩
    go_wp2_with fail
    refine (T.out w HR.out).mono ?_
    rintro e w1 ⟨v1, rfl, p1, b1⟩
    have B1 := hide b1
    go_wp2_with fail
    refine (SP.out v1 w1 _ p1).mono ?_
    rintro e w2 ⟨rfl, g2⟩
    have B2 := hide (B1.out.trans (g2.mono B1.out.size))
    clear p1 b1 g2
    go_wp2_with fail
    refine (T.out w2 (HR.out.below B2.out)).mono ?_
    rintro e w3 ⟨v3, rfl, p3, b3⟩
    have B3 := hide (B2.out.trans (b3.mono B2.out.size))
    have P3 := hide p3
    clear p3 b3
    go_wp2_with fail
    refine (IM.out v3 w3 _ (HE.out.below B3.out (Nat.le_refl _)) P3.out).mono ?_
    rintro e w4 ⟨rfl, b4⟩
    have B4 := hide (B3.out.trans (b4.mono B3.out.size))
    have P4 := hide (P3.out.below b4 (Nat.le_refl _))
    clear b4
    cases b
    all_goals
      go_wp2_with fail
      refine (T.out w4 (HR.out.below B4.out)).mono ?_
      rintro e w5 ⟨v5, rfl, p5, b5⟩
      have B5 := hide (B4.out.trans (b5.mono B4.out.size))
      have P5 := hide p5
      have P45 := hide (P4.out.below b5 (Nat.le_refl _))
      clear p5 b5
      go_wp2_with fail
      refine (EQ.out v3 v5 w5 _ _ P45.out P5.out).mono ?_
      rintro e w6 ⟨rfl, g6⟩
      have B6 := hide (B5.out.trans (g6.below.mono B5.out.size))
      clear g6
      go_wp2_with fail
      go_ret
      exact ⟨rfl, B6.out⟩
  · have CZ2 := hide CZ
    rw [if_neg hbig] at CZ2
    clear hr hE hcap hlc CZ
    go_enter Tryd.func4, Tryd.ntmps4
    go_wp2_with fail
    refine CZ2.out.mono ?_
    rintro e w' ⟨rfl, rfl⟩
    go_wp2_with fail
    go_ret
    exact ⟨rfl, Below.refl _ _⟩

set_option maxHeartbeats 2000000 in
theorem walkFnExactRigFits {w : World} (a : Option Addr) (len cap : Nat) (l : List (Int × Int)) (hr : IsPairs w a len cap l) (n : Int) (_hn : (Lit.int .i64 n).wf = true) (hE : EtAt w) :
    Calls Tryd.prog 5 #[.slice a len cap, .int .i64 n] w fun e w' => e = .returned (.bool true) ∧ Below w.heap.size w w' := by
  have hcap := hr.2.2.1
  have hlc := hr.2.1
  have CZ := szPartS_any a len cap w (by unfold maxLen at hcap; omega)
  by_cases hbig : len ≤ 1048576
  · have CZ2 := hide CZ
    rw [if_pos hbig] at CZ2
    have h0 : ¬ ((1048576 : Int) - (len : Int) < 0) := by omega
    have T := hide (fun (w : World) (h : IsPairs w a len cap l) => toPartS_any a len cap l h hbig)
    have HR := hide hr
    have HE := hide hE
    have hll := hr.1
    have SP := hide (fun (v : Value) (w : World) (lo : Nat) (h : PartsV lo w v l) => specRigFits_any l v n w h (by omega))
    have IM := hide (fun (v : Value) (w : World) (lo : Nat) (hE : EtAt w) (h : PartsV lo w v l) => implRigFits_any l v n w hE h (by omega))
    have hm : l.length ≤ maxLen := by unfold maxLen; omega
    have EQ := hide (fun (v v' : Value) (w : World) (lo lo' : Nat) (h : PartsV lo w v l) (h' : PartsV lo' w v' l) => eqPartS_same hm h h')
    obtain ⟨b, hb⟩ : ∃ b, b = rgFits l n := ⟨_, rfl⟩
    rw [← hb] at SP IM
    clear hb hr hE hll hm hcap hlc CZ
    go_enter Tryd.func5, Tryd.ntmps5
    go_wp2_with fail
    refine CZ2.out.mono ?_
    rintro e w' ⟨rfl, rfl⟩
    go_wp2_with fail
    refine (T.out w HR.out).mono ?_
    rintro e w1 ⟨v1, rfl, p1, b1⟩
    have B1 := hide b1
    go_wp2_with fail
    refine (SP.out v1 w1 _ p1).mono ?_
    rintro e w2 ⟨rfl, g2⟩
    have B2 := hide (B1.out.trans (g2.mono B1.out.size))
    clear p1 b1 g2
    go_wp2_with fail
    refine (T.out w2 (HR.out.below B2.out)).mono ?_
    rintro e w3 ⟨v3, rfl, p3, b3⟩
    have B3 := hide (B2.out.trans (b3.mono B2.out.size))
    have P3 := hide p3
    clear p3 b3
    go_wp2_with fail
    refine (IM.out v3 w3 _ (HE.out.below B3.out (Nat.le_refl _)) P3.out).mono ?_
    rintro e w4 ⟨rfl, b4⟩
    have B4 := hide (B3.out.trans (b4.mono B3.out.size))
    have P4 := hide (P3.out.below b4 (Nat.le_refl _))
    clear b4
    cases b
    all_goals
      go_wp2_with fail
      refine (T.out w4 (HR.out.below B4.out)).mono ?_
      rintro e w5 ⟨v5, rfl, p5, b5⟩
      have B5 := hide (B4.out.trans (b5.mono B4.out.size))
      have P5 := hide p5
      have P45 := hide (P4.out.below b5 (Nat.le_refl _))
      clear p5 b5
      go_wp2_with fail
      refine (EQ.out v3 v5 w5 _ _ P45.out P5.out).mono ?_
      rintro e w6 ⟨rfl, g6⟩
      have B6 := hide (B5.out.trans (g6.below.mono B5.out.size))
      clear g6
      go_wp2_with fail
      go_ret
      exact ⟨rfl, B6.out⟩
  · have CZ2 := hide CZ
    rw [if_neg hbig] at CZ2
    clear hr hE hcap hlc CZ
    go_enter Tryd.func5, Tryd.ntmps5
    go_wp2_with fail
    refine CZ2.out.mono ?_
    rintro e w' ⟨rfl, rfl⟩
    go_wp2_with fail
    go_ret
    exact ⟨rfl, Below.refl _ _⟩
end Go.Proofs.YtgdjcfnmpljaiaaDoor
