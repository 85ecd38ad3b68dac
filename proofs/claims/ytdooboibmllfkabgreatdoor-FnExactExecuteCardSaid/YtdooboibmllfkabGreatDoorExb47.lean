/- TEXTS PExe3, DrawC, DrawE, DrawE2, PExe4. -/
import Derived.Test.YtdooboibmllfkabGreatDoorExb46
import Derived.Test.YtdooboibmllfkabGreatDoorExb42
import Derived.Test.YtdooboibmllfkabGreatDoorExb15
namespace Go.Proofs.YtdooboibmllfkabGreatDoor
set_option maxRecDepth 100000
open Go.RowKit

theorem scr60_eq (s : ByteArray) : (⟨#[115, 101, 116, 32]⟩ : ByteArray) ++ s ++ ⟨#[10, 104, 105, 103, 104, 10, 98, 97, 108, 108, 115, 10]⟩ = scr60 s := by
  apply lst_inj
  unfold scr60
  rw [lst_ofL, lst_add, lst_add]
  have e1 : lst (⟨#[115, 101, 116, 32]⟩ : ByteArray) = lst wSet ++ [32] := rfl
  have e2 : lst (⟨#[10, 104, 105, 103, 104, 10, 98, 97, 108, 108, 115, 10]⟩ : ByteArray) = [10] ++ lst wHigh ++ [10] ++ lst wBalls ++ [10] := rfl
  rw [e1, e2]
  simp only [List.append_assoc, List.cons_append, List.nil_append]
theorem ans60_eq (d r : ByteArray) : okT ++ yesT ++ (d ++ nlT) ++ rowT ++ r ++ nlT = (⟨#[111, 107, 10, 121, 101, 115, 10]⟩ : ByteArray) ++ d ++ ⟨#[10, 114, 111, 119, 32]⟩ ++ r ++ ⟨#[10]⟩ := by
  apply lst_inj
  simp only [lst_add]
  have e1 : lst (⟨#[111, 107, 10, 121, 101, 115, 10]⟩ : ByteArray) = lst okT ++ lst yesT := rfl
  have e2 : lst (⟨#[10, 114, 111, 119, 32]⟩ : ByteArray) = lst nlT ++ lst rowT := rfl
  have e3 : lst (⟨#[10]⟩ : ByteArray) = lst nlT := rfl
  rw [e1, e2, e3]
  simp only [List.append_assoc]

set_option maxHeartbeats 2000000 in
theorem walkFnExecuteHigh {w : World} (a : Option Addr) (len cap : Nat) (z : List Int) (hr : IsRow .u8 w a len cap z) (hE : Env w) :
    Calls Tryz.prog 4 #[.slice a len cap] w fun e w' => e = .returned (.bool true) ∧ Below w.heap.size w w' := by
  have hcap := hr.le
  have hmax := hr.max
  unfold maxLen at hmax
  by_cases hbig : 1048576 < len
  · go_enter Tryz.func4, Tryz.ntmps4
    go_wp2
    go_ret
    exact ⟨rfl, Below.refl _ _⟩
  · have D := hide (DrawRowHigh_any a len cap z w (by omega) hcap hr.bytes)
    clear hr
    go_enter Tryz.func4, Tryz.ntmps4
    go_wp2_with fail
    refine D.out.mono ?_
    rintro e w1 ⟨s, rfl, hs, hb1⟩
    have hs' : s.size ≤ maxLen := by unfold maxLen; omega
    have C1 := hide (fun w => implRowHigh_any s w hs')
    have C0 := hide (fun w => specRowHigh_any s w hs')
    cases hv : highB s
    · rw [hv] at C0 C1
      clear hv
      go_wp2_with fail
      refine (C1.out _).mono ?_
      rintro e w2 ⟨rfl, hb2⟩
      have b2 := hb1.trans (hb2.mono hb1.size)
      go_wp2_with fail
      refine (C0.out _).mono ?_
      rintro e w3 ⟨rfl, hb3⟩
      go_wp2_with fail
      go_ret
      exact ⟨rfl, b2.trans (hb3.mono b2.size)⟩
    · have f1 := (high_facts s hv).1
      have B := hide (fun w => implRowBalls_any s w hs')
      rw [f1, if_pos rfl] at B
      have X := hide (fun w => implExecute_any (scr60 s) w (by rw [← scr60_eq]; simp only [ByteArray.size_append]; have := vld_le s f1; show 4 + s.size + 12 ≤ maxLen; unfold maxLen; omega))
      rw [ex60 hv, ans60_eq] at X
      have hb : nballs (bits s) ≤ (bits s).length := List.count_le_length
      rw [length_bits] at hb
      have hsz := vld_le s f1
      have DG := hide (fun w => digits_any (nballs (bits s) : Int) (by omega) (by omega) w)
      have SH := hide (fun w => shown_any s w)
      have hd := (dcI_size (nballs (bits s) : Int)).2
      have hrs := rowS_le f1
      rw [hv] at C0 C1
      obtain ⟨m, hm⟩ : ∃ m : Int, m = (nballs (bits s) : Int) := ⟨_, rfl⟩
      rw [← hm] at B DG X hd
      obtain ⟨d, hdd⟩ : ∃ d, d = dcI m := ⟨_, rfl⟩
      rw [← hdd] at DG X hd
      obtain ⟨r, hrr⟩ : ∃ r, r = rowS s := ⟨_, rfl⟩
      rw [← hrr] at SH X hrs
      rw [← scr60_eq] at X
      have g1 : ¬ 9223372036854775807 < 4 + s.size := by omega
      have g2 : ¬ 9223372036854775807 < 4 + s.size + 12 := by omega
      have g3 : ¬ 9223372036854775807 < 7 + d.size := by omega
      have g4 : ¬ 9223372036854775807 < 7 + d.size + 5 := by omega
      have g5 : ¬ 9223372036854775807 < 7 + d.size + 5 + r.size := by omega
      have g6 : ¬ 9223372036854775807 < 7 + d.size + 5 + r.size + 1 := by omega
      clear hv f1 hm hdd hrr hb
      go_wp2_with fail
      refine (C1.out _).mono ?_
      rintro e w2 ⟨rfl, hb2⟩
      have b2 := hb1.trans (hb2.mono hb1.size)
      go_wp2_with fail
      refine (C0.out _).mono ?_
      rintro e w3 ⟨rfl, hb3⟩
      have b3 := b2.trans (hb3.mono b2.size)
      go_wp2_with fail
      refine (X.out _ (by first | exact hE | exact hE.below hb1 | exact hE.below hb2 | exact hE.below b2 | exact hE.below b3 | exact hE.below b4 | exact hE.below b5 | exact hE.below b6 | exact hE.below b7 | exact hE.below b8 | exact hE.below b9 | exact hE.below b10 | exact hE.below b11 | exact hE.below b12 | exact hE.below b13 | exact hE.below b14)).mono ?_
      rintro e w4 ⟨rfl, hb4⟩
      have b4 := b3.trans (hb4.mono b3.size)
      go_wp2_with fail
      refine (B.out _).mono ?_
      rintro e w5 ⟨rfl, hb5⟩
      have b5 := b4.trans (hb5.mono b4.size)
      go_wp2_with fail
      refine (DG.out _).mono ?_
      rintro e w6 ⟨rfl, hg6⟩
      go_wp2_with fail
      refine (SH.out _).mono ?_
      rintro e w7 ⟨rfl, rfl⟩
      go_wp2_with fail
      go_ret
      exact ⟨by simp, b5.trans (hg6.below.mono b5.size)⟩

theorem scr59_eq (s : ByteArray) (n : Int) : (⟨#[115, 101, 116, 32]⟩ : ByteArray) ++ s ++ ⟨#[10, 101, 110, 101, 114, 103, 121, 32]⟩ ++ dcI n ++ ⟨#[10, 115, 116, 101, 112, 32]⟩ ++ dcI n ++ ⟨#[10, 115, 104, 111, 119, 10]⟩ = scr59 s n := by
  apply lst_inj
  unfold scr59
  simp only [lst_ofL, lst_add]
  have e1 : lst (⟨#[115, 101, 116, 32]⟩ : ByteArray) = lst wSet ++ [32] := rfl
  have e2 : lst (⟨#[10, 101, 110, 101, 114, 103, 121, 32]⟩ : ByteArray) = [10] ++ lst wEnergy ++ [32] := rfl
  have e3 : lst (⟨#[10, 115, 116, 101, 112, 32]⟩ : ByteArray) = [10] ++ lst wStep ++ [32] := rfl
  have e4 : lst (⟨#[10, 115, 104, 111, 119, 10]⟩ : ByteArray) = [10] ++ lst wShow ++ [10] := rfl
  rw [e1, e2, e3, e4]
  simp only [List.append_assoc, List.cons_append, List.nil_append]
theorem ans59_eq (d r : ByteArray) : okT ++ (d ++ nlT) ++ okT ++ (r ++ nlT) ++ rowT ++ r ++ nlT = (⟨#[111, 107, 10]⟩ : ByteArray) ++ d ++ ⟨#[10, 111, 107, 10]⟩ ++ r ++ ⟨#[10, 114, 111, 119, 32]⟩ ++ r ++ ⟨#[10]⟩ := by
  apply lst_inj
  simp only [lst_add]
  have e1 : lst (⟨#[111, 107, 10]⟩ : ByteArray) = lst okT := rfl
  have e2 : lst (⟨#[10, 111, 107, 10]⟩ : ByteArray) = lst nlT ++ lst okT := rfl
  have e3 : lst (⟨#[10, 114, 111, 119, 32]⟩ : ByteArray) = lst nlT ++ lst rowT := rfl
  have e4 : lst (⟨#[10]⟩ : ByteArray) = lst nlT := rfl
  rw [e1, e2, e3, e4]
  simp only [List.append_assoc]

set_option maxHeartbeats 2000000 in
theorem walkFnExecuteStep {w : World} (a : Option Addr) (len cap : Nat) (z : List Int) (hr : IsRow .u8 w a len cap z) (hE : Env w) :
    Calls Tryz.prog 3 #[.slice a len cap] w fun e w' => e = .returned (.bool true) ∧ Below w.heap.size w w' := by
  have hcap := hr.le
  have hmax := hr.max
  unfold maxLen at hmax
  by_cases hbig : 1048576 < len
  · go_enter Tryz.func3, Tryz.ntmps3
    go_wp2
    go_ret
    exact ⟨rfl, Below.refl _ _⟩
  · have D := hide (DrawStepOf_any a len cap z w (by omega) hcap hr.bytes)
    clear hr
    go_enter Tryz.func3, Tryz.ntmps3
    go_wp2_with fail
    refine D.out.mono ?_
    rintro e w1 ⟨s, n, rfl, hs, hn0, hn1, hb1⟩
    have hs' : s.size ≤ maxLen := by unfold maxLen; omega
    have C1 := hide (fun w => implStepOf_any s n w hs')
    have C0 := hide (fun w => specStepOf_any s n w hs')
    cases hk : stOk s n
    · rw [hk] at C0 C1
      obtain ⟨x, hx⟩ : ∃ x, x = stS s n := ⟨_, rfl⟩
      rw [← hx] at C0 C1
      clear hk hx
      go_wp2_with fail
      refine (C1.out _).mono ?_
      rintro e w2 ⟨rfl, hb2⟩
      go_wp2_with fail
      refine (C0.out _).mono ?_
      rintro e w3 ⟨rfl, hb3⟩
      go_wp2_with fail
      go_ret
      have b2 := hb1.trans (hb2.mono hb1.size)
      exact ⟨rfl, b2.trans (hb3.mono b2.size)⟩
    · obtain ⟨hv, hro⟩ := tkOk_iff (stOk_tk hk)
      obtain ⟨n1, n2⟩ := room_200 hro
      have hsz := vld_le s hv
      have T := hide (fun w => implStepTaken_any s n w hs')
      rw [stOk_tk hk] at T
      have hdn := (dcI_size n).2
      have X := hide (fun w => implExecute_any (scr59 s n) w (by
        rw [← scr59_eq]
        simp only [ByteArray.size_append]
        show 4 + s.size + 8 + _ + 6 + _ + 6 ≤ maxLen
        unfold maxLen
        omega))
      rw [ex59 hk, ans59_eq, ← scr59_eq] at X
      have bd := tkN_bd s n
      have DN := hide (fun w => digits_any n (by omega) (by omega) w)
      have DT := hide (fun w => digits_any (tkN s n) (by omega) (by omega) w)
      have SH := hide (fun w => shown_any (stS s n) w)
      have hdt := (dcI_size (tkN s n)).2
      have hrs := rowS_le (vld_stS hk)
      rw [hk] at C0 C1
      obtain ⟨x, hx⟩ : ∃ x, x = stS s n := ⟨_, rfl⟩
      obtain ⟨m, hm⟩ : ∃ m, m = tkN s n := ⟨_, rfl⟩
      rw [← hx] at C0 C1 SH X hrs
      rw [← hm] at T DT X hdt
      obtain ⟨d, hd⟩ : ∃ d, d = dcI n := ⟨_, rfl⟩
      obtain ⟨t, ht⟩ : ∃ t, t = dcI m := ⟨_, rfl⟩
      obtain ⟨r, hrr⟩ : ∃ r, r = rowS x := ⟨_, rfl⟩
      rw [← hd] at DN X hdn
      rw [← ht] at DT X hdt
      rw [← hrr] at SH X hrs
      have g1 : ¬ 9223372036854775807 < 4 + s.size := by omega
      have g2 : ¬ 9223372036854775807 < 4 + s.size + 8 := by omega
      have g3 : ¬ 9223372036854775807 < 4 + s.size + 8 + d.size := by omega
      have g4 : ¬ 9223372036854775807 < 4 + s.size + 8 + d.size + 6 := by omega
      have g5 : ¬ 9223372036854775807 < 4 + s.size + 8 + d.size + 6 + d.size := by omega
      have g6 : ¬ 9223372036854775807 < 4 + s.size + 8 + d.size + 6 + d.size + 6 := by omega
      have j1 : ¬ 9223372036854775807 < 3 + t.size := by omega
      have j2 : ¬ 9223372036854775807 < 3 + t.size + 4 := by omega
      have j3 : ¬ 9223372036854775807 < 3 + t.size + 4 + r.size := by omega
      have j4 : ¬ 9223372036854775807 < 3 + t.size + 4 + r.size + 5 := by omega
      have j5 : ¬ 9223372036854775807 < 3 + t.size + 4 + r.size + 5 + r.size := by omega
      have j6 : ¬ 9223372036854775807 < 3 + t.size + 4 + r.size + 5 + r.size + 1 := by omega
      clear hk hx hm hd ht hrr hv hro n1 n2 bd
      go_wp2_with fail
      refine (C1.out _).mono ?_
      rintro e w2 ⟨rfl, hb2⟩
      have b2 := hb1.trans (hb2.mono hb1.size)
      go_wp2_with fail
      refine (C0.out _).mono ?_
      rintro e w3 ⟨rfl, hb3⟩
      have b3 := b2.trans (hb3.mono b2.size)
      go_wp2_with fail
      refine (T.out _).mono ?_
      rintro e w4 ⟨rfl, hb4⟩
      have b4 := b3.trans (hb4.mono b3.size)
      go_wp2_with fail
      refine (DN.out _).mono ?_
      rintro e w5 ⟨rfl, hg5⟩
      have b5 := b4.trans (hg5.below.mono b4.size)
      go_wp2_with fail
      refine (DN.out _).mono ?_
      rintro e w6 ⟨rfl, hg6⟩
      have b6 := b5.trans (hg6.below.mono b5.size)
      go_wp2_with fail
      refine (X.out _ (by first | exact hE | exact hE.below hb1 | exact hE.below hb2 | exact hE.below b2 | exact hE.below b3 | exact hE.below b4 | exact hE.below b5 | exact hE.below b6 | exact hE.below b7 | exact hE.below b8 | exact hE.below b9 | exact hE.below b10 | exact hE.below b11 | exact hE.below b12 | exact hE.below b13 | exact hE.below b14)).mono ?_
      rintro e w7 ⟨rfl, hb7⟩
      have b7 := b6.trans (hb7.mono b6.size)
      go_wp2_with fail
      refine (DT.out _).mono ?_
      rintro e w8 ⟨rfl, hg8⟩
      have b8 := b7.trans (hg8.below.mono b7.size)
      go_wp2_with fail
      refine (SH.out _).mono ?_
      rintro e w9 ⟨rfl, rfl⟩
      go_wp2_with fail
      refine (SH.out _).mono ?_
      rintro e w10 ⟨rfl, rfl⟩
      go_wp2_with fail
      go_ret
      exact ⟨by simp, b8⟩
end Go.Proofs.YtdooboibmllfkabGreatDoor

namespace Go.Proofs.YtdooboibmllfkabGreatDoor
set_option maxRecDepth 100000
open Go.RowKit Go.Lib

end Go.Proofs.YtdooboibmllfkabGreatDoor

namespace Go.Proofs.YtdooboibmllfkabGreatDoor
set_option maxRecDepth 100000
open Go.RowKit Go.Lib

end Go.Proofs.YtdooboibmllfkabGreatDoor

namespace Go.Proofs.YtdooboibmllfkabGreatDoor
set_option maxRecDepth 100000
open Go.RowKit Go.Lib

end Go.Proofs.YtdooboibmllfkabGreatDoor

namespace Go.Proofs.YtdooboibmllfkabGreatDoor
set_option maxRecDepth 100000
open Go.RowKit

set_option maxHeartbeats 1000000 in
theorem walkFnExactExecute (s : ByteArray) (hs : s.size ≤ maxLen) (w : World) (hE : Env w) :
    Calls Tryz.prog 5 #[.string s] w fun e w' => e = .returned (.bool true) ∧ Below w.heap.size w w' := by
  by_cases hbig : 1048576 < s.size
  · have hs' := hs
    unfold maxLen at hs'
    go_enter Tryz.func5, Tryz.ntmps5
    go_wp2
    go_ret
    exact ⟨rfl, Below.refl _ _⟩
  · have C0 := hide (fun w => specExecute_any s w)
    have C1 := hide (fun w => implExecute_any s w hs)
    obtain ⟨x, hx⟩ : ∃ x, x = exS s := ⟨_, rfl⟩
    rw [← hx] at C0 C1
    clear hx
    go_enter Tryz.func5, Tryz.ntmps5
    go_wp2_with fail
    refine (C0.out _).mono ?_
    rintro e w2 ⟨rfl, hb2⟩
    go_wp2_with fail
    refine (C1.out _ (by first | exact hE | exact hE.below hb1 | exact hE.below hb2 | exact hE.below b2 | exact hE.below b3 | exact hE.below b4 | exact hE.below b5 | exact hE.below b6 | exact hE.below b7 | exact hE.below b8 | exact hE.below b9 | exact hE.below b10 | exact hE.below b11 | exact hE.below b12 | exact hE.below b13 | exact hE.below b14)).mono ?_
    rintro e w3 ⟨rfl, hb3⟩
    go_wp2_with fail
    go_ret
    exact ⟨rfl, hb2.trans (hb3.mono hb2.size)⟩

end Go.Proofs.YtdooboibmllfkabGreatDoor
