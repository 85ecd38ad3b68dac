/- TEXTS PExe5, PExe6. -/
import Derived.Test.YtdooboibmllfkaaGreatDoorExa46
namespace Go.Proofs.YtdooboibmllfkaaGreatDoor
set_option maxRecDepth 100000
open Go.RowKit

theorem run3_bd : ∀ (l : List UInt8) (s o : ByteArray) (cur : List UInt8), vld s = true → (run3 s o cur l).2.1.size ≤ o.size + 20000 * l.length
  | [], s, o, cur, _ => by simp [run3]
  | c :: t, s, o, cur, h => by
    simp only [run3]
    rw [List.length_cons]
    split
    · have h1 := run3_bd t (lineS s (ofL cur)).1 (o ++ (lineS s (ofL cur)).2) [] (lineS_ok _ h).1
      have h2 := lineS_le (line := ofL cur) h
      rw [ByteArray.size_append] at h1
      omega
    · have h1 := run3_bd t s o (cur ++ [c]) h
      omega
theorem stO_bd {t : ByteArray} : (stO t).size ≤ 20000 * (cmpS t).size := by
  have h := run3_bd (lst (cmpS t)) ByteArray.empty ByteArray.empty [] vld_empty
  rw [lst_size] at h
  have e : ByteArray.empty.size = 0 := rfl
  unfold stO
  omega
theorem ex_whole {t : ByteArray} (h : (cmpS t).size ≤ 600) : exS (cmpS t) = endS (stR t) (stO t) := by
  unfold exS
  rw [if_neg (by omega), st_run]
theorem whole_what (t : ByteArray) : cmpS t ++ (⟨#[122, 122, 122]⟩ : ByteArray) ++ nlT ++ (⟨#[115, 101, 116, 32, 120]⟩ : ByteArray) ++ nlT = cmpS t ++ ⟨#[122, 122, 122, 10, 115, 101, 116, 32, 120, 10]⟩ := by
  apply lst_inj
  simp only [lst_add, List.append_assoc]
  rfl
theorem ex_what {t : ByteArray} (h : (cmpS t).size ≤ 590) : exS (cmpS t ++ ⟨#[122, 122, 122, 10, 115, 101, 116, 32, 120, 10]⟩) = stO t ++ ⟨#[119, 104, 97, 116, 10, 110, 111, 10]⟩ ++ lastS (stR t) := by
  rw [← whole_what, ex_more (l1 := ⟨#[122, 122, 122]⟩) (l2 := ⟨#[115, 101, 116, 32, 120]⟩) (by show (cmpS t).size + 3 + 5 + 2 ≤ 600; omega) (by decide) (by decide) (line_zzz _) (line_setx _), endS_last]
  apply lst_inj
  simp only [lst_add, List.append_assoc]
  rfl
theorem head_extract (s o : ByteArray) : (endS s o).extract 0 o.size = o := lst_inj (by
  rw [lst_extract, endS_last, lst_add, List.drop_zero, Nat.sub_zero]
  exact List.take_left' (lst_size o))

set_option maxHeartbeats 2000000 in
theorem walkFnExecuteWhat {w : World} (a : Option Addr) (len cap : Nat) (z : List Int) (hr : IsRow .u8 w a len cap z) (hE : Env w) :
    Calls Tryz.prog 4 #[.slice a len cap] w fun e w' => e = .returned (.bool true) ∧ Below w.heap.size w w' := by
  have hcap := hr.le
  have hmax := hr.max
  unfold maxLen at hmax
  by_cases hbig : 1048576 < len
  · go_enter Tryz.func4, Tryz.ntmps4
    go_wp2
    go_ret
    exact ⟨rfl, Below.refl _ _⟩
  · have D := hide (DrawExecute_any a len cap z w (by omega) hcap hr.bytes)
    clear hr
    go_enter Tryz.func4, Tryz.ntmps4
    go_wp2_with fail
    refine D.out.mono ?_
    rintro e w1 ⟨s, rfl, hs, hb1⟩
    have hs' : s.size ≤ maxLen := by unfold maxLen; omega
    have C1 := hide (fun w => implExecute_any s w hs')
    have C0 := hide (fun w => specExecute_any s w)
    have CP := hide (fun w => complete_any s w (by omega))
    have hcm := cmpS_le s
    obtain ⟨x, hx⟩ : ∃ x, x = exS s := ⟨_, rfl⟩
    rw [← hx] at C0 C1
    clear hx
    by_cases hz : 590 < (cmpS s).size
    · obtain ⟨c, hc⟩ : ∃ c, c = cmpS s := ⟨_, rfl⟩
      rw [← hc] at CP hz
      clear hc hcm
      have hz1 : (590 : Int) < (c.size : Int) := by omega
      go_wp2_with fail
      refine (C1.out _ (by first | exact hE | exact hE.below hb1 | exact hE.below hb2 | exact hE.below b2 | exact hE.below b3 | exact hE.below b4 | exact hE.below b5 | exact hE.below b6 | exact hE.below b7 | exact hE.below b8 | exact hE.below b9 | exact hE.below b10 | exact hE.below b11 | exact hE.below b12 | exact hE.below b13 | exact hE.below b14)).mono ?_
      rintro e w2 ⟨rfl, hb2⟩
      have b2 := hb1.trans (hb2.mono hb1.size)
      go_wp2_with fail
      refine (C0.out _).mono ?_
      rintro e w3 ⟨rfl, hb3⟩
      go_wp2_with fail
      refine (CP.out _).mono ?_
      rintro e w5 ⟨rfl, rfl⟩
      go_wp2_with fail
      go_ret
      exact ⟨rfl, b2.trans (hb3.mono b2.size)⟩
    · have A := hide (fun w => implExecute_any (cmpS s) w (by unfold maxLen; omega))
      rw [ex_whole (by omega)] at A
      have B := hide (fun w => implExecute_any (cmpS s ++ ⟨#[122, 122, 122, 10, 115, 101, 116, 32, 120, 10]⟩) w (by rw [ByteArray.size_append]; show (cmpS s).size + 10 ≤ maxLen; unfold maxLen; omega))
      rw [ex_what (by omega)] at B
      obtain ⟨v1, v2⟩ := st_ok s
      have hob := stO_bd (t := s)
      have L := hide (fun w => lastLine_any (stR s) (stO s) w v1 v2 (by omega))
      have HH := head_extract (stR s) (stO s)
      have hl := last_size (s := stR s) (o := stO s)
      obtain ⟨l0, l1⟩ := lastS_size v1
      obtain ⟨c, hc⟩ : ∃ c, c = cmpS s := ⟨_, rfl⟩
      obtain ⟨A0, hA⟩ : ∃ x, x = endS (stR s) (stO s) := ⟨_, rfl⟩
      obtain ⟨o, ho⟩ : ∃ x, x = stO s := ⟨_, rfl⟩
      obtain ⟨l, hll⟩ : ∃ x, x = lastS (stR s) := ⟨_, rfl⟩
      rw [← hA] at A L HH hl
      rw [← ho] at B HH hl hob
      rw [← hll] at B L hl l0 l1
      rw [← hc] at CP A B hz hob
      have ei : ((A0.size : Int) - (l.size : Int)) = (o.size : Int) := by omega
      have ew : IntKind.i64.wrap (o.size : Int) = (o.size : Int) := by rw [IntKind.wrap_i64]; omega
      have i1 : (0 : Int) ≤ (o.size : Int) := by omega
      have i2 : (o.size : Int) ≤ (A0.size : Int) := by omega
      have g0 : ¬ 9223372036854775807 < c.size + 10 := by omega
      have g1 : ¬ 9223372036854775807 < o.size + 8 := by omega
      have g2 : ¬ 9223372036854775807 < o.size + 8 + l.size := by omega
      have hz1 : ¬ (590 : Int) < (c.size : Int) := by omega
      clear hc hA ho hll v1 v2 hob hcm hl l0 l1
      go_wp2_with fail
      refine (C1.out _ (by first | exact hE | exact hE.below hb1 | exact hE.below hb2 | exact hE.below b2 | exact hE.below b3 | exact hE.below b4 | exact hE.below b5 | exact hE.below b6 | exact hE.below b7 | exact hE.below b8 | exact hE.below b9 | exact hE.below b10 | exact hE.below b11 | exact hE.below b12 | exact hE.below b13 | exact hE.below b14)).mono ?_
      rintro e w2 ⟨rfl, hb2⟩
      have b2 := hb1.trans (hb2.mono hb1.size)
      go_wp2_with fail
      refine (C0.out _).mono ?_
      rintro e w3 ⟨rfl, hb3⟩
      have b3 := b2.trans (hb3.mono b2.size)
      go_wp2_with fail
      refine (CP.out _).mono ?_
      rintro e w5 ⟨rfl, rfl⟩
      go_wp2_with fail
      refine (A.out _ (by first | exact hE | exact hE.below hb1 | exact hE.below hb2 | exact hE.below b2 | exact hE.below b3 | exact hE.below b4 | exact hE.below b5 | exact hE.below b6 | exact hE.below b7 | exact hE.below b8 | exact hE.below b9 | exact hE.below b10 | exact hE.below b11 | exact hE.below b12 | exact hE.below b13 | exact hE.below b14)).mono ?_
      rintro e w6 ⟨rfl, hb6⟩
      have b6 := b3.trans (hb6.mono b3.size)
      clear hb6 hb3 hb2 hb1 b2 b3 C0 C1 A CP D
      have e6 : Env w6.drew := (hE.below b6).kept (fun _ _ _ => rfl)
      have f6 : Env w6 := hE.below b6
      go_wp2_with fail
      go_region_with (first | (go_at_call 7; with_reducible (refine (B.out _ (by first | exact e6 | exact f6)).mono ?_); rintro e w7 ⟨rfl, hb7⟩) | (go_at_call 10; with_reducible (refine (L.out _).mono ?_); rintro e w8 ⟨rfl, rfl⟩) | fail)
      all_goals go_wp2
      all_goals go_ret
      all_goals refine ⟨?_, b6.trans (((Grw.drew w6).below.mono b6.size).trans (hb7.mono (Nat.le_trans b6.size (Grw.drew w6).size)))⟩
      all_goals first
        | rfl
        | exact congrArg (fun b => Ending.returned (.bool b)) (beq_self_eq_true _)
        | simp
end Go.Proofs.YtdooboibmllfkaaGreatDoor

namespace Go.Proofs.YtdooboibmllfkaaGreatDoor
set_option maxRecDepth 100000
open Go.RowKit

theorem ex_show1 {t : ByteArray} (h : (cmpS t).size ≤ 590) : exS (cmpS t ++ ⟨#[115, 104, 111, 119, 10]⟩) = endS (stR t) (stO t ++ (rowS (stR t) ++ nlT)) := by
  rw [← ex_one (l1 := wShow) (by show (cmpS t).size + 4 + 1 ≤ 600; omega) (by decide) (line_show _)]
  congr 1
  apply lst_inj
  simp only [lst_add, List.append_assoc]
  rfl
theorem ex_show2 {t : ByteArray} (h : (cmpS t).size ≤ 590) : exS (cmpS t ++ ⟨#[115, 104, 111, 119, 10, 115, 104, 111, 119, 10]⟩) = stO t ++ (rowS (stR t) ++ nlT) ++ (rowS (stR t) ++ nlT) ++ lastS (stR t) := by
  rw [← endS_last, ← ex_more (l1 := wShow) (l2 := wShow) (by show (cmpS t).size + 4 + 4 + 2 ≤ 600; omega) (by decide) (by decide) (line_show _) (line_show _)]
  congr 1
  apply lst_inj
  simp only [lst_add, List.append_assoc]
  rfl
theorem mid_extract (s o y : ByteArray) : (endS s (o ++ y)).extract o.size (o.size + y.size) = y := lst_inj (by
  rw [lst_extract, endS_last, lst_add, lst_add, List.append_assoc, List.drop_left' (lst_size o), Nat.add_sub_cancel_left]
  exact List.take_left' (lst_size y))

set_option maxHeartbeats 2000000 in
theorem walkFnExecuteTwice {w : World} (a : Option Addr) (len cap : Nat) (z : List Int) (hr : IsRow .u8 w a len cap z) (hE : Env w) :
    Calls Tryz.prog 5 #[.slice a len cap] w fun e w' => e = .returned (.bool true) ∧ Below w.heap.size w w' := by
  have hcap := hr.le
  have hmax := hr.max
  unfold maxLen at hmax
  by_cases hbig : 1048576 < len
  · go_enter Tryz.func5, Tryz.ntmps5
    go_wp2
    go_ret
    exact ⟨rfl, Below.refl _ _⟩
  · have D := hide (DrawExecute_any a len cap z w (by omega) hcap hr.bytes)
    clear hr
    go_enter Tryz.func5, Tryz.ntmps5
    go_wp2_with fail
    refine D.out.mono ?_
    rintro e w1 ⟨s, rfl, hs, hb1⟩
    have hs' : s.size ≤ maxLen := by unfold maxLen; omega
    have C1 := hide (fun w => implExecute_any s w hs')
    have C0 := hide (fun w => specExecute_any s w)
    have CP := hide (fun w => complete_any s w (by omega))
    have hcm := cmpS_le s
    obtain ⟨x, hx⟩ : ∃ x, x = exS s := ⟨_, rfl⟩
    rw [← hx] at C0 C1
    clear hx
    by_cases hz : 590 < (cmpS s).size
    · obtain ⟨c, hc⟩ : ∃ c, c = cmpS s := ⟨_, rfl⟩
      rw [← hc] at CP hz
      clear hc hcm
      have hz1 : (590 : Int) < (c.size : Int) := by omega
      go_wp2_with fail
      refine (C1.out _ (by first | exact hE | exact hE.below hb1 | exact hE.below hb2 | exact hE.below b2 | exact hE.below b3 | exact hE.below b4 | exact hE.below b5 | exact hE.below b6 | exact hE.below b7 | exact hE.below b8 | exact hE.below b9 | exact hE.below b10 | exact hE.below b11 | exact hE.below b12 | exact hE.below b13 | exact hE.below b14)).mono ?_
      rintro e w2 ⟨rfl, hb2⟩
      have b2 := hb1.trans (hb2.mono hb1.size)
      go_wp2_with fail
      refine (C0.out _).mono ?_
      rintro e w3 ⟨rfl, hb3⟩
      go_wp2_with fail
      refine (CP.out _).mono ?_
      rintro e w5 ⟨rfl, rfl⟩
      go_wp2_with fail
      go_ret
      exact ⟨rfl, b2.trans (hb3.mono b2.size)⟩
    · have A := hide (fun w => implExecute_any (cmpS s) w (by unfold maxLen; omega))
      rw [ex_whole (by omega)] at A
      have B := hide (fun w => implExecute_any (cmpS s ++ ⟨#[115, 104, 111, 119, 10]⟩) w (by rw [ByteArray.size_append]; show (cmpS s).size + 5 ≤ maxLen; unfold maxLen; omega))
      rw [ex_show1 (by omega)] at B
      have E := hide (fun w => implExecute_any (cmpS s ++ ⟨#[115, 104, 111, 119, 10, 115, 104, 111, 119, 10]⟩) w (by rw [ByteArray.size_append]; show (cmpS s).size + 10 ≤ maxLen; unfold maxLen; omega))
      rw [ex_show2 (by omega)] at E
      obtain ⟨v1, v2⟩ := st_ok s
      have hob := stO_bd (t := s)
      have L := hide (fun w => lastLine_any (stR s) (stO s) w v1 v2 (by omega))
      have HH := head_extract (stR s) (stO s)
      have HM := mid_extract (stR s) (stO s) (rowS (stR s) ++ nlT)
      have hl := last_size (s := stR s) (o := stO s)
      have hl2 := last_size (s := stR s) (o := stO s ++ (rowS (stR s) ++ nlT))
      rw [ByteArray.size_append] at hl2
      obtain ⟨l0, l1⟩ := lastS_size v1
      have hy : (rowS (stR s) ++ nlT).size ≤ 200 := by
        have h1 := rowS_le v1
        rw [ByteArray.size_append]
        show _ + 1 ≤ 200
        omega
      obtain ⟨c, hc⟩ : ∃ c, c = cmpS s := ⟨_, rfl⟩
      obtain ⟨y, hyy⟩ : ∃ x, x = rowS (stR s) ++ nlT := ⟨_, rfl⟩
      rw [← hyy] at B E HM hl2 hy
      obtain ⟨B0, hB⟩ : ∃ x, x = endS (stR s) (stO s ++ y) := ⟨_, rfl⟩
      obtain ⟨A0, hA⟩ : ∃ x, x = endS (stR s) (stO s) := ⟨_, rfl⟩
      obtain ⟨o, ho⟩ : ∃ x, x = stO s := ⟨_, rfl⟩
      obtain ⟨l, hll⟩ : ∃ x, x = lastS (stR s) := ⟨_, rfl⟩
      rw [← hB] at B HM hl2
      rw [← hA] at A L HH hl
      rw [← ho] at E HH HM hl hl2 hob
      rw [← hll] at E L hl hl2 l0 l1
      rw [← hc] at CP A B E hz hob
      obtain ⟨m, hm⟩ : ∃ m : Nat, m = o.size + y.size := ⟨_, rfl⟩
      rw [← hm] at HM hl2
      have ei : ((A0.size : Int) - (l.size : Int)) = (o.size : Int) := by omega
      have ei2 : ((B0.size : Int) - (l.size : Int)) = (m : Int) := by omega
      have ew : IntKind.i64.wrap (o.size : Int) = (o.size : Int) := by rw [IntKind.wrap_i64]; omega
      have ew2 : IntKind.i64.wrap (m : Int) = (m : Int) := by rw [IntKind.wrap_i64]; omega
      have i1 : (0 : Int) ≤ (o.size : Int) := by omega
      have i2 : (o.size : Int) ≤ (A0.size : Int) := by omega
      have i3 : (o.size : Int) ≤ (m : Int) := by omega
      have i4 : (m : Int) ≤ (B0.size : Int) := by omega
      have i5 : (0 : Int) ≤ (m : Int) := by omega
      have g0 : ¬ 9223372036854775807 < c.size + 5 := by omega
      have g3 : ¬ 9223372036854775807 < c.size + 10 := by omega
      have g1 : ¬ 9223372036854775807 < o.size + y.size := by omega
      have g2 : ¬ 9223372036854775807 < o.size + y.size + y.size := by omega
      have g4 : ¬ 9223372036854775807 < o.size + y.size + y.size + l.size := by omega
      have hz1 : ¬ (590 : Int) < (c.size : Int) := by omega
      clear hc hA hB ho hll hyy v1 v2 hob hcm hl hl2 l0 l1 hm hy
      go_wp2_with fail
      refine (C1.out _ (by first | exact hE | exact hE.below hb1 | exact hE.below hb2 | exact hE.below b2 | exact hE.below b3 | exact hE.below b4 | exact hE.below b5 | exact hE.below b6 | exact hE.below b7 | exact hE.below b8 | exact hE.below b9 | exact hE.below b10 | exact hE.below b11 | exact hE.below b12 | exact hE.below b13 | exact hE.below b14)).mono ?_
      rintro e w2 ⟨rfl, hb2⟩
      have b2 := hb1.trans (hb2.mono hb1.size)
      go_wp2_with fail
      refine (C0.out _).mono ?_
      rintro e w3 ⟨rfl, hb3⟩
      have b3 := b2.trans (hb3.mono b2.size)
      go_wp2_with fail
      refine (CP.out _).mono ?_
      rintro e w5 ⟨rfl, rfl⟩
      go_wp2_with fail
      refine (A.out _ (by first | exact hE | exact hE.below hb1 | exact hE.below hb2 | exact hE.below b2 | exact hE.below b3 | exact hE.below b4 | exact hE.below b5 | exact hE.below b6 | exact hE.below b7 | exact hE.below b8 | exact hE.below b9 | exact hE.below b10 | exact hE.below b11 | exact hE.below b12 | exact hE.below b13 | exact hE.below b14)).mono ?_
      rintro e w6 ⟨rfl, hb6⟩
      have b6 := b3.trans (hb6.mono b3.size)
      go_wp2_with fail
      refine (L.out _).mono ?_
      rintro e w7 ⟨rfl, rfl⟩
      go_wp2_with fail
      refine (B.out _ (by first | exact hE | exact hE.below hb1 | exact hE.below hb2 | exact hE.below b2 | exact hE.below b3 | exact hE.below b4 | exact hE.below b5 | exact hE.below b6 | exact hE.below b7 | exact hE.below b8 | exact hE.below b9 | exact hE.below b10 | exact hE.below b11 | exact hE.below b12 | exact hE.below b13 | exact hE.below b14)).mono ?_
      rintro e w8 ⟨rfl, hb8⟩
      have b8 := b6.trans (hb8.mono b6.size)
      clear hb8 hb6 hb3 hb2 hb1 b2 b3 b6 C0 C1 A B L CP D
      have e8 : Env w8.drew := (hE.below b8).kept (fun _ _ _ => rfl)
      have f8 : Env w8 := hE.below b8
      go_wp2_with fail
      go_region_with (first | (go_at_call 7; with_reducible (refine (E.out _ (by first | exact e8 | exact f8)).mono ?_); rintro e w9 ⟨rfl, hb9⟩) | fail)
      all_goals go_wp2
      all_goals go_ret
      all_goals refine ⟨?_, b8.trans (((Grw.drew w8).below.mono b8.size).trans (hb9.mono (Nat.le_trans b8.size (Grw.drew w8).size)))⟩
      all_goals first
        | rfl
        | exact congrArg (fun b => Ending.returned (.bool b)) (beq_self_eq_true _)
        | simp
end Go.Proofs.YtdooboibmllfkaaGreatDoor
