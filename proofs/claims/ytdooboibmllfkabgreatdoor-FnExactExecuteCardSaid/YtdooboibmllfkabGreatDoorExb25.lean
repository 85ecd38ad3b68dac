/- TEXTS SExe5, Num8, Words8. -/
import Derived.Test.YtdooboibmllfkabGreatDoorExb21
import Derived.Test.YtdooboibmllfkabGreatDoorExb22
import Derived.Test.YtdooboibmllfkabGreatDoorExb07
import Derived.Test.YtdooboibmllfkabGreatDoorExb24
import Derived.Test.YtdooboibmllfkabGreatDoorExb15
import Derived.Test.YtdooboibmllfkabGreatDoorExb18
import Derived.Test.YtdooboibmllfkabGreatDoorExb16
import Derived.Test.YtdooboibmllfkabGreatDoorExb02
namespace Go.Proofs.YtdooboibmllfkabGreatDoor
set_option maxRecDepth 100000
open Go.RowKit

theorem infoI8 : (Tryz.prog.info? 3).map (fun i => (i.zero, i.size, i.bytes)) = some (some (.int .i64 0), 1, 8) := by kernel_rfl
theorem one_int8 (x : Int) : ∀ u ∈ [Value.int .i64 x], u.oneCell' = true := by intro u hu; simp at hu; subst hu; rfl
theorem szL_drop {s : ByteArray} {k : Nat} (hk : k < s.size) : szL ((lst s).drop k) = if 49 ≤ s[k].toNat ∧ s[k].toNat ≤ 57 then (szL ((lst s).drop (k + 1))).map (((s[k].toNat : Int) - 48) :: ·) else none := by
  have hl : k < (lst s).length := by rw [lst_size]; exact hk
  rw [List.drop_eq_getElem_cons hl]
  have e : (lst s)[k] = s[k] := by
    have := lst_get s k hk
    rw [List.getElem?_eq_getElem hl] at this
    exact Option.some.inj this
  rw [e]
  rfl
def SzAt (s : ByteArray) (k : Nat) (acc : List Int) : Prop := acc.length = k ∧ szL (lst s) = (szL ((lst s).drop k)).map (acc ++ ·)
theorem SzAt.start (s : ByteArray) : SzAt s 0 [] := ⟨rfl, by rw [List.drop_zero]; cases szL (lst s) <;> rfl⟩
theorem SzAt.bad {s : ByteArray} {k : Nat} {acc : List Int} (h : SzAt s k acc) (hk : k < s.size) (hc : ¬ (49 ≤ s[k].toNat ∧ s[k].toNat ≤ 57)) : szS s = (ByteArray.empty, false) := by
  unfold szS
  rw [h.2, szL_drop hk, if_neg hc]
  rfl
theorem SzAt.next {s : ByteArray} {k : Nat} {acc : List Int} (h : SzAt s k acc) (hk : k < s.size) (hc : 49 ≤ s[k].toNat ∧ s[k].toNat ≤ 57) : SzAt s (k + 1) (acc ++ [(s[k].toNat : Int) - 48]) := by
  refine ⟨by rw [List.length_append, h.1]; rfl, ?_⟩
  rw [h.2, szL_drop hk, if_pos hc]
  cases szL ((lst s).drop (k + 1)) with
  | none => rfl
  | some l => simp
theorem SzAt.done {s : ByteArray} {acc : List Int} (h : SzAt s s.size acc) : szL (lst s) = some acc := by
  rw [h.2, List.drop_of_length_le (by rw [lst_size]; exact Nat.le_refl _)]
  simp [szL]

set_option maxHeartbeats 2000000 in
theorem specSizes_any (rest : ByteArray) (w : World) (hz : rest.size ≤ 600) :
    Calls Tryz.prog 84 #[.string rest] w fun e w' => e = .returned (.tuple #[.string (szS rest).1, .bool (szS rest).2]) ∧ Below w.heap.size w w' := by
  obtain ⟨i0, hi, hz0, hz1, hz2⟩ := info_parts infoI8
  obtain ⟨B, hB⟩ : ∃ B, B = w.heap.size := ⟨_, rfl⟩
  have HB := hide hB
  rw [← hB]
  have HO0 := hide (World.ownsRow_lit (base := B) (e := 3) (size := 1) w #[] 0 (by rw [hB]; exact Nat.le_refl _) (by unfold maxLen; omega) rfl)
  have HB0 := hide ((Below.refl B w).alloc (by rw [hB]; exact Nat.le_refl _) (.cells #[] 3))
  clear hB
  go_enter Tryz.func84, Tryz.ntmps84
  go_wp2
  go_loopw [4, 5] (fun v i wr => ∃ (k : Nat) (acc : List Int), k ≤ rest.size ∧ i = .int .i64 (k : Int) ∧ Hid (SzAt rest k acc) ∧ Hid (wr.ownsRow B 3 1 v k (acc.map (.int .i64))) ∧ Hid (Below B w wr) ∧ B ≤ wr.heap.size) (fun _ i _ => rest.size - (Go.RowKit.intOf i).toNat)
  case atStart => exact ⟨0, [], Nat.zero_le _, rfl, SzAt.start rest, HO0.out, HB0.out, by have := HB0.out.size; rw [HB.out]; omega⟩
  case round =>
    obtain ⟨k, acc, hk, rfl, HK, HO, HW, hzw⟩ := hrel
    by_cases hlt : k < rest.size
    · have i0' : (0 : Int) ≤ (k : Int) := by omega
      have i1' : (k : Int) < (rest.size : Int) := by omega
      by_cases c1 : (rest[k].toNat : Int) < 49
      · have HE := hide (HK.out.bad hlt (by omega))
        have t1 : decide ((rest[k].toNat : Int) < 49) = true := decide_eq_true c1
        go_wp2_with fail
        go_ret2
        exact ⟨by rw [HE.out]; rfl, HW.out⟩
      · have t1 : decide ((rest[k].toNat : Int) < 49) = false := decide_eq_false c1
        by_cases c2 : 57 < (rest[k].toNat : Int)
        · have HE := hide (HK.out.bad hlt (by omega))
          have t2 : decide (57 < (rest[k].toNat : Int)) = true := decide_eq_true c2
          go_wp2_with fail
          go_ret2
          exact ⟨by rw [HE.out]; rfl, HW.out⟩
        · have t2 : decide (57 < (rest[k].toNat : Int)) = false := decide_eq_false c2
          have HK2 := hide (HK.out.next hlt (by omega))
          obtain ⟨d, hdd⟩ : ∃ d : Int, (rest[k].toNat : Int) = 48 + d := ⟨(rest[k].toNat : Int) - 48, by omega⟩
          rw [hdd] at HK2
          have hd0 : 0 ≤ d ∧ d ≤ 9 := by omega
          have ed : 48 + d - 48 = d := by omega
          rw [ed] at HK2
          have w1 : IntKind.u8.wrap (48 + d - 48) = d := by rw [IntKind.wrap_u8]; omega
          have w2 : IntKind.i64.wrap d = d := by rw [IntKind.wrap_i64]; omega
          go_wp2_with (at_builtin; refine wpList_append_own _ rfl _ _ 39 rfl B 3 i0 (.int .i64 0) 1 8 Tryz.underlying39 hi hz0 hz1 hz2 rfl (by decide) _ _ _ rfl (HO.out.alloc _) ⟨wr.heap.size, 0, none⟩ 1 1 [.int .i64 d] rfl rfl (cell_one_new _ _ _) (one_int8 _) (by unfold maxLen; omega) (by omega) (by rw [World.size_alloc]; omega) ?_; intro v' w5 hown5 hgrow5 _)
          have hb5 : Below B wr w5 := ((Below.refl B wr).alloc hzw _).grown hgrow5 (by rw [World.size_alloc]; omega) (fun b e => (HO.out.lt b e).1)
          have HO5 : Hid (w5.ownsRow B 3 1 v' (k + 1) ((acc ++ [d]).map (.int .i64))) := by
            show World.ownsRow _ _ _ _ _ _ _
            rw [List.map_append]
            exact hown5
          have HW5 := hide (HW.out.trans hb5)
          have hz5 := hb5.size
          clear hown5 hgrow5 hb5
          go_roundw
          case rel => exact ⟨k + 1, _, by omega, by go_num, HK2, HO5, HW5, by omega⟩
          case measure => simp [Go.RowKit.intOf]; omega
    · have hkn : k = rest.size := by omega
      have hS : szL (lst rest) = some acc := by
        have := HK.out
        rw [hkn] at this
        exact this.done
      have hlen : acc.length = k := HK.out.1
      have hsl : ∃ a c, u4 = .slice a k c := by
        rcases HO.out.2 with ⟨h1, h0⟩ | ⟨g, cap, cur, h1, _⟩
        · exact ⟨_, _, by rw [h0]; exact h1⟩
        · exact ⟨_, _, h1⟩
      obtain ⟨a, c, rfl⟩ := hsl
      by_cases hk0 : k = 0
      · have HE : Hid (szS rest = (ByteArray.empty, false)) := by
          show _ = _
          unfold szS
          have hnil : acc = [] := List.eq_nil_of_length_eq_zero (by omega)
          rw [hS, hnil]
        have HK0 := hide hk0
        have hkb : ((k : Int) == 0) = true := by rw [hk0]; rfl
        clear hkn hS hlen hk0
        go_wp2_with fail
        go_ret2
        exact ⟨by rw [HE.out]; rfl, HW.out⟩
      · have HE : Hid (szS rest = (swS acc, swO acc)) := by
          show _ = _
          unfold szS
          rw [hS]
          cases acc with
          | nil => exact absurd hlen.symm hk0
          | cons x l => rfl
        have hkb : ((k : Int) == 0) = false := beq_eq_false_iff_ne.2 (by omega)
        have hIV : IntsV B wr (.slice a k c) acc := IntsV.of_owns (e := 3) (n := k) HO.out
        have CS := hide (specShapeRow_any (.slice a k c) acc wr (by omega) hIV)
        clear hkn hS hlen hk0 hIV
        go_wp2_with (go_at_call 119; refine CS.out.mono ?_; rintro e w6 ⟨rfl, hb6⟩)
        have HB6 := hide (HW.out.trans (hb6.mono hzw))
        go_ret2
        exact ⟨by rw [HE.out]; rfl, HB6.out⟩

theorem wf_num (t : ByteArray) : (Lit.int .i64 (numI t)).wf = true := by
  obtain ⟨h1, h2⟩ := numI_le t
  have m2 : IntKind.i64.max = 9223372036854775807 := rfl
  have m3 : IntKind.i64.min = -9223372036854775808 := rfl
  simp [Lit.wf]; omega
theorem perB_bd (l : List Bool) : ∀ f n : Nat, perB l f n ≤ n + f
  | 0, n => Nat.zero_le _
  | f + 1, n => by
    have ih := perB_bd l f (n + 1)
    simp only [perB]
    split <;> omega
theorem cpN_bd (s : ByteArray) : 0 ≤ cpN s ∧ cpN s ≤ 10000 := by
  unfold cpN
  split
  · have := perB_bd (bits s) 5000 1
    omega
  · exact ⟨Int.le_refl _, by decide⟩
theorem tkN_bd8 {s : ByteArray} (n : Int) (h : vld s = true) : 0 ≤ tkN s n ∧ tkN s n ≤ 120 := by
  unfold tkN
  have hz := vld_le s h
  split
  · have := tk_le n.toNat (bx (bits s)) s.size
    omega
  · exact ⟨Int.le_refl _, by decide⟩
theorem said_one (m : Int) (b : Bool) (h : 0 ≤ m ∧ m < 10000000) (W : World) (g : Nat) (hc : CellsAt W g [.int .i64 m]) (hl : g < W.heap.size) :
    Calls Tryz.prog 74 #[.slice (some ⟨g, 0, none⟩) 1 1, .bool b] W fun e w' => e = .returned (.string (saidS [m] b)) ∧ Below W.heap.size W w' :=
  specSaid_any [m] b (lo := g) (.slice (some ⟨g, 0, none⟩) 1 1) W (.inr ⟨g, 1, rfl, Nat.le_refl _, Nat.le_refl _, hl, hc⟩) (show 1 ≤ 1000 by decide) (fun _ x hx => by simp at hx; subst hx; exact h)

set_option maxHeartbeats 2000000 in
theorem ask_energy (s rest : ByteArray) (w : World) (hv : vld s = true) :
    Calls Tryz.prog 62 #[.string s, .string ⟨#[101, 110, 101, 114, 103, 121]⟩, .string rest] w fun e w' => e = .returned (.string (saidS [tkN s (numI rest)] (tkOk s (numI rest)))) ∧ Below w.heap.size w w' := by
  have hs : s.size ≤ maxLen := by have := vld_le s hv; unfold maxLen; omega
  have CN := hide (fun w => specNumber_any rest w)
  have hb := tkN_bd8 (numI rest) hv
  obtain ⟨n, hn⟩ : ∃ n, n = numI rest := ⟨_, rfl⟩
  rw [← hn] at CN hb ⊢
  have C := hide (fun w => specStepTaken_any s n w hs)
  obtain ⟨m, hm⟩ : ∃ m, m = tkN s n := ⟨_, rfl⟩
  obtain ⟨b, hb0⟩ : ∃ b, b = tkOk s n := ⟨_, rfl⟩
  rw [← hm] at C hb ⊢
  rw [← hb0] at C ⊢
  have CS := hide (fun W g hc hl => said_one m b (by omega) W g hc hl)
  clear hn hm hb0 hb hs hv
  go_enter Tryz.func62, Tryz.ntmps62
  go_wp2_with (first | (go_at_call 86; refine (CN.out _).mono ?_; rintro e w' ⟨rfl, rfl⟩) | (go_at_call 88; refine (C.out _).mono ?_; rintro e w1 ⟨rfl, hb⟩) | (go_at_call 74; refine (CS.out _ w1.heap.size (one_cell _ _ _) (by rw [World.size_alloc]; omega)).mono ?_; rintro e w2 ⟨rfl, hb2⟩))
  go_ret
  exact ⟨rfl, (hb.alloc hb.size _).trans (hb2.mono (by rw [World.size_alloc]; have := hb.size; omega))⟩

set_option maxHeartbeats 2000000 in
theorem ask_period (s rest : ByteArray) (w : World) (hz : rest.size ≤ 600) :
    Calls Tryz.prog 62 #[.string s, .string ⟨#[112, 101, 114, 105, 111, 100]⟩, .string rest] w fun e w' => e = .returned (.string (saidS [cpN rest] (ciIn rest))) ∧ Below w.heap.size w w' := by
  have C := hide (fun w => specCirclePeriod_any rest w (by unfold maxLen; omega))
  have hb := cpN_bd rest
  obtain ⟨m, hm⟩ : ∃ m, m = cpN rest := ⟨_, rfl⟩
  obtain ⟨b, hb0⟩ : ∃ b, b = ciIn rest := ⟨_, rfl⟩
  rw [← hm] at C hb ⊢
  rw [← hb0] at C ⊢
  have CS := hide (fun W g hc hl => said_one m b (by omega) W g hc hl)
  clear hm hb0 hb hz
  go_enter Tryz.func62, Tryz.ntmps62
  go_wp2_with (first | (go_at_call 89; refine (C.out _).mono ?_; rintro e w1 ⟨rfl, hb⟩) | (go_at_call 74; refine (CS.out _ w1.heap.size (one_cell _ _ _) (by rw [World.size_alloc]; omega)).mono ?_; rintro e w2 ⟨rfl, hb2⟩))
  go_ret
  exact ⟨rfl, (hb.alloc hb.size _).trans (hb2.mono (by rw [World.size_alloc]; have := hb.size; omega))⟩

theorem csS_le8 {s : ByteArray} (h : csOk s = true) : (csS s).size ≤ 120 := by
  have := (stepL_some (csOk_some h).2).2.2.2
  rwa [lst_size] at this
set_option maxHeartbeats 2000000 in
theorem ask_colours (s rest : ByteArray) (w : World) (hz : rest.size ≤ 600) :
    Calls Tryz.prog 62 #[.string s, .string ⟨#[99, 111, 108, 111, 117, 114, 115]⟩, .string rest] w fun e w' => e = .returned (.string (if csOk rest then rowS (csS rest) ++ nlT else noT)) ∧ Below w.heap.size w w' := by
  have C := hide (fun w => specColourStep_any rest w (by unfold maxLen; omega))
  cases hb : csOk rest
  · rw [hb] at C
    obtain ⟨x, hx⟩ : ∃ x, x = csS rest := ⟨_, rfl⟩
    rw [← hx] at C
    clear hx hb hz
    go_enter Tryz.func62, Tryz.ntmps62
    go_wp2_with (go_at_call 90; refine (C.out _).mono ?_; rintro e w1 ⟨rfl, hb⟩)
    go_ret
    exact ⟨rfl, hb⟩
  · have h120 := csS_le8 hb
    rw [hb] at C
    rw [if_pos rfl]
    obtain ⟨x, hx⟩ : ∃ x, x = csS rest := ⟨_, rfl⟩
    rw [← hx] at C h120 ⊢
    have CR := hide (fun w => specRow_any x w)
    have hr : (rowS x).size ≤ 120 := by
      unfold rowS
      split
      · decide
      · exact h120
    have f1 : ¬ 9223372036854775807 < (rowS x).size + 1 := by omega
    obtain ⟨y, hy⟩ : ∃ y, y = rowS x := ⟨_, rfl⟩
    rw [← hy] at CR f1 hr ⊢
    clear hx hb hz hy h120
    go_enter Tryz.func62, Tryz.ntmps62
    go_wp2_with (first | (go_at_call 90; refine (C.out _).mono ?_; rintro e w1 ⟨rfl, hb⟩) | (go_at_call 40; refine (CR.out _).mono ?_; rintro e w2 ⟨rfl, rfl⟩))
    go_ret
    exact ⟨rfl, hb⟩

set_option maxHeartbeats 2000000 in
theorem specAsk_any (s word rest : ByteArray) (w : World) (hv : vld s = true) (hz : rest.size ≤ 600) :
    Calls Tryz.prog 62 #[.string s, .string word, .string rest] w fun e w' => e = .returned (.string (askS s word rest)) ∧ Below w.heap.size w w' := by
  unfold askS
  by_cases e1 : word = wEnergy
  · rw [if_pos e1, e1]; exact ask_energy s rest w hv
  rw [if_neg e1]
  by_cases e2 : word = wPeriod
  · rw [if_pos e2, e2]; exact ask_period s rest w hz
  rw [if_neg e2]
  by_cases e3 : word = wColours
  · rw [if_pos e3, e3]; exact ask_colours s rest w hz
  rw [if_neg e3]
  have q1 := word_ne [101, 110, 101, 114, 103, 121] e1
  have q2 := word_ne [112, 101, 114, 105, 111, 100] e2
  have q3 := word_ne [99, 111, 108, 111, 117, 114, 115] e3
  clear e1 e2 e3
  go_enter Tryz.func62, Tryz.ntmps62
  go_wp2
  go_ret
  exact ⟨rfl, Below.refl _ _⟩

set_option maxHeartbeats 2000000 in
theorem specChange_any (s word rest : ByteArray) (w : World) (hv : vld s = true) (hz : rest.size ≤ 600) :
    Calls Tryz.prog 61 #[.string s, .string word, .string rest] w fun e w' => e = .returned (.tuple #[.string (chS s word rest).1, .bool (chS s word rest).2.1, .bool (chS s word rest).2.2]) ∧ Below w.heap.size w w' := by
  have hs : s.size ≤ maxLen := by have := vld_le s hv; unfold maxLen; omega
  have hr : rest.size ≤ maxLen := by unfold maxLen; omega
  have CN := hide (fun w => specNumber_any rest w)
  unfold chS
  by_cases e1 : word = wSet
  · rw [if_pos e1, e1]
    have C := hide (fun w => specRowTidy_any rest w hr)
    obtain ⟨x, hx⟩ : ∃ x, x = if vld rest then tidyS rest else ByteArray.empty := ⟨_, rfl⟩
    obtain ⟨b, hb⟩ : ∃ b, b = vld rest := ⟨_, rfl⟩
    rw [← hx] at C ⊢
    rw [← hb] at C ⊢
    clear e1 hx hb hs hr hv hz
    show Calls Tryz.prog 61 #[.string s, .string ⟨#[115, 101, 116]⟩, .string rest] w fun e w' => e = .returned (.tuple #[.string x, .bool true, .bool b]) ∧ Below w.heap.size w w'
    go_enter Tryz.func61, Tryz.ntmps61
    go_wp2_with (go_at_call 83; refine (C.out _).mono ?_; rintro e w1 ⟨rfl, rfl⟩)
    go_ret3
    exact ⟨rfl, Below.refl _ _⟩
  rw [if_neg e1]
  by_cases e2 : word = wSizes
  · rw [if_pos e2, e2]
    have C := hide (fun w => specSizes_any rest w hz)
    obtain ⟨x, hx⟩ : ∃ x, x = (szS rest).1 := ⟨_, rfl⟩
    obtain ⟨b, hb⟩ : ∃ b, b = (szS rest).2 := ⟨_, rfl⟩
    rw [← hx] at C ⊢
    rw [← hb] at C ⊢
    clear e1 e2 hx hb hs hr hv hz
    show Calls Tryz.prog 61 #[.string s, .string ⟨#[115, 105, 122, 101, 115]⟩, .string rest] w fun e w' => e = .returned (.tuple #[.string x, .bool true, .bool b]) ∧ Below w.heap.size w w'
    go_enter Tryz.func61, Tryz.ntmps61
    go_wp2_with (go_at_call 84; refine (C.out _).mono ?_; rintro e w1 ⟨rfl, hb⟩)
    go_ret3
    exact ⟨rfl, hb⟩
  rw [if_neg e2]
  have hwf := wf_num rest
  obtain ⟨n, hn⟩ : ∃ n, n = numI rest := ⟨_, rfl⟩
  rw [← hn] at CN hwf ⊢
  by_cases e3 : word = wShift
  · rw [if_pos e3, e3]
    have C := hide (fun w => specRowShift_any s n w hs hwf)
    obtain ⟨x, hx⟩ : ∃ x, x = shS s n := ⟨_, rfl⟩
    obtain ⟨b, hb⟩ : ∃ b, b = shOk s n := ⟨_, rfl⟩
    rw [← hx] at C ⊢
    rw [← hb] at C ⊢
    clear e1 e2 e3 hx hb hs hr hv hz hwf hn
    show Calls Tryz.prog 61 #[.string s, .string ⟨#[115, 104, 105, 102, 116]⟩, .string rest] w fun e w' => e = .returned (.tuple #[.string x, .bool true, .bool b]) ∧ Below w.heap.size w w'
    go_enter Tryz.func61, Tryz.ntmps61
    go_wp2_with (first | (go_at_call 86; refine (CN.out _).mono ?_; rintro e w' ⟨rfl, rfl⟩) | (go_at_call 85; refine (C.out _).mono ?_; rintro e w1 ⟨rfl, rfl⟩))
    go_ret3
    exact ⟨rfl, Below.refl _ _⟩
  rw [if_neg e3]
  by_cases e4 : word = wStep
  · rw [if_pos e4, e4]
    have C := hide (fun w => specStepOf_any s n w hs)
    obtain ⟨x, hx⟩ : ∃ x, x = stS s n := ⟨_, rfl⟩
    obtain ⟨b, hb⟩ : ∃ b, b = stOk s n := ⟨_, rfl⟩
    rw [← hx] at C ⊢
    rw [← hb] at C ⊢
    clear e1 e2 e3 e4 hx hb hs hr hv hz hwf hn
    show Calls Tryz.prog 61 #[.string s, .string ⟨#[115, 116, 101, 112]⟩, .string rest] w fun e w' => e = .returned (.tuple #[.string x, .bool true, .bool b]) ∧ Below w.heap.size w w'
    go_enter Tryz.func61, Tryz.ntmps61
    go_wp2_with (first | (go_at_call 86; refine (CN.out _).mono ?_; rintro e w' ⟨rfl, rfl⟩) | (go_at_call 8; refine (C.out _).mono ?_; rintro e w1 ⟨rfl, hb⟩))
    go_ret3
    exact ⟨rfl, hb⟩
  rw [if_neg e4]
  by_cases e5 : word = wBack
  · rw [if_pos e5, e5]
    have C := hide (fun w => specStepBack_any s n w hs)
    obtain ⟨x, hx⟩ : ∃ x, x = bkS s n := ⟨_, rfl⟩
    obtain ⟨b, hb⟩ : ∃ b, b = bkOk s n := ⟨_, rfl⟩
    rw [← hx] at C ⊢
    rw [← hb] at C ⊢
    clear e1 e2 e3 e4 e5 hx hb hs hr hv hz hwf hn
    show Calls Tryz.prog 61 #[.string s, .string ⟨#[98, 97, 99, 107]⟩, .string rest] w fun e w' => e = .returned (.tuple #[.string x, .bool true, .bool b]) ∧ Below w.heap.size w w'
    go_enter Tryz.func61, Tryz.ntmps61
    go_wp2_with (first | (go_at_call 86; refine (CN.out _).mono ?_; rintro e w' ⟨rfl, rfl⟩) | (go_at_call 87; refine (C.out _).mono ?_; rintro e w1 ⟨rfl, rfl⟩))
    go_ret3
    exact ⟨rfl, Below.refl _ _⟩
  rw [if_neg e5]
  have q1 := word_ne [115, 101, 116] e1
  have q2 := word_ne [115, 105, 122, 101, 115] e2
  have q3 := word_ne [115, 104, 105, 102, 116] e3
  have q4 := word_ne [115, 116, 101, 112] e4
  have q5 := word_ne [98, 97, 99, 107] e5
  clear e1 e2 e3 e4 e5 hs hr hv hz hwf hn CN
  go_enter Tryz.func61, Tryz.ntmps61
  go_wp2
  go_ret3
  exact ⟨rfl, Below.refl _ _⟩
end Go.Proofs.YtdooboibmllfkabGreatDoor

namespace Go.Proofs.YtdooboibmllfkabGreatDoor
set_option maxRecDepth 100000
open Go.RowKit Go.Sort

theorem parse_grows {w w' : World} {e : TypeId} {t : ByteArray} (h : w' = w ∨ w' = Lib.bytesWorld w e t) : Below w.heap.size w w' := by
  rcases h with rfl | rfl
  · exact Below.refl _ _
  · exact Lib.bytesWorld_below _ _ _
set_option maxHeartbeats 1000000 in
theorem readNumber_any (t : ByteArray) (w : World) (hE : Env w) (hz : t.size ≤ 1000) :
    Calls Tryz.prog 131 #[.string t] w fun e w' => e = .returned (.int .i64 (numI t)) ∧ Below w.heap.size w w' := by
  obtain ⟨t3, p3, h3⟩ := hE.es
  obtain ⟨t4, p4, h4⟩ := hE.er
  by_cases h : t.size ≤ 3
  · rcases parse_few h with ⟨u, hu, hn, hle⟩ | ⟨hs, hn⟩
    · have C := hide (Tryz.strconv_ParseUint_10_at0_ok t (by omega) u hu w)
      have hw : IntKind.i64.wrap (u : Int) = (u : Int) := by rw [IntKind.wrap_i64]; omega
      have hd : ¬ (3 : Int) < (t.size : Int) := by omega
      rw [hn]
      clear hu hn h3 h4
      go_enter Tryz.func131, Tryz.ntmps131
      go_wp2_with (go_at_call 157; refine C.out.mono ?_; rintro e w' ⟨rfl, hg⟩; have hg2 := hide (parse_grows hg); clear hg)
      go_ret
      exact ⟨rfl, hg2.out⟩
    · have C := hide (Tryz.strconv_ParseUint_10_at0_syntax_var t (by omega) hs t3 p3 w h3)
      rw [hn]
      clear hs hn h3 h4
      go_enter Tryz.func131, Tryz.ntmps131
      go_wp2_with (go_at_call 157; refine C.out.mono ?_; rintro e w' ⟨M, rfl, _, _, hg⟩; have hg2 := hide hg; clear hg)
      go_ret
      exact ⟨rfl, hg2.out⟩
  · rw [num_long h]
    have hd : (3 : Int) < (t.size : Int) := by omega
    cases hp : Lib.parseUintB 64 t.data.toList with
    | ok u =>
      have C := hide (Tryz.strconv_ParseUint_10_at0_ok t (by omega) u hp w)
      clear hp h3 h4
      go_enter Tryz.func131, Tryz.ntmps131
      go_wp2_with (go_at_call 157; refine C.out.mono ?_; rintro e w' ⟨rfl, hg⟩; have hg2 := hide (parse_grows hg); clear hg)
      go_ret
      exact ⟨rfl, hg2.out⟩
    | range =>
      have C := hide (Tryz.strconv_ParseUint_10_at0_range_var t (by omega) hp t4 p4 w h4)
      clear hp h3 h4
      go_enter Tryz.func131, Tryz.ntmps131
      go_wp2_with (go_at_call 157; refine C.out.mono ?_; rintro e w' ⟨M, rfl, _, _, hg⟩; have hg2 := hide hg; clear hg)
      go_ret
      exact ⟨rfl, hg2.out⟩
    | _ =>
      have C := hide (Tryz.strconv_ParseUint_10_at0_syntax_var t (by omega) hp t3 p3 w h3)
      clear hp h3 h4
      go_enter Tryz.func131, Tryz.ntmps131
      go_wp2_with (go_at_call 157; refine C.out.mono ?_; rintro e w' ⟨M, rfl, _, _, hg⟩; have hg2 := hide hg; clear hg)
      go_ret
      exact ⟨rfl, hg2.out⟩
def szOf8 (rest : ByteArray) (v : Value) (ok : Bool) (lo : Nat) (w : World) : Prop :=
  if ok then ∃ x l, szL (lst rest) = some (x :: l) ∧ (x :: l).length ≤ 600 ∧ IntsV lo w v (x :: l) else szS rest = (ByteArray.empty, false)
def SzPost (rest : ByteArray) (w : World) (B : Nat) (e : Ending) (w' : World) : Prop := ∃ v ok, e = .returned (.tuple #[v, .bool ok]) ∧ szOf8 rest v ok B w' ∧ Below B w w'
set_option maxHeartbeats 2000000 in
theorem readSizes_any (rest : ByteArray) (w : World) (hz : rest.size ≤ 600) :
    Calls Tryz.prog 128 #[.string rest] w (SzPost rest w w.heap.size) := by
  obtain ⟨i0, hi, hz0, hz1, hz2⟩ := info_parts infoI8
  obtain ⟨B, hB⟩ : ∃ B, B = w.heap.size := ⟨_, rfl⟩
  have HB := hide hB
  rw [← hB]
  clear hB
  go_enter Tryz.func128, Tryz.ntmps128
  go_wp2
  go_loopw [4, 8] (fun v i wr => ∃ (k : Nat) (acc : List Int), k ≤ rest.size ∧ i = .int .i64 (k : Int) ∧ Hid (SzAt rest k acc) ∧ Hid (wr.ownsRow B 3 1 v k (acc.map (.int .i64))) ∧ Hid (Below B w wr) ∧ B ≤ wr.heap.size) (fun _ i _ => rest.size - (Go.RowKit.intOf i).toNat)
  case atStart => exact ⟨0, [], Nat.zero_le _, rfl, SzAt.start rest, World.ownsRow_nil _ _ _ _, Below.refl _ _, by rw [HB.out]; exact Nat.le_refl _⟩
  case round =>
    obtain ⟨k, acc, hk, rfl, HK, HO, HW, hzw⟩ := hrel
    by_cases hlt : k < rest.size
    · have i0' : (0 : Int) ≤ (k : Int) := by omega
      have i1' : (k : Int) < (rest.size : Int) := by omega
      by_cases c1 : (rest[k].toNat : Int) < 49
      · have HE := hide (HK.out.bad hlt (by omega))
        have t1 : decide ((rest[k].toNat : Int) < 49) = true := decide_eq_true c1
        go_wp2_with fail
        go_ret2
        exact ⟨_, false, rfl, HE.out, HW.out⟩
      · have t1 : decide ((rest[k].toNat : Int) < 49) = false := decide_eq_false c1
        by_cases c2 : 57 < (rest[k].toNat : Int)
        · have HE := hide (HK.out.bad hlt (by omega))
          have t2 : decide (57 < (rest[k].toNat : Int)) = true := decide_eq_true c2
          go_wp2_with fail
          go_ret2
          exact ⟨_, false, rfl, HE.out, HW.out⟩
        · have t2 : decide (57 < (rest[k].toNat : Int)) = false := decide_eq_false c2
          have HK2 := hide (HK.out.next hlt (by omega))
          obtain ⟨d, hdd⟩ : ∃ d : Int, (rest[k].toNat : Int) = 48 + d := ⟨(rest[k].toNat : Int) - 48, by omega⟩
          rw [hdd] at HK2
          have hd0 : 0 ≤ d ∧ d ≤ 9 := by omega
          have ed : 48 + d - 48 = d := by omega
          rw [ed] at HK2
          have w1 : IntKind.u8.wrap (48 + d - 48) = d := by rw [IntKind.wrap_u8]; omega
          have w2 : IntKind.i64.wrap d = d := by rw [IntKind.wrap_i64]; omega
          go_wp2_with (at_builtin; refine wpList_append_own _ rfl _ _ 39 rfl B 3 i0 (.int .i64 0) 1 8 Tryz.underlying39 hi hz0 hz1 hz2 rfl (by decide) _ _ _ rfl (HO.out.alloc _) ⟨wr.heap.size, 0, none⟩ 1 1 [.int .i64 d] rfl rfl (cell_one_new _ _ _) (one_int8 _) (by unfold maxLen; omega) (by omega) (by rw [World.size_alloc]; omega) ?_; intro v' w5 hown5 hgrow5 _)
          have hb5 : Below B wr w5 := ((Below.refl B wr).alloc hzw _).grown hgrow5 (by rw [World.size_alloc]; omega) (fun b e => (HO.out.lt b e).1)
          have HO5 : Hid (w5.ownsRow B 3 1 v' (k + 1) ((acc ++ [d]).map (.int .i64))) := by
            show World.ownsRow _ _ _ _ _ _ _
            rw [List.map_append]
            exact hown5
          have HW5 := hide (HW.out.trans hb5)
          have hz5 := hb5.size
          clear hown5 hgrow5 hb5
          go_roundw
          case rel => exact ⟨k + 1, _, by omega, by go_num, HK2, HO5, HW5, by omega⟩
          case measure => simp [Go.RowKit.intOf]; omega
    · have hkn : k = rest.size := by omega
      have hS : szL (lst rest) = some acc := by
        have := HK.out
        rw [hkn] at this
        exact this.done
      have hlen : acc.length = k := HK.out.1
      have hsl : ∃ a c, u4 = .slice a k c := by
        rcases HO.out.2 with ⟨h1, h0⟩ | ⟨g, cap, cur, h1, _⟩
        · exact ⟨_, _, by rw [h0]; exact h1⟩
        · exact ⟨_, _, h1⟩
      obtain ⟨a, c, rfl⟩ := hsl
      by_cases hk0 : k = 0
      · have HE : Hid (szS rest = (ByteArray.empty, false)) := by
          show _ = _
          unfold szS
          have hnil : acc = [] := List.eq_nil_of_length_eq_zero (by omega)
          rw [hS, hnil]
        have hkb : ¬ (0 : Int) < (k : Int) := by omega
        have HK0 := hide hk0
        clear hkn hS hlen hk0
        go_wp2_with fail
        go_ret2
        refine ⟨.slice a k c, false, ?_, HE.out, HW.out⟩
        show Ending.returned (Value.tuple #[.slice a k c, .bool (decide (0 < k))]) = _
        rw [decide_eq_false (show ¬ 0 < k by rw [HK0.out]; exact Nat.lt_irrefl 0)]
      · have HE : Hid (szOf8 rest (.slice a k c) true B wr) := by
          show szOf8 _ _ _ _ _
          cases acc with
          | nil => exact absurd hlen.symm hk0
          | cons x l => exact ⟨x, l, hS, by omega, IntsV.of_owns (e := 3) (n := k) HO.out⟩
        have hkb : (0 : Int) < (k : Int) := by omega
        have HK0 := hide (Nat.pos_of_ne_zero hk0)
        clear hkn hS hlen hk0
        go_wp2_with fail
        go_ret2
        refine ⟨.slice a k c, true, ?_, HE.out, HW.out⟩
        show Ending.returned (Value.tuple #[.slice a k c, .bool (decide (0 < k))]) = _
        rw [decide_eq_true HK0.out]
end Go.Proofs.YtdooboibmllfkabGreatDoor

namespace Go.Proofs.YtdooboibmllfkabGreatDoor
set_option maxRecDepth 100000
open Go.RowKit

def entsL : List (ByteArray × Nat) → Nat → List MapEntry
  | [], _ => []
  | x :: r, j => { key := .string x.1, val := .func (.func x.2) #[] #[], born := j } :: entsL r (j + 1)
def fnd (word : ByteArray) : List (ByteArray × Nat) → Option Nat
  | [] => none
  | x :: r => if word = x.1 then some x.2 else fnd word r
theorem bytes_beq (a b : ByteArray) : (a == b) = decide (a = b) := by
  have e : (a == b) = (a.data == b.data) := rfl
  rw [e, Bool.eq_iff_iff, beq_iff_eq, decide_eq_true_iff]
  exact ⟨fun h => by cases a; cases b; cases h; rfl, fun h => by rw [h]⟩
theorem find_ents (word : ByteArray) : ∀ (l : List (ByteArray × Nat)) (j i : Nat), ∃ i', Instr.findNow .string (.string word) (entsL l j) i = some ((fnd word l).map fun f => (i', .func (.func f) #[] #[]))
  | [], j, i => ⟨0, rfl⟩
  | x :: r, j, i => by
    unfold fnd entsL
    by_cases h : word = x.1
    · refine ⟨i, ?_⟩
      rw [if_pos h]
      simp [Instr.findNow, Instr.sameNow, h, bytes_beq]
    · obtain ⟨i', hi⟩ := find_ents word r (j + 1) (i + 1)
      refine ⟨i', ?_⟩
      rw [if_neg h]
      simp only [Instr.findNow, Instr.sameNow, bytes_beq, decide_eq_false h]
      exact hi
section
variable {P : Program} {T K E : TypeId}
theorem run_checkKey_str (hK : P.underlying K = some .string) (b : Bool) (s : ByteArray) (w : World) : (Instr.checkKey b 10000 K (.string s)).run P w = .ok () w := by
  have h : ∀ n, (Instr.checkKey b (n + 1) K (.string s)).run P w = .ok () w := fun n => by simp [Instr.checkKey, run_underlying hK]
  exact h 9999
theorem run_ins (hT : P.underlying T = some (.map K E)) (hK : P.underlying K = some .string) (es : Array MapEntry) (k : Nat) (key : ByteArray) (val : Value) (w : World) (hf : Instr.findNow .string (.string key) es.toList 0 = some none) :
    (Instr.mapUpdate T (.map (some w.heap.size)) (.string key) val).run P (w.alloc (.map es k)) = .ok () (w.alloc (.map (es.push { key := .string key, val := val, born := k }) (k + 1))) := by
  have hb : (w.alloc (.map es k)).heap[w.heap.size]? = some (.map es k) := (MapKept.heap_alloc w _).1
  have hset : ({ w.alloc (.map es k) with heap := (w.alloc (.map es k)).heap.setIfInBounds w.heap.size (.map (es.push { key := .string key, val := val, born := k }) (k + 1)) } : World) = w.alloc (.map (es.push { key := .string key, val := val, born := k }) (k + 1)) := by
    show ({ w with heap := (w.heap.push (.map es k)).setIfInBounds w.heap.size (.map (es.push { key := .string key, val := val, born := k }) (k + 1)) } : World) = { w with heap := w.heap.push (.map (es.push { key := .string key, val := val, born := k }) (k + 1)) }
    congr 1
    exact Array.ext_getElem? fun i => by
      rw [Array.getElem?_setIfInBounds, Array.getElem?_push, Array.getElem?_push, Array.size_push]
      by_cases h : i = w.heap.size
      · subst h; simp
      · rw [if_neg (fun e => h e.symm), if_neg h, if_neg h]
  simp [Instr.mapUpdate, run_underlying hT, MapKept.run_getObj_map hb, run_checkKey_str hK, Instr.findKey, run_underlying hK, hf, Result.andThen, MapKept.run_setObj_map _ hb]
  exact hset
theorem run_look {l : List (ByteArray × Nat)} {j c b : Nat} {w : World} (hT : P.underlying T = some (.map K E)) (hK : P.underlying K = some .string) (hz : (zeroValue E).run P w = .ok .nilFunc w) (hb : w.heap[b]? = some (.map (entsL l j).toArray c)) (word : ByteArray) :
    (Instr.lookup T (.map (some b)) (.string word) true).run P w = .ok (.tuple (match fnd word l with | some f => #[.func (.func f) #[] #[], .bool true] | none => #[.nilFunc, .bool false])) w := by
  obtain ⟨i', hi⟩ := find_ents word l j 0
  cases hf : fnd word l with
  | none =>
    rw [hf] at hi
    simp at hi
    simp [Instr.lookup, run_underlying hT, MapKept.run_getObj_map hb, run_checkKey_str hK, Instr.findKey, run_underlying hK, hi, hz, Result.andThen]
  | some f =>
    rw [hf] at hi
    simp at hi
    simp [Instr.lookup, run_underlying hT, MapKept.run_getObj_map hb, run_checkKey_str hK, Instr.findKey, run_underlying hK, hi, Result.andThen]
end
end Go.Proofs.YtdooboibmllfkabGreatDoor
