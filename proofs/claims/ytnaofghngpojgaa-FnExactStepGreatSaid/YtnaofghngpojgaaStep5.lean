/- THE WALKS of StepBack, of the model and of the program. -/
import Derived.Test.YtnaofghngpojgaaStep4
namespace Go.Proofs.Ytnaofghngpojgaa
open Go.RowKit

theorem bx_reverse (l : List Bool) (i : Nat) : bx l.reverse i = rv l.length (bx l) i := by
  unfold rv
  by_cases h : i < l.length
  · rw [if_pos h]; unfold bx; rw [List.getElem?_reverse h]
  · rw [if_neg h, bx_out _ _ (by simp; omega)]
/-- the boxes that a carrier leaves that goes back -/
def bkB (K : Nat) (l : List Bool) : List Bool := (stpU K (rv l.length (bx l)) l.length).reverse
theorem bx_bkB (K : Nat) (l : List Bool) (i : Nat) : bx (bkB K l) i = bkF K (bx l) l.length i := by
  unfold bkB
  rw [bx_reverse, stpU_length]
  unfold bkF rv
  by_cases h : i < l.length
  · rw [if_pos h, if_pos h]
    unfold bx
    simp [stpU, show l.length - 1 - i < l.length by omega]
  · rw [if_neg h, if_neg h]
/-- what StepBack answers -/
def bkOk (s : ByteArray) (room : Int) : Bool := vld s && roomOk room && decide (bkL room.toNat (bx (bits s)) s.size = 0)
def bkS (s : ByteArray) (room : Int) : ByteArray := if bkOk s room then ofBits (cut (bkB room.toNat (bits s))) else ByteArray.empty

theorem rv_at (n j p : Nat) (f : Nat → Bool) (h : j + (p + 1) = n) : rv n f j = f p := by unfold rv; rw [if_pos (by omega), show n - 1 - j = p by omega]

/-- the loop of l2Back, between two boxes -/
def BackRel (s : ByteArray) (K : Nat) (u o i : Value) : Prop :=
  ∃ (x : ByteArray) (j m : Nat) (z : Int), j + m = s.size ∧ i = .int .i64 z ∧ z = (m : Int) - 1 ∧ o = .string x ∧ x.size = j ∧ u = .int .i64 (ld K (rv s.size (bx (bits s))) j : Int) ∧
    Hid (x.data.toList = chars (stpU K (rv s.size (bx (bits s))) j).reverse)
theorem BackRel.next {s : ByteArray} {K : Nat} {x : ByteArray} {j p : Nat} (hj : j + (p + 1) = s.size) (hx : x.size = j) (HX : Hid (x.data.toList = chars (stpU K (rv s.size (bx (bits s))) j).reverse)) (c : UInt8) (u : Int)
    (hc : (if tr K (rv s.size (bx (bits s))) j then 49 else 48) = c) (hu : (ld K (rv s.size (bx (bits s))) (j + 1) : Int) = u) :
    BackRel s K (.int .i64 u) (.string (⟨#[c]⟩ ++ x)) (.int .i64 ((p : Int) - 1)) := by
  refine ⟨_, j + 1, p, _, by omega, rfl, rfl, rfl, ?_, by rw [hu], ?_⟩
  · rw [ByteArray.size_append]; show 1 + x.size = _; omega
  · show (_ ++ x).data.toList = _
    rw [ByteArray.data_append, Array.toList_append, HX.out, stpU_succ, List.reverse_append, ← hc]
    unfold chars
    simp

set_option maxHeartbeats 2000000 in
theorem l2Back_any (s : ByteArray) (K : Nat) (w : World) (hs : s.size ≤ 120) (hK : 1 ≤ K ∧ K ≤ 200) :
    Calls Try.prog 32 #[.string s, .int .i64 (K : Int)] w fun e w' => e = .returned (.tuple #[.string (ofBits (cut (bkB K (bits s)))), .bool (decide (bkL K (bx (bits s)) s.size = 0))]) ∧ w = w' := by
  have HB : Hid (bkB K (bits s) = (stpU K (rv s.size (bx (bits s))) s.size).reverse) := by unfold bkB; rw [length_bits]; rfl
  go_enter Try.func32, Try.ntmps32
  go_wp2
  go_loop [6, 7, 8] (BackRel s K) (fun _ _ i => (intOf i + 1).toNat)
  case atStart => exact ⟨⟨#[]⟩, 0, s.size, _, by omega, rfl, rfl, rfl, rfl, rfl, rfl⟩
  case round =>
    obtain ⟨x, j, m, z, hj, rfl, hz, rfl, hx, rfl, HX⟩ := hrel
    have hul := ld_le K (rv s.size (bx (bits s))) j
    by_cases hm : m = 0
    · subst hm
      obtain rfl : j = s.size := by omega
      obtain rfl : z = -1 := by omega
      have ha : allSgn x.data.toList = true := by rw [HX.out]; exact chars_sgn _
      have ht : tidyS x = ofBits (cut (bkB K (bits s))) := by rw [← tidyS_eq x ha, bits_chars _ x HX.out, HB.out]
      have C := hide (fun w => l1Tidy_any x w (by unfold maxLen; omega) ha)
      rw [ht] at C
      have hd : ((ld K (rv s.size (bx (bits s))) s.size : Int) == 0) = decide (bkL K (bx (bits s)) s.size = 0) := by
        unfold bkL
        rw [Bool.eq_iff_iff]; simp
      have HD := hide hd
      clear ht hd hz hj hul
      go_wp2_with (go_at_call 31; refine (C.out _).mono ?_; rintro e w' ⟨rfl, rfl⟩)
      go_ret2
      exact ⟨by rw [← HD.out]; rfl, rfl⟩
    · obtain ⟨p, rfl⟩ : ∃ p, m = p + 1 := ⟨m - 1, by omega⟩
      obtain rfl : z = (p : Int) := by omega
      have hp : p < s.size := by omega
      have hbk := bx_some _ _ _ (bits_getElem s p hp)
      rw [bit_int, ← rv_at s.size j p (bx (bits s)) hj] at hbk
      have HN := hide (@BackRel.next s K x j p hj hx HX)
      have hxs : x.size ≤ 120 := by omega
      clear hj hz hx HX hm
      have i0 : (0 : Int) ≤ (p : Int) := by omega
      have i1 : (p : Int) < (s.size : Int) := by omega
      cases hb : ((s[p].toNat : Int) == 49)
      · rw [hb] at hbk
        by_cases hu : 0 < ld K (rv s.size (bx (bits s))) j
        · obtain ⟨e1, e2, e3⟩ := box_put hbk hu
          have E1 := hide e1
          have E2 := hide e2
          clear e1 e2 e3 hbk
          obtain ⟨u, hu0⟩ : ∃ u, u = ld K (rv s.size (bx (bits s))) j := ⟨_, rfl⟩
          have HU := hide hu0
          rw [← hu0] at hu hul ⊢
          clear hu0
          go_wp2
          go_round
          case rel => exact HN.out _ _ (by rw [E1.out]; rfl) (by rw [E2.out, ← HU.out]; omega)
          case measure => simp [intOf]
        · obtain ⟨e1, e2, e3⟩ := box_none hbk hu
          have E1 := hide e1
          have E2 := hide e2
          clear e1 e2 e3 hbk
          obtain ⟨u, hu0⟩ : ∃ u, u = ld K (rv s.size (bx (bits s))) j := ⟨_, rfl⟩
          have HU := hide hu0
          rw [← hu0] at hu hul ⊢
          clear hu0
          go_wp2
          go_round
          case rel => exact HN.out _ _ (by rw [E1.out]; rfl) (by rw [E2.out, ← HU.out])
          case measure => simp [intOf]
      · rw [hb] at hbk
        by_cases hu : ld K (rv s.size (bx (bits s))) j < K
        · obtain ⟨e1, e2, e3⟩ := box_take hbk hu
          have E1 := hide e1
          have E2 := hide e2
          clear e1 e2 e3 hbk
          obtain ⟨u, hu0⟩ : ∃ u, u = ld K (rv s.size (bx (bits s))) j := ⟨_, rfl⟩
          have HU := hide hu0
          rw [← hu0] at hu hul ⊢
          clear hu0
          go_wp2
          go_round
          case rel => exact HN.out _ _ (by rw [E1.out]; rfl) (by rw [E2.out, ← HU.out]; omega)
          case measure => simp [intOf]
        · obtain ⟨e1, e2, e3⟩ := box_full hbk hu
          have E1 := hide e1
          have E2 := hide e2
          clear e1 e2 e3 hbk
          obtain ⟨u, hu0⟩ : ∃ u, u = ld K (rv s.size (bx (bits s))) j := ⟨_, rfl⟩
          have HU := hide hu0
          rw [← hu0] at hu hul ⊢
          clear hu0
          go_wp2
          go_round
          case rel => exact HN.out _ _ (by rw [E1.out]; rfl) (by rw [E2.out, ← HU.out])
          case measure => simp [intOf]

set_option maxHeartbeats 1000000 in
theorem specStepBack_any (s : ByteArray) (room : Int) (w : World) (hs : s.size ≤ maxLen) :
    Calls Try.prog 18 #[.string s, .int .i64 room] w fun e w' => e = .returned (.tuple #[.string (bkS s room), .bool (bkOk s room)]) ∧ w = w' := by
  cases hv : vld s
  · have e1 : bkOk s room = false := by simp [bkOk, hv]
    have e2 : bkS s room = ByteArray.empty := by simp [bkS, e1]
    rw [e1, e2]
    clear e1 e2
    go_enter Try.func18, Try.ntmps18
    go_wp2_with (go_at_call 24; refine (specRowValid_any _ _ hs).mono ?_; rintro e w' ⟨rfl, rfl⟩)
    go_ret2
    exact ⟨rfl, rfl⟩
  · have h120 := vld_le s hv
    have C0 := hide (fun w => l2Room_any room w)
    cases hr : roomOk room
    · have e1 : bkOk s room = false := by simp [bkOk, hr]
      have e2 : bkS s room = ByteArray.empty := by simp [bkS, e1]
      rw [hr] at C0
      rw [e1, e2]
      clear e1 e2
      go_enter Try.func18, Try.ntmps18
      go_wp2_with (first | (go_at_call 24; refine (specRowValid_any _ _ hs).mono ?_; rintro e w' ⟨rfl, rfl⟩) | (go_at_call 25; refine (C0.out _).mono ?_; rintro e w' ⟨rfl, rfl⟩))
      go_ret2
      exact ⟨rfl, rfl⟩
    · have e1 : bkOk s room = decide (bkL room.toNat (bx (bits s)) s.size = 0) := by simp [bkOk, hv, hr]
      have e2 : bkS s room = if bkOk s room then ofBits (cut (bkB room.toNat (bits s))) else ByteArray.empty := rfl
      rw [e2, e1]
      rw [hr] at C0
      obtain ⟨K, rfl, hK1, hK2, hK3⟩ := room_nat hr
      rw [hK3]
      have C1 := hide (fun w => l2Back_any s K w h120 ⟨hK1, hK2⟩)
      obtain ⟨b, hb⟩ : ∃ b, b = decide (bkL K (bx (bits s)) s.size = 0) := ⟨_, rfl⟩
      rw [← hb] at C1 ⊢
      clear e1 e2 hr hK3 hb
      cases b
      all_goals
        go_enter Try.func18, Try.ntmps18
        go_wp2_with (first | (go_at_call 24; refine (specRowValid_any _ _ hs).mono ?_; rintro e w' ⟨rfl, rfl⟩) | (go_at_call 25; refine (C0.out _).mono ?_; rintro e w' ⟨rfl, rfl⟩) | (go_at_call 32; refine (C1.out _).mono ?_; rintro e w' ⟨rfl, rfl⟩))
        go_ret2
        exact ⟨rfl, rfl⟩

theorem reverse_g (y : Option Addr) (g n cap B : Nat) (l : List Bool) (w : World) (hy : 0 < n → y = some ⟨g, 0, none⟩) (hl : l.length = n) (hm : n ≤ 1000) (hB : B ≤ g) (hc : CellsAt w g (l.map .bool)) :
    Calls Try.prog 33 #[.slice y n cap] w fun e w' => e = .returned (.tuple #[]) ∧ Below B w w' ∧ CellsAt w' g (l.reverse.map .bool) := by
  by_cases h0 : n = 0
  · subst h0
    obtain rfl : l = [] := List.eq_nil_of_length_eq_zero hl
    refine (reverse_none y cap w).mono ?_
    rintro e w' ⟨rfl, rfl⟩
    exact ⟨rfl, Below.refl _ _, hc⟩
  · obtain rfl := hy (by omega)
    exact reverse_some g n cap B l w hl (by omega) hm hB hc

set_option maxHeartbeats 1000000 in
theorem implStepBack_any (s : ByteArray) (room : Int) (w : World) (hs : s.size ≤ maxLen) :
    Calls Try.prog 19 #[.string s, .int .i64 room] w fun e w' => e = .returned (.tuple #[.string (bkS s room), .bool (bkOk s room)]) ∧ Below w.heap.size w w' := by
  cases hk : tkOk s room
  · have e1 : bkOk s room = false := by unfold tkOk at hk; unfold bkOk; rw [hk]; rfl
    have e2 : bkS s room = ByteArray.empty := by simp [bkS, e1]
    rw [e1, e2]
    clear e1 e2
    go_enter Try.func19, Try.ntmps19
    go_wp2_with (go_at_call 28; refine (readStep_no _ _ _ hs hk).mono ?_; rintro e w' ⟨rfl, rfl⟩)
    go_ret2
    exact ⟨rfl, Below.refl _ _⟩
  · unfold tkOk at hk
    simp at hk
    obtain ⟨hv, hr⟩ := hk
    have h120 := vld_le s hv
    have hle := tl_le (bits s)
    rw [length_bits] at hle
    have e1 : bkOk s room = decide (bkL room.toNat (bx (bits s)) s.size = 0) := by simp [bkOk, hv, hr]
    have e2 : bkS s room = if bkOk s room then ofBits (cut (bkB room.toNat (bits s))) else ByteArray.empty := rfl
    rw [e2, e1]
    obtain ⟨K, rfl, hK1, hK2, hK3⟩ := room_nat hr
    rw [hK3]
    clear e1 e2 hr hK3
    have hf0 := (tl_le_iff (bits s) _).1 (Nat.le_refl _)
    have C0 := hide (fun w => readStep_yes s K w hv ⟨hK1, hK2⟩)
    have HCL := hide (cut_length (bits s))
    obtain ⟨rl, hrl⟩ : ∃ rl, rl = (cut (bits s)).reverse := ⟨_, rfl⟩
    have hbx : bx rl = rv (tl (bits s)) (bx (bits s)) := by
      funext i
      rw [hrl, bx_reverse, HCL.out, bx_fun_cut]
    have HLD : Hid (ld K (bx rl) (tl (bits s)) = bkL K (bx (bits s)) s.size) := by
      rw [bkL_pad hle hf0, hbx]; rfl
    have HRL := hide (show rl.length = tl (bits s) by rw [hrl, List.length_reverse, HCL.out])
    have HCB : Hid (fin K rl = tl (bits s) → cut (stp K rl).reverse = cut (bkB K (bits s))) := by
      intro hfin
      apply cut_ext
      intro i
      rw [bx_bkB, length_bits, bkF_pad hle hf0, bx_reverse, stp_length, hfin]
      unfold bkF
      have : bx (stp K rl) = tr K (rv (tl (bits s)) (bx (bits s))) := by rw [← hbx]; exact funext (bx_stp K rl)
      rw [this]
    have HL := hide (lds_length K rl)
    have HFIN : Hid (fin K rl = tl (bits s) + bkL K (bx (bits s)) s.size) := by
      rw [← HLD.out]; unfold fin; rw [HRL.out]; rfl
    have hf2 := fin_le K rl
    rw [HRL.out] at hf2
    have HG := hide (ldsU_getElem K (bx rl) (fin K rl + 1) (tl (bits s)) (by rw [HFIN.out]; omega))
    rw [HLD.out] at HG
    have HSL := hide (stp_length K rl)
    obtain ⟨t, ht⟩ : ∃ t, t = tl (bits s) := ⟨_, rfl⟩
    rw [← ht] at hle C0 HCL HRL HCB HFIN hf2 HG
    obtain ⟨q, hq⟩ : ∃ q, q = bkL K (bx (bits s)) s.size := ⟨_, rfl⟩
    rw [← hq] at HFIN HG ⊢
    clear ht hq hbx HLD hf0
    have HRL2 := hide hrl
    clear hrl
    by_cases hq0 : 0 < q
    · have d0 : decide (q = 0) = false := by simp; omega
      rw [d0]
      clear d0
      go_enter Try.func19, Try.ntmps19
      go_wp2_with fail
      refine (C0.out _).mono ?_
      rintro e w1 ⟨rfl, hb1, hc1, hz1⟩
      go_wp2_with fail
      refine (reverse_any w.heap.size t s.size w.heap.size (cut (bits s)) w1 HCL.out (by omega) (Nat.le_refl _) hc1).mono ?_
      rintro e w2 ⟨rfl, hb2, hc2⟩
      rw [← HRL2.out] at hc2
      go_wp2_with fail
      refine (carry_any (some ⟨w.heap.size, 0, none⟩) w.heap.size t s.size K rl w2 (fun _ => rfl) HRL.out hc2 (by omega) ⟨hK1, hK2⟩).mono ?_
      rintro e w3 ⟨v1, v2, rfl, hv1, hi3, hb3⟩
      obtain ⟨g, cap, rfl, h1, h2, h3, h4⟩ := hi3.some (by rw [HL.out]; omega)
      have hcell : w3.cell? ⟨g, t, none⟩ = some (.int .i64 (q : Int)) := (h4 t _ (by rw [List.getElem?_map]; unfold lds; rw [HG.out]; rfl)).1
      rw [HL.out, HFIN.out] at h1 ⊢
      have i1 : (t : Int) < ((t + q + 1 : Nat) : Int) := by omega
      clear C0 h4 hi3 hv1 hc1 hc2
      go_wp2
      go_ret2
      have hb12 := hb1.trans hb2
      exact ⟨rfl, hb12.trans (hb3.mono hb12.size)⟩
    · obtain rfl : q = 0 := by omega
      have hfin : fin K rl = t := by have := HFIN.out; omega
      have HCB2 := hide (HCB.out hfin)
      have d0 : decide ((0 : Nat) = 0) = true := rfl
      rw [d0, if_pos rfl, ← HCB2.out]
      have HRR := hide (show (stp K rl).reverse.length = (stp K rl).length from List.length_reverse)
      have HTL := hide (show tl (stp K rl).reverse ≤ 120 by have := tl_le (stp K rl).reverse; rw [HRR.out, HSL.out, hfin] at this; omega)
      rw [HSL.out, hfin] at HRR
      clear d0 HCB HCB2
      go_enter Try.func19, Try.ntmps19
      go_wp2_with fail
      refine (C0.out _).mono ?_
      rintro e w1 ⟨rfl, hb1, hc1, hz1⟩
      go_wp2_with fail
      refine (reverse_any w.heap.size t s.size w.heap.size (cut (bits s)) w1 HCL.out (by omega) (Nat.le_refl _) hc1).mono ?_
      rintro e w2 ⟨rfl, hb2, hc2⟩
      rw [← HRL2.out] at hc2
      go_wp2_with fail
      refine (carry_any (some ⟨w.heap.size, 0, none⟩) w.heap.size t s.size K rl w2 (fun _ => rfl) HRL.out hc2 (by omega) ⟨hK1, hK2⟩).mono ?_
      rintro e w3 ⟨v1, v2, rfl, ⟨y, gp, capp, rfl, p1, p2, p3, p4, p5⟩, hi3, hb3⟩
      rw [HSL.out, hfin] at p1 p3
      obtain ⟨g, cap, rfl, h1, h2, h3, h4⟩ := hi3.some (by rw [HL.out]; omega)
      have hcell : w3.cell? ⟨g, t, none⟩ = some (.int .i64 ((0 : Nat) : Int)) := (h4 t _ (by rw [List.getElem?_map]; unfold lds; rw [HG.out]; rfl)).1
      rw [HL.out, hfin] at h1 ⊢
      rw [HSL.out, hfin]
      have i1 : (t : Int) < ((t + 1 : Nat) : Int) := by omega
      have HP1 := hide p1
      have HP2 := hide p2
      clear C0 h4 hi3 hc1 hc2 p1 p2
      go_wp2_with fail
      refine (reverse_g y gp t capp w2.heap.size (stp K rl) w3 HP1.out (by rw [HSL.out, hfin]) (by omega) p5 HP2.out).mono ?_
      rintro e w4 ⟨rfl, hb4, hc4⟩
      go_wp2_with fail
      refine (text_g y gp t capp (stp K rl).reverse w4 HP1.out HRR.out hc4 p3 p4 HTL.out).mono ?_
      rintro e w5 ⟨rfl, hb5⟩
      go_wp2_with fail
      go_ret2
      have hb12 := hb1.trans hb2
      have hb14 := hb12.trans ((hb3.trans hb4).mono hb12.size)
      exact ⟨rfl, hb14.trans (hb5.mono hb14.size)⟩
end Go.Proofs.Ytnaofghngpojgaa
