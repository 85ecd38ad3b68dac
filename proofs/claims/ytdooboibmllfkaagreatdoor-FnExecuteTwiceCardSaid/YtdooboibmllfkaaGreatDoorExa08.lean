/- TEXTS Step3, Collect, PTidy, Step6, SFacts. -/
import Derived.Test.YtdooboibmllfkaaGreatDoorExa06
import Derived.Test.YtdooboibmllfkaaGreatDoorExa07
import Derived.Test.YtdooboibmllfkaaGreatDoorExa02
import Derived.Test.YtdooboibmllfkaaGreatDoorExa05
import Derived.Maps.AppendAt
import Derived.Test.YtdooboibmllfkaaGreatDoorExa04
namespace Go.Proofs.YtdooboibmllfkaaGreatDoor
set_option maxRecDepth 100000
open Go.RowKit

theorem tl_at (l : List Bool) (n : Nat) (h : tl l = n + 1) : bx l n = true := by
  have hlen : n < l.length := by have := tl_le l; omega
  obtain ⟨m, hm⟩ := cut_eq l
  have hc := cut_length l
  rw [h] at hc
  cases hb : bx l n with
  | true => rfl
  | false =>
    exfalso
    have e : tl (l.take (n + 1)) = n + 1 := by
      have : l.take (n + 1) = cut l := by unfold cut; rw [h]
      rw [this, tl_cut, h]
    have hb2 : l[n]? = some false := by
      unfold bx at hb
      rw [List.getElem?_eq_getElem hlen] at hb ⊢
      simpa using hb
    rw [tl_take_pred l n hlen hb2] at e
    have := tl_le (l.take n)
    rw [List.length_take] at this
    omega
theorem bx_cut (l : List Bool) (i : Nat) : bx (cut l) i = bx l i := by
  obtain ⟨m, hm⟩ := cut_eq l
  have : bx l i = bx (cut l ++ List.replicate m false) i := by rw [← hm]
  rw [this]
  unfold bx
  by_cases h : i < (cut l).length
  · rw [List.getElem?_append_left h]
  · rw [List.getElem?_append_right (by omega), List.getElem?_eq_none_iff.2 (by omega), List.getElem?_replicate]
    split <;> rfl
theorem tl_le_iff (l : List Bool) (n : Nat) : tl l ≤ n ↔ ∀ i, n ≤ i → bx l i = false := by
  constructor
  · intro h i hi
    rw [← bx_cut, bx_out _ _ (by rw [cut_length]; omega)]
  · intro h
    rcases Nat.lt_or_ge n (tl l) with h1 | h1
    · have := tl_at l (tl l - 1) (by omega)
      rw [h _ (by omega)] at this
      cases this
    · exact h1
theorem tl_ext {l m : List Bool} (h : ∀ i, bx l i = bx m i) : tl l = tl m :=
  Nat.le_antisymm ((tl_le_iff l _).2 fun i hi => by rw [h]; exact (tl_le_iff m _).1 (Nat.le_refl _) i hi) ((tl_le_iff m _).2 fun i hi => by rw [← h]; exact (tl_le_iff l _).1 (Nat.le_refl _) i hi)
theorem cut_ext {l m : List Bool} (h : ∀ i, bx l i = bx m i) : cut l = cut m := by
  apply List.ext_getElem?
  intro i
  have hl := cut_length l
  have hm := cut_length m
  have e := tl_ext h
  by_cases hi : i < tl l
  · have h1 := h i
    rw [← bx_cut l, ← bx_cut m] at h1
    unfold bx at h1
    rw [List.getElem?_eq_getElem (by omega), List.getElem?_eq_getElem (by omega)] at h1 ⊢
    simpa using h1
  · rw [List.getElem?_eq_none_iff.2 (by omega), List.getElem?_eq_none_iff.2 (by omega)]
theorem bx_fun_cut (l : List Bool) : bx (cut l) = bx l := funext (bx_cut l)
theorem stp_cut (K : Nat) (l : List Bool) : cut (stp K (cut l)) = cut (stp K l) := cut_ext fun i => by rw [bx_stp, bx_stp, bx_fun_cut]
theorem tl_stp_cut (K : Nat) (l : List Bool) : tl (stp K (cut l)) = tl (stp K l) := tl_ext fun i => by rw [bx_stp, bx_stp, bx_fun_cut]

theorem readStep_no (s : ByteArray) (room : Int) (w : World) (hs : s.size ≤ maxLen) (h : tkOk s room = false) :
    Calls Tryz.prog 139 #[.string s, .int .i64 room] w fun e w' => e = .returned (.tuple #[.slice none 0 0, .bool false]) ∧ w = w' := by
  by_cases h1 : room < 1
  · go_enter Tryz.func139, Tryz.ntmps139
    go_wp2
    go_ret2
    exact ⟨rfl, rfl⟩
  · by_cases h2 : 200 < room
    · go_enter Tryz.func139, Tryz.ntmps139
      go_wp2
      go_ret2
      exact ⟨rfl, rfl⟩
    · have hv : vld s = false := by
        cases hv : vld s with
        | false => rfl
        | true => simp [tkOk, hv, roomOk] at h; omega
      go_enter Tryz.func139, Tryz.ntmps139
      go_wp2_with (go_at_call 132; refine (readRow_no _ _ hs hv).mono ?_; rintro e w' ⟨rfl, rfl⟩)
      go_ret2
      exact ⟨rfl, rfl⟩
theorem readStep_yes (s : ByteArray) (K : Nat) (w : World) (hv : vld s = true) (hK : 1 ≤ K ∧ K ≤ 200) :
    Calls Tryz.prog 139 #[.string s, .int .i64 (K : Int)] w fun e w' => e = .returned (.tuple #[.slice (some ⟨w.heap.size, 0, none⟩) (tl (bits s)) s.size, .bool true]) ∧
      Below w.heap.size w w' ∧ CellsAt w' w.heap.size ((cut (bits s)).map .bool) ∧ w.heap.size < w'.heap.size := by
  have HM := hide (cut_map (bits s))
  go_enter Tryz.func139, Tryz.ntmps139
  go_wp2_with (go_at_call 132; refine (readRow_yes _ _ hv).mono ?_; rintro e w' ⟨rfl, hb, hc, hz⟩)
  go_ret2
  exact ⟨rfl, hb, by rw [HM.out]; exact hc.take _, hz⟩

set_option maxHeartbeats 1000000 in
theorem implStepOf_any (s : ByteArray) (room : Int) (w : World) (hs : s.size ≤ maxLen) :
    Calls Tryz.prog 106 #[.string s, .int .i64 room] w fun e w' => e = .returned (.tuple #[.string (stS s room), .bool (stOk s room)]) ∧ Below w.heap.size w w' := by
  cases hk : tkOk s room
  · have e1 : stOk s room = false := by unfold tkOk at hk; unfold stOk; rw [hk]; rfl
    have e2 : stS s room = ByteArray.empty := by simp [stS, e1]
    rw [e1, e2]
    clear e1 e2
    go_enter Tryz.func106, Tryz.ntmps106
    go_wp2_with (go_at_call 139; refine (readStep_no _ _ _ hs hk).mono ?_; rintro e w' ⟨rfl, rfl⟩)
    go_ret2
    exact ⟨rfl, Below.refl _ _⟩
  · have hk2 := hk
    unfold tkOk at hk2
    simp at hk2
    obtain ⟨hv, hr⟩ := hk2
    have h120 := vld_le s hv
    have e1 : stOk s room = decide (tl (stp room.toNat (bits s)) ≤ 120) := by simp [stOk, hv, hr]
    have e2 : stS s room = if tl (stp room.toNat (bits s)) ≤ 120 then ofBits (cut (stp room.toNat (bits s))) else ByteArray.empty := by
      unfold stS; rw [e1]; simp
    rw [e1, e2]
    obtain ⟨K, rfl, hK1, hK2, hK3⟩ := room_nat hr
    rw [hK3]
    have hle := tl_le (bits s)
    rw [length_bits] at hle
    have C0 := hide (fun w => readStep_yes s K w hv ⟨hK1, hK2⟩)
    have HE1 := hide (stp_cut K (bits s))
    have HE2 := hide (tl_stp_cut K (bits s))
    have HCL := hide (cut_length (bits s))
    have hf := fin_le K (cut (bits s))
    rw [HCL.out] at hf
    obtain ⟨t, ht⟩ : ∃ t, t = tl (bits s) := ⟨_, rfl⟩
    rw [← ht] at hle C0 HCL hf
    clear ht e1 e2 hk hr hK3
    have HX := hide (show ∀ (y : Option Addr) (g cap : Nat) (W : World), (0 < (stp K (cut (bits s))).length → y = some ⟨g, 0, none⟩) → CellsAt W g ((stp K (cut (bits s))).map .bool) → (stp K (cut (bits s))).length ≤ cap → cap ≤ maxLen →
      Calls Tryz.prog 133 #[.slice y (stp K (cut (bits s))).length cap] W fun e w' => e = .returned (.tuple #[.string (if tl (stp K (bits s)) ≤ 120 then ofBits (cut (stp K (bits s))) else ByteArray.empty), .bool (decide (tl (stp K (bits s)) ≤ 120))]) ∧ Below W.heap.size W w' by
      intro y g cap W h1 h2 h3 h4
      by_cases hb : tl (stp K (bits s)) ≤ 120
      · have := text_g y g _ cap _ W h1 rfl h2 h3 h4 (by rw [HE2.out]; exact hb)
        rw [HE1.out] at this
        rw [if_pos hb, decide_eq_true hb]; exact this
      · have := text_big y g _ cap _ W h1 rfl h2 h3 h4 (by rw [HE2.out]; omega)
        rw [if_neg hb, decide_eq_false hb]; exact this)
    obtain ⟨z, hz⟩ : ∃ y, y = (if tl (stp K (bits s)) ≤ 120 then ofBits (cut (stp K (bits s))) else ByteArray.empty) := ⟨_, rfl⟩
    obtain ⟨b, hb0⟩ : ∃ b, b = decide (tl (stp K (bits s)) ≤ 120) := ⟨_, rfl⟩
    rw [← hz, ← hb0] at HX ⊢
    clear hz hb0 HE1 HE2
    go_enter Tryz.func106, Tryz.ntmps106
    go_wp2_with fail
    refine (C0.out _).mono ?_
    rintro e w1 ⟨rfl, hb1, hc1, hz1⟩
    go_wp2_with fail
    refine (carry_any (some ⟨w.heap.size, 0, none⟩) w.heap.size t s.size K (cut (bits s)) w1 (fun _ => rfl) HCL.out hc1 (by omega) ⟨hK1, hK2⟩).mono ?_
    rintro e w2 ⟨v1, v2, rfl, ⟨y, g, cap, rfl, g1, g2, g3, g4, g5⟩, hi2, hb2⟩
    have HXy := hide (HX.out y g cap w2 g1 g2 g3 g4)
    clear g1 g2 hi2 HX
    go_wp2_with fail
    refine HXy.out.mono ?_
    rintro e w3 ⟨rfl, hb3⟩
    go_wp2_with fail
    go_ret2
    have hb12 := hb1.trans (hb2.mono hb1.size)
    exact ⟨rfl, hb12.trans (hb3.mono hb12.size)⟩

end Go.Proofs.YtdooboibmllfkaaGreatDoor

namespace Go.Proofs.YtdooboibmllfkaaGreatDoor
set_option maxRecDepth 100000
open Go.RowKit

theorem tk_up {K : Nat} {f : Nat → Bool} {k : Nat} (h : ld K f k < ld K f (k + 1)) : tk K f (k + 1) = tk K f k + 1 := by
  cases hf : f k
  · by_cases hu : 0 < ld K f k
    · have := (box_put hf hu).2.1; omega
    · have := (box_none hf hu).2.1; omega
  · by_cases hu : ld K f k < K
    · exact (box_take hf hu).2.2
    · have := (box_full hf hu).2.1; omega
theorem tk_flat {K : Nat} {f : Nat → Bool} {k : Nat} (h : ¬ ld K f k < ld K f (k + 1)) : tk K f (k + 1) = tk K f k := by
  cases hf : f k
  · by_cases hu : 0 < ld K f k
    · exact (box_put hf hu).2.2
    · exact (box_none hf hu).2.2
  · by_cases hu : ld K f k < K
    · have := (box_take hf hu).2.1; omega
    · exact (box_full hf hu).2.2
theorem tk_le (K : Nat) (f : Nat → Bool) (i : Nat) : tk K f i ≤ i := by
  induction i with
  | zero => exact Nat.le_refl _
  | succ i ih => show tk K _ i + _ ≤ _; split <;> omega

set_option maxHeartbeats 1000000 in
theorem implStepTaken_any (s : ByteArray) (room : Int) (w : World) (hs : s.size ≤ maxLen) :
    Calls Tryz.prog 109 #[.string s, .int .i64 room] w fun e w' => e = .returned (.tuple #[.int .i64 (tkN s room), .bool (tkOk s room)]) ∧ Below w.heap.size w w' := by
  cases hk : tkOk s room
  · have e2 : tkN s room = 0 := by simp [tkN, hk]
    rw [e2]
    clear e2
    go_enter Tryz.func109, Tryz.ntmps109
    go_wp2_with (go_at_call 139; refine (readStep_no _ _ _ hs hk).mono ?_; rintro e w' ⟨rfl, rfl⟩)
    go_ret2
    exact ⟨rfl, Below.refl _ _⟩
  · have e2 : tkN s room = (tk room.toNat (bx (bits s)) s.size : Int) := by simp [tkN, hk]
    rw [e2]
    unfold tkOk at hk
    simp at hk
    obtain ⟨hv, hr⟩ := hk
    have h120 := vld_le s hv
    have hle := tl_le (bits s)
    rw [length_bits] at hle
    obtain ⟨K, rfl, hK1, hK2, hK3⟩ := room_nat hr
    rw [hK3]
    have C0 := hide (fun w => readStep_yes s K w hv ⟨hK1, hK2⟩)
    have HCL := hide (cut_length (bits s))
    have HE : Hid (tk K (bx (cut (bits s))) (tl (bits s)) = tk K (bx (bits s)) s.size) := by
      have := tk_tail (K := K) (f := bx (bits s)) (n := tl (bits s)) ((tl_le_iff (bits s) _).1 (Nat.le_refl _)) (s.size - tl (bits s))
      rw [show tl (bits s) + (s.size - tl (bits s)) = s.size by omega] at this
      rw [bx_fun_cut, this]; rfl
    have HL := hide (lds_length K (cut (bits s)))
    have hf : tl (bits s) ≤ fin K (cut (bits s)) := by unfold fin; rw [HCL.out]; omega
    have hf2 := fin_le K (cut (bits s))
    rw [HCL.out] at hf2
    have HG := hide (fun (i : Nat) (h : i ≤ fin K (cut (bits s))) => ldsU_getElem K (bx (cut (bits s))) (fin K (cut (bits s)) + 1) i (by omega))
    have HLE := hide (fun i => ld_le K (bx (cut (bits s))) i)
    have HTLE := hide (fun i => tk_le K (bx (cut (bits s))) i)
    obtain ⟨t, ht⟩ : ∃ t, t = tl (bits s) := ⟨_, rfl⟩
    rw [← ht] at hle C0 HCL hf hf2 HE
    rw [← HE.out]
    clear ht e2 hr hK3
    go_enter Tryz.func109, Tryz.ntmps109
    go_wp2_with fail
    refine (C0.out _).mono ?_
    rintro e w1 ⟨rfl, hb1, hc1, hz1⟩
    go_wp2_with fail
    refine (carry_any (some ⟨w.heap.size, 0, none⟩) w.heap.size t s.size K (cut (bits s)) w1 (fun _ => rfl) HCL.out hc1 (by omega) ⟨hK1, hK2⟩).mono ?_
    rintro e w2 ⟨v1, v2, rfl, hv1, hi2, hb2⟩
    obtain ⟨g, cap, rfl, h1, h2, h3, h4⟩ := hi2.some (by rw [HL.out]; omega)
    rw [HL.out] at h1 ⊢
    have H4 := hide h4
    have HB := hide (hb1.trans (hb2.mono hb1.size))
    clear C0 h4 hi2 hv1 hc1 hb1 hb2 hz1 h2
    go_wp2
    go_loopw [10, 28] (fun t0 i wr => ∃ k : Nat, k ≤ t ∧ i = .int .i64 (k : Int) ∧ t0 = .int .i64 (tk K (bx (cut (bits s))) k : Int) ∧ Hid (Quiet w2 wr)) (fun _ i _ => t - (Go.RowKit.intOf i).toNat)
    case atStart => exact ⟨0, Nat.zero_le _, rfl, rfl, Quiet.refl _⟩
    case round =>
      obtain ⟨k, hk, rfl, rfl, HQ⟩ := hrel
      by_cases hlt : k < t
      · have c1 : wr.cell? ⟨g, k, none⟩ = some (.int .i64 (ld K (bx (cut (bits s))) k : Int)) := ((HQ.out.cells H4.out) k _ (by rw [List.getElem?_map]; unfold lds; rw [HG.out k (by omega)]; rfl)).1
        have c2 : wr.cell? ⟨g, k + 1, none⟩ = some (.int .i64 (ld K (bx (cut (bits s))) (k + 1) : Int)) := ((HQ.out.cells H4.out) (k + 1) _ (by rw [List.getElem?_map]; unfold lds; rw [HG.out (k + 1) (by omega)]; rfl)).1
        have l1 := HLE.out k
        have l2 := HLE.out (k + 1)
        have l3 := HTLE.out k
        have HUP := hide (@tk_up K (bx (cut (bits s))) k)
        have HFL := hide (@tk_flat K (bx (cut (bits s))) k)
        obtain ⟨x, hx⟩ : ∃ x, x = ld K (bx (cut (bits s))) k := ⟨_, rfl⟩
        obtain ⟨y, hy⟩ : ∃ x, x = ld K (bx (cut (bits s))) (k + 1) := ⟨_, rfl⟩
        obtain ⟨q, hq⟩ : ∃ x, x = tk K (bx (cut (bits s))) k := ⟨_, rfl⟩
        rw [← hx] at c1 l1 HUP HFL
        rw [← hy] at c2 l2 HUP HFL
        rw [← hq] at l3 HUP HFL ⊢
        clear hx hy hq
        have i0 : (0 : Int) ≤ (k : Int) := by omega
        have i1 : (k : Int) + 1 < ((fin K (cut (bits s)) + 1 : Nat) : Int) := by omega
        have i2 : (k : Int) < ((fin K (cut (bits s)) + 1 : Nat) : Int) := by omega
        by_cases hxy : x < y
        · have HT := hide (HUP.out hxy)
          have hxy' : (x : Int) < (y : Int) := by omega
          clear HUP HFL
          go_wp2
          go_quiet (fail)
          go_wp2
          go_roundw
          case rel => exact ⟨k + 1, by omega, by go_num, by rw [HT.out]; congr 1, HQ.out.trans (Quiet.drewN _)⟩
          case measure => simp [Go.RowKit.intOf]; omega
        · have HT := hide (HFL.out hxy)
          have hxy' : ¬ (x : Int) < (y : Int) := by omega
          clear HUP HFL
          go_wp2
          go_quiet (fail)
          go_wp2
          go_roundw
          case rel => exact ⟨k + 1, by omega, by go_num, by rw [HT.out], HQ.out.trans (Quiet.drewN _)⟩
          case measure => simp [Go.RowKit.intOf]; omega
      · obtain rfl : k = t := by omega
        go_wp2
        go_ret2
        exact ⟨rfl, HB.out.trans (HQ.out.2 _)⟩
end Go.Proofs.YtdooboibmllfkaaGreatDoor

namespace Go.Proofs.YtdooboibmllfkaaGreatDoor
set_option maxRecDepth 100000
open Go.RowKit

theorem bx_reverse (l : List Bool) (i : Nat) : bx l.reverse i = rv l.length (bx l) i := by
  unfold rv
  by_cases h : i < l.length
  · rw [if_pos h]; unfold bx; rw [List.getElem?_reverse h]
  · rw [if_neg h, bx_out _ _ (by simp; omega)]
def bkB (K : Nat) (l : List Bool) : List Bool := (stpU K (rv l.length (bx l)) l.length).reverse
theorem bx_bkB (K : Nat) (l : List Bool) (i : Nat) : bx (bkB K l) i = bkF K (bx l) l.length i := by
  unfold bkB
  rw [bx_reverse, stpU_length]
  unfold bkF rv
  by_cases h : i < l.length
  · rw [if_pos h, if_pos h]
    unfold bx
    simp [stpU, show l.length - 1 - i < l.length by omega]
  · rw [if_neg h, if_neg h]
def bkOk (s : ByteArray) (room : Int) : Bool := vld s && roomOk room && decide (bkL room.toNat (bx (bits s)) s.size = 0)
def bkS (s : ByteArray) (room : Int) : ByteArray := if bkOk s room then ofBits (cut (bkB room.toNat (bits s))) else ByteArray.empty

theorem rv_at (n j p : Nat) (f : Nat → Bool) (h : j + (p + 1) = n) : rv n f j = f p := by unfold rv; rw [if_pos (by omega), show n - 1 - j = p by omega]

def BackRel (s : ByteArray) (K : Nat) (u o i : Value) : Prop :=
  ∃ (x : ByteArray) (j m : Nat) (z : Int), j + m = s.size ∧ i = .int .i64 z ∧ z = (m : Int) - 1 ∧ o = .string x ∧ x.size = j ∧ u = .int .i64 (ld K (rv s.size (bx (bits s))) j : Int) ∧
    Hid (x.data.toList = chars (stpU K (rv s.size (bx (bits s))) j).reverse)
theorem BackRel.next {s : ByteArray} {K : Nat} {x : ByteArray} {j p : Nat} (hj : j + (p + 1) = s.size) (hx : x.size = j) (HX : Hid (x.data.toList = chars (stpU K (rv s.size (bx (bits s))) j).reverse)) (c : UInt8) (u : Int)
    (hc : (if tr K (rv s.size (bx (bits s))) j then 49 else 48) = c) (hu : (ld K (rv s.size (bx (bits s))) (j + 1) : Int) = u) :
    BackRel s K (.int .i64 u) (.string (⟨#[c]⟩ ++ x)) (.int .i64 ((p : Int) - 1)) := by
  refine ⟨_, j + 1, p, _, by omega, rfl, rfl, rfl, ?_, by rw [hu], ?_⟩
  · rw [ByteArray.size_append]; show 1 + x.size = _; omega
  · show (_ ++ x).data.toList = _
    rw [ByteArray.data_append, Array.toList_append, HX.out, stpU_succ, List.reverse_append, ← hc]
    unfold chars
    simp

set_option maxHeartbeats 2000000 in
theorem l2Back_any (s : ByteArray) (K : Nat) (w : World) (hs : s.size ≤ 120) (hK : 1 ≤ K ∧ K ≤ 200) :
    Calls Tryz.prog 94 #[.string s, .int .i64 (K : Int)] w fun e w' => e = .returned (.tuple #[.string (ofBits (cut (bkB K (bits s)))), .bool (decide (bkL K (bx (bits s)) s.size = 0))]) ∧ w = w' := by
  have HB : Hid (bkB K (bits s) = (stpU K (rv s.size (bx (bits s))) s.size).reverse) := by unfold bkB; rw [length_bits]; rfl
  go_enter Tryz.func94, Tryz.ntmps94
  go_wp2
  go_loop [6, 7, 8] (BackRel s K) (fun _ _ i => (Go.RowKit.intOf i + 1).toNat)
  case atStart => exact ⟨⟨#[]⟩, 0, s.size, _, by omega, rfl, rfl, rfl, rfl, rfl, rfl⟩
  case round =>
    obtain ⟨x, j, m, z, hj, rfl, hz, rfl, hx, rfl, HX⟩ := hrel
    have hul := ld_le K (rv s.size (bx (bits s))) j
    by_cases hm : m = 0
    · subst hm
      obtain rfl : j = s.size := by omega
      obtain rfl : z = -1 := by omega
      have ha : allSgn x.data.toList = true := by rw [HX.out]; exact chars_sgn _
      have ht : tidyS x = ofBits (cut (bkB K (bits s))) := by rw [← tidyS_eq x ha, bits_chars _ x HX.out, HB.out]
      have C := hide (fun w => l1Tidy_any x w (by unfold maxLen; omega) ha)
      rw [ht] at C
      have hd : ((ld K (rv s.size (bx (bits s))) s.size : Int) == 0) = decide (bkL K (bx (bits s)) s.size = 0) := by
        unfold bkL
        rw [Bool.eq_iff_iff]; simp
      have HD := hide hd
      clear ht hd hz hj hul
      go_wp2_with (go_at_call 35; refine (C.out _).mono ?_; rintro e w' ⟨rfl, rfl⟩)
      go_ret2
      exact ⟨by rw [← HD.out]; rfl, rfl⟩
    · obtain ⟨p, rfl⟩ : ∃ p, m = p + 1 := ⟨m - 1, by omega⟩
      obtain rfl : z = (p : Int) := by omega
      have hp : p < s.size := by omega
      have hbk := bx_some _ _ _ (bits_getElem s p hp)
      rw [bit_int, ← rv_at s.size j p (bx (bits s)) hj] at hbk
      have HN := hide (@BackRel.next s K x j p hj hx HX)
      have hxs : x.size ≤ 120 := by omega
      clear hj hz hx HX hm
      have i0 : (0 : Int) ≤ (p : Int) := by omega
      have i1 : (p : Int) < (s.size : Int) := by omega
      cases hb : ((s[p].toNat : Int) == 49)
      · rw [hb] at hbk
        by_cases hu : 0 < ld K (rv s.size (bx (bits s))) j
        · obtain ⟨e1, e2, e3⟩ := box_put hbk hu
          have E1 := hide e1
          have E2 := hide e2
          clear e1 e2 e3 hbk
          obtain ⟨u, hu0⟩ : ∃ u, u = ld K (rv s.size (bx (bits s))) j := ⟨_, rfl⟩
          have HU := hide hu0
          rw [← hu0] at hu hul ⊢
          clear hu0
          go_wp2
          go_round
          case rel => exact HN.out _ _ (by rw [E1.out]; rfl) (by rw [E2.out, ← HU.out]; omega)
          case measure => simp [Go.RowKit.intOf]
        · obtain ⟨e1, e2, e3⟩ := box_none hbk hu
          have E1 := hide e1
          have E2 := hide e2
          clear e1 e2 e3 hbk
          obtain ⟨u, hu0⟩ : ∃ u, u = ld K (rv s.size (bx (bits s))) j := ⟨_, rfl⟩
          have HU := hide hu0
          rw [← hu0] at hu hul ⊢
          clear hu0
          go_wp2
          go_round
          case rel => exact HN.out _ _ (by rw [E1.out]; rfl) (by rw [E2.out, ← HU.out])
          case measure => simp [Go.RowKit.intOf]
      · rw [hb] at hbk
        by_cases hu : ld K (rv s.size (bx (bits s))) j < K
        · obtain ⟨e1, e2, e3⟩ := box_take hbk hu
          have E1 := hide e1
          have E2 := hide e2
          clear e1 e2 e3 hbk
          obtain ⟨u, hu0⟩ : ∃ u, u = ld K (rv s.size (bx (bits s))) j := ⟨_, rfl⟩
          have HU := hide hu0
          rw [← hu0] at hu hul ⊢
          clear hu0
          go_wp2
          go_round
          case rel => exact HN.out _ _ (by rw [E1.out]; rfl) (by rw [E2.out, ← HU.out]; omega)
          case measure => simp [Go.RowKit.intOf]
        · obtain ⟨e1, e2, e3⟩ := box_full hbk hu
          have E1 := hide e1
          have E2 := hide e2
          clear e1 e2 e3 hbk
          obtain ⟨u, hu0⟩ : ∃ u, u = ld K (rv s.size (bx (bits s))) j := ⟨_, rfl⟩
          have HU := hide hu0
          rw [← hu0] at hu hul ⊢
          clear hu0
          go_wp2
          go_round
          case rel => exact HN.out _ _ (by rw [E1.out]; rfl) (by rw [E2.out, ← HU.out])
          case measure => simp [Go.RowKit.intOf]

set_option maxHeartbeats 1000000 in
theorem specStepBack_any (s : ByteArray) (room : Int) (w : World) (hs : s.size ≤ maxLen) :
    Calls Tryz.prog 58 #[.string s, .int .i64 room] w fun e w' => e = .returned (.tuple #[.string (bkS s room), .bool (bkOk s room)]) ∧ w = w' := by
  cases hv : vld s
  · have e1 : bkOk s room = false := by simp [bkOk, hv]
    have e2 : bkS s room = ByteArray.empty := by simp [bkS, e1]
    rw [e1, e2]
    clear e1 e2
    go_enter Tryz.func58, Tryz.ntmps58
    go_wp2_with (go_at_call 42; refine (specRowValid_any _ _ hs).mono ?_; rintro e w' ⟨rfl, rfl⟩)
    go_ret2
    exact ⟨rfl, rfl⟩
  · have h120 := vld_le s hv
    have C0 := hide (fun w => l2Room_any room w)
    cases hr : roomOk room
    · have e1 : bkOk s room = false := by simp [bkOk, hr]
      have e2 : bkS s room = ByteArray.empty := by simp [bkS, e1]
      rw [hr] at C0
      rw [e1, e2]
      clear e1 e2
      go_enter Tryz.func58, Tryz.ntmps58
      go_wp2_with (first | (go_at_call 42; refine (specRowValid_any _ _ hs).mono ?_; rintro e w' ⟨rfl, rfl⟩) | (go_at_call 92; refine (C0.out _).mono ?_; rintro e w' ⟨rfl, rfl⟩))
      go_ret2
      exact ⟨rfl, rfl⟩
    · have e1 : bkOk s room = decide (bkL room.toNat (bx (bits s)) s.size = 0) := by simp [bkOk, hv, hr]
      have e2 : bkS s room = if bkOk s room then ofBits (cut (bkB room.toNat (bits s))) else ByteArray.empty := rfl
      rw [e2, e1]
      rw [hr] at C0
      obtain ⟨K, rfl, hK1, hK2, hK3⟩ := room_nat hr
      rw [hK3]
      have C1 := hide (fun w => l2Back_any s K w h120 ⟨hK1, hK2⟩)
      obtain ⟨b, hb⟩ : ∃ b, b = decide (bkL K (bx (bits s)) s.size = 0) := ⟨_, rfl⟩
      rw [← hb] at C1 ⊢
      clear e1 e2 hr hK3 hb
      cases b
      all_goals
        go_enter Tryz.func58, Tryz.ntmps58
        go_wp2_with (first | (go_at_call 42; refine (specRowValid_any _ _ hs).mono ?_; rintro e w' ⟨rfl, rfl⟩) | (go_at_call 92; refine (C0.out _).mono ?_; rintro e w' ⟨rfl, rfl⟩) | (go_at_call 94; refine (C1.out _).mono ?_; rintro e w' ⟨rfl, rfl⟩))
        go_ret2
        exact ⟨rfl, rfl⟩

theorem reverse_g (y : Option Addr) (g n cap B : Nat) (l : List Bool) (w : World) (hy : 0 < n → y = some ⟨g, 0, none⟩) (hl : l.length = n) (hm : n ≤ 1000) (hB : B ≤ g) (hc : CellsAt w g (l.map .bool)) :
    Calls Tryz.prog 141 #[.slice y n cap] w fun e w' => e = .returned (.tuple #[]) ∧ Below B w w' ∧ CellsAt w' g (l.reverse.map .bool) := by
  by_cases h0 : n = 0
  · subst h0
    obtain rfl : l = [] := List.eq_nil_of_length_eq_zero hl
    refine (reverse_none y cap w).mono ?_
    rintro e w' ⟨rfl, rfl⟩
    exact ⟨rfl, Below.refl _ _, hc⟩
  · obtain rfl := hy (by omega)
    exact reverse_some g n cap B l w hl (by omega) hm hB hc

set_option maxHeartbeats 1000000 in
theorem implStepBack_any (s : ByteArray) (room : Int) (w : World) (hs : s.size ≤ maxLen) :
    Calls Tryz.prog 107 #[.string s, .int .i64 room] w fun e w' => e = .returned (.tuple #[.string (bkS s room), .bool (bkOk s room)]) ∧ Below w.heap.size w w' := by
  cases hk : tkOk s room
  · have e1 : bkOk s room = false := by unfold tkOk at hk; unfold bkOk; rw [hk]; rfl
    have e2 : bkS s room = ByteArray.empty := by simp [bkS, e1]
    rw [e1, e2]
    clear e1 e2
    go_enter Tryz.func107, Tryz.ntmps107
    go_wp2_with (go_at_call 139; refine (readStep_no _ _ _ hs hk).mono ?_; rintro e w' ⟨rfl, rfl⟩)
    go_ret2
    exact ⟨rfl, Below.refl _ _⟩
  · unfold tkOk at hk
    simp at hk
    obtain ⟨hv, hr⟩ := hk
    have h120 := vld_le s hv
    have hle := tl_le (bits s)
    rw [length_bits] at hle
    have e1 : bkOk s room = decide (bkL room.toNat (bx (bits s)) s.size = 0) := by simp [bkOk, hv, hr]
    have e2 : bkS s room = if bkOk s room then ofBits (cut (bkB room.toNat (bits s))) else ByteArray.empty := rfl
    rw [e2, e1]
    obtain ⟨K, rfl, hK1, hK2, hK3⟩ := room_nat hr
    rw [hK3]
    clear e1 e2 hr hK3
    have hf0 := (tl_le_iff (bits s) _).1 (Nat.le_refl _)
    have C0 := hide (fun w => readStep_yes s K w hv ⟨hK1, hK2⟩)
    have HCL := hide (cut_length (bits s))
    obtain ⟨rl, hrl⟩ : ∃ rl, rl = (cut (bits s)).reverse := ⟨_, rfl⟩
    have hbx : bx rl = rv (tl (bits s)) (bx (bits s)) := by
      funext i
      rw [hrl, bx_reverse, HCL.out, bx_fun_cut]
    have HLD : Hid (ld K (bx rl) (tl (bits s)) = bkL K (bx (bits s)) s.size) := by
      rw [bkL_pad hle hf0, hbx]; rfl
    have HRL := hide (show rl.length = tl (bits s) by rw [hrl, List.length_reverse, HCL.out])
    have HCB : Hid (fin K rl = tl (bits s) → cut (stp K rl).reverse = cut (bkB K (bits s))) := by
      intro hfin
      apply cut_ext
      intro i
      rw [bx_bkB, length_bits, bkF_pad hle hf0, bx_reverse, stp_length, hfin]
      unfold bkF
      have : bx (stp K rl) = tr K (rv (tl (bits s)) (bx (bits s))) := by rw [← hbx]; exact funext (bx_stp K rl)
      rw [this]
    have HL := hide (lds_length K rl)
    have HFIN : Hid (fin K rl = tl (bits s) + bkL K (bx (bits s)) s.size) := by
      rw [← HLD.out]; unfold fin; rw [HRL.out]; rfl
    have hf2 := fin_le K rl
    rw [HRL.out] at hf2
    have HG := hide (ldsU_getElem K (bx rl) (fin K rl + 1) (tl (bits s)) (by rw [HFIN.out]; omega))
    rw [HLD.out] at HG
    have HSL := hide (stp_length K rl)
    obtain ⟨t, ht⟩ : ∃ t, t = tl (bits s) := ⟨_, rfl⟩
    rw [← ht] at hle C0 HCL HRL HCB HFIN hf2 HG
    obtain ⟨q, hq⟩ : ∃ q, q = bkL K (bx (bits s)) s.size := ⟨_, rfl⟩
    rw [← hq] at HFIN HG ⊢
    clear ht hq hbx HLD hf0
    have HRL2 := hide hrl
    clear hrl
    by_cases hq0 : 0 < q
    · have d0 : decide (q = 0) = false := by simp; omega
      rw [d0]
      clear d0
      go_enter Tryz.func107, Tryz.ntmps107
      go_wp2_with fail
      refine (C0.out _).mono ?_
      rintro e w1 ⟨rfl, hb1, hc1, hz1⟩
      go_wp2_with fail
      refine (reverse_any w.heap.size t s.size w.heap.size (cut (bits s)) w1 HCL.out (by omega) (Nat.le_refl _) hc1).mono ?_
      rintro e w2 ⟨rfl, hb2, hc2⟩
      rw [← HRL2.out] at hc2
      go_wp2_with fail
      refine (carry_any (some ⟨w.heap.size, 0, none⟩) w.heap.size t s.size K rl w2 (fun _ => rfl) HRL.out hc2 (by omega) ⟨hK1, hK2⟩).mono ?_
      rintro e w3 ⟨v1, v2, rfl, hv1, hi3, hb3⟩
      obtain ⟨g, cap, rfl, h1, h2, h3, h4⟩ := hi3.some (by rw [HL.out]; omega)
      have hcell : w3.cell? ⟨g, t, none⟩ = some (.int .i64 (q : Int)) := (h4 t _ (by rw [List.getElem?_map]; unfold lds; rw [HG.out]; rfl)).1
      rw [HL.out, HFIN.out] at h1 ⊢
      have i1 : (t : Int) < ((t + q + 1 : Nat) : Int) := by omega
      clear C0 h4 hi3 hv1 hc1 hc2
      go_wp2
      go_ret2
      have hb12 := hb1.trans hb2
      exact ⟨rfl, hb12.trans (hb3.mono hb12.size)⟩
    · obtain rfl : q = 0 := by omega
      have hfin : fin K rl = t := by have := HFIN.out; omega
      have HCB2 := hide (HCB.out hfin)
      have d0 : decide ((0 : Nat) = 0) = true := rfl
      rw [d0, if_pos rfl, ← HCB2.out]
      have HRR := hide (show (stp K rl).reverse.length = (stp K rl).length from List.length_reverse)
      have HTL := hide (show tl (stp K rl).reverse ≤ 120 by have := tl_le (stp K rl).reverse; rw [HRR.out, HSL.out, hfin] at this; omega)
      rw [HSL.out, hfin] at HRR
      clear d0 HCB HCB2
      go_enter Tryz.func107, Tryz.ntmps107
      go_wp2_with fail
      refine (C0.out _).mono ?_
      rintro e w1 ⟨rfl, hb1, hc1, hz1⟩
      go_wp2_with fail
      refine (reverse_any w.heap.size t s.size w.heap.size (cut (bits s)) w1 HCL.out (by omega) (Nat.le_refl _) hc1).mono ?_
      rintro e w2 ⟨rfl, hb2, hc2⟩
      rw [← HRL2.out] at hc2
      go_wp2_with fail
      refine (carry_any (some ⟨w.heap.size, 0, none⟩) w.heap.size t s.size K rl w2 (fun _ => rfl) HRL.out hc2 (by omega) ⟨hK1, hK2⟩).mono ?_
      rintro e w3 ⟨v1, v2, rfl, ⟨y, gp, capp, rfl, p1, p2, p3, p4, p5⟩, hi3, hb3⟩
      rw [HSL.out, hfin] at p1 p3
      obtain ⟨g, cap, rfl, h1, h2, h3, h4⟩ := hi3.some (by rw [HL.out]; omega)
      have hcell : w3.cell? ⟨g, t, none⟩ = some (.int .i64 ((0 : Nat) : Int)) := (h4 t _ (by rw [List.getElem?_map]; unfold lds; rw [HG.out]; rfl)).1
      rw [HL.out, hfin] at h1 ⊢
      rw [HSL.out, hfin]
      have i1 : (t : Int) < ((t + 1 : Nat) : Int) := by omega
      have HP1 := hide p1
      have HP2 := hide p2
      clear C0 h4 hi3 hc1 hc2 p1 p2
      go_wp2_with fail
      refine (reverse_g y gp t capp w2.heap.size (stp K rl) w3 HP1.out (by rw [HSL.out, hfin]) (by omega) p5 HP2.out).mono ?_
      rintro e w4 ⟨rfl, hb4, hc4⟩
      go_wp2_with fail
      refine (text_g y gp t capp (stp K rl).reverse w4 HP1.out HRR.out hc4 p3 p4 HTL.out).mono ?_
      rintro e w5 ⟨rfl, hb5⟩
      go_wp2_with fail
      go_ret2
      have hb12 := hb1.trans hb2
      have hb14 := hb12.trans ((hb3.trans hb4).mono hb12.size)
      exact ⟨rfl, hb14.trans (hb5.mono hb14.size)⟩
end Go.Proofs.YtdooboibmllfkaaGreatDoor

namespace Go.Proofs.YtdooboibmllfkaaGreatDoor
set_option maxRecDepth 100000
open Go.RowKit Go.Shelf

attribute [local go_sem] Oper.semAt_some

end Go.Proofs.YtdooboibmllfkaaGreatDoor

namespace Go.Proofs.YtdooboibmllfkaaGreatDoor
set_option maxRecDepth 100000
open Go.RowKit

end Go.Proofs.YtdooboibmllfkaaGreatDoor

namespace Go.Proofs.YtdooboibmllfkaaGreatDoor
set_option maxRecDepth 100000
open Go.RowKit

theorem vld_tidyS (s : ByteArray) (h : vld s = true) : vld (tidyS s) = true := by
  have h1 := vld_sgn s h
  have h2 := vld_le s h
  have h3 := tidyS_le s
  have hl : (tidyS s).data.toList = s.data.toList.take (tl (bits s)) := by
    unfold tidyS
    rw [Lib.extract_data]
    simp
  unfold vld
  rw [hl]
  unfold allSgn at h1 ⊢
  rw [List.all_eq_true] at h1
  rw [Bool.and_eq_true, List.all_eq_true]
  exact ⟨fun c hc => h1 c (List.mem_of_mem_take hc), by simp; omega⟩
end Go.Proofs.YtdooboibmllfkaaGreatDoor

namespace Go.Proofs.YtdooboibmllfkaaGreatDoor
set_option maxRecDepth 100000
open Go.RowKit

theorem bits_ofBits (l : List Bool) : bits (ofBits l) = l := bits_chars l (ofBits l) (by simp [ofBits])
theorem vld_ofBits (l : List Bool) (h : l.length ≤ 120) : vld (ofBits l) = true := by
  unfold vld
  have e : (ofBits l).data.toList = chars l := by simp [ofBits]
  have hz : (ofBits l).size = l.length := by
    have := congrArg List.length e; rw [chars_length] at this; exact this
  rw [e, chars_sgn, hz]; simpa using h
theorem shS_facts (s : ByteArray) (n : Int) (h : shOk s n = true) : vld (shS s n) = true ∧ bits (shS s n) = if tl (bits s) = 0 then [] else shB n.toNat (bits s) := by
  by_cases h0 : tl (bits s) = 0
  · have e : shS s n = ByteArray.empty := by unfold shS; simp [h0]
    rw [e, if_pos h0]; exact ⟨rfl, rfl⟩
  · have e : shS s n = ofBits (shB n.toNat (bits s)) := by unfold shS; simp [h0, h]
    rw [e, if_neg h0, bits_ofBits]
    refine ⟨vld_ofBits _ ?_, rfl⟩
    rw [shB_length]
    unfold shOk at h
    simp [h0] at h
    omega
end Go.Proofs.YtdooboibmllfkaaGreatDoor

namespace Go.Proofs.YtdooboibmllfkaaGreatDoor
set_option maxRecDepth 100000
open Go.RowKit

theorem stS_size (s : ByteArray) (room : Int) : (stS s room).size ≤ 120 := by
  unfold stS
  cases h : stOk s room
  · exact Nat.zero_le _
  · unfold stOk at h
    simp at h
    rw [if_pos rfl]
    show (ofBits _).data.size ≤ 120
    unfold ofBits
    simp [chars_length, cut_length]
    exact h.2
end Go.Proofs.YtdooboibmllfkaaGreatDoor

namespace Go.Proofs.YtdooboibmllfkaaGreatDoor
set_option maxRecDepth 100000
open Go.RowKit

theorem tkOk_iff {s : ByteArray} {n : Int} (h : tkOk s n = true) : vld s = true ∧ roomOk n = true := by unfold tkOk at h; simpa using h
theorem stOk_tk {s : ByteArray} {n : Int} (h : stOk s n = true) : tkOk s n = true := by unfold stOk at h; unfold tkOk; simp at h ⊢; exact h.1
theorem stOk_le {s : ByteArray} {n : Int} (h : stOk s n = true) : tl (stp n.toNat (bits s)) ≤ 120 := by unfold stOk at h; simp at h; exact h.2
theorem vld_stS {s : ByteArray} {n : Int} (h : stOk s n = true) : vld (stS s n) = true := by
  unfold stS; rw [h, if_pos rfl]; exact vld_ofBits _ (by rw [cut_length]; exact stOk_le h)
theorem tl_bits (s : ByteArray) : tl (bits s) ≤ s.size := by have := tl_le (bits s); rw [length_bits] at this; exact this
theorem bx_size (s : ByteArray) (i : Nat) (h : s.size ≤ i) : bx (bits s) i = false := bx_out _ _ (by rw [length_bits]; exact h)

theorem text_ext {l m : List Bool} (h : ∀ i, bx l i = bx m i) : ofBits (cut l) = ofBits (cut m) := by rw [cut_ext h]
theorem tidy_ofBits {s : ByteArray} (h : vld s = true) : tidyS s = ofBits (cut (bits s)) := (tidyS_eq s (vld_sgn s h)).symm

theorem back_eq {s : ByteArray} {n : Int} (h : bkOk s n = true) : stOk (bkS s n) n = true ∧ stS (bkS s n) n = tidyS s := by
  have h0 := h
  unfold bkOk at h0
  simp at h0
  obtain ⟨⟨hv, hr⟩, hb⟩ := h0
  have hl : (bkB n.toNat (bits s)).length = s.size := by unfold bkB; rw [List.length_reverse, stpU_length, length_bits]
  have e0 : bkS s n = ofBits (cut (bkB n.toNat (bits s))) := by unfold bkS; rw [h, if_pos rfl]
  have e1 : bits (bkS s n) = cut (bkB n.toNat (bits s)) := by rw [e0, bits_ofBits]
  have e2 : bx (bits (bkS s n)) = bkF n.toNat (bx (bits s)) s.size := by
    rw [e1, bx_fun_cut]; funext i; rw [bx_bkB, length_bits]
  have e3 : ∀ i, bx (stp n.toNat (bits (bkS s n))) i = bx (bits s) i := by
    intro i; rw [bx_stp, e2]; exact step_back (bx_size s) hb i
  have hv2 : vld (bkS s n) = true := by
    rw [e0]; apply vld_ofBits; rw [cut_length]; have := tl_le (bkB n.toNat (bits s)); have := vld_le s hv; omega
  have hok : stOk (bkS s n) n = true := by
    unfold stOk; rw [hv2, hr, tl_ext e3]; simp; have := tl_bits s; have := vld_le s hv; omega
  refine ⟨hok, ?_⟩
  show (if stOk (bkS s n) n then _ else _) = _
  rw [hok, if_pos rfl, text_ext e3, tidy_ofBits hv]

theorem nballs_cn (l : List Bool) (N : Nat) (hN : l.length ≤ N) : nballs l = cn (bx l) N := by
  have h : ∀ k, k ≤ l.length → nballs (l.take k) = cn (bx l) k := by
    intro k
    induction k with
    | zero => intro _; rfl
    | succ k ih =>
      intro hk
      have e : l[k]? = some l[k] := List.getElem?_eq_getElem (by omega)
      rw [nballs_snoc l k _ e, ih (by omega)]
      show _ = cn (bx l) k + _
      rw [bx_some l k _ e]
  have h1 := h l.length (Nat.le_refl _)
  rw [List.take_of_length_le (Nat.le_refl _)] at h1
  have h2 := cn_tail (f := bx l) (n := l.length) (fun i hi => bx_out l i hi) (N - l.length)
  rw [show l.length + (N - l.length) = N by omega] at h2
  rw [h1, h2]
end Go.Proofs.YtdooboibmllfkaaGreatDoor
