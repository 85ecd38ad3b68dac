/- TEXTS Step3. -/
import Derived.Test.YteibopcneflidabDoorRl29
import Derived.Test.YteibopcneflidabDoorRl30
import Derived.Test.YteibopcneflidabDoorRl31
/- THE WALKS of readStep and of the program's StepOf, StepLoads, StepTaken. -/
namespace Go.Proofs.YteibopcneflidabDoor
open Go.RowKit

theorem tl_at (l : List Bool) (n : Nat) (h : tl l = n + 1) : bx l n = true := by
  have hlen : n < l.length := by have := tl_le l; omega
  obtain ⟨m, hm⟩ := cut_eq l
  have hc := cut_length l
  rw [h] at hc
  cases hb : bx l n with
  | true => rfl
  | false =>
    exfalso
    have e : tl (l.take (n + 1)) = n + 1 := by
      have : l.take (n + 1) = cut l := by unfold cut; rw [h]
      rw [this, tl_cut, h]
    have hb2 : l[n]? = some false := by
      unfold bx at hb
      rw [List.getElem?_eq_getElem hlen] at hb ⊢
      simpa using hb
    rw [tl_take_pred l n hlen hb2] at e
    have := tl_le (l.take n)
    rw [List.length_take] at this
    omega
theorem bx_cut (l : List Bool) (i : Nat) : bx (cut l) i = bx l i := by
  obtain ⟨m, hm⟩ := cut_eq l
  have : bx l i = bx (cut l ++ List.replicate m false) i := by rw [← hm]
  rw [this]
  unfold bx
  by_cases h : i < (cut l).length
  · rw [List.getElem?_append_left h]
  · rw [List.getElem?_append_right (by omega), List.getElem?_eq_none_iff.2 (by omega), List.getElem?_replicate]
    split <;> rfl
theorem tl_le_iff (l : List Bool) (n : Nat) : tl l ≤ n ↔ ∀ i, n ≤ i → bx l i = false := by
  constructor
  · intro h i hi
    rw [← bx_cut, bx_out _ _ (by rw [cut_length]; omega)]
  · intro h
    rcases Nat.lt_or_ge n (tl l) with h1 | h1
    · have := tl_at l (tl l - 1) (by omega)
      rw [h _ (by omega)] at this
      cases this
    · exact h1
theorem tl_ext {l m : List Bool} (h : ∀ i, bx l i = bx m i) : tl l = tl m :=
  Nat.le_antisymm ((tl_le_iff l _).2 fun i hi => by rw [h]; exact (tl_le_iff m _).1 (Nat.le_refl _) i hi) ((tl_le_iff m _).2 fun i hi => by rw [← h]; exact (tl_le_iff l _).1 (Nat.le_refl _) i hi)
theorem cut_ext {l m : List Bool} (h : ∀ i, bx l i = bx m i) : cut l = cut m := by
  apply List.ext_getElem?
  intro i
  have hl := cut_length l
  have hm := cut_length m
  have e := tl_ext h
  by_cases hi : i < tl l
  · have h1 := h i
    rw [← bx_cut l, ← bx_cut m] at h1
    unfold bx at h1
    rw [List.getElem?_eq_getElem (by omega), List.getElem?_eq_getElem (by omega)] at h1 ⊢
    simpa using h1
  · rw [List.getElem?_eq_none_iff.2 (by omega), List.getElem?_eq_none_iff.2 (by omega)]
theorem bx_fun_cut (l : List Bool) : bx (cut l) = bx l := funext (bx_cut l)
theorem stp_cut (K : Nat) (l : List Bool) : cut (stp K (cut l)) = cut (stp K l) := cut_ext fun i => by rw [bx_stp, bx_stp, bx_fun_cut]
theorem tl_stp_cut (K : Nat) (l : List Bool) : tl (stp K (cut l)) = tl (stp K l) := tl_ext fun i => by rw [bx_stp, bx_stp, bx_fun_cut]

theorem readStep_no (s : ByteArray) (room : Int) (w : World) (hs : s.size ≤ maxLen) (h : tkOk s room = false) :
    Calls Tryd.prog 19 #[.string s, .int .i64 room] w fun e w' => e = .returned (.tuple #[.slice none 0 0, .bool false]) ∧ w = w' := by
  by_cases h1 : room < 1
  · go_enter Tryd.func19, Tryd.ntmps19
    go_wp2
    go_ret2
    exact ⟨rfl, rfl⟩
  · by_cases h2 : 200 < room
    · go_enter Tryd.func19, Tryd.ntmps19
      go_wp2
      go_ret2
      exact ⟨rfl, rfl⟩
    · have hv : vld s = false := by
        cases hv : vld s with
        | false => rfl
        | true => simp [tkOk, hv, roomOk] at h; omega
      go_enter Tryd.func19, Tryd.ntmps19
      go_wp2_with (go_at_call 26; refine (readRow_no _ _ hs hv).mono ?_; rintro e w' ⟨rfl, rfl⟩)
      go_ret2
      exact ⟨rfl, rfl⟩
theorem readStep_yes (s : ByteArray) (K : Nat) (w : World) (hv : vld s = true) (hK : 1 ≤ K ∧ K ≤ 200) :
    Calls Tryd.prog 19 #[.string s, .int .i64 (K : Int)] w fun e w' => e = .returned (.tuple #[.slice (some ⟨w.heap.size, 0, none⟩) (tl (bits s)) s.size, .bool true]) ∧
      Below w.heap.size w w' ∧ CellsAt w' w.heap.size ((cut (bits s)).map .bool) ∧ w.heap.size < w'.heap.size := by
  have HM := hide (cut_map (bits s))
  go_enter Tryd.func19, Tryd.ntmps19
  go_wp2_with (go_at_call 26; refine (readRow_yes _ _ hv).mono ?_; rintro e w' ⟨rfl, hb, hc, hz⟩)
  go_ret2
  exact ⟨rfl, hb, by rw [HM.out]; exact hc.take _, hz⟩

set_option maxHeartbeats 1000000 in
theorem implStepOf_any (s : ByteArray) (room : Int) (w : World) (hs : s.size ≤ maxLen) :
    Calls Tryd.prog 8 #[.string s, .int .i64 room] w fun e w' => e = .returned (.tuple #[.string (stS s room), .bool (stOk s room)]) ∧ Below w.heap.size w w' := by
  cases hk : tkOk s room
  · have e1 : stOk s room = false := by unfold tkOk at hk; unfold stOk; rw [hk]; rfl
    have e2 : stS s room = ByteArray.empty := by simp [stS, e1]
    rw [e1, e2]
    clear e1 e2
    go_enter Tryd.func8, Tryd.ntmps8
    go_wp2_with (go_at_call 19; refine (readStep_no _ _ _ hs hk).mono ?_; rintro e w' ⟨rfl, rfl⟩)
    go_ret2
    exact ⟨rfl, Below.refl _ _⟩
  · have hk2 := hk
    unfold tkOk at hk2
    simp at hk2
    obtain ⟨hv, hr⟩ := hk2
    have h120 := vld_le s hv
    have e1 : stOk s room = decide (tl (stp room.toNat (bits s)) ≤ 120) := by simp [stOk, hv, hr]
    have e2 : stS s room = if tl (stp room.toNat (bits s)) ≤ 120 then ofBits (cut (stp room.toNat (bits s))) else ByteArray.empty := by
      unfold stS; rw [e1]; simp
    rw [e1, e2]
    obtain ⟨K, rfl, hK1, hK2, hK3⟩ := room_nat hr
    rw [hK3]
    have hle := tl_le (bits s)
    rw [length_bits] at hle
    have C0 := hide (fun w => readStep_yes s K w hv ⟨hK1, hK2⟩)
    have HE1 := hide (stp_cut K (bits s))
    have HE2 := hide (tl_stp_cut K (bits s))
    have HCL := hide (cut_length (bits s))
    have hf := fin_le K (cut (bits s))
    rw [HCL.out] at hf
    obtain ⟨t, ht⟩ : ∃ t, t = tl (bits s) := ⟨_, rfl⟩
    rw [← ht] at hle C0 HCL hf
    clear ht e1 e2 hk hr hK3
    have HX := hide (show ∀ (y : Option Addr) (g cap : Nat) (W : World), (0 < (stp K (cut (bits s))).length → y = some ⟨g, 0, none⟩) → CellsAt W g ((stp K (cut (bits s))).map .bool) → (stp K (cut (bits s))).length ≤ cap → cap ≤ maxLen →
      Calls Tryd.prog 21 #[.slice y (stp K (cut (bits s))).length cap] W fun e w' => e = .returned (.tuple #[.string (if tl (stp K (bits s)) ≤ 120 then ofBits (cut (stp K (bits s))) else ByteArray.empty), .bool (decide (tl (stp K (bits s)) ≤ 120))]) ∧ Below W.heap.size W w' by
      intro y g cap W h1 h2 h3 h4
      by_cases hb : tl (stp K (bits s)) ≤ 120
      · have := text_g y g _ cap _ W h1 rfl h2 h3 h4 (by rw [HE2.out]; exact hb)
        rw [HE1.out] at this
        rw [if_pos hb, decide_eq_true hb]; exact this
      · have := text_big y g _ cap _ W h1 rfl h2 h3 h4 (by rw [HE2.out]; omega)
        rw [if_neg hb, decide_eq_false hb]; exact this)
    obtain ⟨z, hz⟩ : ∃ y, y = (if tl (stp K (bits s)) ≤ 120 then ofBits (cut (stp K (bits s))) else ByteArray.empty) := ⟨_, rfl⟩
    obtain ⟨b, hb0⟩ : ∃ b, b = decide (tl (stp K (bits s)) ≤ 120) := ⟨_, rfl⟩
    rw [← hz, ← hb0] at HX ⊢
    clear hz hb0 HE1 HE2
    go_enter Tryd.func8, Tryd.ntmps8
    go_wp2_with fail
    refine (C0.out _).mono ?_
    rintro e w1 ⟨rfl, hb1, hc1, hz1⟩
    go_wp2_with fail
    refine (carry_any (some ⟨w.heap.size, 0, none⟩) w.heap.size t s.size K (cut (bits s)) w1 (fun _ => rfl) HCL.out hc1 (by omega) ⟨hK1, hK2⟩).mono ?_
    rintro e w2 ⟨v1, v2, rfl, ⟨y, g, cap, rfl, g1, g2, g3, g4, g5⟩, hi2, hb2⟩
    have HXy := hide (HX.out y g cap w2 g1 g2 g3 g4)
    clear g1 g2 hi2 HX
    go_wp2_with fail
    refine HXy.out.mono ?_
    rintro e w3 ⟨rfl, hb3⟩
    go_wp2_with fail
    go_ret2
    have hb12 := hb1.trans (hb2.mono hb1.size)
    exact ⟨rfl, hb12.trans (hb3.mono hb12.size)⟩

end Go.Proofs.YteibopcneflidabDoor

/- THE WALK of the program's StepTaken; the walks of StepBack, of the model and of the program. -/
namespace Go.Proofs.YteibopcneflidabDoor
open Go.RowKit

theorem tk_up {K : Nat} {f : Nat → Bool} {k : Nat} (h : ld K f k < ld K f (k + 1)) : tk K f (k + 1) = tk K f k + 1 := by
  cases hf : f k
  · by_cases hu : 0 < ld K f k
    · have := (box_put hf hu).2.1; omega
    · have := (box_none hf hu).2.1; omega
  · by_cases hu : ld K f k < K
    · exact (box_take hf hu).2.2
    · have := (box_full hf hu).2.1; omega
theorem tk_flat {K : Nat} {f : Nat → Bool} {k : Nat} (h : ¬ ld K f k < ld K f (k + 1)) : tk K f (k + 1) = tk K f k := by
  cases hf : f k
  · by_cases hu : 0 < ld K f k
    · exact (box_put hf hu).2.2
    · exact (box_none hf hu).2.2
  · by_cases hu : ld K f k < K
    · have := (box_take hf hu).2.1; omega
    · exact (box_full hf hu).2.2
theorem tk_le (K : Nat) (f : Nat → Bool) (i : Nat) : tk K f i ≤ i := by
  induction i with
  | zero => exact Nat.le_refl _
  | succ i ih => show tk K _ i + _ ≤ _; split <;> omega

end Go.Proofs.YteibopcneflidabDoor

/- THE WALKS of StepBack, of the model and of the program. -/
namespace Go.Proofs.YteibopcneflidabDoor
open Go.RowKit

theorem bx_reverse (l : List Bool) (i : Nat) : bx l.reverse i = rv l.length (bx l) i := by
  unfold rv
  by_cases h : i < l.length
  · rw [if_pos h]; unfold bx; rw [List.getElem?_reverse h]
  · rw [if_neg h, bx_out _ _ (by simp; omega)]
/-- the boxes that a carrier leaves that goes back -/
def bkB (K : Nat) (l : List Bool) : List Bool := (stpU K (rv l.length (bx l)) l.length).reverse
theorem bx_bkB (K : Nat) (l : List Bool) (i : Nat) : bx (bkB K l) i = bkF K (bx l) l.length i := by
  unfold bkB
  rw [bx_reverse, stpU_length]
  unfold bkF rv
  by_cases h : i < l.length
  · rw [if_pos h, if_pos h]
    unfold bx
    simp [stpU, show l.length - 1 - i < l.length by omega]
  · rw [if_neg h, if_neg h]
/-- what StepBack answers -/
def bkOk (s : ByteArray) (room : Int) : Bool := vld s && roomOk room && decide (bkL room.toNat (bx (bits s)) s.size = 0)
def bkS (s : ByteArray) (room : Int) : ByteArray := if bkOk s room then ofBits (cut (bkB room.toNat (bits s))) else ByteArray.empty

theorem rv_at (n j p : Nat) (f : Nat → Bool) (h : j + (p + 1) = n) : rv n f j = f p := by unfold rv; rw [if_pos (by omega), show n - 1 - j = p by omega]

/-- the loop of l2Back, between two boxes -/
def BackRel (s : ByteArray) (K : Nat) (u o i : Value) : Prop :=
  ∃ (x : ByteArray) (j m : Nat) (z : Int), j + m = s.size ∧ i = .int .i64 z ∧ z = (m : Int) - 1 ∧ o = .string x ∧ x.size = j ∧ u = .int .i64 (ld K (rv s.size (bx (bits s))) j : Int) ∧
    Hid (x.data.toList = chars (stpU K (rv s.size (bx (bits s))) j).reverse)
theorem BackRel.next {s : ByteArray} {K : Nat} {x : ByteArray} {j p : Nat} (hj : j + (p + 1) = s.size) (hx : x.size = j) (HX : Hid (x.data.toList = chars (stpU K (rv s.size (bx (bits s))) j).reverse)) (c : UInt8) (u : Int)
    (hc : (if tr K (rv s.size (bx (bits s))) j then 49 else 48) = c) (hu : (ld K (rv s.size (bx (bits s))) (j + 1) : Int) = u) :
    BackRel s K (.int .i64 u) (.string (⟨#[c]⟩ ++ x)) (.int .i64 ((p : Int) - 1)) := by
  refine ⟨_, j + 1, p, _, by omega, rfl, rfl, rfl, ?_, by rw [hu], ?_⟩
  · rw [ByteArray.size_append]; show 1 + x.size = _; omega
  · show (_ ++ x).data.toList = _
    rw [ByteArray.data_append, Array.toList_append, HX.out, stpU_succ, List.reverse_append, ← hc]
    unfold chars
    simp

end Go.Proofs.YteibopcneflidabDoor
