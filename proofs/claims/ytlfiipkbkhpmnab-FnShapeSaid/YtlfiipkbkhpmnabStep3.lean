import Derived.Test.YtlfiipkbkhpmnabStep2
import Derived.Test.YtlfiipkbkhpmnabCarrier
import Derived.Test.YtlfiipkbkhpmnabRowTurned
/- THE WALKS of readStep and of the program's StepOf, StepLoads, StepTaken. -/
namespace Go.Proofs.Ytlfiipkbkhpmnab
open Go.RowKit

theorem tl_at (l : List Bool) (n : Nat) (h : tl l = n + 1) : bx l n = true := by
  have hlen : n < l.length := by have := tl_le l; omega
  obtain ⟨m, hm⟩ := cut_eq l
  have hc := cut_length l
  rw [h] at hc
  cases hb : bx l n with
  | true => rfl
  | false =>
    exfalso
    have e : tl (l.take (n + 1)) = n + 1 := by
      have : l.take (n + 1) = cut l := by unfold cut; rw [h]
      rw [this, tl_cut, h]
    have hb2 : l[n]? = some false := by
      unfold bx at hb
      rw [List.getElem?_eq_getElem hlen] at hb ⊢
      simpa using hb
    rw [tl_take_pred l n hlen hb2] at e
    have := tl_le (l.take n)
    rw [List.length_take] at this
    omega
theorem bx_cut (l : List Bool) (i : Nat) : bx (cut l) i = bx l i := by
  obtain ⟨m, hm⟩ := cut_eq l
  have : bx l i = bx (cut l ++ List.replicate m false) i := by rw [← hm]
  rw [this]
  unfold bx
  by_cases h : i < (cut l).length
  · rw [List.getElem?_append_left h]
  · rw [List.getElem?_append_right (by omega), List.getElem?_eq_none_iff.2 (by omega), List.getElem?_replicate]
    split <;> rfl
theorem tl_le_iff (l : List Bool) (n : Nat) : tl l ≤ n ↔ ∀ i, n ≤ i → bx l i = false := by
  constructor
  · intro h i hi
    rw [← bx_cut, bx_out _ _ (by rw [cut_length]; omega)]
  · intro h
    rcases Nat.lt_or_ge n (tl l) with h1 | h1
    · have := tl_at l (tl l - 1) (by omega)
      rw [h _ (by omega)] at this
      cases this
    · exact h1
theorem tl_ext {l m : List Bool} (h : ∀ i, bx l i = bx m i) : tl l = tl m :=
  Nat.le_antisymm ((tl_le_iff l _).2 fun i hi => by rw [h]; exact (tl_le_iff m _).1 (Nat.le_refl _) i hi) ((tl_le_iff m _).2 fun i hi => by rw [← h]; exact (tl_le_iff l _).1 (Nat.le_refl _) i hi)
theorem cut_ext {l m : List Bool} (h : ∀ i, bx l i = bx m i) : cut l = cut m := by
  apply List.ext_getElem?
  intro i
  have hl := cut_length l
  have hm := cut_length m
  have e := tl_ext h
  by_cases hi : i < tl l
  · have h1 := h i
    rw [← bx_cut l, ← bx_cut m] at h1
    unfold bx at h1
    rw [List.getElem?_eq_getElem (by omega), List.getElem?_eq_getElem (by omega)] at h1 ⊢
    simpa using h1
  · rw [List.getElem?_eq_none_iff.2 (by omega), List.getElem?_eq_none_iff.2 (by omega)]
theorem bx_fun_cut (l : List Bool) : bx (cut l) = bx l := funext (bx_cut l)
theorem stp_cut (K : Nat) (l : List Bool) : cut (stp K (cut l)) = cut (stp K l) := cut_ext fun i => by rw [bx_stp, bx_stp, bx_fun_cut]
theorem tl_stp_cut (K : Nat) (l : List Bool) : tl (stp K (cut l)) = tl (stp K l) := tl_ext fun i => by rw [bx_stp, bx_stp, bx_fun_cut]

theorem readStep_no (s : ByteArray) (room : Int) (w : World) (hs : s.size ≤ maxLen) (h : tkOk s room = false) :
    Calls Try.prog 41 #[.string s, .int .i64 room] w fun e w' => e = .returned (.tuple #[.slice none 0 0, .bool false]) ∧ w = w' := by
  by_cases h1 : room < 1
  · go_enter Try.func41, Try.ntmps41
    go_wp2
    go_ret2
    exact ⟨rfl, rfl⟩
  · by_cases h2 : 200 < room
    · go_enter Try.func41, Try.ntmps41
      go_wp2
      go_ret2
      exact ⟨rfl, rfl⟩
    · have hv : vld s = false := by
        cases hv : vld s with
        | false => rfl
        | true => simp [tkOk, hv, roomOk] at h; omega
      go_enter Try.func41, Try.ntmps41
      go_wp2_with (go_at_call 35; refine (readRow_no _ _ hs hv).mono ?_; rintro e w' ⟨rfl, rfl⟩)
      go_ret2
      exact ⟨rfl, rfl⟩
theorem readStep_yes (s : ByteArray) (K : Nat) (w : World) (hv : vld s = true) (hK : 1 ≤ K ∧ K ≤ 200) :
    Calls Try.prog 41 #[.string s, .int .i64 (K : Int)] w fun e w' => e = .returned (.tuple #[.slice (some ⟨w.heap.size, 0, none⟩) (tl (bits s)) s.size, .bool true]) ∧
      Below w.heap.size w w' ∧ CellsAt w' w.heap.size ((cut (bits s)).map .bool) ∧ w.heap.size < w'.heap.size := by
  have HM := hide (cut_map (bits s))
  go_enter Try.func41, Try.ntmps41
  go_wp2_with (go_at_call 35; refine (readRow_yes _ _ hv).mono ?_; rintro e w' ⟨rfl, hb, hc, hz⟩)
  go_ret2
  exact ⟨rfl, hb, by rw [HM.out]; exact hc.take _, hz⟩

set_option maxHeartbeats 1000000 in
theorem implStepOf_any (s : ByteArray) (room : Int) (w : World) (hs : s.size ≤ maxLen) :
    Calls Try.prog 15 #[.string s, .int .i64 room] w fun e w' => e = .returned (.tuple #[.string (stS s room), .bool (stOk s room)]) ∧ Below w.heap.size w w' := by
  cases hk : tkOk s room
  · have e1 : stOk s room = false := by unfold tkOk at hk; unfold stOk; rw [hk]; rfl
    have e2 : stS s room = ByteArray.empty := by simp [stS, e1]
    rw [e1, e2]
    clear e1 e2
    go_enter Try.func15, Try.ntmps15
    go_wp2_with (go_at_call 41; refine (readStep_no _ _ _ hs hk).mono ?_; rintro e w' ⟨rfl, rfl⟩)
    go_ret2
    exact ⟨rfl, Below.refl _ _⟩
  · have hk2 := hk
    unfold tkOk at hk2
    simp at hk2
    obtain ⟨hv, hr⟩ := hk2
    have h120 := vld_le s hv
    have e1 : stOk s room = decide (tl (stp room.toNat (bits s)) ≤ 120) := by simp [stOk, hv, hr]
    have e2 : stS s room = if tl (stp room.toNat (bits s)) ≤ 120 then ofBits (cut (stp room.toNat (bits s))) else ByteArray.empty := by
      unfold stS; rw [e1]; simp
    rw [e1, e2]
    obtain ⟨K, rfl, hK1, hK2, hK3⟩ := room_nat hr
    rw [hK3]
    have hle := tl_le (bits s)
    rw [length_bits] at hle
    have C0 := hide (fun w => readStep_yes s K w hv ⟨hK1, hK2⟩)
    have HE1 := hide (stp_cut K (bits s))
    have HE2 := hide (tl_stp_cut K (bits s))
    have HCL := hide (cut_length (bits s))
    have hf := fin_le K (cut (bits s))
    rw [HCL.out] at hf
    obtain ⟨t, ht⟩ : ∃ t, t = tl (bits s) := ⟨_, rfl⟩
    rw [← ht] at hle C0 HCL hf
    clear ht e1 e2 hk hr hK3
    have HX := hide (show ∀ (y : Option Addr) (g cap : Nat) (W : World), (0 < (stp K (cut (bits s))).length → y = some ⟨g, 0, none⟩) → CellsAt W g ((stp K (cut (bits s))).map .bool) → (stp K (cut (bits s))).length ≤ cap → cap ≤ maxLen →
      Calls Try.prog 43 #[.slice y (stp K (cut (bits s))).length cap] W fun e w' => e = .returned (.tuple #[.string (if tl (stp K (bits s)) ≤ 120 then ofBits (cut (stp K (bits s))) else ByteArray.empty), .bool (decide (tl (stp K (bits s)) ≤ 120))]) ∧ Below W.heap.size W w' by
      intro y g cap W h1 h2 h3 h4
      by_cases hb : tl (stp K (bits s)) ≤ 120
      · have := text_g y g _ cap _ W h1 rfl h2 h3 h4 (by rw [HE2.out]; exact hb)
        rw [HE1.out] at this
        rw [if_pos hb, decide_eq_true hb]; exact this
      · have := text_big y g _ cap _ W h1 rfl h2 h3 h4 (by rw [HE2.out]; omega)
        rw [if_neg hb, decide_eq_false hb]; exact this)
    obtain ⟨z, hz⟩ : ∃ y, y = (if tl (stp K (bits s)) ≤ 120 then ofBits (cut (stp K (bits s))) else ByteArray.empty) := ⟨_, rfl⟩
    obtain ⟨b, hb0⟩ : ∃ b, b = decide (tl (stp K (bits s)) ≤ 120) := ⟨_, rfl⟩
    rw [← hz, ← hb0] at HX ⊢
    clear hz hb0 HE1 HE2
    go_enter Try.func15, Try.ntmps15
    go_wp2_with fail
    refine (C0.out _).mono ?_
    rintro e w1 ⟨rfl, hb1, hc1, hz1⟩
    go_wp2_with fail
    refine (carry_any (some ⟨w.heap.size, 0, none⟩) w.heap.size t s.size K (cut (bits s)) w1 (fun _ => rfl) HCL.out hc1 (by omega) ⟨hK1, hK2⟩).mono ?_
    rintro e w2 ⟨v1, v2, rfl, ⟨y, g, cap, rfl, g1, g2, g3, g4, g5⟩, hi2, hb2⟩
    have HXy := hide (HX.out y g cap w2 g1 g2 g3 g4)
    clear g1 g2 hi2 HX
    go_wp2_with fail
    refine HXy.out.mono ?_
    rintro e w3 ⟨rfl, hb3⟩
    go_wp2_with fail
    go_ret2
    have hb12 := hb1.trans (hb2.mono hb1.size)
    exact ⟨rfl, hb12.trans (hb3.mono hb12.size)⟩

end Go.Proofs.Ytlfiipkbkhpmnab

/- THE WALK of the program's StepTaken; the walks of StepBack, of the model and of the program. -/
namespace Go.Proofs.Ytlfiipkbkhpmnab
open Go.RowKit

theorem tk_up {K : Nat} {f : Nat → Bool} {k : Nat} (h : ld K f k < ld K f (k + 1)) : tk K f (k + 1) = tk K f k + 1 := by
  cases hf : f k
  · by_cases hu : 0 < ld K f k
    · have := (box_put hf hu).2.1; omega
    · have := (box_none hf hu).2.1; omega
  · by_cases hu : ld K f k < K
    · exact (box_take hf hu).2.2
    · have := (box_full hf hu).2.1; omega
theorem tk_flat {K : Nat} {f : Nat → Bool} {k : Nat} (h : ¬ ld K f k < ld K f (k + 1)) : tk K f (k + 1) = tk K f k := by
  cases hf : f k
  · by_cases hu : 0 < ld K f k
    · exact (box_put hf hu).2.2
    · exact (box_none hf hu).2.2
  · by_cases hu : ld K f k < K
    · have := (box_take hf hu).2.1; omega
    · exact (box_full hf hu).2.2
theorem tk_le (K : Nat) (f : Nat → Bool) (i : Nat) : tk K f i ≤ i := by
  induction i with
  | zero => exact Nat.le_refl _
  | succ i ih => show tk K _ i + _ ≤ _; split <;> omega

set_option maxHeartbeats 1000000 in
theorem implStepTaken_any (s : ByteArray) (room : Int) (w : World) (hs : s.size ≤ maxLen) :
    Calls Try.prog 18 #[.string s, .int .i64 room] w fun e w' => e = .returned (.tuple #[.int .i64 (tkN s room), .bool (tkOk s room)]) ∧ Below w.heap.size w w' := by
  cases hk : tkOk s room
  · have e2 : tkN s room = 0 := by simp [tkN, hk]
    rw [e2]
    clear e2
    go_enter Try.func18, Try.ntmps18
    go_wp2_with (go_at_call 41; refine (readStep_no _ _ _ hs hk).mono ?_; rintro e w' ⟨rfl, rfl⟩)
    go_ret2
    exact ⟨rfl, Below.refl _ _⟩
  · have e2 : tkN s room = (tk room.toNat (bx (bits s)) s.size : Int) := by simp [tkN, hk]
    rw [e2]
    unfold tkOk at hk
    simp at hk
    obtain ⟨hv, hr⟩ := hk
    have h120 := vld_le s hv
    have hle := tl_le (bits s)
    rw [length_bits] at hle
    obtain ⟨K, rfl, hK1, hK2, hK3⟩ := room_nat hr
    rw [hK3]
    have C0 := hide (fun w => readStep_yes s K w hv ⟨hK1, hK2⟩)
    have HCL := hide (cut_length (bits s))
    have HE : Hid (tk K (bx (cut (bits s))) (tl (bits s)) = tk K (bx (bits s)) s.size) := by
      have := tk_tail (K := K) (f := bx (bits s)) (n := tl (bits s)) ((tl_le_iff (bits s) _).1 (Nat.le_refl _)) (s.size - tl (bits s))
      rw [show tl (bits s) + (s.size - tl (bits s)) = s.size by omega] at this
      rw [bx_fun_cut, this]; rfl
    have HL := hide (lds_length K (cut (bits s)))
    have hf : tl (bits s) ≤ fin K (cut (bits s)) := by unfold fin; rw [HCL.out]; omega
    have hf2 := fin_le K (cut (bits s))
    rw [HCL.out] at hf2
    have HG := hide (fun (i : Nat) (h : i ≤ fin K (cut (bits s))) => ldsU_getElem K (bx (cut (bits s))) (fin K (cut (bits s)) + 1) i (by omega))
    have HLE := hide (fun i => ld_le K (bx (cut (bits s))) i)
    have HTLE := hide (fun i => tk_le K (bx (cut (bits s))) i)
    obtain ⟨t, ht⟩ : ∃ t, t = tl (bits s) := ⟨_, rfl⟩
    rw [← ht] at hle C0 HCL hf hf2 HE
    rw [← HE.out]
    clear ht e2 hr hK3
    go_enter Try.func18, Try.ntmps18
    go_wp2_with fail
    refine (C0.out _).mono ?_
    rintro e w1 ⟨rfl, hb1, hc1, hz1⟩
    go_wp2_with fail
    refine (carry_any (some ⟨w.heap.size, 0, none⟩) w.heap.size t s.size K (cut (bits s)) w1 (fun _ => rfl) HCL.out hc1 (by omega) ⟨hK1, hK2⟩).mono ?_
    rintro e w2 ⟨v1, v2, rfl, hv1, hi2, hb2⟩
    obtain ⟨g, cap, rfl, h1, h2, h3, h4⟩ := hi2.some (by rw [HL.out]; omega)
    rw [HL.out] at h1 ⊢
    have H4 := hide h4
    have HB := hide (hb1.trans (hb2.mono hb1.size))
    clear C0 h4 hi2 hv1 hc1 hb1 hb2 hz1 h2
    go_wp2
    go_loopw [10, 28] (fun t0 i wr => ∃ k : Nat, k ≤ t ∧ i = .int .i64 (k : Int) ∧ t0 = .int .i64 (tk K (bx (cut (bits s))) k : Int) ∧ Hid (Quiet w2 wr)) (fun _ i _ => t - (intOf i).toNat)
    case atStart => exact ⟨0, Nat.zero_le _, rfl, rfl, Quiet.refl _⟩
    case round =>
      obtain ⟨k, hk, rfl, rfl, HQ⟩ := hrel
      by_cases hlt : k < t
      · have c1 : wr.cell? ⟨g, k, none⟩ = some (.int .i64 (ld K (bx (cut (bits s))) k : Int)) := ((HQ.out.cells H4.out) k _ (by rw [List.getElem?_map]; unfold lds; rw [HG.out k (by omega)]; rfl)).1
        have c2 : wr.cell? ⟨g, k + 1, none⟩ = some (.int .i64 (ld K (bx (cut (bits s))) (k + 1) : Int)) := ((HQ.out.cells H4.out) (k + 1) _ (by rw [List.getElem?_map]; unfold lds; rw [HG.out (k + 1) (by omega)]; rfl)).1
        have l1 := HLE.out k
        have l2 := HLE.out (k + 1)
        have l3 := HTLE.out k
        have HUP := hide (@tk_up K (bx (cut (bits s))) k)
        have HFL := hide (@tk_flat K (bx (cut (bits s))) k)
        obtain ⟨x, hx⟩ : ∃ x, x = ld K (bx (cut (bits s))) k := ⟨_, rfl⟩
        obtain ⟨y, hy⟩ : ∃ x, x = ld K (bx (cut (bits s))) (k + 1) := ⟨_, rfl⟩
        obtain ⟨q, hq⟩ : ∃ x, x = tk K (bx (cut (bits s))) k := ⟨_, rfl⟩
        rw [← hx] at c1 l1 HUP HFL
        rw [← hy] at c2 l2 HUP HFL
        rw [← hq] at l3 HUP HFL ⊢
        clear hx hy hq
        have i0 : (0 : Int) ≤ (k : Int) := by omega
        have i1 : (k : Int) + 1 < ((fin K (cut (bits s)) + 1 : Nat) : Int) := by omega
        have i2 : (k : Int) < ((fin K (cut (bits s)) + 1 : Nat) : Int) := by omega
        by_cases hxy : x < y
        · have HT := hide (HUP.out hxy)
          have hxy' : (x : Int) < (y : Int) := by omega
          clear HUP HFL
          go_wp2
          go_quiet (fail)
          go_wp2
          go_roundw
          case rel => exact ⟨k + 1, by omega, by go_num, by rw [HT.out]; congr 1, HQ.out.trans (Quiet.drewN _)⟩
          case measure => simp [intOf]; omega
        · have HT := hide (HFL.out hxy)
          have hxy' : ¬ (x : Int) < (y : Int) := by omega
          clear HUP HFL
          go_wp2
          go_quiet (fail)
          go_wp2
          go_roundw
          case rel => exact ⟨k + 1, by omega, by go_num, by rw [HT.out], HQ.out.trans (Quiet.drewN _)⟩
          case measure => simp [intOf]; omega
      · obtain rfl : k = t := by omega
        go_wp2
        go_ret2
        exact ⟨rfl, HB.out.trans (HQ.out.2 _)⟩
end Go.Proofs.Ytlfiipkbkhpmnab

/- THE WALKS of StepBack, of the model and of the program. -/
namespace Go.Proofs.Ytlfiipkbkhpmnab
open Go.RowKit

theorem bx_reverse (l : List Bool) (i : Nat) : bx l.reverse i = rv l.length (bx l) i := by
  unfold rv
  by_cases h : i < l.length
  · rw [if_pos h]; unfold bx; rw [List.getElem?_reverse h]
  · rw [if_neg h, bx_out _ _ (by simp; omega)]
/-- the boxes that a carrier leaves that goes back -/
def bkB (K : Nat) (l : List Bool) : List Bool := (stpU K (rv l.length (bx l)) l.length).reverse
theorem bx_bkB (K : Nat) (l : List Bool) (i : Nat) : bx (bkB K l) i = bkF K (bx l) l.length i := by
  unfold bkB
  rw [bx_reverse, stpU_length]
  unfold bkF rv
  by_cases h : i < l.length
  · rw [if_pos h, if_pos h]
    unfold bx
    simp [stpU, show l.length - 1 - i < l.length by omega]
  · rw [if_neg h, if_neg h]
/-- what StepBack answers -/
def bkOk (s : ByteArray) (room : Int) : Bool := vld s && roomOk room && decide (bkL room.toNat (bx (bits s)) s.size = 0)
def bkS (s : ByteArray) (room : Int) : ByteArray := if bkOk s room then ofBits (cut (bkB room.toNat (bits s))) else ByteArray.empty

theorem rv_at (n j p : Nat) (f : Nat → Bool) (h : j + (p + 1) = n) : rv n f j = f p := by unfold rv; rw [if_pos (by omega), show n - 1 - j = p by omega]

/-- the loop of l2Back, between two boxes -/
def BackRel (s : ByteArray) (K : Nat) (u o i : Value) : Prop :=
  ∃ (x : ByteArray) (j m : Nat) (z : Int), j + m = s.size ∧ i = .int .i64 z ∧ z = (m : Int) - 1 ∧ o = .string x ∧ x.size = j ∧ u = .int .i64 (ld K (rv s.size (bx (bits s))) j : Int) ∧
    Hid (x.data.toList = chars (stpU K (rv s.size (bx (bits s))) j).reverse)
theorem BackRel.next {s : ByteArray} {K : Nat} {x : ByteArray} {j p : Nat} (hj : j + (p + 1) = s.size) (hx : x.size = j) (HX : Hid (x.data.toList = chars (stpU K (rv s.size (bx (bits s))) j).reverse)) (c : UInt8) (u : Int)
    (hc : (if tr K (rv s.size (bx (bits s))) j then 49 else 48) = c) (hu : (ld K (rv s.size (bx (bits s))) (j + 1) : Int) = u) :
    BackRel s K (.int .i64 u) (.string (⟨#[c]⟩ ++ x)) (.int .i64 ((p : Int) - 1)) := by
  refine ⟨_, j + 1, p, _, by omega, rfl, rfl, rfl, ?_, by rw [hu], ?_⟩
  · rw [ByteArray.size_append]; show 1 + x.size = _; omega
  · show (_ ++ x).data.toList = _
    rw [ByteArray.data_append, Array.toList_append, HX.out, stpU_succ, List.reverse_append, ← hc]
    unfold chars
    simp

end Go.Proofs.Ytlfiipkbkhpmnab
