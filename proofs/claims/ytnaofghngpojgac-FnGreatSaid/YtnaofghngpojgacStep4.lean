/- THE WALK of the program's StepTaken; the walks of StepBack, of the model and of the program. -/
import Derived.Test.YtnaofghngpojgacStep3
import Derived.Test.YtnaofghngpojgacRowTurned
namespace Go.Proofs.Ytnaofghngpojgac
open Go.RowKit

theorem tk_up {K : Nat} {f : Nat → Bool} {k : Nat} (h : ld K f k < ld K f (k + 1)) : tk K f (k + 1) = tk K f k + 1 := by
  cases hf : f k
  · by_cases hu : 0 < ld K f k
    · have := (box_put hf hu).2.1; omega
    · have := (box_none hf hu).2.1; omega
  · by_cases hu : ld K f k < K
    · exact (box_take hf hu).2.2
    · have := (box_full hf hu).2.1; omega
theorem tk_flat {K : Nat} {f : Nat → Bool} {k : Nat} (h : ¬ ld K f k < ld K f (k + 1)) : tk K f (k + 1) = tk K f k := by
  cases hf : f k
  · by_cases hu : 0 < ld K f k
    · exact (box_put hf hu).2.2
    · exact (box_none hf hu).2.2
  · by_cases hu : ld K f k < K
    · have := (box_take hf hu).2.1; omega
    · exact (box_full hf hu).2.2
theorem tk_le (K : Nat) (f : Nat → Bool) (i : Nat) : tk K f i ≤ i := by
  induction i with
  | zero => exact Nat.le_refl _
  | succ i ih => show tk K _ i + _ ≤ _; split <;> omega

set_option maxHeartbeats 1000000 in
theorem implStepTaken_any (s : ByteArray) (room : Int) (w : World) (hs : s.size ≤ maxLen) :
    Calls Try.prog 11 #[.string s, .int .i64 room] w fun e w' => e = .returned (.tuple #[.int .i64 (tkN s room), .bool (tkOk s room)]) ∧ Below w.heap.size w w' := by
  cases hk : tkOk s room
  · have e2 : tkN s room = 0 := by simp [tkN, hk]
    rw [e2]
    clear e2
    go_enter Try.func11, Try.ntmps11
    go_wp2_with (go_at_call 19; refine (readStep_no _ _ _ hs hk).mono ?_; rintro e w' ⟨rfl, rfl⟩)
    go_ret2
    exact ⟨rfl, Below.refl _ _⟩
  · have e2 : tkN s room = (tk room.toNat (bx (bits s)) s.size : Int) := by simp [tkN, hk]
    rw [e2]
    unfold tkOk at hk
    simp at hk
    obtain ⟨hv, hr⟩ := hk
    have h120 := vld_le s hv
    have hle := tl_le (bits s)
    rw [length_bits] at hle
    obtain ⟨K, rfl, hK1, hK2, hK3⟩ := room_nat hr
    rw [hK3]
    have C0 := hide (fun w => readStep_yes s K w hv ⟨hK1, hK2⟩)
    have HCL := hide (cut_length (bits s))
    have HE : Hid (tk K (bx (cut (bits s))) (tl (bits s)) = tk K (bx (bits s)) s.size) := by
      have := tk_tail (K := K) (f := bx (bits s)) (n := tl (bits s)) ((tl_le_iff (bits s) _).1 (Nat.le_refl _)) (s.size - tl (bits s))
      rw [show tl (bits s) + (s.size - tl (bits s)) = s.size by omega] at this
      rw [bx_fun_cut, this]; rfl
    have HL := hide (lds_length K (cut (bits s)))
    have hf : tl (bits s) ≤ fin K (cut (bits s)) := by unfold fin; rw [HCL.out]; omega
    have hf2 := fin_le K (cut (bits s))
    rw [HCL.out] at hf2
    have HG := hide (fun (i : Nat) (h : i ≤ fin K (cut (bits s))) => ldsU_getElem K (bx (cut (bits s))) (fin K (cut (bits s)) + 1) i (by omega))
    have HLE := hide (fun i => ld_le K (bx (cut (bits s))) i)
    have HTLE := hide (fun i => tk_le K (bx (cut (bits s))) i)
    obtain ⟨t, ht⟩ : ∃ t, t = tl (bits s) := ⟨_, rfl⟩
    rw [← ht] at hle C0 HCL hf hf2 HE
    rw [← HE.out]
    clear ht e2 hr hK3
    go_enter Try.func11, Try.ntmps11
    go_wp2_with fail
    refine (C0.out _).mono ?_
    rintro e w1 ⟨rfl, hb1, hc1, hz1⟩
    go_wp2_with fail
    refine (carry_any (some ⟨w.heap.size, 0, none⟩) w.heap.size t s.size K (cut (bits s)) w1 (fun _ => rfl) HCL.out hc1 (by omega) ⟨hK1, hK2⟩).mono ?_
    rintro e w2 ⟨v1, v2, rfl, hv1, hi2, hb2⟩
    obtain ⟨g, cap, rfl, h1, h2, h3, h4⟩ := hi2.some (by rw [HL.out]; omega)
    rw [HL.out] at h1 ⊢
    have H4 := hide h4
    have HB := hide (hb1.trans (hb2.mono hb1.size))
    clear C0 h4 hi2 hv1 hc1 hb1 hb2 hz1 h2
    go_wp2
    go_loopw [10, 28] (fun t0 i wr => ∃ k : Nat, k ≤ t ∧ i = .int .i64 (k : Int) ∧ t0 = .int .i64 (tk K (bx (cut (bits s))) k : Int) ∧ Hid (Quiet w2 wr)) (fun _ i _ => t - (intOf i).toNat)
    case atStart => exact ⟨0, Nat.zero_le _, rfl, rfl, Quiet.refl _⟩
    case round =>
      obtain ⟨k, hk, rfl, rfl, HQ⟩ := hrel
      by_cases hlt : k < t
      · have c1 : wr.cell? ⟨g, k, none⟩ = some (.int .i64 (ld K (bx (cut (bits s))) k : Int)) := ((HQ.out.cells H4.out) k _ (by rw [List.getElem?_map]; unfold lds; rw [HG.out k (by omega)]; rfl)).1
        have c2 : wr.cell? ⟨g, k + 1, none⟩ = some (.int .i64 (ld K (bx (cut (bits s))) (k + 1) : Int)) := ((HQ.out.cells H4.out) (k + 1) _ (by rw [List.getElem?_map]; unfold lds; rw [HG.out (k + 1) (by omega)]; rfl)).1
        have l1 := HLE.out k
        have l2 := HLE.out (k + 1)
        have l3 := HTLE.out k
        have HUP := hide (@tk_up K (bx (cut (bits s))) k)
        have HFL := hide (@tk_flat K (bx (cut (bits s))) k)
        obtain ⟨x, hx⟩ : ∃ x, x = ld K (bx (cut (bits s))) k := ⟨_, rfl⟩
        obtain ⟨y, hy⟩ : ∃ x, x = ld K (bx (cut (bits s))) (k + 1) := ⟨_, rfl⟩
        obtain ⟨q, hq⟩ : ∃ x, x = tk K (bx (cut (bits s))) k := ⟨_, rfl⟩
        rw [← hx] at c1 l1 HUP HFL
        rw [← hy] at c2 l2 HUP HFL
        rw [← hq] at l3 HUP HFL ⊢
        clear hx hy hq
        have i0 : (0 : Int) ≤ (k : Int) := by omega
        have i1 : (k : Int) + 1 < ((fin K (cut (bits s)) + 1 : Nat) : Int) := by omega
        have i2 : (k : Int) < ((fin K (cut (bits s)) + 1 : Nat) : Int) := by omega
        by_cases hxy : x < y
        · have HT := hide (HUP.out hxy)
          have hxy' : (x : Int) < (y : Int) := by omega
          clear HUP HFL
          go_wp2
          go_quiet (fail)
          go_wp2
          go_roundw
          case rel => exact ⟨k + 1, by omega, by go_num, by rw [HT.out]; congr 1, HQ.out.trans (Quiet.drewN _)⟩
          case measure => simp [intOf]; omega
        · have HT := hide (HFL.out hxy)
          have hxy' : ¬ (x : Int) < (y : Int) := by omega
          clear HUP HFL
          go_wp2
          go_quiet (fail)
          go_wp2
          go_roundw
          case rel => exact ⟨k + 1, by omega, by go_num, by rw [HT.out], HQ.out.trans (Quiet.drewN _)⟩
          case measure => simp [intOf]; omega
      · obtain rfl : k = t := by omega
        go_wp2
        go_ret2
        exact ⟨rfl, HB.out.trans (HQ.out.2 _)⟩
end Go.Proofs.Ytnaofghngpojgac
