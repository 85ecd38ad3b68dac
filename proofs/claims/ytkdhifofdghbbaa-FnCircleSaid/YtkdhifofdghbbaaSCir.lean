/- THE WALKS of the model's CircleIn, l6cTurned, CircleRotate. -/
import Derived.Test.YtkdhifofdghbbaaCir5
import Derived.Test.YtkdhifofdghbbaaSpec1
import Derived.Test.YtkdhifofdghbbaaL6In
import Derived.Test.YtkdhifofdghbbaaSCol
namespace Go.Proofs.Ytkdhifofdghbbaa
open Go.RowKit

/-- 1 to 60 signs -/
def ci60 (s : ByteArray) : Bool := decide ((1 : Int) ≤ (s.size : Int)) && decide ((s.size : Int) ≤ 60)
def ciIn (s : ByteArray) : Bool := vld s && ci60 s && decide (2 * (nballs (bits s) : Int) < (s.size : Int))
theorem ciIn_facts {s : ByteArray} (h : ciIn s = true) : vld s = true ∧ ci60 s = true ∧ 1 ≤ s.size ∧ s.size ≤ 60 ∧ drf (bits s) < 0 := by
  unfold ciIn at h
  rw [Bool.and_eq_true, Bool.and_eq_true] at h
  obtain ⟨⟨h1, h2⟩, h3⟩ := h
  have h2' := h2
  unfold ci60 at h2'
  simp at h2' h3
  refine ⟨h1, h2, by omega, by omega, ?_⟩
  rw [drf_balls, length_bits]
  omega

set_option maxHeartbeats 400000 in
theorem specCircleIn_any (s : ByteArray) (w : World) (hs : s.size ≤ maxLen) :
    Calls Try.prog 12 #[.string s] w fun e w' => e = .returned (.bool (ciIn s)) ∧ w = w' := by
  have CV := hide (fun w => specRowValid_any s w hs)
  have CL := hide (fun w => l6In_any (s.size : Int) 1 60 (ci60 s) w rfl)
  have CB := hide (fun w => l1Balls_any s w hs)
  cases hv : vld s
  · rw [hv] at CV
    have e : ciIn s = false := by unfold ciIn; rw [hv]; rfl
    rw [e]
    clear hv e CB CL
    unfold maxLen at hs
    go_enter Try.func12, Try.ntmps12
    go_wp2_with (go_at_call 38; refine (CV.out _).mono ?_; rintro e w' ⟨rfl, rfl⟩)
    go_ret
    exact ⟨rfl, rfl⟩
  · rw [hv] at CV
    cases h6 : ci60 s
    · rw [h6] at CL
      have e : ciIn s = false := by unfold ciIn; rw [h6, hv]; rfl
      rw [e]
      clear hv h6 e CB
      unfold maxLen at hs
      go_enter Try.func12, Try.ntmps12
      go_wp2_with (first | (go_at_call 38; refine (CV.out _).mono ?_; rintro e w' ⟨rfl, rfl⟩) | (go_at_call 39; refine (CL.out _).mono ?_; rintro e w' ⟨rfl, rfl⟩))
      go_ret
      exact ⟨rfl, rfl⟩
    · rw [h6] at CL
      have e : ciIn s = decide (2 * (nballs (bits s) : Int) < (s.size : Int)) := by unfold ciIn; rw [h6, hv]; rfl
      have hb := nballs_le (bits s) s.size
      rw [← length_bits s, List.take_of_length_le (Nat.le_refl _)] at hb
      have h120 := vld_le s hv
      rw [length_bits] at hb
      rw [e]
      obtain ⟨n, hn⟩ : ∃ n : Int, n = (nballs (bits s) : Int) := ⟨_, rfl⟩
      rw [← hn] at CB ⊢
      have hw : IntKind.i64.wrap (2 * n) = 2 * n := IntWalk.i64_in _ (by omega)
      clear hn hv h6 e hb
      unfold maxLen at hs
      go_enter Try.func12, Try.ntmps12
      go_wp2_with (first | (go_at_call 38; refine (CV.out _).mono ?_; rintro e w' ⟨rfl, rfl⟩) | (go_at_call 39; refine (CL.out _).mono ?_; rintro e w' ⟨rfl, rfl⟩) | (go_at_call 40; refine (CB.out _).mono ?_; rintro e w' ⟨rfl, rfl⟩))
      go_ret
      exact ⟨rfl, rfl⟩

theorem sub_one (t : ByteArray) (k : Nat) (h : k < t.size) : (t.extract k (k + 1)).data.toList = [t[k]] := by
  rw [Lib.extract_data, show k + 1 - k = 1 by omega, List.drop_eq_getElem_cons (by simpa using h)]
  simp
  rfl
set_option maxHeartbeats 400000 in
theorem l6cTurned_any (t : ByteArray) (w : World) (ht : t.size ≤ maxLen) :
    Calls Try.prog 47 #[.string t] w fun e w' => e = .returned (.string (ofL (lst t).reverse)) ∧ w = w' := by
  unfold maxLen at ht
  go_enter Try.func47, Try.ntmps47
  go_wp2
  go_loop [3, 4] (fun o i => ∃ (x : ByteArray) (k : Nat), k ≤ t.size ∧ o = .string x ∧ i = .int .i64 (k : Int) ∧ x.size ≤ k ∧ Hid (x.data.toList = (t.data.toList.take k).reverse)) (fun _ i => t.size - (intOf i).toNat)
  case atStart => exact ⟨⟨#[]⟩, 0, Nat.zero_le _, rfl, rfl, Nat.zero_le _, rfl⟩
  case round =>
    obtain ⟨x, k, hk, rfl, rfl, hxk, HX⟩ := hrel
    by_cases hlt : k < t.size
    · have HS := hide (sub_one t k hlt)
      have HT := hide (take_snoc t k hlt)
      go_wp2
      go_round
      case rel =>
        have h1 : (t.extract k (k + 1)).size ≤ 1 := by simp; omega
        have h2 : ((t.extract k (k + 1)) ++ x).size ≤ k + 1 := by rw [ByteArray.size_append]; omega
        refine ⟨_, k + 1, by omega, rfl, by go_num, h2, ?_⟩
        show ((t.extract k (k + 1)) ++ x).data.toList = _
        rw [ByteArray.data_append, Array.toList_append, HS.out, HX.out, HT.out, List.reverse_append]; rfl
      case measure => simp [intOf]; omega
    · have HX2 : Hid (x = ofL (lst t).reverse) := by
        show _ = _
        rw [← ofL_lst x]
        show ofL x.data.toList = _
        rw [HX.out, List.take_of_length_le (by simp; omega)]
        rfl
      go_wp2
      go_ret
      exact ⟨ret_string HX2.out, rfl⟩

/-- CircleRotate -/
def rtOk (s : ByteArray) (n : Int) : Bool := ciIn s && (decide ((0 : Int) ≤ n) && decide (n ≤ (s.size : Int)))
def rtS (s : ByteArray) (n : Int) : ByteArray := if rtOk s n then s.extract n.toNat s.size ++ s.extract 0 n.toNat else ByteArray.empty
set_option maxHeartbeats 400000 in
theorem specCircleRotate_any (s : ByteArray) (n : Int) (w : World) (hs : s.size ≤ maxLen) :
    Calls Try.prog 22 #[.string s, .int .i64 n] w fun e w' => e = .returned (.tuple #[.string (rtS s n), .bool (rtOk s n)]) ∧ Quiet w w' := by
  have CI := hide (fun w => specCircleIn_any s w hs)
  have CL := hide (fun w => l6In_any n 0 (s.size : Int) _ w rfl)
  cases h1 : ciIn s
  · rw [h1] at CI
    have e1 : rtOk s n = false := by unfold rtOk; rw [h1]; rfl
    have e2 : rtS s n = ByteArray.empty := by unfold rtS; rw [e1]; rfl
    rw [e1, e2]
    clear e1 e2 h1 hs CL
    go_enter Try.func22, Try.ntmps22
    go_wp2_with (go_at_call 12; refine (CI.out _).mono ?_; rintro e w' ⟨rfl, rfl⟩)
    go_ret2
    exact ⟨rfl, Quiet.refl _⟩
  · rw [h1] at CI
    cases h2 : (decide ((0 : Int) ≤ n) && decide (n ≤ (s.size : Int)))
    · rw [h2] at CL
      have e1 : rtOk s n = false := by unfold rtOk; rw [h1, h2]; rfl
      have e2 : rtS s n = ByteArray.empty := by unfold rtS; rw [e1]; rfl
      rw [e1, e2]
      clear e1 e2 h1 h2
      unfold maxLen at hs
      go_enter Try.func22, Try.ntmps22
      go_wp2_with (first | (go_at_call 12; refine (CI.out _).mono ?_; rintro e w' ⟨rfl, rfl⟩) | (go_at_call 39; refine (CL.out _).mono ?_; rintro e w' ⟨rfl, rfl⟩))
      go_ret2
      exact ⟨rfl, Quiet.refl _⟩
    · rw [h2] at CL
      have e1 : rtOk s n = true := by unfold rtOk; rw [h1, h2]; rfl
      have e2 : rtS s n = s.extract n.toNat s.size ++ s.extract 0 n.toNat := by unfold rtS; rw [e1]; rfl
      rw [e1, e2]
      have hs60 := (ciIn_facts h1).2.2.2.1
      simp at h2
      obtain ⟨n0, n1⟩ := h2
      obtain ⟨m, rfl⟩ := Int.eq_ofNat_of_zero_le n0
      have hm : m ≤ s.size := by omega
      have hz1 : (s.extract m s.size).size ≤ 60 := by simp; omega
      have hz2 : (s.extract 0 m).size ≤ 60 := by simp; omega
      clear e1 e2 h1
      unfold maxLen at hs
      go_enter Try.func22, Try.ntmps22
      go_wp2_with (first | (go_at_call 12; refine (CI.out _).mono ?_; rintro e w' ⟨rfl, rfl⟩) | (go_at_call 39; refine (CL.out _).mono ?_; rintro e w' ⟨rfl, rfl⟩))
      go_quiet (fail)
      go_wp2
      go_ret2
      exact ⟨by simp, Quiet.drewN _⟩
end Go.Proofs.Ytkdhifofdghbbaa
