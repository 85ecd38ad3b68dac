/- THE WALKS of the model's CircleBack and CirclePeriod, off a contract of its CircleTurn. -/
import Derived.Test.YtkdhifofdghbbaaCir9
namespace Go.Proofs.Ytkdhifofdghbbaa
open Go.RowKit

def rvS (s : ByteArray) : ByteArray := ofL (lst s).reverse
theorem rvS_size (s : ByteArray) : (rvS s).size = s.size := by unfold rvS; rw [ofL_size, List.length_reverse, lst_size]
theorem rvS_bits (s : ByteArray) : bits (rvS s) = (bits s).reverse := by
  unfold rvS ofL bits lst
  simp
theorem rvS_vld (s : ByteArray) : vld (rvS s) = vld s := by
  unfold vld
  rw [rvS_size]
  congr 1
  unfold allSgn
  show ((lst s).reverse).all sgn = _
  rw [List.all_reverse]
  rfl
theorem rvS_ci (s : ByteArray) : ciIn (rvS s) = ciIn s := by
  unfold ciIn ci60
  rw [rvS_vld, rvS_size, rvS_bits]
  have e : nballs (bits s).reverse = nballs (bits s) := by unfold nballs; rw [List.count_reverse]
  rw [e]
theorem rvS_ofB (l : List Bool) : rvS (ofB l) = ofB l.reverse := by
  unfold rvS ofB
  rw [lst_ofL]
  unfold chC
  rw [List.map_reverse]
theorem cbS_eq (s : ByteArray) : rvS (ctS (rvS s)) = cbS s := by
  unfold ctS cbS
  rw [rvS_ci]
  cases ciIn s
  · rfl
  · rw [if_pos rfl, if_pos rfl, rvS_ofB, rvS_bits]

def TurnC : Prop := ∀ (s : ByteArray) (w : World), s.size ≤ maxLen →
    Calls Try.prog 17 #[.string s] w fun e w' => e = .returned (.tuple #[.string (ctS s), .bool (ciIn s)]) ∧ Below w.heap.size w w'
theorem ctS_size (s : ByteArray) : (ctS s).size ≤ 60 := by
  cases h : ciIn s
  · have : ctS s = ByteArray.empty := by unfold ctS; rw [h]; rfl
    rw [this]; exact Nat.zero_le _
  · rw [(ctS_facts h).2.2.1]
    exact (ciIn_facts h).2.2.2.1
set_option maxHeartbeats 400000 in
theorem specCircleBack_of (H : TurnC) (s : ByteArray) (w : World) (hs : s.size ≤ maxLen) :
    Calls Try.prog 20 #[.string s] w fun e w' => e = .returned (.tuple #[.string (cbS s), .bool (ciIn s)]) ∧ Below w.heap.size w w' := by
  have T1 := hide (fun w => l6cTurned_any s w hs)
  have T2 := hide (fun w => H (rvS s) w (by rw [rvS_size]; exact hs))
  have T3 := hide (fun w => l6cTurned_any (ctS (rvS s)) w (by have := ctS_size (rvS s); unfold maxLen; omega))
  rw [← cbS_eq s]
  rw [rvS_ci] at T2
  have e1 : ofL (lst s).reverse = rvS s := rfl
  have e3 : ofL (lst (ctS (rvS s))).reverse = rvS (ctS (rvS s)) := rfl
  rw [e1] at T1
  rw [e3] at T3
  obtain ⟨a, ha⟩ : ∃ a, a = rvS s := ⟨_, rfl⟩
  rw [← ha] at T1 T2 T3 ⊢
  obtain ⟨b, hb⟩ : ∃ b, b = ctS a := ⟨_, rfl⟩
  rw [← hb] at T2 T3 ⊢
  obtain ⟨c, hc⟩ : ∃ c, c = rvS b := ⟨_, rfl⟩
  rw [← hc] at T3 ⊢
  obtain ⟨q, hq⟩ : ∃ q, q = ciIn s := ⟨_, rfl⟩
  rw [← hq] at T2 ⊢
  clear ha hb hc hq e1 e3 hs
  go_enter Try.func20, Try.ntmps20
  go_wp2_with fail
  refine (T1.out _).mono ?_
  rintro e w' ⟨rfl, rfl⟩
  go_wp2_with fail
  refine (T2.out _).mono ?_
  rintro e w2 ⟨rfl, hb2⟩
  go_wp2_with fail
  refine (T3.out _).mono ?_
  rintro e w' ⟨rfl, rfl⟩
  go_wp2_with fail
  go_ret2
  exact ⟨rfl, hb2⟩

def cpN (s : ByteArray) : Int := if ciIn s then (perB (bits s) 5000 1 : Int) else 0
set_option maxRecDepth 100000 in
set_option maxHeartbeats 1000000 in
theorem specCirclePeriod_of (H : TurnC) (s : ByteArray) (w : World) (hs : s.size ≤ maxLen) :
    Calls Try.prog 29 #[.string s] w fun e w' => e = .returned (.tuple #[.int .i64 (cpN s), .bool (ciIn s)]) ∧ Below w.heap.size w w' := by
  have CI := hide (fun w => specCircleIn_any s w hs)
  cases h1 : ciIn s
  · rw [h1] at CI
    have e : cpN s = 0 := by unfold cpN; rw [h1]; rfl
    rw [e]
    clear h1 hs e
    go_enter Try.func29, Try.ntmps29
    go_wp2_with (go_at_call 12; refine (CI.out _).mono ?_; rintro e w' ⟨rfl, rfl⟩)
    go_ret2
    exact ⟨rfl, Below.refl _ _⟩
  · rw [h1] at CI
    have HT := hide H
    have H1 := hide h1
    have hv := (ciIn_facts h1).1
    have e : cpN s = (perB (bits s) 5000 1 : Int) := by unfold cpN; rw [h1]; rfl
    rw [e]
    have HV := hide hv
    obtain ⟨r, hr⟩ : ∃ r : Nat, r = perB (bits s) 5000 1 := ⟨_, rfl⟩
    have HR := hide hr
    rw [← hr]
    clear h1 hs e hv hr H
    go_enter Try.func29, Try.ntmps29
    go_wp2_with (go_at_call 12; refine (CI.out _).mono ?_; rintro e w' ⟨rfl, rfl⟩)
    go_loopw [4, 5, 6] (fun tv nv _ wr => ∃ (t : ByteArray) (k : Nat), tv = .string t ∧ nv = .int .i64 ((k : Int) + 1) ∧ k ≤ 5000 ∧ Hid (ciIn t = true ∧ bits t = cturns k (bits s) ∧ perB (bits s) (5000 - k) (k + 1) = r) ∧ Hid (Below w.heap.size w wr)) (fun _ nv _ => fun _ => 5001 - (intOf nv).toNat)
    case atStart => exact ⟨s, 0, rfl, rfl, by omega, ⟨H1.out, rfl, HR.out.symm⟩, Below.refl _ _⟩
    case round =>
      obtain ⟨t, k, rfl, rfl, hk, HK, HB⟩ := hrel
      by_cases hlt : k < 5000
      · have hle : (k : Int) + 1 ≤ 5000 := by omega
        obtain ⟨k1, k2, k3⟩ := HK.out
        obtain ⟨f1, f2, f3, _⟩ := ctS_facts k1
        have CT := hide (HT.out t wr (by have := (ciIn_facts k1).2.2.2.1; unfold maxLen; omega))
        rw [k1] at CT
        have hb : bits (ctS t) = cturns (k + 1) (bits s) := by rw [f1, k2]; exact (cturns_comm k (bits s)).symm
        have hst : ctS t = s ↔ cturns (k + 1) (bits s) = bits s := by
          constructor
          · intro e; rw [← hb, e]
          · intro e; rw [← ofB_bits (ciIn_facts f2).1, hb, e, ofB_bits HV.out]
        have hstep : perB (bits s) (5000 - k) (k + 1) = if cturns (k + 1) (bits s) = bits s then k + 1 else perB (bits s) (5000 - (k + 1)) (k + 1 + 1) := by
          rw [show 5000 - k = (5000 - (k + 1)) + 1 by omega]
          rfl
        obtain ⟨y, hy⟩ : ∃ y, y = ctS t := ⟨_, rfl⟩
        rw [← hy] at CT hst hb f2
        by_cases he : y = s
        · have HF : Hid (r = k + 1) := by show _ = _; rw [← k3, hstep, if_pos (hst.1 he)]
          clear k1 k2 k3 f1 f2 f3 hb hst hstep hy HK
          subst he
          go_wp2_with fail
          refine CT.out.mono ?_
          rintro e w2 ⟨rfl, hb2⟩
          have HB2 := hide (HB.out.trans (hb2.mono HB.out.size))
          clear hb2
          go_wp2_with fail
          go_ret2
          exact ⟨by rw [HF.out]; rfl, HB2.out⟩
        · have HN : Hid (ciIn y = true ∧ bits y = cturns (k + 1) (bits s) ∧ perB (bits s) (5000 - (k + 1)) (k + 1 + 1) = r) := ⟨f2, hb, by rw [← k3, hstep, if_neg (fun h => he (hst.2 h))]⟩
          have hq : (y.toList == s.toList) = false := by
            rw [beq_eq_false_iff_ne]
            intro h
            rw [ByteArray.toList_eq, ByteArray.toList_eq] at h
            exact he (by rw [← ofL_lst y, ← ofL_lst s]; unfold lst; rw [h])
          clear k1 k2 k3 f1 f2 f3 hb hst hstep hy HK
          go_wp2_with fail
          refine CT.out.mono ?_
          rintro e w2 ⟨rfl, hb2⟩
          have HB2 := hide (HB.out.trans (hb2.mono HB.out.size))
          clear hb2
          go_wp2_with fail
          go_roundw
          case rel => exact ⟨y, k + 1, rfl, by go_num, by omega, HN, HB2⟩
          case measure => simp [intOf]; omega
      · have hk5 : k = 5000 := by omega
        have HF : Hid (r = 0) := by show _ = _; rw [← HK.out.2.2, hk5]; rfl
        have hle : ¬ (k : Int) + 1 ≤ 5000 := by omega
        clear hk5
        go_wp2
        go_ret2
        exact ⟨by rw [HF.out]; rfl, HB.out⟩
end Go.Proofs.Ytkdhifofdghbbaa
