/- TEXTS Cir9, SCir2, SCir3. -/
import Derived.Test.Ytkdhifofdghbbaarot11
import Derived.Test.Ytkdhifofdghbbaarot01
/- ROTATED CIRCLES AS TEXTS: promises 43 and 46. Pure: no walk. -/
namespace Go.Proofs.Ytkdhifofdghbbaa
open Go.RowKit

theorem rtS_list {s : ByteArray} {n : Int} (h : rtOk s n = true) : (rtS s n).data.toList = s.data.toList.drop n.toNat ++ s.data.toList.take n.toNat := by
  unfold rtS
  rw [if_pos h, ByteArray.data_append, Array.toList_append, Lib.extract_data, Lib.extract_data]
  rw [List.drop_zero, Nat.sub_zero]
  congr 1
  exact List.take_of_length_le (by rw [List.length_drop]; exact Nat.le_refl _)
theorem rtOk_facts {s : ByteArray} {n : Int} (h : rtOk s n = true) : ciIn s = true ∧ n.toNat ≤ s.size := by
  unfold rtOk at h
  rw [Bool.and_eq_true, Bool.and_eq_true] at h
  obtain ⟨h1, h2, h3⟩ := h
  simp at h2 h3
  exact ⟨h1, by omega⟩
theorem rtS_bits {s : ByteArray} {n : Int} (h : rtOk s n = true) : bits (rtS s n) = (bits s).drop n.toNat ++ (bits s).take n.toNat := by
  unfold bits
  rw [rtS_list h, List.map_append, List.map_drop, List.map_take]
theorem rtS_rot {s : ByteArray} {n : Int} (h : rtOk s n = true) : Rot (bits s) (bits (rtS s n)) :=
  ⟨(bits s).take n.toNat, (bits s).drop n.toNat, (List.take_append_drop _ _).symm, rtS_bits h⟩
theorem Rot.drf {l l' : List Bool} (h : Rot l l') : drf l = drf l' := by
  obtain ⟨a, b, rfl, rfl⟩ := h
  rw [drf_app, drf_app]
  omega
theorem rtS_vld {s : ByteArray} {n : Int} (h : rtOk s n = true) : vld (rtS s n) = true := by
  obtain ⟨h1, _⟩ := rtOk_facts h
  have hv := (ciIn_facts h1).1
  have hz : (rtS s n).size = s.size := by rw [← length_bits, ← length_bits, (rtS_rot h).length]
  have hs := vld_sgn s hv
  have h120 := vld_le s hv
  unfold allSgn at hs
  rw [List.all_eq_true] at hs
  unfold vld
  rw [Bool.and_eq_true]
  refine ⟨?_, by rw [hz]; simpa using h120⟩
  unfold allSgn
  rw [List.all_eq_true, rtS_list h]
  intro x hx
  rcases List.mem_append.1 hx with hx | hx
  · exact hs x (List.mem_of_mem_drop hx)
  · exact hs x (List.mem_of_mem_take hx)
theorem rtS_ci {s : ByteArray} {n : Int} (h : rtOk s n = true) : ciIn (rtS s n) = true := by
  obtain ⟨h1, _⟩ := rtOk_facts h
  obtain ⟨_, _, _, h60, hd⟩ := ciIn_facts h1
  have hr := rtS_rot h
  rw [← ofB_bits (rtS_vld h)]
  refine ciIn_ofB ?_ ?_
  · rw [← hr.length, length_bits]; exact h60
  · rw [← hr.drf]; exact hd
theorem rtOk_turn {s : ByteArray} {n : Int} (h : rtOk s n = true) : rtOk (ctS s) n = true := by
  obtain ⟨h1, _⟩ := rtOk_facts h
  obtain ⟨_, h2, h3, _⟩ := ctS_facts h1
  unfold rtOk at h ⊢
  rw [h2, h3]
  rw [h1] at h
  exact h
/-- P46: turns go along with rotations -/
theorem turn_rot_S {s : ByteArray} {n : Int} (h : rtOk s n = true) : ctS (rtS s n) = rtS (ctS s) n := by
  obtain ⟨h1, hm⟩ := rtOk_facts h
  obtain ⟨_, _, _, h60, hd⟩ := ciIn_facts h1
  have ht := rtOk_turn h
  have hv : vld (rtS (ctS s) n) = true := rtS_vld ht
  have hv2 : vld (ctS (rtS s n)) = true := (ciIn_facts (ctS_facts (rtS_ci h)).2.1).1
  rw [← ofB_bits hv, ← ofB_bits hv2]
  congr 1
  rw [(ctS_facts (rtS_ci h)).1, rtS_bits h, rtS_bits ht, (ctS_facts h1).1]
  have e : (bits s).take n.toNat ++ (bits s).drop n.toNat = bits s := List.take_append_drop _ _
  obtain ⟨a', b', c1, c2, c3⟩ := cturn_rot (a := (bits s).take n.toNat) (b := (bits s).drop n.toNat) (by rw [e]; exact hd)
  rw [e] at c1
  have hl : a'.length = n.toNat := by rw [c3, List.length_take, length_bits]; omega
  rw [c2, c1, ← hl, List.drop_left, List.take_left]
/-- P46: and so does the shape -/
theorem shape_rot_S {s : ByteArray} {n : Int} (h : rtOk s n = true) : cshB (bits (rtS s n)) = cshB (bits s) := (cshB_rot (rtS_rot h)).symm
/-- P43: rotated by all its signs -/
theorem rot_all {s : ByteArray} (h : ciIn s = true) : rtOk s (s.size : Int) = true ∧ rtS s (s.size : Int) = s := by
  have hv := (ciIn_facts h).1
  have ho : rtOk s (s.size : Int) = true := by unfold rtOk; rw [h]; simp
  refine ⟨ho, ?_⟩
  rw [← ofB_bits (rtS_vld ho), rtS_bits ho]
  have e : ((s.size : Int)).toNat = (bits s).length := by rw [length_bits]; rfl
  rw [e, List.drop_length, List.take_length, List.nil_append, ofB_bits hv]
theorem ci_few {s : ByteArray} (h : ciIn s = true) : 2 * nballs (bits s) < s.size := by
  have := (ciIn_facts h).2.2.2.2
  rw [drf_balls, length_bits] at this
  omega
end Go.Proofs.Ytkdhifofdghbbaa

/- THE WALKS of the model's CircleBack and CirclePeriod, off a contract of its CircleTurn. -/
namespace Go.Proofs.Ytkdhifofdghbbaa
open Go.RowKit

def rvS (s : ByteArray) : ByteArray := ofL (lst s).reverse
theorem rvS_size (s : ByteArray) : (rvS s).size = s.size := by unfold rvS; rw [ofL_size, List.length_reverse, lst_size]
theorem rvS_bits (s : ByteArray) : bits (rvS s) = (bits s).reverse := by
  unfold rvS ofL bits lst
  simp
theorem rvS_vld (s : ByteArray) : vld (rvS s) = vld s := by
  unfold vld
  rw [rvS_size]
  congr 1
  unfold allSgn
  show ((lst s).reverse).all sgn = _
  rw [List.all_reverse]
  rfl
theorem rvS_ci (s : ByteArray) : ciIn (rvS s) = ciIn s := by
  unfold ciIn ci60
  rw [rvS_vld, rvS_size, rvS_bits]
  have e : nballs (bits s).reverse = nballs (bits s) := by unfold nballs; rw [List.count_reverse]
  rw [e]
theorem rvS_ofB (l : List Bool) : rvS (ofB l) = ofB l.reverse := by
  unfold rvS ofB
  rw [lst_ofL]
  unfold chC
  rw [List.map_reverse]
theorem cbS_eq (s : ByteArray) : rvS (ctS (rvS s)) = cbS s := by
  unfold ctS cbS
  rw [rvS_ci]
  cases ciIn s
  · rfl
  · rw [if_pos rfl, if_pos rfl, rvS_ofB, rvS_bits]

def TurnC : Prop := ∀ (s : ByteArray) (w : World), s.size ≤ maxLen →
    Calls Try.prog 17 #[.string s] w fun e w' => e = .returned (.tuple #[.string (ctS s), .bool (ciIn s)]) ∧ Below w.heap.size w w'
theorem ctS_size (s : ByteArray) : (ctS s).size ≤ 60 := by
  cases h : ciIn s
  · have : ctS s = ByteArray.empty := by unfold ctS; rw [h]; rfl
    rw [this]; exact Nat.zero_le _
  · rw [(ctS_facts h).2.2.1]
    exact (ciIn_facts h).2.2.2.1
set_option maxHeartbeats 400000 in
theorem specCircleBack_of (H : TurnC) (s : ByteArray) (w : World) (hs : s.size ≤ maxLen) :
    Calls Try.prog 20 #[.string s] w fun e w' => e = .returned (.tuple #[.string (cbS s), .bool (ciIn s)]) ∧ Below w.heap.size w w' := by
  have T1 := hide (fun w => l6cTurned_any s w hs)
  have T2 := hide (fun w => H (rvS s) w (by rw [rvS_size]; exact hs))
  have T3 := hide (fun w => l6cTurned_any (ctS (rvS s)) w (by have := ctS_size (rvS s); unfold maxLen; omega))
  rw [← cbS_eq s]
  rw [rvS_ci] at T2
  have e1 : ofL (lst s).reverse = rvS s := rfl
  have e3 : ofL (lst (ctS (rvS s))).reverse = rvS (ctS (rvS s)) := rfl
  rw [e1] at T1
  rw [e3] at T3
  obtain ⟨a, ha⟩ : ∃ a, a = rvS s := ⟨_, rfl⟩
  rw [← ha] at T1 T2 T3 ⊢
  obtain ⟨b, hb⟩ : ∃ b, b = ctS a := ⟨_, rfl⟩
  rw [← hb] at T2 T3 ⊢
  obtain ⟨c, hc⟩ : ∃ c, c = rvS b := ⟨_, rfl⟩
  rw [← hc] at T3 ⊢
  obtain ⟨q, hq⟩ : ∃ q, q = ciIn s := ⟨_, rfl⟩
  rw [← hq] at T2 ⊢
  clear ha hb hc hq e1 e3 hs
  go_enter Try.func20, Try.ntmps20
  go_wp2_with fail
  refine (T1.out _).mono ?_
  rintro e w' ⟨rfl, rfl⟩
  go_wp2_with fail
  refine (T2.out _).mono ?_
  rintro e w2 ⟨rfl, hb2⟩
  go_wp2_with fail
  refine (T3.out _).mono ?_
  rintro e w' ⟨rfl, rfl⟩
  go_wp2_with fail
  go_ret2
  exact ⟨rfl, hb2⟩

def cpN (s : ByteArray) : Int := if ciIn s then (perB (bits s) 5000 1 : Int) else 0
set_option maxRecDepth 100000 in
set_option maxHeartbeats 1000000 in
theorem specCirclePeriod_of (H : TurnC) (s : ByteArray) (w : World) (hs : s.size ≤ maxLen) :
    Calls Try.prog 29 #[.string s] w fun e w' => e = .returned (.tuple #[.int .i64 (cpN s), .bool (ciIn s)]) ∧ Below w.heap.size w w' := by
  have CI := hide (fun w => specCircleIn_any s w hs)
  cases h1 : ciIn s
  · rw [h1] at CI
    have e : cpN s = 0 := by unfold cpN; rw [h1]; rfl
    rw [e]
    clear h1 hs e
    go_enter Try.func29, Try.ntmps29
    go_wp2_with (go_at_call 12; refine (CI.out _).mono ?_; rintro e w' ⟨rfl, rfl⟩)
    go_ret2
    exact ⟨rfl, Below.refl _ _⟩
  · rw [h1] at CI
    have HT := hide H
    have H1 := hide h1
    have hv := (ciIn_facts h1).1
    have e : cpN s = (perB (bits s) 5000 1 : Int) := by unfold cpN; rw [h1]; rfl
    rw [e]
    have HV := hide hv
    obtain ⟨r, hr⟩ : ∃ r : Nat, r = perB (bits s) 5000 1 := ⟨_, rfl⟩
    have HR := hide hr
    rw [← hr]
    clear h1 hs e hv hr H
    go_enter Try.func29, Try.ntmps29
    go_wp2_with (go_at_call 12; refine (CI.out _).mono ?_; rintro e w' ⟨rfl, rfl⟩)
    go_loopw [4, 5, 6] (fun tv nv _ wr => ∃ (t : ByteArray) (k : Nat), tv = .string t ∧ nv = .int .i64 ((k : Int) + 1) ∧ k ≤ 5000 ∧ Hid (ciIn t = true ∧ bits t = cturns k (bits s) ∧ perB (bits s) (5000 - k) (k + 1) = r) ∧ Hid (Below w.heap.size w wr)) (fun _ nv _ => fun _ => 5001 - (Go.RowKit.intOf nv).toNat)
    case atStart => exact ⟨s, 0, rfl, rfl, by omega, ⟨H1.out, rfl, HR.out.symm⟩, Below.refl _ _⟩
    case round =>
      obtain ⟨t, k, rfl, rfl, hk, HK, HB⟩ := hrel
      by_cases hlt : k < 5000
      · have hle : (k : Int) + 1 ≤ 5000 := by omega
        obtain ⟨k1, k2, k3⟩ := HK.out
        obtain ⟨f1, f2, f3, _⟩ := ctS_facts k1
        have CT := hide (HT.out t wr (by have := (ciIn_facts k1).2.2.2.1; unfold maxLen; omega))
        rw [k1] at CT
        have hb : bits (ctS t) = cturns (k + 1) (bits s) := by rw [f1, k2]; exact (cturns_comm k (bits s)).symm
        have hst : ctS t = s ↔ cturns (k + 1) (bits s) = bits s := by
          constructor
          · intro e; rw [← hb, e]
          · intro e; rw [← ofB_bits (ciIn_facts f2).1, hb, e, ofB_bits HV.out]
        have hstep : perB (bits s) (5000 - k) (k + 1) = if cturns (k + 1) (bits s) = bits s then k + 1 else perB (bits s) (5000 - (k + 1)) (k + 1 + 1) := by
          rw [show 5000 - k = (5000 - (k + 1)) + 1 by omega]
          rfl
        obtain ⟨y, hy⟩ : ∃ y, y = ctS t := ⟨_, rfl⟩
        rw [← hy] at CT hst hb f2
        by_cases he : y = s
        · have HF : Hid (r = k + 1) := by show _ = _; rw [← k3, hstep, if_pos (hst.1 he)]
          clear k1 k2 k3 f1 f2 f3 hb hst hstep hy HK
          subst he
          go_wp2_with fail
          refine CT.out.mono ?_
          rintro e w2 ⟨rfl, hb2⟩
          have HB2 := hide (HB.out.trans (hb2.mono HB.out.size))
          clear hb2
          go_wp2_with fail
          go_ret2
          exact ⟨by rw [HF.out]; rfl, HB2.out⟩
        · have HN : Hid (ciIn y = true ∧ bits y = cturns (k + 1) (bits s) ∧ perB (bits s) (5000 - (k + 1)) (k + 1 + 1) = r) := ⟨f2, hb, by rw [← k3, hstep, if_neg (fun h => he (hst.2 h))]⟩
          have hq : (y.toList == s.toList) = false := by
            rw [beq_eq_false_iff_ne]
            intro h
            rw [ByteArray.toList_eq, ByteArray.toList_eq] at h
            exact he (by rw [← ofL_lst y, ← ofL_lst s]; unfold lst; rw [h])
          clear k1 k2 k3 f1 f2 f3 hb hst hstep hy HK
          go_wp2_with fail
          refine CT.out.mono ?_
          rintro e w2 ⟨rfl, hb2⟩
          have HB2 := hide (HB.out.trans (hb2.mono HB.out.size))
          clear hb2
          go_wp2_with fail
          go_roundw
          case rel => exact ⟨y, k + 1, rfl, by go_num, by omega, HN, HB2⟩
          case measure => simp [Go.RowKit.intOf]; omega
      · have hk5 : k = 5000 := by omega
        have HF : Hid (r = 0) := by show _ = _; rw [← HK.out.2.2, hk5]; rfl
        have hle : ¬ (k : Int) + 1 ≤ 5000 := by omega
        clear hk5
        go_wp2
        go_ret2
        exact ⟨by rw [HF.out]; rfl, HB.out⟩
end Go.Proofs.Ytkdhifofdghbbaa

/- THE WALK of the model's CircleTurn, off a contract of its l6cRounds. -/
namespace Go.Proofs.Ytkdhifofdghbbaa
open Go.RowKit

/-- what the pairing of a circle answers: who is paired, and the numbers of pairs -/
def RoundsC : Prop := ∀ (s : ByteArray) (w : World), ciIn s = true →
    Calls Try.prog 45 #[.string s] w fun e w' => ∃ (v1 v2 : Value) (pl : List Int), e = .returned (.tuple #[v1, v2]) ∧
      IntsV w.heap.size w' v1 pl ∧ pl.length = s.size ∧ (∀ (i : Nat) (x : Int), pl[i]? = some x → (decide (0 ≤ x) && !((bits s).getD i false)) = (cturn (bits s)).getD i false) ∧
      IntsV w.heap.size w' v2 (List.map (fun n : Nat => (n : Int)) (cnt10 (nballs (bits s)) (bits s))) ∧ Below w.heap.size w w'
theorem chC_add (c : UInt8) (l : List Bool) (k : Nat) (b : Bool) (h : l[k]? = some b) : chC c (l.take (k + 1)) = chC c (l.take k) ++ [if b then c else 48] := by
  obtain ⟨hk, he⟩ := List.getElem?_eq_some_iff.1 h
  rw [List.take_succ_eq_append_getElem hk, he]; simp [chC]
theorem lst_add (x t : ByteArray) : lst (x ++ t) = lst x ++ lst t := by unfold lst; rw [ByteArray.data_append, Array.toList_append]

theorem sign_at {s : ByteArray} (h : vld s = true) (k : Nat) (hk : k < s.size) : (s[k].toNat : Int) = 48 ∨ (s[k].toNat : Int) = 49 := by
  have h1 := vld_sgn s h
  unfold allSgn at h1
  rw [List.all_eq_true] at h1
  have h2 := h1 s[k] (List.mem_of_getElem? (lst_get s k hk))
  rw [sgn_of] at h2
  simpa using h2

set_option maxRecDepth 100000 in
set_option maxHeartbeats 1000000 in
theorem specCircleTurn_of (H : RoundsC) (s : ByteArray) (w : World) (hs : s.size ≤ maxLen) :
    Calls Try.prog 17 #[.string s] w fun e w' => e = .returned (.tuple #[.string (ctS s), .bool (ciIn s)]) ∧ Below w.heap.size w w' := by
  have CI := hide (fun w => specCircleIn_any s w hs)
  cases h1 : ciIn s
  · rw [h1] at CI
    have e : ctS s = ByteArray.empty := by unfold ctS; rw [h1]; rfl
    rw [e]
    clear h1 hs e H
    go_enter Try.func17, Try.ntmps17
    go_wp2_with (go_at_call 12; refine (CI.out _).mono ?_; rintro e w' ⟨rfl, rfl⟩)
    go_ret2
    exact ⟨rfl, Below.refl _ _⟩
  · rw [h1] at CI
    have HR := hide (H s w h1)
    obtain ⟨_, _, hs1, h60, _⟩ := ciIn_facts h1
    have hct : ctS s = ofB (cturn (bits s)) := by unfold ctS; rw [if_pos h1]
    rw [hct]
    have hlen : (cturn (bits s)).length = s.size := by rw [cturn_length, length_bits]
    have HSG := hide (fun (k : Nat) (h : k < s.size) => sign_at (ciIn_facts h1).1 k h)
    have HB0 := hide (fun (k : Nat) (h : k < s.size) => bits_getElem s k h)
    obtain ⟨T, hT⟩ : ∃ T, T = cturn (bits s) := ⟨_, rfl⟩
    rw [← hT] at HR hlen ⊢
    clear h1 hs hct hT H
    go_enter Try.func17, Try.ntmps17
    go_wp2_with (go_at_call 12; refine (CI.out _).mono ?_; rintro e w' ⟨rfl, rfl⟩)
    refine HR.out.mono ?_
    rintro e w1 ⟨v1, v2, pl, rfl, i1, hpl, hp, _, hb1⟩
    have HB1 := hide hb1
    have HP := hide hp
    rcases i1 with ⟨a, c, rfl, h0⟩ | ⟨g, cap, rfl, hcap, hlo, hlt, hc⟩
    · rw [h0] at hpl; simp at hpl; omega
    · have HC := hide hc
      have HLT := hide hlt
      clear hc hp hb1 hlt HR hlo
      go_wp2_with fail
      go_loopw [6, 7] (fun o i wr => ∃ (x : ByteArray) (k : Nat), k ≤ s.size ∧ o = .string x ∧ i = .int .i64 (k : Int) ∧ x.size ≤ k ∧ Hid (lst x = chC 49 (T.take k)) ∧ Hid (Quiet w1 wr)) (fun _ i => fun _ => s.size - (Go.RowKit.intOf i).toNat)
      case atStart => exact ⟨⟨#[]⟩, 0, Nat.zero_le _, rfl, rfl, Nat.zero_le _, rfl, Quiet.refl _⟩
      case round =>
        obtain ⟨x, k, hk, rfl, rfl, hxk, HX, HQ⟩ := hrel
        by_cases hlt : k < s.size
        · obtain ⟨p, hpk⟩ : ∃ p : Int, pl[k]? = some p := ⟨pl[k]'(by omega), List.getElem?_eq_getElem _⟩
          have c1 := ((HQ.out.cells HC.out) k (.int .i64 p) (by rw [List.getElem?_map, hpk]; rfl)).1
          have hb := HP.out k p hpk
          have hbk : (bits s).getD k false = (s[k] == 49) := by rw [List.getD_eq_getElem?_getD, HB0.out k hlt]; rfl
          obtain ⟨b, hTb⟩ : ∃ b, T[k]? = some b := ⟨T[k]'(by omega), List.getElem?_eq_getElem _⟩
          have hTd : T.getD k false = b := by rw [List.getD_eq_getElem?_getD, hTb]; rfl
          have HA := hide (chC_add 49 T k b hTb)
          rw [hTd, hbk] at hb
          have i0 : (0 : Int) ≤ (k : Int) := by omega
          have i1 : (k : Int) < (pl.length : Int) := by omega
          have i2 : (k : Int) < (s.size : Int) := by omega
          have hsg := HSG.out k hlt
          rw [bit_int] at hb
          by_cases hp0 : 0 ≤ p
          · have d0 : decide (0 ≤ p) = true := decide_eq_true hp0
            rcases hsg with h48 | h49
            · have t0 : ((s[k].toNat : Int) == 48) = true := by rw [h48]; rfl
              have hbv : b = true := by rw [← hb, h48, d0]; rfl
              have HP2 : Hid (lst (x ++ ⟨#[49]⟩) = chC 49 (T.take (k + 1))) := by
                show _ = _
                rw [lst_add, HX.out, HA.out, hbv]
                rfl
              clear hb hbk hTb hTd hpk
              go_wp2
              go_roundw
              case rel => exact ⟨_, k + 1, by omega, rfl, by go_num, by rw [ByteArray.size_append]; show x.size + 1 ≤ k + 1; omega, HP2, HQ⟩
              case measure => simp [Go.RowKit.intOf]; omega
            · have t0 : ((s[k].toNat : Int) == 48) = false := by rw [h49]; rfl
              have hbv : b = false := by rw [← hb, h49, d0]; rfl
              have HP2 : Hid (lst (x ++ ⟨#[48]⟩) = chC 49 (T.take (k + 1))) := by
                show _ = _
                rw [lst_add, HX.out, HA.out, hbv]
                rfl
              clear hb hbk hTb hTd hpk
              go_wp2
              go_roundw
              case rel => exact ⟨_, k + 1, by omega, rfl, by go_num, by rw [ByteArray.size_append]; show x.size + 1 ≤ k + 1; omega, HP2, HQ⟩
              case measure => simp [Go.RowKit.intOf]; omega
          · have d0 : decide (0 ≤ p) = false := decide_eq_false hp0
            have hbv : b = false := by rw [← hb, d0]; rfl
            have HP2 : Hid (lst (x ++ ⟨#[48]⟩) = chC 49 (T.take (k + 1))) := by
              show _ = _
              rw [lst_add, HX.out, HA.out, hbv]
              rfl
            clear hb hbk hTb hTd hpk
            go_wp2
            go_roundw
            case rel => exact ⟨_, k + 1, by omega, rfl, by go_num, by rw [ByteArray.size_append]; show x.size + 1 ≤ k + 1; omega, HP2, HQ⟩
            case measure => simp [Go.RowKit.intOf]; omega
        · have hx2 := HX.out
          rw [List.take_of_length_le (by omega)] at hx2
          have HF : Hid (x = ofB T) := by show _ = _; unfold ofB; rw [← hx2, ofL_lst]
          have hkn : k = s.size := by omega
          clear hx2
          go_wp2
          go_ret2
          exact ⟨by rw [HF.out]; rfl, HB1.out.trans (HQ.out.2 _)⟩
end Go.Proofs.Ytkdhifofdghbbaa
