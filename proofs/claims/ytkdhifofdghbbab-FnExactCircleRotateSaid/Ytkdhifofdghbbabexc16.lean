/- TEXTS ICir0, SCir3. -/
import Derived.Test.Ytkdhifofdghbbabexc12
import Derived.Test.Ytkdhifofdghbbabexc15
import Derived.Test.Ytkdhifofdghbbabexc03
/- THE WALKS of the program's CircleIn, CircleTurn, CircleBack, CircleRotate, CirclePeriod. -/
namespace Go.Proofs.Ytkdhifofdghbbab
open Go.RowKit

theorem drf_bits {s : ByteArray} (h : ciIn s = true) : drf (bits s) < 0 := (ciIn_facts h).2.2.2.2
set_option maxHeartbeats 1000000 in
theorem implCircleIn_any (s : ByteArray) (w : World) (hs : s.size ≤ maxLen) :
    Calls Try.prog 10 #[.string s] w fun e w' => e = .returned (.bool (ciIn s)) ∧ Below w.heap.size w w' := by
  cases hc : ciIn s
  · go_enter Try.func10, Try.ntmps10
    go_wp2_with (go_at_call 27; refine (readCircle_no _ _ hs hc).mono ?_; rintro e w' ⟨rfl, hb⟩)
    go_ret
    exact ⟨rfl, hb⟩
  · go_enter Try.func10, Try.ntmps10
    go_wp2_with (go_at_call 27; refine (readCircle_yes _ _ hc).mono ?_; rintro e w' ⟨g, rfl, h1, h2, h3, hb⟩)
    go_ret
    exact ⟨rfl, hb⟩

set_option maxHeartbeats 1000000 in
theorem implCircleTurn_any (s : ByteArray) (w : World) (hs : s.size ≤ maxLen) :
    Calls Try.prog 12 #[.string s] w fun e w' => e = .returned (.tuple #[.string (ctS s), .bool (ciIn s)]) ∧ Below w.heap.size w w' := by
  cases hc : ciIn s
  · have e : ctS s = ByteArray.empty := by unfold ctS; rw [hc]; rfl
    rw [e]
    go_enter Try.func12, Try.ntmps12
    go_wp2_with (go_at_call 27; refine (readCircle_no _ _ hs hc).mono ?_; rintro e w' ⟨rfl, hb⟩)
    go_ret2
    exact ⟨rfl, hb⟩
  · have e : ctS s = ofB (cturn (bits s)) := by unfold ctS; rw [if_pos hc]
    obtain ⟨_, _, h1, h60, hd⟩ := ciIn_facts hc
    rw [e]
    have HD := hide hd
    clear e hd
    go_enter Try.func12, Try.ntmps12
    go_wp2_with (go_at_call 27; refine (readCircle_yes _ _ hc).mono ?_; rintro e w1 ⟨g, rfl, h2, h3, h4, hb⟩)
    have CT := hide (turn_any g s.size s.size (bits s) _ _ w1 h1 h60 h3 h4 HD.out)
    have HB := hide hb
    clear h4 hb hc
    go_wp2_with fail
    refine CT.out.mono ?_
    rintro e w2 ⟨rfl, ⟨A, H, h5⟩, hb2⟩
    have hz2 := hb2.size
    have CX := hide (cText_any g s.size s.size (cturn (bits s)) A H w2 h60 (by omega) h5)
    have HB2 := hide (HB.out.trans (hb2.mono h2))
    clear h5 hb2 CT
    go_wp2_with fail
    refine CX.out.mono ?_
    rintro e w3 ⟨rfl, hb3⟩
    have hz1 := HB2.out.size
    have HB3 := hide (HB2.out.trans (hb3.mono hz1))
    clear hb3 CX
    go_wp2_with fail
    go_ret2
    exact ⟨rfl, HB3.out⟩

set_option maxHeartbeats 1000000 in
theorem implCircleBack_any (s : ByteArray) (w : World) (hs : s.size ≤ maxLen) :
    Calls Try.prog 14 #[.string s] w fun e w' => e = .returned (.tuple #[.string (cbS s), .bool (ciIn s)]) ∧ Below w.heap.size w w' := by
  cases hc : ciIn s
  · have e : cbS s = ByteArray.empty := by unfold cbS; rw [hc]; rfl
    rw [e]
    go_enter Try.func14, Try.ntmps14
    go_wp2_with (go_at_call 27; refine (readCircle_no _ _ hs hc).mono ?_; rintro e w' ⟨rfl, hb⟩)
    go_ret2
    exact ⟨rfl, hb⟩
  · have e : cbS s = ofB (cturn (bits s).reverse).reverse := by unfold cbS; rw [if_pos hc]
    obtain ⟨_, _, h1, h60, hd⟩ := ciIn_facts hc
    rw [e]
    have HD : Hid (drf (bits s).reverse < 0) := by show _ < 0; rw [drf_rev]; exact hd
    clear e hd
    go_enter Try.func14, Try.ntmps14
    go_wp2_with (go_at_call 27; refine (readCircle_yes _ _ hc).mono ?_; rintro e w1 ⟨g, rfl, h2, h3, h4, hb⟩)
    have CR := hide (reverseB_any g s.size s.size (bits s) _ _ w1 h1 h60 h4)
    have HB := hide hb
    clear h4 hb hc
    go_wp2_with fail
    refine CR.out.mono ?_
    rintro e w2 ⟨rfl, ⟨A, H, h5⟩, x2⟩
    have hz2 := x2.size
    have HB2 := hide (HB.out.trans (x2.below h2 (by omega)))
    have CT := hide (turn_any g s.size s.size (bits s).reverse A H w2 h1 h60 (by omega) h5 HD.out)
    clear h5 x2 CR
    go_wp2_with fail
    refine CT.out.mono ?_
    rintro e w3 ⟨rfl, ⟨A3, H3, h6⟩, hb3⟩
    have hz3 := hb3.size
    have HB3 := hide (HB2.out.trans (hb3.mono h2))
    have CR2 := hide (reverseB_any g s.size s.size (cturn (bits s).reverse) A3 H3 w3 h1 h60 h6)
    clear h6 hb3 CT
    go_wp2_with fail
    refine CR2.out.mono ?_
    rintro e w4 ⟨rfl, ⟨A4, H4, h7⟩, x4⟩
    have hz4 := x4.size
    have HB4 := hide (HB3.out.trans (x4.below h2 (by omega)))
    have CX := hide (cText_any g s.size s.size (cturn (bits s).reverse).reverse A4 H4 w4 h60 (by omega) h7)
    clear h7 x4 CR2
    go_wp2_with fail
    refine CX.out.mono ?_
    rintro e w5 ⟨rfl, hb5⟩
    have hz1 := HB4.out.size
    have HB5 := hide (HB4.out.trans (hb5.mono hz1))
    clear hb5 CX
    go_wp2_with fail
    go_ret2
    exact ⟨rfl, HB5.out⟩

set_option maxHeartbeats 1000000 in
theorem implCircleRotate_any (s : ByteArray) (n : Int) (w : World) (hs : s.size ≤ maxLen) :
    Calls Try.prog 16 #[.string s, .int .i64 n] w fun e w' => e = .returned (.tuple #[.string (rtS s n), .bool (rtOk s n)]) ∧ Below w.heap.size w w' := by
  have CI := hide (fun w => implCircleIn_any s w hs)
  cases h1 : ciIn s
  · rw [h1] at CI
    have e1 : rtOk s n = false := by unfold rtOk; rw [h1]; rfl
    have e2 : rtS s n = ByteArray.empty := by unfold rtS; rw [e1]; rfl
    rw [e1, e2]
    clear e1 e2 h1 hs
    go_enter Try.func16, Try.ntmps16
    go_wp2_with (go_at_call 10; refine (CI.out _).mono ?_; rintro e w' ⟨rfl, hb⟩)
    go_ret2
    exact ⟨rfl, hb⟩
  · rw [h1] at CI
    have hz : s.size ≤ 60 := (ciIn_facts h1).2.2.2.1
    by_cases h2 : 0 ≤ n
    · by_cases h3 : n ≤ (s.size : Int)
      · have e1 : rtOk s n = true := by unfold rtOk; rw [h1]; simp; omega
        have e2 : rtS s n = s.extract n.toNat s.size ++ s.extract 0 n.toNat := by unfold rtS; rw [e1]; rfl
        rw [e1, e2]
        obtain ⟨m, rfl⟩ : ∃ m : Nat, n = (m : Int) := ⟨n.toNat, by omega⟩
        have d1 : decide ((m : Int) < 0) = false := decide_eq_false (by omega)
        have d2 : decide ((s.size : Int) < (m : Int)) = false := decide_eq_false (by omega)
        have hm : m ≤ s.size := by omega
        have hz1 : (s.extract m s.size).size ≤ 60 := by simp; omega
        have hz2 : (s.extract 0 m).size ≤ 60 := by simp; omega
        unfold maxLen at hs
        clear e1 e2 h1
        go_enter Try.func16, Try.ntmps16
        go_wp2_with (go_at_call 10; refine (CI.out _).mono ?_; rintro e w' ⟨rfl, hb⟩)
        go_quiet (fail)
        go_wp2
        go_ret2
        exact ⟨by simp, hb.trans ((Quiet.drewN _).2 _)⟩
      · have e1 : rtOk s n = false := by unfold rtOk; rw [h1]; simp; omega
        have e2 : rtS s n = ByteArray.empty := by unfold rtS; rw [e1]; rfl
        rw [e1, e2]
        have d1 : decide (n < 0) = false := decide_eq_false (by omega)
        have d2 : decide ((s.size : Int) < n) = true := decide_eq_true (by omega)
        clear e1 e2 h1 hs
        go_enter Try.func16, Try.ntmps16
        go_wp2_with (go_at_call 10; refine (CI.out _).mono ?_; rintro e w' ⟨rfl, hb⟩)
        go_ret2
        exact ⟨rfl, hb⟩
    · have e1 : rtOk s n = false := by unfold rtOk; rw [h1]; simp; omega
      have e2 : rtS s n = ByteArray.empty := by unfold rtS; rw [e1]; rfl
      rw [e1, e2]
      have d1 : decide (n < 0) = true := decide_eq_true (by omega)
      clear e1 e2 h1 hs
      go_enter Try.func16, Try.ntmps16
      go_wp2_with (go_at_call 10; refine (CI.out _).mono ?_; rintro e w' ⟨rfl, hb⟩)
      go_ret2
      exact ⟨rfl, hb⟩

set_option maxRecDepth 100000 in
set_option maxHeartbeats 1000000 in
theorem implCirclePeriod_any (s : ByteArray) (w : World) (hs : s.size ≤ maxLen) :
    Calls Try.prog 23 #[.string s] w fun e w' => e = .returned (.tuple #[.int .i64 (cpN s), .bool (ciIn s)]) ∧ Below w.heap.size w w' := by
  cases h1 : ciIn s
  · have e : cpN s = 0 := by unfold cpN; rw [h1]; rfl
    rw [e]
    go_enter Try.func23, Try.ntmps23
    go_wp2_with (go_at_call 27; refine (readCircle_no _ _ hs h1).mono ?_; rintro e w' ⟨rfl, hb⟩)
    go_ret2
    exact ⟨rfl, hb⟩
  · obtain ⟨hv, _, h1', h60, hd⟩ := ciIn_facts h1
    have e : cpN s = (perB (bits s) 5000 1 : Int) := by unfold cpN; rw [h1]; rfl
    rw [e]
    have HV := hide hv
    have HD := hide hd
    obtain ⟨r, hr⟩ : ∃ r : Nat, r = perB (bits s) 5000 1 := ⟨_, rfl⟩
    have HR := hide hr
    rw [← hr]
    clear hs e hv hr hd
    go_enter Try.func23, Try.ntmps23
    go_wp2_with (go_at_call 27; refine (readCircle_yes _ _ h1).mono ?_; rintro e w1 ⟨g, rfl, h2, h3, h4, hb⟩)
    have HB0 := hide hb
    have HX0 := hide h4
    clear h1 hb h4
    have HWG := hide h2
    go_loopw [6] (fun nv wr => ∃ (k : Nat) (A H : Nat → Option Addr), nv = .int .i64 ((k : Int) + 1) ∧ k ≤ 5000 ∧ Hid (perB (bits s) (5000 - k) (k + 1) = r) ∧ Hid (drf (cturns k (bits s)) < 0) ∧ Hid (BX wr g s.size (cturns k (bits s)) A H) ∧ Hid (Below w.heap.size w wr) ∧ g < wr.heap.size) (fun nv _ => 5001 - (Go.RowKit.intOf nv).toNat)
    case atStart => exact ⟨0, _, _, rfl, by omega, HR.out.symm, HD.out, HX0.out, HB0.out, h3⟩
    case round =>
      obtain ⟨k, A, H, rfl, hk, HK, HDK, HX, HB, hg⟩ := hrel
      obtain ⟨W1, rfl⟩ : ∃ W, W = wr := ⟨wr, rfl⟩
      by_cases hlt : k < 5000
      · have hle : (k : Int) + 1 ≤ 5000 := by omega
        have hb : cturn (cturns k (bits s)) = cturns (k + 1) (bits s) := (cturns_comm k (bits s)).symm
        have hlen : (cturns (k + 1) (bits s)).length = s.size := by rw [← hb, cturn_length]; exact HX.out.len
        have CT := hide (turn_any g s.size s.size (cturns k (bits s)) A H W1 h1' h60 hg HX.out HDK.out)
        have HD2 : Hid (drf (cturns (k + 1) (bits s)) < 0) := by show _ < 0; rw [← hb, cturn_drf HDK.out]; exact HDK.out
        rw [hb] at CT
        have hst : ofB (cturns (k + 1) (bits s)) = s ↔ cturns (k + 1) (bits s) = bits s := by
          constructor
          · intro e; rw [← bits_ofB (cturns (k + 1) (bits s)), e]
          · intro e; rw [e, ofB_bits HV.out]
        have hstep : perB (bits s) (5000 - k) (k + 1) = if cturns (k + 1) (bits s) = bits s then k + 1 else perB (bits s) (5000 - (k + 1)) (k + 1 + 1) := by
          rw [show 5000 - k = (5000 - (k + 1)) + 1 by omega]
          rfl
        obtain ⟨t, ht⟩ : ∃ t, t = cturns (k + 1) (bits s) := ⟨_, rfl⟩
        rw [← ht] at CT hst hstep HD2 hlen
        have HTE := hide ht
        obtain ⟨y, hy⟩ : ∃ y, y = ofB t := ⟨_, rfl⟩
        have HY := hide hy
        rw [← hy] at hst
        have HST := hide hst
        have HSTEP := hide hstep
        clear hb hst hstep ht hy
        go_wp2_with fail
        refine CT.out.mono ?_
        rintro e w2 ⟨rfl, ⟨A2, H2, h5⟩, hb2⟩
        have hz2 := hb2.size
        have CX := hide (cText_any g s.size s.size t A2 H2 w2 h60 (by omega) h5)
        rw [← HY.out] at CX
        have HX2 := hide h5
        have HB2 := hide (HB.out.trans (hb2.mono HWG.out))
        clear h5 hb2 CT
        by_cases he : y = s
        · have HF : Hid (r = k + 1) := by show _ = _; rw [← HK.out, HSTEP.out, if_pos (HST.out.1 he)]
          subst he
          go_wp2_with fail
          refine CX.out.mono ?_
          rintro e w3 ⟨rfl, hb3⟩
          have HB3 := hide (HB2.out.trans (hb3.mono HB2.out.size))
          clear hb3 CX
          go_wp2_with fail
          go_ret2
          exact ⟨by rw [HF.out]; rfl, HB3.out⟩
        · have HN : Hid (perB (bits s) (5000 - (k + 1)) (k + 1 + 1) = r) := by show _ = _; rw [← HK.out, HSTEP.out, if_neg (fun h => he (HST.out.2 h))]
          have hq : (y.toList == s.toList) = false := by
            rw [beq_eq_false_iff_ne]
            intro h
            rw [ByteArray.toList_eq, ByteArray.toList_eq] at h
            exact he (by rw [← ofL_lst y, ← ofL_lst s]; unfold lst; rw [h])
          go_wp2_with fail
          refine CX.out.mono ?_
          rintro e w3 ⟨rfl, hb3⟩
          have HB3 := hide (HB2.out.trans (hb3.mono HB2.out.size))
          have hz3 := hb3.size
          have HX3 : Hid (BX w3 g s.size (cturns (k + 1) (bits s)) A2 H2) := by show BX _ _ _ _ _ _; rw [← HTE.out]; exact HX2.out.below hb3 (by omega)
          have HD3 : Hid (drf (cturns (k + 1) (bits s)) < 0) := by show _ < 0; rw [← HTE.out]; exact HD2.out
          clear hb3 CX
          go_wp2_with fail
          go_roundw
          case rel => exact ⟨k + 1, _, _, by go_num, by omega, HN, HD3, HX3, HB3, by omega⟩
          case measure => simp [Go.RowKit.intOf]; omega
      · have hk5 : k = 5000 := by omega
        have HF : Hid (r = 0) := by show _ = _; rw [← HK.out, hk5]; rfl
        have hle : ¬ (k : Int) + 1 ≤ 5000 := by omega
        clear hk5
        go_wp2_with fail
        go_ret2
        exact ⟨by rw [HF.out]; rfl, HB.out⟩
end Go.Proofs.Ytkdhifofdghbbab

/- THE WALK of the model's CircleTurn, off a contract of its l6cRounds. -/
namespace Go.Proofs.Ytkdhifofdghbbab
open Go.RowKit

/-- what the pairing of a circle answers: who is paired, and the numbers of pairs -/
def RoundsC : Prop := ∀ (s : ByteArray) (w : World), ciIn s = true →
    Calls Try.prog 28 #[.string s] w fun e w' => ∃ (v1 v2 : Value) (pl : List Int), e = .returned (.tuple #[v1, v2]) ∧
      IntsV w.heap.size w' v1 pl ∧ pl.length = s.size ∧ (∀ (i : Nat) (x : Int), pl[i]? = some x → (decide (0 ≤ x) && !((bits s).getD i false)) = (cturn (bits s)).getD i false) ∧
      IntsV w.heap.size w' v2 (List.map (fun n : Nat => (n : Int)) (cnt10 (nballs (bits s)) (bits s))) ∧ Below w.heap.size w w'
theorem chC_add (c : UInt8) (l : List Bool) (k : Nat) (b : Bool) (h : l[k]? = some b) : chC c (l.take (k + 1)) = chC c (l.take k) ++ [if b then c else 48] := by
  obtain ⟨hk, he⟩ := List.getElem?_eq_some_iff.1 h
  rw [List.take_succ_eq_append_getElem hk, he]; simp [chC]
theorem lst_add (x t : ByteArray) : lst (x ++ t) = lst x ++ lst t := by unfold lst; rw [ByteArray.data_append, Array.toList_append]

theorem sign_at {s : ByteArray} (h : vld s = true) (k : Nat) (hk : k < s.size) : (s[k].toNat : Int) = 48 ∨ (s[k].toNat : Int) = 49 := by
  have h1 := vld_sgn s h
  unfold allSgn at h1
  rw [List.all_eq_true] at h1
  have h2 := h1 s[k] (List.mem_of_getElem? (lst_get s k hk))
  rw [sgn_of] at h2
  simpa using h2

set_option maxRecDepth 100000 in
set_option maxHeartbeats 1000000 in
theorem specCircleTurn_of (H : RoundsC) (s : ByteArray) (w : World) (hs : s.size ≤ maxLen) :
    Calls Try.prog 11 #[.string s] w fun e w' => e = .returned (.tuple #[.string (ctS s), .bool (ciIn s)]) ∧ Below w.heap.size w w' := by
  have CI := hide (fun w => specCircleIn_any s w hs)
  cases h1 : ciIn s
  · rw [h1] at CI
    have e : ctS s = ByteArray.empty := by unfold ctS; rw [h1]; rfl
    rw [e]
    clear h1 hs e H
    go_enter Try.func11, Try.ntmps11
    go_wp2_with (go_at_call 9; refine (CI.out _).mono ?_; rintro e w' ⟨rfl, rfl⟩)
    go_ret2
    exact ⟨rfl, Below.refl _ _⟩
  · rw [h1] at CI
    have HR := hide (H s w h1)
    obtain ⟨_, _, hs1, h60, _⟩ := ciIn_facts h1
    have hct : ctS s = ofB (cturn (bits s)) := by unfold ctS; rw [if_pos h1]
    rw [hct]
    have hlen : (cturn (bits s)).length = s.size := by rw [cturn_length, length_bits]
    have HSG := hide (fun (k : Nat) (h : k < s.size) => sign_at (ciIn_facts h1).1 k h)
    have HB0 := hide (fun (k : Nat) (h : k < s.size) => bits_getElem s k h)
    obtain ⟨T, hT⟩ : ∃ T, T = cturn (bits s) := ⟨_, rfl⟩
    rw [← hT] at HR hlen ⊢
    clear h1 hs hct hT H
    go_enter Try.func11, Try.ntmps11
    go_wp2_with (go_at_call 9; refine (CI.out _).mono ?_; rintro e w' ⟨rfl, rfl⟩)
    refine HR.out.mono ?_
    rintro e w1 ⟨v1, v2, pl, rfl, i1, hpl, hp, _, hb1⟩
    have HB1 := hide hb1
    have HP := hide hp
    rcases i1 with ⟨a, c, rfl, h0⟩ | ⟨g, cap, rfl, hcap, hlo, hlt, hc⟩
    · rw [h0] at hpl; simp at hpl; omega
    · have HC := hide hc
      have HLT := hide hlt
      clear hc hp hb1 hlt HR hlo
      go_wp2_with fail
      go_loopw [6, 7] (fun o i wr => ∃ (x : ByteArray) (k : Nat), k ≤ s.size ∧ o = .string x ∧ i = .int .i64 (k : Int) ∧ x.size ≤ k ∧ Hid (lst x = chC 49 (T.take k)) ∧ Hid (Quiet w1 wr)) (fun _ i => fun _ => s.size - (Go.RowKit.intOf i).toNat)
      case atStart => exact ⟨⟨#[]⟩, 0, Nat.zero_le _, rfl, rfl, Nat.zero_le _, rfl, Quiet.refl _⟩
      case round =>
        obtain ⟨x, k, hk, rfl, rfl, hxk, HX, HQ⟩ := hrel
        by_cases hlt : k < s.size
        · obtain ⟨p, hpk⟩ : ∃ p : Int, pl[k]? = some p := ⟨pl[k]'(by omega), List.getElem?_eq_getElem _⟩
          have c1 := ((HQ.out.cells HC.out) k (.int .i64 p) (by rw [List.getElem?_map, hpk]; rfl)).1
          have hb := HP.out k p hpk
          have hbk : (bits s).getD k false = (s[k] == 49) := by rw [List.getD_eq_getElem?_getD, HB0.out k hlt]; rfl
          obtain ⟨b, hTb⟩ : ∃ b, T[k]? = some b := ⟨T[k]'(by omega), List.getElem?_eq_getElem _⟩
          have hTd : T.getD k false = b := by rw [List.getD_eq_getElem?_getD, hTb]; rfl
          have HA := hide (chC_add 49 T k b hTb)
          rw [hTd, hbk] at hb
          have i0 : (0 : Int) ≤ (k : Int) := by omega
          have i1 : (k : Int) < (pl.length : Int) := by omega
          have i2 : (k : Int) < (s.size : Int) := by omega
          have hsg := HSG.out k hlt
          rw [bit_int] at hb
          by_cases hp0 : 0 ≤ p
          · have d0 : decide (0 ≤ p) = true := decide_eq_true hp0
            rcases hsg with h48 | h49
            · have t0 : ((s[k].toNat : Int) == 48) = true := by rw [h48]; rfl
              have hbv : b = true := by rw [← hb, h48, d0]; rfl
              have HP2 : Hid (lst (x ++ ⟨#[49]⟩) = chC 49 (T.take (k + 1))) := by
                show _ = _
                rw [lst_add, HX.out, HA.out, hbv]
                rfl
              clear hb hbk hTb hTd hpk
              go_wp2
              go_roundw
              case rel => exact ⟨_, k + 1, by omega, rfl, by go_num, by rw [ByteArray.size_append]; show x.size + 1 ≤ k + 1; omega, HP2, HQ⟩
              case measure => simp [Go.RowKit.intOf]; omega
            · have t0 : ((s[k].toNat : Int) == 48) = false := by rw [h49]; rfl
              have hbv : b = false := by rw [← hb, h49, d0]; rfl
              have HP2 : Hid (lst (x ++ ⟨#[48]⟩) = chC 49 (T.take (k + 1))) := by
                show _ = _
                rw [lst_add, HX.out, HA.out, hbv]
                rfl
              clear hb hbk hTb hTd hpk
              go_wp2
              go_roundw
              case rel => exact ⟨_, k + 1, by omega, rfl, by go_num, by rw [ByteArray.size_append]; show x.size + 1 ≤ k + 1; omega, HP2, HQ⟩
              case measure => simp [Go.RowKit.intOf]; omega
          · have d0 : decide (0 ≤ p) = false := decide_eq_false hp0
            have hbv : b = false := by rw [← hb, d0]; rfl
            have HP2 : Hid (lst (x ++ ⟨#[48]⟩) = chC 49 (T.take (k + 1))) := by
              show _ = _
              rw [lst_add, HX.out, HA.out, hbv]
              rfl
            clear hb hbk hTb hTd hpk
            go_wp2
            go_roundw
            case rel => exact ⟨_, k + 1, by omega, rfl, by go_num, by rw [ByteArray.size_append]; show x.size + 1 ≤ k + 1; omega, HP2, HQ⟩
            case measure => simp [Go.RowKit.intOf]; omega
        · have hx2 := HX.out
          rw [List.take_of_length_le (by omega)] at hx2
          have HF : Hid (x = ofB T) := by show _ = _; unfold ofB; rw [← hx2, ofL_lst]
          have hkn : k = s.size := by omega
          clear hx2
          go_wp2
          go_ret2
          exact ⟨by rw [HF.out]; rfl, HB1.out.trans (HQ.out.2 _)⟩
end Go.Proofs.Ytkdhifofdghbbab
