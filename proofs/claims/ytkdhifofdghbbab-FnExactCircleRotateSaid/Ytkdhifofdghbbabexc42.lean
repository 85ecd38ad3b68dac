/- TEXTS ICir, Exact6. -/
import Derived.Test.Ytkdhifofdghbbabexc16
import Derived.Test.Ytkdhifofdghbbabexc18
import Derived.Test.Ytkdhifofdghbbabexc41
import Derived.Test.Ytkdhifofdghbbabexc03
/- THE WALK of the program's CircleShape. -/
namespace Go.Proofs.Ytkdhifofdghbbab
open Go.RowKit

theorem infoIC : (Try.prog.info? 3).map (fun i => (i.zero, i.size, i.bytes)) = some (some (.int .i64 0), 1, 8) := by kernel_rfl
theorem one_intC (x : Int) : ∀ u ∈ [Value.int .i64 x], u.oneCell' = true := by intro u hu; simp at hu; subst hu; rfl
theorem cnt10_falls (f : Nat) (l : List Bool) : Falls (cnt10 f l) := by rw [cnt10_aj]; exact cntaj_falls _ _
theorem ni_take {r : List Nat} {k x : Nat} (h : r[k]? = some x) : ni (r.take (k + 1)) = ni (r.take k) ++ [(x : Int)] := by
  obtain ⟨hk, he⟩ := List.getElem?_eq_some_iff.1 h
  rw [List.take_succ_eq_append_getElem hk, ni_snoc, he]

set_option maxRecDepth 100000 in
set_option maxHeartbeats 4000000 in
theorem implCircleShape_any (s : ByteArray) (w : World) (hs : s.size ≤ maxLen) :
    Calls Try.prog 18 #[.string s] w fun e w' => ∃ v, e = .returned (.tuple #[v, .bool (ciIn s)]) ∧ IntsV w.heap.size w' v (cshL s) ∧ Below w.heap.size w w' := by
  cases hc : ciIn s
  · have e : cshL s = [] := by unfold cshL; rw [hc]; rfl
    rw [e]
    go_enter Try.func18, Try.ntmps18
    go_wp2_with (go_at_call 27; refine (readCircle_no _ _ hs hc).mono ?_; rintro e w' ⟨rfl, hb⟩)
    go_ret2
    exact ⟨_, rfl, .inl ⟨_, _, rfl, rfl⟩, hb⟩
  · obtain ⟨_, _, h1, h60, hd⟩ := ciIn_facts hc
    obtain ⟨i0, hi, hz0, hz1, hz2⟩ := info_parts infoIC
    have hfew := ci_few hc
    have hsum := cnt10_sum (nballs (bits s)) hd (Nat.le_refl _)
    have hlen := cnt10_len (nballs (bits s)) (bits s)
    have hF := cnt10_falls (nballs (bits s)) (bits s)
    have e : cshL s = ni (shp (cnt10 (nballs (bits s)) (bits s))) := by unfold cshL; rw [if_pos hc]; rfl
    rw [e]
    have HD := hide hd
    obtain ⟨r, hr⟩ : ∃ r, r = cnt10 (nballs (bits s)) (bits s) := ⟨_, rfl⟩
    have HR := hide hr
    rw [← hr] at hsum hlen hF ⊢
    have hrl : r.length ≤ 120 := by omega
    have hall : ∀ x ∈ r, x ≤ 120 := fun x hx => by have := le_sum hx; omega
    have hsl : (shp r).length ≤ 120 := by
      rw [shp_length]
      cases r with
      | nil => exact Nat.zero_le _
      | cons x q => exact hall x (List.mem_cons_self ..)
    have hss : (shp r).sum ≤ 120 := by rw [shp_sum hF]; omega
    have C3 := hide (fun (v : Value) (w : World) (lo : Nat) (h : IntsV lo w v (ni r)) => shapeOfRounds_any v r w hF hrl hall h)
    have C4 := hide (fun (b : Nat) (w : World) (hc : CntAt w b 120 (cntL (ni (shp r)))) => list_any b 120 (cntL (ni (shp r))) 36 (fun a b => cmpI b a) cmpDown w hc (by omega)
      (fun ks hk => by rw [(manyL_perm hk).length_eq, ni_length]; omega)
      (fun x hx => by
        have hm := (cntL_pos _ x).1 hx
        unfold ni at hm
        obtain ⟨y, hy, rfl⟩ := List.mem_map.1 hm
        have a1 := shp_pos hF y hy
        have a2 := mem_le_sum _ y hy
        omega))
    have HP := hide (falls_pairwise _ (shp_falls r))
    clear e hr hd hsum hlen hF hall hsl hss hfew
    go_enter Try.func18, Try.ntmps18
    go_wp2_with (go_at_call 27; refine (readCircle_yes _ _ hc).mono ?_; rintro e w1 ⟨g, rfl, h2, h3, h4, hb⟩)
    have CP := hide (pairs_any g s.size s.size (bits s) _ _ w1 h1 h60 h3 h4 HD.out)
    have HB := hide hb
    have hz1' := hb.size
    clear h4 hb hc
    go_wp2_with fail
    refine CP.out.mono ?_
    rintro e w2 ⟨v, Q, A, H, rfl, hx, ⟨vs, hv1, hv2⟩, _, hcnt, _, hql, hb2⟩
    obtain ⟨a, c, rfl, hag⟩ := rowK_slice hv1
    have hz3 := hb2.size
    have hbw := HB.out.trans (hb2.mono h2)
    rw [← HR.out] at hcnt
    have hQr : Q.length = r.length := by rw [← hcnt, List.length_map]
    have HV2 : Hid (∀ (k : Nat) (x : Value), vs[k]? = some x → ∃ (q : Nat) (b : Option Addr) (e : Nat), r[k]? = some q ∧ x = .slice b q e) := by
      intro k x hx
      have hkl : k < Q.length := by have h1 := hv1.1; have h2 := (List.getElem?_eq_some_iff.1 hx).1; omega
      obtain ⟨ps, hps⟩ : ∃ ps, Q[k]? = some ps := ⟨_, List.getElem?_eq_getElem hkl⟩
      obtain ⟨b, e, hxe, _⟩ := rowK_slice (hv2 k x ps hx hps)
      exact ⟨ps.length, b, e, by rw [← hcnt, List.getElem?_map, hps]; rfl, hxe⟩
    rw [hQr] at hv1 hag hql ⊢
    have HV1 := hide hv1
    have HB2 := hide hbw
    obtain ⟨m, hm⟩ : ∃ m, m = r.length := ⟨_, rfl⟩
    have HM := hide hm
    rw [← hm] at HV1 hag hql hrl ⊢
    have hvl : Hid (vs.length = m) := by have h1 := HV1.out.1; show _ = _; omega
    clear hv1 hv2 hx hcnt hQr hm hbw hb2 CP
    go_wp2_with fail
    go_loopw [6, 8, 19] (fun rv _ i wr => ∃ k : Nat, k ≤ m ∧ i = .int .i64 (k : Int) ∧ Hid (wr.ownsRow w2.heap.size 3 1 rv k ((ni (r.take k)).map (.int .i64))) ∧ Hid (Below w2.heap.size w2 wr) ∧ w2.heap.size ≤ wr.heap.size) (fun _ _ i _ => m - (Go.RowKit.intOf i).toNat)
    case atStart => exact ⟨0, Nat.zero_le _, rfl, World.ownsRow_nil _ _ _ _, Below.refl _ _, Nat.le_refl _⟩
    case round =>
      obtain ⟨k, hk, rfl, HO, HW, hz⟩ := hrel
      by_cases hlt : k < m
      · obtain ⟨gv, rfl⟩ := hag (by omega)
        obtain ⟨x, hx⟩ : ∃ x, vs[k]? = some x := ⟨_, List.getElem?_eq_getElem (by rw [hvl.out]; exact hlt)⟩
        obtain ⟨q, b, e, hq, rfl⟩ := HV2.out k x hx
        have c1 := ((rowK_cells HV1.out).below' HW.out (Nat.le_refl _) k _ hx).1
        have HT := hide (ni_take hq)
        have i1' : (0 : Int) ≤ (k : Int) := by omega
        have i2' : (k : Int) < (m : Int) := by omega
        clear hx hq
        go_wp2_with (at_builtin; refine wpList_append_own _ rfl _ _ 27 rfl w2.heap.size 3 i0 (.int .i64 0) 1 8 Try.underlying27 hi hz0 hz1 hz2 rfl (by decide) _ _ _ rfl (HO.out.alloc _) ⟨wr.heap.size, 0, none⟩ 1 1 [.int .i64 (q : Int)] rfl rfl (cell_one_new _ _ _) (one_intC _) (by unfold maxLen; omega) (by omega) (by rw [World.size_alloc]; omega) ?_; intro rv' w5 hown5 hgrow5 _)
        have hb5 : Below w2.heap.size wr w5 := ((Below.refl w2.heap.size wr).alloc hz _).grown hgrow5 (by rw [World.size_alloc]; omega) (fun b e => (HO.out.lt b e).1)
        have hz5 := hb5.size
        have HO5 : Hid (w5.ownsRow w2.heap.size 3 1 rv' (k + 1) ((ni (r.take (k + 1))).map (.int .i64))) := by
          show World.ownsRow _ _ _ _ _ _ _
          rw [HT.out, List.map_append]
          exact hown5
        have HW5 := hide (HW.out.trans hb5)
        clear hown5 hgrow5 hb5
        go_roundw
        case rel => exact ⟨k + 1, by omega, by go_num, HO5, HW5, by omega⟩
        case measure => simp [Go.RowKit.intOf]; omega
      · have hkm : k = m := by omega
        subst hkm
        have hIV : IntsV w2.heap.size wr u6 (ni r) := by
          have := HO.out
          rw [List.take_of_length_le (by rw [HM.out]; exact Nat.le_refl _)] at this
          exact IntsV.of_owns (e := 3) (n := k) this
        have C6 := hide (C3.out _ wr _ hIV)
        have HBR := hide (HB2.out.trans (HW.out.mono HB2.out.size))
        clear hIV C3
        go_wp2_with fail
        refine C6.out.mono ?_
        rintro e w3 ⟨rfl, hc3, hb3⟩
        have C7 := hide (C4.out wr.heap.size w3 hc3)
        have hB3 := HBR.out.trans (hb3.mono HBR.out.size)
        have hz3' := hB3.size
        have HB3 := hide hB3
        clear hc3 hb3 hB3 C4 C6
        go_wp2_with fail
        refine C7.out.mono ?_
        rintro e w4 ⟨v4, ks, rfl, hks, hiv, hb4⟩
        rw [down_all HP.out hks] at hiv
        have HI4 := hide (hiv.mono hz3')
        have HB4 := hide (HB3.out.trans (hb4.mono hz3'))
        clear hks hiv hb4 C7
        go_wp2_with fail
        go_ret2
        exact ⟨_, rfl, HI4.out, HB4.out⟩
end Go.Proofs.Ytkdhifofdghbbab

/- THE WALKS of the exact laws of chapter 6. ICir: the contracts of the program's functions of chapter 6. -/
namespace Go.Proofs.Ytkdhifofdghbbab
open Go.RowKit

set_option maxHeartbeats 400000 in
theorem walkFnExactCircleIn (s : ByteArray) (hs : s.size ≤ maxLen) (w : World) :
    Calls Try.prog 3 #[.string s] w fun e w' => e = .returned (.bool true) ∧ Below w.heap.size w w' := by
  have hs' := hs
  unfold maxLen at hs'
  by_cases hbig : 1048576 < s.size
  · go_enter Try.func3, Try.ntmps3
    go_wp2
    go_ret
    exact ⟨rfl, Below.refl _ _⟩
  · have C0 := hide (fun w => specCircleIn_any s w hs)
    have C1 := hide (fun w => implCircleIn_any s w hs)
    obtain ⟨b, eb⟩ : ∃ x : Bool, x = ciIn s := ⟨_, rfl⟩
    rw [← eb] at C0 C1
    clear eb
    go_enter Try.func3, Try.ntmps3
    go_wp2_with (first | (go_at_call 9; refine (C0.out _).mono ?_; rintro e w1 ⟨rfl, rfl⟩) | (go_at_call 10; refine (C1.out _).mono ?_; rintro e w2 ⟨rfl, hb2⟩))
    go_ret
    exact ⟨rfl, hb2⟩

set_option maxHeartbeats 400000 in
theorem walkFnExactCircleTurn (s : ByteArray) (hs : s.size ≤ maxLen) (w : World) :
    Calls Try.prog 4 #[.string s] w fun e w' => e = .returned (.bool true) ∧ Below w.heap.size w w' := by
  have hs' := hs
  unfold maxLen at hs'
  by_cases hbig : 1048576 < s.size
  · go_enter Try.func4, Try.ntmps4
    go_wp2
    go_ret
    exact ⟨rfl, Below.refl _ _⟩
  · have C0 := hide (fun w => specCircleTurn_any s w hs)
    have C1 := hide (fun w => implCircleTurn_any s w hs)
    obtain ⟨x, ex⟩ : ∃ x : ByteArray, x = ctS s := ⟨_, rfl⟩
    obtain ⟨b, eb⟩ : ∃ x : Bool, x = ciIn s := ⟨_, rfl⟩
    rw [← ex, ← eb] at C0 C1
    clear ex eb
    go_enter Try.func4, Try.ntmps4
    go_wp2_with (first | (go_at_call 11; refine (C0.out _).mono ?_; rintro e w1 ⟨rfl, hb1⟩) | (go_at_call 12; refine (C1.out _).mono ?_; rintro e w2 ⟨rfl, hb2⟩))
    go_ret
    exact ⟨rfl, hb1.trans (hb2.mono hb1.size)⟩

set_option maxHeartbeats 400000 in
theorem walkFnExactCircleBack (s : ByteArray) (hs : s.size ≤ maxLen) (w : World) :
    Calls Try.prog 5 #[.string s] w fun e w' => e = .returned (.bool true) ∧ Below w.heap.size w w' := by
  have hs' := hs
  unfold maxLen at hs'
  by_cases hbig : 1048576 < s.size
  · go_enter Try.func5, Try.ntmps5
    go_wp2
    go_ret
    exact ⟨rfl, Below.refl _ _⟩
  · have C0 := hide (fun w => specCircleBack_any s w hs)
    have C1 := hide (fun w => implCircleBack_any s w hs)
    obtain ⟨x, ex⟩ : ∃ x : ByteArray, x = cbS s := ⟨_, rfl⟩
    obtain ⟨b, eb⟩ : ∃ x : Bool, x = ciIn s := ⟨_, rfl⟩
    rw [← ex, ← eb] at C0 C1
    clear ex eb
    go_enter Try.func5, Try.ntmps5
    go_wp2_with (first | (go_at_call 13; refine (C0.out _).mono ?_; rintro e w1 ⟨rfl, hb1⟩) | (go_at_call 14; refine (C1.out _).mono ?_; rintro e w2 ⟨rfl, hb2⟩))
    go_ret
    exact ⟨rfl, hb1.trans (hb2.mono hb1.size)⟩

set_option maxHeartbeats 400000 in
theorem walkFnExactCircleRotate (s : ByteArray) (hs : s.size ≤ maxLen) (n : Int) (_hn : (Lit.int .i64 n).wf = true) (w : World) :
    Calls Try.prog 6 #[.string s, .int .i64 n] w fun e w' => e = .returned (.bool true) ∧ Below w.heap.size w w' := by
  have hs' := hs
  unfold maxLen at hs'
  by_cases hbig : 1048576 < s.size
  · go_enter Try.func6, Try.ntmps6
    go_wp2
    go_ret
    exact ⟨rfl, Below.refl _ _⟩
  · have C0 := hide (fun w => specCircleRotate_any s n w hs)
    have C1 := hide (fun w => implCircleRotate_any s n w hs)
    obtain ⟨x, ex⟩ : ∃ x : ByteArray, x = rtS s n := ⟨_, rfl⟩
    obtain ⟨b, eb⟩ : ∃ x : Bool, x = rtOk s n := ⟨_, rfl⟩
    rw [← ex, ← eb] at C0 C1
    clear ex eb
    go_enter Try.func6, Try.ntmps6
    go_wp2_with (first | (go_at_call 15; refine (C0.out _).mono ?_; rintro e w1 ⟨rfl, hq1⟩) | (go_at_call 16; refine (C1.out _).mono ?_; rintro e w2 ⟨rfl, hb2⟩))
    go_ret
    exact ⟨rfl, (hq1.2 w.heap.size).trans (hb2.mono (hq1.2 w.heap.size).size)⟩

set_option maxHeartbeats 400000 in
theorem walkFnExactCirclePeriod (s : ByteArray) (hs : s.size ≤ maxLen) (w : World) :
    Calls Try.prog 8 #[.string s] w fun e w' => e = .returned (.bool true) ∧ Below w.heap.size w w' := by
  have hs' := hs
  unfold maxLen at hs'
  by_cases hbig : 1048576 < s.size
  · go_enter Try.func8, Try.ntmps8
    go_wp2
    go_ret
    exact ⟨rfl, Below.refl _ _⟩
  · have C0 := hide (fun w => specCirclePeriod_any s w hs)
    have C1 := hide (fun w => implCirclePeriod_any s w hs)
    obtain ⟨x, ex⟩ : ∃ x : Int, x = cpN s := ⟨_, rfl⟩
    obtain ⟨b, eb⟩ : ∃ x : Bool, x = ciIn s := ⟨_, rfl⟩
    rw [← ex, ← eb] at C0 C1
    clear ex eb
    have qx : (x != x) = false := by simp
    go_enter Try.func8, Try.ntmps8
    go_wp2_with (first | (go_at_call 22; refine (C0.out _).mono ?_; rintro e w1 ⟨rfl, hb1⟩) | (go_at_call 23; refine (C1.out _).mono ?_; rintro e w2 ⟨rfl, hb2⟩))
    go_ret
    exact ⟨rfl, hb1.trans (hb2.mono hb1.size)⟩

set_option maxHeartbeats 1000000 in
theorem walkFnExactCircleShape (s : ByteArray) (hs : s.size ≤ maxLen) (w : World) :
    Calls Try.prog 7 #[.string s] w fun e w' => e = .returned (.bool true) ∧ Below w.heap.size w w' := by
  have hs' := hs
  unfold maxLen at hs'
  have hlen := cshL_len0 s
  by_cases hbig0 : 1048576 < s.size
  · go_enter Try.func7, Try.ntmps7
    go_wp2
    go_ret
    exact ⟨rfl, Below.refl _ _⟩
  obtain ⟨l, hl⟩ : ∃ l, l = cshL s := ⟨_, rfl⟩
  obtain ⟨b, hb⟩ : ∃ b, b = ciIn s := ⟨_, rfl⟩
  have C0 := hide (fun w => specCircleShape_any s w hs)
  have C1 := hide (fun w => implCircleShape_any s w hs)
  rw [← hl, ← hb] at C0 C1
  rw [← hl] at hlen
  clear hl hb
  have hm : l.length ≤ maxLen := by unfold maxLen; omega
  have hm2 : l.length ≤ 4611686018427387904 := by omega
  go_enter Try.func7, Try.ntmps7
  go_wp2_with fail
  refine (C0.out _).mono ?_
  rintro e w1 ⟨v0, rfl, hi0, hb0⟩
  go_wp2_with fail
  refine (C1.out _).mono ?_
  rintro e w2 ⟨v1, rfl, hi1, hb1⟩
  have hi0' := hi0.below hb1 (Nat.le_refl _)
  have s0 := hb0.size
  have s1 := hb1.size
  go_wp2_with fail
  refine (eqIntS_same hm hi1 hi0').mono ?_
  rintro e w3 ⟨rfl, q3⟩
  have hi1' := q3.ints hi1
  have b13 := hb1.trans (q3.2 _)
  clear hi0' hi1
  cases b
  all_goals
    go_wp2_with fail
    refine (markIntS_any hm2 hi1').mono ?_
    rintro e w4 ⟨rfl, b34, hi1m⟩
    have b14 := b13.trans b34
    go_wp2_with fail
    refine (heldIntS_any hm2 hi1m).mono ?_
    rintro e w5 ⟨rfl, q5⟩
    have b15 := b14.trans (q5.2 _)
    have s5 := b15.size
    have s45 := q5.1
    go_wp2_with fail
    refine (C1.out _).mono ?_
    rintro e w6 ⟨v2, rfl, hi2, hb6⟩
    have b16 := b15.trans (hb6.mono s5)
    have hi0' := hi0.below b16 (Nat.le_refl _)
    go_wp2_with fail
    refine (eqIntS_same hm hi2 hi0').mono ?_
    rintro e w7 ⟨rfl, q7⟩
    have hi1n := (q5.ints hi1m).below (hb6.trans (q7.2 _)) (Nat.le_refl _)
    go_wp2_with fail
    refine (heldIntS_any hm2 hi1n).mono ?_
    rintro e w8 ⟨rfl, q8⟩
    go_wp2_with fail
    go_ret
    exact ⟨rfl, ((hb0.trans (b16.mono s0)).trans (q7.2 _)).trans (q8.2 _)⟩
end Go.Proofs.Ytkdhifofdghbbab
