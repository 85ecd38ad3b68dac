/- TEXTS ICir, PCir3, Col4, Cir6. -/
import Derived.Test.Ytkdhifofdghbbaarot20
import Derived.Test.Ytkdhifofdghbbaarot15
import Derived.Test.Ytkdhifofdghbbaarot39
import Derived.Test.Ytkdhifofdghbbaarot21
import Derived.Test.Ytkdhifofdghbbaarot05
import Derived.Test.Ytkdhifofdghbbaarot31
import Derived.Test.Ytkdhifofdghbbaarot10
/- THE WALK of the program's CircleShape. -/
namespace Go.Proofs.Ytkdhifofdghbbaa
open Go.RowKit

theorem infoIC : (Try.prog.info? 3).map (fun i => (i.zero, i.size, i.bytes)) = some (some (.int .i64 0), 1, 8) := by kernel_rfl
theorem one_intC (x : Int) : ∀ u ∈ [Value.int .i64 x], u.oneCell' = true := by intro u hu; simp at hu; subst hu; rfl
theorem cnt10_falls (f : Nat) (l : List Bool) : Falls (cnt10 f l) := by rw [cnt10_aj]; exact cntaj_falls _ _
theorem ni_take {r : List Nat} {k x : Nat} (h : r[k]? = some x) : ni (r.take (k + 1)) = ni (r.take k) ++ [(x : Int)] := by
  obtain ⟨hk, he⟩ := List.getElem?_eq_some_iff.1 h
  rw [List.take_succ_eq_append_getElem hk, ni_snoc, he]

set_option maxRecDepth 100000 in
set_option maxHeartbeats 4000000 in
theorem implCircleShape_any (s : ByteArray) (w : World) (hs : s.size ≤ maxLen) :
    Calls Try.prog 23 #[.string s] w fun e w' => ∃ v, e = .returned (.tuple #[v, .bool (ciIn s)]) ∧ IntsV w.heap.size w' v (cshL s) ∧ Below w.heap.size w w' := by
  cases hc : ciIn s
  · have e : cshL s = [] := by unfold cshL; rw [hc]; rfl
    rw [e]
    go_enter Try.func23, Try.ntmps23
    go_wp2_with (go_at_call 37; refine (readCircle_no _ _ hs hc).mono ?_; rintro e w' ⟨rfl, hb⟩)
    go_ret2
    exact ⟨_, rfl, .inl ⟨_, _, rfl, rfl⟩, hb⟩
  · obtain ⟨_, _, h1, h60, hd⟩ := ciIn_facts hc
    obtain ⟨i0, hi, hz0, hz1, hz2⟩ := info_parts infoIC
    have hfew := ci_few hc
    have hsum := cnt10_sum (nballs (bits s)) hd (Nat.le_refl _)
    have hlen := cnt10_len (nballs (bits s)) (bits s)
    have hF := cnt10_falls (nballs (bits s)) (bits s)
    have e : cshL s = ni (shp (cnt10 (nballs (bits s)) (bits s))) := by unfold cshL; rw [if_pos hc]; rfl
    rw [e]
    have HD := hide hd
    obtain ⟨r, hr⟩ : ∃ r, r = cnt10 (nballs (bits s)) (bits s) := ⟨_, rfl⟩
    have HR := hide hr
    rw [← hr] at hsum hlen hF ⊢
    have hrl : r.length ≤ 120 := by omega
    have hall : ∀ x ∈ r, x ≤ 120 := fun x hx => by have := le_sum hx; omega
    have hsl : (shp r).length ≤ 120 := by
      rw [shp_length]
      cases r with
      | nil => exact Nat.zero_le _
      | cons x q => exact hall x (List.mem_cons_self ..)
    have hss : (shp r).sum ≤ 120 := by rw [shp_sum hF]; omega
    have C3 := hide (fun (v : Value) (w : World) (lo : Nat) (h : IntsV lo w v (ni r)) => shapeOfRounds_any v r w hF hrl hall h)
    have C4 := hide (fun (b : Nat) (w : World) (hc : CntAt w b 120 (cntL (ni (shp r)))) => list_any b 120 (cntL (ni (shp r))) 52 (fun a b => cmpI b a) cmpDown w hc (by omega)
      (fun ks hk => by rw [(manyL_perm hk).length_eq, ni_length]; omega)
      (fun x hx => by
        have hm := (cntL_pos _ x).1 hx
        unfold ni at hm
        obtain ⟨y, hy, rfl⟩ := List.mem_map.1 hm
        have a1 := shp_pos hF y hy
        have a2 := mem_le_sum _ y hy
        omega))
    have HP := hide (falls_pairwise _ (shp_falls r))
    clear e hr hd hsum hlen hF hall hsl hss hfew
    go_enter Try.func23, Try.ntmps23
    go_wp2_with (go_at_call 37; refine (readCircle_yes _ _ hc).mono ?_; rintro e w1 ⟨g, rfl, h2, h3, h4, hb⟩)
    have CP := hide (pairs_any g s.size s.size (bits s) _ _ w1 h1 h60 h3 h4 HD.out)
    have HB := hide hb
    have hz1' := hb.size
    clear h4 hb hc
    go_wp2_with fail
    refine CP.out.mono ?_
    rintro e w2 ⟨v, Q, A, H, rfl, hx, ⟨vs, hv1, hv2⟩, _, hcnt, _, hql, hb2⟩
    obtain ⟨a, c, rfl, hag⟩ := rowK_slice hv1
    have hz3 := hb2.size
    have hbw := HB.out.trans (hb2.mono h2)
    rw [← HR.out] at hcnt
    have hQr : Q.length = r.length := by rw [← hcnt, List.length_map]
    have HV2 : Hid (∀ (k : Nat) (x : Value), vs[k]? = some x → ∃ (q : Nat) (b : Option Addr) (e : Nat), r[k]? = some q ∧ x = .slice b q e) := by
      intro k x hx
      have hkl : k < Q.length := by have h1 := hv1.1; have h2 := (List.getElem?_eq_some_iff.1 hx).1; omega
      obtain ⟨ps, hps⟩ : ∃ ps, Q[k]? = some ps := ⟨_, List.getElem?_eq_getElem hkl⟩
      obtain ⟨b, e, hxe, _⟩ := rowK_slice (hv2 k x ps hx hps)
      exact ⟨ps.length, b, e, by rw [← hcnt, List.getElem?_map, hps]; rfl, hxe⟩
    rw [hQr] at hv1 hag hql ⊢
    have HV1 := hide hv1
    have HB2 := hide hbw
    obtain ⟨m, hm⟩ : ∃ m, m = r.length := ⟨_, rfl⟩
    have HM := hide hm
    rw [← hm] at HV1 hag hql hrl ⊢
    have hvl : Hid (vs.length = m) := by have h1 := HV1.out.1; show _ = _; omega
    clear hv1 hv2 hx hcnt hQr hm hbw hb2 CP
    go_wp2_with fail
    go_loopw [6, 8, 19] (fun rv _ i wr => ∃ k : Nat, k ≤ m ∧ i = .int .i64 (k : Int) ∧ Hid (wr.ownsRow w2.heap.size 3 1 rv k ((ni (r.take k)).map (.int .i64))) ∧ Hid (Below w2.heap.size w2 wr) ∧ w2.heap.size ≤ wr.heap.size) (fun _ _ i _ => m - (Go.RowKit.intOf i).toNat)
    case atStart => exact ⟨0, Nat.zero_le _, rfl, World.ownsRow_nil _ _ _ _, Below.refl _ _, Nat.le_refl _⟩
    case round =>
      obtain ⟨k, hk, rfl, HO, HW, hz⟩ := hrel
      by_cases hlt : k < m
      · obtain ⟨gv, rfl⟩ := hag (by omega)
        obtain ⟨x, hx⟩ : ∃ x, vs[k]? = some x := ⟨_, List.getElem?_eq_getElem (by rw [hvl.out]; exact hlt)⟩
        obtain ⟨q, b, e, hq, rfl⟩ := HV2.out k x hx
        have c1 := ((rowK_cells HV1.out).below' HW.out (Nat.le_refl _) k _ hx).1
        have HT := hide (ni_take hq)
        have i1' : (0 : Int) ≤ (k : Int) := by omega
        have i2' : (k : Int) < (m : Int) := by omega
        clear hx hq
        go_wp2_with (at_builtin; refine wpList_append_own _ rfl _ _ 32 rfl w2.heap.size 3 i0 (.int .i64 0) 1 8 Try.underlying32 hi hz0 hz1 hz2 rfl (by decide) _ _ _ rfl (HO.out.alloc _) ⟨wr.heap.size, 0, none⟩ 1 1 [.int .i64 (q : Int)] rfl rfl (cell_one_new _ _ _) (one_intC _) (by unfold maxLen; omega) (by omega) (by rw [World.size_alloc]; omega) ?_; intro rv' w5 hown5 hgrow5 _)
        have hb5 : Below w2.heap.size wr w5 := ((Below.refl w2.heap.size wr).alloc hz _).grown hgrow5 (by rw [World.size_alloc]; omega) (fun b e => (HO.out.lt b e).1)
        have hz5 := hb5.size
        have HO5 : Hid (w5.ownsRow w2.heap.size 3 1 rv' (k + 1) ((ni (r.take (k + 1))).map (.int .i64))) := by
          show World.ownsRow _ _ _ _ _ _ _
          rw [HT.out, List.map_append]
          exact hown5
        have HW5 := hide (HW.out.trans hb5)
        clear hown5 hgrow5 hb5
        go_roundw
        case rel => exact ⟨k + 1, by omega, by go_num, HO5, HW5, by omega⟩
        case measure => simp [Go.RowKit.intOf]; omega
      · have hkm : k = m := by omega
        subst hkm
        have hIV : IntsV w2.heap.size wr u6 (ni r) := by
          have := HO.out
          rw [List.take_of_length_le (by rw [HM.out]; exact Nat.le_refl _)] at this
          exact IntsV.of_owns (e := 3) (n := k) this
        have C6 := hide (C3.out _ wr _ hIV)
        have HBR := hide (HB2.out.trans (HW.out.mono HB2.out.size))
        clear hIV C3
        go_wp2_with fail
        refine C6.out.mono ?_
        rintro e w3 ⟨rfl, hc3, hb3⟩
        have C7 := hide (C4.out wr.heap.size w3 hc3)
        have hB3 := HBR.out.trans (hb3.mono HBR.out.size)
        have hz3' := hB3.size
        have HB3 := hide hB3
        clear hc3 hb3 hB3 C4 C6
        go_wp2_with fail
        refine C7.out.mono ?_
        rintro e w4 ⟨v4, ks, rfl, hks, hiv, hb4⟩
        rw [down_all HP.out hks] at hiv
        have HI4 := hide (hiv.mono hz3')
        have HB4 := hide (HB3.out.trans (hb4.mono hz3'))
        clear hks hiv hb4 C7
        go_wp2_with fail
        go_ret2
        exact ⟨_, rfl, HI4.out, HB4.out⟩
end Go.Proofs.Ytkdhifofdghbbaa

/- THE WALKS of the laws FnRotate, FnCircleShape. -/
namespace Go.Proofs.Ytkdhifofdghbbaa
open Go.RowKit

theorem cshL_len (s : ByteArray) : (cshL s).length ≤ maxLen := by
  have := cshL_len0 s
  unfold maxLen
  omega
theorem cshL_rot {s : ByteArray} {n : Int} (h : rtOk s n = true) : cshL (rtS s n) = cshL s := by
  unfold cshL
  rw [rtS_ci h, (rtOk_facts h).1, shape_rot_S h]
theorem cshL_turn {s : ByteArray} (h : ciIn s = true) : cshL (ctS s) = cshL s := by
  obtain ⟨f1, f2, _⟩ := ctS_facts h
  unfold cshL
  rw [h, f2, f1, cshB_turn (ciIn_facts h).2.2.2.2]
theorem rtS_size {s : ByteArray} {n : Int} (h : rtOk s n = true) : (rtS s n).size ≤ 60 := (ciIn_facts (rtS_ci h)).2.2.2.1

set_option maxHeartbeats 2000000 in
theorem walkFnRotate {w : World} (a : Option Addr) (len cap : Nat) (z : List Int) (hr : IsRow .u8 w a len cap z) :
    Calls Try.prog 6 #[.slice a len cap] w fun e w' => e = .returned (.bool true) ∧ Below w.heap.size w w' := by
  have hcap := hr.le
  have hmax := hr.max
  unfold maxLen at hmax
  by_cases hbig : 1048576 < len
  · go_enter Try.func6, Try.ntmps6
    go_wp2
    go_ret
    exact ⟨rfl, Below.refl _ _⟩
  · have D := hide (DrawCircleRotate_any a len cap z w (by omega) hcap hr.bytes)
    clear hr
    go_enter Try.func6, Try.ntmps6
    go_wp2_with fail
    refine D.out.mono ?_
    rintro e w1 ⟨s, n, rfl, hs, n0, n1, hb1⟩
    have hs' : s.size ≤ maxLen := by unfold maxLen; omega
    have C1 := hide (fun w => implCircleRotate_any s n w hs')
    have C0 := hide (fun w => specCircleRotate_any s n w hs')
    have HB1 := hide hb1
    clear hb1
    obtain ⟨t, ht⟩ : ∃ t, t = rtS s n := ⟨_, rfl⟩
    rw [← ht] at C0 C1
    have q1 : (t.toList == t.toList) = true := by simp
    have q2 : (t.toList != t.toList) = false := by simp
    cases hv : rtOk s n
    · rw [hv] at C0 C1
      clear hv ht
      go_wp2_with fail
      refine (C1.out _).mono ?_
      rintro e w2 ⟨rfl, hb2⟩
      have HB2 := hide (HB1.out.trans (hb2.mono HB1.out.size))
      clear hb2
      go_wp2_with fail
      refine (C0.out _).mono ?_
      rintro e w3 ⟨rfl, hq3⟩
      have HB3 := hide (HB2.out.trans (hq3.2 _))
      clear hq3
      go_wp2_with fail
      go_ret
      exact ⟨rfl, HB3.out⟩
    · obtain ⟨hci, _⟩ := rtOk_facts hv
      obtain ⟨f1, f2, f3, _⟩ := ctS_facts hci
      have h60 := (ciIn_facts hci).2.2.2.1
      have hts := rtS_size hv
      have CX := hide (fun w => implCircleTurn_any (rtS s n) w (by unfold maxLen; omega))
      rw [rtS_ci hv, turn_rot_S hv, ← ht] at CX
      have CT := hide (fun w => implCircleTurn_any s w hs')
      rw [hci] at CT
      have CY := hide (fun w => implCircleRotate_any (ctS s) n w (by rw [f3]; unfold maxLen; omega))
      rw [rtOk_turn hv] at CY
      have CA := hide (fun w => implCircleShape_any s w hs')
      rw [hci] at CA
      have CB := hide (fun w => implCircleShape_any (rtS s n) w (by unfold maxLen; omega))
      rw [rtS_ci hv, cshL_rot hv, ← ht] at CB
      have HL := hide (cshL_len s)
      obtain ⟨l, hl⟩ : ∃ l, l = cshL s := ⟨_, rfl⟩
      rw [← hl] at CA CB HL
      obtain ⟨u, hu⟩ : ∃ u, u = ctS s := ⟨_, rfl⟩
      rw [← hu] at CT CY CX
      obtain ⟨y, hy⟩ : ∃ y, y = rtS u n := ⟨_, rfl⟩
      rw [← hy] at CX CY
      have q3 : (y.toList == y.toList) = true := by simp
      rw [hv] at C0 C1
      clear hv ht hci f1 f2 f3 hl hu hy
      go_wp2_with fail
      refine (C1.out _).mono ?_
      rintro e w2 ⟨rfl, hb2⟩
      have HB2 := hide (HB1.out.trans (hb2.mono HB1.out.size))
      clear hb2
      go_wp2_with fail
      refine (C0.out _).mono ?_
      rintro e w3 ⟨rfl, hq3⟩
      have HB3 := hide (HB2.out.trans (hq3.2 _))
      clear hq3
      go_wp2_with fail
      refine (CX.out _).mono ?_
      rintro e w4 ⟨rfl, hb4⟩
      have HB4 := hide (HB3.out.trans (hb4.mono HB3.out.size))
      clear hb4
      go_wp2_with fail
      refine (CT.out _).mono ?_
      rintro e w5 ⟨rfl, hb5⟩
      have HB5 := hide (HB4.out.trans (hb5.mono HB4.out.size))
      clear hb5
      go_wp2_with fail
      refine (CY.out _).mono ?_
      rintro e w6 ⟨rfl, hb6⟩
      have HB6 := hide (HB5.out.trans (hb6.mono HB5.out.size))
      clear hb6
      go_wp2_with fail
      refine (CA.out _).mono ?_
      rintro e w7 ⟨va, rfl, ia, hb7⟩
      have HB7 := hide (HB6.out.trans (hb7.mono HB6.out.size))
      have HIA := hide ia
      clear hb7 ia
      go_wp2_with fail
      refine (CB.out _).mono ?_
      rintro e w8 ⟨vb, rfl, ib, hb8⟩
      have HB8 := hide (HB7.out.trans (hb8.mono HB7.out.size))
      have HIA2 := hide (HIA.out.below hb8 (Nat.le_refl _))
      have HIB := hide ib
      clear hb8 ib
      go_wp2_with fail
      refine (sameInts_same HL.out HIA2.out HIB.out).mono ?_
      rintro e w9 ⟨rfl, hq9⟩
      have HB9 := hide (HB8.out.trans (hq9.2 _))
      clear hq9
      go_wp2_with fail
      go_ret
      exact ⟨rfl, HB9.out⟩

theorem sumI_next {l : List Int} {k : Nat} {x : Int} (h : l[k]? = some x) : (l.take (k + 1)).sum = (l.take k).sum + x := by
  obtain ⟨hk, e⟩ := List.getElem?_eq_some_iff.1 h
  rw [List.take_succ_eq_append_getElem hk, List.sum_append, e]
  simp
/-- partial sums of a shape are bounded -/
theorem cshL_sum {s : ByteArray} (h : ciIn s = true) : (cshL s).sum = (nballs (bits s) : Int) ∧ (∀ k, 0 ≤ ((cshL s).take k).sum ∧ ((cshL s).take k).sum ≤ 60) ∧ ∀ x ∈ cshL s, 0 ≤ x ∧ x ≤ 60 := by
  obtain ⟨_, _, _, h60, hd⟩ := ciIn_facts h
  have h1 : (cshB (bits s)).sum = nballs (bits s) := cshape_sum hd
  have h2 := ci_few h
  have e : cshL s = (cshB (bits s)).map fun n : Nat => (n : Int) := by unfold cshL; rw [h]; rfl
  have hsum : ∀ l : List Nat, (l.map fun n : Nat => (n : Int)).sum = (l.sum : Int) := by
    intro l
    induction l with
    | nil => rfl
    | cons x l ih => rw [List.map_cons, List.sum_cons, List.sum_cons, ih]; omega
  have htake : ∀ (l : List Nat) (k : Nat), (l.take k).sum ≤ l.sum := by
    intro l k
    have := congrArg List.sum (List.take_append_drop k l)
    rw [List.sum_append] at this
    omega
  rw [e]
  refine ⟨by rw [hsum, h1], ?_, ?_⟩
  · intro k
    rw [← List.map_take, hsum]
    have := htake (cshB (bits s)) k
    omega
  · intro x hx
    obtain ⟨y, hy, rfl⟩ := List.mem_map.1 hx
    have := le_sum hy
    omega

set_option maxHeartbeats 2000000 in
theorem walkFnCircleShape {w : World} (a : Option Addr) (len cap : Nat) (z : List Int) (hr : IsRow .u8 w a len cap z) :
    Calls Try.prog 7 #[.slice a len cap] w fun e w' => e = .returned (.bool true) ∧ Below w.heap.size w w' := by
  have hcap := hr.le
  have hmax := hr.max
  unfold maxLen at hmax
  by_cases hbig : 1048576 < len
  · go_enter Try.func7, Try.ntmps7
    go_wp2
    go_ret
    exact ⟨rfl, Below.refl _ _⟩
  · have D := hide (DrawCircleShape_any a len cap z w (by omega) hcap hr.bytes)
    clear hr
    go_enter Try.func7, Try.ntmps7
    go_wp2_with fail
    refine D.out.mono ?_
    rintro e w1 ⟨s, rfl, hs, hb1⟩
    have hs' : s.size ≤ maxLen := by unfold maxLen; omega
    have C1 := hide (fun w => implCircleShape_any s w hs')
    have C0 := hide (fun w => specCircleShape_any s w hs')
    have HL := hide (cshL_len s)
    have HB1 := hide hb1
    clear hb1
    cases hv : ciIn s
    · rw [hv] at C0 C1
      obtain ⟨l, hl⟩ : ∃ l, l = cshL s := ⟨_, rfl⟩
      rw [← hl] at C0 C1 HL
      clear hv hl
      go_wp2_with fail
      refine (C1.out _).mono ?_
      rintro e w2 ⟨v2, rfl, hi2, hb2⟩
      have HB2 := hide (HB1.out.trans (hb2.mono HB1.out.size))
      have HI2 := hide hi2
      clear hb2 hi2
      go_wp2_with fail
      refine (C0.out _).mono ?_
      rintro e w3 ⟨v3, rfl, hi3, hb3⟩
      have HB3 := hide (HB2.out.trans (hb3.mono HB2.out.size))
      have HI2' := hide (HI2.out.below hb3 (Nat.le_refl _))
      have HI3 := hide hi3
      clear hb3 hi3
      go_wp2_with fail
      refine (sameInts_same HL.out HI2'.out HI3.out).mono ?_
      rintro e w4 ⟨rfl, q4⟩
      have HB4 := hide (HB3.out.trans (q4.2 _))
      have HI2'' := hide (q4.ints HI2'.out)
      have HI3'' := hide (q4.ints HI3.out)
      clear q4
      go_wp2_with fail
      refine (sameInts_same HL.out HI2''.out HI3''.out).mono ?_
      rintro e w5 ⟨rfl, q5⟩
      have HB5 := hide (HB4.out.trans (q5.2 _))
      clear q5
      go_wp2_with fail
      go_ret
      exact ⟨rfl, HB5.out⟩
    · obtain ⟨f1, f2, f3, _⟩ := ctS_facts hv
      have h60 := (ciIn_facts hv).2.2.2.1
      have CT := hide (fun w => implCircleTurn_any s w hs')
      have CX := hide (fun w => implCircleShape_any (ctS s) w (by rw [f3]; unfold maxLen; omega))
      rw [cshL_turn hv, f2] at CX
      have BA := hide (fun w => balls_at (ciIn_facts hv).1 hs' w)
      obtain ⟨s1, s2, s3⟩ := cshL_sum hv
      rw [← s1] at BA
      rw [hv] at C0 C1 CT
      obtain ⟨l, hl⟩ : ∃ l, l = cshL s := ⟨_, rfl⟩
      rw [← hl] at C0 C1 HL CX BA s2 s3
      have HS2 := hide s2
      have HS3 := hide s3
      obtain ⟨t, ht⟩ : ∃ t, t = ctS s := ⟨_, rfl⟩
      rw [← ht] at CT CX
      clear hv f1 f2 f3 hl ht s1 s2 s3
      go_wp2_with fail
      refine (C1.out _).mono ?_
      rintro e w2 ⟨v2, rfl, hi2, hb2⟩
      have HB2 := hide (HB1.out.trans (hb2.mono HB1.out.size))
      have HI2 := hide hi2
      clear hb2 hi2
      go_wp2_with fail
      refine (C0.out _).mono ?_
      rintro e w3 ⟨v3, rfl, hi3, hb3⟩
      have HB3 := hide (HB2.out.trans (hb3.mono HB2.out.size))
      have HI2' := hide (HI2.out.below hb3 (Nat.le_refl _))
      have HI3 := hide hi3
      clear hb3 hi3
      go_wp2_with fail
      refine (sameInts_same HL.out HI2'.out HI3.out).mono ?_
      rintro e w4 ⟨rfl, q4⟩
      have HB4 := hide (HB3.out.trans (q4.2 _))
      have HI2'' := hide (q4.ints HI2'.out)
      clear q4
      obtain ⟨av, cv, hform⟩ : ∃ av cv, v2 = .slice av l.length cv := by
        rcases HI2''.out with ⟨a, c, h1, h2⟩ | ⟨g, c, h1, _⟩
        · exact ⟨a, c, by rw [h1, h2]; rfl⟩
        · exact ⟨_, c, h1⟩
      subst hform
      obtain ⟨N, hN⟩ : ∃ N, N = l.length := ⟨_, rfl⟩
      have HNN := hide hN
      have hNm : N ≤ maxLen := by rw [hN]; exact HL.out
      unfold maxLen at hNm
      rw [← hN]
      clear hN
      go_wp2_with fail
      go_loop [8, 9] (fun nv' iv => ∃ k : Nat, k ≤ N ∧ iv = .int .i64 (k : Int) ∧ nv' = .int .i64 ((l.take k).sum)) (fun _ iv => N - (Go.RowKit.intOf iv).toNat)
      case atStart => exact ⟨0, Nat.zero_le _, rfl, rfl⟩
      case round =>
        obtain ⟨k, hk, rfl, rfl⟩ := hrel
        by_cases hlt : k < N
        · have hi := HI2''.out
          obtain ⟨x, hx⟩ : ∃ x, l[k]? = some x := ⟨_, List.getElem?_eq_getElem (by rw [← HNN.out]; exact hlt)⟩
          rcases hi with ⟨_, _, _, h0⟩ | ⟨g, c, h1, h2, h3, h4, h5⟩
          · rw [h0] at hx; simp at hx
          · injection h1 with h1 _ h6
            subst h1
            have c1 := (h5 k (.int .i64 x) (by rw [List.getElem?_map, hx]; rfl)).1
            have b1 := HS2.out k
            have b2 := HS3.out x (List.mem_of_getElem? hx)
            have HSN := hide (sumI_next hx)
            obtain ⟨m, hm⟩ : ∃ m, m = (l.take k).sum := ⟨_, rfl⟩
            rw [← hm] at b1 HSN ⊢
            have n0 : (0 : Int) ≤ (k : Int) := by omega
            have n1 : (k : Int) < (N : Int) := by omega
            have w1 : IntKind.i64.wrap (m + x) = m + x := by rw [IntKind.wrap_i64]; omega
            clear h2 h3 h4 h5 hx hm h6 b1 b2
            go_wp2
            go_round
            case rel => exact ⟨k + 1, by omega, by go_num, by rw [HSN.out]⟩
            case measure => simp [Go.RowKit.intOf]; omega
        · have hfull : l.take k = l := List.take_of_length_le (by rw [← HNN.out]; omega)
          rw [hfull]
          obtain ⟨m, hm⟩ : ∃ m, m = l.sum := ⟨_, rfl⟩
          rw [← hm] at BA ⊢
          have q3 : (m == m) = true := by simp
          clear hfull hm
          go_wp2_with fail
          refine (CT.out _).mono ?_
          rintro e w5 ⟨rfl, hb5⟩
          have HB5 := hide (HB4.out.trans (hb5.mono HB4.out.size))
          have HI5 := hide (HI2''.out.below hb5 (Nat.le_refl _))
          clear hb5
          go_wp2_with fail
          refine (CX.out _).mono ?_
          rintro e w6 ⟨vx, rfl, ix, hb6⟩
          have HB6 := hide (HB5.out.trans (hb6.mono HB5.out.size))
          have HI6 := hide (HI5.out.below hb6 (Nat.le_refl _))
          have HIX := hide ix
          clear hb6 ix
          rw [← HNN.out] at HI6
          go_wp2_with fail
          refine (sameInts_same HL.out HIX.out HI6.out).mono ?_
          rintro e w7 ⟨rfl, q7⟩
          have HB7 := hide (HB6.out.trans (q7.2 _))
          clear q7
          go_wp2_with fail
          refine (BA.out _).mono ?_
          rintro e w8 ⟨rfl, hb8⟩
          have HB8 := hide (HB7.out.trans (hb8.mono HB7.out.size))
          clear hb8
          go_wp2_with fail
          go_ret
          exact ⟨rfl, HB8.out⟩
end Go.Proofs.Ytkdhifofdghbbaa

/- MOVES OF ONE COLOUR ALONE ARE THE STEP OF CHAPTER 2. Pure: no walk. -/
namespace Go.Proofs.Ytkdhifofdghbbaa
open Go.RowKit

/-- its own carrier is that of chapter 2, with room enough -/
theorem cMv_own {c : UInt8} (hc : c ≠ 48) (f : Nat → Bool) : ∀ n : Nat, n ≤ 300 → (∀ i, i ≤ n → ld 200 f i < 200) → cMv c (chC c ((List.range n).map f)) 0 = chC c (stpU 200 f n) ∧ cLd c (chC c ((List.range n).map f)) 0 = ld 200 f n
  | 0, _, _ => ⟨rfl, rfl⟩
  | n + 1, hn, h => by
    obtain ⟨h1, h2⟩ := cMv_own hc f n (by omega) (fun i hi => h i (by omega))
    have hl := h n (by omega)
    have e : chC c ((List.range (n + 1)).map f) = chC c ((List.range n).map f) ++ [if f n then c else 48] := by
      unfold chC
      rw [List.range_succ, List.map_append, List.map_append]
      rfl
    rw [e, cMv_append, cLd_append, h1, h2, stpU_succ, ld_succ]
    have eg : cg c (if f n then c else 48) (ld 200 f n) = (if tr 200 f n then c else 48, nx 200 (f n) (ld 200 f n)) := by
      unfold cg tr ot nx
      have h0 : ¬ (48 : UInt8) = c := fun h => hc h.symm
      cases f n
      · by_cases hu : 0 < ld 200 f n
        · simp [h0, hu]
        · have : ld 200 f n = 0 := by omega
          simp [h0, this]
      · simp [hl]
    refine ⟨?_, ?_⟩
    · show chC c (stpU 200 f n) ++ [(cg c _ _).1] = _
      rw [eg]
      unfold chC
      rw [List.map_append]
      rfl
    · show (cg c _ _).2 = _
      rw [eg]
theorem range_bx (b : List Bool) (m : Nat) (hm : b.length ≤ m) : (List.range m).map (bx b) = b ++ List.replicate (m - b.length) false := by
  refine List.ext_getElem? fun j => ?_
  rw [List.getElem?_map]
  by_cases hj : j < m
  · rw [List.getElem?_range hj]
    by_cases hb : j < b.length
    · rw [List.getElem?_append_left hb]
      show some (bx b j) = _
      unfold bx
      rw [List.getElem?_eq_getElem hb]
      rfl
    · rw [List.getElem?_append_right (by omega), List.getElem?_replicate, if_pos (by omega)]
      show some (bx b j) = _
      rw [bx_out b j (by omega)]
  · rw [List.getElem?_eq_none_iff.2 (by rw [List.length_range]; omega), List.getElem?_eq_none_iff.2 (by rw [List.length_append, List.length_replicate]; omega)]
    rfl
theorem padN_chC (c : UInt8) (b : List Bool) : padN (chC c b) = chC c ((List.range (2 * b.length + 1)).map (bx b)) := by
  rw [range_bx b _ (by omega)]
  unfold padN chC
  rw [List.map_append, List.map_replicate, List.length_map, show 2 * b.length + 1 - b.length = b.length + 1 by omega]
  simp
theorem ld_small {b : List Bool} (h : b.length ≤ 120) (i : Nat) : ld 200 (bx b) i < 200 := by
  have h1 := ld_le_cn 200 (bx b) i
  have h2 : cn (bx b) i ≤ b.length := by
    by_cases hi : i ≤ b.length
    · exact Nat.le_trans (cn_le (bx b) i) hi
    · obtain ⟨j, rfl⟩ : ∃ j, i = b.length + j := ⟨i - b.length, by omega⟩
      rw [cn_tail (fun k hk => bx_out b k hk)]
      exact cn_le (bx b) b.length
  omega
theorem mv_own {c : UInt8} (hc : c ≠ 48) (b : List Bool) (h : b.length ≤ 120) : mv1 c (chC c b) = chC c (cut (stp 200 b)) := by
  unfold mv1
  rw [padN_chC, (cMv_own hc (bx b) (2 * b.length + 1) (by omega) (fun i _ => ld_small h i)).1, cz_chC hc]
  congr 1
  apply cut_ext
  intro i
  have hf := fin_le 200 b
  rw [bx_stp]
  by_cases hi : i < 2 * b.length + 1
  · exact bx_some _ i _ (by unfold stpU; rw [List.getElem?_map, List.getElem?_range hi]; rfl)
  · rw [bx_out _ i (by rw [stpU_length]; omega)]
    have := tr_end (K := 200) (f := bx b) (n := b.length) (fun k hk => bx_out b k hk) i (by omega)
    exact this.symm
/-- P40: one colour alone -/
theorem one_colour {c : UInt8} (hc : c = 49 ∨ c = 51) {b : List Bool} (h : b.length ≤ 120) (hl : tl (stp 200 b) ≤ 120) : stepL (chC c b) = some (chC c (cut (stp 200 b))) := by
  obtain ⟨r, hr⟩ : ∃ r, r = cut (stp 200 b) := ⟨_, rfl⟩
  have hrl : (chC c r).length ≤ 120 := by rw [chC_length, hr, cut_length]; exact hl
  have hcr : cut r = r := by rw [hr, cut_cut]
  rw [← hr]
  rcases hc with rfl | rfl
  · have e1 : mv1 49 (chC 49 b) = chC 49 r := by rw [mv_own n49 b h, hr]
    have e2 : mv1 50 (chC 49 r) = chC 49 r := by rw [mv_by (by decide) n50, cz_chC n49, hcr]
    have e3 : mv1 51 (chC 49 r) = chC 49 r := by rw [mv_by (by decide) n51, cz_chC n49, hcr]
    exact (bind_of (mvO_ok e1 hrl)).trans ((bind_of (mvO_ok e2 hrl)).trans (mvO_ok e3 hrl))
  · have hb : (cut b).length ≤ 120 := by rw [cut_length]; exact Nat.le_trans (tl_le b) h
    have hbl : (chC 51 (cut b)).length ≤ 120 := by rw [chC_length]; exact hb
    have hst : cut (stp 200 (cut b)) = cut (stp 200 b) := cut_ext (fun i => by rw [bx_stp, bx_stp, bx_fun_cut])
    have e1 : mv1 49 (chC 51 b) = chC 51 (cut b) := by rw [mv_by (by decide) n49, cz_chC n51]
    have e2 : mv1 50 (chC 51 (cut b)) = chC 51 (cut b) := by rw [mv_by (by decide) n50, cz_chC n51, cut_cut]
    have e3 : mv1 51 (chC 51 (cut b)) = chC 51 r := by rw [mv_own n51 _ hb, hst, hr]
    exact (bind_of (mvO_ok e1 hbl)).trans ((bind_of (mvO_ok e2 hbl)).trans (mvO_ok e3 hrl))
end Go.Proofs.Ytkdhifofdghbbaa

/- CIRCLES. Pure: no walk. On a long circle a turn is a step. -/
namespace Go.Proofs.Ytkdhifofdghbbaa
open Go.RowKit

theorem tn_own (f : Nat → Bool) : ∀ n : Nat, (∀ i, i ≤ n → ld 200 f i < 200) → tn 0 ((List.range n).map f) = stpU 200 f n ∧ lend 0 ((List.range n).map f) = ld 200 f n
  | 0, _ => ⟨rfl, rfl⟩
  | n + 1, h => by
    obtain ⟨h1, h2⟩ := tn_own f n (fun i hi => h i (by omega))
    have hl := h n (by omega)
    have e : (List.range (n + 1)).map f = (List.range n).map f ++ [f n] := by
      rw [List.range_succ, List.map_append]
      rfl
    rw [e, tn_app, lend_app, h1, h2, stpU_succ, ld_succ]
    refine ⟨?_, ?_⟩
    · congr 1
      show [!(f n) && decide (0 < ld 200 f n)] = [tr 200 f n]
      unfold tr ot
      cases f n
      · by_cases hu : 0 < ld 200 f n
        · simp [hu]
        · have : ld 200 f n = 0 := by omega
          simp [this]
      · simp [hl]
    · show lstp (ld 200 f n) (f n) = _
      unfold lstp nx
      cases f n
      · simp
      · simp [hl]
/-- P49 -/
theorem cturn_long {b : List Bool} (h : b.length ≤ 120) (m : Nat) (hm : 2 * b.length ≤ m) :
    cturn (b ++ List.replicate (m - b.length) false) = stpU 200 (bx b) m ∧ cut (stpU 200 (bx b) m) = cut (stp 200 b) := by
  have hr := range_bx b m (by omega)
  obtain ⟨h1, h2⟩ := tn_own (bx b) m (fun i _ => ld_small h i)
  have he : ld 200 (bx b) m = 0 := ld_end (fun i hi => bx_out b i hi) m hm
  refine ⟨?_, ?_⟩
  · unfold cturn
    rw [← hr, h2, he, h1]
  · apply cut_ext
    intro i
    rw [bx_stp]
    by_cases hi : i < m
    · exact bx_some _ i _ (by unfold stpU; rw [List.getElem?_map, List.getElem?_range hi]; rfl)
    · rw [bx_out _ i (by rw [stpU_length]; omega)]
      exact (tr_end (K := 200) (f := bx b) (n := b.length) (fun k hk => bx_out b k hk) i (by omega)).symm
theorem drf_long (b : List Bool) : drf (b ++ List.replicate (2 * b.length + 1) false) < 0 := by
  rw [drf_balls]
  have h := nballs_le b b.length
  rw [List.take_of_length_le (Nat.le_refl _)] at h
  have e : nballs (b ++ List.replicate (2 * b.length + 1) false) = nballs b := by
    unfold nballs
    rw [List.count_append, List.count_replicate]
    simp
  rw [e, List.length_append, List.length_replicate]
  omega
end Go.Proofs.Ytkdhifofdghbbaa
