/- TEXTS ITurn, IRev, ICir0. -/
import Derived.Test.Ytkdhifofdghbbaarot19
import Derived.Test.Ytkdhifofdghbbaarot17
import Derived.RegionTactic
import Derived.BigRegion
import Derived.Test.Ytkdhifofdghbbaarot18
import Derived.Test.Ytkdhifofdghbbaarot12
/- THE WALK of turn: all pairs are exchanged. -/
namespace Go.Proofs.Ytkdhifofdghbbaa
open Go.RowKit

theorem exr_take {sg : List Bool} {Q : List (List (Nat × Nat))} {k : Nat} {ps : List (Nat × Nat)} (h : Q[k]? = some ps) : exr sg (Q.take (k + 1)) = exa (exr sg (Q.take k)) ps := by
  obtain ⟨hk, he⟩ := List.getElem?_eq_some_iff.1 h
  rw [List.take_succ_eq_append_getElem hk, exr_snoc, he]
theorem exa_take {sg : List Bool} {ps : List (Nat × Nat)} {j : Nat} {p : Nat × Nat} (h : ps[j]? = some p) : exa sg (ps.take (j + 1)) = exc (exa sg (ps.take j)) p := by
  obtain ⟨hk, he⟩ := List.getElem?_eq_some_iff.1 h
  rw [List.take_succ_eq_append_getElem hk, exa_snoc, he]

theorem rowK_len {w : World} {B e n s : Nat} {v : Value} {xs : List Value} (h : w.ownsRow B e s v n xs) : n ≤ 9223372036854775807 := by
  rcases h.2 with ⟨_, h0⟩ | ⟨g, cap, cur, _, _, _, h1, h2, _⟩
  · omega
  · unfold maxLen at h2
    omega

set_option maxRecDepth 100000 in
set_option maxHeartbeats 4000000 in
theorem turn_any (B n cap : Nat) (sg : List Bool) (A0 H0 : Nat → Option Addr) (w : World) (hn : 0 < n) (hm : n ≤ 60) (hB : B < w.heap.size) (h : BX w B n sg A0 H0) (hd : drf sg < 0) :
    Calls Try.prog 43 #[.slice (some ⟨B, 0, none⟩) n cap] w fun o w' => o = .returned (.tuple #[]) ∧ (∃ A H, BX w' B n (cturn sg) A H) ∧ Below B w w' := by
  have CP := hide (pairs_any B n cap sg A0 H0 w hn hm hB h hd)
  clear h hd
  go_enter Try.func43, Try.ntmps43
  go_wp2_with fail
  refine CP.out.mono ?_
  rintro e w1 ⟨v, Q, A, H, rfl, hx, ⟨vs, hv1, hv2⟩, hex, _, hq, hql, hb⟩
  obtain ⟨a, c, rfl, hag⟩ := rowK_slice hv1
  obtain ⟨m, hm2⟩ : ∃ m, m = Q.length := ⟨_, rfl⟩
  rw [← hm2] at hv1 hql hag ⊢
  have HM := hide hm2
  have HX0 := hide hx
  have HV1 := hide hv1
  have HV2 := hide hv2
  have HEX := hide hex
  have HQ := hide hq
  have HB := hide hb
  have hsz := hb.size
  clear hm2 hx hv1 hv2 hex hq hb CP
  go_wp2_with fail
  go_loopw [3, 5, 9] (fun _ _ i wr => ∃ k : Nat, k ≤ m ∧ i = .int .i64 (k : Int) ∧ Hid (BX wr B n (exr sg (Q.take k)) A H) ∧ Hid (Ex B w1 wr)) (fun _ _ i _ => m - (Go.RowKit.intOf i).toNat)
  case atStart => exact ⟨0, Nat.zero_le _, rfl, by rw [List.take_zero]; exact HX0.out, Ex.refl _ _⟩
  case round =>
    obtain ⟨k, hk, rfl, HX, HE⟩ := hrel
    obtain ⟨W1, rfl⟩ : ∃ W, W = wr := ⟨wr, rfl⟩
    by_cases hlt : k < m
    · obtain ⟨g, rfl⟩ := hag (by omega)
      obtain ⟨ps, hps⟩ : ∃ ps, Q[k]? = some ps := ⟨_, List.getElem?_eq_getElem (by rw [← HM.out]; exact hlt)⟩
      have hvl : vs.length = m := by have := HV1.out.1; omega
      obtain ⟨x, hx⟩ : ∃ x, vs[k]? = some x := ⟨_, List.getElem?_eq_getElem (by rw [hvl]; exact hlt)⟩
      have hrow := HV2.out k x ps hx hps
      have hgl := (HV1.out.lt g rfl)
      have c1 := ((HE.out.cells (by omega) hgl.2 (rowK_cells HV1.out)) k x hx).1
      obtain ⟨ax, cx, rfl, haxg⟩ := rowK_slice hrow
      have hpl := rowK_len hrow
      have HQP := hide (HQ.out ps (List.mem_of_getElem? hps))
      have HTK := hide (exr_take (sg := sg) hps)
      obtain ⟨q, hq⟩ : ∃ q, q = ps.length := ⟨_, rfl⟩
      rw [← hq] at hrow haxg hpl c1
      have HROW := hide hrow
      have HQL := hide hq
      have i1' : (0 : Int) ≤ (k : Int) := by omega
      have i2' : (k : Int) < (m : Int) := by omega
      have HBW : Hid (B < W1.heap.size) := by have := HE.out.size; show B < _; omega
      clear hx hps hrow hq hvl
      go_wp2_with fail
      go_loopw [5, 15] (fun _ i wr => ∃ j : Nat, j ≤ q ∧ i = .int .i64 (j : Int) ∧ Hid (BX wr B n (exa (exr sg (Q.take k)) (ps.take j)) A H) ∧ Hid (Ex B w1 wr)) (fun _ i _ => q - (Go.RowKit.intOf i).toNat)
      case atStart => exact ⟨0, Nat.zero_le _, rfl, by rw [List.take_zero]; exact HX.out, HE⟩
      case round =>
        obtain ⟨j, hj, rfl, HY, HF⟩ := hrel
        by_cases hlt2 : j < q
        · obtain ⟨gx, rfl⟩ := haxg (by omega)
          obtain ⟨⟨b, e⟩, hp⟩ : ∃ p, ps[j]? = some p := ⟨_, List.getElem?_eq_getElem (by rw [← HQL.out]; exact hlt2)⟩
          obtain ⟨p1, p2, p3⟩ := HQP.out (b, e) (List.mem_of_getElem? hp)
          have hxl := HROW.out.lt gx rfl
          have hcs := HF.out.cells (by omega) hxl.2 (rowK_cells HROW.out)
          have a1 := (hcs (j * 2) _ (pcs_get B _ j _ hp).1).1
          have a2 := (hcs (j * 2 + 1) _ (pcs_get B _ j _ hp).2).1
          have HTJ := hide (exa_take (sg := exr sg (Q.take k)) hp)
          have hBw : B < wr.heap.size := by have := HF.out.size; omega
          have HY2 := hide (HY.out.alloc hBw (.cells #[pt B b, pt B e] 80))
          have HF2 := hide (HF.out.alloc (.cells #[pt B b, pt B e] 80))
          have T1 := hide (fun (W : World) (hW : BX W B n (exa (exr sg (Q.take k)) (ps.take j)) A H) (hz : B < W.heap.size) => exchange_any B n b e _ A H W hW p1 p2 p3 hz)
          have i1' : (0 : Int) ≤ (j : Int) := by omega
          have i2' : (j : Int) < (q : Int) := by omega
          simp only at a1 a2
          unfold pt at a1 a2 HY2 HF2
          clear p1 p2 p3 hp hcs
          go_wp2_with fail
          refine (T1.out _ HY2.out (by rw [World.size_alloc]; omega)).mono ?_
          rintro o w6 ⟨rfl, h6, x6⟩
          have HY6 : Hid (BX w6 B n (exa (exr sg (Q.take k)) (ps.take (j + 1))) A H) := by show BX _ _ _ _ _ _; rw [HTJ.out]; exact h6
          have HF6 := hide (HF2.out.trans x6)
          clear h6 x6 T1
          go_wp2_with fail
          go_roundw
          case rel => exact ⟨j + 1, by omega, by go_num, HY6, HF6⟩
          case measure => simp [Go.RowKit.intOf]; omega
        · have hjq : j = q := by omega
          subst hjq
          have HY2 : Hid (BX wr B n (exr sg (Q.take (k + 1))) A H) := by
            have := HY.out
            have htk : ps.take j = ps := List.take_of_length_le (by rw [HQL.out]; exact Nat.le_refl _)
            rw [htk, ← HTK.out] at this
            exact this
          go_wp2_with fail
          exact ⟨⟨k + 1, by omega, by go_num, HY2, HF⟩, by simp [Go.RowKit.intOf]; omega⟩
    · have hkm : k = m := by omega
      subst hkm
      have HF : Hid (BX W1 B n (cturn sg) A H) := by
        have := HX.out
        rw [List.take_of_length_le (by rw [HM.out]; exact Nat.le_refl _), HEX.out] at this
        exact this
      have HBF := hide (HB.out.trans (HE.out.below (Nat.le_refl _) (by omega)))
      go_wp2_with fail
      go_end0
      exact ⟨rfl, ⟨_, _, HF.out⟩, HBF.out⟩
end Go.Proofs.Ytkdhifofdghbbaa

/- THE WALK of slices.Reverse at boxes. -/
namespace Go.Proofs.Ytkdhifofdghbbaa
open Go.RowKit

/-- the first k and the last k boxes have been exchanged -/
def TurnedB (l xs : List Bool) (k : Nat) : Prop := xs.length = l.length ∧ ∀ j, j < l.length → xs[j]? = if j < k ∨ l.length - 1 - j < k then l[l.length - 1 - j]? else l[j]?
theorem TurnedB.start (l : List Bool) : TurnedB l l 0 := ⟨rfl, fun j _ => by simp⟩
theorem TurnedB.step {l xs : List Bool} {k m : Nat} (h : TurnedB l xs k) (hk : k < m) (hm : k + m + 1 = l.length) (x y : Bool) (hx : l[k]? = some x) (hy : l[m]? = some y) : TurnedB l ((xs.set k y).set m x) (k + 1) := by
  refine ⟨by simp [h.1], ?_⟩
  intro j hj
  have hl := h.1
  rw [List.getElem?_set, List.getElem?_set]
  by_cases e1 : m = j
  · subst e1
    rw [if_pos rfl, if_pos (by simp; omega), if_pos (by omega), show l.length - 1 - m = k by omega, hx]
  · rw [if_neg e1]
    by_cases e2 : k = j
    · subst e2
      rw [if_pos rfl, if_pos (by omega), if_pos (by omega), show l.length - 1 - k = m by omega, hy]
    · rw [if_neg e2, h.2 j hj]
      by_cases c : j < k ∨ l.length - 1 - j < k
      · rw [if_pos c, if_pos (by omega)]
      · rw [if_neg c, if_neg (by omega)]
theorem TurnedB.stop {l xs : List Bool} {k m : Nat} (h : TurnedB l xs k) (hk : ¬ k < m) (hm : k + m + 1 = l.length) : xs = l.reverse := by
  apply List.ext_getElem?
  intro j
  by_cases hj : j < l.length
  · rw [h.2 j hj, List.getElem?_reverse hj]
    by_cases c : j < k ∨ l.length - 1 - j < k
    · rw [if_pos c]
    · rw [if_neg c, show l.length - 1 - j = j by omega]
  · rw [List.getElem?_eq_none_iff.2 (by rw [h.1]; omega), List.getElem?_eq_none_iff.2 (by simp; omega)]

set_option maxRecDepth 100000 in
set_option maxHeartbeats 4000000 in
theorem reverseB_any (B n cap : Nat) (sg : List Bool) (A0 H0 : Nat → Option Addr) (w : World) (hn : 0 < n) (hm : n ≤ 60) (h : BX w B n sg A0 H0) :
    Calls Try.prog 46 #[.slice (some ⟨B, 0, none⟩) n cap] w fun o w' => o = .returned (.tuple #[]) ∧ (∃ A H, BX w' B n sg.reverse A H) ∧ Ex B w w' := by
  have HX := hide h
  have HL := hide h.len
  clear h
  go_enter Try.func46, Try.ntmps46
  go_wp2
  go_loopw [2, 3] (fun i j wr => ∃ k m : Nat, i = .int .i64 (k : Int) ∧ j = .int .i64 (m : Int) ∧ Hid (k + m + 1 = n) ∧ Hid (Ex B w wr) ∧ ∃ (xs : List Bool) (A H : Nat → Option Addr), Hid (TurnedB sg xs k) ∧ Hid (BX wr B n xs A H)) (fun _ j _ => (Go.RowKit.intOf j).toNat)
  case atStart => exact ⟨0, n - 1, rfl, by congr 1; omega, by simp [Hid]; omega, Ex.refl _ _, sg, A0, H0, TurnedB.start sg, HX.out⟩
  case round =>
    obtain ⟨k, m, rfl, rfl, HN, HB, xs, A, H, HT, HY⟩ := hrel
    by_cases hlt : k < m
    · have hkm := HN.out
      obtain ⟨x, hx⟩ : ∃ x, sg[k]? = some x := ⟨_, List.getElem?_eq_getElem (by rw [HL.out]; omega)⟩
      obtain ⟨y, hy⟩ : ∃ y, sg[m]? = some y := ⟨_, List.getElem?_eq_getElem (by rw [HL.out]; omega)⟩
      have hxk : xs[k]? = some x := by rw [HT.out.2 k (by rw [HL.out]; omega), if_neg (by rw [HL.out]; omega)]; exact hx
      have hxm : xs[m]? = some y := by rw [HT.out.2 m (by rw [HL.out]; omega), if_neg (by rw [HL.out]; omega)]; exact hy
      have HS := hide (HT.out.step hlt (by rw [HL.out]; exact hkm) x y hx hy)
      obtain ⟨a0, f0⟩ := HY.out.s k x hxk
      obtain ⟨a1, f1⟩ := HY.out.a k (by omega)
      obtain ⟨a2, f2⟩ := HY.out.h k (by omega)
      obtain ⟨b0, g0⟩ := HY.out.s m y hxm
      obtain ⟨b1, g1⟩ := HY.out.a m (by omega)
      obtain ⟨b2, g2⟩ := HY.out.h m (by omega)
      obtain ⟨ak, hak⟩ : ∃ z, z = A k := ⟨_, rfl⟩
      obtain ⟨am, ham⟩ : ∃ z, z = A m := ⟨_, rfl⟩
      obtain ⟨hk', hhk⟩ : ∃ z, z = H k := ⟨_, rfl⟩
      obtain ⟨hm', hhm⟩ : ∃ z, z = H m := ⟨_, rfl⟩
      have hkn : k < n := by omega
      have hmn : m < n := by omega
      have HF := hide ((((((HY.out.setS hkn y).setA hkn am).setH hkn hm').setS hmn x).setA hmn ak).setH hmn hk')
      have HE := hide ((((((HB.out.setCell (k * 3) (.bool y)).setCell (k * 3 + 1) (.pointer am)).setCell (k * 3 + 2) (.pointer hm')).setCell (m * 3) (.bool x)).setCell (m * 3 + 1) (.pointer ak)).setCell (m * 3 + 2) (.pointer hk'))
      rw [← hak] at a1
      rw [← ham] at b1
      rw [← hhk] at a2
      rw [← hhm] at b2
      have HKM := hide hkm
      have i0 : (0 : Int) ≤ (k : Int) := by omega
      have i1 : (k : Int) < (n : Int) := by omega
      have i2 : (0 : Int) ≤ (m : Int) := by omega
      have i3 : (m : Int) < (n : Int) := by omega
      have i4 : ¬ k = m := by omega
      have i5 : ¬ m = k := by omega
      have n1 : ¬ k * 3 = m * 3 := by omega
      have n2 : ¬ k * 3 = m * 3 + 1 := by omega
      have n3 : ¬ k * 3 = m * 3 + 2 := by omega
      have n4 : ¬ k * 3 + 1 = m * 3 := by omega
      have n5 : ¬ k * 3 + 1 = m * 3 + 1 := by omega
      have n6 : ¬ k * 3 + 1 = m * 3 + 2 := by omega
      have n7 : ¬ k * 3 + 2 = m * 3 := by omega
      have n8 : ¬ k * 3 + 2 = m * 3 + 1 := by omega
      have n9 : ¬ k * 3 + 2 = m * 3 + 2 := by omega
      clear hx hy hxk hxm hak ham hhk hhm hkm
      go_wp2
      go_region
      all_goals go_wp2
      go_roundw
      case rel => exact ⟨k + 1, m - 1, by go_num, by congr 1; omega, by have := HKM.out; simp [Hid]; omega, HE.out.drew, _, _, _, HS, HF.out.drew⟩
      case measure => simp [Go.RowKit.intOf]; omega
    · have HXS := hide (HT.out.stop hlt (by rw [HL.out]; exact HN.out))
      go_wp2
      go_end0
      exact ⟨rfl, ⟨_, _, by rw [← HXS.out]; exact HY.out⟩, HB.out⟩
end Go.Proofs.Ytkdhifofdghbbaa

/- THE WALKS of the program's CircleIn, CircleTurn, CircleBack, CircleRotate, CirclePeriod. -/
namespace Go.Proofs.Ytkdhifofdghbbaa
open Go.RowKit

theorem drf_bits {s : ByteArray} (h : ciIn s = true) : drf (bits s) < 0 := (ciIn_facts h).2.2.2.2
set_option maxHeartbeats 1000000 in
theorem implCircleIn_any (s : ByteArray) (w : World) (hs : s.size ≤ maxLen) :
    Calls Try.prog 11 #[.string s] w fun e w' => e = .returned (.bool (ciIn s)) ∧ Below w.heap.size w w' := by
  cases hc : ciIn s
  · go_enter Try.func11, Try.ntmps11
    go_wp2_with (go_at_call 37; refine (readCircle_no _ _ hs hc).mono ?_; rintro e w' ⟨rfl, hb⟩)
    go_ret
    exact ⟨rfl, hb⟩
  · go_enter Try.func11, Try.ntmps11
    go_wp2_with (go_at_call 37; refine (readCircle_yes _ _ hc).mono ?_; rintro e w' ⟨g, rfl, h1, h2, h3, hb⟩)
    go_ret
    exact ⟨rfl, hb⟩

set_option maxHeartbeats 1000000 in
theorem implCircleTurn_any (s : ByteArray) (w : World) (hs : s.size ≤ maxLen) :
    Calls Try.prog 16 #[.string s] w fun e w' => e = .returned (.tuple #[.string (ctS s), .bool (ciIn s)]) ∧ Below w.heap.size w w' := by
  cases hc : ciIn s
  · have e : ctS s = ByteArray.empty := by unfold ctS; rw [hc]; rfl
    rw [e]
    go_enter Try.func16, Try.ntmps16
    go_wp2_with (go_at_call 37; refine (readCircle_no _ _ hs hc).mono ?_; rintro e w' ⟨rfl, hb⟩)
    go_ret2
    exact ⟨rfl, hb⟩
  · have e : ctS s = ofB (cturn (bits s)) := by unfold ctS; rw [if_pos hc]
    obtain ⟨_, _, h1, h60, hd⟩ := ciIn_facts hc
    rw [e]
    have HD := hide hd
    clear e hd
    go_enter Try.func16, Try.ntmps16
    go_wp2_with (go_at_call 37; refine (readCircle_yes _ _ hc).mono ?_; rintro e w1 ⟨g, rfl, h2, h3, h4, hb⟩)
    have CT := hide (turn_any g s.size s.size (bits s) _ _ w1 h1 h60 h3 h4 HD.out)
    have HB := hide hb
    clear h4 hb hc
    go_wp2_with fail
    refine CT.out.mono ?_
    rintro e w2 ⟨rfl, ⟨A, H, h5⟩, hb2⟩
    have hz2 := hb2.size
    have CX := hide (cText_any g s.size s.size (cturn (bits s)) A H w2 h60 (by omega) h5)
    have HB2 := hide (HB.out.trans (hb2.mono h2))
    clear h5 hb2 CT
    go_wp2_with fail
    refine CX.out.mono ?_
    rintro e w3 ⟨rfl, hb3⟩
    have hz1 := HB2.out.size
    have HB3 := hide (HB2.out.trans (hb3.mono hz1))
    clear hb3 CX
    go_wp2_with fail
    go_ret2
    exact ⟨rfl, HB3.out⟩

set_option maxHeartbeats 1000000 in
theorem implCircleBack_any (s : ByteArray) (w : World) (hs : s.size ≤ maxLen) :
    Calls Try.prog 18 #[.string s] w fun e w' => e = .returned (.tuple #[.string (cbS s), .bool (ciIn s)]) ∧ Below w.heap.size w w' := by
  cases hc : ciIn s
  · have e : cbS s = ByteArray.empty := by unfold cbS; rw [hc]; rfl
    rw [e]
    go_enter Try.func18, Try.ntmps18
    go_wp2_with (go_at_call 37; refine (readCircle_no _ _ hs hc).mono ?_; rintro e w' ⟨rfl, hb⟩)
    go_ret2
    exact ⟨rfl, hb⟩
  · have e : cbS s = ofB (cturn (bits s).reverse).reverse := by unfold cbS; rw [if_pos hc]
    obtain ⟨_, _, h1, h60, hd⟩ := ciIn_facts hc
    rw [e]
    have HD : Hid (drf (bits s).reverse < 0) := by show _ < 0; rw [drf_rev]; exact hd
    clear e hd
    go_enter Try.func18, Try.ntmps18
    go_wp2_with (go_at_call 37; refine (readCircle_yes _ _ hc).mono ?_; rintro e w1 ⟨g, rfl, h2, h3, h4, hb⟩)
    have CR := hide (reverseB_any g s.size s.size (bits s) _ _ w1 h1 h60 h4)
    have HB := hide hb
    clear h4 hb hc
    go_wp2_with fail
    refine CR.out.mono ?_
    rintro e w2 ⟨rfl, ⟨A, H, h5⟩, x2⟩
    have hz2 := x2.size
    have HB2 := hide (HB.out.trans (x2.below h2 (by omega)))
    have CT := hide (turn_any g s.size s.size (bits s).reverse A H w2 h1 h60 (by omega) h5 HD.out)
    clear h5 x2 CR
    go_wp2_with fail
    refine CT.out.mono ?_
    rintro e w3 ⟨rfl, ⟨A3, H3, h6⟩, hb3⟩
    have hz3 := hb3.size
    have HB3 := hide (HB2.out.trans (hb3.mono h2))
    have CR2 := hide (reverseB_any g s.size s.size (cturn (bits s).reverse) A3 H3 w3 h1 h60 h6)
    clear h6 hb3 CT
    go_wp2_with fail
    refine CR2.out.mono ?_
    rintro e w4 ⟨rfl, ⟨A4, H4, h7⟩, x4⟩
    have hz4 := x4.size
    have HB4 := hide (HB3.out.trans (x4.below h2 (by omega)))
    have CX := hide (cText_any g s.size s.size (cturn (bits s).reverse).reverse A4 H4 w4 h60 (by omega) h7)
    clear h7 x4 CR2
    go_wp2_with fail
    refine CX.out.mono ?_
    rintro e w5 ⟨rfl, hb5⟩
    have hz1 := HB4.out.size
    have HB5 := hide (HB4.out.trans (hb5.mono hz1))
    clear hb5 CX
    go_wp2_with fail
    go_ret2
    exact ⟨rfl, HB5.out⟩

set_option maxHeartbeats 1000000 in
theorem implCircleRotate_any (s : ByteArray) (n : Int) (w : World) (hs : s.size ≤ maxLen) :
    Calls Try.prog 13 #[.string s, .int .i64 n] w fun e w' => e = .returned (.tuple #[.string (rtS s n), .bool (rtOk s n)]) ∧ Below w.heap.size w w' := by
  have CI := hide (fun w => implCircleIn_any s w hs)
  cases h1 : ciIn s
  · rw [h1] at CI
    have e1 : rtOk s n = false := by unfold rtOk; rw [h1]; rfl
    have e2 : rtS s n = ByteArray.empty := by unfold rtS; rw [e1]; rfl
    rw [e1, e2]
    clear e1 e2 h1 hs
    go_enter Try.func13, Try.ntmps13
    go_wp2_with (go_at_call 11; refine (CI.out _).mono ?_; rintro e w' ⟨rfl, hb⟩)
    go_ret2
    exact ⟨rfl, hb⟩
  · rw [h1] at CI
    have hz : s.size ≤ 60 := (ciIn_facts h1).2.2.2.1
    by_cases h2 : 0 ≤ n
    · by_cases h3 : n ≤ (s.size : Int)
      · have e1 : rtOk s n = true := by unfold rtOk; rw [h1]; simp; omega
        have e2 : rtS s n = s.extract n.toNat s.size ++ s.extract 0 n.toNat := by unfold rtS; rw [e1]; rfl
        rw [e1, e2]
        obtain ⟨m, rfl⟩ : ∃ m : Nat, n = (m : Int) := ⟨n.toNat, by omega⟩
        have d1 : decide ((m : Int) < 0) = false := decide_eq_false (by omega)
        have d2 : decide ((s.size : Int) < (m : Int)) = false := decide_eq_false (by omega)
        have hm : m ≤ s.size := by omega
        have hz1 : (s.extract m s.size).size ≤ 60 := by simp; omega
        have hz2 : (s.extract 0 m).size ≤ 60 := by simp; omega
        unfold maxLen at hs
        clear e1 e2 h1
        go_enter Try.func13, Try.ntmps13
        go_wp2_with (go_at_call 11; refine (CI.out _).mono ?_; rintro e w' ⟨rfl, hb⟩)
        go_quiet (fail)
        go_wp2
        go_ret2
        exact ⟨by simp, hb.trans ((Quiet.drewN _).2 _)⟩
      · have e1 : rtOk s n = false := by unfold rtOk; rw [h1]; simp; omega
        have e2 : rtS s n = ByteArray.empty := by unfold rtS; rw [e1]; rfl
        rw [e1, e2]
        have d1 : decide (n < 0) = false := decide_eq_false (by omega)
        have d2 : decide ((s.size : Int) < n) = true := decide_eq_true (by omega)
        clear e1 e2 h1 hs
        go_enter Try.func13, Try.ntmps13
        go_wp2_with (go_at_call 11; refine (CI.out _).mono ?_; rintro e w' ⟨rfl, hb⟩)
        go_ret2
        exact ⟨rfl, hb⟩
    · have e1 : rtOk s n = false := by unfold rtOk; rw [h1]; simp; omega
      have e2 : rtS s n = ByteArray.empty := by unfold rtS; rw [e1]; rfl
      rw [e1, e2]
      have d1 : decide (n < 0) = true := decide_eq_true (by omega)
      clear e1 e2 h1 hs
      go_enter Try.func13, Try.ntmps13
      go_wp2_with (go_at_call 11; refine (CI.out _).mono ?_; rintro e w' ⟨rfl, hb⟩)
      go_ret2
      exact ⟨rfl, hb⟩

set_option maxRecDepth 100000 in
set_option maxHeartbeats 1000000 in
theorem implCirclePeriod_any (s : ByteArray) (w : World) (hs : s.size ≤ maxLen) :
    Calls Try.prog 28 #[.string s] w fun e w' => e = .returned (.tuple #[.int .i64 (cpN s), .bool (ciIn s)]) ∧ Below w.heap.size w w' := by
  cases h1 : ciIn s
  · have e : cpN s = 0 := by unfold cpN; rw [h1]; rfl
    rw [e]
    go_enter Try.func28, Try.ntmps28
    go_wp2_with (go_at_call 37; refine (readCircle_no _ _ hs h1).mono ?_; rintro e w' ⟨rfl, hb⟩)
    go_ret2
    exact ⟨rfl, hb⟩
  · obtain ⟨hv, _, h1', h60, hd⟩ := ciIn_facts h1
    have e : cpN s = (perB (bits s) 5000 1 : Int) := by unfold cpN; rw [h1]; rfl
    rw [e]
    have HV := hide hv
    have HD := hide hd
    obtain ⟨r, hr⟩ : ∃ r : Nat, r = perB (bits s) 5000 1 := ⟨_, rfl⟩
    have HR := hide hr
    rw [← hr]
    clear hs e hv hr hd
    go_enter Try.func28, Try.ntmps28
    go_wp2_with (go_at_call 37; refine (readCircle_yes _ _ h1).mono ?_; rintro e w1 ⟨g, rfl, h2, h3, h4, hb⟩)
    have HB0 := hide hb
    have HX0 := hide h4
    clear h1 hb h4
    have HWG := hide h2
    go_loopw [6] (fun nv wr => ∃ (k : Nat) (A H : Nat → Option Addr), nv = .int .i64 ((k : Int) + 1) ∧ k ≤ 5000 ∧ Hid (perB (bits s) (5000 - k) (k + 1) = r) ∧ Hid (drf (cturns k (bits s)) < 0) ∧ Hid (BX wr g s.size (cturns k (bits s)) A H) ∧ Hid (Below w.heap.size w wr) ∧ g < wr.heap.size) (fun nv _ => 5001 - (Go.RowKit.intOf nv).toNat)
    case atStart => exact ⟨0, _, _, rfl, by omega, HR.out.symm, HD.out, HX0.out, HB0.out, h3⟩
    case round =>
      obtain ⟨k, A, H, rfl, hk, HK, HDK, HX, HB, hg⟩ := hrel
      obtain ⟨W1, rfl⟩ : ∃ W, W = wr := ⟨wr, rfl⟩
      by_cases hlt : k < 5000
      · have hle : (k : Int) + 1 ≤ 5000 := by omega
        have hb : cturn (cturns k (bits s)) = cturns (k + 1) (bits s) := (cturns_comm k (bits s)).symm
        have hlen : (cturns (k + 1) (bits s)).length = s.size := by rw [← hb, cturn_length]; exact HX.out.len
        have CT := hide (turn_any g s.size s.size (cturns k (bits s)) A H W1 h1' h60 hg HX.out HDK.out)
        have HD2 : Hid (drf (cturns (k + 1) (bits s)) < 0) := by show _ < 0; rw [← hb, cturn_drf HDK.out]; exact HDK.out
        rw [hb] at CT
        have hst : ofB (cturns (k + 1) (bits s)) = s ↔ cturns (k + 1) (bits s) = bits s := by
          constructor
          · intro e; rw [← bits_ofB (cturns (k + 1) (bits s)), e]
          · intro e; rw [e, ofB_bits HV.out]
        have hstep : perB (bits s) (5000 - k) (k + 1) = if cturns (k + 1) (bits s) = bits s then k + 1 else perB (bits s) (5000 - (k + 1)) (k + 1 + 1) := by
          rw [show 5000 - k = (5000 - (k + 1)) + 1 by omega]
          rfl
        obtain ⟨t, ht⟩ : ∃ t, t = cturns (k + 1) (bits s) := ⟨_, rfl⟩
        rw [← ht] at CT hst hstep HD2 hlen
        have HTE := hide ht
        obtain ⟨y, hy⟩ : ∃ y, y = ofB t := ⟨_, rfl⟩
        have HY := hide hy
        rw [← hy] at hst
        have HST := hide hst
        have HSTEP := hide hstep
        clear hb hst hstep ht hy
        go_wp2_with fail
        refine CT.out.mono ?_
        rintro e w2 ⟨rfl, ⟨A2, H2, h5⟩, hb2⟩
        have hz2 := hb2.size
        have CX := hide (cText_any g s.size s.size t A2 H2 w2 h60 (by omega) h5)
        rw [← HY.out] at CX
        have HX2 := hide h5
        have HB2 := hide (HB.out.trans (hb2.mono HWG.out))
        clear h5 hb2 CT
        by_cases he : y = s
        · have HF : Hid (r = k + 1) := by show _ = _; rw [← HK.out, HSTEP.out, if_pos (HST.out.1 he)]
          subst he
          go_wp2_with fail
          refine CX.out.mono ?_
          rintro e w3 ⟨rfl, hb3⟩
          have HB3 := hide (HB2.out.trans (hb3.mono HB2.out.size))
          clear hb3 CX
          go_wp2_with fail
          go_ret2
          exact ⟨by rw [HF.out]; rfl, HB3.out⟩
        · have HN : Hid (perB (bits s) (5000 - (k + 1)) (k + 1 + 1) = r) := by show _ = _; rw [← HK.out, HSTEP.out, if_neg (fun h => he (HST.out.2 h))]
          have hq : (y.toList == s.toList) = false := by
            rw [beq_eq_false_iff_ne]
            intro h
            rw [ByteArray.toList_eq, ByteArray.toList_eq] at h
            exact he (by rw [← ofL_lst y, ← ofL_lst s]; unfold lst; rw [h])
          go_wp2_with fail
          refine CX.out.mono ?_
          rintro e w3 ⟨rfl, hb3⟩
          have HB3 := hide (HB2.out.trans (hb3.mono HB2.out.size))
          have hz3 := hb3.size
          have HX3 : Hid (BX w3 g s.size (cturns (k + 1) (bits s)) A2 H2) := by show BX _ _ _ _ _ _; rw [← HTE.out]; exact HX2.out.below hb3 (by omega)
          have HD3 : Hid (drf (cturns (k + 1) (bits s)) < 0) := by show _ < 0; rw [← HTE.out]; exact HD2.out
          clear hb3 CX
          go_wp2_with fail
          go_roundw
          case rel => exact ⟨k + 1, _, _, by go_num, by omega, HN, HD3, HX3, HB3, by omega⟩
          case measure => simp [Go.RowKit.intOf]; omega
      · have hk5 : k = 5000 := by omega
        have HF : Hid (r = 0) := by show _ = _; rw [← HK.out, hk5]; rfl
        have hle : ¬ (k : Int) + 1 ≤ 5000 := by omega
        clear hk5
        go_wp2_with fail
        go_ret2
        exact ⟨by rw [HF.out]; rfl, HB.out⟩
end Go.Proofs.Ytkdhifofdghbbaa
