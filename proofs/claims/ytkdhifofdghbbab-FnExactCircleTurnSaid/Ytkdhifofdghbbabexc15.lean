/- TEXTS ITurn, IRev, Cir9, SCir2. -/
import Derived.Test.Ytkdhifofdghbbabexc14
import Derived.Test.Ytkdhifofdghbbabexc11
import Derived.RegionTactic
import Derived.BigRegion
import Derived.Test.Ytkdhifofdghbbabexc10
/- THE WALK of turn: all pairs are exchanged. -/
namespace Go.Proofs.Ytkdhifofdghbbab
open Go.RowKit

theorem exr_take {sg : List Bool} {Q : List (List (Nat × Nat))} {k : Nat} {ps : List (Nat × Nat)} (h : Q[k]? = some ps) : exr sg (Q.take (k + 1)) = exa (exr sg (Q.take k)) ps := by
  obtain ⟨hk, he⟩ := List.getElem?_eq_some_iff.1 h
  rw [List.take_succ_eq_append_getElem hk, exr_snoc, he]
theorem exa_take {sg : List Bool} {ps : List (Nat × Nat)} {j : Nat} {p : Nat × Nat} (h : ps[j]? = some p) : exa sg (ps.take (j + 1)) = exc (exa sg (ps.take j)) p := by
  obtain ⟨hk, he⟩ := List.getElem?_eq_some_iff.1 h
  rw [List.take_succ_eq_append_getElem hk, exa_snoc, he]

theorem rowK_len {w : World} {B e n s : Nat} {v : Value} {xs : List Value} (h : w.ownsRow B e s v n xs) : n ≤ 9223372036854775807 := by
  rcases h.2 with ⟨_, h0⟩ | ⟨g, cap, cur, _, _, _, h1, h2, _⟩
  · omega
  · unfold maxLen at h2
    omega

set_option maxRecDepth 100000 in
set_option maxHeartbeats 4000000 in
theorem turn_any (B n cap : Nat) (sg : List Bool) (A0 H0 : Nat → Option Addr) (w : World) (hn : 0 < n) (hm : n ≤ 60) (hB : B < w.heap.size) (h : BX w B n sg A0 H0) (hd : drf sg < 0) :
    Calls Try.prog 29 #[.slice (some ⟨B, 0, none⟩) n cap] w fun o w' => o = .returned (.tuple #[]) ∧ (∃ A H, BX w' B n (cturn sg) A H) ∧ Below B w w' := by
  have CP := hide (pairs_any B n cap sg A0 H0 w hn hm hB h hd)
  clear h hd
  go_enter Try.func29, Try.ntmps29
  go_wp2_with fail
  refine CP.out.mono ?_
  rintro e w1 ⟨v, Q, A, H, rfl, hx, ⟨vs, hv1, hv2⟩, hex, _, hq, hql, hb⟩
  obtain ⟨a, c, rfl, hag⟩ := rowK_slice hv1
  obtain ⟨m, hm2⟩ : ∃ m, m = Q.length := ⟨_, rfl⟩
  rw [← hm2] at hv1 hql hag ⊢
  have HM := hide hm2
  have HX0 := hide hx
  have HV1 := hide hv1
  have HV2 := hide hv2
  have HEX := hide hex
  have HQ := hide hq
  have HB := hide hb
  have hsz := hb.size
  clear hm2 hx hv1 hv2 hex hq hb CP
  go_wp2_with fail
  go_loopw [3, 5, 9] (fun _ _ i wr => ∃ k : Nat, k ≤ m ∧ i = .int .i64 (k : Int) ∧ Hid (BX wr B n (exr sg (Q.take k)) A H) ∧ Hid (Ex B w1 wr)) (fun _ _ i _ => m - (Go.RowKit.intOf i).toNat)
  case atStart => exact ⟨0, Nat.zero_le _, rfl, by rw [List.take_zero]; exact HX0.out, Ex.refl _ _⟩
  case round =>
    obtain ⟨k, hk, rfl, HX, HE⟩ := hrel
    obtain ⟨W1, rfl⟩ : ∃ W, W = wr := ⟨wr, rfl⟩
    by_cases hlt : k < m
    · obtain ⟨g, rfl⟩ := hag (by omega)
      obtain ⟨ps, hps⟩ : ∃ ps, Q[k]? = some ps := ⟨_, List.getElem?_eq_getElem (by rw [← HM.out]; exact hlt)⟩
      have hvl : vs.length = m := by have := HV1.out.1; omega
      obtain ⟨x, hx⟩ : ∃ x, vs[k]? = some x := ⟨_, List.getElem?_eq_getElem (by rw [hvl]; exact hlt)⟩
      have hrow := HV2.out k x ps hx hps
      have hgl := (HV1.out.lt g rfl)
      have c1 := ((HE.out.cells (by omega) hgl.2 (rowK_cells HV1.out)) k x hx).1
      obtain ⟨ax, cx, rfl, haxg⟩ := rowK_slice hrow
      have hpl := rowK_len hrow
      have HQP := hide (HQ.out ps (List.mem_of_getElem? hps))
      have HTK := hide (exr_take (sg := sg) hps)
      obtain ⟨q, hq⟩ : ∃ q, q = ps.length := ⟨_, rfl⟩
      rw [← hq] at hrow haxg hpl c1
      have HROW := hide hrow
      have HQL := hide hq
      have i1' : (0 : Int) ≤ (k : Int) := by omega
      have i2' : (k : Int) < (m : Int) := by omega
      have HBW : Hid (B < W1.heap.size) := by have := HE.out.size; show B < _; omega
      clear hx hps hrow hq hvl
      go_wp2_with fail
      go_loopw [5, 15] (fun _ i wr => ∃ j : Nat, j ≤ q ∧ i = .int .i64 (j : Int) ∧ Hid (BX wr B n (exa (exr sg (Q.take k)) (ps.take j)) A H) ∧ Hid (Ex B w1 wr)) (fun _ i _ => q - (Go.RowKit.intOf i).toNat)
      case atStart => exact ⟨0, Nat.zero_le _, rfl, by rw [List.take_zero]; exact HX.out, HE⟩
      case round =>
        obtain ⟨j, hj, rfl, HY, HF⟩ := hrel
        by_cases hlt2 : j < q
        · obtain ⟨gx, rfl⟩ := haxg (by omega)
          obtain ⟨⟨b, e⟩, hp⟩ : ∃ p, ps[j]? = some p := ⟨_, List.getElem?_eq_getElem (by rw [← HQL.out]; exact hlt2)⟩
          obtain ⟨p1, p2, p3⟩ := HQP.out (b, e) (List.mem_of_getElem? hp)
          have hxl := HROW.out.lt gx rfl
          have hcs := HF.out.cells (by omega) hxl.2 (rowK_cells HROW.out)
          have a1 := (hcs (j * 2) _ (pcs_get B _ j _ hp).1).1
          have a2 := (hcs (j * 2 + 1) _ (pcs_get B _ j _ hp).2).1
          have HTJ := hide (exa_take (sg := exr sg (Q.take k)) hp)
          have hBw : B < wr.heap.size := by have := HF.out.size; omega
          have HY2 := hide (HY.out.alloc hBw (.cells #[pt B b, pt B e] 65))
          have HF2 := hide (HF.out.alloc (.cells #[pt B b, pt B e] 65))
          have T1 := hide (fun (W : World) (hW : BX W B n (exa (exr sg (Q.take k)) (ps.take j)) A H) (hz : B < W.heap.size) => exchange_any B n b e _ A H W hW p1 p2 p3 hz)
          have i1' : (0 : Int) ≤ (j : Int) := by omega
          have i2' : (j : Int) < (q : Int) := by omega
          simp only at a1 a2
          unfold pt at a1 a2 HY2 HF2
          clear p1 p2 p3 hp hcs
          go_wp2_with fail
          refine (T1.out _ HY2.out (by rw [World.size_alloc]; omega)).mono ?_
          rintro o w6 ⟨rfl, h6, x6⟩
          have HY6 : Hid (BX w6 B n (exa (exr sg (Q.take k)) (ps.take (j + 1))) A H) := by show BX _ _ _ _ _ _; rw [HTJ.out]; exact h6
          have HF6 := hide (HF2.out.trans x6)
          clear h6 x6 T1
          go_wp2_with fail
          go_roundw
          case rel => exact ⟨j + 1, by omega, by go_num, HY6, HF6⟩
          case measure => simp [Go.RowKit.intOf]; omega
        · have hjq : j = q := by omega
          subst hjq
          have HY2 : Hid (BX wr B n (exr sg (Q.take (k + 1))) A H) := by
            have := HY.out
            have htk : ps.take j = ps := List.take_of_length_le (by rw [HQL.out]; exact Nat.le_refl _)
            rw [htk, ← HTK.out] at this
            exact this
          go_wp2_with fail
          exact ⟨⟨k + 1, by omega, by go_num, HY2, HF⟩, by simp [Go.RowKit.intOf]; omega⟩
    · have hkm : k = m := by omega
      subst hkm
      have HF : Hid (BX W1 B n (cturn sg) A H) := by
        have := HX.out
        rw [List.take_of_length_le (by rw [HM.out]; exact Nat.le_refl _), HEX.out] at this
        exact this
      have HBF := hide (HB.out.trans (HE.out.below (Nat.le_refl _) (by omega)))
      go_wp2_with fail
      go_end0
      exact ⟨rfl, ⟨_, _, HF.out⟩, HBF.out⟩
end Go.Proofs.Ytkdhifofdghbbab

/- THE WALK of slices.Reverse at boxes. -/
namespace Go.Proofs.Ytkdhifofdghbbab
open Go.RowKit

/-- the first k and the last k boxes have been exchanged -/
def TurnedB (l xs : List Bool) (k : Nat) : Prop := xs.length = l.length ∧ ∀ j, j < l.length → xs[j]? = if j < k ∨ l.length - 1 - j < k then l[l.length - 1 - j]? else l[j]?
theorem TurnedB.start (l : List Bool) : TurnedB l l 0 := ⟨rfl, fun j _ => by simp⟩
theorem TurnedB.step {l xs : List Bool} {k m : Nat} (h : TurnedB l xs k) (hk : k < m) (hm : k + m + 1 = l.length) (x y : Bool) (hx : l[k]? = some x) (hy : l[m]? = some y) : TurnedB l ((xs.set k y).set m x) (k + 1) := by
  refine ⟨by simp [h.1], ?_⟩
  intro j hj
  have hl := h.1
  rw [List.getElem?_set, List.getElem?_set]
  by_cases e1 : m = j
  · subst e1
    rw [if_pos rfl, if_pos (by simp; omega), if_pos (by omega), show l.length - 1 - m = k by omega, hx]
  · rw [if_neg e1]
    by_cases e2 : k = j
    · subst e2
      rw [if_pos rfl, if_pos (by omega), if_pos (by omega), show l.length - 1 - k = m by omega, hy]
    · rw [if_neg e2, h.2 j hj]
      by_cases c : j < k ∨ l.length - 1 - j < k
      · rw [if_pos c, if_pos (by omega)]
      · rw [if_neg c, if_neg (by omega)]
theorem TurnedB.stop {l xs : List Bool} {k m : Nat} (h : TurnedB l xs k) (hk : ¬ k < m) (hm : k + m + 1 = l.length) : xs = l.reverse := by
  apply List.ext_getElem?
  intro j
  by_cases hj : j < l.length
  · rw [h.2 j hj, List.getElem?_reverse hj]
    by_cases c : j < k ∨ l.length - 1 - j < k
    · rw [if_pos c]
    · rw [if_neg c, show l.length - 1 - j = j by omega]
  · rw [List.getElem?_eq_none_iff.2 (by rw [h.1]; omega), List.getElem?_eq_none_iff.2 (by simp; omega)]

set_option maxRecDepth 100000 in
set_option maxHeartbeats 4000000 in
theorem reverseB_any (B n cap : Nat) (sg : List Bool) (A0 H0 : Nat → Option Addr) (w : World) (hn : 0 < n) (hm : n ≤ 60) (h : BX w B n sg A0 H0) :
    Calls Try.prog 32 #[.slice (some ⟨B, 0, none⟩) n cap] w fun o w' => o = .returned (.tuple #[]) ∧ (∃ A H, BX w' B n sg.reverse A H) ∧ Ex B w w' := by
  have HX := hide h
  have HL := hide h.len
  clear h
  go_enter Try.func32, Try.ntmps32
  go_wp2
  go_loopw [2, 3] (fun i j wr => ∃ k m : Nat, i = .int .i64 (k : Int) ∧ j = .int .i64 (m : Int) ∧ Hid (k + m + 1 = n) ∧ Hid (Ex B w wr) ∧ ∃ (xs : List Bool) (A H : Nat → Option Addr), Hid (TurnedB sg xs k) ∧ Hid (BX wr B n xs A H)) (fun _ j _ => (Go.RowKit.intOf j).toNat)
  case atStart => exact ⟨0, n - 1, rfl, by congr 1; omega, by simp [Hid]; omega, Ex.refl _ _, sg, A0, H0, TurnedB.start sg, HX.out⟩
  case round =>
    obtain ⟨k, m, rfl, rfl, HN, HB, xs, A, H, HT, HY⟩ := hrel
    by_cases hlt : k < m
    · have hkm := HN.out
      obtain ⟨x, hx⟩ : ∃ x, sg[k]? = some x := ⟨_, List.getElem?_eq_getElem (by rw [HL.out]; omega)⟩
      obtain ⟨y, hy⟩ : ∃ y, sg[m]? = some y := ⟨_, List.getElem?_eq_getElem (by rw [HL.out]; omega)⟩
      have hxk : xs[k]? = some x := by rw [HT.out.2 k (by rw [HL.out]; omega), if_neg (by rw [HL.out]; omega)]; exact hx
      have hxm : xs[m]? = some y := by rw [HT.out.2 m (by rw [HL.out]; omega), if_neg (by rw [HL.out]; omega)]; exact hy
      have HS := hide (HT.out.step hlt (by rw [HL.out]; exact hkm) x y hx hy)
      obtain ⟨a0, f0⟩ := HY.out.s k x hxk
      obtain ⟨a1, f1⟩ := HY.out.a k (by omega)
      obtain ⟨a2, f2⟩ := HY.out.h k (by omega)
      obtain ⟨b0, g0⟩ := HY.out.s m y hxm
      obtain ⟨b1, g1⟩ := HY.out.a m (by omega)
      obtain ⟨b2, g2⟩ := HY.out.h m (by omega)
      obtain ⟨ak, hak⟩ : ∃ z, z = A k := ⟨_, rfl⟩
      obtain ⟨am, ham⟩ : ∃ z, z = A m := ⟨_, rfl⟩
      obtain ⟨hk', hhk⟩ : ∃ z, z = H k := ⟨_, rfl⟩
      obtain ⟨hm', hhm⟩ : ∃ z, z = H m := ⟨_, rfl⟩
      have hkn : k < n := by omega
      have hmn : m < n := by omega
      have HF := hide ((((((HY.out.setS hkn y).setA hkn am).setH hkn hm').setS hmn x).setA hmn ak).setH hmn hk')
      have HE := hide ((((((HB.out.setCell (k * 3) (.bool y)).setCell (k * 3 + 1) (.pointer am)).setCell (k * 3 + 2) (.pointer hm')).setCell (m * 3) (.bool x)).setCell (m * 3 + 1) (.pointer ak)).setCell (m * 3 + 2) (.pointer hk'))
      rw [← hak] at a1
      rw [← ham] at b1
      rw [← hhk] at a2
      rw [← hhm] at b2
      have HKM := hide hkm
      have i0 : (0 : Int) ≤ (k : Int) := by omega
      have i1 : (k : Int) < (n : Int) := by omega
      have i2 : (0 : Int) ≤ (m : Int) := by omega
      have i3 : (m : Int) < (n : Int) := by omega
      have i4 : ¬ k = m := by omega
      have i5 : ¬ m = k := by omega
      have n1 : ¬ k * 3 = m * 3 := by omega
      have n2 : ¬ k * 3 = m * 3 + 1 := by omega
      have n3 : ¬ k * 3 = m * 3 + 2 := by omega
      have n4 : ¬ k * 3 + 1 = m * 3 := by omega
      have n5 : ¬ k * 3 + 1 = m * 3 + 1 := by omega
      have n6 : ¬ k * 3 + 1 = m * 3 + 2 := by omega
      have n7 : ¬ k * 3 + 2 = m * 3 := by omega
      have n8 : ¬ k * 3 + 2 = m * 3 + 1 := by omega
      have n9 : ¬ k * 3 + 2 = m * 3 + 2 := by omega
      clear hx hy hxk hxm hak ham hhk hhm hkm
      go_wp2
      go_region
      all_goals go_wp2
      go_roundw
      case rel => exact ⟨k + 1, m - 1, by go_num, by congr 1; omega, by have := HKM.out; simp [Hid]; omega, HE.out.drew, _, _, _, HS, HF.out.drew⟩
      case measure => simp [Go.RowKit.intOf]; omega
    · have HXS := hide (HT.out.stop hlt (by rw [HL.out]; exact HN.out))
      go_wp2
      go_end0
      exact ⟨rfl, ⟨_, _, by rw [← HXS.out]; exact HY.out⟩, HB.out⟩
end Go.Proofs.Ytkdhifofdghbbab

/- ROTATED CIRCLES AS TEXTS: promises 43 and 46. Pure: no walk. -/
namespace Go.Proofs.Ytkdhifofdghbbab
open Go.RowKit

theorem rtS_list {s : ByteArray} {n : Int} (h : rtOk s n = true) : (rtS s n).data.toList = s.data.toList.drop n.toNat ++ s.data.toList.take n.toNat := by
  unfold rtS
  rw [if_pos h, ByteArray.data_append, Array.toList_append, Lib.extract_data, Lib.extract_data]
  rw [List.drop_zero, Nat.sub_zero]
  congr 1
  exact List.take_of_length_le (by rw [List.length_drop]; exact Nat.le_refl _)
theorem rtOk_facts {s : ByteArray} {n : Int} (h : rtOk s n = true) : ciIn s = true ∧ n.toNat ≤ s.size := by
  unfold rtOk at h
  rw [Bool.and_eq_true, Bool.and_eq_true] at h
  obtain ⟨h1, h2, h3⟩ := h
  simp at h2 h3
  exact ⟨h1, by omega⟩
theorem rtS_bits {s : ByteArray} {n : Int} (h : rtOk s n = true) : bits (rtS s n) = (bits s).drop n.toNat ++ (bits s).take n.toNat := by
  unfold bits
  rw [rtS_list h, List.map_append, List.map_drop, List.map_take]
theorem rtS_rot {s : ByteArray} {n : Int} (h : rtOk s n = true) : Rot (bits s) (bits (rtS s n)) :=
  ⟨(bits s).take n.toNat, (bits s).drop n.toNat, (List.take_append_drop _ _).symm, rtS_bits h⟩
theorem Rot.drf {l l' : List Bool} (h : Rot l l') : drf l = drf l' := by
  obtain ⟨a, b, rfl, rfl⟩ := h
  rw [drf_app, drf_app]
  omega
theorem rtS_vld {s : ByteArray} {n : Int} (h : rtOk s n = true) : vld (rtS s n) = true := by
  obtain ⟨h1, _⟩ := rtOk_facts h
  have hv := (ciIn_facts h1).1
  have hz : (rtS s n).size = s.size := by rw [← length_bits, ← length_bits, (rtS_rot h).length]
  have hs := vld_sgn s hv
  have h120 := vld_le s hv
  unfold allSgn at hs
  rw [List.all_eq_true] at hs
  unfold vld
  rw [Bool.and_eq_true]
  refine ⟨?_, by rw [hz]; simpa using h120⟩
  unfold allSgn
  rw [List.all_eq_true, rtS_list h]
  intro x hx
  rcases List.mem_append.1 hx with hx | hx
  · exact hs x (List.mem_of_mem_drop hx)
  · exact hs x (List.mem_of_mem_take hx)
theorem rtS_ci {s : ByteArray} {n : Int} (h : rtOk s n = true) : ciIn (rtS s n) = true := by
  obtain ⟨h1, _⟩ := rtOk_facts h
  obtain ⟨_, _, _, h60, hd⟩ := ciIn_facts h1
  have hr := rtS_rot h
  rw [← ofB_bits (rtS_vld h)]
  refine ciIn_ofB ?_ ?_
  · rw [← hr.length, length_bits]; exact h60
  · rw [← hr.drf]; exact hd
theorem rtOk_turn {s : ByteArray} {n : Int} (h : rtOk s n = true) : rtOk (ctS s) n = true := by
  obtain ⟨h1, _⟩ := rtOk_facts h
  obtain ⟨_, h2, h3, _⟩ := ctS_facts h1
  unfold rtOk at h ⊢
  rw [h2, h3]
  rw [h1] at h
  exact h
/-- P46: turns go along with rotations -/
theorem turn_rot_S {s : ByteArray} {n : Int} (h : rtOk s n = true) : ctS (rtS s n) = rtS (ctS s) n := by
  obtain ⟨h1, hm⟩ := rtOk_facts h
  obtain ⟨_, _, _, h60, hd⟩ := ciIn_facts h1
  have ht := rtOk_turn h
  have hv : vld (rtS (ctS s) n) = true := rtS_vld ht
  have hv2 : vld (ctS (rtS s n)) = true := (ciIn_facts (ctS_facts (rtS_ci h)).2.1).1
  rw [← ofB_bits hv, ← ofB_bits hv2]
  congr 1
  rw [(ctS_facts (rtS_ci h)).1, rtS_bits h, rtS_bits ht, (ctS_facts h1).1]
  have e : (bits s).take n.toNat ++ (bits s).drop n.toNat = bits s := List.take_append_drop _ _
  obtain ⟨a', b', c1, c2, c3⟩ := cturn_rot (a := (bits s).take n.toNat) (b := (bits s).drop n.toNat) (by rw [e]; exact hd)
  rw [e] at c1
  have hl : a'.length = n.toNat := by rw [c3, List.length_take, length_bits]; omega
  rw [c2, c1, ← hl, List.drop_left, List.take_left]
/-- P46: and so does the shape -/
theorem shape_rot_S {s : ByteArray} {n : Int} (h : rtOk s n = true) : cshB (bits (rtS s n)) = cshB (bits s) := (cshB_rot (rtS_rot h)).symm
/-- P43: rotated by all its signs -/
theorem rot_all {s : ByteArray} (h : ciIn s = true) : rtOk s (s.size : Int) = true ∧ rtS s (s.size : Int) = s := by
  have hv := (ciIn_facts h).1
  have ho : rtOk s (s.size : Int) = true := by unfold rtOk; rw [h]; simp
  refine ⟨ho, ?_⟩
  rw [← ofB_bits (rtS_vld ho), rtS_bits ho]
  have e : ((s.size : Int)).toNat = (bits s).length := by rw [length_bits]; rfl
  rw [e, List.drop_length, List.take_length, List.nil_append, ofB_bits hv]
theorem ci_few {s : ByteArray} (h : ciIn s = true) : 2 * nballs (bits s) < s.size := by
  have := (ciIn_facts h).2.2.2.2
  rw [drf_balls, length_bits] at this
  omega
end Go.Proofs.Ytkdhifofdghbbab

/- THE WALKS of the model's CircleBack and CirclePeriod, off a contract of its CircleTurn. -/
namespace Go.Proofs.Ytkdhifofdghbbab
open Go.RowKit

def rvS (s : ByteArray) : ByteArray := ofL (lst s).reverse
theorem rvS_size (s : ByteArray) : (rvS s).size = s.size := by unfold rvS; rw [ofL_size, List.length_reverse, lst_size]
theorem rvS_bits (s : ByteArray) : bits (rvS s) = (bits s).reverse := by
  unfold rvS ofL bits lst
  simp
theorem rvS_vld (s : ByteArray) : vld (rvS s) = vld s := by
  unfold vld
  rw [rvS_size]
  congr 1
  unfold allSgn
  show ((lst s).reverse).all sgn = _
  rw [List.all_reverse]
  rfl
theorem rvS_ci (s : ByteArray) : ciIn (rvS s) = ciIn s := by
  unfold ciIn ci60
  rw [rvS_vld, rvS_size, rvS_bits]
  have e : nballs (bits s).reverse = nballs (bits s) := by unfold nballs; rw [List.count_reverse]
  rw [e]
theorem rvS_ofB (l : List Bool) : rvS (ofB l) = ofB l.reverse := by
  unfold rvS ofB
  rw [lst_ofL]
  unfold chC
  rw [List.map_reverse]
theorem cbS_eq (s : ByteArray) : rvS (ctS (rvS s)) = cbS s := by
  unfold ctS cbS
  rw [rvS_ci]
  cases ciIn s
  · rfl
  · rw [if_pos rfl, if_pos rfl, rvS_ofB, rvS_bits]

def TurnC : Prop := ∀ (s : ByteArray) (w : World), s.size ≤ maxLen →
    Calls Try.prog 11 #[.string s] w fun e w' => e = .returned (.tuple #[.string (ctS s), .bool (ciIn s)]) ∧ Below w.heap.size w w'
theorem ctS_size (s : ByteArray) : (ctS s).size ≤ 60 := by
  cases h : ciIn s
  · have : ctS s = ByteArray.empty := by unfold ctS; rw [h]; rfl
    rw [this]; exact Nat.zero_le _
  · rw [(ctS_facts h).2.2.1]
    exact (ciIn_facts h).2.2.2.1
set_option maxHeartbeats 400000 in
theorem specCircleBack_of (H : TurnC) (s : ByteArray) (w : World) (hs : s.size ≤ maxLen) :
    Calls Try.prog 13 #[.string s] w fun e w' => e = .returned (.tuple #[.string (cbS s), .bool (ciIn s)]) ∧ Below w.heap.size w w' := by
  have T1 := hide (fun w => l6cTurned_any s w hs)
  have T2 := hide (fun w => H (rvS s) w (by rw [rvS_size]; exact hs))
  have T3 := hide (fun w => l6cTurned_any (ctS (rvS s)) w (by have := ctS_size (rvS s); unfold maxLen; omega))
  rw [← cbS_eq s]
  rw [rvS_ci] at T2
  have e1 : ofL (lst s).reverse = rvS s := rfl
  have e3 : ofL (lst (ctS (rvS s))).reverse = rvS (ctS (rvS s)) := rfl
  rw [e1] at T1
  rw [e3] at T3
  obtain ⟨a, ha⟩ : ∃ a, a = rvS s := ⟨_, rfl⟩
  rw [← ha] at T1 T2 T3 ⊢
  obtain ⟨b, hb⟩ : ∃ b, b = ctS a := ⟨_, rfl⟩
  rw [← hb] at T2 T3 ⊢
  obtain ⟨c, hc⟩ : ∃ c, c = rvS b := ⟨_, rfl⟩
  rw [← hc] at T3 ⊢
  obtain ⟨q, hq⟩ : ∃ q, q = ciIn s := ⟨_, rfl⟩
  rw [← hq] at T2 ⊢
  clear ha hb hc hq e1 e3 hs
  go_enter Try.func13, Try.ntmps13
  go_wp2_with fail
  refine (T1.out _).mono ?_
  rintro e w' ⟨rfl, rfl⟩
  go_wp2_with fail
  refine (T2.out _).mono ?_
  rintro e w2 ⟨rfl, hb2⟩
  go_wp2_with fail
  refine (T3.out _).mono ?_
  rintro e w' ⟨rfl, rfl⟩
  go_wp2_with fail
  go_ret2
  exact ⟨rfl, hb2⟩

def cpN (s : ByteArray) : Int := if ciIn s then (perB (bits s) 5000 1 : Int) else 0
set_option maxRecDepth 100000 in
set_option maxHeartbeats 1000000 in
theorem specCirclePeriod_of (H : TurnC) (s : ByteArray) (w : World) (hs : s.size ≤ maxLen) :
    Calls Try.prog 22 #[.string s] w fun e w' => e = .returned (.tuple #[.int .i64 (cpN s), .bool (ciIn s)]) ∧ Below w.heap.size w w' := by
  have CI := hide (fun w => specCircleIn_any s w hs)
  cases h1 : ciIn s
  · rw [h1] at CI
    have e : cpN s = 0 := by unfold cpN; rw [h1]; rfl
    rw [e]
    clear h1 hs e
    go_enter Try.func22, Try.ntmps22
    go_wp2_with (go_at_call 9; refine (CI.out _).mono ?_; rintro e w' ⟨rfl, rfl⟩)
    go_ret2
    exact ⟨rfl, Below.refl _ _⟩
  · rw [h1] at CI
    have HT := hide H
    have H1 := hide h1
    have hv := (ciIn_facts h1).1
    have e : cpN s = (perB (bits s) 5000 1 : Int) := by unfold cpN; rw [h1]; rfl
    rw [e]
    have HV := hide hv
    obtain ⟨r, hr⟩ : ∃ r : Nat, r = perB (bits s) 5000 1 := ⟨_, rfl⟩
    have HR := hide hr
    rw [← hr]
    clear h1 hs e hv hr H
    go_enter Try.func22, Try.ntmps22
    go_wp2_with (go_at_call 9; refine (CI.out _).mono ?_; rintro e w' ⟨rfl, rfl⟩)
    go_loopw [4, 5, 6] (fun tv nv _ wr => ∃ (t : ByteArray) (k : Nat), tv = .string t ∧ nv = .int .i64 ((k : Int) + 1) ∧ k ≤ 5000 ∧ Hid (ciIn t = true ∧ bits t = cturns k (bits s) ∧ perB (bits s) (5000 - k) (k + 1) = r) ∧ Hid (Below w.heap.size w wr)) (fun _ nv _ => fun _ => 5001 - (Go.RowKit.intOf nv).toNat)
    case atStart => exact ⟨s, 0, rfl, rfl, by omega, ⟨H1.out, rfl, HR.out.symm⟩, Below.refl _ _⟩
    case round =>
      obtain ⟨t, k, rfl, rfl, hk, HK, HB⟩ := hrel
      by_cases hlt : k < 5000
      · have hle : (k : Int) + 1 ≤ 5000 := by omega
        obtain ⟨k1, k2, k3⟩ := HK.out
        obtain ⟨f1, f2, f3, _⟩ := ctS_facts k1
        have CT := hide (HT.out t wr (by have := (ciIn_facts k1).2.2.2.1; unfold maxLen; omega))
        rw [k1] at CT
        have hb : bits (ctS t) = cturns (k + 1) (bits s) := by rw [f1, k2]; exact (cturns_comm k (bits s)).symm
        have hst : ctS t = s ↔ cturns (k + 1) (bits s) = bits s := by
          constructor
          · intro e; rw [← hb, e]
          · intro e; rw [← ofB_bits (ciIn_facts f2).1, hb, e, ofB_bits HV.out]
        have hstep : perB (bits s) (5000 - k) (k + 1) = if cturns (k + 1) (bits s) = bits s then k + 1 else perB (bits s) (5000 - (k + 1)) (k + 1 + 1) := by
          rw [show 5000 - k = (5000 - (k + 1)) + 1 by omega]
          rfl
        obtain ⟨y, hy⟩ : ∃ y, y = ctS t := ⟨_, rfl⟩
        rw [← hy] at CT hst hb f2
        by_cases he : y = s
        · have HF : Hid (r = k + 1) := by show _ = _; rw [← k3, hstep, if_pos (hst.1 he)]
          clear k1 k2 k3 f1 f2 f3 hb hst hstep hy HK
          subst he
          go_wp2_with fail
          refine CT.out.mono ?_
          rintro e w2 ⟨rfl, hb2⟩
          have HB2 := hide (HB.out.trans (hb2.mono HB.out.size))
          clear hb2
          go_wp2_with fail
          go_ret2
          exact ⟨by rw [HF.out]; rfl, HB2.out⟩
        · have HN : Hid (ciIn y = true ∧ bits y = cturns (k + 1) (bits s) ∧ perB (bits s) (5000 - (k + 1)) (k + 1 + 1) = r) := ⟨f2, hb, by rw [← k3, hstep, if_neg (fun h => he (hst.2 h))]⟩
          have hq : (y.toList == s.toList) = false := by
            rw [beq_eq_false_iff_ne]
            intro h
            rw [ByteArray.toList_eq, ByteArray.toList_eq] at h
            exact he (by rw [← ofL_lst y, ← ofL_lst s]; unfold lst; rw [h])
          clear k1 k2 k3 f1 f2 f3 hb hst hstep hy HK
          go_wp2_with fail
          refine CT.out.mono ?_
          rintro e w2 ⟨rfl, hb2⟩
          have HB2 := hide (HB.out.trans (hb2.mono HB.out.size))
          clear hb2
          go_wp2_with fail
          go_roundw
          case rel => exact ⟨y, k + 1, rfl, by go_num, by omega, HN, HB2⟩
          case measure => simp [Go.RowKit.intOf]; omega
      · have hk5 : k = 5000 := by omega
        have HF : Hid (r = 0) := by show _ = _; rw [← HK.out.2.2, hk5]; rfl
        have hle : ¬ (k : Int) + 1 ≤ 5000 := by omega
        clear hk5
        go_wp2
        go_ret2
        exact ⟨by rw [HF.out]; rfl, HB.out⟩
end Go.Proofs.Ytkdhifofdghbbab
