/- THE WALK of turn: all pairs are exchanged. -/
import Derived.Test.YtkdhifofdghbbaaIPairs
namespace Go.Proofs.Ytkdhifofdghbbaa
open Go.RowKit

theorem exr_take {sg : List Bool} {Q : List (List (Nat × Nat))} {k : Nat} {ps : List (Nat × Nat)} (h : Q[k]? = some ps) : exr sg (Q.take (k + 1)) = exa (exr sg (Q.take k)) ps := by
  obtain ⟨hk, he⟩ := List.getElem?_eq_some_iff.1 h
  rw [List.take_succ_eq_append_getElem hk, exr_snoc, he]
theorem exa_take {sg : List Bool} {ps : List (Nat × Nat)} {j : Nat} {p : Nat × Nat} (h : ps[j]? = some p) : exa sg (ps.take (j + 1)) = exc (exa sg (ps.take j)) p := by
  obtain ⟨hk, he⟩ := List.getElem?_eq_some_iff.1 h
  rw [List.take_succ_eq_append_getElem hk, exa_snoc, he]

theorem rowK_len {w : World} {B e n s : Nat} {v : Value} {xs : List Value} (h : w.ownsRow B e s v n xs) : n ≤ 9223372036854775807 := by
  rcases h.2 with ⟨_, h0⟩ | ⟨g, cap, cur, _, _, _, h1, h2, _⟩
  · omega
  · unfold maxLen at h2
    omega

set_option maxRecDepth 100000 in
set_option maxHeartbeats 4000000 in
theorem turn_any (B n cap : Nat) (sg : List Bool) (A0 H0 : Nat → Option Addr) (w : World) (hn : 0 < n) (hm : n ≤ 60) (hB : B < w.heap.size) (h : BX w B n sg A0 H0) (hd : drf sg < 0) :
    Calls Try.prog 43 #[.slice (some ⟨B, 0, none⟩) n cap] w fun o w' => o = .returned (.tuple #[]) ∧ (∃ A H, BX w' B n (cturn sg) A H) ∧ Below B w w' := by
  have CP := hide (pairs_any B n cap sg A0 H0 w hn hm hB h hd)
  clear h hd
  go_enter Try.func43, Try.ntmps43
  go_wp2_with fail
  refine CP.out.mono ?_
  rintro e w1 ⟨v, Q, A, H, rfl, hx, ⟨vs, hv1, hv2⟩, hex, _, hq, hql, hb⟩
  obtain ⟨a, c, rfl, hag⟩ := rowK_slice hv1
  obtain ⟨m, hm2⟩ : ∃ m, m = Q.length := ⟨_, rfl⟩
  rw [← hm2] at hv1 hql hag ⊢
  have HM := hide hm2
  have HX0 := hide hx
  have HV1 := hide hv1
  have HV2 := hide hv2
  have HEX := hide hex
  have HQ := hide hq
  have HB := hide hb
  have hsz := hb.size
  clear hm2 hx hv1 hv2 hex hq hb CP
  go_wp2_with fail
  go_loopw [3, 5, 9] (fun _ _ i wr => ∃ k : Nat, k ≤ m ∧ i = .int .i64 (k : Int) ∧ Hid (BX wr B n (exr sg (Q.take k)) A H) ∧ Hid (Ex B w1 wr)) (fun _ _ i _ => m - (intOf i).toNat)
  case atStart => exact ⟨0, Nat.zero_le _, rfl, by rw [List.take_zero]; exact HX0.out, Ex.refl _ _⟩
  case round =>
    obtain ⟨k, hk, rfl, HX, HE⟩ := hrel
    obtain ⟨W1, rfl⟩ : ∃ W, W = wr := ⟨wr, rfl⟩
    by_cases hlt : k < m
    · obtain ⟨g, rfl⟩ := hag (by omega)
      obtain ⟨ps, hps⟩ : ∃ ps, Q[k]? = some ps := ⟨_, List.getElem?_eq_getElem (by rw [← HM.out]; exact hlt)⟩
      have hvl : vs.length = m := by have := HV1.out.1; omega
      obtain ⟨x, hx⟩ : ∃ x, vs[k]? = some x := ⟨_, List.getElem?_eq_getElem (by rw [hvl]; exact hlt)⟩
      have hrow := HV2.out k x ps hx hps
      have hgl := (HV1.out.lt g rfl)
      have c1 := ((HE.out.cells (by omega) hgl.2 (rowK_cells HV1.out)) k x hx).1
      obtain ⟨ax, cx, rfl, haxg⟩ := rowK_slice hrow
      have hpl := rowK_len hrow
      have HQP := hide (HQ.out ps (List.mem_of_getElem? hps))
      have HTK := hide (exr_take (sg := sg) hps)
      obtain ⟨q, hq⟩ : ∃ q, q = ps.length := ⟨_, rfl⟩
      rw [← hq] at hrow haxg hpl c1
      have HROW := hide hrow
      have HQL := hide hq
      have i1' : (0 : Int) ≤ (k : Int) := by omega
      have i2' : (k : Int) < (m : Int) := by omega
      have HBW : Hid (B < W1.heap.size) := by have := HE.out.size; show B < _; omega
      clear hx hps hrow hq hvl
      go_wp2_with fail
      go_loopw [5, 15] (fun _ i wr => ∃ j : Nat, j ≤ q ∧ i = .int .i64 (j : Int) ∧ Hid (BX wr B n (exa (exr sg (Q.take k)) (ps.take j)) A H) ∧ Hid (Ex B w1 wr)) (fun _ i _ => q - (intOf i).toNat)
      case atStart => exact ⟨0, Nat.zero_le _, rfl, by rw [List.take_zero]; exact HX.out, HE⟩
      case round =>
        obtain ⟨j, hj, rfl, HY, HF⟩ := hrel
        by_cases hlt2 : j < q
        · obtain ⟨gx, rfl⟩ := haxg (by omega)
          obtain ⟨⟨b, e⟩, hp⟩ : ∃ p, ps[j]? = some p := ⟨_, List.getElem?_eq_getElem (by rw [← HQL.out]; exact hlt2)⟩
          obtain ⟨p1, p2, p3⟩ := HQP.out (b, e) (List.mem_of_getElem? hp)
          have hxl := HROW.out.lt gx rfl
          have hcs := HF.out.cells (by omega) hxl.2 (rowK_cells HROW.out)
          have a1 := (hcs (j * 2) _ (pcs_get B _ j _ hp).1).1
          have a2 := (hcs (j * 2 + 1) _ (pcs_get B _ j _ hp).2).1
          have HTJ := hide (exa_take (sg := exr sg (Q.take k)) hp)
          have hBw : B < wr.heap.size := by have := HF.out.size; omega
          have HY2 := hide (HY.out.alloc hBw (.cells #[pt B b, pt B e] 80))
          have HF2 := hide (HF.out.alloc (.cells #[pt B b, pt B e] 80))
          have T1 := hide (fun (W : World) (hW : BX W B n (exa (exr sg (Q.take k)) (ps.take j)) A H) (hz : B < W.heap.size) => exchange_any B n b e _ A H W hW p1 p2 p3 hz)
          have i1' : (0 : Int) ≤ (j : Int) := by omega
          have i2' : (j : Int) < (q : Int) := by omega
          simp only at a1 a2
          unfold pt at a1 a2 HY2 HF2
          clear p1 p2 p3 hp hcs
          go_wp2_with fail
          refine (T1.out _ HY2.out (by rw [World.size_alloc]; omega)).mono ?_
          rintro o w6 ⟨rfl, h6, x6⟩
          have HY6 : Hid (BX w6 B n (exa (exr sg (Q.take k)) (ps.take (j + 1))) A H) := by show BX _ _ _ _ _ _; rw [HTJ.out]; exact h6
          have HF6 := hide (HF2.out.trans x6)
          clear h6 x6 T1
          go_wp2_with fail
          go_roundw
          case rel => exact ⟨j + 1, by omega, by go_num, HY6, HF6⟩
          case measure => simp [intOf]; omega
        · have hjq : j = q := by omega
          subst hjq
          have HY2 : Hid (BX wr B n (exr sg (Q.take (k + 1))) A H) := by
            have := HY.out
            have htk : ps.take j = ps := List.take_of_length_le (by rw [HQL.out]; exact Nat.le_refl _)
            rw [htk, ← HTK.out] at this
            exact this
          go_wp2_with fail
          exact ⟨⟨k + 1, by omega, by go_num, HY2, HF⟩, by simp [intOf]; omega⟩
    · have hkm : k = m := by omega
      subst hkm
      have HF : Hid (BX W1 B n (cturn sg) A H) := by
        have := HX.out
        rw [List.take_of_length_le (by rw [HM.out]; exact Nat.le_refl _), HEX.out] at this
        exact this
      have HBF := hide (HB.out.trans (HE.out.below (Nat.le_refl _) (by omega)))
      go_wp2_with fail
      go_end0
      exact ⟨rfl, ⟨_, _, HF.out⟩, HBF.out⟩
end Go.Proofs.Ytkdhifofdghbbaa
