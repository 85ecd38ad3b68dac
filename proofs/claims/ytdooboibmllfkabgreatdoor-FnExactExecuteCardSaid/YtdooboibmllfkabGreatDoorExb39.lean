/- TEXTS IPairs, ITurn, IRev, ICir0. -/
import Derived.Test.YtdooboibmllfkabGreatDoorExb37
import Derived.Test.YtdooboibmllfkabGreatDoorExb38
import Derived.RegionTactic
import Derived.BigRegion
import Derived.Test.YtdooboibmllfkabGreatDoorExb14
namespace Go.Proofs.YtdooboibmllfkabGreatDoor
set_option maxRecDepth 100000
open Go.RowKit

theorem infoPair : (Tryz.prog.info? 181).map (fun i => (i.zero, i.size, i.bytes)) = some (some (.agg #[.pointer none, .pointer none]), 2, 16) := by kernel_rfl
theorem infoRow : (Tryz.prog.info? 179).map (fun i => (i.zero, i.size, i.bytes)) = some (some (.slice none 0 0), 1, 24) := by kernel_rfl
theorem rowK_below {w w' : World} {B b e n s : Nat} {v : Value} {xs : List Value} (h : w.ownsRow b e s v n xs) (hb : Below B w w') (hB : w.heap.size ≤ B) : w'.ownsRow b e s v n xs := by
  refine ⟨h.1, h.2.elim .inl ?_⟩
  rintro ⟨g, cap, cur, h1, h2, h3, h4⟩
  exact .inr ⟨g, cap, cur, h1, h2, (hb.block g (Nat.lt_of_lt_of_le (Array.getElem?_eq_some_iff.1 h3).1 hB)).trans h3, h4⟩
theorem rowK_lo {w : World} {b b' e n s : Nat} {v : Value} {xs : List Value} (h : w.ownsRow b e s v n xs) (hb : b' ≤ b) : w.ownsRow b' e s v n xs := by
  refine ⟨h.1, h.2.elim .inl ?_⟩
  rintro ⟨g, cap, cur, h1, h2, h4⟩
  exact .inr ⟨g, cap, cur, h1, by omega, h4⟩
theorem rowK_apart {w : World} {base base' e e' size size' n n' : Nat} {v v' : Value} {xs xs' : List Value} (h : w.ownsRow base e size v n xs) (h' : w.ownsRow base' e' size' v' n' xs') (hne : e ≠ e') : v.ownBlock = none ∨ v.ownBlock ≠ v'.ownBlock := by
  rcases h.2 with ⟨rfl, _⟩ | ⟨g, cap, cur, rfl, hb, hg, _⟩
  · exact .inl rfl
  · refine .inr (fun he => ?_)
    rcases h'.2 with ⟨rfl, _⟩ | ⟨g', cap', cur', rfl, hb', hg', _⟩
    · simp [Value.ownBlock] at he
    · simp [Value.ownBlock] at he
      subst he
      rw [hg] at hg'
      injection hg' with hg'
      injection hg' with _ h2 _
      exact hne h2
theorem rowK_slice {w : World} {B e n s : Nat} {v : Value} {xs : List Value} (h : w.ownsRow B e s v n xs) : ∃ a c, v = .slice a n c ∧ (0 < n → ∃ g, a = some ⟨g, 0, none⟩) := by
  rcases h.2 with ⟨rfl, rfl⟩ | ⟨g, cap, cur, rfl, _⟩
  · exact ⟨_, _, rfl, fun h => by omega⟩
  · exact ⟨_, _, rfl, fun _ => ⟨g, rfl⟩⟩
theorem rowK_cells {w : World} {B e n s g c : Nat} {xs : List Value} (h : w.ownsRow B e s (.slice (some ⟨g, 0, none⟩) n c) n xs) : CellsAt w g xs := by
  intro j v hj
  have hl : j < n * s := by rw [← h.1]; exact (List.getElem?_eq_some_iff.1 hj).1
  exact ⟨by rw [h.cellAt j hl]; exact hj, h.frozenAt j⟩
def pcs (B : Nat) (ps : List (Nat × Nat)) : List Value := ps.flatMap fun p => [pt B p.1, pt B p.2]
theorem pcs_snoc (B : Nat) (ps : List (Nat × Nat)) (a b : Nat) : pcs B (ps ++ [(a, b)]) = pcs B ps ++ [pt B a, pt B b] := by unfold pcs; rw [List.flatMap_append]; rfl
theorem pcs_get (B : Nat) : ∀ (ps : List (Nat × Nat)) (j : Nat) (p : Nat × Nat), ps[j]? = some p → (pcs B ps)[j * 2]? = some (pt B p.1) ∧ (pcs B ps)[j * 2 + 1]? = some (pt B p.2) := by
  intro R
  induction R with
  | nil => intro j p h; simp at h
  | cons x R ih =>
    intro j p h
    have e : pcs B (x :: R) = pt B x.1 :: pt B x.2 :: pcs B R := rfl
    cases j with
    | zero => simp at h; subst h; exact ⟨rfl, rfl⟩
    | succ j =>
      obtain ⟨h1, h2⟩ := ih j p (by simpa using h)
      rw [e, show (j + 1) * 2 = j * 2 + 1 + 1 by omega]
      exact ⟨by simpa using h1, by simpa using h2⟩
theorem cell_two (w : World) (x y : Value) (t : TypeId) : ∀ j u, [x, y][j]? = some u → (w.alloc (.cells #[x, y] t)).cell? ((⟨w.heap.size, 0, none⟩ : Addr).add j) = some u := by
  intro j u hj
  match j, hj with
  | 0, hj => simp at hj; subst hj; simp [Addr.add]
  | 1, hj => simp at hj; subst hj; simp [Addr.add]
theorem one_two (B x y : Nat) : ∀ u ∈ [pt B x, pt B y], u.oneCell' = true := by intro u hu; simp at hu; rcases hu with rfl | rfl <;> rfl

structure IR (sg : List Bool) (B R : Nat) (H : Nat → Nat) (bs : List Nat) (w : World) (pv uv : Value) (wr : World) : Prop where
  p : wr.ownsRow R 181 2 pv (prs sg H bs).length (pcs B (prs sg H bs))
  u : wr.ownsRow R 174 1 uv (uns sg H bs).length ((uns sg H bs).map (pt B))
  b : Below R w wr
  z : R ≤ wr.heap.size
theorem IR.start (sg : List Bool) (B : Nat) (H : Nat → Nat) (w : World) : IR sg B w.heap.size H [] w (.slice none 0 0) (.slice none 0 0) w :=
  ⟨World.ownsRow_nil _ _ _ _, World.ownsRow_nil _ _ _ _, Below.refl _ _, Nat.le_refl _⟩
theorem IR.growU {sg : List Bool} {B R : Nat} {H : Nat → Nat} {bs bs' : List Nat} {b : Nat} {w wr w' : World} {pv uv u' : Value} (h : IR sg B R H bs w pv uv wr) {o : Obj}
    (hown : w'.ownsRow R 174 1 u' ((uns sg H bs).length + 1) ((uns sg H bs).map (pt B) ++ [pt B b])) (hg : (wr.alloc o).grownBy w' uv.ownBlock)
    (e1 : prs sg H bs' = prs sg H bs) (e2 : uns sg H bs' = uns sg H bs ++ [b]) : IR sg B R H bs' w pv u' w' := by
  have hb : Below R wr w' := ((Below.refl R wr).alloc h.z _).grown hg (by rw [World.size_alloc]; have := h.z; omega) (fun b e => (h.u.lt b e).1)
  refine ⟨by rw [e1]; exact (h.p.alloc o).kept hg (rowK_apart (h.p.alloc o) (h.u.alloc o) (by decide)), ?_, h.b.trans hb, by have := hb.size; have := h.z; omega⟩
  rw [e2, List.length_append, List.map_append]
  exact hown
theorem IR.growP {sg : List Bool} {B R : Nat} {H : Nat → Nat} {bs bs' : List Nat} {b : Nat} {w wr w' : World} {pv uv p' : Value} (h : IR sg B R H bs w pv uv wr) {o : Obj}
    (hown : w'.ownsRow R 181 2 p' ((prs sg H bs).length + 1) (pcs B (prs sg H bs) ++ [pt B b, pt B (H b)])) (hg : (wr.alloc o).grownBy w' pv.ownBlock)
    (e1 : prs sg H bs' = prs sg H bs ++ [(b, H b)]) (e2 : uns sg H bs' = uns sg H bs) : IR sg B R H bs' w p' uv w' := by
  have hb : Below R wr w' := ((Below.refl R wr).alloc h.z _).grown hg (by rw [World.size_alloc]; have := h.z; omega) (fun b e => (h.p.lt b e).1)
  refine ⟨?_, by rw [e2]; exact (h.u.alloc o).kept hg (rowK_apart (h.u.alloc o) (h.p.alloc o) (by decide)), h.b.trans hb, by have := hb.size; have := h.z; omega⟩
  rw [e1, List.length_append, pcs_snoc]
  exact hown
def RV (B R : Nat) (w : World) (v : Value) (Q : List (List (Nat × Nat))) : Prop :=
  ∃ vs : List Value, w.ownsRow R 179 1 v Q.length vs ∧ ∀ (k : Nat) (x : Value) (ps : List (Nat × Nat)), vs[k]? = some x → Q[k]? = some ps → w.ownsRow R 181 2 x ps.length (pcs B ps)
theorem RV.start (B R : Nat) (w : World) : RV B R w (.slice none 0 0) [] := ⟨[], World.ownsRow_nil _ _ _ _, fun k x ps h => by simp at h⟩
theorem RV.below {B R C : Nat} {w w' : World} {v : Value} {Q : List (List (Nat × Nat))} (h : RV B R w v Q) (hb : Below C w w') (hC : w.heap.size ≤ C) : RV B R w' v Q := by
  obtain ⟨vs, h1, h2⟩ := h
  exact ⟨vs, rowK_below h1 hb hC, fun k x ps a b => rowK_below (h2 k x ps a b) hb hC⟩
theorem RV.ex {B R : Nat} {w w' : World} {v : Value} {Q : List (List (Nat × Nat))} (h : RV B R w v Q) (hb : Ex B w w') (hR : B < R) : RV B R w' v Q := by
  obtain ⟨vs, h1, h2⟩ := h
  exact ⟨vs, hb.owns hR h1, fun k x ps a b => hb.owns hR (h2 k x ps a b)⟩
theorem RV.grow {B R : Nat} {w w' : World} {v v' pv : Value} {Q : List (List (Nat × Nat))} {ps : List (Nat × Nat)} {vs : List Value} {o : Obj}
    (h1 : w.ownsRow R 179 1 v Q.length vs) (h2 : ∀ (k : Nat) (x : Value) (ps : List (Nat × Nat)), vs[k]? = some x → Q[k]? = some ps → w.ownsRow R 181 2 x ps.length (pcs B ps))
    (hp : w.ownsRow R 181 2 pv ps.length (pcs B ps))
    (hown : w'.ownsRow R 179 1 v' (Q.length + 1) (vs ++ [pv])) (hg : (w.alloc o).grownBy w' v.ownBlock) : RV B R w' v' (Q ++ [ps]) := by
  have hl : vs.length = Q.length := by have := h1.1; omega
  refine ⟨vs ++ [pv], by rw [List.length_append]; exact hown, ?_⟩
  intro k x qs hx hq
  by_cases hk : k < Q.length
  · rw [List.getElem?_append_left (by omega)] at hx hq
    have h3 := h2 k x qs hx hq
    exact (h3.alloc o).kept hg (rowK_apart (h3.alloc o) (h1.alloc o) (by decide))
  · have hkq : k = Q.length := by
      have := (List.getElem?_eq_some_iff.1 hq).1
      rw [List.length_append] at this
      simp at this
      omega
    subst hkq
    rw [← hl, List.getElem?_concat_length] at hx
    rw [List.getElem?_concat_length] at hq
    injection hx with hx
    injection hq with hq
    subst hx hq
    exact (hp.alloc o).kept hg (rowK_apart (hp.alloc o) (h1.alloc o) (by decide))
structure OR (B n R : Nat) (sg : List Bool) (w : World) (L : List Nat) (H A : Nat → Nat) (Q : List (List (Nat × Nat))) (rv lv : Value) (wr : World) : Prop where
  rp : RP sg L H A Q
  bx : BX wr B n sg (lp B A) (lp B H)
  l : wr.ownsRow R 174 1 lv (lbs sg L).length ((lbs sg L).map (pt B))
  r : RV B R wr rv Q
  b : Below B w wr
  z : R ≤ wr.heap.size
  s : Q.length + (lbs sg L).length ≤ n

theorem OR.rows {B n R : Nat} {sg : List Bool} {w W1 W2 W3 : World} {L : List Nat} {H A : Nat → Nat} {Q : List (List (Nat × Nat))} {rv lv pv uv : Value} (h : OR B n R sg w L H A Q rv lv W1) (hB : B < R)
    (hi : IR sg B W1.heap.size H (lbs sg L) W1 pv uv W2) (hx : Ex B W2 W3) :
    ∃ vs, W3.ownsRow R 179 1 rv Q.length vs ∧ (∀ (k : Nat) (x : Value) (ps : List (Nat × Nat)), vs[k]? = some x → Q[k]? = some ps → W3.ownsRow R 181 2 x ps.length (pcs B ps)) ∧
      W3.ownsRow R 181 2 pv (prs sg H (lbs sg L)).length (pcs B (prs sg H (lbs sg L))) ∧ W3.ownsRow R 174 1 uv (uns sg H (lbs sg L)).length ((uns sg H (lbs sg L)).map (pt B)) := by
  obtain ⟨vs, h1, h2⟩ := (h.r.below hi.b (Nat.le_refl _)).ex hx hB
  have hz := h.z
  exact ⟨vs, h1, h2, rowK_lo (hx.owns (by omega) hi.p) hz, rowK_lo (hx.owns (by omega) hi.u) hz⟩
theorem OR.next {B n R : Nat} {sg : List Bool} {w W1 W2 W3 w4 : World} {L : List Nat} {H A H' A' : Nat → Nat} {Q : List (List (Nat × Nat))} {rv rv' lv pv uv : Value} {vs : List Value} {o : Obj} (h : OR B n R sg w L H A Q rv lv W1) (hB : B < R) (hwR : R = w.heap.size)
    (hl : lbs sg L ≠ []) (hi : IR sg B W1.heap.size H (lbs sg L) W1 pv uv W2) (hx : Ex B W2 W3) (hk : Lk H' A' (rest L (flt (prs sg H (lbs sg L))))) (hb : BX W3 B n sg (lp B A') (lp B H'))
    (h1 : W3.ownsRow R 179 1 rv Q.length vs) (h2 : ∀ (k : Nat) (x : Value) (ps : List (Nat × Nat)), vs[k]? = some x → Q[k]? = some ps → W3.ownsRow R 181 2 x ps.length (pcs B ps))
    (hp : W3.ownsRow R 181 2 pv (prs sg H (lbs sg L)).length (pcs B (prs sg H (lbs sg L)))) (hu : W3.ownsRow R 174 1 uv (uns sg H (lbs sg L)).length ((uns sg H (lbs sg L)).map (pt B)))
    (hown : w4.ownsRow R 179 1 rv' (Q.length + 1) (vs ++ [pv])) (hg : (W3.alloc o).grownBy w4 rv.ownBlock) : OR B n R sg w (nxt sg L) H' A' (Q ++ [prs sg H (lbs sg L)]) rv' uv w4 := by
  have hz := h.z
  have hz2 := hi.z
  have hz3 := hx.size
  rw [rest_end h.rp.lk] at hk
  have hb4 : Below R W3 w4 := ((Below.refl R W3).alloc (by omega) _).grown hg (by rw [World.size_alloc]; omega) (fun b e => (h1.lt b e).1)
  have hbw : Below B w W3 := (h.b.trans (hi.b.mono (by omega))).trans (hx.below (Nat.le_refl _) (by omega))
  refine ⟨h.rp.next hl hk, hb.below hb4 hB, ?_, RV.grow h1 h2 hp hown hg, hbw.trans (hb4.mono (Nat.le_of_lt hB)), by have := hb4.size; omega, ?_⟩
  · rw [← lk_uns h.rp.lk]
    exact (hu.alloc o).kept hg (rowK_apart (hu.alloc o) (h1.alloc o) (by decide))
  · have h3 := rp_fewer h.rp hl
    have h4 := h.s
    rw [List.length_append, List.length_singleton]
    omega

set_option maxRecDepth 100000 in
set_option maxHeartbeats 4000000 in
theorem pairs_any (B n cap : Nat) (sg : List Bool) (A0 H0 : Nat → Option Addr) (w : World) (hn : 0 < n) (hm : n ≤ 60) (hB : B < w.heap.size) (h : BX w B n sg A0 H0) (hd : drf sg < 0) :
    Calls Tryz.prog 181 #[.slice (some ⟨B, 0, none⟩) n cap] w fun o w' => ∃ v Q A H, o = .returned v ∧ BX w' B n sg A H ∧ RV B w.heap.size w' v Q ∧ exr sg Q = cturn sg ∧ Q.map List.length = cnt10 (nballs sg) sg ∧
      (∀ ps ∈ Q, ∀ p ∈ ps, p.1 < n ∧ p.2 < n ∧ p.1 ≠ p.2) ∧ Q.length ≤ n ∧ Below B w w' := by
  obtain ⟨i0, hi, hz0, hz1, hz2⟩ := info_parts infoPtr
  obtain ⟨j0, hj, hy0, hy1, hy2⟩ := info_parts infoPair
  obtain ⟨k0, hkk, hx0, hx1, hx2⟩ := info_parts infoRow
  have hlen := h.len
  have CL := hide (link_any B n cap sg A0 H0 w hn hm h)
  have HD := hide hd
  have HLEN := hide hlen
  clear h hd hlen
  obtain ⟨R, hR⟩ : ∃ R, R = w.heap.size := ⟨_, rfl⟩
  have HR := hide hR
  rw [← hR] at hB ⊢
  clear hR
  go_enter Tryz.func181, Tryz.ntmps181
  go_wp2_with (go_at_call 203; refine CL.out.mono ?_; rintro e w1 ⟨rfl, hx1, hx2⟩)
  have hs1 := hx2.size
  rw [← HR.out] at hs1
  have CB := hide (cBalls_any B n cap sg _ _ w1 hm (by omega) hx1)
  have BX1 := hide hx1
  have EX1 := hide hx2
  clear hx1 hx2
  go_wp2_with (go_at_call 204; refine CB.out.mono ?_; rintro e w2 ⟨v, rfl, ho, hb⟩)
  have HS : Hid (OR B n R sg w (List.range n) (lnH n) (lnA n) [] (.slice none 0 0) v w2) := by
    have hs2 := hb.size
    refine ⟨?_, BX1.out.below hb (by omega), rowK_lo ho hs1, RV.start _ _ _, (EX1.out.below (Nat.le_refl _) (by rw [← HR.out]; omega)).trans (hb.mono (by omega)), by omega, by have := lbs_le sg n; simpa using this⟩
    have := RP.start HD.out (H := lnH n) (A := lnA n) (by rw [HLEN.out]; exact lk_start (fun _ _ => rfl) (fun _ _ => rfl))
    rw [HLEN.out] at this
    exact this
  obtain ⟨al, cl, rfl, _⟩ := rowK_slice ho
  clear ho hb CB BX1 EX1 CL hs1
  go_loopw [3, 4, 5, 6, 8, 10] (fun rv lv _ _ _ _ wr => ∃ L H A Q, Hid (OR B n R sg w L H A Q rv lv wr)) (fun _ lv _ _ _ _ _ => match lv with | .slice _ n _ => n | _ => 0)
  case atStart => exact ⟨_, _, _, _, HS⟩
  case round =>
    obtain ⟨L, H, A, Q, HO⟩ := hrel
    obtain ⟨W1, rfl⟩ : ∃ W, W = wr := ⟨wr, rfl⟩
    obtain ⟨rv, rfl⟩ : ∃ x, x = u3 := ⟨u3, rfl⟩
    obtain ⟨a, c, rfl, hag⟩ := rowK_slice HO.out.l
    obtain ⟨m, hm2⟩ : ∃ m, m = (lbs sg L).length := ⟨_, rfl⟩
    rw [← hm2] at hag ⊢
    have hml : m ≤ 60 := by have := HO.out.s; omega
    have HM := hide hm2
    clear hm2
    by_cases hm0 : m = 0
    · subst hm0
      have hnil : lbs sg L = [] := List.eq_nil_of_length_eq_zero HM.out.symm
      have HDN := hide (HO.out.rp.done hnil)
      have HMM : Hid (∀ ps ∈ Q, ∀ p ∈ ps, p.1 < n ∧ p.2 < n ∧ p.1 ≠ p.2) := by
        intro ps hps p hp
        obtain ⟨b1, b2, b3, b4⟩ := HO.out.rp.mem ps hps p hp
        rw [HLEN.out] at b1 b2
        exact ⟨b1, b2, fun e => by rw [e, b4] at b3; cases b3⟩
      clear hnil hag
      go_wp2_with fail
      go_ret
      exact ⟨_, Q, _, _, rfl, HO.out.bx, HO.out.r, HDN.out.1, HDN.out.2, HMM.out, by have := HO.out.s; omega, HO.out.b⟩
    · have hm1 : 0 < m := by omega
      obtain ⟨ga, rfl⟩ := hag hm1
      have hm2 : (0 : Int) < (m : Int) := by omega
      obtain ⟨R2, hR2⟩ : ∃ R2, R2 = W1.heap.size := ⟨_, rfl⟩
      have HR2 := hide hR2
      have hRR : R ≤ R2 := by have := HO.out.z; omega
      have HLC := hide (rowK_cells HO.out.l)
      have HIR : Hid (IR sg B R2 H ((lbs sg L).take 0) W1 (.slice none 0 0) (.slice none 0 0) W1) := by rw [hR2, List.take_zero]; exact IR.start sg B H W1
      clear hR2
      go_wp2_with fail
      go_loopw [5, 6, 8, 20] (fun pv uv _ i wr2 => ∃ k : Nat, k ≤ m ∧ i = .int .i64 (k : Int) ∧ Hid (IR sg B R2 H ((lbs sg L).take k) W1 pv uv wr2)) (fun _ _ _ i _ => m - (Go.RowKit.intOf i).toNat)
      case atStart => exact ⟨0, Nat.zero_le _, rfl, HIR⟩
      case round =>
        obtain ⟨k, hk, rfl, HI⟩ := hrel
        have hpl := prs_le sg H ((lbs sg L).take k)
        have hul := uns_le sg H ((lbs sg L).take k)
        rw [List.length_take] at hpl hul
        by_cases hlt : k < m
        · obtain ⟨b, hb⟩ : ∃ b, (lbs sg L)[k]? = some b := ⟨_, List.getElem?_eq_getElem (by rw [← HM.out]; exact hlt)⟩
          have hbm := lbs_mem.1 (List.mem_of_getElem? hb)
          have hbn : b < n := by rw [← HLEN.out]; exact HO.out.rp.stg.2.1 b hbm.1
          have hhn : H b < n := by rw [← HLEN.out]; exact HO.out.rp.stg.2.1 _ (HO.out.rp.lk.behind hbm.1).1
          have hBX := HO.out.bx.below HI.out.b (show B < R2 by omega)
          obtain ⟨x, hx⟩ : ∃ x, sg[H b]? = some x := ⟨_, List.getElem?_eq_getElem (by rw [HLEN.out]; exact hhn)⟩
          have hxb : bl sg (H b) = x := by unfold bl; rw [List.getD_eq_getElem?_getD, hx]; rfl
          obtain ⟨a2, f2⟩ := hBX.h b hbn
          obtain ⟨a3, f3⟩ := hBX.s (H b) x hx
          have hpt := hide (prs_take (l := sg) (H := H) hb)
          rw [hxb] at hpt
          have hcl := HLC.out.below' HI.out.b (by rw [HR2.out]; exact Nat.le_refl _)
          have a1 : wr.cell? ⟨ga, k, none⟩ = some (.pointer (some ⟨B, b * 3, none⟩)) := (hcl k (pt B b) (by rw [List.getElem?_map, hb]; rfl)).1
          have i1' : (0 : Int) ≤ (k : Int) := by omega
          have i2' : (k : Int) < (m : Int) := by omega
          unfold lp at a2
          have hz := HI.out.z
          have HBI := hide hbm.1
          clear hbm hb hx hxb hcl hBX f2 f3
          cases x
          · go_wp2_with (at_builtin; refine wpList_append_own _ rfl _ _ 179 rfl R2 181 j0 (.agg #[.pointer none, .pointer none]) 2 16 Tryz.underlying179 hj hy0 hy1 hy2 rfl (by decide) _ _ _ rfl (HI.out.p.alloc _) ⟨wr.heap.size, 0, none⟩ 1 1 [pt B b, pt B (H b)] rfl rfl (cell_two _ _ _ _) (one_two _ _ _) (by unfold maxLen; omega) (by omega) (by rw [World.size_alloc]; omega) ?_; intro p' w5 hown5 hgrow5 _)
            have HI2 := hide (HI.out.growP hown5 hgrow5 hpt.out.1 (hpt.out.2.trans (List.append_nil _)))
            clear hown5 hgrow5
            go_roundw
            case rel => exact ⟨k + 1, by omega, by go_num, HI2⟩
            case measure => simp [Go.RowKit.intOf]; omega
          · go_wp2_with (at_builtin; refine wpList_append_own _ rfl _ _ 214 rfl R2 174 i0 (.pointer none) 1 8 Tryz.underlying214 hi hz0 hz1 hz2 rfl (by decide) _ _ _ rfl (HI.out.u.alloc _) ⟨wr.heap.size, 0, none⟩ 1 1 [pt B b] rfl rfl (cell_one_new _ _ _) (one_pt B b) (by unfold maxLen; omega) (by omega) (by rw [World.size_alloc]; omega) ?_; intro u' w5 hown5 hgrow5 _)
            have HI2 := hide (HI.out.growU hown5 hgrow5 (hpt.out.1.trans (List.append_nil _)) hpt.out.2)
            clear hown5 hgrow5
            go_roundw
            case rel => exact ⟨k + 1, by omega, by go_num, HI2⟩
            case measure => simp [Go.RowKit.intOf]; omega
        · have hkm : k = m := by omega
          subst hkm
          have hfull : (lbs sg L).take k = lbs sg L := List.take_of_length_le (by rw [HM.out]; exact Nat.le_refl _)
          rw [hfull] at HI hpl hul
          obtain ⟨ap, cp, hpv, hapg⟩ := rowK_slice HI.out.p
          obtain ⟨au, cu, huv, _⟩ := rowK_slice HI.out.u
          obtain ⟨q, hq⟩ : ∃ q, q = (prs sg H (lbs sg L)).length := ⟨_, rfl⟩
          obtain ⟨r, hr⟩ : ∃ r, r = (uns sg H (lbs sg L)).length := ⟨_, rfl⟩
          rw [← hq] at hpv hapg hpl
          rw [← hr] at huv hul
          subst hpv huv
          have HQ := hide hq
          have HRR := hide hr
          clear hfull hq hr
          have hql : q ≤ k := by rw [HM.out]; have := prs_le sg H (lbs sg L); rw [HQ.out]; exact this
          obtain ⟨W2, rfl⟩ : ∃ W, W = wr := ⟨wr, rfl⟩
          have HBX2 := hide (HO.out.bx.below HI.out.b (show B < R2 by omega))
          have HL0 : Hid (Lk H A (rest L (flt ((prs sg H (lbs sg L)).take 0)))) := by
            show Lk H A _
            rw [List.take_zero, flt_nil, rest_nil]
            exact HO.out.rp.lk
          have HPC : Hid (0 < q → ∃ gp, ap = some ⟨gp, 0, none⟩ ∧ ∀ W, Ex B W2 W → CellsAt W gp (pcs B (prs sg H (lbs sg L)))) := by
            intro hq0
            obtain ⟨gp, rfl⟩ := hapg hq0
            have hpr := HI.out.p
            rw [← HQ.out] at hpr
            have hc := rowK_cells hpr
            have hlt := HI.out.p.lt gp rfl
            exact ⟨gp, rfl, fun W hW => hW.cells (by omega) hlt.2 hc⟩
          clear hapg HIR
          go_wp2_with fail
          go_loopw [10, 47] (fun _ i wr3 => ∃ (j : Nat) (H' A' : Nat → Nat), j ≤ q ∧ i = .int .i64 (j : Int) ∧ Hid (Lk H' A' (rest L (flt ((prs sg H (lbs sg L)).take j)))) ∧ Hid (BX wr3 B n sg (lp B A') (lp B H')) ∧ Hid (Ex B W2 wr3)) (fun _ i _ => q - (Go.RowKit.intOf i).toNat)
          case atStart => exact ⟨0, H, A, Nat.zero_le _, rfl, HL0, HBX2, Ex.refl _ _⟩
          case round =>
            obtain ⟨j, H', A', hjq, rfl, HL, HX, HE⟩ := hrel
            by_cases hlt2 : j < q
            · obtain ⟨gp, rfl, hgc⟩ := HPC.out (by omega)
              obtain ⟨⟨b, e⟩, hp⟩ : ∃ p, (prs sg H (lbs sg L))[j]? = some p := ⟨_, List.getElem?_eq_getElem (by rw [← HQ.out]; exact hlt2)⟩
              obtain ⟨⟨p1, p2, p3, p4⟩, ⟨p5, p6, p7, p8⟩, p9⟩ := rp_pair HO.out.rp hp HL.out
              rw [HLEN.out] at p1 p2 p3 p5 p6 p7
              obtain ⟨a1, f1⟩ := hgc wr HE.out (j * 2) _ (pcs_get B _ j _ hp).1
              obtain ⟨a2, f2⟩ := hgc wr HE.out (j * 2 + 1) _ (pcs_get B _ j _ hp).2
              simp only at p1 p2 p3 p4 p5 p6 p7 p8 p9 a1 a2
              have T1 := hide (fun (W : World) (hW : BX W B n sg (lp B A') (lp B H')) => boxOut_any B n b sg A' H' W hW p1 p2 p3 p4)
              obtain ⟨A1, hA1⟩ : ∃ f, f = upd A' (H' b) (A' b) := ⟨_, rfl⟩
              obtain ⟨H1, hH1⟩ : ∃ f, f = upd H' (A' b) (H' b) := ⟨_, rfl⟩
              rw [← hA1, ← hH1] at T1 p9
              rw [← hA1] at p6 p8
              rw [← hH1] at p7
              have T2 := hide (fun (W : World) (hW : BX W B n sg (lp B A1) (lp B H1)) => boxOut_any B n e sg A1 H1 W hW p5 p6 p7 p8)
              have HL2 := hide p9
              have i1' : (0 : Int) ≤ (j : Int) := by omega
              have i2' : (j : Int) < (q : Int) := by omega
              have hBw : B < wr.heap.size := by have := HE.out.size; have := HI.out.z; omega
              have HX2 := hide (HX.out.alloc hBw (.cells #[pt B b, pt B e] 181))
              have HE2 := hide (HE.out.alloc (.cells #[pt B b, pt B e] 181))
              unfold pt at a1 a2 HX2 HE2
              clear p1 p2 p3 p4 p5 p6 p7 p8 p9 hA1 hH1 hp f1 f2 hgc
              go_wp2_with fail
              refine (T1.out _ HX2.out).mono ?_
              rintro o w6 ⟨rfl, h6, x6⟩
              have e6 := x6.block wr.heap.size (by rw [World.size_alloc]; omega) (by omega)
              have y1 : w6.cell? ⟨wr.heap.size, 1, none⟩ = some (.pointer (some ⟨B, e * 3, none⟩)) := (World.cell?_of_block (a := ⟨wr.heap.size, 1, none⟩) e6).trans (by rw [World.cell?_alloc_at _ _ _ _ rfl]; rfl)
              have HX6 := hide h6
              have HE6 := hide (HE2.out.trans x6)
              clear h6 x6 e6 T1
              go_wp2_with fail
              refine (T2.out _ HX6.out).mono ?_
              rintro o w7 ⟨rfl, h7, x7⟩
              have HX7 := hide h7
              have HE7 := hide (HE6.out.trans x7)
              clear h7 x7 T2
              go_wp2_with fail
              go_roundw
              case rel => exact ⟨j + 1, _, _, by omega, by go_num, HL2, HX7, HE7⟩
              case measure => simp [Go.RowKit.intOf]; omega
            · have hjq2 : j = q := by omega
              subst hjq2
              have hne : lbs sg L ≠ [] := fun e => hm0 (by rw [HM.out, e]; rfl)
              have HNE := hide hne
              have HIX : Hid (IR sg B W1.heap.size H (lbs sg L) W1 (.slice ap j cp) (.slice au r cu) W2) := by rw [← HR2.out]; exact HI.out
              obtain ⟨vs, v1, v2, v3, v4⟩ := HO.out.rows hB HIX.out HE.out
              have HV1 := hide v1
              have HV2 := hide v2
              have HV3 := hide v3
              have HV4 := hide v4
              have HLE : Hid (Lk H' A' (rest L (flt (prs sg H (lbs sg L))))) := by
                have := HL.out
                rw [List.take_of_length_le (by rw [HQ.out]; exact Nat.le_refl _)] at this
                exact this
              have hqs : Q.length ≤ 60 := by have := HO.out.s; omega
              have hwz : R ≤ wr.heap.size := by have := HE.out.size; have := HI.out.z; omega
              have HFW := hide (rp_fewer HO.out.rp hne)
              have HUL : Hid (r = (lbs sg (nxt sg L)).length) := by show _ = _; rw [HRR.out, lk_uns HO.out.rp.lk]
              clear v1 v2 v3 v4 hne HPC
              go_wp2_with (at_builtin; refine wpList_append_own _ rfl _ _ 177 rfl R 179 k0 (.slice none 0 0) 1 24 Tryz.underlying177 hkk hx0 hx1 hx2 rfl (by decide) _ _ _ rfl (HV1.out.alloc _) ⟨wr.heap.size, 0, none⟩ 1 1 [.slice ap j cp] rfl rfl (cell_one_new _ _ _) (by intro u hu; simp at hu; subst hu; rfl) (by unfold maxLen; omega) (by omega) (by rw [World.size_alloc]; omega) ?_; intro rv' w8 hown8 hgrow8 _)
              have HON := hide (HO.out.next hB HR.out HNE.out HIX.out HE.out HLE.out HX.out HV1.out HV2.out HV3.out HV4.out hown8 hgrow8)
              clear hown8 hgrow8
              exact ⟨⟨_, _, _, _, HON⟩, by show r < k; rw [HUL.out, HM.out]; exact HFW.out⟩
end Go.Proofs.YtdooboibmllfkabGreatDoor

namespace Go.Proofs.YtdooboibmllfkabGreatDoor
set_option maxRecDepth 100000
open Go.RowKit

theorem exr_take {sg : List Bool} {Q : List (List (Nat × Nat))} {k : Nat} {ps : List (Nat × Nat)} (h : Q[k]? = some ps) : exr sg (Q.take (k + 1)) = exa (exr sg (Q.take k)) ps := by
  obtain ⟨hk, he⟩ := List.getElem?_eq_some_iff.1 h
  rw [List.take_succ_eq_append_getElem hk, exr_snoc, he]
theorem exa_take {sg : List Bool} {ps : List (Nat × Nat)} {j : Nat} {p : Nat × Nat} (h : ps[j]? = some p) : exa sg (ps.take (j + 1)) = exc (exa sg (ps.take j)) p := by
  obtain ⟨hk, he⟩ := List.getElem?_eq_some_iff.1 h
  rw [List.take_succ_eq_append_getElem hk, exa_snoc, he]

theorem rowK_len {w : World} {B e n s : Nat} {v : Value} {xs : List Value} (h : w.ownsRow B e s v n xs) : n ≤ 9223372036854775807 := by
  rcases h.2 with ⟨_, h0⟩ | ⟨g, cap, cur, _, _, _, h1, h2, _⟩
  · omega
  · unfold maxLen at h2
    omega

set_option maxRecDepth 100000 in
set_option maxHeartbeats 4000000 in
theorem turn_any (B n cap : Nat) (sg : List Bool) (A0 H0 : Nat → Option Addr) (w : World) (hn : 0 < n) (hm : n ≤ 60) (hB : B < w.heap.size) (h : BX w B n sg A0 H0) (hd : drf sg < 0) :
    Calls Tryz.prog 160 #[.slice (some ⟨B, 0, none⟩) n cap] w fun o w' => o = .returned (.tuple #[]) ∧ (∃ A H, BX w' B n (cturn sg) A H) ∧ Below B w w' := by
  have CP := hide (pairs_any B n cap sg A0 H0 w hn hm hB h hd)
  clear h hd
  go_enter Tryz.func160, Tryz.ntmps160
  go_wp2_with fail
  refine CP.out.mono ?_
  rintro e w1 ⟨v, Q, A, H, rfl, hx, ⟨vs, hv1, hv2⟩, hex, _, hq, hql, hb⟩
  obtain ⟨a, c, rfl, hag⟩ := rowK_slice hv1
  obtain ⟨m, hm2⟩ : ∃ m, m = Q.length := ⟨_, rfl⟩
  rw [← hm2] at hv1 hql hag ⊢
  have HM := hide hm2
  have HX0 := hide hx
  have HV1 := hide hv1
  have HV2 := hide hv2
  have HEX := hide hex
  have HQ := hide hq
  have HB := hide hb
  have hsz := hb.size
  clear hm2 hx hv1 hv2 hex hq hb CP
  go_wp2_with fail
  go_loopw [3, 5, 9] (fun _ _ i wr => ∃ k : Nat, k ≤ m ∧ i = .int .i64 (k : Int) ∧ Hid (BX wr B n (exr sg (Q.take k)) A H) ∧ Hid (Ex B w1 wr)) (fun _ _ i _ => m - (Go.RowKit.intOf i).toNat)
  case atStart => exact ⟨0, Nat.zero_le _, rfl, by rw [List.take_zero]; exact HX0.out, Ex.refl _ _⟩
  case round =>
    obtain ⟨k, hk, rfl, HX, HE⟩ := hrel
    obtain ⟨W1, rfl⟩ : ∃ W, W = wr := ⟨wr, rfl⟩
    by_cases hlt : k < m
    · obtain ⟨g, rfl⟩ := hag (by omega)
      obtain ⟨ps, hps⟩ : ∃ ps, Q[k]? = some ps := ⟨_, List.getElem?_eq_getElem (by rw [← HM.out]; exact hlt)⟩
      have hvl : vs.length = m := by have := HV1.out.1; omega
      obtain ⟨x, hx⟩ : ∃ x, vs[k]? = some x := ⟨_, List.getElem?_eq_getElem (by rw [hvl]; exact hlt)⟩
      have hrow := HV2.out k x ps hx hps
      have hgl := (HV1.out.lt g rfl)
      have c1 := ((HE.out.cells (by omega) hgl.2 (rowK_cells HV1.out)) k x hx).1
      obtain ⟨ax, cx, rfl, haxg⟩ := rowK_slice hrow
      have hpl := rowK_len hrow
      have HQP := hide (HQ.out ps (List.mem_of_getElem? hps))
      have HTK := hide (exr_take (sg := sg) hps)
      obtain ⟨q, hq⟩ : ∃ q, q = ps.length := ⟨_, rfl⟩
      rw [← hq] at hrow haxg hpl c1
      have HROW := hide hrow
      have HQL := hide hq
      have i1' : (0 : Int) ≤ (k : Int) := by omega
      have i2' : (k : Int) < (m : Int) := by omega
      have HBW : Hid (B < W1.heap.size) := by have := HE.out.size; show B < _; omega
      clear hx hps hrow hq hvl
      go_wp2_with fail
      go_loopw [5, 15] (fun _ i wr => ∃ j : Nat, j ≤ q ∧ i = .int .i64 (j : Int) ∧ Hid (BX wr B n (exa (exr sg (Q.take k)) (ps.take j)) A H) ∧ Hid (Ex B w1 wr)) (fun _ i _ => q - (Go.RowKit.intOf i).toNat)
      case atStart => exact ⟨0, Nat.zero_le _, rfl, by rw [List.take_zero]; exact HX.out, HE⟩
      case round =>
        obtain ⟨j, hj, rfl, HY, HF⟩ := hrel
        by_cases hlt2 : j < q
        · obtain ⟨gx, rfl⟩ := haxg (by omega)
          obtain ⟨⟨b, e⟩, hp⟩ : ∃ p, ps[j]? = some p := ⟨_, List.getElem?_eq_getElem (by rw [← HQL.out]; exact hlt2)⟩
          obtain ⟨p1, p2, p3⟩ := HQP.out (b, e) (List.mem_of_getElem? hp)
          have hxl := HROW.out.lt gx rfl
          have hcs := HF.out.cells (by omega) hxl.2 (rowK_cells HROW.out)
          have a1 := (hcs (j * 2) _ (pcs_get B _ j _ hp).1).1
          have a2 := (hcs (j * 2 + 1) _ (pcs_get B _ j _ hp).2).1
          have HTJ := hide (exa_take (sg := exr sg (Q.take k)) hp)
          have hBw : B < wr.heap.size := by have := HF.out.size; omega
          have HY2 := hide (HY.out.alloc hBw (.cells #[pt B b, pt B e] 181))
          have HF2 := hide (HF.out.alloc (.cells #[pt B b, pt B e] 181))
          have T1 := hide (fun (W : World) (hW : BX W B n (exa (exr sg (Q.take k)) (ps.take j)) A H) (hz : B < W.heap.size) => exchange_any B n b e _ A H W hW p1 p2 p3 hz)
          have i1' : (0 : Int) ≤ (j : Int) := by omega
          have i2' : (j : Int) < (q : Int) := by omega
          simp only at a1 a2
          unfold pt at a1 a2 HY2 HF2
          clear p1 p2 p3 hp hcs
          go_wp2_with fail
          refine (T1.out _ HY2.out (by rw [World.size_alloc]; omega)).mono ?_
          rintro o w6 ⟨rfl, h6, x6⟩
          have HY6 : Hid (BX w6 B n (exa (exr sg (Q.take k)) (ps.take (j + 1))) A H) := by show BX _ _ _ _ _ _; rw [HTJ.out]; exact h6
          have HF6 := hide (HF2.out.trans x6)
          clear h6 x6 T1
          go_wp2_with fail
          go_roundw
          case rel => exact ⟨j + 1, by omega, by go_num, HY6, HF6⟩
          case measure => simp [Go.RowKit.intOf]; omega
        · have hjq : j = q := by omega
          subst hjq
          have HY2 : Hid (BX wr B n (exr sg (Q.take (k + 1))) A H) := by
            have := HY.out
            have htk : ps.take j = ps := List.take_of_length_le (by rw [HQL.out]; exact Nat.le_refl _)
            rw [htk, ← HTK.out] at this
            exact this
          go_wp2_with fail
          exact ⟨⟨k + 1, by omega, by go_num, HY2, HF⟩, by simp [Go.RowKit.intOf]; omega⟩
    · have hkm : k = m := by omega
      subst hkm
      have HF : Hid (BX W1 B n (cturn sg) A H) := by
        have := HX.out
        rw [List.take_of_length_le (by rw [HM.out]; exact Nat.le_refl _), HEX.out] at this
        exact this
      have HBF := hide (HB.out.trans (HE.out.below (Nat.le_refl _) (by omega)))
      go_wp2_with fail
      go_end0
      exact ⟨rfl, ⟨_, _, HF.out⟩, HBF.out⟩
end Go.Proofs.YtdooboibmllfkabGreatDoor

namespace Go.Proofs.YtdooboibmllfkabGreatDoor
set_option maxRecDepth 100000
open Go.RowKit

end Go.Proofs.YtdooboibmllfkabGreatDoor

namespace Go.Proofs.YtdooboibmllfkabGreatDoor
set_option maxRecDepth 100000
open Go.RowKit

set_option maxRecDepth 100000 in
set_option maxHeartbeats 1000000 in
theorem implCirclePeriod_any (s : ByteArray) (w : World) (hs : s.size ≤ maxLen) :
    Calls Tryz.prog 134 #[.string s] w fun e w' => e = .returned (.tuple #[.int .i64 (cpN s), .bool (ciIn s)]) ∧ Below w.heap.size w w' := by
  cases h1 : ciIn s
  · have e : cpN s = 0 := by unfold cpN; rw [h1]; rfl
    rw [e]
    go_enter Tryz.func134, Tryz.ntmps134
    go_wp2_with (go_at_call 159; refine (readCircle_no _ _ hs h1).mono ?_; rintro e w' ⟨rfl, hb⟩)
    go_ret2
    exact ⟨rfl, hb⟩
  · obtain ⟨hv, _, h1', h60, hd⟩ := ciIn_facts h1
    have e : cpN s = (perB (bits s) 5000 1 : Int) := by unfold cpN; rw [h1]; rfl
    rw [e]
    have HV := hide hv
    have HD := hide hd
    obtain ⟨r, hr⟩ : ∃ r : Nat, r = perB (bits s) 5000 1 := ⟨_, rfl⟩
    have HR := hide hr
    rw [← hr]
    clear hs e hv hr hd
    go_enter Tryz.func134, Tryz.ntmps134
    go_wp2_with (go_at_call 159; refine (readCircle_yes _ _ h1).mono ?_; rintro e w1 ⟨g, rfl, h2, h3, h4, hb⟩)
    have HB0 := hide hb
    have HX0 := hide h4
    clear h1 hb h4
    have HWG := hide h2
    go_loopw [6] (fun nv wr => ∃ (k : Nat) (A H : Nat → Option Addr), nv = .int .i64 ((k : Int) + 1) ∧ k ≤ 5000 ∧ Hid (perB (bits s) (5000 - k) (k + 1) = r) ∧ Hid (drf (cturns k (bits s)) < 0) ∧ Hid (BX wr g s.size (cturns k (bits s)) A H) ∧ Hid (Below w.heap.size w wr) ∧ g < wr.heap.size) (fun nv _ => 5001 - (Go.RowKit.intOf nv).toNat)
    case atStart => exact ⟨0, _, _, rfl, by omega, HR.out.symm, HD.out, HX0.out, HB0.out, h3⟩
    case round =>
      obtain ⟨k, A, H, rfl, hk, HK, HDK, HX, HB, hg⟩ := hrel
      obtain ⟨W1, rfl⟩ : ∃ W, W = wr := ⟨wr, rfl⟩
      by_cases hlt : k < 5000
      · have hle : (k : Int) + 1 ≤ 5000 := by omega
        have hb : cturn (cturns k (bits s)) = cturns (k + 1) (bits s) := (cturns_comm k (bits s)).symm
        have hlen : (cturns (k + 1) (bits s)).length = s.size := by rw [← hb, cturn_length]; exact HX.out.len
        have CT := hide (turn_any g s.size s.size (cturns k (bits s)) A H W1 h1' h60 hg HX.out HDK.out)
        have HD2 : Hid (drf (cturns (k + 1) (bits s)) < 0) := by show _ < 0; rw [← hb, cturn_drf HDK.out]; exact HDK.out
        rw [hb] at CT
        have hst : ofB (cturns (k + 1) (bits s)) = s ↔ cturns (k + 1) (bits s) = bits s := by
          constructor
          · intro e; rw [← bits_ofB (cturns (k + 1) (bits s)), e]
          · intro e; rw [e, ofB_bits HV.out]
        have hstep : perB (bits s) (5000 - k) (k + 1) = if cturns (k + 1) (bits s) = bits s then k + 1 else perB (bits s) (5000 - (k + 1)) (k + 1 + 1) := by
          rw [show 5000 - k = (5000 - (k + 1)) + 1 by omega]
          rfl
        obtain ⟨t, ht⟩ : ∃ t, t = cturns (k + 1) (bits s) := ⟨_, rfl⟩
        rw [← ht] at CT hst hstep HD2 hlen
        have HTE := hide ht
        obtain ⟨y, hy⟩ : ∃ y, y = ofB t := ⟨_, rfl⟩
        have HY := hide hy
        rw [← hy] at hst
        have HST := hide hst
        have HSTEP := hide hstep
        clear hb hst hstep ht hy
        go_wp2_with fail
        refine CT.out.mono ?_
        rintro e w2 ⟨rfl, ⟨A2, H2, h5⟩, hb2⟩
        have hz2 := hb2.size
        have CX := hide (cText_any g s.size s.size t A2 H2 w2 h60 (by omega) h5)
        rw [← HY.out] at CX
        have HX2 := hide h5
        have HB2 := hide (HB.out.trans (hb2.mono HWG.out))
        clear h5 hb2 CT
        by_cases he : y = s
        · have HF : Hid (r = k + 1) := by show _ = _; rw [← HK.out, HSTEP.out, if_pos (HST.out.1 he)]
          subst he
          go_wp2_with fail
          refine CX.out.mono ?_
          rintro e w3 ⟨rfl, hb3⟩
          have HB3 := hide (HB2.out.trans (hb3.mono HB2.out.size))
          clear hb3 CX
          go_wp2_with fail
          go_ret2
          exact ⟨by rw [HF.out]; rfl, HB3.out⟩
        · have HN : Hid (perB (bits s) (5000 - (k + 1)) (k + 1 + 1) = r) := by show _ = _; rw [← HK.out, HSTEP.out, if_neg (fun h => he (HST.out.2 h))]
          have hq : (y.toList == s.toList) = false := by
            rw [beq_eq_false_iff_ne]
            intro h
            rw [ByteArray.toList_eq, ByteArray.toList_eq] at h
            exact he (by rw [← ofL_lst y, ← ofL_lst s]; unfold lst; rw [h])
          go_wp2_with fail
          refine CX.out.mono ?_
          rintro e w3 ⟨rfl, hb3⟩
          have HB3 := hide (HB2.out.trans (hb3.mono HB2.out.size))
          have hz3 := hb3.size
          have HX3 : Hid (BX w3 g s.size (cturns (k + 1) (bits s)) A2 H2) := by show BX _ _ _ _ _ _; rw [← HTE.out]; exact HX2.out.below hb3 (by omega)
          have HD3 : Hid (drf (cturns (k + 1) (bits s)) < 0) := by show _ < 0; rw [← HTE.out]; exact HD2.out
          clear hb3 CX
          go_wp2_with fail
          go_roundw
          case rel => exact ⟨k + 1, _, _, by go_num, by omega, HN, HD3, HX3, HB3, by omega⟩
          case measure => simp [Go.RowKit.intOf]; omega
      · have hk5 : k = 5000 := by omega
        have HF : Hid (r = 0) := by show _ = _; rw [← HK.out, hk5]; rfl
        have hle : ¬ (k : Int) + 1 ≤ 5000 := by omega
        clear hk5
        go_wp2_with fail
        go_ret2
        exact ⟨by rw [HF.out]; rfl, HB.out⟩
end Go.Proofs.YtdooboibmllfkabGreatDoor
