/- TEXTS Put4, Put5, Put6. -/
import Derived.Test.YteibopcneflidaaDoorRa35
import Derived.Test.YteibopcneflidaaDoorRa30
import Derived.Deep.LoopGhost
/- THE WALKS of slices.BinarySearchFunc at parts, of the sorted list's put, of newRigged and room. -/
namespace Go.Proofs.YteibopcneflidaaDoor
open Go.RowKit Go.Sort Go.Shelf

set_option maxRecDepth 100000 in
set_option maxHeartbeats 4000000 in
theorem search_grw (l : List (Int × Int)) (v : Value) (t : Int × Int) (w : World) {lo : Nat} (hs : pSorted l) (hP : PartsV lo w v l) (hl : l.length ≤ 1000) :
    Calls Tryd.prog 91 #[v, pV t, cmpFn] w fun e w' =>
      (∃ (k : Nat) (fb : Bool), e = .returned (.tuple #[.int .i64 (k : Int), .bool fb]) ∧ k ≤ l.length ∧ l.take k ++ t :: l.drop k = pPut l t) ∧ Grw w w' := by
  have mixed : Tryd.prog.follows .mixedOrders = true := by kernel_rfl
  have eg := cmpEnters
  obtain ⟨n, hn⟩ : ∃ n, l.length = n := ⟨_, rfl⟩
  obtain ⟨a, c, rfl, hf⟩ := hP.form hn
  have HN := hide hn
  have HF := hide hf
  have HSO := hide hs
  rw [hn] at hl ⊢
  clear hP hn hf hs
  obtain ⟨t1, ht1⟩ : ∃ z, z = t.1 := ⟨_, rfl⟩
  obtain ⟨t2, ht2⟩ : ∃ z, z = t.2 := ⟨_, rfl⟩
  have HTE := hide (show t = (t1, t2) by rw [ht1, ht2])
  unfold pV
  rw [← ht1, ← ht2]
  clear ht1 ht2
  -- what stands ahead of the target stands ahead of all behind
  have MONO : Hid (∀ (i j : Nat) (x y : Int × Int), i ≤ j → l[i]? = some x → l[j]? = some y → pLess t y = true → pLess t x = true) := by
    intro i j x y hij hx hy h
    by_cases e : i = j
    · subst e
      rw [hx] at hy
      injection hy with hy
      rw [hy]; exact h
    · obtain ⟨hi, ex⟩ := List.getElem?_eq_some_iff.1 hx
      obtain ⟨hj, ey⟩ := List.getElem?_eq_some_iff.1 hy
      have h1 := List.pairwise_iff_getElem.1 HSO.out i j hi hj (by omega)
      rw [ex, ey] at h1
      have h2 := (pLess_false _ _).1 h1
      have h3 := (pLess_iff _ _).1 h
      rw [pLess_iff]
      omega
  obtain ⟨W0, hW0⟩ : ∃ W0, W0 = w.alloc (.cells #[.int .i64 t1, .int .i64 t2] 48) := ⟨_, rfl⟩
  have hc1 : W0.cell? ⟨w.heap.size, 0, none⟩ = some (.int .i64 t1) := by rw [hW0, World.cell?_alloc_at _ _ _ _ rfl]; rfl
  have hc2 : W0.cell? ⟨w.heap.size, 1, none⟩ = some (.int .i64 t2) := by rw [hW0, World.cell?_alloc_at _ _ _ _ rfl]; rfl
  have HG0 : Hid (Grw w W0) := by rw [hW0]; exact hide (Grw.alloc w _)
  have hz0 : w.heap.size < W0.heap.size := by rw [hW0]; simp
  have HC1 := hide hc1
  have HC2 := hide hc2
  have HZ0 := hide hz0
  clear hc1 hc2 hz0
  go_enter Tryd.func91, Tryd.ntmps91
  go_wp2
  rw [← hW0]
  clear hW0
  go_loopg [9, 10] n (fun kx s9 s10 wr => ∃ lo hi : Nat, s9 = .int .i64 (lo : Int) ∧ s10 = .int .i64 (hi : Int) ∧ lo ≤ hi ∧ hi ≤ n ∧ hi - lo ≤ kx ∧ Hid (Grw W0 wr) ∧
    Hid ((∀ (j : Nat) (x : Int × Int), j < lo → l[j]? = some x → pLess t x = true) ∧ (∀ (j : Nat) (x : Int × Int), hi ≤ j → l[j]? = some x → pLess t x = false)))
  case atStart => exact ⟨0, n, rfl, rfl, Nat.zero_le _, Nat.le_refl _, by omega, Grw.refl _, (⟨fun j x hj => absurd hj (Nat.not_lt_zero _), fun j x hj hx => by have := (List.getElem?_eq_some_iff.1 hx).1; have := HN.out; omega⟩ : (∀ (j : Nat) (x : Int × Int), j < 0 → l[j]? = some x → pLess t x = true) ∧ (∀ (j : Nat) (x : Int × Int), n ≤ j → l[j]? = some x → pLess t x = false))⟩
  case round =>
    obtain ⟨lo, hi, rfl, rfl, hlh, hin, hg, HG, HI⟩ := hrel
    have hzr : w.heap.size < wr.heap.size := Nat.lt_of_lt_of_le HZ0.out HG.out.size
    have e1 : ∀ n os, (grow (wr.drewN n) os).cell? ⟨w.heap.size, 0, none⟩ = some (.int .i64 t1) := fun n os => cell_grown hzr ((HG.out.below.cell (p := ⟨w.heap.size, 0, none⟩) HZ0.out).trans HC1.out) n os
    have e2 : ∀ n os, (grow (wr.drewN n) os).cell? ⟨w.heap.size, 1, none⟩ = some (.int .i64 t2) := fun n os => cell_grown hzr ((HG.out.below.cell (p := ⟨w.heap.size, 1, none⟩) HZ0.out).trans HC2.out) n os
    by_cases hlt : lo < hi
    · obtain ⟨q, rfl, hq0, hq⟩ := HF.out (by omega)
      obtain ⟨m, hm⟩ : ∃ m, m = (lo + hi) / 2 := ⟨_, rfl⟩
      obtain ⟨x, hx⟩ : ∃ x, l[m]? = some x := ⟨_, List.getElem?_eq_getElem (by rw [HN.out]; omega)⟩
      obtain ⟨g1, g2⟩ := encZ_get l m x hx
      have hqr := HG.out.cells (HG0.out.cells hq)
      have hql : q < wr.heap.size := by omega
      have d1 : ∀ n os, (grow (wr.drewN n) os).cell? ⟨q, m * 2, none⟩ = some (.int .i64 x.1) := fun n os => cell_grown hql (hqr _ _ g1).1 n os
      have d2 : ∀ n os, (grow (wr.drewN n) os).cell? ⟨q, m * 2 + 1, none⟩ = some (.int .i64 x.2) := fun n os => cell_grown hql (hqr _ _ g2).1 n os
      have HX := hide hx
      have HM := hide hm
      obtain ⟨x1, hx1⟩ : ∃ z, z = x.1 := ⟨_, rfl⟩
      obtain ⟨x2, hx2⟩ : ∃ z, z = x.2 := ⟨_, rfl⟩
      rw [← hx1] at d1
      rw [← hx2] at d2
      obtain ⟨c0, hc0⟩ : ∃ c, c = cpP x t := ⟨_, rfl⟩
      have CC := hide (fun W => cmp_at x t x1 x2 t1 t2 c0 (by rw [hx1, hx2]) HTE.out hc0 W)
      have HP := hide (show decide (c0 < 0) = pLess t x by rw [hc0]; exact cpP_lt x t)
      have ea : (((lo : Int) + (hi : Int)) / 2).toNat = m := by omega
      have i0 : (0 : Int) ≤ ((lo : Int) + (hi : Int)) / 2 := by omega
      have i1 : ((lo : Int) + (hi : Int)) / 2 < (n : Int) := by omega
      clear hx hm g1 g2 hqr hx1 hx2 hc0
      by_cases hcx : c0 < 0
      · have hd : decide (c0 < 0) = true := decide_eq_true hcx
        have HI2 : Hid ((∀ (j : Nat) (y : Int × Int), j < (lo + hi) / 2 + 1 → l[j]? = some y → pLess t y = true) ∧ (∀ (j : Nat) (y : Int × Int), hi ≤ j → l[j]? = some y → pLess t y = false)) :=
          ⟨fun j y hj hy => MONO.out j m y x (by have := HM.out; omega) hy HX.out (by rw [← HP.out, hd]), HI.out.2⟩
        go_wp2
        refine wp_region_quiet_grown (by assumption) (by kernel_rfl) ?_
        repeat (first | go_big_quiet_skip | quiet_step ((go_at_fn 60; refine Calls.grown_of (CC.out _))))
        refine wpQuiet_nil ?_
        intro _ hw'
        obtain ⟨⟨nq, osq⟩, hw''⟩ := hw'
        subst hw''
        go_wp2
        go_roundg (hi - ((lo + hi) / 2 + 1))
        case measure => omega
        case rel => exact ⟨(lo + hi) / 2 + 1, hi, by rw [show ((lo : Int) + (hi : Int)) / 2 + 1 = (((lo + hi) / 2 + 1 : Nat) : Int) by omega], rfl, by omega, hin, Nat.le_refl _, HG.out.trans (Grw.mk _ _ _), HI2.out⟩
      · have hd : decide (c0 < 0) = false := decide_eq_false hcx
        have HI2 : Hid ((∀ (j : Nat) (y : Int × Int), j < lo → l[j]? = some y → pLess t y = true) ∧ (∀ (j : Nat) (y : Int × Int), (lo + hi) / 2 ≤ j → l[j]? = some y → pLess t y = false)) := by
          refine ⟨HI.out.1, fun j y hj hy => ?_⟩
          cases h : pLess t y
          · rfl
          · have := MONO.out m j x y (by have := HM.out; omega) HX.out hy h
            rw [← HP.out, hd] at this
            cases this
        go_wp2
        refine wp_region_quiet_grown (by assumption) (by kernel_rfl) ?_
        repeat (first | go_big_quiet_skip | quiet_step ((go_at_fn 60; refine Calls.grown_of (CC.out _))))
        refine wpQuiet_nil ?_
        intro _ hw'
        obtain ⟨⟨nq, osq⟩, hw''⟩ := hw'
        subst hw''
        go_wp2
        go_roundg ((lo + hi) / 2 - lo)
        case measure => omega
        case rel => exact ⟨lo, (lo + hi) / 2, rfl, by rw [show ((lo : Int) + (hi : Int)) / 2 = (((lo + hi) / 2 : Nat) : Int) by omega], by omega, by omega, Nat.le_refl _, HG.out.trans (Grw.mk _ _ _), HI2.out⟩
    · obtain rfl : hi = lo := by omega
      have HPUT : Hid (l.take hi ++ t :: l.drop hi = pPut l t) := ins_at HSO.out HI.out.1 HI.out.2
      by_cases hnn : hi < n
      · obtain ⟨q, rfl, hq0, hq⟩ := HF.out (by omega)
        obtain ⟨x, hx⟩ : ∃ x, l[hi]? = some x := ⟨_, List.getElem?_eq_getElem (by rw [HN.out]; omega)⟩
        obtain ⟨g1, g2⟩ := encZ_get l hi x hx
        have hqr := HG.out.cells (HG0.out.cells hq)
        have hql : q < wr.heap.size := by omega
        have d1 : ∀ n os, (grow (wr.drewN n) os).cell? ⟨q, hi * 2, none⟩ = some (.int .i64 x.1) := fun n os => cell_grown hql (hqr _ _ g1).1 n os
        have d2 : ∀ n os, (grow (wr.drewN n) os).cell? ⟨q, hi * 2 + 1, none⟩ = some (.int .i64 x.2) := fun n os => cell_grown hql (hqr _ _ g2).1 n os
        obtain ⟨x1, hx1⟩ : ∃ z, z = x.1 := ⟨_, rfl⟩
        obtain ⟨x2, hx2⟩ : ∃ z, z = x.2 := ⟨_, rfl⟩
        rw [← hx1] at d1
        rw [← hx2] at d2
        obtain ⟨c0, hc0⟩ : ∃ c, c = cpP x t := ⟨_, rfl⟩
        have CC := hide (fun W => cmp_at x t x1 x2 t1 t2 c0 (by rw [hx1, hx2]) HTE.out hc0 W)
        have i0 : (0 : Int) ≤ (hi : Int) := by omega
        have i1 : (hi : Int) < (n : Int) := by omega
        have i2 : decide (hi < n) = true := decide_eq_true hnn
        clear hx g1 g2 hqr hx1 hx2 hc0 hlt hlh hg
        go_wp2
        refine wp_region_quiet_grown (by assumption) (by kernel_rfl) ?_
        repeat (first | go_big_quiet_skip | quiet_step ((go_at_fn 60; refine Calls.grown_of (CC.out _))))
        refine wpQuiet_nil ?_
        intro _ hw'
        obtain ⟨⟨nq, osq⟩, hw''⟩ := hw'
        subst hw''
        go_wp2
        go_ret2
        exact ⟨⟨hi, _, rfl, by omega, HPUT.out⟩, HG0.out.trans (HG.out.trans (Grw.mk _ _ _))⟩
      · have i2 : decide (hi < n) = false := decide_eq_false hnn
        have hni := hide (show hi ≤ n by omega)
        clear hlt hlh hg hnn hin
        go_wp2
        refine wp_region_quiet_grown (by assumption) (by kernel_rfl) ?_
        repeat (first | go_big_quiet_skip | quiet_step (fail))
        refine wpQuiet_nil ?_
        intro _ hw'
        obtain ⟨⟨nq, osq⟩, hw''⟩ := hw'
        subst hw''
        go_wp2
        go_ret2
        exact ⟨⟨hi, _, rfl, hni.out, HPUT.out⟩, HG0.out.trans (HG.out.trans (Grw.mk _ _ _))⟩
end Go.Proofs.YteibopcneflidaaDoor

/- THE WALKS of the sorted list's put, of newRigged and of room; what a rigged partition of the program's is in memory. -/
namespace Go.Proofs.YteibopcneflidaaDoor
open Go.RowKit Go.Sort Go.Shelf

/-- block r is a rigged partition: the comparison, the parts in a row of their own, the boxes -/
structure RigAt (w : World) (r lo : Nat) (v : Value) (l : List (Int × Int)) (m : Int) : Prop where
  fn : w.cell? ⟨r, 0, none⟩ = some cmpFn
  items : w.cell? ⟨r, 1, none⟩ = some v
  boxes : w.cell? ⟨r, 2, none⟩ = some (.int .i64 m)
  free : ∀ j, w.frozen? ⟨r, j, none⟩ = false
  own : w.ownsRow lo 48 2 v l.length (encZ l)
  ne : v.ownBlock ≠ some r
  lo_le : lo ≤ r
theorem RigAt.lt {w : World} {r lo : Nat} {v : Value} {l : List (Int × Int)} {m : Int} (h : RigAt w r lo v l m) : r < w.heap.size := World.block_lt_of_cell? w _ h.fn
theorem RigAt.below {w w' : World} {r lo B : Nat} {v : Value} {l : List (Int × Int)} {m : Int} (h : RigAt w r lo v l m) (hb : Below B w w') (hB : w.heap.size ≤ B) : RigAt w' r lo v l m := by
  have hl := h.lt
  have hr : r < B := by omega
  exact ⟨(hb.cell (p := ⟨r, 0, none⟩) hr).trans h.fn, (hb.cell (p := ⟨r, 1, none⟩) hr).trans h.items, (hb.cell (p := ⟨r, 2, none⟩) hr).trans h.boxes, fun j => (hb.frozen (p := ⟨r, j, none⟩) hr).trans (h.free j), owns_below2 h.own hb hB, h.ne, h.lo_le⟩
theorem RigAt.parts {w : World} {r lo : Nat} {v : Value} {l : List (Int × Int)} {m : Int} (h : RigAt w r lo v l m) : PartsV lo w v l := PartsV.of_owns h.own
/-- a row behind another takes its place -/
theorem rig_next {w Wb W w2 : World} {r lo : Nat} {v v' : Value} {l l' : List (Int × Int)} {m : Int} {o : Obj} (hR : RigAt w r lo v l m) (hg : Grw w Wb) (hW : W.heap = (Wb.alloc o).heap) (h1 : W.os = Wb.os) (h2 : W.tape = Wb.tape) (h3 : W.output = Wb.output)
    (hgr : W.grownBy w2 v.ownBlock) (ho : w2.ownsRow lo 48 2 v' l'.length (encZ l')) (hn : RowNext W v v') :
    w2.cell? ⟨r, 1, none⟩ = some v ∧ w2.frozen? ⟨r, 1, none⟩ = false ∧ RigAt (w2.setCell ⟨r, 1, none⟩ v') r lo v' l' m ∧ Only r v.ownBlock w (w2.setCell ⟨r, 1, none⟩ v') ∧ RowNext w v v' := by
  have hrl := hR.lt
  have hbw : Below w.heap.size w W := by
    have hb := hg.below
    refine ⟨h1.trans hb.os, h2.trans hb.tape, h3.trans hb.output, ?_, fun k hk => ?_⟩
    · rw [hW, World.size_alloc]; have := hb.size; omega
    · rw [hW]
      exact (Below.heap_alloc Wb o k (by have := hb.size; omega)).trans (hb.block k hk)
  have hsW := hbw.size
  have hr2 : w2.heap[r]? = w.heap[r]? := (hgr.block r (by omega) (Ne.symm hR.ne)).trans (hbw.block r hrl)
  have c : ∀ j, w2.cell? ⟨r, j, none⟩ = w.cell? ⟨r, j, none⟩ := fun j => World.cell?_of_block (a := ⟨r, j, none⟩) hr2
  have f : ∀ j, w2.frozen? ⟨r, j, none⟩ = w.frozen? ⟨r, j, none⟩ := fun j => World.frozen?_of_block (a := ⟨r, j, none⟩) hr2
  have hne' : v'.ownBlock ≠ some r := by
    rcases hn with e | ⟨g, e, hg'⟩
    · rw [e]; exact hR.ne
    · rw [e]; intro h; injection h with h; omega
  have hnn : RowNext w v v' := hn.elim .inl (fun ⟨g, e, hg'⟩ => .inr ⟨g, e, by omega⟩)
  refine ⟨(c 1).trans hR.items, (f 1).trans (hR.free 1), ⟨?_, ?_, ?_, ?_, ?_, hne', hR.lo_le⟩, ?_, hnn⟩
  · rw [World.cell?_setCell_other _ _ _ _ (by intro h; injection h with _ h; omega)]; exact (c 0).trans hR.fn
  · exact World.cell?_setCell_same' _ _ _ (by rw [c 1, hR.items]; rfl)
  · rw [World.cell?_setCell_other _ _ _ _ (by intro h; injection h with _ h; omega)]; exact (c 2).trans hR.boxes
  · intro j; rw [World.frozen?_setCell]; exact (f j).trans (hR.free j)
  · exact owns_far ho (fun g hg' => Below.heap_setCell _ _ _ _ (by intro h; exact hne' (by rw [hg', h])))
  · have o1 : Only r v.ownBlock w W := Only.of_below r _ hbw
    have o2 : Only r v.ownBlock W w2 := Only.of_grown r hgr
    exact (o1.trans o2 (.inl rfl)).trans (Only.setCell r 1 _ v') (.inl rfl)

theorem own_form {w : World} {b e n s : Nat} {v : Value} {xs : List Value} (h : w.ownsRow b e s v (n + 1) xs) : ∃ g c, v = .slice (some ⟨g, 0, none⟩) (n + 1) c := by
  rcases h.2 with ⟨_, h0⟩ | ⟨g, c, _, h1, _⟩
  · omega
  · exact ⟨g, c, h1⟩

set_option maxRecDepth 100000 in
set_option maxHeartbeats 4000000 in
theorem put_any (r lo : Nat) (v : Value) (l : List (Int × Int)) (m : Int) (p : Int × Int) (w : World) (hR : RigAt w r lo v l m) (hs : pSorted l) (hl : l.length ≤ 900) :
    Calls Tryd.prog 72 #[.pointer (some ⟨r, 0, none⟩), pV p] w fun e w' => e = .returned (.tuple #[]) ∧ ∃ v', RigAt w' r lo v' (pPut l p) m ∧ Only r v.ownBlock w w' ∧ RowNext w v v' := by
  obtain ⟨p1, hp1⟩ : ∃ z, z = p.1 := ⟨_, rfl⟩
  obtain ⟨p2, hp2⟩ : ∃ z, z = p.2 := ⟨_, rfl⟩
  have HPE := hide (show p = (p1, p2) by rw [hp1, hp2])
  have hlo := hR.lo_le
  have hrl := hR.lt
  have HR := hide hR
  obtain ⟨W0, hW0⟩ : ∃ W0, W0 = w.alloc (.cells #[.int .i64 p1, .int .i64 p2] 48) := ⟨_, rfl⟩
  have HG0 : Hid (Grw w W0) := by rw [hW0]; exact hide (Grw.alloc w _)
  have c1 : W0.cell? ⟨r, 0, none⟩ = some cmpFn := (HG0.out.below.cell (p := ⟨r, 0, none⟩) hrl).trans hR.fn
  have c2 : W0.cell? ⟨r, 1, none⟩ = some v := (HG0.out.below.cell (p := ⟨r, 1, none⟩) hrl).trans hR.items
  have c3 : W0.cell? ⟨w.heap.size, 0, none⟩ = some (.int .i64 p1) := by rw [hW0, World.cell?_alloc_at _ _ _ _ rfl]; rfl
  have c4 : W0.cell? ⟨w.heap.size, 1, none⟩ = some (.int .i64 p2) := by rw [hW0, World.cell?_alloc_at _ _ _ _ rfl]; rfl
  have hz0 : w.heap.size < W0.heap.size := by rw [hW0]; simp
  have BS := hide (fun (W : World) (h : PartsV lo W v l) => search_grw l v p W hs h (by omega))
  unfold pV at BS ⊢
  rw [← hp1, ← hp2] at BS ⊢
  clear hR hp1 hp2
  go_enter Tryd.func72, Tryd.ntmps72
  go_wp2
  rw [← hW0]
  clear hW0
  go_region_held3 (fun w' => w'.cell? ⟨r, 0, none⟩ = some cmpFn ∧ w'.cell? ⟨r, 1, none⟩ = some v ∧ w'.cell? ⟨w.heap.size, 0, none⟩ = some (.int .i64 p1) ∧ w'.cell? ⟨w.heap.size, 1, none⟩ = some (.int .i64 p2))
    (first | exact ⟨c1, c2, c3, c4⟩ | exact ⟨d1, d2, d3, d4⟩ | go_keep | fail)
    (first
      | (go_at_call 91; refine (BS.out _ ?_).mono ?_; exact HR.out.parts.below (HG0.out.trans (Grw.drew W0)).below (Nat.le_refl _); rintro e w' ⟨⟨kk, fb, rfl, hkk, hput⟩, hgw⟩; have hg2 := ((Grw.drew W0).trans hgw).below; have d1 := (hg2.cell (p := ⟨r, 0, none⟩) (show r < W0.heap.size by omega)).trans c1; have d2 := (hg2.cell (p := ⟨r, 1, none⟩) (show r < W0.heap.size by omega)).trans c2; have d3 := (hg2.cell (p := ⟨w.heap.size, 0, none⟩) hz0).trans c3; have d4 := (hg2.cell (p := ⟨w.heap.size, 1, none⟩) hz0).trans c4)
      | fail)
  have HGB := hide (HG0.out.trans ((Grw.drew W0).trans hgw))
  have HPUT := hide hput
  have hwz : w.heap.size ≤ w'.heap.size := HGB.out.size
  have hob : ∀ g, v.ownBlock = some g → g < w.heap.size := fun g h => (HR.out.own.lt g h).2
  have HOB := hide hob
  have IN := hide (fun (W : World) (hW : W.heap = (w'.alloc (.cells #[.int .i64 p1, .int .i64 p2] 48)).heap) => insert_any v l.length kk l (p1, p2) w'.heap.size W lo hkk (by omega)
    (owns_far HR.out.own (fun g hg => by rw [hW]; exact (Below.heap_alloc w' _ g (by have := HOB.out g hg; omega)).trans (HGB.out.below.block g (HOB.out g hg))))
    (by rw [hW, World.size_alloc]; omega) (by rw [hW]; exact heap_alloc_new w' _) (fun h => by have := HOB.out _ h; omega))
  have hwz1 : w.heap.size < w'.heap.size := Nat.lt_of_lt_of_le hz0 hg2.size
  clear hput hg2 hgw c1 c2 c3 c4 d1 hz0 BS hob hkk
  go_wp2
  have d5 : (w'.alloc (.cells #[.int .i64 p1, .int .i64 p2] 48)).cell? ⟨r, 1, none⟩ = some v := (World.cell?_alloc_lt w' _ ⟨r, 1, none⟩ (show r < w'.heap.size by omega)).trans d2
  go_region_with
    (first
      | (go_at_call 92; refine (IN.out _ ?_).mono ?_; rfl; go_loud (rintro e w2 ⟨v', rfl, ho2, hg2, hn2⟩; obtain ⟨g', c', rfl⟩ := own_form ho2; have FIN := rig_next (l' := pPut l p) HR.out HGB.out (W := (w'.alloc (.cells #[.int .i64 p1, .int .i64 p2] 48)).drew) (o := .cells #[.int .i64 p1, .int .i64 p2] 48) rfl rfl rfl rfl hg2 (by rw [pPut_length, ← HPUT.out, HPE.out]; exact ho2) hn2; have hcell := FIN.1; have hfr := FIN.2.1; have HFIN := hide FIN.2.2; clear FIN ho2 hg2 hn2))
      | fail)
  all_goals (try go_wp2)
  all_goals (refine bodyPost_end (results_none rfl _ _ _) rfl ?_)
  all_goals exact ⟨rfl, _, HFIN.out.1, HFIN.out.2.1, HFIN.out.2.2⟩
end Go.Proofs.YteibopcneflidaaDoor

/- THE WALKS of newRigged, room, readParts, readFitting, roomIn, and the program's RigRoom and RigFits. -/
namespace Go.Proofs.YteibopcneflidaaDoor
open Go.RowKit Go.Sort Go.Shelf

set_option maxRecDepth 100000 in
set_option maxHeartbeats 4000000 in
theorem newRigged_any (l : List (Int × Int)) (v : Value) (m : Int) (w : World) {lo : Nat} (hs : pSorted l) (hP : PartsV lo w v l) (hl : l.length ≤ 900) :
    Calls Tryd.prog 55 #[v, .int .i64 m] w fun e w' => e = .returned (.pointer (some ⟨w.heap.size, 0, none⟩)) ∧ ∃ v', RigAt w' w.heap.size w.heap.size v' l m ∧ Below w.heap.size w w' := by
  obtain ⟨n, hn⟩ : ∃ n, l.length = n := ⟨_, rfl⟩
  obtain ⟨a, c, rfl, hf⟩ := hP.form hn
  have HN := hide hn
  have HF := hide hf
  rw [hn] at hl
  have HSO := hide hs
  obtain ⟨W0, hW0⟩ : ∃ W0, W0 = w.alloc (.cells #[cmpFn, .slice none 0 0, .int .i64 m] 84) := ⟨_, rfl⟩
  have hz0 : w.heap.size < W0.heap.size := by rw [hW0]; simp
  have HB0 : Hid (Below w.heap.size w W0) := by rw [hW0]; exact (Below.refl _ w).alloc (Nat.le_refl _) _
  have HR0 : Hid (RigAt W0 w.heap.size w.heap.size (.slice none 0 0) [] m) := by
    rw [hW0]
    refine ⟨?_, ?_, ?_, fun j => World.frozen?_alloc_at _ _ _ _ rfl, World.ownsRow_nil _ _ _ _, (fun h => by cases h), Nat.le_refl _⟩
    all_goals (rw [World.cell?_alloc_at _ _ _ _ rfl]; rfl)
  clear hP hn hf hs
  go_enter Tryd.func55, Tryd.ntmps55
  go_wp2
  rw [← hW0]
  clear hW0
  go_loopw [14] (fun i wr => ∃ (k : Nat) (v' : Value), k ≤ n ∧ i = .int .i64 (k : Int) ∧ Hid (RigAt wr w.heap.size w.heap.size v' (l.take k) m) ∧ Hid (Below w.heap.size w wr)) (fun i _ => n - (intOf i).toNat)
  case atStart => exact ⟨0, _, Nat.zero_le _, rfl, HR0.out, HB0.out⟩
  case round =>
    obtain ⟨k, v', hk, rfl, HR, HB⟩ := hrel
    by_cases hlt : k < n
    · obtain ⟨q, rfl, hq0, hq⟩ := HF.out (by omega)
      obtain ⟨x, hx⟩ : ∃ x, l[k]? = some x := ⟨_, List.getElem?_eq_getElem (by rw [HN.out]; exact hlt)⟩
      obtain ⟨g1, g2⟩ := encZ_get l k x hx
      have hqr := hq.below' HB.out (Nat.le_refl _)
      have d1 := (hqr _ _ g1).1
      have d2 := (hqr _ _ g2).1
      have hql : q < wr.heap.size := by have := HB.out.size; omega
      have HPT := hide (take_put HSO.out hx)
      have hlt2 : (l.take k).length ≤ 900 := by rw [List.length_take]; omega
      have hst : pSorted (l.take k) := List.Pairwise.sublist (List.take_sublist ..) HSO.out
      obtain ⟨x1, hx1⟩ : ∃ z, z = x.1 := ⟨_, rfl⟩
      obtain ⟨x2, hx2⟩ : ∃ z, z = x.2 := ⟨_, rfl⟩
      have hxe : pV x = .agg #[.int .i64 x1, .int .i64 x2] := by unfold pV; rw [hx1, hx2]
      rw [← hx1] at d1
      rw [← hx2] at d2
      obtain ⟨W1, hW1⟩ : ∃ W1, W1 = wr.alloc (.cells #[.int .i64 x1, .int .i64 x2] 48) := ⟨_, rfl⟩
      have c1 : W1.cell? ⟨wr.heap.size, 0, none⟩ = some (.int .i64 x1) := by rw [hW1, World.cell?_alloc_at _ _ _ _ rfl]; rfl
      have c2 : W1.cell? ⟨wr.heap.size, 1, none⟩ = some (.int .i64 x2) := by rw [hW1, World.cell?_alloc_at _ _ _ _ rfl]; rfl
      have hbw : Below wr.heap.size wr W1 := by rw [hW1]; exact (Below.refl _ wr).alloc (Nat.le_refl _) _
      have HBW := hide hbw
      have PT := hide (put_any w.heap.size w.heap.size v' (l.take k) m x W1.drew ((HR.out.below hbw (Nat.le_refl _)).below (Below.refl W1.heap.size W1).drew (Nat.le_refl _)) hst hlt2)
      have HWR := hide HR.out.own.lt
      have i0 : (0 : Int) ≤ (k : Int) := by omega
      have i1 : (k : Int) < (n : Int) := by omega
      have hrl : w.heap.size < wr.heap.size := HR.out.lt
      rw [hxe] at PT
      clear hx g1 g2 hqr hx1 hx2 hbw hlt2 hst hxe
      go_wp2
      rw [← hW1]
      clear hW1
      go_region_with (go_at_call 72; refine PT.out.mono ?_; rintro e w2 ⟨rfl, v2, hr2, ho2, hn2⟩; have HR2 := hide hr2; have HO2 := hide ho2; clear hr2 ho2 hn2)
      go_wp2
      go_roundw
      case rel =>
        refine ⟨k + 1, v2, by omega, by go_num, ?_, ?_⟩
        · show RigAt _ _ _ _ _ _
          rw [← HPT.out]
          exact HR2.out
        · exact (HB.out.trans (HBW.out.mono (by omega))).trans (Below.trans (Below.drew (Below.refl _ _)) (HO2.out.below (Nat.le_refl _) (fun g hg => (HWR.out g hg).1) (by have := HBW.out.size; show w.heap.size ≤ W1.heap.size; omega)))
      case measure => simp [intOf]; omega
    · have hkn : k = n := by omega
      have HE : Hid (l.take k = l) := List.take_of_length_le (by rw [HN.out]; omega)
      go_wp2
      go_ret
      exact ⟨rfl, v', by rw [← HE.out]; exact HR.out, HB.out⟩

/-- the sum in a room -/
def pSum (l : List (Int × Int)) (j : Int) : Int := (l.map (fun a => min j a.1)).sum
theorem room_sum (l : List (Int × Int)) (n j : Int) : pRoom l n j = n - 2 * pSum l j := rfl
theorem pSum_take (l : List (Int × Int)) (j : Int) (k : Nat) (a : Int × Int) (h : l[k]? = some a) : pSum (l.take (k + 1)) j = pSum (l.take k) j + min j a.1 := by
  unfold pSum
  rw [List.take_add_one, h, List.map_append, List.sum_append]
  simp
theorem pSum_bd (l : List (Int × Int)) (j : Int) (hj : 0 ≤ j ∧ j ≤ 1000) (h : ∀ a ∈ l, 0 ≤ a.1) : 0 ≤ pSum l j ∧ pSum l j ≤ 1000 * (l.length : Int) := by
  induction l with
  | nil => exact ⟨Int.le_refl _, Int.le_refl _⟩
  | cons x l ih =>
    have := ih (fun a ha => h a (List.mem_cons_of_mem _ ha))
    have hx := h x (List.mem_cons_self ..)
    have e : pSum (x :: l) j = min j x.1 + pSum l j := by unfold pSum; simp
    rw [e, List.length_cons]
    omega

set_option maxRecDepth 100000 in
set_option maxHeartbeats 4000000 in
theorem room_grw (r lo : Nat) (v : Value) (l : List (Int × Int)) (m j : Int) (w : World) (hR : RigAt w r lo v l m) (hl : l.length ≤ 1000) (h0 : ∀ a ∈ l, 0 ≤ a.1 ∧ a.1 ≤ 1000) (hj : 0 ≤ j ∧ j ≤ 1000) (hm : -1000 ≤ m ∧ m ≤ 1000) :
    Calls Tryd.prog 70 #[.pointer (some ⟨r, 0, none⟩), .int .i64 j] w fun e w' => e = .returned (.int .i64 (pRoom l m j)) ∧ Grw w w' := by
  have hrl := hR.lt
  have c1 := hR.items
  have c2 := hR.boxes
  obtain ⟨n, hn⟩ : ∃ n, l.length = n := ⟨_, rfl⟩
  obtain ⟨a, c, rfl, hf⟩ := hR.parts.form hn
  have HN := hide hn
  have HF := hide hf
  have H0 := hide h0
  rw [hn] at hl
  obtain ⟨j0, j1⟩ := hj
  obtain ⟨m0, m1⟩ := hm
  have HC2 := hide c2
  clear hR hn hf h0 c2
  go_enter Tryd.func70, Tryd.ntmps70
  go_wp2
  clear c1
  go_loopw [5, 14] (fun s i wr => ∃ k : Nat, k ≤ n ∧ i = .int .i64 (k : Int) ∧ s = .int .i64 (pSum (l.take k) j) ∧ Hid (Grw w wr)) (fun _ i _ => n - (intOf i).toNat)
  case atStart => exact ⟨0, Nat.zero_le _, rfl, rfl, Grw.refl w⟩
  case round =>
    obtain ⟨k, hk, rfl, rfl, HG⟩ := hrel
    obtain ⟨b0, b1⟩ := pSum_bd (l.take k) j ⟨j0, j1⟩ (fun a ha => (H0.out a (List.mem_of_mem_take ha)).1)
    rw [List.length_take, HN.out, Nat.min_eq_left hk] at b1
    by_cases hlt : k < n
    · obtain ⟨q, rfl, hq0, hq⟩ := HF.out (by omega)
      obtain ⟨x, hx⟩ : ∃ x, l[k]? = some x := ⟨_, List.getElem?_eq_getElem (by rw [HN.out]; exact hlt)⟩
      obtain ⟨g1, g2⟩ := encZ_get l k x hx
      have d1 := ((HG.out.cells hq) _ _ g1).1
      have d2 := ((HG.out.cells hq) _ _ g2).1
      have hql : q < wr.heap.size := by have := HG.out.size; omega
      have HT := hide (pSum_take l j k x hx)
      obtain ⟨x0, x1⟩ := H0.out x (List.mem_of_getElem? hx)
      obtain ⟨y, hy⟩ : ∃ y, y = x.1 := ⟨_, rfl⟩
      obtain ⟨z, hz⟩ : ∃ y, y = x.2 := ⟨_, rfl⟩
      obtain ⟨t, ht⟩ : ∃ t, t = pSum (l.take k) j := ⟨_, rfl⟩
      rw [← hy] at d1 HT x0 x1
      rw [← hz] at d2
      rw [← ht] at HT b0 b1 ⊢
      clear hx g1 g2 hy hz ht
      have i0 : (0 : Int) ≤ (k : Int) := by omega
      have i1 : (k : Int) < (n : Int) := by omega
      go_wp2
      go_roundw
      case rel =>
        have e : (if y < j then y else j) = min j y := by split <;> omega
        exact ⟨k + 1, by omega, by go_num, by first | rw [HT.out, e] | rw [HT.out], HG.out.trans (Grw.alloc _ _)⟩
      case measure => simp [intOf]; omega
    · have hkn : k = n := by omega
      have HE : Hid (l.take k = l) := List.take_of_length_le (by rw [HN.out]; omega)
      have HRM : Hid (pRoom l m j = m - 2 * pSum (l.take k) j) := by rw [HE.out]; rfl
      have d2 : wr.cell? ⟨r, 2, none⟩ = some (.int .i64 m) := (HG.out.below.cell (p := ⟨r, 2, none⟩) hrl).trans HC2.out
      obtain ⟨t, ht⟩ : ∃ t, t = pSum (l.take k) j := ⟨_, rfl⟩
      rw [← ht] at HRM b0 b1 ⊢
      have w1 : IntKind.i64.wrap (2 * t) = 2 * t := by rw [IntKind.wrap_i64]; omega
      have w2 : IntKind.i64.wrap (m - 2 * t) = m - 2 * t := by rw [IntKind.wrap_i64]; omega
      clear ht
      go_wp2
      go_ret
      exact ⟨by rw [HRM.out]; rfl, HG.out⟩
end Go.Proofs.YteibopcneflidaaDoor
