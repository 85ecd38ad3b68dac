/- TEXTS Put5, Put6, Del. -/
import Derived.Test.YteibopcneflidabDoorRl19
import Derived.Test.YteibopcneflidabDoorRl11
import Derived.Deep.DeepAppendRoom
/- THE WALKS of the sorted list's put, of newRigged and of room; what a rigged partition of the program's is in memory. -/
namespace Go.Proofs.YteibopcneflidabDoor
open Go.RowKit Go.Sort Go.Shelf

/-- block r is a rigged partition: the comparison, the parts in a row of their own, the boxes -/
structure RigAt (w : World) (r lo : Nat) (v : Value) (l : List (Int × Int)) (m : Int) : Prop where
  fn : w.cell? ⟨r, 0, none⟩ = some cmpFn
  items : w.cell? ⟨r, 1, none⟩ = some v
  boxes : w.cell? ⟨r, 2, none⟩ = some (.int .i64 m)
  free : ∀ j, w.frozen? ⟨r, j, none⟩ = false
  own : w.ownsRow lo 44 2 v l.length (encZ l)
  ne : v.ownBlock ≠ some r
  lo_le : lo ≤ r
theorem RigAt.lt {w : World} {r lo : Nat} {v : Value} {l : List (Int × Int)} {m : Int} (h : RigAt w r lo v l m) : r < w.heap.size := World.block_lt_of_cell? w _ h.fn
theorem RigAt.below {w w' : World} {r lo B : Nat} {v : Value} {l : List (Int × Int)} {m : Int} (h : RigAt w r lo v l m) (hb : Below B w w') (hB : w.heap.size ≤ B) : RigAt w' r lo v l m := by
  have hl := h.lt
  have hr : r < B := by omega
  exact ⟨(hb.cell (p := ⟨r, 0, none⟩) hr).trans h.fn, (hb.cell (p := ⟨r, 1, none⟩) hr).trans h.items, (hb.cell (p := ⟨r, 2, none⟩) hr).trans h.boxes, fun j => (hb.frozen (p := ⟨r, j, none⟩) hr).trans (h.free j), owns_below2 h.own hb hB, h.ne, h.lo_le⟩
theorem RigAt.parts {w : World} {r lo : Nat} {v : Value} {l : List (Int × Int)} {m : Int} (h : RigAt w r lo v l m) : PartsV lo w v l := PartsV.of_owns h.own
/-- a row behind another takes its place -/
theorem rig_next {w Wb W w2 : World} {r lo : Nat} {v v' : Value} {l l' : List (Int × Int)} {m : Int} {o : Obj} (hR : RigAt w r lo v l m) (hg : Grw w Wb) (hW : W.heap = (Wb.alloc o).heap) (h1 : W.os = Wb.os) (h2 : W.tape = Wb.tape) (h3 : W.output = Wb.output)
    (hgr : W.grownBy w2 v.ownBlock) (ho : w2.ownsRow lo 44 2 v' l'.length (encZ l')) (hn : RowNext W v v') :
    w2.cell? ⟨r, 1, none⟩ = some v ∧ w2.frozen? ⟨r, 1, none⟩ = false ∧ RigAt (w2.setCell ⟨r, 1, none⟩ v') r lo v' l' m ∧ Only r v.ownBlock w (w2.setCell ⟨r, 1, none⟩ v') ∧ RowNext w v v' := by
  have hrl := hR.lt
  have hbw : Below w.heap.size w W := by
    have hb := hg.below
    refine ⟨h1.trans hb.os, h2.trans hb.tape, h3.trans hb.output, ?_, fun k hk => ?_⟩
    · rw [hW, World.size_alloc]; have := hb.size; omega
    · rw [hW]
      exact (Below.heap_alloc Wb o k (by have := hb.size; omega)).trans (hb.block k hk)
  have hsW := hbw.size
  have hr2 : w2.heap[r]? = w.heap[r]? := (hgr.block r (by omega) (Ne.symm hR.ne)).trans (hbw.block r hrl)
  have c : ∀ j, w2.cell? ⟨r, j, none⟩ = w.cell? ⟨r, j, none⟩ := fun j => World.cell?_of_block (a := ⟨r, j, none⟩) hr2
  have f : ∀ j, w2.frozen? ⟨r, j, none⟩ = w.frozen? ⟨r, j, none⟩ := fun j => World.frozen?_of_block (a := ⟨r, j, none⟩) hr2
  have hne' : v'.ownBlock ≠ some r := by
    rcases hn with e | ⟨g, e, hg'⟩
    · rw [e]; exact hR.ne
    · rw [e]; intro h; injection h with h; omega
  have hnn : RowNext w v v' := hn.elim .inl (fun ⟨g, e, hg'⟩ => .inr ⟨g, e, by omega⟩)
  refine ⟨(c 1).trans hR.items, (f 1).trans (hR.free 1), ⟨?_, ?_, ?_, ?_, ?_, hne', hR.lo_le⟩, ?_, hnn⟩
  · rw [World.cell?_setCell_other _ _ _ _ (by intro h; injection h with _ h; omega)]; exact (c 0).trans hR.fn
  · exact World.cell?_setCell_same' _ _ _ (by rw [c 1, hR.items]; rfl)
  · rw [World.cell?_setCell_other _ _ _ _ (by intro h; injection h with _ h; omega)]; exact (c 2).trans hR.boxes
  · intro j; rw [World.frozen?_setCell]; exact (f j).trans (hR.free j)
  · exact owns_far ho (fun g hg' => Below.heap_setCell _ _ _ _ (by intro h; exact hne' (by rw [hg', h])))
  · have o1 : Only r v.ownBlock w W := Only.of_below r _ hbw
    have o2 : Only r v.ownBlock W w2 := Only.of_grown r hgr
    exact (o1.trans o2 (.inl rfl)).trans (Only.setCell r 1 _ v') (.inl rfl)

theorem own_form {w : World} {b e n s : Nat} {v : Value} {xs : List Value} (h : w.ownsRow b e s v (n + 1) xs) : ∃ g c, v = .slice (some ⟨g, 0, none⟩) (n + 1) c := by
  rcases h.2 with ⟨_, h0⟩ | ⟨g, c, _, h1, _⟩
  · omega
  · exact ⟨g, c, h1⟩

set_option maxRecDepth 100000 in
set_option maxHeartbeats 4000000 in
theorem put_any (r lo : Nat) (v : Value) (l : List (Int × Int)) (m : Int) (p : Int × Int) (w : World) (hR : RigAt w r lo v l m) (hs : pSorted l) (hl : l.length ≤ 900) :
    Calls Tryd.prog 44 #[.pointer (some ⟨r, 0, none⟩), pV p] w fun e w' => e = .returned (.tuple #[]) ∧ ∃ v', RigAt w' r lo v' (pPut l p) m ∧ Only r v.ownBlock w w' ∧ RowNext w v v' := by
  obtain ⟨p1, hp1⟩ : ∃ z, z = p.1 := ⟨_, rfl⟩
  obtain ⟨p2, hp2⟩ : ∃ z, z = p.2 := ⟨_, rfl⟩
  have HPE := hide (show p = (p1, p2) by rw [hp1, hp2])
  have hlo := hR.lo_le
  have hrl := hR.lt
  have HR := hide hR
  obtain ⟨W0, hW0⟩ : ∃ W0, W0 = w.alloc (.cells #[.int .i64 p1, .int .i64 p2] 44) := ⟨_, rfl⟩
  have HG0 : Hid (Grw w W0) := by rw [hW0]; exact hide (Grw.alloc w _)
  have c1 : W0.cell? ⟨r, 0, none⟩ = some cmpFn := (HG0.out.below.cell (p := ⟨r, 0, none⟩) hrl).trans hR.fn
  have c2 : W0.cell? ⟨r, 1, none⟩ = some v := (HG0.out.below.cell (p := ⟨r, 1, none⟩) hrl).trans hR.items
  have c3 : W0.cell? ⟨w.heap.size, 0, none⟩ = some (.int .i64 p1) := by rw [hW0, World.cell?_alloc_at _ _ _ _ rfl]; rfl
  have c4 : W0.cell? ⟨w.heap.size, 1, none⟩ = some (.int .i64 p2) := by rw [hW0, World.cell?_alloc_at _ _ _ _ rfl]; rfl
  have hz0 : w.heap.size < W0.heap.size := by rw [hW0]; simp
  have BS := hide (fun (W : World) (h : PartsV lo W v l) => search_grw l v p W hs h (by omega))
  unfold pV at BS ⊢
  rw [← hp1, ← hp2] at BS ⊢
  clear hR hp1 hp2
  go_enter Tryd.func44, Tryd.ntmps44
  go_wp2
  rw [← hW0]
  clear hW0
  go_region_held3 (fun w' => w'.cell? ⟨r, 0, none⟩ = some cmpFn ∧ w'.cell? ⟨r, 1, none⟩ = some v ∧ w'.cell? ⟨w.heap.size, 0, none⟩ = some (.int .i64 p1) ∧ w'.cell? ⟨w.heap.size, 1, none⟩ = some (.int .i64 p2))
    (first | exact ⟨c1, c2, c3, c4⟩ | exact ⟨d1, d2, d3, d4⟩ | go_keep | fail)
    (first
      | (go_at_call 62; refine (BS.out _ ?_).mono ?_; exact HR.out.parts.below (HG0.out.trans (Grw.drew W0)).below (Nat.le_refl _); rintro e w' ⟨⟨kk, fb, rfl, hkk, hput⟩, hgw⟩; have hg2 := ((Grw.drew W0).trans hgw).below; have d1 := (hg2.cell (p := ⟨r, 0, none⟩) (show r < W0.heap.size by omega)).trans c1; have d2 := (hg2.cell (p := ⟨r, 1, none⟩) (show r < W0.heap.size by omega)).trans c2; have d3 := (hg2.cell (p := ⟨w.heap.size, 0, none⟩) hz0).trans c3; have d4 := (hg2.cell (p := ⟨w.heap.size, 1, none⟩) hz0).trans c4)
      | fail)
  have HGB := hide (HG0.out.trans ((Grw.drew W0).trans hgw))
  have HPUT := hide hput
  have hwz : w.heap.size ≤ w'.heap.size := HGB.out.size
  have hob : ∀ g, v.ownBlock = some g → g < w.heap.size := fun g h => (HR.out.own.lt g h).2
  have HOB := hide hob
  have IN := hide (fun (W : World) (hW : W.heap = (w'.alloc (.cells #[.int .i64 p1, .int .i64 p2] 44)).heap) => insert_any v l.length kk l (p1, p2) w'.heap.size W lo hkk (by omega)
    (owns_far HR.out.own (fun g hg => by rw [hW]; exact (Below.heap_alloc w' _ g (by have := HOB.out g hg; omega)).trans (HGB.out.below.block g (HOB.out g hg))))
    (by rw [hW, World.size_alloc]; omega) (by rw [hW]; exact heap_alloc_new w' _) (fun h => by have := HOB.out _ h; omega))
  have hwz1 : w.heap.size < w'.heap.size := Nat.lt_of_lt_of_le hz0 hg2.size
  clear hput hg2 hgw c1 c2 c3 c4 d1 hz0 BS hob hkk
  go_wp2
  have d5 : (w'.alloc (.cells #[.int .i64 p1, .int .i64 p2] 44)).cell? ⟨r, 1, none⟩ = some v := (World.cell?_alloc_lt w' _ ⟨r, 1, none⟩ (show r < w'.heap.size by omega)).trans d2
  go_region_with
    (first
      | (go_at_call 63; refine (IN.out _ ?_).mono ?_; rfl; go_loud (rintro e w2 ⟨v', rfl, ho2, hg2, hn2⟩; obtain ⟨g', c', rfl⟩ := own_form ho2; have FIN := rig_next (l' := pPut l p) HR.out HGB.out (W := (w'.alloc (.cells #[.int .i64 p1, .int .i64 p2] 44)).drew) (o := .cells #[.int .i64 p1, .int .i64 p2] 44) rfl rfl rfl rfl hg2 (by rw [pPut_length, ← HPUT.out, HPE.out]; exact ho2) hn2; have hcell := FIN.1; have hfr := FIN.2.1; have HFIN := hide FIN.2.2; clear FIN ho2 hg2 hn2))
      | fail)
  all_goals (try go_wp2)
  all_goals (refine bodyPost_end (results_none rfl _ _ _) rfl ?_)
  all_goals exact ⟨rfl, _, HFIN.out.1, HFIN.out.2.1, HFIN.out.2.2⟩
end Go.Proofs.YteibopcneflidabDoor

/- THE WALKS of newRigged, room, readParts, readFitting, roomIn, and the program's RigRoom and RigFits. -/
namespace Go.Proofs.YteibopcneflidabDoor
open Go.RowKit Go.Sort Go.Shelf

set_option maxRecDepth 100000 in
set_option maxHeartbeats 4000000 in
theorem newRigged_any (l : List (Int × Int)) (v : Value) (m : Int) (w : World) {lo : Nat} (hs : pSorted l) (hP : PartsV lo w v l) (hl : l.length ≤ 900) :
    Calls Tryd.prog 28 #[v, .int .i64 m] w fun e w' => e = .returned (.pointer (some ⟨w.heap.size, 0, none⟩)) ∧ ∃ v', RigAt w' w.heap.size w.heap.size v' l m ∧ Below w.heap.size w w' := by
  obtain ⟨n, hn⟩ : ∃ n, l.length = n := ⟨_, rfl⟩
  obtain ⟨a, c, rfl, hf⟩ := hP.form hn
  have HN := hide hn
  have HF := hide hf
  rw [hn] at hl
  have HSO := hide hs
  obtain ⟨W0, hW0⟩ : ∃ W0, W0 = w.alloc (.cells #[cmpFn, .slice none 0 0, .int .i64 m] 69) := ⟨_, rfl⟩
  have hz0 : w.heap.size < W0.heap.size := by rw [hW0]; simp
  have HB0 : Hid (Below w.heap.size w W0) := by rw [hW0]; exact (Below.refl _ w).alloc (Nat.le_refl _) _
  have HR0 : Hid (RigAt W0 w.heap.size w.heap.size (.slice none 0 0) [] m) := by
    rw [hW0]
    refine ⟨?_, ?_, ?_, fun j => World.frozen?_alloc_at _ _ _ _ rfl, World.ownsRow_nil _ _ _ _, (fun h => by cases h), Nat.le_refl _⟩
    all_goals (rw [World.cell?_alloc_at _ _ _ _ rfl]; rfl)
  clear hP hn hf hs
  go_enter Tryd.func28, Tryd.ntmps28
  go_wp2
  rw [← hW0]
  clear hW0
  go_loopw [14] (fun i wr => ∃ (k : Nat) (v' : Value), k ≤ n ∧ i = .int .i64 (k : Int) ∧ Hid (RigAt wr w.heap.size w.heap.size v' (l.take k) m) ∧ Hid (Below w.heap.size w wr)) (fun i _ => n - (intOf i).toNat)
  case atStart => exact ⟨0, _, Nat.zero_le _, rfl, HR0.out, HB0.out⟩
  case round =>
    obtain ⟨k, v', hk, rfl, HR, HB⟩ := hrel
    by_cases hlt : k < n
    · obtain ⟨q, rfl, hq0, hq⟩ := HF.out (by omega)
      obtain ⟨x, hx⟩ : ∃ x, l[k]? = some x := ⟨_, List.getElem?_eq_getElem (by rw [HN.out]; exact hlt)⟩
      obtain ⟨g1, g2⟩ := encZ_get l k x hx
      have hqr := hq.below' HB.out (Nat.le_refl _)
      have d1 := (hqr _ _ g1).1
      have d2 := (hqr _ _ g2).1
      have hql : q < wr.heap.size := by have := HB.out.size; omega
      have HPT := hide (take_put HSO.out hx)
      have hlt2 : (l.take k).length ≤ 900 := by rw [List.length_take]; omega
      have hst : pSorted (l.take k) := List.Pairwise.sublist (List.take_sublist ..) HSO.out
      obtain ⟨x1, hx1⟩ : ∃ z, z = x.1 := ⟨_, rfl⟩
      obtain ⟨x2, hx2⟩ : ∃ z, z = x.2 := ⟨_, rfl⟩
      have hxe : pV x = .agg #[.int .i64 x1, .int .i64 x2] := by unfold pV; rw [hx1, hx2]
      rw [← hx1] at d1
      rw [← hx2] at d2
      obtain ⟨W1, hW1⟩ : ∃ W1, W1 = wr.alloc (.cells #[.int .i64 x1, .int .i64 x2] 44) := ⟨_, rfl⟩
      have c1 : W1.cell? ⟨wr.heap.size, 0, none⟩ = some (.int .i64 x1) := by rw [hW1, World.cell?_alloc_at _ _ _ _ rfl]; rfl
      have c2 : W1.cell? ⟨wr.heap.size, 1, none⟩ = some (.int .i64 x2) := by rw [hW1, World.cell?_alloc_at _ _ _ _ rfl]; rfl
      have hbw : Below wr.heap.size wr W1 := by rw [hW1]; exact (Below.refl _ wr).alloc (Nat.le_refl _) _
      have HBW := hide hbw
      have PT := hide (put_any w.heap.size w.heap.size v' (l.take k) m x W1.drew ((HR.out.below hbw (Nat.le_refl _)).below (Below.refl W1.heap.size W1).drew (Nat.le_refl _)) hst hlt2)
      have HWR := hide HR.out.own.lt
      have i0 : (0 : Int) ≤ (k : Int) := by omega
      have i1 : (k : Int) < (n : Int) := by omega
      have hrl : w.heap.size < wr.heap.size := HR.out.lt
      rw [hxe] at PT
      clear hx g1 g2 hqr hx1 hx2 hbw hlt2 hst hxe
      go_wp2
      rw [← hW1]
      clear hW1
      go_region_with (go_at_call 44; refine PT.out.mono ?_; rintro e w2 ⟨rfl, v2, hr2, ho2, hn2⟩; have HR2 := hide hr2; have HO2 := hide ho2; clear hr2 ho2 hn2)
      go_wp2
      go_roundw
      case rel =>
        refine ⟨k + 1, v2, by omega, by go_num, ?_, ?_⟩
        · show RigAt _ _ _ _ _ _
          rw [← HPT.out]
          exact HR2.out
        · exact (HB.out.trans (HBW.out.mono (by omega))).trans (Below.trans (Below.drew (Below.refl _ _)) (HO2.out.below (Nat.le_refl _) (fun g hg => (HWR.out g hg).1) (by have := HBW.out.size; show w.heap.size ≤ W1.heap.size; omega)))
      case measure => simp [intOf]; omega
    · have hkn : k = n := by omega
      have HE : Hid (l.take k = l) := List.take_of_length_le (by rw [HN.out]; omega)
      go_wp2
      go_ret
      exact ⟨rfl, v', by rw [← HE.out]; exact HR.out, HB.out⟩

/-- the sum in a room -/
def pSum (l : List (Int × Int)) (j : Int) : Int := (l.map (fun a => min j a.1)).sum
theorem room_sum (l : List (Int × Int)) (n j : Int) : pRoom l n j = n - 2 * pSum l j := rfl
theorem pSum_take (l : List (Int × Int)) (j : Int) (k : Nat) (a : Int × Int) (h : l[k]? = some a) : pSum (l.take (k + 1)) j = pSum (l.take k) j + min j a.1 := by
  unfold pSum
  rw [List.take_add_one, h, List.map_append, List.sum_append]
  simp
theorem pSum_bd (l : List (Int × Int)) (j : Int) (hj : 0 ≤ j ∧ j ≤ 1000) (h : ∀ a ∈ l, 0 ≤ a.1) : 0 ≤ pSum l j ∧ pSum l j ≤ 1000 * (l.length : Int) := by
  induction l with
  | nil => exact ⟨Int.le_refl _, Int.le_refl _⟩
  | cons x l ih =>
    have := ih (fun a ha => h a (List.mem_cons_of_mem _ ha))
    have hx := h x (List.mem_cons_self ..)
    have e : pSum (x :: l) j = min j x.1 + pSum l j := by unfold pSum; simp
    rw [e, List.length_cons]
    omega

set_option maxRecDepth 100000 in
set_option maxHeartbeats 4000000 in
theorem room_grw (r lo : Nat) (v : Value) (l : List (Int × Int)) (m j : Int) (w : World) (hR : RigAt w r lo v l m) (hl : l.length ≤ 1000) (h0 : ∀ a ∈ l, 0 ≤ a.1 ∧ a.1 ≤ 1000) (hj : 0 ≤ j ∧ j ≤ 1000) (hm : -1000 ≤ m ∧ m ≤ 1000) :
    Calls Tryd.prog 66 #[.pointer (some ⟨r, 0, none⟩), .int .i64 j] w fun e w' => e = .returned (.int .i64 (pRoom l m j)) ∧ Grw w w' := by
  have hrl := hR.lt
  have c1 := hR.items
  have c2 := hR.boxes
  obtain ⟨n, hn⟩ : ∃ n, l.length = n := ⟨_, rfl⟩
  obtain ⟨a, c, rfl, hf⟩ := hR.parts.form hn
  have HN := hide hn
  have HF := hide hf
  have H0 := hide h0
  rw [hn] at hl
  obtain ⟨j0, j1⟩ := hj
  obtain ⟨m0, m1⟩ := hm
  have HC2 := hide c2
  clear hR hn hf h0 c2
  go_enter Tryd.func66, Tryd.ntmps66
  go_wp2
  clear c1
  go_loopw [5, 14] (fun s i wr => ∃ k : Nat, k ≤ n ∧ i = .int .i64 (k : Int) ∧ s = .int .i64 (pSum (l.take k) j) ∧ Hid (Grw w wr)) (fun _ i _ => n - (intOf i).toNat)
  case atStart => exact ⟨0, Nat.zero_le _, rfl, rfl, Grw.refl w⟩
  case round =>
    obtain ⟨k, hk, rfl, rfl, HG⟩ := hrel
    obtain ⟨b0, b1⟩ := pSum_bd (l.take k) j ⟨j0, j1⟩ (fun a ha => (H0.out a (List.mem_of_mem_take ha)).1)
    rw [List.length_take, HN.out, Nat.min_eq_left hk] at b1
    by_cases hlt : k < n
    · obtain ⟨q, rfl, hq0, hq⟩ := HF.out (by omega)
      obtain ⟨x, hx⟩ : ∃ x, l[k]? = some x := ⟨_, List.getElem?_eq_getElem (by rw [HN.out]; exact hlt)⟩
      obtain ⟨g1, g2⟩ := encZ_get l k x hx
      have d1 := ((HG.out.cells hq) _ _ g1).1
      have d2 := ((HG.out.cells hq) _ _ g2).1
      have hql : q < wr.heap.size := by have := HG.out.size; omega
      have HT := hide (pSum_take l j k x hx)
      obtain ⟨x0, x1⟩ := H0.out x (List.mem_of_getElem? hx)
      obtain ⟨y, hy⟩ : ∃ y, y = x.1 := ⟨_, rfl⟩
      obtain ⟨z, hz⟩ : ∃ y, y = x.2 := ⟨_, rfl⟩
      obtain ⟨t, ht⟩ : ∃ t, t = pSum (l.take k) j := ⟨_, rfl⟩
      rw [← hy] at d1 HT x0 x1
      rw [← hz] at d2
      rw [← ht] at HT b0 b1 ⊢
      clear hx g1 g2 hy hz ht
      have i0 : (0 : Int) ≤ (k : Int) := by omega
      have i1 : (k : Int) < (n : Int) := by omega
      go_wp2
      go_roundw
      case rel =>
        have e : (if y < j then y else j) = min j y := by split <;> omega
        exact ⟨k + 1, by omega, by go_num, by first | rw [HT.out, e] | rw [HT.out], HG.out.trans (Grw.alloc _ _)⟩
      case measure => simp [intOf]; omega
    · have hkn : k = n := by omega
      have HE : Hid (l.take k = l) := List.take_of_length_le (by rw [HN.out]; omega)
      have HRM : Hid (pRoom l m j = m - 2 * pSum (l.take k) j) := by rw [HE.out]; rfl
      have d2 : wr.cell? ⟨r, 2, none⟩ = some (.int .i64 m) := (HG.out.below.cell (p := ⟨r, 2, none⟩) hrl).trans HC2.out
      obtain ⟨t, ht⟩ : ∃ t, t = pSum (l.take k) j := ⟨_, rfl⟩
      rw [← ht] at HRM b0 b1 ⊢
      have w1 : IntKind.i64.wrap (2 * t) = 2 * t := by rw [IntKind.wrap_i64]; omega
      have w2 : IntKind.i64.wrap (m - 2 * t) = m - 2 * t := by rw [IntKind.wrap_i64]; omega
      clear ht
      go_wp2
      go_ret
      exact ⟨by rw [HRM.out]; rfl, HG.out⟩
end Go.Proofs.YteibopcneflidabDoor

/- THE WALKS of slices.Delete at parts, and of the sorted list's takeAt. -/
namespace Go.Proofs.YteibopcneflidabDoor
open Go.RowKit Go.Sort Go.Shelf

/-- an append within the capacity, at a step of a region that draws its order -/
theorem step_appF {P : Program} {w : World} {ops : Array Oper} {o : Oper} {a : Act} {K : Act → World → Prop} {Q : Exit → Act → World → Prop} {E : Prop} (hgd : o.guard = none) (s x : Operand) (t : TypeId)
    (ho : o.op = .call { callee := .builtin .append, args := #[s, x], argTypes := #[t, t] })
    (base : Nat) (e : TypeId) (i : TypeInfo) (size : Nat) (ht : P.underlying t = some (.slice e)) (hi : P.info? e = some i) (hsize : i.size = size)
    (g n cap : Nat) (xs : List Value) (hs : a.eval s = .slice (some ⟨g, 0, none⟩) n cap) (hown : w.ownsRow base e size (.slice (some ⟨g, 0, none⟩) n cap) n xs)
    (ad : Addr) (m c : Nat) (news : List Value) (hx : a.eval x = .slice (some ad) m c) (hl : news.length = m * size) (hnews : ∀ j u, news[j]? = some u → w.cell? (ad.add j) = some u) (h1 : ∀ u ∈ news, u.oneCell' = true)
    (hroom : n + m ≤ cap)
    (h : ∀ w', w'.ownsRow base e size (.slice (some ⟨g, 0, none⟩) (n + m) cap) (n + m) (xs ++ news) → w.grownBy w' (some g) → K (a.put o.dst (.slice (some ⟨g, 0, none⟩) (n + m) cap)) w') :
    if Region.wanted o (yielded ops a.tmps) = true then Oper.wp P o a w K Q else E := by
  have hw : Region.wanted o (yielded ops a.tmps) = true := by simp [Region.wanted, hgd]
  rw [if_pos hw]
  obtain ⟨w', hr, h2, h3⟩ := run_append_own_spare (P := P) w base t o.type e i size ht hi hsize g n cap xs hown ad m c news hl hnews h1 hroom
  unfold Oper.wp execOp
  simp only [ho, resolve, invoke, builtin, Sem.run_bind, Sem.run_pure, Result.andThen_ok, List.map_toArray, List.map_cons, List.map_nil, hs, hx, hr]
  exact h w' h2 h3
theorem zeroP (w : World) : (zeroValue 44).run Tryd.prog w = .ok (.agg #[.int .i64 0, .int .i64 0]) w := by kernel_rfl
theorem zeroP_one : ∀ u ∈ (Value.agg #[.int .i64 0, .int .i64 0]).cells.toList, u.oneCell' = true := by
  intro u hu
  have h : (Value.agg #[.int .i64 0, .int .i64 0]).cells.toList = [.int .i64 0, .int .i64 0] := rfl
  rw [h] at hu
  simp at hu
  subst hu
  rfl
/-- the part behind a row's end, cleared -/
theorem clear_tail {w : World} {b g m cap : Nat} {xs : List Value} (ty : TypeId) (ho : w.ownsRow b 44 2 (.slice (some ⟨g, 0, none⟩) m cap) m xs) (hm : m + 1 ≤ cap) (d : Nat) :
    ∃ w', (Builtin.clear_ #[24] ty #[.slice (some ⟨g, m * 2, none⟩) 1 d]).run Tryd.prog w = .ok (.tuple #[]) w' ∧ w'.ownsRow b 44 2 (.slice (some ⟨g, 0, none⟩) m cap) m xs ∧ w.grownBy w' (some g) := by
  rcases ho.2 with ⟨h0, _⟩ | ⟨g', cap', cur, hv, hb, hg, hnc, hcm, hcs, htake⟩
  · cases h0
  · cases hv
    have hr := run_clear_rowK (P := Tryd.prog) w 24 44 ty (.agg #[.int .i64 0, .int .i64 0]) Tryd.underlying24 zeroP zeroP_one g (m * 2) 1 d cur 44 (by omega) hg (by show m * 2 + 1 * 2 ≤ cur.size; omega) (by decide)
    refine ⟨_, hr, ⟨ho.1, .inr ⟨g, cap, _, rfl, hb, setRow_heap w g cur _ _ _ hg, hnc, hcm, ?_, ?_⟩⟩, ⟨rfl, rfl, rfl, by simp, fun k _ hk => setRow_other w g k _ (fun e => hk (by simp [e]))⟩⟩
    · have : (Builtin.zeroCells (Value.agg #[.int .i64 0, .int .i64 0]).cells 1).toList.length = 2 := by rw [Array.length_toList, size_zeroCells]; rfl
      simp only [List.size_toArray, List.length_append, List.length_take, List.length_drop, Array.length_toList, this]
      show min (m * 2) cur.size + 2 + (cur.size - (m * 2 + 1 * 2)) = _
      omega
    · rw [List.toList_toArray, List.append_assoc, List.take_append_of_le_length (by rw [List.length_take, Array.length_toList]; omega), List.take_take, Nat.min_self]
      exact htake

theorem drew_grown {w w' : World} {row : Option Nat} (h : w.drew.grownBy w' row) : w.grownBy w' row := ⟨h.os, h.tape, h.output, h.size, h.block⟩
theorem wpList_clear_tail {ops : Array Oper} {rest : List Oper} {o : Oper} {a : Act} {Q : Exit → Act → World → Prop} {w : World} (hgd : o.guard = none) (s : Operand)
    (ho : o.op = .call { callee := .builtin .clear, args := #[s], argTypes := #[24] }) (b g m cap L d : Nat) (xs : List Value) (hs : a.eval s = .slice (some ⟨g, m * 2, none⟩) L d) (hL : L = 1)
    (hown : w.ownsRow b 44 2 (.slice (some ⟨g, 0, none⟩) m cap) m xs) (hm : m + 1 ≤ cap)
    (h : ∀ w', w'.ownsRow b 44 2 (.slice (some ⟨g, 0, none⟩) m cap) m xs → w.grownBy w' (some g) → wpList Tryd.prog ops Q rest (a.put o.dst (.tuple #[])) w') : wpList Tryd.prog ops Q (o :: rest) a w := by
  subst hL
  obtain ⟨w', hr, h1, h2⟩ := clear_tail o.type hown hm d
  exact wpList_clear_eq w hgd s 24 ho _ hs hr (h w' h1 h2)

set_option maxRecDepth 100000 in
set_option maxHeartbeats 2000000 in
theorem delete_any (lo g c n k : Nat) (l : List (Int × Int)) (w : World) (ho : w.ownsRow lo 44 2 (.slice (some ⟨g, 0, none⟩) n c) n (encZ l)) (hk : k < n) :
    Calls Tryd.prog 75 #[.slice (some ⟨g, 0, none⟩) n c, .int .i64 (k : Int), .int .i64 ((k : Int) + 1)] w fun e w' =>
      e = .returned (.slice (some ⟨g, 0, none⟩) (n - 1) c) ∧ w'.ownsRow lo 44 2 (.slice (some ⟨g, 0, none⟩) (n - 1) c) (n - 1) (encZ (l.eraseIdx k)) ∧ w.grownBy w' (some g) := by
  have mixed : Tryd.prog.follows .mixedOrders = true := by kernel_rfl
  obtain ⟨i0, hi, hz0, hz1, hz2⟩ := info_parts infoP
  have hl : l.length = n := by have := ho.1; rw [encZ_length] at this; omega
  have hcap : n ≤ c := by
    rcases ho.2 with ⟨h0, _⟩ | ⟨g', cap', cur, hv, hb, hg, hnc, hcm, hcs, htake⟩
    · cases h0
    · cases hv; exact hnc
  have hmax : c ≤ maxLen := by
    rcases ho.2 with ⟨h0, _⟩ | ⟨g', cap', cur, hv, hb, hg, hnc, hcm, hcs, htake⟩
    · cases h0
    · cases hv; exact hcm
  unfold maxLen at hmax
  have OT := hide (owns_take ho (Nat.le_of_lt hk) (by omega))
  have HC : Hid (CellsAt w g (encZ l)) := hide (fun j u hu => by
    have hj : j < n * 2 := by have := ho.1; have := (List.getElem?_eq_some_iff.1 hu).1; omega
    exact ⟨by rw [ho.cellAt j hj]; exact hu, ho.frozenAt j⟩)
  have SRC := hide (src_drop HC.out (k + 1))
  have LD : Hid ((encZ (l.drop (k + 1))).length = (n - (k + 1)) * 2) := hide (by rw [encZ_length, List.length_drop, hl])
  have oD := hide (encZ_one (l.drop (k + 1)))
  have HE : Hid (encZ (l.take k) ++ encZ (l.drop (k + 1)) = encZ (l.eraseIdx k)) := hide (by rw [← encZ_app, List.eraseIdx_eq_take_drop_succ])
  have k0 : (0 : Int) ≤ (k : Int) := by omega
  have k1 : (k : Int) ≤ (k : Int) + 1 := by omega
  have k2 : (k : Int) + 1 ≤ (n : Int) := by omega
  have k3 : (n : Int) ≤ (c : Int) := by omega
  have k4 : ¬ ((k : Int) = (k : Int) + 1) := by omega
  have k5 : (k : Int) ≤ (c : Int) := by omega
  have k6 : (0 : Int) ≤ (k : Int) + 1 := by omega
  have ck : ¬ (c = k) := by omega
  have hroom : k + (n - (k + 1)) ≤ c := by omega
  have hnn : k + (n - (k + 1)) = n - 1 := by omega
  have HNN := hide hnn
  clear ho hl hnn
  have SRC0 : Hid (c = k + 1 → ∀ (a : Addr) j u, (encZ (l.drop (k + 1)))[j]? = some u → w.cell? (a.add j) = some u) := hide (fun h a j u hu => by
    have := (List.getElem?_eq_some_iff.1 hu).1
    rw [LD.out] at this
    omega)
  by_cases hck : c = k + 1
  · have SRC1 := hide (SRC0.out hck ⟨g, 0, none⟩)
    subst hck
    have hn0 : n - (k + 1) = 0 := by omega
    have LD0 : Hid ((encZ (l.drop (k + 1))).length = 0 * 2) := hide (by rw [LD.out, hn0])
    have hr0 : k + 0 ≤ k + 1 := by omega
    go_enter Tryd.func75, Tryd.ntmps75
    go_wp2_with fail
    go_region_held3 (fun _ => True) (first | exact trivial | fail) (first | ((refine step_appF (by rfl) (.tmp 22) (.tmp 25) 24 (by rfl) lo 44 i0 2 Tryd.underlying24 hi hz1 g k (k + 1) (encZ (l.take k)) (by rfl) OT.out ⟨g, 0, none⟩ 0 0 (encZ (l.drop (k + 1))) (by rfl) LD0.out SRC1.out oD.out hr0 ?_; intro w1 ho1 hg1; have O1 := hide ho1; have G1 := hide hg1; clear ho1 hg1)) | fail)
    all_goals go_wp2_with ((refine wpList_clear_tail rfl _ rfl lo g k (k + 1) _ _ (encZ (l.take k) ++ encZ (l.drop (k + 1))) (by rfl) (by omega) O1.out (by omega) ?_; intro w2 ho2 hg2; have O2 := hide ho2; have G2 := hide (G1.out.trans hg2); clear ho2 hg2))
    all_goals go_ret
    all_goals (rw [show n - 1 = k by omega, ← HE.out]; exact ⟨rfl, O2.out, drew_grown G2.out⟩)
  · go_enter Tryd.func75, Tryd.ntmps75
    go_wp2_with fail
    go_region_held3 (fun _ => True) (first | exact trivial | fail) (first | ((refine step_appF (by rfl) (.tmp 22) (.tmp 25) 24 (by rfl) lo 44 i0 2 Tryd.underlying24 hi hz1 g k c (encZ (l.take k)) (by rfl) OT.out ⟨g, (k + 1) * 2, none⟩ (n - (k + 1)) (c - (k + 1)) (encZ (l.drop (k + 1))) (by rfl) LD.out SRC.out oD.out hroom ?_; intro w1 ho1 hg1; have O1 := hide ho1; have G1 := hide hg1; clear ho1 hg1)) | fail)
    all_goals go_wp2_with ((refine wpList_clear_tail rfl _ rfl lo g (k + (n - (k + 1))) c _ _ (encZ (l.take k) ++ encZ (l.drop (k + 1))) (by rfl) (by omega) O1.out (by omega) ?_; intro w2 ho2 hg2; have O2 := hide ho2; have G2 := hide (G1.out.trans hg2); clear ho2 hg2))
    all_goals go_ret
    all_goals (rw [← HNN.out, ← HE.out]; exact ⟨rfl, O2.out, drew_grown G2.out⟩)
end Go.Proofs.YteibopcneflidabDoor
