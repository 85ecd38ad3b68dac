/- THE WALKS of the sorted list's put, of newRigged and of room; what a rigged partition of the program's is in memory. -/
import Derived.Test.YteibopcneflidaaDoorPut4
namespace Go.Proofs.YteibopcneflidaaDoor
open Go.RowKit Go.Sort Go.Shelf

/-- block r is a rigged partition: the comparison, the parts in a row of their own, the boxes -/
structure RigAt (w : World) (r lo : Nat) (v : Value) (l : List (Int × Int)) (m : Int) : Prop where
  fn : w.cell? ⟨r, 0, none⟩ = some cmpFn
  items : w.cell? ⟨r, 1, none⟩ = some v
  boxes : w.cell? ⟨r, 2, none⟩ = some (.int .i64 m)
  free : ∀ j, w.frozen? ⟨r, j, none⟩ = false
  own : w.ownsRow lo 48 2 v l.length (encZ l)
  ne : v.ownBlock ≠ some r
  lo_le : lo ≤ r
theorem RigAt.lt {w : World} {r lo : Nat} {v : Value} {l : List (Int × Int)} {m : Int} (h : RigAt w r lo v l m) : r < w.heap.size := World.block_lt_of_cell? w _ h.fn
theorem RigAt.below {w w' : World} {r lo B : Nat} {v : Value} {l : List (Int × Int)} {m : Int} (h : RigAt w r lo v l m) (hb : Below B w w') (hB : w.heap.size ≤ B) : RigAt w' r lo v l m := by
  have hl := h.lt
  have hr : r < B := by omega
  exact ⟨(hb.cell (p := ⟨r, 0, none⟩) hr).trans h.fn, (hb.cell (p := ⟨r, 1, none⟩) hr).trans h.items, (hb.cell (p := ⟨r, 2, none⟩) hr).trans h.boxes, fun j => (hb.frozen (p := ⟨r, j, none⟩) hr).trans (h.free j), owns_below2 h.own hb hB, h.ne, h.lo_le⟩
theorem RigAt.parts {w : World} {r lo : Nat} {v : Value} {l : List (Int × Int)} {m : Int} (h : RigAt w r lo v l m) : PartsV lo w v l := PartsV.of_owns h.own
/-- a row behind another takes its place -/
theorem rig_next {w Wb W w2 : World} {r lo : Nat} {v v' : Value} {l l' : List (Int × Int)} {m : Int} {o : Obj} (hR : RigAt w r lo v l m) (hg : Grw w Wb) (hW : W.heap = (Wb.alloc o).heap) (h1 : W.os = Wb.os) (h2 : W.tape = Wb.tape) (h3 : W.output = Wb.output)
    (hgr : W.grownBy w2 v.ownBlock) (ho : w2.ownsRow lo 48 2 v' l'.length (encZ l')) (hn : RowNext W v v') :
    w2.cell? ⟨r, 1, none⟩ = some v ∧ w2.frozen? ⟨r, 1, none⟩ = false ∧ RigAt (w2.setCell ⟨r, 1, none⟩ v') r lo v' l' m ∧ Only r v.ownBlock w (w2.setCell ⟨r, 1, none⟩ v') ∧ RowNext w v v' := by
  have hrl := hR.lt
  have hbw : Below w.heap.size w W := by
    have hb := hg.below
    refine ⟨h1.trans hb.os, h2.trans hb.tape, h3.trans hb.output, ?_, fun k hk => ?_⟩
    · rw [hW, World.size_alloc]; have := hb.size; omega
    · rw [hW]
      exact (Below.heap_alloc Wb o k (by have := hb.size; omega)).trans (hb.block k hk)
  have hsW := hbw.size
  have hr2 : w2.heap[r]? = w.heap[r]? := (hgr.block r (by omega) (Ne.symm hR.ne)).trans (hbw.block r hrl)
  have c : ∀ j, w2.cell? ⟨r, j, none⟩ = w.cell? ⟨r, j, none⟩ := fun j => World.cell?_of_block (a := ⟨r, j, none⟩) hr2
  have f : ∀ j, w2.frozen? ⟨r, j, none⟩ = w.frozen? ⟨r, j, none⟩ := fun j => World.frozen?_of_block (a := ⟨r, j, none⟩) hr2
  have hne' : v'.ownBlock ≠ some r := by
    rcases hn with e | ⟨g, e, hg'⟩
    · rw [e]; exact hR.ne
    · rw [e]; intro h; injection h with h; omega
  have hnn : RowNext w v v' := hn.elim .inl (fun ⟨g, e, hg'⟩ => .inr ⟨g, e, by omega⟩)
  refine ⟨(c 1).trans hR.items, (f 1).trans (hR.free 1), ⟨?_, ?_, ?_, ?_, ?_, hne', hR.lo_le⟩, ?_, hnn⟩
  · rw [World.cell?_setCell_other _ _ _ _ (by intro h; injection h with _ h; omega)]; exact (c 0).trans hR.fn
  · exact World.cell?_setCell_same' _ _ _ (by rw [c 1, hR.items]; rfl)
  · rw [World.cell?_setCell_other _ _ _ _ (by intro h; injection h with _ h; omega)]; exact (c 2).trans hR.boxes
  · intro j; rw [World.frozen?_setCell]; exact (f j).trans (hR.free j)
  · exact owns_far ho (fun g hg' => Below.heap_setCell _ _ _ _ (by intro h; exact hne' (by rw [hg', h])))
  · have o1 : Only r v.ownBlock w W := Only.of_below r _ hbw
    have o2 : Only r v.ownBlock W w2 := Only.of_grown r hgr
    exact (o1.trans o2 (.inl rfl)).trans (Only.setCell r 1 _ v') (.inl rfl)

theorem own_form {w : World} {b e n s : Nat} {v : Value} {xs : List Value} (h : w.ownsRow b e s v (n + 1) xs) : ∃ g c, v = .slice (some ⟨g, 0, none⟩) (n + 1) c := by
  rcases h.2 with ⟨_, h0⟩ | ⟨g, c, _, h1, _⟩
  · omega
  · exact ⟨g, c, h1⟩

set_option maxRecDepth 100000 in
set_option maxHeartbeats 4000000 in
theorem put_any (r lo : Nat) (v : Value) (l : List (Int × Int)) (m : Int) (p : Int × Int) (w : World) (hR : RigAt w r lo v l m) (hs : pSorted l) (hl : l.length ≤ 900) :
    Calls Tryd.prog 72 #[.pointer (some ⟨r, 0, none⟩), pV p] w fun e w' => e = .returned (.tuple #[]) ∧ ∃ v', RigAt w' r lo v' (pPut l p) m ∧ Only r v.ownBlock w w' ∧ RowNext w v v' := by
  obtain ⟨p1, hp1⟩ : ∃ z, z = p.1 := ⟨_, rfl⟩
  obtain ⟨p2, hp2⟩ : ∃ z, z = p.2 := ⟨_, rfl⟩
  have HPE := hide (show p = (p1, p2) by rw [hp1, hp2])
  have hlo := hR.lo_le
  have hrl := hR.lt
  have HR := hide hR
  obtain ⟨W0, hW0⟩ : ∃ W0, W0 = w.alloc (.cells #[.int .i64 p1, .int .i64 p2] 48) := ⟨_, rfl⟩
  have HG0 : Hid (Grw w W0) := by rw [hW0]; exact hide (Grw.alloc w _)
  have c1 : W0.cell? ⟨r, 0, none⟩ = some cmpFn := (HG0.out.below.cell (p := ⟨r, 0, none⟩) hrl).trans hR.fn
  have c2 : W0.cell? ⟨r, 1, none⟩ = some v := (HG0.out.below.cell (p := ⟨r, 1, none⟩) hrl).trans hR.items
  have c3 : W0.cell? ⟨w.heap.size, 0, none⟩ = some (.int .i64 p1) := by rw [hW0, World.cell?_alloc_at _ _ _ _ rfl]; rfl
  have c4 : W0.cell? ⟨w.heap.size, 1, none⟩ = some (.int .i64 p2) := by rw [hW0, World.cell?_alloc_at _ _ _ _ rfl]; rfl
  have hz0 : w.heap.size < W0.heap.size := by rw [hW0]; simp
  have BS := hide (fun (W : World) (h : PartsV lo W v l) => search_grw l v p W hs h (by omega))
  unfold pV at BS ⊢
  rw [← hp1, ← hp2] at BS ⊢
  clear hR hp1 hp2
  go_enter Tryd.func72, Tryd.ntmps72
  go_wp2
  rw [← hW0]
  clear hW0
  go_region_held3 (fun w' => w'.cell? ⟨r, 0, none⟩ = some cmpFn ∧ w'.cell? ⟨r, 1, none⟩ = some v ∧ w'.cell? ⟨w.heap.size, 0, none⟩ = some (.int .i64 p1) ∧ w'.cell? ⟨w.heap.size, 1, none⟩ = some (.int .i64 p2))
    (first | exact ⟨c1, c2, c3, c4⟩ | exact ⟨d1, d2, d3, d4⟩ | go_keep | fail)
    (first
      | (go_at_call 91; refine (BS.out _ ?_).mono ?_; exact HR.out.parts.below (HG0.out.trans (Grw.drew W0)).below (Nat.le_refl _); rintro e w' ⟨⟨kk, fb, rfl, hkk, hput⟩, hgw⟩; have hg2 := ((Grw.drew W0).trans hgw).below; have d1 := (hg2.cell (p := ⟨r, 0, none⟩) (show r < W0.heap.size by omega)).trans c1; have d2 := (hg2.cell (p := ⟨r, 1, none⟩) (show r < W0.heap.size by omega)).trans c2; have d3 := (hg2.cell (p := ⟨w.heap.size, 0, none⟩) hz0).trans c3; have d4 := (hg2.cell (p := ⟨w.heap.size, 1, none⟩) hz0).trans c4)
      | fail)
  have HGB := hide (HG0.out.trans ((Grw.drew W0).trans hgw))
  have HPUT := hide hput
  have hwz : w.heap.size ≤ w'.heap.size := HGB.out.size
  have hob : ∀ g, v.ownBlock = some g → g < w.heap.size := fun g h => (HR.out.own.lt g h).2
  have HOB := hide hob
  have IN := hide (fun (W : World) (hW : W.heap = (w'.alloc (.cells #[.int .i64 p1, .int .i64 p2] 48)).heap) => insert_any v l.length kk l (p1, p2) w'.heap.size W lo hkk (by omega)
    (owns_far HR.out.own (fun g hg => by rw [hW]; exact (Below.heap_alloc w' _ g (by have := HOB.out g hg; omega)).trans (HGB.out.below.block g (HOB.out g hg))))
    (by rw [hW, World.size_alloc]; omega) (by rw [hW]; exact heap_alloc_new w' _) (fun h => by have := HOB.out _ h; omega))
  have hwz1 : w.heap.size < w'.heap.size := Nat.lt_of_lt_of_le hz0 hg2.size
  clear hput hg2 hgw c1 c2 c3 c4 d1 hz0 BS hob hkk
  go_wp2
  have d5 : (w'.alloc (.cells #[.int .i64 p1, .int .i64 p2] 48)).cell? ⟨r, 1, none⟩ = some v := (World.cell?_alloc_lt w' _ ⟨r, 1, none⟩ (show r < w'.heap.size by omega)).trans d2
  go_region_with
    (first
      | (go_at_call 92; refine (IN.out _ ?_).mono ?_; rfl; go_loud (rintro e w2 ⟨v', rfl, ho2, hg2, hn2⟩; obtain ⟨g', c', rfl⟩ := own_form ho2; have FIN := rig_next (l' := pPut l p) HR.out HGB.out (W := (w'.alloc (.cells #[.int .i64 p1, .int .i64 p2] 48)).drew) (o := .cells #[.int .i64 p1, .int .i64 p2] 48) rfl rfl rfl rfl hg2 (by rw [pPut_length, ← HPUT.out, HPE.out]; exact ho2) hn2; have hcell := FIN.1; have hfr := FIN.2.1; have HFIN := hide FIN.2.2; clear FIN ho2 hg2 hn2))
      | fail)
  all_goals (try go_wp2)
  all_goals (refine bodyPost_end (results_none rfl _ _ _) rfl ?_)
  all_goals exact ⟨rfl, _, HFIN.out.1, HFIN.out.2.1, HFIN.out.2.2⟩
end Go.Proofs.YteibopcneflidaaDoor
