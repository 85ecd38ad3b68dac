/- TEXTS RigRowP. -/
import Derived.Test.YteibopcneflidabGreatDoorRo21
import Derived.Test.YteibopcneflidabGreatDoorRo22
import Derived.Test.YteibopcneflidabGreatDoorRo24
import Derived.Test.YteibopcneflidabGreatDoorRo23
import Derived.Test.YteibopcneflidabGreatDoorRo16
import Derived.Test.YteibopcneflidabGreatDoorRo39
/- THE WALKS of rowOfParts and of the program's RigRow. -/
namespace Go.Proofs.YteibopcneflidabGreatDoor
open Go.RowKit Go.Sort Go.Shelf

attribute [local go_sem] Oper.semAt_some

/-- what rowOfParts hands back -/
def RowPost (l : List (Int × Int)) (n : Int) (ok : Bool) (e : Ending) (w' : World) : Prop :=
  if ok then ∃ g, e = .returned (.tuple #[.slice (some ⟨g, 0, none⟩) n.toNat n.toNat, .nilIface]) ∧ CellsAt w' g ((kRow n.toNat l).reverse.map .bool) else ∃ s, e = .returned (.tuple #[.slice none 0 0, .iface 73 (.string s)])

theorem KeepsFrom.of_only {B r : Nat} {row : Option Nat} {W W' : World} (h : Only r row W W') (hr : ∃ o : Obj, W.heap[r]? = some o ∧ o.isCells = true) (hw : ∀ g, row = some g → ∃ o : Obj, W.heap[g]? = some o ∧ o.isCells = true) : KeepsFrom B W W' := by
  refine ⟨h.size, fun k o _ hk ho => ?_⟩
  have hlt := (Array.getElem?_eq_some_iff.1 hk).1
  rw [h.block k hlt ?_ ?_]
  · exact hk
  · intro e
    subst e
    obtain ⟨o', h1, h2⟩ := hr
    rw [hk] at h1
    injection h1 with h1
    rw [h1, h2] at ho
    cases ho
  · intro e
    obtain ⟨o', h1, h2⟩ := hw k e.symm
    rw [hk] at h1
    injection h1 with h1
    rw [h1, h2] at ho
    cases ho
theorem owns_kept {w w' : World} {b e n s : Nat} {v : Value} {xs : List Value} {row : Option Nat} (h : w.ownsRow b e s v n xs) (hg : w.grownBy w' row) (hr : ∀ r, row = some r → ∃ o : Obj, w.heap[r]? = some o ∧ o.isCells = false) : w'.ownsRow b e s v n xs :=
  owns_far h (fun g hgg => by
    rcases h.2 with ⟨rfl, _⟩ | ⟨g', c, cur, rfl, _, h2, _⟩
    · cases hgg
    · obtain rfl : g' = g := by simpa [Value.ownBlock] using hgg
      exact grownBy_keeps_cells hg hr h2 rfl)
theorem RigAt.keptN {w w' : World} {r lo : Nat} {v : Value} {l : List (Int × Int)} {m : Int} {row : Option Nat} (h : RigAt w r lo v l m) (hg : w.grownBy w' row) (hr : ∀ r, row = some r → ∃ o : Obj, w.heap[r]? = some o ∧ o.isCells = false) : RigAt w' r lo v l m :=
  ⟨cell_kept h.fn hg hr, cell_kept h.items hg hr, cell_kept h.boxes hg hr, fun j => (by
      obtain ⟨o, h1, h2⟩ := cells_of_cell h.fn
      exact (World.frozen?_of_block (a := ⟨r, j, none⟩) (grownBy_keeps_cells hg hr h1 h2)).trans (h.free j)), owns_kept h.own hg hr, h.ne, h.lo_le⟩

theorem RowInv.next {N m : Nat} {l lm : List (Int × Int)} {A : List Bool} (h : RowInv N l (m + 1) lm A) : RowInv N l m (pBack lm ((m : Int) + 1)) (A ++ [(lm.reverse.find? (pFull lm ((m : Int) + 1))).isSome]) := by
  cases hf : lm.reverse.find? (pFull lm ((m : Int) + 1)) with
  | none =>
    have := h.none hf
    rw [pBack_none hf]
    exact this
  | some a => exact h.some hf

/-- what holds between two rounds: so many boxes are done -/
def RowSt (N : Nat) (l : List (Int × Int)) (w : World) (r z1 z2 bR bM g : Nat) (pre : List { q : Nat × Bool // q.1 < N }) (W : World) : Prop :=
  W.cell? ⟨bR, 0, none⟩ = some (.pointer (some ⟨r, 0, none⟩)) ∧ W.cell? ⟨bM, 0, none⟩ = some (.slice (some ⟨g, 0, none⟩) N N) ∧ z2 ≤ W.heap.size ∧
  ∃ (v : Value) (lm : List (Int × Int)) (A f : List Bool), RowInv N l (N - pre.length) lm A ∧ RigAt W r w.heap.size v lm ((N - pre.length : Nat) : Int) ∧ (∀ k, v.ownBlock = some k → k < z1 ∨ z2 ≤ k) ∧ f.length = N ∧ CellsAt W g (f.map .bool) ∧
    (pre.map (·.1.1) = ((List.range N).reverse).take pre.length → f = List.replicate (N - pre.length) false ++ A.reverse)
theorem rowSt_own (N : Nat) (l : List (Int × Int)) (w : World) (r z1 z2 bR bM g : Nat) : Own (RowSt N l w r z1 z2 bR bM g) := by
  rintro s A B row ⟨h1, h2, h3, v, lm, X, f, h4, h5, h6, h7, h8, h9⟩ hg hr
  exact ⟨cell_kept h1 hg hr, cell_kept h2 hg hr, Nat.le_trans h3 hg.size, v, lm, X, f, h4, h5.keptN hg hr, h6, h7, h8.kept hg hr, h9⟩
theorem cells_blk {w w' : World} {g : Nat} {l : List Value} (h : CellsAt w g l) (e : w'.heap[g]? = w.heap[g]?) : CellsAt w' g l := fun j v hv =>
  ⟨(World.cell?_of_block (a := ⟨g, j, none⟩) e).trans (h j v hv).1, (World.frozen?_of_block (a := ⟨g, j, none⟩) e).trans (h j v hv).2⟩
theorem set_done (m : Nat) (A : List Bool) (u : Bool) : (List.replicate (m + 1) false ++ A.reverse).set m u = List.replicate m false ++ (A ++ [u]).reverse := by
  rw [List.replicate_succ', List.append_assoc, List.reverse_append]
  simp
theorem rowSt_step {N r z1 z2 bR bM g Bs B : Nat} {l lm : List (Int × Int)} {w W W2 : World} {pre : List { q : Nat × Bool // q.1 < N }} {v v2 : Value} {A f : List Bool} {u : Bool} (x : { q : Nat × Bool // q.1 < N }) (m : Nat) (hm : N - pre.length = m + 1)
    (hr : r < z1) (hrw : w.heap.size ≤ r) (hR : z1 ≤ bR ∧ bR < z2) (hM : z1 ≤ bM ∧ bM < z2) (hG : z1 ≤ g ∧ g < z2) (hS : z1 ≤ Bs ∧ Bs < z2) (n1 : bR ≠ g) (n2 : bM ≠ g) (n3 : Bs ≠ g) (hzw : z2 ≤ W.heap.size)
    (cR : W.cell? ⟨bR, 0, none⟩ = some (.pointer (some ⟨r, 0, none⟩))) (cM : W.cell? ⟨bM, 0, none⟩ = some (.slice (some ⟨g, 0, none⟩) N N))
    (hI : RowInv N l (m + 1) lm A) (hA : RigAt W r w.heap.size v lm ((m : Int) + 1)) (hsep : ∀ k, v.ownBlock = some k → k < z1 ∨ z2 ≤ k) (hfl : f.length = N) (hcf : CellsAt W g (f.map .bool))
    (hcond : pre.map (·.1.1) = ((List.range N).reverse).take pre.length → f = List.replicate (m + 1) false ++ A.reverse) (hB : Below w.heap.size w W)
    (hu : u = (lm.reverse.find? (pFull lm ((m : Int) + 1))).isSome) (q1 : RigAt W2 r w.heap.size v2 (pBack lm ((m : Int) + 1)) ((m : Int) + 1 - 1)) (q2 : Only r v.ownBlock W W2) (q3 : RowNext W v v2) :
    KeepsFrom B W (W2.setCell ⟨g, x.1.1, none⟩ (.bool u)) ∧ BwdK Bs g N W (W2.setCell ⟨g, x.1.1, none⟩ (.bool u)) ∧ RowSt N l w r z1 z2 bR bM g (pre ++ [x]) (W2.setCell ⟨g, x.1.1, none⟩ (.bool u)) ∧ Below w.heap.size w (W2.setCell ⟨g, x.1.1, none⟩ (.bool u)) := by
  have keep : ∀ k, z1 ≤ k → k < z2 → W2.heap[k]? = W.heap[k]? := fun k h1 h2 => q2.block k (by omega) (by omega) (fun e => by have := hsep k e.symm; omega)
  have hrc : ∃ o : Obj, W.heap[r]? = some o ∧ o.isCells = true := cells_of_cell hA.fn
  have hwc : ∀ k, v.ownBlock = some k → ∃ o : Obj, W.heap[k]? = some o ∧ o.isCells = true := fun k hk => by
    rcases hA.own.2 with ⟨rfl, _⟩ | ⟨k', c, cur, rfl, _, h2, _⟩
    · cases hk
    · obtain rfl : k' = k := by simpa [Value.ownBlock] using hk
      exact ⟨_, h2, rfl⟩
  have hwl : ∀ k, v.ownBlock = some k → w.heap.size ≤ k := fun k hk => (hA.own.lt k hk).1
  have hc2 : CellsAt W2 g (f.map .bool) := cells_blk hcf (keep g hG.1 hG.2)
  have hx : x.1.1 < (f.map Value.bool).length := by rw [List.length_map, hfl]; exact x.2
  have hc3 := hc2.set x.1.1 hx (.bool u)
  have e3 : (f.map Value.bool).set x.1.1 (.bool u) = (f.set x.1.1 u).map .bool := by rw [List.map_set]
  rw [e3] at hc3
  have hB2 : Below w.heap.size w W2 := hB.trans (q2.below hrw hwl hB.size)
  have hpl : (pre ++ [x]).length = pre.length + 1 := by simp
  have hNm : N - (pre ++ [x]).length = m := by rw [hpl]; omega
  refine ⟨(KeepsFrom.of_only q2 hrc hwc).trans ((KeepsOthers.setCell W2 ⟨g, x.1.1, none⟩ (.bool u)).from B), ⟨?_, ?_⟩, ⟨?_, ?_, ?_, v2, pBack lm ((m : Int) + 1), A ++ [u], f.set x.1.1 u, ?_, ?_, ?_, ?_, hc3, ?_⟩, hB2.setCell (p := ⟨g, x.1.1, none⟩) (show w.heap.size ≤ g by omega) _⟩
  · exact (Below.heap_setCell W2 ⟨g, x.1.1, none⟩ _ Bs n3).trans (keep Bs hS.1 hS.2)
  · intro j hj _
    obtain ⟨b, hb⟩ : ∃ b, (f.set x.1.1 u)[j]? = some b := ⟨_, List.getElem?_eq_getElem (by rw [List.length_set, hfl]; exact hj)⟩
    exact ⟨b, (hc3 j (.bool b) (by rw [List.getElem?_map, hb]; rfl)).1⟩
  · rw [World.cell?_setCell_other _ _ _ _ (by intro h; injection h with h _; exact n1 h.symm)]
    exact (World.cell?_of_block (a := ⟨bR, 0, none⟩) (keep bR hR.1 hR.2)).trans cR
  · rw [World.cell?_setCell_other _ _ _ _ (by intro h; injection h with h _; exact n2 h.symm)]
    exact (World.cell?_of_block (a := ⟨bM, 0, none⟩) (keep bM hM.1 hM.2)).trans cM
  · have := q2.size
    simp [World.setCell]
    omega
  · rw [hNm, hu]; exact hI.next
  · rw [hNm]
    have e1 : ((m : Int) + 1 - 1) = (m : Int) := by omega
    rw [e1] at q1
    refine q1.far (Below.heap_setCell W2 _ _ r (show r ≠ g by omega)) (fun k hk => Below.heap_setCell W2 _ _ k (show k ≠ g from ?_))
    rcases q3 with e | ⟨k', e, hk'⟩
    · rw [e] at hk; have := hsep k hk; omega
    · rw [e] at hk; injection hk with hk; omega
  · intro k hk
    rcases q3 with e | ⟨k', e, hk'⟩
    · rw [e] at hk; exact hsep k hk
    · rw [e] at hk; injection hk with hk; omega
  · rw [List.length_set]; exact hfl
  · intro he
    rw [hpl, show pre.length + 1 = N - m by omega, rev_take (show m < N by omega), List.map_append, show N - (m + 1) = pre.length by omega] at he
    obtain ⟨h1, h2⟩ := List.append_inj' he rfl
    have hxm : x.1.1 = m := by simpa using h2
    rw [hNm, hcond h1, hxm, set_done]

set_option maxRecDepth 100000 in
set_option maxHeartbeats 8000000 in
theorem rowOfParts_any (l : List (Int × Int)) (v : Value) (n : Int) (w : World) {lo : Nat} (hP : PartsV lo w v l) (hl : l.length ≤ 1048576) :
    Calls Tryz.prog 22 #[v, .int .i64 n] w fun e w' => RowPost l n (rgFits l n) e w' ∧ Below w.heap.size w w' := by
  have C := hide (readFitting_any l v n w hP hl)
  cases hok : rgFits l n
  · rw [hok] at C
    clear hok hP
    go_enter Tryz.func22, Tryz.ntmps22
    go_wp2_with fail
    refine C.out.mono ?_
    rintro e w1 ⟨⟨s, rfl⟩, hb1⟩
    have HB1 := hide hb1
    clear hb1
    go_wp2_with fail
    go_ret2
    exact ⟨⟨_, rfl⟩, HB1.out.alloc HB1.out.size _⟩
  · rw [hok] at C
    have hp := rgFits_p hok
    have hnn := ((rgFits_iff l n).1 hok).2.1
    obtain ⟨N, rfl⟩ := Int.eq_ofNat_of_zero_le hnn.1
    have hN : N ≤ 120 := by omega
    obtain ⟨i0, hi, hy0, hy1, hy2⟩ := info_parts infoB
    have ST := hide (RowInv.start hp)
    have hNN : ((N : Int)).toNat = N := Int.toNat_natCast N
    clear hok hp hnn hP hl
    refine (callsIn_wide (n := 4)).1 ?_
    refine callsIn_of_wp_marks Tryz.func22 rfl trivial ?_ rfl
    simp only [Tryz.ntmps22, List.size_toArray, List.length_cons, List.length_nil, Nat.reduceAdd, Nat.reduceSub, Array.replicate_succ, Array.replicate_zero, List.push_toArray, List.append_toArray, List.nil_append, List.cons_append]
    gi_wp2_with (first
      | (refine ⟨trivial, ?_⟩; gi_at_call 30; refine (callsIn_wide.2 C.out).mono ?_; rintro e w1 ⟨⟨r, v1, rfl, hr1⟩, hb1⟩; have HR1 := hide hr1; have HB1 := hide hb1; clear hr1 hb1)
      | (gi_at_make; refine wpListIn_make_full _ rfl _ _ 53 rfl w1.heap.size 4 i0 (.bool false) 1 Tryz.underlying53 hi hy0 hy1 _ _ _ _ N rfl rfl ?b0 ?b1 ?b2 ?b3 ?b4 ?_; rotate_right; intro w2 hown2 hgrow2; have HO2 := hide hown2; have HG2 := hide hgrow2; clear hown2 hgrow2)
      | (refine ⟨trivial, ?_⟩; gi_at_call 40; refine (backward_in Fence.wide 3 trivial rfl _ _ _ _).mono ?_; rintro e w' ⟨rfl, rfl⟩))
    case b0 => rfl
    case b1 => rfl
    case b2 => rw [hy2]; omega
    case b3 => unfold maxLen; omega
    case b4 => simp
    have hzA : (w1.alloc (.cells #[.pointer (some ⟨r, 0, none⟩)] 66)).heap.size = w1.heap.size + 1 := World.size_alloc ..
    have ho2 := HO2.out
    rw [hzA] at ho2
    have hz2 : w1.heap.size + 1 < w2.heap.size := (ho2.lt _ rfl).2
    have hsz := (ho2.lt _ rfl).1
    rw [madeB] at ho2
    have hc2 : CellsAt w2 (w1.heap.size + 1) ((List.replicate N false).map .bool) := CellsAt.of_owns ho2
    have hb2 : Below w1.heap.size w1 w2 := ((Below.refl _ w1).alloc (Nat.le_refl _) _).trans ((below_none HG2.out).mono (by rw [hzA]; omega))
    have hRc : w2.cell? ⟨w1.heap.size, 0, none⟩ = some (.pointer (some ⟨r, 0, none⟩)) := ((below_none HG2.out).cell (p := ⟨w1.heap.size, 0, none⟩) (by rw [hzA]; exact Nat.lt_succ_self _)).trans (by rw [World.cell?_alloc_at _ _ _ _ rfl]; rfl)
    have hr2 := HR1.out.below hb2 (Nat.le_refl _)
    have hrl : r < w1.heap.size := HR1.out.lt
    have hrw : w.heap.size ≤ r := HR1.out.lo_le
    have hvl := HR1.out.own.lt
    have hw1 : w.heap.size ≤ w1.heap.size := HB1.out.size
    obtain ⟨W4, hW4⟩ : ∃ W4, W4 = (w2.alloc (.cells #[.slice (some ⟨w1.heap.size + 1, 0, none⟩) N N] 53)).alloc (.cells #[.slice (some ⟨w1.heap.size + 1, 0, none⟩) N N] 53) := ⟨_, rfl⟩
    have hb4 : Below w2.heap.size w2 W4 := by rw [hW4]; exact ((Below.refl _ w2).alloc (Nat.le_refl _) _).alloc (by simp) _
    have hz4 : W4.heap.size = w2.heap.size + 2 := by rw [hW4]; simp
    have hM4 : W4.cell? ⟨w2.heap.size, 0, none⟩ = some (.slice (some ⟨w1.heap.size + 1, 0, none⟩) N N) := by rw [hW4, World.cell?_alloc_lt _ _ ⟨w2.heap.size, 0, none⟩ (show w2.heap.size < _ by simp), World.cell?_alloc_at _ _ _ _ rfl]; rfl
    have hS4 : W4.cell? ⟨w2.heap.size + 1, 0, none⟩ = some (.slice (some ⟨w1.heap.size + 1, 0, none⟩) N N) := by rw [hW4, World.cell?_alloc_at _ _ _ _ (by simp)]; rfl
    have hR4 : W4.cell? ⟨w1.heap.size, 0, none⟩ = some (.pointer (some ⟨r, 0, none⟩)) := (hb4.cell (p := ⟨w1.heap.size, 0, none⟩) (show w1.heap.size < w2.heap.size by omega)).trans hRc
    have hc4 := hc2.below' hb4 (Nat.le_refl _)
    have hA4 := hr2.below hb4 (Nat.le_refl _)
    have hB4 : Below w.heap.size w W4 := (HB1.out.trans (hb2.mono hw1)).trans (hb4.mono (by omega))
    rw [← hW4]
    have HW4 := hide hW4
    have HSTART : Hid (RowSt N l w r w1.heap.size (w2.heap.size + 2) w1.heap.size w2.heap.size (w1.heap.size + 1) [] W4 ∧ Below w.heap.size w W4) :=
      ⟨⟨hR4, hM4, by omega, v1, l, [], List.replicate N false, ST.out, hA4, fun k hk => .inl (hvl k hk).2, by simp, hc4, fun _ => by simp⟩, hB4⟩
    have HCB : Hid (∀ j, j < N → ∃ b, W4.cell? ⟨w1.heap.size + 1, j, none⟩ = some (.bool b)) := hide (fun j hj => ⟨false, (hc4 j (.bool false) (by simp [hj])).1⟩)
    clear ho2 hsz hc2 hb2 hRc hr2 hvl hb4 hM4 hR4 hc4 hA4 hB4 hW4 HG2 HO2 hzA HR1 hi hy0 hy1 hy2
    refine wpIn_rangeFunc_ownG rfl (by omega) (gf := 70) (lb := #[.pointer (some ⟨w2.heap.size + 1, 0, none⟩)]) rfl trivial (enters_of Tryz.func70 (by kernel_rfl) rfl)
      (backward_stops Fence.wide 3 trivial rfl (by omega) (w2.heap.size + 1) (w1.heap.size + 1) N N (some ⟨w1.heap.size + 1, 0, none⟩) (fun _ => rfl) (by omega) W4 hS4 (fun _ => by omega) HCB.out)
      (fun h k => h.trans k) (fun W l o o' hl _ _ _ => ⟨World.putObj_heap_other (show w2.heap.size + 1 ≠ l by omega), fun j _ ⟨b, hb⟩ => ⟨b, (World.cell?_of_block (a := ⟨w1.heap.size + 1, j, none⟩) (World.putObj_heap_other (show w1.heap.size + 1 ≠ l by omega))).trans hb⟩⟩) (Below.refl _ _) (fun _ => rfl)
      (fun (pre : List { q : Nat × Bool // q.1 < N }) W => RowSt N l w r w1.heap.size (w2.heap.size + 2) w1.heap.size w2.heap.size (w1.heap.size + 1) pre W ∧ Below w.heap.size w W)
      (fun _ _ _ => False)
      (OwnFrom.and (Own.from (rowSt_own N l w r w1.heap.size (w2.heap.size + 2) w1.heap.size w2.heap.size (w1.heap.size + 1)) _) (ownFrom_below (Nat.le_refl _) (by omega)))
      (fun _ _ _ _ _ hs _ _ => hs)
      HSTART.out
      (fun x => { tmps := #[v, .int .i64 (N : Int), undef, undef, .slice none 0 0, .nilIface, .pointer (some ⟨w1.heap.size, 0, none⟩), .nilIface, .pointer (some ⟨w2.heap.size, 0, none⟩), .int .i64 (x.1.1 : Int),
        .tuple #[.pointer (some ⟨r, 0, none⟩), .nilIface], v, .int .i64 (N : Int), .tuple #[.pointer (some ⟨r, 0, none⟩), .nilIface], .pointer (some ⟨r, 0, none⟩), .nilIface, .nilIface, .bool false, undef,
        .int .i64 (N : Int), .slice (some ⟨w1.heap.size + 1, 0, none⟩) N N, .slice (some ⟨w1.heap.size + 1, 0, none⟩) N N, .func (.func 70) #[] #[.pointer (some ⟨w2.heap.size + 1, 0, none⟩)], .int .i64 (x.1.1 : Int), .bool x.1.2,
        undef, undef, undef, undef, undef, undef, undef, undef, undef, undef, undef, undef, undef, undef], defers := [] }) ?assign ?body ?done ?stop
    case assign =>
      intro l x W K hK
      gi_wp2
      exact hK
    case body =>
      rintro l' pre ⟨⟨x, bx⟩, hx⟩ W ⟨⟨hcR, hcM, hzW, v', lm, A, f, hI, hR, hsep, hfl, hcf, hcond⟩, hB⟩ hlen
      have mixed : Tryz.prog.follows .mixedOrders = true := by kernel_rfl
      obtain ⟨m, hm⟩ : ∃ m, N - pre.length = m + 1 := ⟨N - pre.length - 1, by omega⟩
      rw [hm] at hI hR hcond
      have em : ((m + 1 : Nat) : Int) = (m : Int) + 1 := by omega
      rw [em] at hR
      obtain ⟨f60, fbd⟩ := hI.fits.bd (by omega)
      have hsrt := hI.fits.sorted
      obtain ⟨bb, hbb⟩ : ∃ b, f[x]? = some b := ⟨_, List.getElem?_eq_getElem (by rw [hfl]; exact hx)⟩
      have hcell := hcf x (.bool bb) (by rw [List.getElem?_map, hbb]; rfl)
      have hvl := hR.own.lt
      have DB := hide (fun (W' : World) (h : RigAt W' r w.heap.size v' lm ((m : Int) + 1)) => dropBox_any r w.heap.size v' lm ((m : Int) + 1) W' h hsrt (by omega) (fun a ha => by have := fbd a ha; omega) (by omega))
      obtain ⟨u, hu⟩ : ∃ u, u = (lm.reverse.find? (pFull lm ((m : Int) + 1))).isSome := ⟨_, rfl⟩
      rw [← hu] at DB
      have HST := hide (fun (W2 : World) (v2 : Value) (q1 : RigAt W2 r w.heap.size v2 (pBack lm ((m : Int) + 1)) ((m : Int) + 1 - 1)) (q2 : Only r v'.ownBlock W W2) (q3 : RowNext W v' v2) =>
        rowSt_step (B := W4.heap.size) (Bs := w2.heap.size + 1) (z1 := w1.heap.size) (z2 := w2.heap.size + 2) (bR := w1.heap.size) (bM := w2.heap.size) (g := w1.heap.size + 1) (⟨(x, bx), hx⟩ : { q : Nat × Bool // q.1 < N }) m hm hrl hrw (by omega) (by omega) (by omega) (by omega) (by omega) (by omega) (by omega) hzW hcR hcM hI hR hsep hfl hcf hcond hB hu q1 q2 q3)
      have KP := hide (fun (W2 : World) (q2 : Only r v'.ownBlock W W2) (k j : Nat) (h1 : w1.heap.size ≤ k) (h2 : k < w2.heap.size + 2) =>
        (⟨World.cell?_of_block (a := ⟨k, j, none⟩) (q2.block k (by omega) (by omega) (fun e => by have := hsep k e.symm; omega)), World.frozen?_of_block (a := ⟨k, j, none⟩) (q2.block k (by omega) (by omega) (fun e => by have := hsep k e.symm; omega))⟩ : W2.cell? ⟨k, j, none⟩ = W.cell? ⟨k, j, none⟩ ∧ W2.frozen? ⟨k, j, none⟩ = W.frozen? ⟨k, j, none⟩))
      have HR0 := hide hR
      have c3 := hcell.1
      have c4 := hcell.2
      have x0 : (0 : Int) ≤ (x : Int) := by omega
      have x1 : (x : Int) < (N : Int) := by omega
      clear hI hR hsep hfl hcf hcond hB hbb hcell hvl hsrt fbd f60 em hu HSTART HCB
      gi_wp2_with fail
      gi_region_with_o (refine ⟨trivial, ?_⟩; gi_at_call 41; refine (CallsIn.inRound l' (callsIn_wide.2 (DB.out _ ?_))).mono ?_; exact HR0.out.below (Below.refl W.heap.size W).drew (Nat.le_refl _); rintro e W2 ⟨rfl, v2, q1, q2, q3⟩; have Q2 := Only.mono ((Below.refl W.heap.size W).drew) q2; have FIN := hide (HST.out W2 v2 q1 Q2 q3); have y1 := (KP.out W2 Q2 w2.heap.size 0 (by omega) (by omega)).1.trans hcM; have y2 := (KP.out W2 Q2 w1.heap.size 0 (by omega) (by omega)).1.trans hcR; have y3 := (KP.out W2 Q2 (w1.heap.size + 1) x (by omega) (by omega)).1.trans c3; have y4 := (KP.out W2 Q2 (w1.heap.size + 1) x (by omega) (by omega)).2.trans c4; clear q1 q2 q3 Q2)
      all_goals (first | exact FIN.out | (gi_wp2; exact FIN.out))
    case done =>
      rintro D ys W hD hys ⟨⟨hcR, hcM, hzW, v', lm, A, f, hI, hR, hsep, hfl, hcf, hcond⟩, hB⟩ hK
      have hyl : ys.length = N := by have := congrArg List.length hys; simpa using this
      rw [hyl, Nat.sub_self] at hI hR hcond
      obtain ⟨s1, s2⟩ := hI.stop
      subst s1
      have hfe := hcond (by rw [hys, List.take_of_length_le (by simp)])
      have hcf2 : CellsAt W (w1.heap.size + 1) ((kRow N l).reverse.map .bool) := by
        rw [hfe, s2] at hcf
        exact hcf
      have HCF := hide hcf2
      have c1 := hR.items
      obtain ⟨a', c', rfl, _⟩ := hR.parts.form (n := 0) rfl
      have HB := hide hB
      have HKK := hide hK
      have HDW := hide (Array.getElem?_eq_some_iff.1 hK).1
      have hrW := hR.lt
      clear hI hR hsep hfl hcf hcf2 hcond hfe s2 hB hys hyl HSTART HCB
      gi_wp2
      refine ⟨by simp, .inl ⟨_, _, rfl, run_takeDeferred HKK.out, ?_⟩⟩
      refine ⟨_, results_tmp2 rfl _ _ _, ?_, HB.out.trans (belowK_b (w := w) (Nat.le_refl _) W D _ _ (by omega) HKK.out rfl rfl)⟩
      refine ⟨w1.heap.size + 1, by rw [hNN]; rfl, ?_⟩
      rw [hNN]
      exact cells_blk HCF.out (World.putObj_heap_other (show w1.heap.size + 1 ≠ D by omega))
    case stop =>
      rintro D c pre W _ _ h _
      exact h.elim

set_option maxHeartbeats 1000000 in
theorem implRigRow_any (l : List (Int × Int)) (v : Value) (n : Int) (w : World) {lo : Nat} (hE : EtAt w) (hP : PartsV lo w v l) (hl : l.length ≤ 1048576) :
    Calls Tryz.prog 8 #[v, .int .i64 n] w fun e w' => e = .returned (.tuple #[.string (rgRow l n), .bool (rgFits l n)]) ∧ Below w.heap.size w w' := by
  have HE := hide hE
  have C := hide (rowOfParts_any l v n w hP hl)
  cases hok : rgFits l n
  · rw [hok] at C
    have e0 : rgRow l n = ByteArray.empty := by unfold rgRow; rw [hok]; rfl
    rw [e0]
    clear hE hok e0 hP
    go_enter Tryz.func8, Tryz.ntmps8
    go_wp2_with fail
    refine C.out.mono ?_
    rintro e w1 ⟨⟨t, rfl⟩, hb1⟩
    have HB1 := hide hb1
    have SO := hide (sound_any false _ w1 (HE.out.below hb1 (Nat.le_refl _)) (fault_mk t))
    clear hb1
    go_wp2_with fail
    refine SO.out.mono ?_
    rintro e w2 ⟨rfl, hb2⟩
    have HB2 := hide hb2
    clear hb2
    go_wp2_with fail
    go_ret2
    exact ⟨rfl, HB1.out.trans (HB2.out.mono HB1.out.size)⟩
  · rw [hok] at C
    have hnn := ((rgFits_iff l n).1 hok).2.1
    have e0 : rgRow l n = ofBits (cut (kRow n.toNat l).reverse) := by unfold rgRow; rw [hok]; rfl
    rw [e0]
    have hN : n.toNat ≤ 120 := by omega
    obtain ⟨N, hNe⟩ : ∃ N, N = n.toNat := ⟨_, rfl⟩
    have HC : Hid (Calls Tryz.prog 22 #[v, .int .i64 n] w fun e w' => (∃ g, e = .returned (.tuple #[.slice (some ⟨g, 0, none⟩) N N, .nilIface]) ∧ CellsAt w' g ((kRow N l).reverse.map .bool)) ∧ Below w.heap.size w w') := by
      rw [hNe]; exact C
    rw [← hNe] at hN ⊢
    obtain ⟨L, hL⟩ : ∃ L, L = (kRow N l).reverse := ⟨_, rfl⟩
    have hLl : L.length = N := by rw [hL, List.length_reverse, kRow_length]
    rw [← hL] at HC ⊢
    have TX := hide (fun (g : Nat) (W : World) (hc : CellsAt W g (L.map .bool)) => text_any g N N L W hLl hc (Nat.le_refl _) (by unfold maxLen; omega) (by omega))
    obtain ⟨t, ht⟩ : ∃ t, t = ofBits (cut L) := ⟨_, rfl⟩
    rw [← ht] at TX ⊢
    clear hE hok e0 C hnn hNe hL ht hLl hP
    go_enter Tryz.func8, Tryz.ntmps8
    go_wp2_with fail
    refine HC.out.mono ?_
    rintro e w1 ⟨⟨g, rfl, hc⟩, hb1⟩
    have HB1 := hide hb1
    have HCC := hide hc
    have SO := hide (sound_any true .nilIface w1 (HE.out.below hb1 (Nat.le_refl _)) rfl)
    clear hb1 hc
    go_wp2_with fail
    refine SO.out.mono ?_
    rintro e w2 ⟨rfl, hb2⟩
    have HB2 := hide (HB1.out.trans (hb2.mono HB1.out.size))
    have HC2 := hide (HCC.out.below' hb2 (Nat.le_refl _))
    clear hb2
    go_wp2_with fail
    refine (TX.out g w2 HC2.out).mono ?_
    rintro e w3 ⟨rfl, hb3⟩
    have HB3 := hide (HB2.out.trans (hb3.mono HB2.out.size))
    clear hb3
    go_wp2_with fail
    go_ret2
    exact ⟨rfl, HB3.out⟩
end Go.Proofs.YteibopcneflidabGreatDoor
