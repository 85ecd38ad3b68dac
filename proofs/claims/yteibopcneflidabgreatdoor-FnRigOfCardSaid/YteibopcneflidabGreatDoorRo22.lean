/- TEXTS Balls, Bwd, InLaws, RowBalls. -/
import Derived.Test.YteibopcneflidabGreatDoorRo07
import Derived.Test.YteibopcneflidabGreatDoorRo01
import Derived.Test.YteibopcneflidabGreatDoorRo02
import Derived.RangeFuncNested
import Derived.RangeFuncBound
import Derived.RangeFuncCalls
import Derived.RangeFuncLeaves
import Derived.RangeFuncBox
import Derived.Shelf.Abstract
import Derived.Shelf.RegionOpen
import Derived.WalkKit
import Derived.OwnWalkIn
import Derived.TacticsInMore
import Derived.LoopNIn
import Derived.LoopIn
import Derived.OwnWalk
import Derived.Laws.CopyOwn
/- THE ITERATOR over the balls of a row, and 'count', which ranges over it. -/
namespace Go.Proofs.YteibopcneflidabGreatDoor
open Go.RowKit Go.Shelf

attribute [local go_sem] Oper.semAt_some

/-- the indexes of the balls among the first k boxes -/
def posU (bs : List Bool) (k : Nat) : List Nat := (List.range k).filter (fun j => bs[j]?.getD false)
def pos (bs : List Bool) : List Nat := posU bs bs.length
theorem posU_succ (bs : List Bool) (k : Nat) : posU bs (k + 1) = if bs[k]?.getD false then posU bs k ++ [k] else posU bs k := by
  unfold posU; rw [List.range_succ, List.filter_append]; cases h : bs[k]?.getD false <;> simp [h]
theorem posU_le (bs : List Bool) (k : Nat) : (posU bs k).length ≤ k := by
  unfold posU; exact Nat.le_trans (List.length_filter_le _ _) (by simp)

set_option maxHeartbeats 400000 in
theorem balls_in (F : Fence) (n : Nat) (hf : F.fn 44) (hro : F.round = none) (a : Option Addr) (len cap : Nat) (w : World) :
    CallsIn F n Tryz.prog 44 #[.slice a len cap] w fun e w' => e = .returned (.func (.func 74) #[] #[.pointer (some ⟨w.heap.size, 0, none⟩)]) ∧ w' = w.alloc (.cells #[.slice a len cap] 53) := by
  refine callsIn_of_wp Tryz.func44 rfl hf ?_ hro
  simp only [Tryz.ntmps44, List.size_toArray, List.length_cons, List.length_nil, Nat.reduceAdd, Nat.reduceSub, Array.replicate_succ, Array.replicate_zero, List.push_toArray, List.append_toArray, List.nil_append, List.cons_append]
  gi_wp2
  go_ret
  exact ⟨rfl, rfl⟩

set_option maxRecDepth 100000 in
set_option maxHeartbeats 2000000 in
theorem balls1_g (F : Fence) (n : Nat) (hf : F.fn 74) (hro : F.round = none) (hn : 1 ≤ n) (x : Option Addr) (l Bs n₀ g len cap : Nat) (hx : 0 < len → x = some ⟨g, 0, none⟩) (bs : List Bool) (hlen : bs.length = len) (hm : len ≤ 1000) (hb : 0 < len → g < n₀) (J Jx : List Nat → World → Prop)
    (hY : ∀ pre (y : Nat) W, y < len → J pre W → pre.length < len → YieldAt F (n - 1) Tryz.prog l #[.int .i64 (y : Int)] W fun e W' =>
      (e = .returned (.bool true) ∧ J (pre ++ [y]) W' ∧ Below n₀ W W') ∨ (e = .returned (.bool false) ∧ Jx (pre ++ [y]) W'))
    (W : World) (hBs : W.cell? ⟨Bs, 0, none⟩ = some (.slice x len cap)) (hc : CellsAt W g (bs.map .bool)) (h0 : J [] W) :
    CallsIn F n Tryz.prog 74 #[.func (.yield l) #[] #[], .pointer (some ⟨Bs, 0, none⟩)] W fun e W' => (∃ v, e = .returned v) ∧
      ((∃ ys, ys = pos bs ∧ J ys W') ∨ (∃ pre, Jx pre W')) := by
  have HL := hide hlen
  have HC := hide hc
  clear hlen hc
  refine callsIn_of_wp Tryz.func74 rfl hf ?_ hro
  simp only [Tryz.ntmps74, List.size_toArray, List.length_cons, List.length_nil, Nat.reduceAdd, Nat.reduceSub, Array.replicate_succ, Array.replicate_zero, List.push_toArray, List.append_toArray, List.nil_append, List.cons_append]
  gi_wp2
  gi_loopw [7] (fun i wr => ∃ k : Nat, k ≤ len ∧ i = .int .i64 k ∧ J (posU bs k) wr ∧ Hid (Below n₀ W wr))
    (fun i _ => len - (intOf i).toNat)
  case atStart => exact ⟨0, Nat.zero_le _, rfl, h0, Below.refl _ _⟩
  case round =>
    obtain ⟨k, hk, rfl, hJs, HN⟩ := hrel
    by_cases hlt : k < len
    · obtain rfl := hx (by omega)
      obtain ⟨b, hbk⟩ : ∃ b, bs[k]? = some b := ⟨_, List.getElem?_eq_getElem (by rw [HL.out]; exact hlt)⟩
      have hcx : wr.cell? ⟨g, k, none⟩ = some (.bool b) := ((HC.out.below HN.out (hb (by omega))) k (.bool b) (by simp [hbk])).1
      have HS := hide (posU_succ bs k)
      rw [hbk] at HS
      clear hbk
      cases b
      · gi_wp2
        refine ⟨fun _ h => (by cases h), ?_⟩
        gi_wp2
        go_roundw
        case rel => exact ⟨k + 1, by omega, by simp, by rw [HS.out]; exact hJs, HN⟩
        case measure => simp [intOf]; omega
      · obtain ⟨fn, tmps, assign, body, hy, hR⟩ := hY _ k wr hlt hJs (by have := posU_le bs k; omega)
        gi_wp2
        refine hR.mono ?_
        rintro e W3 (⟨rfl, hJ3, hk3⟩ | ⟨rfl, hJx3⟩)
        · gi_wp2
          go_roundw
          case rel => exact ⟨k + 1, by omega, by simp, by rw [HS.out]; exact hJ3, HN.out.trans hk3⟩
          case measure => simp [intOf]; omega
        · gi_wp2
          refine bodyPost_ret (results_none rfl _ _ _) rfl ?_
          exact ⟨⟨_, rfl⟩, .inr ⟨_, hJx3⟩⟩
    · obtain rfl : k = len := by omega
      gi_wp2
      go_end0
      exact ⟨⟨_, rfl⟩, .inl ⟨_, by unfold pos; rw [HL.out], hJs⟩⟩

theorem balls_stops_g (F : Fence) (n : Nat) (hf : F.fn 74) (hro : F.round = none) (hn : 1 ≤ n) (x : Option Addr) (Bs n₀ g len cap : Nat) (hx : 0 < len → x = some ⟨g, 0, none⟩) (bs : List Bool) (hlen : bs.length = len) (hm : len ≤ 1000) (w : World) (hBs : Bs < w.heap.size)
    (hb : 0 < len → g < n₀) (hc : w.cell? ⟨Bs, 0, none⟩ = some (.slice x len cap)) (hI : CellsAt w g (bs.map .bool)) :
    SeqStopsK F n Tryz.prog 74 #[.pointer (some ⟨Bs, 0, none⟩)] (fun y : Nat => #[Value.int .i64 (y : Int)]) (Below n₀) (fun ys => ys = pos bs) (fun _ => True) len w := fun l J Jx W hW _ _ hY h0 => by
  have hc' := (hW.cell (p := ⟨Bs, 0, none⟩) hBs).trans hc
  refine (balls1_g F n hf hro hn x l Bs n₀ g len cap hx bs hlen hm hb J Jx (fun pre y W _ => hY pre y W) W hc' (hI.below' hW (Nat.le_refl _)) h0).mono ?_
  rintro e W' ⟨he, ⟨ys, rfl, hj⟩ | ⟨pre, hj⟩⟩
  · exact ⟨he, .inl ⟨_, rfl, hj⟩⟩
  · exact ⟨he, .inr ⟨_, trivial, hj⟩⟩

theorem balls_stops (F : Fence) (n : Nat) (hf : F.fn 74) (hro : F.round = none) (hn : 1 ≤ n) (Bs n₀ g len cap : Nat) (bs : List Bool) (hlen : bs.length = len) (hm : len ≤ 1000) (w : World) (hBs : Bs < w.heap.size)
    (hb : 0 < len → g < n₀) (hc : w.cell? ⟨Bs, 0, none⟩ = some (.slice (some ⟨g, 0, none⟩) len cap)) (hI : CellsAt w g (bs.map .bool)) :
    SeqStopsK F n Tryz.prog 74 #[.pointer (some ⟨Bs, 0, none⟩)] (fun x : Nat => #[Value.int .i64 (x : Int)]) (Below n₀) (fun ys => ys = pos bs) (fun _ => True) len w :=
  balls_stops_g F n hf hro hn _ Bs n₀ g len cap (fun _ => rfl) bs hlen hm w hBs hb hc hI

/-- .. where the body must know that an index lies in the row -/
theorem balls_stopsF_g (F : Fence) (n : Nat) (hf : F.fn 74) (hro : F.round = none) (hn : 1 ≤ n) (x : Option Addr) (Bs n₀ g len cap : Nat) (hx : 0 < len → x = some ⟨g, 0, none⟩) (bs : List Bool) (hlen : bs.length = len) (hm : len ≤ 1000) (w : World) (hBs : Bs < w.heap.size)
    (hb : 0 < len → g < n₀) (hc : w.cell? ⟨Bs, 0, none⟩ = some (.slice x len cap)) (hI : CellsAt w g (bs.map .bool)) :
    SeqStopsK F n Tryz.prog 74 #[.pointer (some ⟨Bs, 0, none⟩)] (fun y : { j : Nat // j < len } => #[Value.int .i64 (y.1 : Int)]) (Below n₀) (fun ys => ys.map (·.1) = pos bs) (fun _ => True) len w := fun l J Jx W hW _ _ hY h0 => by
  have hc' := (hW.cell (p := ⟨Bs, 0, none⟩) hBs).trans hc
  refine (balls1_g F n hf hro hn x l Bs n₀ g len cap hx bs hlen hm hb (fun ps W => ∃ q : List { j : Nat // j < len }, q.map (·.1) = ps ∧ J q W) (fun _ W => ∃ q, Jx q W) ?_ W hc' (hI.below' hW (Nat.le_refl _)) ⟨[], rfl, h0⟩).mono ?_
  · rintro pre y W1 hy0 ⟨q, rfl, hq⟩ hl
    obtain ⟨fn, tmps, assign, body, hy, hR⟩ := hY q ⟨y, hy0⟩ W1 hq (by simpa using hl)
    refine ⟨fn, tmps, assign, body, hy, hR.mono ?_⟩
    rintro e W' (⟨he, hj, hk⟩ | ⟨he, hj⟩)
    · exact .inl ⟨he, ⟨_, by simp, hj⟩, hk⟩
    · exact .inr ⟨he, _, hj⟩
  · rintro e W' ⟨he, ⟨ys, hys, q, hq, hj⟩ | ⟨pre, q, hj⟩⟩
    · exact ⟨he, .inl ⟨q, hq.trans hys, hj⟩⟩
    · exact ⟨he, .inr ⟨q, trivial, hj⟩⟩

theorem balls_stopsF (F : Fence) (n : Nat) (hf : F.fn 74) (hro : F.round = none) (hn : 1 ≤ n) (Bs n₀ g len cap : Nat) (bs : List Bool) (hlen : bs.length = len) (hm : len ≤ 1000) (w : World) (hBs : Bs < w.heap.size)
    (hb : 0 < len → g < n₀) (hc : w.cell? ⟨Bs, 0, none⟩ = some (.slice (some ⟨g, 0, none⟩) len cap)) (hI : CellsAt w g (bs.map .bool)) :
    SeqStopsK F n Tryz.prog 74 #[.pointer (some ⟨Bs, 0, none⟩)] (fun x : { j : Nat // j < len } => #[Value.int .i64 (x.1 : Int)]) (Below n₀) (fun ys => ys.map (·.1) = pos bs) (fun _ => True) len w :=
  balls_stopsF_g F n hf hro hn _ Bs n₀ g len cap (fun _ => rfl) bs hlen hm w hBs hb hc hI

/-- a block of one cell that the call made: laid with its value -/
theorem count_boxes (bs : List Bool) : (pos bs).length = nballs bs := by
  have h : ∀ k, k ≤ bs.length → (posU bs k).length = nballs (bs.take k) := by
    intro k
    induction k with
    | zero => intro _; simp [posU, nballs]
    | succ k ih =>
      intro hk
      have e : bs[k]? = some bs[k] := List.getElem?_eq_getElem (by omega)
      rw [posU_succ, nballs_snoc bs k _ e, e]
      cases hb : bs[k]
      · simpa using ih (by omega)
      · simpa using ih (by omega)
  have := h bs.length (Nat.le_refl _)
  rw [List.take_of_length_le (Nat.le_refl _)] at this
  exact this

set_option maxRecDepth 100000 in
set_option maxHeartbeats 2000000 in
theorem count_in (F : Fence) (n : Nat) (h1' : F.fn 49) (h2 : F.fn 44) (h3 : F.fn 74) (hro : F.round = none) (hn : 3 ≤ n) (g len cap : Nat) (bs : List Bool) (hlen : bs.length = len) (hm : len ≤ 1000) (w : World) (hI : CellsAt w g (bs.map .bool)) :
    CallsIn F n Tryz.prog 49 #[.slice (some ⟨g, 0, none⟩) len cap] w fun e W' => e = .returned (.int .i64 (nballs bs)) ∧ Below w.heap.size w W' := by
  have h1 : 1 ≤ n := by omega
  have hgl : 0 < len → g < w.heap.size := fun h => hI.lt (by simp; omega)
  have HI := hide hI
  have HLEN := hide hlen
  have HGL := hide hgl
  clear hI hlen hgl
  refine callsIn_of_wp_marks Tryz.func49 rfl h1' ?_ hro
  simp only [Tryz.ntmps49, List.size_toArray, List.length_cons, List.length_nil, Nat.reduceAdd, Nat.reduceSub, Array.replicate_succ, Array.replicate_zero, List.push_toArray, List.append_toArray, List.nil_append, List.cons_append]
  gi_wp2_with (gi_at_call 44; refine (balls_in F (n - 1) h2 hro _ _ _ _).mono ?_; rintro e w' ⟨rfl, rfl⟩)
  have bS := Boxed.new w 3 (.int .i64 0)
  have bN := Boxed.new (w.alloc (.cells #[.int .i64 0] 3)) 53 (.slice (some ⟨g, 0, none⟩) len cap)
  rw [World.size_alloc] at bN
  have hB0 : Below w.heap.size w ((w.alloc (.cells #[.int .i64 0] 3)).alloc (.cells #[.slice (some ⟨g, 0, none⟩) len cap] 53)) := ((Below.refl _ w).alloc (Nat.le_refl _) _).alloc (by simp) _
  refine wpIn_rangeFunc_ownG hro h1 (gf := 74) (lb := #[.pointer (some ⟨w.heap.size + 1, 0, none⟩)]) rfl h3 (enters_of Tryz.func74 (by kernel_rfl) rfl)
    (balls_stops F (n - 1) h3 hro (by omega) (w.heap.size + 1) w.heap.size g len cap bs HLEN.out hm _ (by simp) HGL.out bN.cell (HI.out.below' hB0 (Nat.le_refl _))) belowK_t (belowK_b (by simp; omega)) (Below.refl _ _) (fun _ => rfl)
    (fun pre W => (W.cell? ⟨w.heap.size, 0, none⟩ = some (.int .i64 (pre.length : Int)) ∧ W.frozen? ⟨w.heap.size, 0, none⟩ = false) ∧ Below w.heap.size w W)
    (fun _ _ _ => False)
    (OwnFrom.and (Own.from (fun s A B row hs hg hr => ⟨cell_kept hs.1 hg hr, (frozen_kept hs.1 hg hr).trans hs.2⟩) _) (ownFrom_below (Nat.le_refl _) (by simp; omega)))
    (fun _ _ _ _ _ hs _ _ => hs)
    ⟨⟨(bS.alloc _).cell, (bS.alloc _).frozen⟩, hB0⟩
    (fun x => { tmps := #[.slice (some ⟨g, 0, none⟩) len cap, undef, .int .i64 0, .pointer (some ⟨w.heap.size, 0, none⟩), .slice (some ⟨g, 0, none⟩) len cap, .func (.func 74) #[] #[.pointer (some ⟨w.heap.size + 1, 0, none⟩)], .int .i64 (x : Int), undef, undef, undef], defers := [] }) ?assign ?body ?done ?stop
  case assign =>
    intro l x W K hK
    gi_wp2
    simpa using hK
  case body =>
    rintro l pre x W ⟨⟨hc, hf⟩, hB⟩ hlt
    have hp : (pre.length : Int) ≤ 1000 := by omega
    gi_wp2
    exact ⟨(KeepsOthers.setCell _ _ _).from _, (Below.refl w.heap.size W).setCell (p := ⟨w.heap.size, 0, none⟩) (Nat.le_refl _) _, ⟨by rw [List.length_append]; exact World.cell?_setCell_same' _ _ _ (by rw [hc]; rfl), by rw [World.frozen?_setCell]; exact hf⟩, hB.setCell (p := ⟨w.heap.size, 0, none⟩) (Nat.le_refl _) _⟩
  case done =>
    rintro D ys W hD rfl ⟨⟨hc, _⟩, hB⟩ hK
    rw [count_boxes] at hc
    gi_wp2
    refine ⟨by simp, .inl ⟨_, _, rfl, run_takeDeferred hK, ?_⟩⟩
    exact ⟨_, results_tmp rfl _ _ _, rfl, hB.trans (belowK_b (w := w) (Nat.le_refl _) W D _ _ (by simp at hD; omega) hK rfl rfl)⟩
  case stop =>
    rintro D c pre W _ _ h _
    exact h.elim

theorem count_any (g len cap : Nat) (bs : List Bool) (hlen : bs.length = len) (hm : len ≤ 1000) (w : World) (hI : CellsAt w g (bs.map .bool)) :
    Calls Tryz.prog 49 #[.slice (some ⟨g, 0, none⟩) len cap] w fun e W' => e = .returned (.int .i64 (nballs bs)) ∧ Below w.heap.size w W' :=
  callsIn_wide.1 (count_in Fence.wide 3 trivial trivial trivial rfl (Nat.le_refl _) g len cap bs hlen hm w hI)
end Go.Proofs.YteibopcneflidabGreatDoor

/- THE WALKS of slices.Backward at a row, and of its iterator, while the body writes the row. -/
namespace Go.Proofs.YteibopcneflidabGreatDoor
open Go.RowKit Go.Shelf

attribute [local go_sem] Oper.semAt_some

set_option maxHeartbeats 400000 in
theorem backward_in (F : Fence) (n : Nat) (hf : F.fn 40) (hro : F.round = none) (a : Option Addr) (len cap : Nat) (w : World) :
    CallsIn F n Tryz.prog 40 #[.slice a len cap] w fun e w' => e = .returned (.func (.func 70) #[] #[.pointer (some ⟨w.heap.size, 0, none⟩)]) ∧ w' = w.alloc (.cells #[.slice a len cap] 53) := by
  refine callsIn_of_wp Tryz.func40 rfl hf ?_ hro
  simp only [Tryz.ntmps40, List.size_toArray, List.length_cons, List.length_nil, Nat.reduceAdd, Nat.reduceSub, Array.replicate_succ, Array.replicate_zero, List.push_toArray, List.append_toArray, List.nil_append, List.cons_append]
  gi_wp2
  go_ret
  exact ⟨rfl, rfl⟩

/-- what a body keeps for the iterator: the iterator's variable, and that the row's cells are booleans -/
def BwdK (Bs g len : Nat) (W W' : World) : Prop := W'.heap[Bs]? = W.heap[Bs]? ∧ ∀ j, j < len → (∃ b, W.cell? ⟨g, j, none⟩ = some (.bool b)) → ∃ b, W'.cell? ⟨g, j, none⟩ = some (.bool b)
theorem BwdK.refl (Bs g len : Nat) (W : World) : BwdK Bs g len W W := ⟨rfl, fun _ _ h => h⟩
theorem BwdK.trans {Bs g len : Nat} {A B C : World} (h : BwdK Bs g len A B) (k : BwdK Bs g len B C) : BwdK Bs g len A C := ⟨k.1.trans h.1, fun j hj hb => k.2 j hj (h.2 j hj hb)⟩
theorem rev_take {n j : Nat} (h : j < n) : ((List.range n).reverse).take (n - j) = ((List.range n).reverse).take (n - (j + 1)) ++ [j] := by
  have e : n - j = (n - (j + 1)) + 1 := by omega
  have e2 : ((List.range n).reverse)[n - (j + 1)]? = some j := by
    rw [List.getElem?_reverse (by rw [List.length_range]; omega), List.length_range, show n - 1 - (n - (j + 1)) = j by omega, List.getElem?_range h]
  rw [e, List.take_add_one, e2]
  rfl

set_option maxRecDepth 100000 in
set_option maxHeartbeats 2000000 in
theorem backward_stops (F : Fence) (n : Nat) (hf : F.fn 70) (hro : F.round = none) (hn : 1 ≤ n) (Bs g len cap : Nat) (y : Option Addr) (hy : 0 < len → y = some ⟨g, 0, none⟩) (hm : len ≤ 1000) (w : World) (hBs : w.cell? ⟨Bs, 0, none⟩ = some (.slice y len cap))
    (hgl : 0 < len → g < w.heap.size) (hc : ∀ j, j < len → ∃ b, w.cell? ⟨g, j, none⟩ = some (.bool b)) :
    SeqStopsK F n Tryz.prog 70 #[.pointer (some ⟨Bs, 0, none⟩)] (fun p : { q : Nat × Bool // q.1 < len } => #[Value.int .i64 (p.1.1 : Int), .bool p.1.2]) (BwdK Bs g len) (fun ys => ys.map (·.1.1) = (List.range len).reverse) (fun _ => True) len w := fun l J Jx W hW _ _ hY h0 => by
  have hBl : Bs < w.heap.size := World.block_lt_of_cell? w _ hBs
  have hBW : W.cell? ⟨Bs, 0, none⟩ = some (.slice y len cap) := (hW.cell (p := ⟨Bs, 0, none⟩) hBl).trans hBs
  have hcW : Hid (∀ j, j < len → ∃ b, W.cell? ⟨g, j, none⟩ = some (.bool b)) := hide (fun j hj => by
    obtain ⟨b, hb⟩ := hc j hj
    exact ⟨b, (hW.cell (p := ⟨g, j, none⟩) (hgl (by omega))).trans hb⟩)
  have HBW := hide hBW
  clear hc hBs
  refine callsIn_of_wp Tryz.func70 rfl hf ?_ hro
  simp only [Tryz.ntmps70, List.size_toArray, List.length_cons, List.length_nil, Nat.reduceAdd, Nat.reduceSub, Array.replicate_succ, Array.replicate_zero, List.push_toArray, List.append_toArray, List.nil_append, List.cons_append]
  gi_wp2
  gi_loopw [3] (fun i wr => ∃ (k : Nat) (pre : List { q : Nat × Bool // q.1 < len }), k ≤ len ∧ i = .int .i64 ((k : Int) - 1) ∧ Hid (pre.map (·.1.1) = ((List.range len).reverse).take (len - k)) ∧ J pre wr ∧ Hid (BwdK Bs g len W wr))
    (fun i _ => (intOf i + 1).toNat)
  case atStart => exact ⟨len, [], Nat.le_refl _, by go_num, by show _ = _; rw [Nat.sub_self]; rfl, h0, BwdK.refl _ _ _ _⟩
  case round =>
    obtain ⟨k, pre, hk, rfl, HP, hJs, HK⟩ := hrel
    have hBr : wr.cell? ⟨Bs, 0, none⟩ = some (.slice y len cap) := (World.cell?_of_block (a := ⟨Bs, 0, none⟩) HK.out.1).trans HBW.out
    by_cases h0 : k = 0
    · subst h0
      gi_wp2
      go_end0
      refine ⟨⟨_, rfl⟩, .inl ⟨pre, ?_, hJs⟩⟩
      have h := HP.out
      rw [List.take_of_length_le (by simp)] at h
      exact h
    · obtain ⟨j, rfl⟩ : ∃ j, k = j + 1 := ⟨k - 1, by omega⟩
      have ej : ((j + 1 : Nat) : Int) - 1 = (j : Int) := by omega
      rw [ej]
      clear ej h0
      obtain rfl := hy (by omega)
      obtain ⟨b, hb⟩ := HK.out.2 j (by omega) (hcW.out j (by omega))
      have hlen : pre.length < len := by
        have := congrArg List.length HP.out
        simp at this
        omega
      obtain ⟨fn, tmps, assign, body, hyy, hR⟩ := hY pre ⟨(j, b), by omega⟩ wr hJs hlen
      have HPN : Hid ((pre ++ [(⟨(j, b), by omega⟩ : { q : Nat × Bool // q.1 < len })]).map (·.1.1) = ((List.range len).reverse).take (len - j)) := by
        show _ = _
        rw [rev_take (show j < len by omega), List.map_append, HP.out]
        rfl
      have i0 : (0 : Int) ≤ (j : Int) := by omega
      have i1 : (j : Int) < (len : Int) := by omega
      have hj : j ≤ len := by omega
      gi_wp2
      refine hR.mono ?_
      rintro e W3 (⟨rfl, hJ3, hk3⟩ | ⟨rfl, hJx3⟩)
      · gi_wp2
        go_roundw
        case rel => exact ⟨j, _, hj, by go_num, HPN, hJ3, HK.out.trans hk3⟩
        case measure => simp [intOf]
      · gi_wp2
        refine bodyPost_ret (results_none rfl _ _ _) rfl ?_
        exact ⟨⟨_, rfl⟩, .inr ⟨_, trivial, hJx3⟩⟩
end Go.Proofs.YteibopcneflidabGreatDoor

/- TWO LAWS INSIDE A FENCE that the library has for the plain walk alone: a make of n zero elements; a copy into a row. Nothing of the program is named here. -/
namespace Go.Proofs.YteibopcneflidabGreatDoor
open Go.RowKit

theorem wpListIn_make_full {F : Fence} {f : Nat} {P : Program} (w : World) {ops : Array Oper} {rest : List Oper} {o : Oper} {a : Act} {Q : Exit → Act → World → Prop}
    (hg : o.guard = none) (l c : Operand) (t : TypeId) (hop : o.op = Op.makeSlice t l c)
    (base : Nat) (e : TypeId) (i : TypeInfo) (z : Value) (size : Nat) (h1 : P.underlying t = some (.slice e)) (h2 : P.info? e = some i) (h3 : i.zero = some z) (h4 : i.size = size)
    (kl kc : IntKind) (L C : Int) (n : Nat) (hl : a.eval l = .int kl L) (hc : a.eval c = .int kc C) (hL : L = (n : Int)) (hC : C = (n : Int)) (b2 : i.bytes * n ≤ 281474976710656) (b3 : n ≤ maxLen) (b4 : base ≤ w.heap.size)
    (hK : ∀ w', w'.ownsRow base e size (.slice (some ⟨w.heap.size, 0, none⟩) n n) n (madeCells z.cells (n * size)).toList → w.grownBy w' none → wpListIn F f P ops Q rest (a.put o.dst (.slice (some ⟨w.heap.size, 0, none⟩) n n)) w') :
    wpListIn F f P ops Q (o :: rest) a w := by
  refine wpListIn_plain hg fun K hK' => ?_
  obtain ⟨w', hrun, r1, r2⟩ := run_make_full (P := P) w base t e i z size h1 h2 h3 h4 kl kc n b2 b3 b4
  subst hL
  subst hC
  unfold Oper.wpIn
  refine ⟨?_, ?_⟩
  · simp [Oper.about, hop]
  · rw [Oper.semAt_plain F _ _ (by rw [hop]; intro c hc'; cases hc')]
    simp [execOp, hop, hl, hc, hrun, Result.andThen]
    exact hK' _ _ (hK w' r1 r2)

theorem wpListIn_copy_nothing {F : Fence} {f : Nat} {P : Program} {w : World} {ops : Array Oper} {rest : List Oper} {o : Oper} {a : Act} {Q : Exit → Act → World → Prop} (hgd : o.guard = none) (d s : Operand) (dT sT : TypeId)
    (ho : o.op = .call { callee := .builtin .copy, args := #[d, s], argTypes := #[dT, sT] }) (elem : TypeId) (hu : P.underlying dT = some (.slice elem)) (hsz : (P.info? elem).map (·.size) = some 1)
    (dp sp : Option Addr) (dLen dCap sLen sCap : Nat) (hd : a.eval d = .slice dp dLen dCap) (hs : a.eval s = .slice sp sLen sCap) (hn : Nat.min sLen dLen = 0)
    (h : wpListIn F f P ops Q rest (a.put o.dst (goInt 0)) w) : wpListIn F f P ops Q (o :: rest) a w := by
  refine wpListIn_plain hgd fun K hK => ?_
  have hrun := run_copy_none (P := P) w dT sT o.type elem dp sp dLen dCap sLen sCap hu hsz hn
  unfold Oper.wpIn
  refine ⟨?_, ?_⟩
  · simp [Oper.about, ho, resolve, Target.leads, Sem.run_pure]
  · rw [Oper.semAt_plain F _ _ (by rw [ho]; intro c hc'; cases hc')]
    simp [execOp, ho, resolve, invoke, builtin, hd, hs, hrun, Result.andThen]
    exact hK _ _ h

theorem wpListIn_copy_splice {F : Fence} {f : Nat} {P : Program} {w : World} {ops : Array Oper} {rest : List Oper} {o : Oper} {a : Act} {Q : Exit → Act → World → Prop} (hgd : o.guard = none) (d s : Operand) (dT sT : TypeId)
    (ho : o.op = .call { callee := .builtin .copy, args := #[d, s], argTypes := #[dT, sT] }) (elem : TypeId) (hu : P.underlying dT = some (.slice elem)) (hsz : (P.info? elem).map (·.size) = some 1)
    (dp sp : Option Addr) (dLen dCap sLen sCap : Nat) (hd : a.eval d = .slice dp dLen dCap) (hs : a.eval s = .slice sp sLen sCap)
    (g off : Nat) (cur : List Value) (t : TypeId) (hg : w.heap[g]? = some (.cells cur.toArray t (0, 0))) (cs : List Value) (hn : cs.length = Nat.min sLen dLen)
    (hpos : 0 < cs.length → dp = some ⟨g, off, none⟩ ∧ ∃ ad, sp = some ad ∧ ∀ j v, cs[j]? = some v → w.cell? (ad.add j) = some v)
    (hfit : off + cs.length ≤ cur.length) (h1 : ∀ v ∈ cs, v.oneCell' = true)
    (h : ∀ w', Hid (w'.heap[g]? = some (.cells (splice cur off cs).toArray t (0, 0))) → w.grownBy w' (some g) → Hid (w'.heap.size = w.heap.size) → wpListIn F f P ops Q rest (a.put o.dst (goInt cs.length)) w') :
    wpListIn F f P ops Q (o :: rest) a w := by
  by_cases h0 : cs.length = 0
  · obtain rfl : cs = [] := List.eq_nil_of_length_eq_zero h0
    refine wpListIn_copy_nothing hgd d s dT sT ho elem hu hsz dp sp dLen dCap sLen sCap hd hs (by simpa using hn.symm) ?_
    exact h w (show _ = _ by simpa [splice] using hg) ⟨rfl, rfl, rfl, Nat.le_refl _, fun _ _ _ => rfl⟩ (show _ = _ from rfl)
  · obtain ⟨rfl, ad, rfl, hsrc⟩ := hpos (by omega)
    refine wpListIn_plain hgd fun K hK => ?_
    have hrun := run_copy_row (P := P) w dT sT o.type elem g off dLen dCap ad sLen sCap cur.toArray t cs hu hsz hg hn hsrc (by simpa using hfit) h1
    unfold Oper.wpIn
    refine ⟨?_, ?_⟩
    · simp [Oper.about, ho, resolve, Target.leads, Sem.run_pure]
    · rw [Oper.semAt_plain F _ _ (by rw [ho]; intro c hc'; cases hc')]
      simp [execOp, ho, resolve, invoke, builtin, hd, hs, hrun, Result.andThen]
      exact hK _ _ (h _ (show _ = _ by simpa [splice] using setRow_heap w g _ _ t _ hg) ⟨rfl, rfl, rfl, by simp [World.setRow], fun k _ hk => setRow_other w g k _ (fun e => hk (by rw [e]))⟩ (show _ = _ by simp [World.setRow]))
end Go.Proofs.YteibopcneflidabGreatDoor

/- THE WALKS of RowBalls, of the program, and of its exact law. -/
namespace Go.Proofs.YteibopcneflidabGreatDoor
open Go.RowKit

theorem CellsAt.take {w : World} {g : Nat} {l : List Value} (h : CellsAt w g l) (k : Nat) : CellsAt w g (l.take k) := by
  intro j v hv
  rw [List.getElem?_take] at hv
  split at hv
  · exact h j v hv
  · cases hv
/-- a row up to its last ball -/
def cut (l : List Bool) : List Bool := l.take (tl l)
theorem cut_length (l : List Bool) : (cut l).length = tl l := by unfold cut; rw [List.length_take]; exact Nat.min_eq_left (tl_le l)
theorem cut_map (l : List Bool) : (cut l).map Value.bool = (l.map Value.bool).take (tl l) := by unfold cut; rw [List.map_take]
theorem cut_eq (l : List Bool) : ∃ n, l = cut l ++ List.replicate n false := by
  have h : ∀ m : List Bool, ∃ n, m.reverse = cut m.reverse ++ List.replicate n false := by
    intro m
    induction m with
    | nil => exact ⟨0, rfl⟩
    | cons b m ih =>
      obtain ⟨n, hn⟩ := ih
      rw [List.reverse_cons]
      cases b
      · refine ⟨n + 1, ?_⟩
        have e : cut (m.reverse ++ [false]) = cut m.reverse := by
          unfold cut
          rw [tl_snoc]
          exact List.take_append_of_le_length (tl_le _)
        rw [e, List.replicate_succ', ← List.append_assoc, ← hn]
      · refine ⟨0, ?_⟩
        unfold cut
        rw [tl_snoc, List.take_of_length_le (by simp)]
        simp
  have := h l.reverse
  rwa [List.reverse_reverse] at this
theorem nballs_cut (l : List Bool) : nballs (cut l) = nballs l := by
  obtain ⟨n, hn⟩ := cut_eq l
  have h2 : nballs l = nballs (cut l ++ List.replicate n false) := congrArg nballs hn
  rw [h2]
  unfold nballs
  rw [List.count_append, List.count_replicate]; simp

end Go.Proofs.YteibopcneflidabGreatDoor
