/- TEXTS Balls, RowBalls. -/
import Derived.Test.YtppelmceojodhaaDoorone05
import Derived.Test.YtppelmceojodhaaDoorone02
import Derived.RangeFuncNested
import Derived.RangeFuncBound
import Derived.RangeFuncCalls
import Derived.RangeFuncLeaves
import Derived.RangeFuncBox
import Derived.Shelf.Abstract
import Derived.Shelf.RegionOpen
import Derived.WalkKit
import Derived.OwnWalkIn
import Derived.TacticsInMore
import Derived.LoopNIn
import Derived.LoopIn
/- THE ITERATOR over the balls of a row, and 'count', which ranges over it. -/
namespace Go.Proofs.YtppelmceojodhaaDoor
open Go.RowKit Go.Shelf

attribute [local go_sem] Oper.semAt_some

/-- the indexes of the balls among the first k boxes -/
def posU (bs : List Bool) (k : Nat) : List Nat := (List.range k).filter (fun j => bs[j]?.getD false)
def pos (bs : List Bool) : List Nat := posU bs bs.length
theorem posU_succ (bs : List Bool) (k : Nat) : posU bs (k + 1) = if bs[k]?.getD false then posU bs k ++ [k] else posU bs k := by
  unfold posU; rw [List.range_succ, List.filter_append]; cases h : bs[k]?.getD false <;> simp [h]
theorem posU_le (bs : List Bool) (k : Nat) : (posU bs k).length ≤ k := by
  unfold posU; exact Nat.le_trans (List.length_filter_le _ _) (by simp)

set_option maxHeartbeats 400000 in
theorem balls_in (F : Fence) (n : Nat) (hf : F.fn 36) (hro : F.round = none) (a : Option Addr) (len cap : Nat) (w : World) :
    CallsIn F n Tryd.prog 36 #[.slice a len cap] w fun e w' => e = .returned (.func (.func 50) #[] #[.pointer (some ⟨w.heap.size, 0, none⟩)]) ∧ w' = w.alloc (.cells #[.slice a len cap] 54) := by
  refine callsIn_of_wp Tryd.func36 rfl hf ?_ hro
  simp only [Tryd.ntmps36, List.size_toArray, List.length_cons, List.length_nil, Nat.reduceAdd, Nat.reduceSub, Array.replicate_succ, Array.replicate_zero, List.push_toArray, List.append_toArray, List.nil_append, List.cons_append]
  gi_wp2
  go_ret
  exact ⟨rfl, rfl⟩

set_option maxRecDepth 100000 in
set_option maxHeartbeats 2000000 in
theorem balls1_g (F : Fence) (n : Nat) (hf : F.fn 50) (hro : F.round = none) (hn : 1 ≤ n) (x : Option Addr) (l Bs n₀ g len cap : Nat) (hx : 0 < len → x = some ⟨g, 0, none⟩) (bs : List Bool) (hlen : bs.length = len) (hm : len ≤ 1000) (hb : 0 < len → g < n₀) (J Jx : List Nat → World → Prop)
    (hY : ∀ pre (y : Nat) W, y < len → J pre W → pre.length < len → YieldAt F (n - 1) Tryd.prog l #[.int .i64 (y : Int)] W fun e W' =>
      (e = .returned (.bool true) ∧ J (pre ++ [y]) W' ∧ Below n₀ W W') ∨ (e = .returned (.bool false) ∧ Jx (pre ++ [y]) W'))
    (W : World) (hBs : W.cell? ⟨Bs, 0, none⟩ = some (.slice x len cap)) (hc : CellsAt W g (bs.map .bool)) (h0 : J [] W) :
    CallsIn F n Tryd.prog 50 #[.func (.yield l) #[] #[], .pointer (some ⟨Bs, 0, none⟩)] W fun e W' => (∃ v, e = .returned v) ∧
      ((∃ ys, ys = pos bs ∧ J ys W') ∨ (∃ pre, Jx pre W')) := by
  have HL := hide hlen
  have HC := hide hc
  clear hlen hc
  refine callsIn_of_wp Tryd.func50 rfl hf ?_ hro
  simp only [Tryd.ntmps50, List.size_toArray, List.length_cons, List.length_nil, Nat.reduceAdd, Nat.reduceSub, Array.replicate_succ, Array.replicate_zero, List.push_toArray, List.append_toArray, List.nil_append, List.cons_append]
  gi_wp2
  gi_loopw [7] (fun i wr => ∃ k : Nat, k ≤ len ∧ i = .int .i64 k ∧ J (posU bs k) wr ∧ Hid (Below n₀ W wr))
    (fun i _ => len - (Go.RowKit.intOf i).toNat)
  case atStart => exact ⟨0, Nat.zero_le _, rfl, h0, Below.refl _ _⟩
  case round =>
    obtain ⟨k, hk, rfl, hJs, HN⟩ := hrel
    by_cases hlt : k < len
    · obtain rfl := hx (by omega)
      obtain ⟨b, hbk⟩ : ∃ b, bs[k]? = some b := ⟨_, List.getElem?_eq_getElem (by rw [HL.out]; exact hlt)⟩
      have hcx : wr.cell? ⟨g, k, none⟩ = some (.bool b) := ((HC.out.below HN.out (hb (by omega))) k (.bool b) (by simp [hbk])).1
      have HS := hide (posU_succ bs k)
      rw [hbk] at HS
      clear hbk
      cases b
      · gi_wp2
        refine ⟨fun _ h => (by cases h), ?_⟩
        gi_wp2
        go_roundw
        case rel => exact ⟨k + 1, by omega, by simp, by rw [HS.out]; exact hJs, HN⟩
        case measure => simp [Go.RowKit.intOf]; omega
      · obtain ⟨fn, tmps, assign, body, hy, hR⟩ := hY _ k wr hlt hJs (by have := posU_le bs k; omega)
        gi_wp2
        refine hR.mono ?_
        rintro e W3 (⟨rfl, hJ3, hk3⟩ | ⟨rfl, hJx3⟩)
        · gi_wp2
          go_roundw
          case rel => exact ⟨k + 1, by omega, by simp, by rw [HS.out]; exact hJ3, HN.out.trans hk3⟩
          case measure => simp [Go.RowKit.intOf]; omega
        · gi_wp2
          refine bodyPost_ret (results_none rfl _ _ _) rfl ?_
          exact ⟨⟨_, rfl⟩, .inr ⟨_, hJx3⟩⟩
    · obtain rfl : k = len := by omega
      gi_wp2
      go_end0
      exact ⟨⟨_, rfl⟩, .inl ⟨_, by unfold pos; rw [HL.out], hJs⟩⟩

theorem balls_stops_g (F : Fence) (n : Nat) (hf : F.fn 50) (hro : F.round = none) (hn : 1 ≤ n) (x : Option Addr) (Bs n₀ g len cap : Nat) (hx : 0 < len → x = some ⟨g, 0, none⟩) (bs : List Bool) (hlen : bs.length = len) (hm : len ≤ 1000) (w : World) (hBs : Bs < w.heap.size)
    (hb : 0 < len → g < n₀) (hc : w.cell? ⟨Bs, 0, none⟩ = some (.slice x len cap)) (hI : CellsAt w g (bs.map .bool)) :
    SeqStopsK F n Tryd.prog 50 #[.pointer (some ⟨Bs, 0, none⟩)] (fun y : Nat => #[Value.int .i64 (y : Int)]) (Below n₀) (fun ys => ys = pos bs) (fun _ => True) len w := fun l J Jx W hW _ _ hY h0 => by
  have hc' := (hW.cell (p := ⟨Bs, 0, none⟩) hBs).trans hc
  refine (balls1_g F n hf hro hn x l Bs n₀ g len cap hx bs hlen hm hb J Jx (fun pre y W _ => hY pre y W) W hc' (hI.below' hW (Nat.le_refl _)) h0).mono ?_
  rintro e W' ⟨he, ⟨ys, rfl, hj⟩ | ⟨pre, hj⟩⟩
  · exact ⟨he, .inl ⟨_, rfl, hj⟩⟩
  · exact ⟨he, .inr ⟨_, trivial, hj⟩⟩

theorem balls_stops (F : Fence) (n : Nat) (hf : F.fn 50) (hro : F.round = none) (hn : 1 ≤ n) (Bs n₀ g len cap : Nat) (bs : List Bool) (hlen : bs.length = len) (hm : len ≤ 1000) (w : World) (hBs : Bs < w.heap.size)
    (hb : 0 < len → g < n₀) (hc : w.cell? ⟨Bs, 0, none⟩ = some (.slice (some ⟨g, 0, none⟩) len cap)) (hI : CellsAt w g (bs.map .bool)) :
    SeqStopsK F n Tryd.prog 50 #[.pointer (some ⟨Bs, 0, none⟩)] (fun x : Nat => #[Value.int .i64 (x : Int)]) (Below n₀) (fun ys => ys = pos bs) (fun _ => True) len w :=
  balls_stops_g F n hf hro hn _ Bs n₀ g len cap (fun _ => rfl) bs hlen hm w hBs hb hc hI

/-- .. where the body must know that an index lies in the row -/
theorem balls_stopsF_g (F : Fence) (n : Nat) (hf : F.fn 50) (hro : F.round = none) (hn : 1 ≤ n) (x : Option Addr) (Bs n₀ g len cap : Nat) (hx : 0 < len → x = some ⟨g, 0, none⟩) (bs : List Bool) (hlen : bs.length = len) (hm : len ≤ 1000) (w : World) (hBs : Bs < w.heap.size)
    (hb : 0 < len → g < n₀) (hc : w.cell? ⟨Bs, 0, none⟩ = some (.slice x len cap)) (hI : CellsAt w g (bs.map .bool)) :
    SeqStopsK F n Tryd.prog 50 #[.pointer (some ⟨Bs, 0, none⟩)] (fun y : { j : Nat // j < len } => #[Value.int .i64 (y.1 : Int)]) (Below n₀) (fun ys => ys.map (·.1) = pos bs) (fun _ => True) len w := fun l J Jx W hW _ _ hY h0 => by
  have hc' := (hW.cell (p := ⟨Bs, 0, none⟩) hBs).trans hc
  refine (balls1_g F n hf hro hn x l Bs n₀ g len cap hx bs hlen hm hb (fun ps W => ∃ q : List { j : Nat // j < len }, q.map (·.1) = ps ∧ J q W) (fun _ W => ∃ q, Jx q W) ?_ W hc' (hI.below' hW (Nat.le_refl _)) ⟨[], rfl, h0⟩).mono ?_
  · rintro pre y W1 hy0 ⟨q, rfl, hq⟩ hl
    obtain ⟨fn, tmps, assign, body, hy, hR⟩ := hY q ⟨y, hy0⟩ W1 hq (by simpa using hl)
    refine ⟨fn, tmps, assign, body, hy, hR.mono ?_⟩
    rintro e W' (⟨he, hj, hk⟩ | ⟨he, hj⟩)
    · exact .inl ⟨he, ⟨_, by simp, hj⟩, hk⟩
    · exact .inr ⟨he, _, hj⟩
  · rintro e W' ⟨he, ⟨ys, hys, q, hq, hj⟩ | ⟨pre, q, hj⟩⟩
    · exact ⟨he, .inl ⟨q, hq.trans hys, hj⟩⟩
    · exact ⟨he, .inr ⟨q, trivial, hj⟩⟩

theorem balls_stopsF (F : Fence) (n : Nat) (hf : F.fn 50) (hro : F.round = none) (hn : 1 ≤ n) (Bs n₀ g len cap : Nat) (bs : List Bool) (hlen : bs.length = len) (hm : len ≤ 1000) (w : World) (hBs : Bs < w.heap.size)
    (hb : 0 < len → g < n₀) (hc : w.cell? ⟨Bs, 0, none⟩ = some (.slice (some ⟨g, 0, none⟩) len cap)) (hI : CellsAt w g (bs.map .bool)) :
    SeqStopsK F n Tryd.prog 50 #[.pointer (some ⟨Bs, 0, none⟩)] (fun x : { j : Nat // j < len } => #[Value.int .i64 (x.1 : Int)]) (Below n₀) (fun ys => ys.map (·.1) = pos bs) (fun _ => True) len w :=
  balls_stopsF_g F n hf hro hn _ Bs n₀ g len cap (fun _ => rfl) bs hlen hm w hBs hb hc hI

/-- a block of one cell that the call made: laid with its value -/
theorem count_boxes (bs : List Bool) : (pos bs).length = nballs bs := by
  have h : ∀ k, k ≤ bs.length → (posU bs k).length = nballs (bs.take k) := by
    intro k
    induction k with
    | zero => intro _; simp [posU, nballs]
    | succ k ih =>
      intro hk
      have e : bs[k]? = some bs[k] := List.getElem?_eq_getElem (by omega)
      rw [posU_succ, nballs_snoc bs k _ e, e]
      cases hb : bs[k]
      · simpa using ih (by omega)
      · simpa using ih (by omega)
  have := h bs.length (Nat.le_refl _)
  rw [List.take_of_length_le (Nat.le_refl _)] at this
  exact this

end Go.Proofs.YtppelmceojodhaaDoor

/- THE WALKS of RowBalls, of the program, and of its exact law. -/
namespace Go.Proofs.YtppelmceojodhaaDoor
open Go.RowKit

theorem CellsAt.take {w : World} {g : Nat} {l : List Value} (h : CellsAt w g l) (k : Nat) : CellsAt w g (l.take k) := by
  intro j v hv
  rw [List.getElem?_take] at hv
  split at hv
  · exact h j v hv
  · cases hv
/-- a row up to its last ball -/
def cut (l : List Bool) : List Bool := l.take (tl l)
theorem cut_length (l : List Bool) : (cut l).length = tl l := by unfold cut; rw [List.length_take]; exact Nat.min_eq_left (tl_le l)
theorem cut_map (l : List Bool) : (cut l).map Value.bool = (l.map Value.bool).take (tl l) := by unfold cut; rw [List.map_take]
theorem cut_eq (l : List Bool) : ∃ n, l = cut l ++ List.replicate n false := by
  have h : ∀ m : List Bool, ∃ n, m.reverse = cut m.reverse ++ List.replicate n false := by
    intro m
    induction m with
    | nil => exact ⟨0, rfl⟩
    | cons b m ih =>
      obtain ⟨n, hn⟩ := ih
      rw [List.reverse_cons]
      cases b
      · refine ⟨n + 1, ?_⟩
        have e : cut (m.reverse ++ [false]) = cut m.reverse := by
          unfold cut
          rw [tl_snoc]
          exact List.take_append_of_le_length (tl_le _)
        rw [e, List.replicate_succ', ← List.append_assoc, ← hn]
      · refine ⟨0, ?_⟩
        unfold cut
        rw [tl_snoc, List.take_of_length_le (by simp)]
        simp
  have := h l.reverse
  rwa [List.reverse_reverse] at this
theorem nballs_cut (l : List Bool) : nballs (cut l) = nballs l := by
  obtain ⟨n, hn⟩ := cut_eq l
  have h2 : nballs l = nballs (cut l ++ List.replicate n false) := congrArg nballs hn
  rw [h2]
  unfold nballs
  rw [List.count_append, List.count_replicate]; simp

end Go.Proofs.YtppelmceojodhaaDoor
