/- TEXTS Balls, RowBalls, Col2. -/
import Derived.Test.Ytkdhifofdghbbaarot03
import Derived.Test.Ytkdhifofdghbbaarot01
import Derived.Test.Ytkdhifofdghbbaarot02
import Derived.RangeFuncNested
import Derived.RangeFuncBound
import Derived.RangeFuncCalls
import Derived.RangeFuncLeaves
import Derived.RangeFuncBox
import Derived.Shelf.Abstract
import Derived.Shelf.RegionOpen
import Derived.WalkKit
import Derived.OwnWalkIn
import Derived.TacticsInMore
import Derived.LoopNIn
import Derived.LoopIn
/- THE ITERATOR over the balls of a row, and 'count', which ranges over it. -/
namespace Go.Proofs.Ytkdhifofdghbbaa
open Go.RowKit Go.Shelf

attribute [local go_sem] Oper.semAt_some

/-- the indexes of the balls among the first k boxes -/
def posU (bs : List Bool) (k : Nat) : List Nat := (List.range k).filter (fun j => bs[j]?.getD false)
def pos (bs : List Bool) : List Nat := posU bs bs.length
theorem posU_succ (bs : List Bool) (k : Nat) : posU bs (k + 1) = if bs[k]?.getD false then posU bs k ++ [k] else posU bs k := by
  unfold posU; rw [List.range_succ, List.filter_append]; cases h : bs[k]?.getD false <;> simp [h]
theorem posU_le (bs : List Bool) (k : Nat) : (posU bs k).length ≤ k := by
  unfold posU; exact Nat.le_trans (List.length_filter_le _ _) (by simp)

set_option maxHeartbeats 400000 in
theorem balls_in (F : Fence) (n : Nat) (hf : F.fn 54) (hro : F.round = none) (a : Option Addr) (len cap : Nat) (w : World) :
    CallsIn F n Try.prog 54 #[.slice a len cap] w fun e w' => e = .returned (.func (.func 70) #[] #[.pointer (some ⟨w.heap.size, 0, none⟩)]) ∧ w' = w.alloc (.cells #[.slice a len cap] 47) := by
  refine callsIn_of_wp Try.func54 rfl hf ?_ hro
  simp only [Try.ntmps54, List.size_toArray, List.length_cons, List.length_nil, Nat.reduceAdd, Nat.reduceSub, Array.replicate_succ, Array.replicate_zero, List.push_toArray, List.append_toArray, List.nil_append, List.cons_append]
  gi_wp2
  go_ret
  exact ⟨rfl, rfl⟩

set_option maxRecDepth 100000 in
set_option maxHeartbeats 2000000 in
theorem balls1_g (F : Fence) (n : Nat) (hf : F.fn 70) (hro : F.round = none) (hn : 1 ≤ n) (x : Option Addr) (l Bs n₀ g len cap : Nat) (hx : 0 < len → x = some ⟨g, 0, none⟩) (bs : List Bool) (hlen : bs.length = len) (hm : len ≤ 1000) (hb : 0 < len → g < n₀) (J Jx : List Nat → World → Prop)
    (hY : ∀ pre (y : Nat) W, y < len → J pre W → pre.length < len → YieldAt F (n - 1) Try.prog l #[.int .i64 (y : Int)] W fun e W' =>
      (e = .returned (.bool true) ∧ J (pre ++ [y]) W' ∧ Below n₀ W W') ∨ (e = .returned (.bool false) ∧ Jx (pre ++ [y]) W'))
    (W : World) (hBs : W.cell? ⟨Bs, 0, none⟩ = some (.slice x len cap)) (hc : CellsAt W g (bs.map .bool)) (h0 : J [] W) :
    CallsIn F n Try.prog 70 #[.func (.yield l) #[] #[], .pointer (some ⟨Bs, 0, none⟩)] W fun e W' => (∃ v, e = .returned v) ∧
      ((∃ ys, ys = pos bs ∧ J ys W') ∨ (∃ pre, Jx pre W')) := by
  have HL := hide hlen
  have HC := hide hc
  clear hlen hc
  refine callsIn_of_wp Try.func70 rfl hf ?_ hro
  simp only [Try.ntmps70, List.size_toArray, List.length_cons, List.length_nil, Nat.reduceAdd, Nat.reduceSub, Array.replicate_succ, Array.replicate_zero, List.push_toArray, List.append_toArray, List.nil_append, List.cons_append]
  gi_wp2
  gi_loopw [7] (fun i wr => ∃ k : Nat, k ≤ len ∧ i = .int .i64 k ∧ J (posU bs k) wr ∧ Hid (Below n₀ W wr))
    (fun i _ => len - (Go.RowKit.intOf i).toNat)
  case atStart => exact ⟨0, Nat.zero_le _, rfl, h0, Below.refl _ _⟩
  case round =>
    obtain ⟨k, hk, rfl, hJs, HN⟩ := hrel
    by_cases hlt : k < len
    · obtain rfl := hx (by omega)
      obtain ⟨b, hbk⟩ : ∃ b, bs[k]? = some b := ⟨_, List.getElem?_eq_getElem (by rw [HL.out]; exact hlt)⟩
      have hcx : wr.cell? ⟨g, k, none⟩ = some (.bool b) := ((HC.out.below HN.out (hb (by omega))) k (.bool b) (by simp [hbk])).1
      have HS := hide (posU_succ bs k)
      rw [hbk] at HS
      clear hbk
      cases b
      · gi_wp2
        refine ⟨fun _ h => (by cases h), ?_⟩
        gi_wp2
        go_roundw
        case rel => exact ⟨k + 1, by omega, by simp, by rw [HS.out]; exact hJs, HN⟩
        case measure => simp [Go.RowKit.intOf]; omega
      · obtain ⟨fn, tmps, assign, body, hy, hR⟩ := hY _ k wr hlt hJs (by have := posU_le bs k; omega)
        gi_wp2
        refine hR.mono ?_
        rintro e W3 (⟨rfl, hJ3, hk3⟩ | ⟨rfl, hJx3⟩)
        · gi_wp2
          go_roundw
          case rel => exact ⟨k + 1, by omega, by simp, by rw [HS.out]; exact hJ3, HN.out.trans hk3⟩
          case measure => simp [Go.RowKit.intOf]; omega
        · gi_wp2
          refine bodyPost_ret (results_none rfl _ _ _) rfl ?_
          exact ⟨⟨_, rfl⟩, .inr ⟨_, hJx3⟩⟩
    · obtain rfl : k = len := by omega
      gi_wp2
      go_end0
      exact ⟨⟨_, rfl⟩, .inl ⟨_, by unfold pos; rw [HL.out], hJs⟩⟩

theorem balls_stops_g (F : Fence) (n : Nat) (hf : F.fn 70) (hro : F.round = none) (hn : 1 ≤ n) (x : Option Addr) (Bs n₀ g len cap : Nat) (hx : 0 < len → x = some ⟨g, 0, none⟩) (bs : List Bool) (hlen : bs.length = len) (hm : len ≤ 1000) (w : World) (hBs : Bs < w.heap.size)
    (hb : 0 < len → g < n₀) (hc : w.cell? ⟨Bs, 0, none⟩ = some (.slice x len cap)) (hI : CellsAt w g (bs.map .bool)) :
    SeqStopsK F n Try.prog 70 #[.pointer (some ⟨Bs, 0, none⟩)] (fun y : Nat => #[Value.int .i64 (y : Int)]) (Below n₀) (fun ys => ys = pos bs) (fun _ => True) len w := fun l J Jx W hW _ _ hY h0 => by
  have hc' := (hW.cell (p := ⟨Bs, 0, none⟩) hBs).trans hc
  refine (balls1_g F n hf hro hn x l Bs n₀ g len cap hx bs hlen hm hb J Jx (fun pre y W _ => hY pre y W) W hc' (hI.below' hW (Nat.le_refl _)) h0).mono ?_
  rintro e W' ⟨he, ⟨ys, rfl, hj⟩ | ⟨pre, hj⟩⟩
  · exact ⟨he, .inl ⟨_, rfl, hj⟩⟩
  · exact ⟨he, .inr ⟨_, trivial, hj⟩⟩

theorem balls_stops (F : Fence) (n : Nat) (hf : F.fn 70) (hro : F.round = none) (hn : 1 ≤ n) (Bs n₀ g len cap : Nat) (bs : List Bool) (hlen : bs.length = len) (hm : len ≤ 1000) (w : World) (hBs : Bs < w.heap.size)
    (hb : 0 < len → g < n₀) (hc : w.cell? ⟨Bs, 0, none⟩ = some (.slice (some ⟨g, 0, none⟩) len cap)) (hI : CellsAt w g (bs.map .bool)) :
    SeqStopsK F n Try.prog 70 #[.pointer (some ⟨Bs, 0, none⟩)] (fun x : Nat => #[Value.int .i64 (x : Int)]) (Below n₀) (fun ys => ys = pos bs) (fun _ => True) len w :=
  balls_stops_g F n hf hro hn _ Bs n₀ g len cap (fun _ => rfl) bs hlen hm w hBs hb hc hI

/-- .. where the body must know that an index lies in the row -/
theorem balls_stopsF_g (F : Fence) (n : Nat) (hf : F.fn 70) (hro : F.round = none) (hn : 1 ≤ n) (x : Option Addr) (Bs n₀ g len cap : Nat) (hx : 0 < len → x = some ⟨g, 0, none⟩) (bs : List Bool) (hlen : bs.length = len) (hm : len ≤ 1000) (w : World) (hBs : Bs < w.heap.size)
    (hb : 0 < len → g < n₀) (hc : w.cell? ⟨Bs, 0, none⟩ = some (.slice x len cap)) (hI : CellsAt w g (bs.map .bool)) :
    SeqStopsK F n Try.prog 70 #[.pointer (some ⟨Bs, 0, none⟩)] (fun y : { j : Nat // j < len } => #[Value.int .i64 (y.1 : Int)]) (Below n₀) (fun ys => ys.map (·.1) = pos bs) (fun _ => True) len w := fun l J Jx W hW _ _ hY h0 => by
  have hc' := (hW.cell (p := ⟨Bs, 0, none⟩) hBs).trans hc
  refine (balls1_g F n hf hro hn x l Bs n₀ g len cap hx bs hlen hm hb (fun ps W => ∃ q : List { j : Nat // j < len }, q.map (·.1) = ps ∧ J q W) (fun _ W => ∃ q, Jx q W) ?_ W hc' (hI.below' hW (Nat.le_refl _)) ⟨[], rfl, h0⟩).mono ?_
  · rintro pre y W1 hy0 ⟨q, rfl, hq⟩ hl
    obtain ⟨fn, tmps, assign, body, hy, hR⟩ := hY q ⟨y, hy0⟩ W1 hq (by simpa using hl)
    refine ⟨fn, tmps, assign, body, hy, hR.mono ?_⟩
    rintro e W' (⟨he, hj, hk⟩ | ⟨he, hj⟩)
    · exact .inl ⟨he, ⟨_, by simp, hj⟩, hk⟩
    · exact .inr ⟨he, _, hj⟩
  · rintro e W' ⟨he, ⟨ys, hys, q, hq, hj⟩ | ⟨pre, q, hj⟩⟩
    · exact ⟨he, .inl ⟨q, hq.trans hys, hj⟩⟩
    · exact ⟨he, .inr ⟨q, trivial, hj⟩⟩

theorem balls_stopsF (F : Fence) (n : Nat) (hf : F.fn 70) (hro : F.round = none) (hn : 1 ≤ n) (Bs n₀ g len cap : Nat) (bs : List Bool) (hlen : bs.length = len) (hm : len ≤ 1000) (w : World) (hBs : Bs < w.heap.size)
    (hb : 0 < len → g < n₀) (hc : w.cell? ⟨Bs, 0, none⟩ = some (.slice (some ⟨g, 0, none⟩) len cap)) (hI : CellsAt w g (bs.map .bool)) :
    SeqStopsK F n Try.prog 70 #[.pointer (some ⟨Bs, 0, none⟩)] (fun x : { j : Nat // j < len } => #[Value.int .i64 (x.1 : Int)]) (Below n₀) (fun ys => ys.map (·.1) = pos bs) (fun _ => True) len w :=
  balls_stopsF_g F n hf hro hn _ Bs n₀ g len cap (fun _ => rfl) bs hlen hm w hBs hb hc hI

/-- a block of one cell that the call made: laid with its value -/
theorem count_boxes (bs : List Bool) : (pos bs).length = nballs bs := by
  have h : ∀ k, k ≤ bs.length → (posU bs k).length = nballs (bs.take k) := by
    intro k
    induction k with
    | zero => intro _; simp [posU, nballs]
    | succ k ih =>
      intro hk
      have e : bs[k]? = some bs[k] := List.getElem?_eq_getElem (by omega)
      rw [posU_succ, nballs_snoc bs k _ e, e]
      cases hb : bs[k]
      · simpa using ih (by omega)
      · simpa using ih (by omega)
  have := h bs.length (Nat.le_refl _)
  rw [List.take_of_length_le (Nat.le_refl _)] at this
  exact this

set_option maxRecDepth 100000 in
set_option maxHeartbeats 2000000 in
theorem count_in (F : Fence) (n : Nat) (h1' : F.fn 42) (h2 : F.fn 54) (h3 : F.fn 70) (hro : F.round = none) (hn : 3 ≤ n) (g len cap : Nat) (bs : List Bool) (hlen : bs.length = len) (hm : len ≤ 1000) (w : World) (hI : CellsAt w g (bs.map .bool)) :
    CallsIn F n Try.prog 42 #[.slice (some ⟨g, 0, none⟩) len cap] w fun e W' => e = .returned (.int .i64 (nballs bs)) ∧ Below w.heap.size w W' := by
  have h1 : 1 ≤ n := by omega
  have hgl : 0 < len → g < w.heap.size := fun h => hI.lt (by simp; omega)
  have HI := hide hI
  have HLEN := hide hlen
  have HGL := hide hgl
  clear hI hlen hgl
  refine callsIn_of_wp_marks Try.func42 rfl h1' ?_ hro
  simp only [Try.ntmps42, List.size_toArray, List.length_cons, List.length_nil, Nat.reduceAdd, Nat.reduceSub, Array.replicate_succ, Array.replicate_zero, List.push_toArray, List.append_toArray, List.nil_append, List.cons_append]
  gi_wp2_with (gi_at_call 54; refine (balls_in F (n - 1) h2 hro _ _ _ _).mono ?_; rintro e w' ⟨rfl, rfl⟩)
  have bS := Boxed.new w 3 (.int .i64 0)
  have bN := Boxed.new (w.alloc (.cells #[.int .i64 0] 3)) 47 (.slice (some ⟨g, 0, none⟩) len cap)
  rw [World.size_alloc] at bN
  have hB0 : Below w.heap.size w ((w.alloc (.cells #[.int .i64 0] 3)).alloc (.cells #[.slice (some ⟨g, 0, none⟩) len cap] 47)) := ((Below.refl _ w).alloc (Nat.le_refl _) _).alloc (by simp) _
  refine wpIn_rangeFunc_ownG hro h1 (gf := 70) (lb := #[.pointer (some ⟨w.heap.size + 1, 0, none⟩)]) rfl h3 (enters_of Try.func70 (by kernel_rfl) rfl)
    (balls_stops F (n - 1) h3 hro (by omega) (w.heap.size + 1) w.heap.size g len cap bs HLEN.out hm _ (by simp) HGL.out bN.cell (HI.out.below' hB0 (Nat.le_refl _))) belowK_t (belowK_b (by simp; omega)) (Below.refl _ _) (fun _ => rfl)
    (fun pre W => (W.cell? ⟨w.heap.size, 0, none⟩ = some (.int .i64 (pre.length : Int)) ∧ W.frozen? ⟨w.heap.size, 0, none⟩ = false) ∧ Below w.heap.size w W)
    (fun _ _ _ => False)
    (OwnFrom.and (Own.from (fun s A B row hs hg hr => ⟨cell_kept hs.1 hg hr, (frozen_kept hs.1 hg hr).trans hs.2⟩) _) (ownFrom_below (Nat.le_refl _) (by simp; omega)))
    (fun _ _ _ _ _ hs _ _ => hs)
    ⟨⟨(bS.alloc _).cell, (bS.alloc _).frozen⟩, hB0⟩
    (fun x => { tmps := #[.slice (some ⟨g, 0, none⟩) len cap, undef, .int .i64 0, .pointer (some ⟨w.heap.size, 0, none⟩), .slice (some ⟨g, 0, none⟩) len cap, .func (.func 70) #[] #[.pointer (some ⟨w.heap.size + 1, 0, none⟩)], .int .i64 (x : Int), undef, undef, undef], defers := [] }) ?assign ?body ?done ?stop
  case assign =>
    intro l x W K hK
    gi_wp2
    simpa using hK
  case body =>
    rintro l pre x W ⟨⟨hc, hf⟩, hB⟩ hlt
    have hp : (pre.length : Int) ≤ 1000 := by omega
    gi_wp2
    exact ⟨(KeepsOthers.setCell _ _ _).from _, (Below.refl w.heap.size W).setCell (p := ⟨w.heap.size, 0, none⟩) (Nat.le_refl _) _, ⟨by rw [List.length_append]; exact World.cell?_setCell_same' _ _ _ (by rw [hc]; rfl), by rw [World.frozen?_setCell]; exact hf⟩, hB.setCell (p := ⟨w.heap.size, 0, none⟩) (Nat.le_refl _) _⟩
  case done =>
    rintro D ys W hD rfl ⟨⟨hc, _⟩, hB⟩ hK
    rw [count_boxes] at hc
    gi_wp2
    refine ⟨by simp, .inl ⟨_, _, rfl, run_takeDeferred hK, ?_⟩⟩
    exact ⟨_, results_tmp rfl _ _ _, rfl, hB.trans (belowK_b (w := w) (Nat.le_refl _) W D _ _ (by simp at hD; omega) hK rfl rfl)⟩
  case stop =>
    rintro D c pre W _ _ h _
    exact h.elim

theorem count_any (g len cap : Nat) (bs : List Bool) (hlen : bs.length = len) (hm : len ≤ 1000) (w : World) (hI : CellsAt w g (bs.map .bool)) :
    Calls Try.prog 42 #[.slice (some ⟨g, 0, none⟩) len cap] w fun e W' => e = .returned (.int .i64 (nballs bs)) ∧ Below w.heap.size w W' :=
  callsIn_wide.1 (count_in Fence.wide 3 trivial trivial trivial rfl (Nat.le_refl _) g len cap bs hlen hm w hI)
end Go.Proofs.Ytkdhifofdghbbaa

/- THE WALKS of RowBalls, of the program, and of its exact law. -/
namespace Go.Proofs.Ytkdhifofdghbbaa
open Go.RowKit

theorem CellsAt.take {w : World} {g : Nat} {l : List Value} (h : CellsAt w g l) (k : Nat) : CellsAt w g (l.take k) := by
  intro j v hv
  rw [List.getElem?_take] at hv
  split at hv
  · exact h j v hv
  · cases hv
/-- a row up to its last ball -/
def cut (l : List Bool) : List Bool := l.take (tl l)
theorem cut_length (l : List Bool) : (cut l).length = tl l := by unfold cut; rw [List.length_take]; exact Nat.min_eq_left (tl_le l)
theorem cut_map (l : List Bool) : (cut l).map Value.bool = (l.map Value.bool).take (tl l) := by unfold cut; rw [List.map_take]
theorem cut_eq (l : List Bool) : ∃ n, l = cut l ++ List.replicate n false := by
  have h : ∀ m : List Bool, ∃ n, m.reverse = cut m.reverse ++ List.replicate n false := by
    intro m
    induction m with
    | nil => exact ⟨0, rfl⟩
    | cons b m ih =>
      obtain ⟨n, hn⟩ := ih
      rw [List.reverse_cons]
      cases b
      · refine ⟨n + 1, ?_⟩
        have e : cut (m.reverse ++ [false]) = cut m.reverse := by
          unfold cut
          rw [tl_snoc]
          exact List.take_append_of_le_length (tl_le _)
        rw [e, List.replicate_succ', ← List.append_assoc, ← hn]
      · refine ⟨0, ?_⟩
        unfold cut
        rw [tl_snoc, List.take_of_length_le (by simp)]
        simp
  have := h l.reverse
  rwa [List.reverse_reverse] at this
theorem nballs_cut (l : List Bool) : nballs (cut l) = nballs l := by
  obtain ⟨n, hn⟩ := cut_eq l
  have h2 : nballs l = nballs (cut l ++ List.replicate n false) := congrArg nballs hn
  rw [h2]
  unfold nballs
  rw [List.count_append, List.count_replicate]; simp

set_option maxHeartbeats 400000 in
theorem implRowBalls_any (s : ByteArray) (w : World) (hs : s.size ≤ maxLen) :
    Calls Try.prog 14 #[.string s] w fun e w' => e = .returned (.int .i64 (if vld s then (nballs (bits s) : Int) else -1)) ∧ Below w.heap.size w w' := by
  cases hv : vld s
  · go_enter Try.func14, Try.ntmps14
    go_wp2_with (go_at_call 41; refine (readRow_no _ _ hs hv).mono ?_; rintro e w' ⟨rfl, rfl⟩)
    go_ret
    exact ⟨rfl, Below.refl _ _⟩
  · have h120 := vld_le s hv
    have hle := tl_le (bits s)
    rw [length_bits] at hle
    have C1 := hide (fun w => readRow_yes s w hv)
    have HC := hide (cut_length (bits s))
    have HM := hide (cut_map (bits s))
    have HN := hide (nballs_cut (bits s))
    obtain ⟨t, ht⟩ : ∃ t, t = tl (bits s) := ⟨_, rfl⟩
    rw [← ht] at hle C1 HC HM
    clear ht
    go_enter Try.func14, Try.ntmps14
    go_wp2_with fail
    refine (C1.out _).mono ?_
    rintro e w1 ⟨rfl, hb1, hc1, hz1⟩
    go_wp2_with fail
    refine (count_any _ t s.size (cut (bits s)) HC.out (by omega) w1 (by rw [HM.out]; exact hc1.take t)).mono ?_
    rintro e w2 ⟨rfl, hb2⟩
    rw [HN.out]
    go_wp2_with fail
    go_ret
    exact ⟨rfl, hb1.trans (hb2.mono hb1.size)⟩

end Go.Proofs.Ytkdhifofdghbbaa

/- WHAT MOVES OF COLOURS SAY OF ROWS. Pure: nothing of the program is named here. -/
namespace Go.Proofs.Ytkdhifofdghbbaa
open Go.RowKit

/-- the boxes with balls of whatever colour -/
def nz (l : List UInt8) : List Bool := l.map (fun x => !(x == 48))
/-- a row up to its last ball -/
def cz (l : List UInt8) : List UInt8 := l.take (tl (nz l))
theorem nz_length (l : List UInt8) : (nz l).length = l.length := by simp [nz]
theorem cz_length (l : List UInt8) : (cz l).length = tl (nz l) := by
  unfold cz
  rw [List.length_take]
  have := tl_le (nz l)
  rw [nz_length] at this
  exact Nat.min_eq_left this
theorem cz_eq (l : List UInt8) : ∃ n, l = cz l ++ List.replicate n 48 := by
  have h : ∀ m : List UInt8, ∃ n, m.reverse = cz m.reverse ++ List.replicate n 48 := by
    intro m
    induction m with
    | nil => exact ⟨0, rfl⟩
    | cons b m ih =>
      obtain ⟨n, hn⟩ := ih
      rw [List.reverse_cons]
      by_cases hb : b = 48
      · subst hb
        refine ⟨n + 1, ?_⟩
        have e : cz (m.reverse ++ [48]) = cz m.reverse := by
          unfold cz
          have e1 : nz (m.reverse ++ [48]) = nz m.reverse ++ [false] := by simp [nz]
          rw [e1, tl_snoc]
          have := tl_le (nz m.reverse)
          rw [nz_length] at this
          exact List.take_append_of_le_length (by simpa using this)
        rw [e, List.replicate_succ', ← List.append_assoc, ← hn]
      · refine ⟨0, ?_⟩
        have e1 : nz (m.reverse ++ [b]) = nz m.reverse ++ [true] := by simp [nz, hb]
        unfold cz
        rw [e1, tl_snoc, nz_length, if_pos rfl, List.take_of_length_le (by simp)]
        simp
  have := h l.reverse
  rwa [List.reverse_reverse] at this
theorem cz_pad (l : List UInt8) (n : Nat) : cz (l ++ List.replicate n 48) = cz l := by
  induction n with
  | zero => simp
  | succ n ih =>
    rw [List.replicate_succ', ← List.append_assoc]
    have e1 : nz (l ++ List.replicate n 48 ++ [48]) = nz (l ++ List.replicate n 48) ++ [false] := by simp [nz]
    have h : tl (nz (l ++ List.replicate n 48)) ≤ (l ++ List.replicate n 48).length := by
      have := tl_le (nz (l ++ List.replicate n 48)); rwa [nz_length] at this
    rw [← ih]
    unfold cz
    rw [e1, tl_snoc]
    simp only [Bool.false_eq_true, if_false]
    exact List.take_append_of_le_length h
theorem cz_cz (l : List UInt8) : cz (cz l) = cz l := by
  obtain ⟨n, hn⟩ := cz_eq l
  have h := cz_pad (cz l) n
  rw [← hn] at h
  exact h.symm
/-- empty boxes with no load stay as they are -/
theorem cMv_rep {c : UInt8} (hc : c ≠ 48) : ∀ n : Nat, cMv c (List.replicate n 48) 0 = List.replicate n 48 ∧ cLd c (List.replicate n 48) 0 = 0
  | 0 => ⟨rfl, rfl⟩
  | n + 1 => by
    obtain ⟨h1, h2⟩ := cMv_rep hc n
    have e : cg c 48 0 = (48, 0) := by unfold cg; rw [if_neg (fun h => hc h.symm)]; simp
    rw [List.replicate_succ]
    show (cg c 48 0).1 :: cMv c (List.replicate n 48) (cg c 48 0).2 = _ ∧ cLd c (List.replicate n 48) (cg c 48 0).2 = 0
    rw [e]
    exact ⟨by rw [h1], h2⟩
theorem zs_rep (n : Nat) : zs (List.replicate n 48) = n := by unfold zs; simp
theorem zs_append (l m : List UInt8) : zs (l ++ m) = zs l + zs m := by unfold zs; exact List.count_append
theorem cg_48 {c : UInt8} (hc : c ≠ 48) (u : Nat) : (cg c 48 u).2 = u - 1 := by
  unfold cg
  rw [if_neg (fun h => hc h.symm)]
  by_cases h : (48 : UInt8) = 48 ∧ 0 < u
  · rw [if_pos h]
  · rw [if_neg h]
    have : ¬ 0 < u := fun h2 => h ⟨rfl, h2⟩
    show u = u - 1
    omega
/-- enough empty boxes behind: no ball is left over -/
theorem cLd_pad {c : UInt8} (hc : c ≠ 48) : ∀ (n u : Nat), cLd c (List.replicate n 48) u = u - n
  | 0, _ => rfl
  | n + 1, u => by
    rw [List.replicate_succ]
    show cLd c (List.replicate n 48) (cg c 48 u).2 = _
    rw [cLd_pad hc n, cg_48 hc]
    omega
/-- a move of a colour, with empty boxes behind -/
def padN (l : List UInt8) : List UInt8 := l ++ List.replicate (l.length + 1) 48
def mv1 (c : UInt8) (l : List UInt8) : List UInt8 := cz (cMv c (padN l) 0)
theorem pad_load {c : UInt8} (hc : c ≠ 48) (l : List UInt8) : cLd c (padN l) 0 = 0 := by
  unfold padN
  rw [cLd_append, cLd_pad hc]
  have := cLd_le c l 0
  omega
/-- a move back; it fails where a ball is left over -/
def bk1 (c : UInt8) (l : List UInt8) : List UInt8 := cz (cMv c l.reverse 0).reverse
def cbOk (c : UInt8) (l : List UInt8) : Bool := decide (cLd c l.reverse 0 = 0)
theorem mv_back {c : UInt8} (hc : c ≠ 48) (l : List UInt8) : cbOk c (mv1 c l) = true ∧ bk1 c (mv1 c l) = cz l := by
  obtain ⟨n, hn⟩ := cz_eq (cMv c (padN l) 0)
  obtain ⟨h1, h2⟩ := cBack hc (padN l) 0
  rw [pad_load hc, hn, List.reverse_append, List.reverse_replicate] at h1 h2
  rw [cMv_append, (cMv_rep hc n).1, (cMv_rep hc n).2] at h1
  rw [cLd_append, (cMv_rep hc n).2] at h2
  refine ⟨by unfold cbOk mv1; simpa using h2, ?_⟩
  unfold bk1 mv1
  have e : padN l = (cMv c (cz (cMv c (padN l) 0)).reverse 0).reverse ++ List.replicate n 48 := by
    have := congrArg List.reverse h1
    rw [List.reverse_reverse, List.reverse_append, List.reverse_replicate] at this
    exact this.symm
  have e2 := cz_pad ((cMv c (cz (cMv c (padN l) 0)).reverse 0).reverse) n
  rw [← e] at e2
  rw [← e2]
  exact cz_pad l _
theorem back_mv {c : UInt8} (hc : c ≠ 48) (l : List UInt8) (h : cbOk c l = true) : mv1 c (bk1 c l) = cz l := by
  have h0 : cLd c l.reverse 0 = 0 := by unfold cbOk at h; simpa using h
  obtain ⟨h1, h2⟩ := cBack hc l.reverse 0
  rw [h0] at h1 h2
  rw [List.reverse_reverse] at h1
  obtain ⟨n, hn⟩ := cz_eq (cMv c l.reverse 0).reverse
  -- l is the move of a row with n empty boxes more
  have e1 : cMv c (bk1 c l ++ List.replicate n 48) 0 = l := by unfold bk1; rw [← hn]; exact h1
  have e2 : cLd c (bk1 c l ++ List.replicate n 48) 0 = 0 := by unfold bk1; rw [← hn]; exact h2
  unfold mv1
  by_cases hle : n ≤ (bk1 c l).length + 1
  · have e3 : padN (bk1 c l) = (bk1 c l ++ List.replicate n 48) ++ List.replicate ((bk1 c l).length + 1 - n) 48 := by
      unfold padN
      rw [List.append_assoc, List.replicate_append_replicate]
      congr 2
      omega
    rw [e3, cMv_append, e1, e2, (cMv_rep hc _).1]
    exact cz_pad l _
  · have e3 : bk1 c l ++ List.replicate n 48 = padN (bk1 c l) ++ List.replicate (n - ((bk1 c l).length + 1)) 48 := by
      unfold padN
      rw [List.append_assoc, List.replicate_append_replicate]
      congr 2
      omega
    rw [e3, cMv_append, pad_load hc, (cMv_rep hc _).1] at e1
    have h3 := cz_pad (cMv c (padN (bk1 c l)) 0) (n - ((bk1 c l).length + 1))
    rw [e1] at h3
    exact h3.symm
/-- counts -/
theorem cg_count {c : UInt8} (d x : UInt8) (u : Nat) (hd : d ≠ 48) : (if (cg c x u).1 = d then 1 else 0) + (if d = c then (cg c x u).2 else 0) = (if x = d then 1 else 0) + (if d = c then u else 0) := by
  have h0 : ¬ (48 : UInt8) = d := fun h => hd h.symm
  by_cases h1 : x = c
  · have e : cg c x u = (48, u + 1) := by unfold cg; rw [if_pos h1]
    rw [e, if_neg h0]
    by_cases h2 : d = c
    · rw [if_pos h2, if_pos (h1.trans h2.symm), if_pos h2]; show 0 + (u + 1) = 1 + u; omega
    · rw [if_neg h2, if_neg (fun h => h2 (h.symm.trans h1)), if_neg h2]
  · by_cases h2 : x = 48 ∧ 0 < u
    · have e : cg c x u = (c, u - 1) := by unfold cg; rw [if_neg h1, if_pos h2]
      have h3 : ¬ x = d := fun h => hd (h.symm.trans h2.1)
      rw [e, if_neg h3]
      by_cases h4 : d = c
      · rw [if_pos h4.symm, if_pos h4, if_pos h4]; show 1 + (u - 1) = 0 + u; omega
      · rw [if_neg (fun h => h4 h.symm), if_neg h4, if_neg h4]
    · have e : cg c x u = (x, u) := by unfold cg; rw [if_neg h1, if_neg h2]
      rw [e]
theorem cMv_count {c : UInt8} {d : UInt8} (hd : d ≠ 48) : ∀ (l : List UInt8) (u : Nat), (cMv c l u).count d + (if d = c then cLd c l u else 0) = l.count d + (if d = c then u else 0)
  | [], u => by simp [cMv, cLd]
  | x :: l, u => by
    have ih := cMv_count (c := c) hd l (cg c x u).2
    have hg := cg_count (c := c) d x u hd
    show ((cg c x u).1 :: cMv c l _).count d + (if d = c then cLd c l _ else 0) = _
    rw [List.count_cons, List.count_cons]
    simp only [beq_iff_eq]
    omega
theorem cz_count {d : UInt8} (hd : d ≠ 48) (l : List UInt8) : (cz l).count d = l.count d := by
  obtain ⟨n, hn⟩ := cz_eq l
  conv => rhs; rw [hn, List.count_append, List.count_replicate]
  have : ¬ (48 : UInt8) = d := fun h => hd h.symm
  simp [this]
theorem mv_count {c : UInt8} (hc : c ≠ 48) {d : UInt8} (hd : d ≠ 48) (l : List UInt8) : (mv1 c l).count d = l.count d := by
  unfold mv1
  rw [cz_count hd]
  have h := cMv_count (c := c) hd (padN l) 0
  rw [pad_load hc] at h
  have e : (padN l).count d = l.count d := by
    unfold padN
    have : ¬ (48 : UInt8) = d := fun h => hd h.symm
    rw [List.count_append, List.count_replicate]
    simp [this]
  simp only [ite_self, Nat.add_zero] at h
  omega
/-- balls of other colours stay in their boxes -/
theorem cMv_other {c : UInt8} {x : UInt8} (hx : x ≠ 48) (hxc : x ≠ c) : ∀ (l : List UInt8) (u j : Nat), l[j]? = some x → (cMv c l u)[j]? = some x
  | [], _, _, h => by simp at h
  | y :: l, u, 0, h => by
    have e : y = x := by simpa using h
    subst e
    show ((cg c y u).1 :: _)[0]? = _
    unfold cg
    simp [hxc, hx]
  | y :: l, u, j + 1, h => by
    show ((cg c y u).1 :: cMv c l _)[j + 1]? = _
    simpa using cMv_other hx hxc l _ j (by simpa using h)
theorem cz_get {l : List UInt8} {j : Nat} {x : UInt8} (hx : x ≠ 48) (h : l[j]? = some x) : (cz l)[j]? = some x := by
  obtain ⟨n, hn⟩ := cz_eq l
  rw [hn] at h
  by_cases hj : j < (cz l).length
  · rw [List.getElem?_append_left hj] at h; exact h
  · rw [List.getElem?_append_right (by omega), List.getElem?_replicate] at h
    split at h
    · injection h with h; exact absurd h.symm hx
    · cases h
theorem mv_other {c x : UInt8} (hx : x ≠ 48) (hxc : x ≠ c) {l : List UInt8} {j : Nat} (h : l[j]? = some x) : (mv1 c l)[j]? = some x := by
  refine cz_get hx (cMv_other hx hxc _ _ _ ?_)
  unfold padN
  rw [List.getElem?_append_left (List.getElem?_eq_some_iff.1 h).1]
  exact h
end Go.Proofs.Ytkdhifofdghbbaa
