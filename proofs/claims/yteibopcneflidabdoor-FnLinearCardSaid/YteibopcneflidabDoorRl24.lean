/- TEXTS Balls, RowBalls, RigOfP. -/
import Derived.Test.YteibopcneflidabDoorRl08
import Derived.Test.YteibopcneflidabDoorRl02
import Derived.RangeFuncNested
import Derived.RangeFuncBound
import Derived.RangeFuncCalls
import Derived.RangeFuncLeaves
import Derived.RangeFuncBox
import Derived.Shelf.Abstract
import Derived.Shelf.RegionOpen
import Derived.WalkKit
import Derived.OwnWalkIn
import Derived.TacticsInMore
import Derived.LoopNIn
import Derived.LoopIn
import Derived.Test.YteibopcneflidabDoorRl23
import Derived.Test.YteibopcneflidabDoorRl18
import Derived.Test.YteibopcneflidabDoorRl09
/- THE ITERATOR over the balls of a row, and 'count', which ranges over it. -/
namespace Go.Proofs.YteibopcneflidabDoor
open Go.RowKit Go.Shelf

attribute [local go_sem] Oper.semAt_some

/-- the indexes of the balls among the first k boxes -/
def posU (bs : List Bool) (k : Nat) : List Nat := (List.range k).filter (fun j => bs[j]?.getD false)
def pos (bs : List Bool) : List Nat := posU bs bs.length
theorem posU_succ (bs : List Bool) (k : Nat) : posU bs (k + 1) = if bs[k]?.getD false then posU bs k ++ [k] else posU bs k := by
  unfold posU; rw [List.range_succ, List.filter_append]; cases h : bs[k]?.getD false <;> simp [h]
theorem posU_le (bs : List Bool) (k : Nat) : (posU bs k).length ≤ k := by
  unfold posU; exact Nat.le_trans (List.length_filter_le _ _) (by simp)

set_option maxHeartbeats 400000 in
theorem balls_in (F : Fence) (n : Nat) (hf : F.fn 36) (hro : F.round = none) (a : Option Addr) (len cap : Nat) (w : World) :
    CallsIn F n Tryd.prog 36 #[.slice a len cap] w fun e w' => e = .returned (.func (.func 57) #[] #[.pointer (some ⟨w.heap.size, 0, none⟩)]) ∧ w' = w.alloc (.cells #[.slice a len cap] 49) := by
  refine callsIn_of_wp Tryd.func36 rfl hf ?_ hro
  simp only [Tryd.ntmps36, List.size_toArray, List.length_cons, List.length_nil, Nat.reduceAdd, Nat.reduceSub, Array.replicate_succ, Array.replicate_zero, List.push_toArray, List.append_toArray, List.nil_append, List.cons_append]
  gi_wp2
  go_ret
  exact ⟨rfl, rfl⟩

set_option maxRecDepth 100000 in
set_option maxHeartbeats 2000000 in
theorem balls1_g (F : Fence) (n : Nat) (hf : F.fn 57) (hro : F.round = none) (hn : 1 ≤ n) (x : Option Addr) (l Bs n₀ g len cap : Nat) (hx : 0 < len → x = some ⟨g, 0, none⟩) (bs : List Bool) (hlen : bs.length = len) (hm : len ≤ 1000) (hb : 0 < len → g < n₀) (J Jx : List Nat → World → Prop)
    (hY : ∀ pre (y : Nat) W, y < len → J pre W → pre.length < len → YieldAt F (n - 1) Tryd.prog l #[.int .i64 (y : Int)] W fun e W' =>
      (e = .returned (.bool true) ∧ J (pre ++ [y]) W' ∧ Below n₀ W W') ∨ (e = .returned (.bool false) ∧ Jx (pre ++ [y]) W'))
    (W : World) (hBs : W.cell? ⟨Bs, 0, none⟩ = some (.slice x len cap)) (hc : CellsAt W g (bs.map .bool)) (h0 : J [] W) :
    CallsIn F n Tryd.prog 57 #[.func (.yield l) #[] #[], .pointer (some ⟨Bs, 0, none⟩)] W fun e W' => (∃ v, e = .returned v) ∧
      ((∃ ys, ys = pos bs ∧ J ys W') ∨ (∃ pre, Jx pre W')) := by
  have HL := hide hlen
  have HC := hide hc
  clear hlen hc
  refine callsIn_of_wp Tryd.func57 rfl hf ?_ hro
  simp only [Tryd.ntmps57, List.size_toArray, List.length_cons, List.length_nil, Nat.reduceAdd, Nat.reduceSub, Array.replicate_succ, Array.replicate_zero, List.push_toArray, List.append_toArray, List.nil_append, List.cons_append]
  gi_wp2
  gi_loopw [7] (fun i wr => ∃ k : Nat, k ≤ len ∧ i = .int .i64 k ∧ J (posU bs k) wr ∧ Hid (Below n₀ W wr))
    (fun i _ => len - (intOf i).toNat)
  case atStart => exact ⟨0, Nat.zero_le _, rfl, h0, Below.refl _ _⟩
  case round =>
    obtain ⟨k, hk, rfl, hJs, HN⟩ := hrel
    by_cases hlt : k < len
    · obtain rfl := hx (by omega)
      obtain ⟨b, hbk⟩ : ∃ b, bs[k]? = some b := ⟨_, List.getElem?_eq_getElem (by rw [HL.out]; exact hlt)⟩
      have hcx : wr.cell? ⟨g, k, none⟩ = some (.bool b) := ((HC.out.below HN.out (hb (by omega))) k (.bool b) (by simp [hbk])).1
      have HS := hide (posU_succ bs k)
      rw [hbk] at HS
      clear hbk
      cases b
      · gi_wp2
        refine ⟨fun _ h => (by cases h), ?_⟩
        gi_wp2
        go_roundw
        case rel => exact ⟨k + 1, by omega, by simp, by rw [HS.out]; exact hJs, HN⟩
        case measure => simp [intOf]; omega
      · obtain ⟨fn, tmps, assign, body, hy, hR⟩ := hY _ k wr hlt hJs (by have := posU_le bs k; omega)
        gi_wp2
        refine hR.mono ?_
        rintro e W3 (⟨rfl, hJ3, hk3⟩ | ⟨rfl, hJx3⟩)
        · gi_wp2
          go_roundw
          case rel => exact ⟨k + 1, by omega, by simp, by rw [HS.out]; exact hJ3, HN.out.trans hk3⟩
          case measure => simp [intOf]; omega
        · gi_wp2
          refine bodyPost_ret (results_none rfl _ _ _) rfl ?_
          exact ⟨⟨_, rfl⟩, .inr ⟨_, hJx3⟩⟩
    · obtain rfl : k = len := by omega
      gi_wp2
      go_end0
      exact ⟨⟨_, rfl⟩, .inl ⟨_, by unfold pos; rw [HL.out], hJs⟩⟩

theorem balls_stops_g (F : Fence) (n : Nat) (hf : F.fn 57) (hro : F.round = none) (hn : 1 ≤ n) (x : Option Addr) (Bs n₀ g len cap : Nat) (hx : 0 < len → x = some ⟨g, 0, none⟩) (bs : List Bool) (hlen : bs.length = len) (hm : len ≤ 1000) (w : World) (hBs : Bs < w.heap.size)
    (hb : 0 < len → g < n₀) (hc : w.cell? ⟨Bs, 0, none⟩ = some (.slice x len cap)) (hI : CellsAt w g (bs.map .bool)) :
    SeqStopsK F n Tryd.prog 57 #[.pointer (some ⟨Bs, 0, none⟩)] (fun y : Nat => #[Value.int .i64 (y : Int)]) (Below n₀) (fun ys => ys = pos bs) (fun _ => True) len w := fun l J Jx W hW _ _ hY h0 => by
  have hc' := (hW.cell (p := ⟨Bs, 0, none⟩) hBs).trans hc
  refine (balls1_g F n hf hro hn x l Bs n₀ g len cap hx bs hlen hm hb J Jx (fun pre y W _ => hY pre y W) W hc' (hI.below' hW (Nat.le_refl _)) h0).mono ?_
  rintro e W' ⟨he, ⟨ys, rfl, hj⟩ | ⟨pre, hj⟩⟩
  · exact ⟨he, .inl ⟨_, rfl, hj⟩⟩
  · exact ⟨he, .inr ⟨_, trivial, hj⟩⟩

theorem balls_stops (F : Fence) (n : Nat) (hf : F.fn 57) (hro : F.round = none) (hn : 1 ≤ n) (Bs n₀ g len cap : Nat) (bs : List Bool) (hlen : bs.length = len) (hm : len ≤ 1000) (w : World) (hBs : Bs < w.heap.size)
    (hb : 0 < len → g < n₀) (hc : w.cell? ⟨Bs, 0, none⟩ = some (.slice (some ⟨g, 0, none⟩) len cap)) (hI : CellsAt w g (bs.map .bool)) :
    SeqStopsK F n Tryd.prog 57 #[.pointer (some ⟨Bs, 0, none⟩)] (fun x : Nat => #[Value.int .i64 (x : Int)]) (Below n₀) (fun ys => ys = pos bs) (fun _ => True) len w :=
  balls_stops_g F n hf hro hn _ Bs n₀ g len cap (fun _ => rfl) bs hlen hm w hBs hb hc hI

/-- .. where the body must know that an index lies in the row -/
theorem balls_stopsF_g (F : Fence) (n : Nat) (hf : F.fn 57) (hro : F.round = none) (hn : 1 ≤ n) (x : Option Addr) (Bs n₀ g len cap : Nat) (hx : 0 < len → x = some ⟨g, 0, none⟩) (bs : List Bool) (hlen : bs.length = len) (hm : len ≤ 1000) (w : World) (hBs : Bs < w.heap.size)
    (hb : 0 < len → g < n₀) (hc : w.cell? ⟨Bs, 0, none⟩ = some (.slice x len cap)) (hI : CellsAt w g (bs.map .bool)) :
    SeqStopsK F n Tryd.prog 57 #[.pointer (some ⟨Bs, 0, none⟩)] (fun y : { j : Nat // j < len } => #[Value.int .i64 (y.1 : Int)]) (Below n₀) (fun ys => ys.map (·.1) = pos bs) (fun _ => True) len w := fun l J Jx W hW _ _ hY h0 => by
  have hc' := (hW.cell (p := ⟨Bs, 0, none⟩) hBs).trans hc
  refine (balls1_g F n hf hro hn x l Bs n₀ g len cap hx bs hlen hm hb (fun ps W => ∃ q : List { j : Nat // j < len }, q.map (·.1) = ps ∧ J q W) (fun _ W => ∃ q, Jx q W) ?_ W hc' (hI.below' hW (Nat.le_refl _)) ⟨[], rfl, h0⟩).mono ?_
  · rintro pre y W1 hy0 ⟨q, rfl, hq⟩ hl
    obtain ⟨fn, tmps, assign, body, hy, hR⟩ := hY q ⟨y, hy0⟩ W1 hq (by simpa using hl)
    refine ⟨fn, tmps, assign, body, hy, hR.mono ?_⟩
    rintro e W' (⟨he, hj, hk⟩ | ⟨he, hj⟩)
    · exact .inl ⟨he, ⟨_, by simp, hj⟩, hk⟩
    · exact .inr ⟨he, _, hj⟩
  · rintro e W' ⟨he, ⟨ys, hys, q, hq, hj⟩ | ⟨pre, q, hj⟩⟩
    · exact ⟨he, .inl ⟨q, hq.trans hys, hj⟩⟩
    · exact ⟨he, .inr ⟨q, trivial, hj⟩⟩

theorem balls_stopsF (F : Fence) (n : Nat) (hf : F.fn 57) (hro : F.round = none) (hn : 1 ≤ n) (Bs n₀ g len cap : Nat) (bs : List Bool) (hlen : bs.length = len) (hm : len ≤ 1000) (w : World) (hBs : Bs < w.heap.size)
    (hb : 0 < len → g < n₀) (hc : w.cell? ⟨Bs, 0, none⟩ = some (.slice (some ⟨g, 0, none⟩) len cap)) (hI : CellsAt w g (bs.map .bool)) :
    SeqStopsK F n Tryd.prog 57 #[.pointer (some ⟨Bs, 0, none⟩)] (fun x : { j : Nat // j < len } => #[Value.int .i64 (x.1 : Int)]) (Below n₀) (fun ys => ys.map (·.1) = pos bs) (fun _ => True) len w :=
  balls_stopsF_g F n hf hro hn _ Bs n₀ g len cap (fun _ => rfl) bs hlen hm w hBs hb hc hI

/-- a block of one cell that the call made: laid with its value -/
theorem count_boxes (bs : List Bool) : (pos bs).length = nballs bs := by
  have h : ∀ k, k ≤ bs.length → (posU bs k).length = nballs (bs.take k) := by
    intro k
    induction k with
    | zero => intro _; simp [posU, nballs]
    | succ k ih =>
      intro hk
      have e : bs[k]? = some bs[k] := List.getElem?_eq_getElem (by omega)
      rw [posU_succ, nballs_snoc bs k _ e, e]
      cases hb : bs[k]
      · simpa using ih (by omega)
      · simpa using ih (by omega)
  have := h bs.length (Nat.le_refl _)
  rw [List.take_of_length_le (Nat.le_refl _)] at this
  exact this

end Go.Proofs.YteibopcneflidabDoor

/- THE WALKS of RowBalls, of the program, and of its exact law. -/
namespace Go.Proofs.YteibopcneflidabDoor
open Go.RowKit

theorem CellsAt.take {w : World} {g : Nat} {l : List Value} (h : CellsAt w g l) (k : Nat) : CellsAt w g (l.take k) := by
  intro j v hv
  rw [List.getElem?_take] at hv
  split at hv
  · exact h j v hv
  · cases hv
/-- a row up to its last ball -/
def cut (l : List Bool) : List Bool := l.take (tl l)
theorem cut_length (l : List Bool) : (cut l).length = tl l := by unfold cut; rw [List.length_take]; exact Nat.min_eq_left (tl_le l)
theorem cut_map (l : List Bool) : (cut l).map Value.bool = (l.map Value.bool).take (tl l) := by unfold cut; rw [List.map_take]
theorem cut_eq (l : List Bool) : ∃ n, l = cut l ++ List.replicate n false := by
  have h : ∀ m : List Bool, ∃ n, m.reverse = cut m.reverse ++ List.replicate n false := by
    intro m
    induction m with
    | nil => exact ⟨0, rfl⟩
    | cons b m ih =>
      obtain ⟨n, hn⟩ := ih
      rw [List.reverse_cons]
      cases b
      · refine ⟨n + 1, ?_⟩
        have e : cut (m.reverse ++ [false]) = cut m.reverse := by
          unfold cut
          rw [tl_snoc]
          exact List.take_append_of_le_length (tl_le _)
        rw [e, List.replicate_succ', ← List.append_assoc, ← hn]
      · refine ⟨0, ?_⟩
        unfold cut
        rw [tl_snoc, List.take_of_length_le (by simp)]
        simp
  have := h l.reverse
  rwa [List.reverse_reverse] at this
theorem nballs_cut (l : List Bool) : nballs (cut l) = nballs l := by
  obtain ⟨n, hn⟩ := cut_eq l
  have h2 : nballs l = nballs (cut l ++ List.replicate n false) := congrArg nballs hn
  rw [h2]
  unfold nballs
  rw [List.count_append, List.count_replicate]; simp

end Go.Proofs.YteibopcneflidabDoor

/- THE WALKS of partsOfRow and of the program's RigOf. -/
namespace Go.Proofs.YteibopcneflidabDoor
open Go.RowKit Go.Sort Go.Shelf

/-- what partsOfRow hands back -/
def PartsPost (w : World) (s : ByteArray) (ok : Bool) (e : Ending) (w' : World) : Prop :=
  if ok then ∃ u, e = .returned (.tuple #[u, .nilIface]) ∧ PartsV w.heap.size w' u (kRc (rvB s)) else ∃ t, e = .returned (.tuple #[.slice none 0 0, .iface 61 (.string t)])

set_option maxRecDepth 100000 in
set_option maxHeartbeats 4000000 in
theorem partsOfRow_any (s : ByteArray) (w : World) (hs : s.size ≤ maxLen) :
    Calls Tryd.prog 12 #[.string s] w fun e w' => PartsPost w s (highB s) e w' ∧ Below w.heap.size w w' := by
  have CH := hide (fun w => implRowHigh_any s w hs)
  cases hv : vld s
  · have hh : highB s = false := by
      cases h : highB s
      · rfl
      · have := ((levOk_iff s).1 ((highB_iff s).1 h).1).1
        rw [hv] at this; cases this
    rw [hh]
    have C := hide (fun w => readRow_no s w hs hv)
    clear hh hv
    go_enter Tryd.func12, Tryd.ntmps12
    go_wp2_with fail
    refine (C.out w).mono ?_
    rintro e w1 ⟨rfl, rfl⟩
    go_wp2_with fail
    go_ret2
    exact ⟨⟨_, rfl⟩, Below.refl _ _⟩
  · have C := hide (readRow_yes s w hv)
    cases hh : highB s
    · rw [hh] at CH
      clear hh hv
      go_enter Tryd.func12, Tryd.ntmps12
      go_wp2_with fail
      refine C.out.mono ?_
      rintro e w1 ⟨rfl, hb1, hc1, hz1⟩
      have HB1 := hide hb1
      clear hb1 hc1
      go_wp2_with fail
      refine (CH.out w1).mono ?_
      rintro e w2 ⟨rfl, hb2⟩
      have HB2 := hide (HB1.out.trans (hb2.mono HB1.out.size))
      clear hb2
      go_wp2_with fail
      go_ret2
      exact ⟨⟨_, rfl⟩, HB2.out⟩
    · obtain ⟨h1, h2⟩ := (highB_iff s).1 hh
      have h3 := ((levOk_iff s).1 h1).2
      have h120 := vld_le s hv
      rw [hh] at CH
      rw [h3] at C
      have HI := hide h2
      obtain ⟨n, hn⟩ : ∃ n, n = s.size := ⟨_, rfl⟩
      have HN := hide hn
      rw [← hn] at C h120
      have NR := hide (fun (W : World) => newRigged_any [] (.slice none 0 0) 0 W (lo := 0) (by unfold pSorted; exact List.Pairwise.nil) (.inl ⟨_, _, rfl, rfl⟩) (by decide))
      clear hh hv h1 h2 h3 hn hs
      go_enter Tryd.func12, Tryd.ntmps12
      go_wp2_with fail
      refine C.out.mono ?_
      rintro e w1 ⟨rfl, hb1, hc1, hz1⟩
      have HB1 := hide hb1
      have HC1 := hide hc1
      clear hb1 hc1
      go_wp2_with fail
      refine (CH.out w1).mono ?_
      rintro e w2 ⟨rfl, hb2⟩
      have HB2 := hide (HB1.out.trans (hb2.mono HB1.out.size))
      have HC2 := hide (HC1.out.below' hb2 (Nat.le_refl _))
      have hz2 : w.heap.size < w2.heap.size := Nat.lt_of_lt_of_le hz1 hb2.size
      clear hb2
      go_wp2_with fail
      refine (NR.out w2).mono ?_
      rintro e w3 ⟨rfl, v3, hr3, hb3⟩
      have HR3 := hide hr3
      have HB3 := hide hb3
      have HC3 := hide (HC2.out.below' hb3 (Nat.le_refl _))
      clear hr3 hb3
      go_wp2_with fail
      go_loopw [25] (fun i wr => ∃ (k : Nat) (v' : Value), k ≤ n ∧ i = .int .i64 (k : Int) ∧ Hid (RigAt wr w2.heap.size w2.heap.size v' (kRc ((bits s).take k).reverse) (k : Int)) ∧ Hid (Below w2.heap.size w2 wr)) (fun i _ => n - (intOf i).toNat)
      case atStart => exact ⟨0, v3, Nat.zero_le _, rfl, HR3, HB3⟩
      case round =>
        obtain ⟨k, v', hk, rfl, HR, HB⟩ := hrel
        by_cases hlt : k < n
        · have hks : k < s.size := by rw [← HN.out]; exact hlt
          obtain ⟨b, hb⟩ : ∃ b, (bits s)[k]? = some b := ⟨_, List.getElem?_eq_getElem (by rw [length_bits]; exact hks)⟩
          have c1 : wr.cell? ⟨w.heap.size, k, none⟩ = some (.bool b) := ((HC2.out.below HB.out hz2) k (.bool b) (by simp [hb])).1
          obtain ⟨p, hp⟩ : ∃ p, p = ((bits s).take k).reverse := ⟨_, rfl⟩
          have hpl : p.length = k := by rw [hp, List.length_reverse, List.length_take, length_bits]; omega
          have hph : kHi p := by rw [hp]; exact kHi_take HI.out k (by rw [length_bits]; omega)
          have HPN : Hid (((bits s).take (k + 1)).reverse = b :: p) := by rw [hp]; exact hide (rc_next hb)
          rw [← hp] at HR
          obtain ⟨r1, _⟩ := rc_in hph (by omega)
          obtain ⟨r2, r3, r4⟩ := (rgIn_iff _).1 ((rgFits_iff _ _).1 r1).1
          have hvl := hide (fun g h => (HR.out.own.lt g h).1)
          have hwr : w2.heap.size ≤ wr.heap.size := HB.out.size
          have i0 : (0 : Int) ≤ (k : Int) := by omega
          have i1 : (k : Int) < (n : Int) := by omega
          cases b
          · have AB := hide (addBox_none w2.heap.size w2.heap.size v' (kRc p) (k : Int) wr HR.out (by omega))
            have HNX : Hid (kRc ((bits s).take (k + 1)).reverse = kRc p) := by show _ = _; rw [HPN.out]; rfl
            clear hb hp hpl hph r1 r2 r3 r4 HPN
            go_wp2_with fail
            refine AB.out.mono ?_
            rintro e w4 ⟨rfl, q1, q2⟩
            have Q1 := hide q1
            have Q2 := hide (HB.out.trans (q2.below (Nat.le_refl _) hvl.out hwr))
            clear q1 q2
            go_wp2
            go_roundw
            case rel => exact ⟨k + 1, v', by omega, by go_num, by rw [HNX.out, show ((k + 1 : Nat) : Int) = (k : Int) + 1 by omega]; exact Q1, Q2⟩
            case measure => simp [intOf]; omega
          · have AB := hide (addBox_ball w2.heap.size w2.heap.size v' (kRc p) (k : Int) wr HR.out r3 (by omega) (fun a ha => by have := r2 a ha; omega) (by omega))
            have HNX : Hid (kRc ((bits s).take (k + 1)).reverse = pStep (kRc p) (k : Int)) := by show _ = _; rw [HPN.out, kRc_true, hpl]
            clear hb hp hpl hph r1 r2 r3 r4 HPN
            go_wp2_with fail
            refine AB.out.mono ?_
            rintro e w4 ⟨rfl, v4, q1, q2, _⟩
            have Q1 := hide q1
            have Q2 := hide (HB.out.trans (q2.below (Nat.le_refl _) hvl.out hwr))
            clear q1 q2
            go_wp2
            go_roundw
            case rel => exact ⟨k + 1, v4, by omega, by go_num, by rw [HNX.out, show ((k + 1 : Nat) : Int) = (k : Int) + 1 by omega]; exact Q1, Q2⟩
            case measure => simp [intOf]; omega
        · have hkn : k = n := by omega
          have HE : Hid (((bits s).take k).reverse = rvB s) := by
            show _ = _
            unfold rvB
            rw [List.take_of_length_le (by rw [length_bits, ← HN.out]; omega)]
          have c1 := HR.out.items
          have hBB := hide (HB2.out.trans (HB.out.mono (Nat.le_of_lt hz2)))
          go_wp2
          go_ret2
          exact ⟨⟨v', rfl, by rw [← HE.out]; exact (PartsV.of_owns (owns_lo HR.out.own (Nat.le_of_lt hz2)))⟩, hBB.out⟩

set_option maxHeartbeats 1000000 in
theorem implRigOf_any (s : ByteArray) (w : World) (hE : EtAt w) (hs : s.size ≤ maxLen) :
    Calls Tryd.prog 5 #[.string s] w fun e w' => ∃ u, e = .returned (.tuple #[u, .bool (highB s)]) ∧ PartsV w.heap.size w' u (rgOf s) ∧ Below w.heap.size w w' := by
  have HE := hide hE
  have C := hide (partsOfRow_any s w hs)
  cases hok : highB s
  · rw [hok] at C
    have e0 : rgOf s = [] := by unfold rgOf; rw [hok]; rfl
    rw [e0]
    clear hE hok e0
    go_enter Tryd.func5, Tryd.ntmps5
    go_wp2_with fail
    refine C.out.mono ?_
    rintro e w1 ⟨⟨t, rfl⟩, hb1⟩
    have HB1 := hide hb1
    have SO := hide (sound_any false _ w1 (HE.out.below hb1 (Nat.le_refl _)) (fault_mk t))
    clear hb1
    go_wp2_with fail
    refine SO.out.mono ?_
    rintro e w2 ⟨rfl, hb2⟩
    have HB2 := hide hb2
    clear hb2
    go_wp2_with fail
    go_ret2
    exact ⟨_, rfl, .inl ⟨_, _, rfl, rfl⟩, HB1.out.trans (HB2.out.mono HB1.out.size)⟩
  · rw [hok] at C
    have e0 : rgOf s = kRc (rvB s) := by unfold rgOf; rw [hok]; rfl
    rw [e0]
    clear hE hok e0
    go_enter Tryd.func5, Tryd.ntmps5
    go_wp2_with fail
    refine C.out.mono ?_
    rintro e w1 ⟨⟨u, rfl, hp⟩, hb1⟩
    have HB1 := hide hb1
    have HP1 := hide hp
    have SO := hide (sound_any true .nilIface w1 (HE.out.below hb1 (Nat.le_refl _)) rfl)
    clear hb1 hp
    go_wp2_with fail
    refine SO.out.mono ?_
    rintro e w2 ⟨rfl, hb2⟩
    have HB2 := hide hb2
    clear hb2
    go_wp2_with fail
    go_ret2
    exact ⟨_, rfl, HP1.out.below HB2.out (Nat.le_refl _), HB1.out.trans (HB2.out.mono HB1.out.size)⟩
end Go.Proofs.YteibopcneflidabDoor
