/- TEXTS Ints, Spec1, Balls, RowBalls. -/
import Derived.Test.YtdooboibmllfkaaGreatDoorChecked
import Derived.Test.YtdooboibmllfkaaGreatDoorExa01
import Derived.Deep.QuietTactic
import Derived.BigQuiet
import Derived.RangeFuncNested
import Derived.RangeFuncBound
import Derived.RangeFuncCalls
import Derived.RangeFuncLeaves
import Derived.RangeFuncBox
import Derived.Shelf.Abstract
import Derived.Shelf.RegionOpen
import Derived.WalkKit
import Derived.OwnWalkIn
import Derived.TacticsInMore
import Derived.LoopNIn
import Derived.LoopIn
namespace Go.Proofs.YtdooboibmllfkaaGreatDoor
set_option maxRecDepth 100000
open Go.RowKit

def IntsV (lo : Nat) (w : World) (v : Value) (l : List Int) : Prop :=
  (∃ a cap, v = .slice a 0 cap ∧ l = []) ∨ (∃ g cap, v = .slice (some ⟨g, 0, none⟩) l.length cap ∧ l.length ≤ cap ∧ lo ≤ g ∧ g < w.heap.size ∧ CellsAt w g (l.map (.int .i64)))

theorem IntsV.below {lo : Nat} {w w' : World} {v : Value} {l : List Int} (h : IntsV lo w v l) {B : Nat} (hb : Below B w w') (hB : w.heap.size ≤ B) : IntsV lo w' v l := by
  rcases h with h | ⟨g, cap, rfl, h1, h2, h3, h4⟩
  · exact .inl h
  · exact .inr ⟨g, cap, rfl, h1, h2, Nat.lt_of_lt_of_le h3 hb.size, h4.below hb (by omega)⟩
theorem IntsV.mono {lo lo' : Nat} {w : World} {v : Value} {l : List Int} (h : IntsV lo w v l) (hl : lo' ≤ lo) : IntsV lo' w v l := by
  rcases h with h | ⟨g, cap, rfl, h1, h2, h3, h4⟩
  · exact .inl h
  · exact .inr ⟨g, cap, rfl, h1, by omega, h3, h4⟩
theorem IntsV.of_owns {w : World} {base e n : Nat} {v : Value} {l : List Int} (h : w.ownsRow base e 1 v n (l.map (.int .i64))) : IntsV base w v l := by
  have hl : l.length = n := by have := h.1; simpa using this
  have hlt := h.lt
  rcases h.2 with ⟨rfl, rfl⟩ | ⟨g, cap, cur, rfl, hb, hg, hnc, hcm, hcs, htake⟩
  · exact .inl ⟨_, _, rfl, List.eq_nil_of_length_eq_zero hl⟩
  · exact .inr ⟨g, cap, by rw [hl], by omega, hb, (hlt g rfl).2, CellsAt.of_owns h⟩

def Quiet (w w' : World) : Prop := w'.heap.size = w.heap.size ∧ ∀ B, Below B w w'
theorem Quiet.refl (w : World) : Quiet w w := ⟨rfl, fun B => Below.refl B w⟩
theorem Quiet.drewN {w : World} (n : Nat) : Quiet w (w.drewN n) := ⟨rfl, fun _ => ⟨rfl, rfl, rfl, Nat.le_refl _, fun _ _ => rfl⟩⟩
theorem Quiet.trans {a b c : World} (h : Quiet a b) (k : Quiet b c) : Quiet a c := ⟨k.1.trans h.1, fun B => (h.2 B).trans (k.2 B)⟩
theorem Quiet.cells {w w' : World} (h : Quiet w w') {g : Nat} {l : List Value} (hc : CellsAt w g l) : CellsAt w' g l := hc.below (h.2 (g + 1)) (by omega)
theorem ret_int {k : IntKind} {a b : Int} (h : a = b) : Ending.returned (.int k a) = .returned (.int k b) := by rw [h]

end Go.Proofs.YtdooboibmllfkaaGreatDoor

namespace Go.Proofs.YtdooboibmllfkaaGreatDoor
set_option maxRecDepth 100000
open Go.RowKit

def tidyS (s : ByteArray) : ByteArray := s.extract 0 (tl (bits s))
theorem ret_string {a b : ByteArray} (h : a = b) : Ending.returned (.string a) = .returned (.string b) := by rw [h]

theorem sgn_bit (s : ByteArray) (k : Nat) (h : k < s.size) (g : allSgn s.data.toList = true) : ((s[k].toNat : Int) == 48) = !(s[k] == 49) := by
  unfold allSgn at g
  rw [List.all_eq_true] at g
  have := g s[k] (List.getElem_mem (l := s.data.toList) (by simpa using h))
  rw [sgn_of] at this
  rw [bit_int]
  have h2 := of_decide_eq_true this
  rcases h2 with h2 | h2 <;> simp [h2]

set_option maxHeartbeats 400000 in
theorem l1Tidy_any (s : ByteArray) (w : World) (hs : s.size ≤ maxLen) (hg : allSgn s.data.toList = true) :
    Calls Tryz.prog 35 #[.string s] w fun e w' => e = .returned (.string (tidyS s)) ∧ w = w' := by
  unfold maxLen at hs
  have HG := hide hg
  clear hg
  go_enter Tryz.func35, Tryz.ntmps35
  go_wp2
  go_loop [3] (fun i => ∃ k : Nat, k ≤ s.size ∧ i = .int .i64 k ∧ Hid (tl ((bits s).take k) = tl (bits s))) (fun i => (Go.RowKit.intOf i).toNat)
  case atStart => exact ⟨s.size, Nat.le_refl _, rfl, by rw [List.take_of_length_le (by rw [length_bits]; exact Nat.le_refl _)]; rfl⟩
  case round =>
    obtain ⟨k, hk, rfl, HT⟩ := hrel
    by_cases hk0 : k = 0
    · subst hk0
      go_wp2
      go_ret
      exact ⟨ret_string (by unfold tidyS; rw [← HT.out, List.take_zero, tl_nil]; simp), rfl⟩
    · obtain ⟨j, rfl⟩ : ∃ j, k = j + 1 := ⟨k - 1, by omega⟩
      have hj : j < s.size := by omega
      have hJ : j < (bits s).length := by rw [length_bits]; exact hj
      have HJ := hide hJ
      clear hJ
      have HB := hide (bits_getElem s j hj)
      have hb := sgn_bit s j hj HG.out
      by_cases h49 : (s[j] == 49) = true
      · rw [h49] at hb
        have hb : ((s[j].toNat : Int) == 48) = false := hb
        have HB := hide ((HB.out).trans (congrArg some h49))
        clear h49
        go_wp2
        go_ret
        exact ⟨ret_string (by unfold tidyS; rw [← HT.out, tl_take_stop (bits s) j HJ.out HB.out]), rfl⟩
      · have h49 : (s[j] == 49) = false := by simpa using h49
        rw [h49] at hb
        have hb : ((s[j].toNat : Int) == 48) = true := hb
        have HB := hide ((HB.out).trans (congrArg some h49))
        clear h49
        go_wp2
        go_round
        case rel => exact ⟨j, by omega, rfl, (tl_take_pred (bits s) j HJ.out HB.out).symm.trans HT.out⟩
        case measure => simp [Go.RowKit.intOf]

theorem vld_sgn (s : ByteArray) (h : vld s = true) : allSgn s.data.toList = true := by
  unfold vld at h; simp at h; exact h.1
theorem vld_le (s : ByteArray) (h : vld s = true) : s.size ≤ 120 := by
  unfold vld at h; simp at h; exact h.2

set_option maxHeartbeats 400000 in
theorem specRowTidy_any (s : ByteArray) (w : World) (hs : s.size ≤ maxLen) :
    Calls Tryz.prog 53 #[.string s] w fun e w' => e = .returned (.tuple #[.string (if vld s then tidyS s else ByteArray.empty), .bool (vld s)]) ∧ w = w' := by
  cases hv : vld s
  · go_enter Tryz.func53, Tryz.ntmps53
    go_wp2_with (go_at_call 42; refine (specRowValid_any _ _ hs).mono ?_; rintro e w' ⟨rfl, rfl⟩)
    go_ret2
    exact ⟨rfl, rfl⟩
  · have hg := hide (vld_sgn s hv)
    go_enter Tryz.func53, Tryz.ntmps53
    go_wp2_with (first | (go_at_call 42; refine (specRowValid_any _ _ hs).mono ?_; rintro e w' ⟨rfl, rfl⟩) | (go_at_call 35; refine (l1Tidy_any _ _ hs hg.out).mono ?_; rintro e w' ⟨rfl, rfl⟩))
    go_ret2
    exact ⟨rfl, rfl⟩

def nballs (l : List Bool) : Nat := l.count true
theorem nballs_snoc (l : List Bool) (k : Nat) (b : Bool) (h : l[k]? = some b) : nballs (l.take (k + 1)) = nballs (l.take k) + if b then 1 else 0 := by
  obtain ⟨hk, he⟩ := List.getElem?_eq_some_iff.1 h
  unfold nballs
  rw [List.take_succ_eq_append_getElem hk, List.count_append, he]
  cases b <;> rfl
theorem nballs_le (l : List Bool) (k : Nat) : nballs (l.take k) ≤ k := by
  unfold nballs; exact Nat.le_trans List.count_le_length (List.length_take_le _ _)

set_option maxHeartbeats 400000 in
theorem l1Balls_any (s : ByteArray) (w : World) (hs : s.size ≤ maxLen) :
    Calls Tryz.prog 44 #[.string s] w fun e w' => e = .returned (.int .i64 (nballs (bits s))) ∧ w = w' := by
  unfold maxLen at hs
  go_enter Tryz.func44, Tryz.ntmps44
  go_wp2
  go_loop [3, 4] (fun n i => ∃ k : Nat, k ≤ s.size ∧ i = .int .i64 k ∧ n = .int .i64 (nballs ((bits s).take k))) (fun _ i => s.size - (Go.RowKit.intOf i).toNat)
  case atStart => exact ⟨0, Nat.zero_le _, rfl, rfl⟩
  case round =>
    obtain ⟨k, hk, rfl, rfl⟩ := hrel
    have hl := nballs_le (bits s) k
    by_cases hlt : k < s.size
    · have HB := hide (bits_getElem s k hlt)
      rw [bit_int] at HB
      obtain ⟨m, hm⟩ : ∃ m, m = nballs ((bits s).take k) := ⟨_, rfl⟩
      have HM := hide hm
      rw [← hm] at hl ⊢
      clear hm
      cases hb : ((s[k].toNat : Int) == 49)
      · have HS := hide ((nballs_snoc (bits s) k _ HB.out).trans (by rw [hb, ← HM.out]; rfl : _ = m))
        clear HB
        go_wp2
        go_round
        case rel => exact ⟨k + 1, by omega, by go_num, by rw [HS.out]⟩
        case measure => simp [Go.RowKit.intOf]; omega
      · have HS := hide ((nballs_snoc (bits s) k _ HB.out).trans (by rw [hb, ← HM.out]; rfl : _ = m + 1))
        clear HB
        go_wp2
        go_round
        case rel => exact ⟨k + 1, by omega, by go_num, by rw [HS.out]; go_num⟩
        case measure => simp [Go.RowKit.intOf]; omega
    · go_wp2
      go_ret
      exact ⟨ret_int (by rw [List.take_of_length_le (by rw [length_bits]; omega)]), rfl⟩

end Go.Proofs.YtdooboibmllfkaaGreatDoor

namespace Go.Proofs.YtdooboibmllfkaaGreatDoor
set_option maxRecDepth 100000
open Go.RowKit Go.Shelf

attribute [local go_sem] Oper.semAt_some

def posU (bs : List Bool) (k : Nat) : List Nat := (List.range k).filter (fun j => bs[j]?.getD false)
def pos (bs : List Bool) : List Nat := posU bs bs.length
theorem posU_succ (bs : List Bool) (k : Nat) : posU bs (k + 1) = if bs[k]?.getD false then posU bs k ++ [k] else posU bs k := by
  unfold posU; rw [List.range_succ, List.filter_append]; cases h : bs[k]?.getD false <;> simp [h]
theorem posU_le (bs : List Bool) (k : Nat) : (posU bs k).length ≤ k := by
  unfold posU; exact Nat.le_trans (List.length_filter_le _ _) (by simp)

set_option maxHeartbeats 400000 in
theorem balls_in (F : Fence) (n : Nat) (hf : F.fn 162) (hro : F.round = none) (a : Option Addr) (len cap : Nat) (w : World) :
    CallsIn F n Tryz.prog 162 #[.slice a len cap] w fun e w' => e = .returned (.func (.func 187) #[] #[.pointer (some ⟨w.heap.size, 0, none⟩)]) ∧ w' = w.alloc (.cells #[.slice a len cap] 116) := by
  refine callsIn_of_wp Tryz.func162 rfl hf ?_ hro
  simp only [Tryz.ntmps162, List.size_toArray, List.length_cons, List.length_nil, Nat.reduceAdd, Nat.reduceSub, Array.replicate_succ, Array.replicate_zero, List.push_toArray, List.append_toArray, List.nil_append, List.cons_append]
  gi_wp2
  go_ret
  exact ⟨rfl, rfl⟩

set_option maxRecDepth 100000 in
set_option maxHeartbeats 2000000 in
theorem balls1_g (F : Fence) (n : Nat) (hf : F.fn 187) (hro : F.round = none) (hn : 1 ≤ n) (x : Option Addr) (l Bs n₀ g len cap : Nat) (hx : 0 < len → x = some ⟨g, 0, none⟩) (bs : List Bool) (hlen : bs.length = len) (hm : len ≤ 1000) (hb : 0 < len → g < n₀) (J Jx : List Nat → World → Prop)
    (hY : ∀ pre (y : Nat) W, y < len → J pre W → pre.length < len → YieldAt F (n - 1) Tryz.prog l #[.int .i64 (y : Int)] W fun e W' =>
      (e = .returned (.bool true) ∧ J (pre ++ [y]) W' ∧ Below n₀ W W') ∨ (e = .returned (.bool false) ∧ Jx (pre ++ [y]) W'))
    (W : World) (hBs : W.cell? ⟨Bs, 0, none⟩ = some (.slice x len cap)) (hc : CellsAt W g (bs.map .bool)) (h0 : J [] W) :
    CallsIn F n Tryz.prog 187 #[.func (.yield l) #[] #[], .pointer (some ⟨Bs, 0, none⟩)] W fun e W' => (∃ v, e = .returned v) ∧
      ((∃ ys, ys = pos bs ∧ J ys W') ∨ (∃ pre, Jx pre W')) := by
  have HL := hide hlen
  have HC := hide hc
  clear hlen hc
  refine callsIn_of_wp Tryz.func187 rfl hf ?_ hro
  simp only [Tryz.ntmps187, List.size_toArray, List.length_cons, List.length_nil, Nat.reduceAdd, Nat.reduceSub, Array.replicate_succ, Array.replicate_zero, List.push_toArray, List.append_toArray, List.nil_append, List.cons_append]
  gi_wp2
  gi_loopw [7] (fun i wr => ∃ k : Nat, k ≤ len ∧ i = .int .i64 k ∧ J (posU bs k) wr ∧ Hid (Below n₀ W wr))
    (fun i _ => len - (Go.RowKit.intOf i).toNat)
  case atStart => exact ⟨0, Nat.zero_le _, rfl, h0, Below.refl _ _⟩
  case round =>
    obtain ⟨k, hk, rfl, hJs, HN⟩ := hrel
    by_cases hlt : k < len
    · obtain rfl := hx (by omega)
      obtain ⟨b, hbk⟩ : ∃ b, bs[k]? = some b := ⟨_, List.getElem?_eq_getElem (by rw [HL.out]; exact hlt)⟩
      have hcx : wr.cell? ⟨g, k, none⟩ = some (.bool b) := ((HC.out.below HN.out (hb (by omega))) k (.bool b) (by simp [hbk])).1
      have HS := hide (posU_succ bs k)
      rw [hbk] at HS
      clear hbk
      cases b
      · gi_wp2
        refine ⟨fun _ h => (by cases h), ?_⟩
        gi_wp2
        go_roundw
        case rel => exact ⟨k + 1, by omega, by simp, by rw [HS.out]; exact hJs, HN⟩
        case measure => simp [Go.RowKit.intOf]; omega
      · obtain ⟨fn, tmps, assign, body, hy, hR⟩ := hY _ k wr hlt hJs (by have := posU_le bs k; omega)
        gi_wp2
        refine hR.mono ?_
        rintro e W3 (⟨rfl, hJ3, hk3⟩ | ⟨rfl, hJx3⟩)
        · gi_wp2
          go_roundw
          case rel => exact ⟨k + 1, by omega, by simp, by rw [HS.out]; exact hJ3, HN.out.trans hk3⟩
          case measure => simp [Go.RowKit.intOf]; omega
        · gi_wp2
          refine bodyPost_ret (results_none rfl _ _ _) rfl ?_
          exact ⟨⟨_, rfl⟩, .inr ⟨_, hJx3⟩⟩
    · obtain rfl : k = len := by omega
      gi_wp2
      go_end0
      exact ⟨⟨_, rfl⟩, .inl ⟨_, by unfold pos; rw [HL.out], hJs⟩⟩

theorem balls_stops_g (F : Fence) (n : Nat) (hf : F.fn 187) (hro : F.round = none) (hn : 1 ≤ n) (x : Option Addr) (Bs n₀ g len cap : Nat) (hx : 0 < len → x = some ⟨g, 0, none⟩) (bs : List Bool) (hlen : bs.length = len) (hm : len ≤ 1000) (w : World) (hBs : Bs < w.heap.size)
    (hb : 0 < len → g < n₀) (hc : w.cell? ⟨Bs, 0, none⟩ = some (.slice x len cap)) (hI : CellsAt w g (bs.map .bool)) :
    SeqStopsK F n Tryz.prog 187 #[.pointer (some ⟨Bs, 0, none⟩)] (fun y : Nat => #[Value.int .i64 (y : Int)]) (Below n₀) (fun ys => ys = pos bs) (fun _ => True) len w := fun l J Jx W hW _ _ hY h0 => by
  have hc' := (hW.cell (p := ⟨Bs, 0, none⟩) hBs).trans hc
  refine (balls1_g F n hf hro hn x l Bs n₀ g len cap hx bs hlen hm hb J Jx (fun pre y W _ => hY pre y W) W hc' (hI.below' hW (Nat.le_refl _)) h0).mono ?_
  rintro e W' ⟨he, ⟨ys, rfl, hj⟩ | ⟨pre, hj⟩⟩
  · exact ⟨he, .inl ⟨_, rfl, hj⟩⟩
  · exact ⟨he, .inr ⟨_, trivial, hj⟩⟩

theorem balls_stops (F : Fence) (n : Nat) (hf : F.fn 187) (hro : F.round = none) (hn : 1 ≤ n) (Bs n₀ g len cap : Nat) (bs : List Bool) (hlen : bs.length = len) (hm : len ≤ 1000) (w : World) (hBs : Bs < w.heap.size)
    (hb : 0 < len → g < n₀) (hc : w.cell? ⟨Bs, 0, none⟩ = some (.slice (some ⟨g, 0, none⟩) len cap)) (hI : CellsAt w g (bs.map .bool)) :
    SeqStopsK F n Tryz.prog 187 #[.pointer (some ⟨Bs, 0, none⟩)] (fun x : Nat => #[Value.int .i64 (x : Int)]) (Below n₀) (fun ys => ys = pos bs) (fun _ => True) len w :=
  balls_stops_g F n hf hro hn _ Bs n₀ g len cap (fun _ => rfl) bs hlen hm w hBs hb hc hI

theorem balls_stopsF_g (F : Fence) (n : Nat) (hf : F.fn 187) (hro : F.round = none) (hn : 1 ≤ n) (x : Option Addr) (Bs n₀ g len cap : Nat) (hx : 0 < len → x = some ⟨g, 0, none⟩) (bs : List Bool) (hlen : bs.length = len) (hm : len ≤ 1000) (w : World) (hBs : Bs < w.heap.size)
    (hb : 0 < len → g < n₀) (hc : w.cell? ⟨Bs, 0, none⟩ = some (.slice x len cap)) (hI : CellsAt w g (bs.map .bool)) :
    SeqStopsK F n Tryz.prog 187 #[.pointer (some ⟨Bs, 0, none⟩)] (fun y : { j : Nat // j < len } => #[Value.int .i64 (y.1 : Int)]) (Below n₀) (fun ys => ys.map (·.1) = pos bs) (fun _ => True) len w := fun l J Jx W hW _ _ hY h0 => by
  have hc' := (hW.cell (p := ⟨Bs, 0, none⟩) hBs).trans hc
  refine (balls1_g F n hf hro hn x l Bs n₀ g len cap hx bs hlen hm hb (fun ps W => ∃ q : List { j : Nat // j < len }, q.map (·.1) = ps ∧ J q W) (fun _ W => ∃ q, Jx q W) ?_ W hc' (hI.below' hW (Nat.le_refl _)) ⟨[], rfl, h0⟩).mono ?_
  · rintro pre y W1 hy0 ⟨q, rfl, hq⟩ hl
    obtain ⟨fn, tmps, assign, body, hy, hR⟩ := hY q ⟨y, hy0⟩ W1 hq (by simpa using hl)
    refine ⟨fn, tmps, assign, body, hy, hR.mono ?_⟩
    rintro e W' (⟨he, hj, hk⟩ | ⟨he, hj⟩)
    · exact .inl ⟨he, ⟨_, by simp, hj⟩, hk⟩
    · exact .inr ⟨he, _, hj⟩
  · rintro e W' ⟨he, ⟨ys, hys, q, hq, hj⟩ | ⟨pre, q, hj⟩⟩
    · exact ⟨he, .inl ⟨q, hq.trans hys, hj⟩⟩
    · exact ⟨he, .inr ⟨q, trivial, hj⟩⟩

theorem balls_stopsF (F : Fence) (n : Nat) (hf : F.fn 187) (hro : F.round = none) (hn : 1 ≤ n) (Bs n₀ g len cap : Nat) (bs : List Bool) (hlen : bs.length = len) (hm : len ≤ 1000) (w : World) (hBs : Bs < w.heap.size)
    (hb : 0 < len → g < n₀) (hc : w.cell? ⟨Bs, 0, none⟩ = some (.slice (some ⟨g, 0, none⟩) len cap)) (hI : CellsAt w g (bs.map .bool)) :
    SeqStopsK F n Tryz.prog 187 #[.pointer (some ⟨Bs, 0, none⟩)] (fun x : { j : Nat // j < len } => #[Value.int .i64 (x.1 : Int)]) (Below n₀) (fun ys => ys.map (·.1) = pos bs) (fun _ => True) len w :=
  balls_stopsF_g F n hf hro hn _ Bs n₀ g len cap (fun _ => rfl) bs hlen hm w hBs hb hc hI

theorem count_boxes (bs : List Bool) : (pos bs).length = nballs bs := by
  have h : ∀ k, k ≤ bs.length → (posU bs k).length = nballs (bs.take k) := by
    intro k
    induction k with
    | zero => intro _; simp [posU, nballs]
    | succ k ih =>
      intro hk
      have e : bs[k]? = some bs[k] := List.getElem?_eq_getElem (by omega)
      rw [posU_succ, nballs_snoc bs k _ e, e]
      cases hb : bs[k]
      · simpa using ih (by omega)
      · simpa using ih (by omega)
  have := h bs.length (Nat.le_refl _)
  rw [List.take_of_length_le (Nat.le_refl _)] at this
  exact this

set_option maxRecDepth 100000 in
set_option maxHeartbeats 2000000 in
theorem count_in (F : Fence) (n : Nat) (h1' : F.fn 147) (h2 : F.fn 162) (h3 : F.fn 187) (hro : F.round = none) (hn : 3 ≤ n) (g len cap : Nat) (bs : List Bool) (hlen : bs.length = len) (hm : len ≤ 1000) (w : World) (hI : CellsAt w g (bs.map .bool)) :
    CallsIn F n Tryz.prog 147 #[.slice (some ⟨g, 0, none⟩) len cap] w fun e W' => e = .returned (.int .i64 (nballs bs)) ∧ Below w.heap.size w W' := by
  have h1 : 1 ≤ n := by omega
  have hgl : 0 < len → g < w.heap.size := fun h => hI.lt (by simp; omega)
  have HI := hide hI
  have HLEN := hide hlen
  have HGL := hide hgl
  clear hI hlen hgl
  refine callsIn_of_wp_marks Tryz.func147 rfl h1' ?_ hro
  simp only [Tryz.ntmps147, List.size_toArray, List.length_cons, List.length_nil, Nat.reduceAdd, Nat.reduceSub, Array.replicate_succ, Array.replicate_zero, List.push_toArray, List.append_toArray, List.nil_append, List.cons_append]
  gi_wp2_with (gi_at_call 162; refine (balls_in F (n - 1) h2 hro _ _ _ _).mono ?_; rintro e w' ⟨rfl, rfl⟩)
  have bS := Boxed.new w 3 (.int .i64 0)
  have bN := Boxed.new (w.alloc (.cells #[.int .i64 0] 3)) 116 (.slice (some ⟨g, 0, none⟩) len cap)
  rw [World.size_alloc] at bN
  have hB0 : Below w.heap.size w ((w.alloc (.cells #[.int .i64 0] 3)).alloc (.cells #[.slice (some ⟨g, 0, none⟩) len cap] 116)) := ((Below.refl _ w).alloc (Nat.le_refl _) _).alloc (by simp) _
  refine wpIn_rangeFunc_ownG hro h1 (gf := 187) (lb := #[.pointer (some ⟨w.heap.size + 1, 0, none⟩)]) rfl h3 (enters_of Tryz.func187 (by kernel_rfl) rfl)
    (balls_stops F (n - 1) h3 hro (by omega) (w.heap.size + 1) w.heap.size g len cap bs HLEN.out hm _ (by simp) HGL.out bN.cell (HI.out.below' hB0 (Nat.le_refl _))) belowK_t (belowK_b (by simp; omega)) (Below.refl _ _) (fun _ => rfl)
    (fun pre W => (W.cell? ⟨w.heap.size, 0, none⟩ = some (.int .i64 (pre.length : Int)) ∧ W.frozen? ⟨w.heap.size, 0, none⟩ = false) ∧ Below w.heap.size w W)
    (fun _ _ _ => False)
    (OwnFrom.and (Own.from (fun s A B row hs hg hr => ⟨cell_kept hs.1 hg hr, (frozen_kept hs.1 hg hr).trans hs.2⟩) _) (ownFrom_below (Nat.le_refl _) (by simp; omega)))
    (fun _ _ _ _ _ hs _ _ => hs)
    ⟨⟨(bS.alloc _).cell, (bS.alloc _).frozen⟩, hB0⟩
    (fun x => { tmps := #[.slice (some ⟨g, 0, none⟩) len cap, undef, .int .i64 0, .pointer (some ⟨w.heap.size, 0, none⟩), .slice (some ⟨g, 0, none⟩) len cap, .func (.func 187) #[] #[.pointer (some ⟨w.heap.size + 1, 0, none⟩)], .int .i64 (x : Int), undef, undef, undef], defers := [] }) ?assign ?body ?done ?stop
  case assign =>
    intro l x W K hK
    gi_wp2
    simpa using hK
  case body =>
    rintro l pre x W ⟨⟨hc, hf⟩, hB⟩ hlt
    have hp : (pre.length : Int) ≤ 1000 := by omega
    gi_wp2
    exact ⟨(KeepsOthers.setCell _ _ _).from _, (Below.refl w.heap.size W).setCell (p := ⟨w.heap.size, 0, none⟩) (Nat.le_refl _) _, ⟨by rw [List.length_append]; exact World.cell?_setCell_same' _ _ _ (by rw [hc]; rfl), by rw [World.frozen?_setCell]; exact hf⟩, hB.setCell (p := ⟨w.heap.size, 0, none⟩) (Nat.le_refl _) _⟩
  case done =>
    rintro D ys W hD rfl ⟨⟨hc, _⟩, hB⟩ hK
    rw [count_boxes] at hc
    gi_wp2
    refine ⟨by simp, .inl ⟨_, _, rfl, run_takeDeferred hK, ?_⟩⟩
    exact ⟨_, results_tmp rfl _ _ _, rfl, hB.trans (belowK_b (w := w) (Nat.le_refl _) W D _ _ (by simp at hD; omega) hK rfl rfl)⟩
  case stop =>
    rintro D c pre W _ _ h _
    exact h.elim

theorem count_any (g len cap : Nat) (bs : List Bool) (hlen : bs.length = len) (hm : len ≤ 1000) (w : World) (hI : CellsAt w g (bs.map .bool)) :
    Calls Tryz.prog 147 #[.slice (some ⟨g, 0, none⟩) len cap] w fun e W' => e = .returned (.int .i64 (nballs bs)) ∧ Below w.heap.size w W' :=
  callsIn_wide.1 (count_in Fence.wide 3 trivial trivial trivial rfl (Nat.le_refl _) g len cap bs hlen hm w hI)
end Go.Proofs.YtdooboibmllfkaaGreatDoor

namespace Go.Proofs.YtdooboibmllfkaaGreatDoor
set_option maxRecDepth 100000
open Go.RowKit

theorem CellsAt.take {w : World} {g : Nat} {l : List Value} (h : CellsAt w g l) (k : Nat) : CellsAt w g (l.take k) := by
  intro j v hv
  rw [List.getElem?_take] at hv
  split at hv
  · exact h j v hv
  · cases hv
def cut (l : List Bool) : List Bool := l.take (tl l)
theorem cut_length (l : List Bool) : (cut l).length = tl l := by unfold cut; rw [List.length_take]; exact Nat.min_eq_left (tl_le l)
theorem cut_map (l : List Bool) : (cut l).map Value.bool = (l.map Value.bool).take (tl l) := by unfold cut; rw [List.map_take]
theorem cut_eq (l : List Bool) : ∃ n, l = cut l ++ List.replicate n false := by
  have h : ∀ m : List Bool, ∃ n, m.reverse = cut m.reverse ++ List.replicate n false := by
    intro m
    induction m with
    | nil => exact ⟨0, rfl⟩
    | cons b m ih =>
      obtain ⟨n, hn⟩ := ih
      rw [List.reverse_cons]
      cases b
      · refine ⟨n + 1, ?_⟩
        have e : cut (m.reverse ++ [false]) = cut m.reverse := by
          unfold cut
          rw [tl_snoc]
          exact List.take_append_of_le_length (tl_le _)
        rw [e, List.replicate_succ', ← List.append_assoc, ← hn]
      · refine ⟨0, ?_⟩
        unfold cut
        rw [tl_snoc, List.take_of_length_le (by simp)]
        simp
  have := h l.reverse
  rwa [List.reverse_reverse] at this
theorem nballs_cut (l : List Bool) : nballs (cut l) = nballs l := by
  obtain ⟨n, hn⟩ := cut_eq l
  have h2 : nballs l = nballs (cut l ++ List.replicate n false) := congrArg nballs hn
  rw [h2]
  unfold nballs
  rw [List.count_append, List.count_replicate]; simp

set_option maxHeartbeats 400000 in
theorem implRowBalls_any (s : ByteArray) (w : World) (hs : s.size ≤ maxLen) :
    Calls Tryz.prog 114 #[.string s] w fun e w' => e = .returned (.int .i64 (if vld s then (nballs (bits s) : Int) else -1)) ∧ Below w.heap.size w w' := by
  cases hv : vld s
  · go_enter Tryz.func114, Tryz.ntmps114
    go_wp2_with (go_at_call 132; refine (readRow_no _ _ hs hv).mono ?_; rintro e w' ⟨rfl, rfl⟩)
    go_ret
    exact ⟨rfl, Below.refl _ _⟩
  · have h120 := vld_le s hv
    have hle := tl_le (bits s)
    rw [length_bits] at hle
    have C1 := hide (fun w => readRow_yes s w hv)
    have HC := hide (cut_length (bits s))
    have HM := hide (cut_map (bits s))
    have HN := hide (nballs_cut (bits s))
    obtain ⟨t, ht⟩ : ∃ t, t = tl (bits s) := ⟨_, rfl⟩
    rw [← ht] at hle C1 HC HM
    clear ht
    go_enter Tryz.func114, Tryz.ntmps114
    go_wp2_with fail
    refine (C1.out _).mono ?_
    rintro e w1 ⟨rfl, hb1, hc1, hz1⟩
    go_wp2_with fail
    refine (count_any _ t s.size (cut (bits s)) HC.out (by omega) w1 (by rw [HM.out]; exact hc1.take t)).mono ?_
    rintro e w2 ⟨rfl, hb2⟩
    rw [HN.out]
    go_wp2_with fail
    go_ret
    exact ⟨rfl, hb1.trans (hb2.mono hb1.size)⟩

end Go.Proofs.YtdooboibmllfkaaGreatDoor
