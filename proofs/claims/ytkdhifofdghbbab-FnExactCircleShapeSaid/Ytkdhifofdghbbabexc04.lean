/- TEXTS Balls, Cir4, Cir5. -/
import Derived.Test.Ytkdhifofdghbbabexc02
import Derived.Test.Ytkdhifofdghbbabexc03
import Derived.RangeFuncNested
import Derived.RangeFuncBound
import Derived.RangeFuncCalls
import Derived.RangeFuncLeaves
import Derived.RangeFuncBox
import Derived.Shelf.Abstract
import Derived.Shelf.RegionOpen
import Derived.WalkKit
import Derived.OwnWalkIn
import Derived.TacticsInMore
import Derived.LoopNIn
import Derived.LoopIn
/- THE ITERATOR over the balls of a row, and 'count', which ranges over it. -/
namespace Go.Proofs.Ytkdhifofdghbbab
open Go.RowKit Go.Shelf

attribute [local go_sem] Oper.semAt_some

/-- the indexes of the balls among the first k boxes -/
def posU (bs : List Bool) (k : Nat) : List Nat := (List.range k).filter (fun j => bs[j]?.getD false)
def pos (bs : List Bool) : List Nat := posU bs bs.length
theorem posU_succ (bs : List Bool) (k : Nat) : posU bs (k + 1) = if bs[k]?.getD false then posU bs k ++ [k] else posU bs k := by
  unfold posU; rw [List.range_succ, List.filter_append]; cases h : bs[k]?.getD false <;> simp [h]
theorem posU_le (bs : List Bool) (k : Nat) : (posU bs k).length ≤ k := by
  unfold posU; exact Nat.le_trans (List.length_filter_le _ _) (by simp)

set_option maxHeartbeats 400000 in
theorem balls_in (F : Fence) (n : Nat) (hf : F.fn 39) (hro : F.round = none) (a : Option Addr) (len cap : Nat) (w : World) :
    CallsIn F n Try.prog 39 #[.slice a len cap] w fun e w' => e = .returned (.func (.func 50) #[] #[.pointer (some ⟨w.heap.size, 0, none⟩)]) ∧ w' = w.alloc (.cells #[.slice a len cap] 57) := by
  refine callsIn_of_wp Try.func39 rfl hf ?_ hro
  simp only [Try.ntmps39, List.size_toArray, List.length_cons, List.length_nil, Nat.reduceAdd, Nat.reduceSub, Array.replicate_succ, Array.replicate_zero, List.push_toArray, List.append_toArray, List.nil_append, List.cons_append]
  gi_wp2
  go_ret
  exact ⟨rfl, rfl⟩

set_option maxRecDepth 100000 in
set_option maxHeartbeats 2000000 in
theorem balls1_g (F : Fence) (n : Nat) (hf : F.fn 50) (hro : F.round = none) (hn : 1 ≤ n) (x : Option Addr) (l Bs n₀ g len cap : Nat) (hx : 0 < len → x = some ⟨g, 0, none⟩) (bs : List Bool) (hlen : bs.length = len) (hm : len ≤ 1000) (hb : 0 < len → g < n₀) (J Jx : List Nat → World → Prop)
    (hY : ∀ pre (y : Nat) W, y < len → J pre W → pre.length < len → YieldAt F (n - 1) Try.prog l #[.int .i64 (y : Int)] W fun e W' =>
      (e = .returned (.bool true) ∧ J (pre ++ [y]) W' ∧ Below n₀ W W') ∨ (e = .returned (.bool false) ∧ Jx (pre ++ [y]) W'))
    (W : World) (hBs : W.cell? ⟨Bs, 0, none⟩ = some (.slice x len cap)) (hc : CellsAt W g (bs.map .bool)) (h0 : J [] W) :
    CallsIn F n Try.prog 50 #[.func (.yield l) #[] #[], .pointer (some ⟨Bs, 0, none⟩)] W fun e W' => (∃ v, e = .returned v) ∧
      ((∃ ys, ys = pos bs ∧ J ys W') ∨ (∃ pre, Jx pre W')) := by
  have HL := hide hlen
  have HC := hide hc
  clear hlen hc
  refine callsIn_of_wp Try.func50 rfl hf ?_ hro
  simp only [Try.ntmps50, List.size_toArray, List.length_cons, List.length_nil, Nat.reduceAdd, Nat.reduceSub, Array.replicate_succ, Array.replicate_zero, List.push_toArray, List.append_toArray, List.nil_append, List.cons_append]
  gi_wp2
  gi_loopw [7] (fun i wr => ∃ k : Nat, k ≤ len ∧ i = .int .i64 k ∧ J (posU bs k) wr ∧ Hid (Below n₀ W wr))
    (fun i _ => len - (Go.RowKit.intOf i).toNat)
  case atStart => exact ⟨0, Nat.zero_le _, rfl, h0, Below.refl _ _⟩
  case round =>
    obtain ⟨k, hk, rfl, hJs, HN⟩ := hrel
    by_cases hlt : k < len
    · obtain rfl := hx (by omega)
      obtain ⟨b, hbk⟩ : ∃ b, bs[k]? = some b := ⟨_, List.getElem?_eq_getElem (by rw [HL.out]; exact hlt)⟩
      have hcx : wr.cell? ⟨g, k, none⟩ = some (.bool b) := ((HC.out.below HN.out (hb (by omega))) k (.bool b) (by simp [hbk])).1
      have HS := hide (posU_succ bs k)
      rw [hbk] at HS
      clear hbk
      cases b
      · gi_wp2
        refine ⟨fun _ h => (by cases h), ?_⟩
        gi_wp2
        go_roundw
        case rel => exact ⟨k + 1, by omega, by simp, by rw [HS.out]; exact hJs, HN⟩
        case measure => simp [Go.RowKit.intOf]; omega
      · obtain ⟨fn, tmps, assign, body, hy, hR⟩ := hY _ k wr hlt hJs (by have := posU_le bs k; omega)
        gi_wp2
        refine hR.mono ?_
        rintro e W3 (⟨rfl, hJ3, hk3⟩ | ⟨rfl, hJx3⟩)
        · gi_wp2
          go_roundw
          case rel => exact ⟨k + 1, by omega, by simp, by rw [HS.out]; exact hJ3, HN.out.trans hk3⟩
          case measure => simp [Go.RowKit.intOf]; omega
        · gi_wp2
          refine bodyPost_ret (results_none rfl _ _ _) rfl ?_
          exact ⟨⟨_, rfl⟩, .inr ⟨_, hJx3⟩⟩
    · obtain rfl : k = len := by omega
      gi_wp2
      go_end0
      exact ⟨⟨_, rfl⟩, .inl ⟨_, by unfold pos; rw [HL.out], hJs⟩⟩

theorem balls_stops_g (F : Fence) (n : Nat) (hf : F.fn 50) (hro : F.round = none) (hn : 1 ≤ n) (x : Option Addr) (Bs n₀ g len cap : Nat) (hx : 0 < len → x = some ⟨g, 0, none⟩) (bs : List Bool) (hlen : bs.length = len) (hm : len ≤ 1000) (w : World) (hBs : Bs < w.heap.size)
    (hb : 0 < len → g < n₀) (hc : w.cell? ⟨Bs, 0, none⟩ = some (.slice x len cap)) (hI : CellsAt w g (bs.map .bool)) :
    SeqStopsK F n Try.prog 50 #[.pointer (some ⟨Bs, 0, none⟩)] (fun y : Nat => #[Value.int .i64 (y : Int)]) (Below n₀) (fun ys => ys = pos bs) (fun _ => True) len w := fun l J Jx W hW _ _ hY h0 => by
  have hc' := (hW.cell (p := ⟨Bs, 0, none⟩) hBs).trans hc
  refine (balls1_g F n hf hro hn x l Bs n₀ g len cap hx bs hlen hm hb J Jx (fun pre y W _ => hY pre y W) W hc' (hI.below' hW (Nat.le_refl _)) h0).mono ?_
  rintro e W' ⟨he, ⟨ys, rfl, hj⟩ | ⟨pre, hj⟩⟩
  · exact ⟨he, .inl ⟨_, rfl, hj⟩⟩
  · exact ⟨he, .inr ⟨_, trivial, hj⟩⟩

theorem balls_stops (F : Fence) (n : Nat) (hf : F.fn 50) (hro : F.round = none) (hn : 1 ≤ n) (Bs n₀ g len cap : Nat) (bs : List Bool) (hlen : bs.length = len) (hm : len ≤ 1000) (w : World) (hBs : Bs < w.heap.size)
    (hb : 0 < len → g < n₀) (hc : w.cell? ⟨Bs, 0, none⟩ = some (.slice (some ⟨g, 0, none⟩) len cap)) (hI : CellsAt w g (bs.map .bool)) :
    SeqStopsK F n Try.prog 50 #[.pointer (some ⟨Bs, 0, none⟩)] (fun x : Nat => #[Value.int .i64 (x : Int)]) (Below n₀) (fun ys => ys = pos bs) (fun _ => True) len w :=
  balls_stops_g F n hf hro hn _ Bs n₀ g len cap (fun _ => rfl) bs hlen hm w hBs hb hc hI

/-- .. where the body must know that an index lies in the row -/
theorem balls_stopsF_g (F : Fence) (n : Nat) (hf : F.fn 50) (hro : F.round = none) (hn : 1 ≤ n) (x : Option Addr) (Bs n₀ g len cap : Nat) (hx : 0 < len → x = some ⟨g, 0, none⟩) (bs : List Bool) (hlen : bs.length = len) (hm : len ≤ 1000) (w : World) (hBs : Bs < w.heap.size)
    (hb : 0 < len → g < n₀) (hc : w.cell? ⟨Bs, 0, none⟩ = some (.slice x len cap)) (hI : CellsAt w g (bs.map .bool)) :
    SeqStopsK F n Try.prog 50 #[.pointer (some ⟨Bs, 0, none⟩)] (fun y : { j : Nat // j < len } => #[Value.int .i64 (y.1 : Int)]) (Below n₀) (fun ys => ys.map (·.1) = pos bs) (fun _ => True) len w := fun l J Jx W hW _ _ hY h0 => by
  have hc' := (hW.cell (p := ⟨Bs, 0, none⟩) hBs).trans hc
  refine (balls1_g F n hf hro hn x l Bs n₀ g len cap hx bs hlen hm hb (fun ps W => ∃ q : List { j : Nat // j < len }, q.map (·.1) = ps ∧ J q W) (fun _ W => ∃ q, Jx q W) ?_ W hc' (hI.below' hW (Nat.le_refl _)) ⟨[], rfl, h0⟩).mono ?_
  · rintro pre y W1 hy0 ⟨q, rfl, hq⟩ hl
    obtain ⟨fn, tmps, assign, body, hy, hR⟩ := hY q ⟨y, hy0⟩ W1 hq (by simpa using hl)
    refine ⟨fn, tmps, assign, body, hy, hR.mono ?_⟩
    rintro e W' (⟨he, hj, hk⟩ | ⟨he, hj⟩)
    · exact .inl ⟨he, ⟨_, by simp, hj⟩, hk⟩
    · exact .inr ⟨he, _, hj⟩
  · rintro e W' ⟨he, ⟨ys, hys, q, hq, hj⟩ | ⟨pre, q, hj⟩⟩
    · exact ⟨he, .inl ⟨q, hq.trans hys, hj⟩⟩
    · exact ⟨he, .inr ⟨q, trivial, hj⟩⟩

theorem balls_stopsF (F : Fence) (n : Nat) (hf : F.fn 50) (hro : F.round = none) (hn : 1 ≤ n) (Bs n₀ g len cap : Nat) (bs : List Bool) (hlen : bs.length = len) (hm : len ≤ 1000) (w : World) (hBs : Bs < w.heap.size)
    (hb : 0 < len → g < n₀) (hc : w.cell? ⟨Bs, 0, none⟩ = some (.slice (some ⟨g, 0, none⟩) len cap)) (hI : CellsAt w g (bs.map .bool)) :
    SeqStopsK F n Try.prog 50 #[.pointer (some ⟨Bs, 0, none⟩)] (fun x : { j : Nat // j < len } => #[Value.int .i64 (x.1 : Int)]) (Below n₀) (fun ys => ys.map (·.1) = pos bs) (fun _ => True) len w :=
  balls_stopsF_g F n hf hro hn _ Bs n₀ g len cap (fun _ => rfl) bs hlen hm w hBs hb hc hI

/-- a block of one cell that the call made: laid with its value -/
theorem count_boxes (bs : List Bool) : (pos bs).length = nballs bs := by
  have h : ∀ k, k ≤ bs.length → (posU bs k).length = nballs (bs.take k) := by
    intro k
    induction k with
    | zero => intro _; simp [posU, nballs]
    | succ k ih =>
      intro hk
      have e : bs[k]? = some bs[k] := List.getElem?_eq_getElem (by omega)
      rw [posU_succ, nballs_snoc bs k _ e, e]
      cases hb : bs[k]
      · simpa using ih (by omega)
      · simpa using ih (by omega)
  have := h bs.length (Nat.le_refl _)
  rw [List.take_of_length_le (Nat.le_refl _)] at this
  exact this

set_option maxRecDepth 100000 in
set_option maxHeartbeats 2000000 in
theorem count_in (F : Fence) (n : Nat) (h1' : F.fn 38) (h2 : F.fn 39) (h3 : F.fn 50) (hro : F.round = none) (hn : 3 ≤ n) (g len cap : Nat) (bs : List Bool) (hlen : bs.length = len) (hm : len ≤ 1000) (w : World) (hI : CellsAt w g (bs.map .bool)) :
    CallsIn F n Try.prog 38 #[.slice (some ⟨g, 0, none⟩) len cap] w fun e W' => e = .returned (.int .i64 (nballs bs)) ∧ Below w.heap.size w W' := by
  have h1 : 1 ≤ n := by omega
  have hgl : 0 < len → g < w.heap.size := fun h => hI.lt (by simp; omega)
  have HI := hide hI
  have HLEN := hide hlen
  have HGL := hide hgl
  clear hI hlen hgl
  refine callsIn_of_wp_marks Try.func38 rfl h1' ?_ hro
  simp only [Try.ntmps38, List.size_toArray, List.length_cons, List.length_nil, Nat.reduceAdd, Nat.reduceSub, Array.replicate_succ, Array.replicate_zero, List.push_toArray, List.append_toArray, List.nil_append, List.cons_append]
  gi_wp2_with (gi_at_call 39; refine (balls_in F (n - 1) h2 hro _ _ _ _).mono ?_; rintro e w' ⟨rfl, rfl⟩)
  have bS := Boxed.new w 3 (.int .i64 0)
  have bN := Boxed.new (w.alloc (.cells #[.int .i64 0] 3)) 57 (.slice (some ⟨g, 0, none⟩) len cap)
  rw [World.size_alloc] at bN
  have hB0 : Below w.heap.size w ((w.alloc (.cells #[.int .i64 0] 3)).alloc (.cells #[.slice (some ⟨g, 0, none⟩) len cap] 57)) := ((Below.refl _ w).alloc (Nat.le_refl _) _).alloc (by simp) _
  refine wpIn_rangeFunc_ownG hro h1 (gf := 50) (lb := #[.pointer (some ⟨w.heap.size + 1, 0, none⟩)]) rfl h3 (enters_of Try.func50 (by kernel_rfl) rfl)
    (balls_stops F (n - 1) h3 hro (by omega) (w.heap.size + 1) w.heap.size g len cap bs HLEN.out hm _ (by simp) HGL.out bN.cell (HI.out.below' hB0 (Nat.le_refl _))) belowK_t (belowK_b (by simp; omega)) (Below.refl _ _) (fun _ => rfl)
    (fun pre W => (W.cell? ⟨w.heap.size, 0, none⟩ = some (.int .i64 (pre.length : Int)) ∧ W.frozen? ⟨w.heap.size, 0, none⟩ = false) ∧ Below w.heap.size w W)
    (fun _ _ _ => False)
    (OwnFrom.and (Own.from (fun s A B row hs hg hr => ⟨cell_kept hs.1 hg hr, (frozen_kept hs.1 hg hr).trans hs.2⟩) _) (ownFrom_below (Nat.le_refl _) (by simp; omega)))
    (fun _ _ _ _ _ hs _ _ => hs)
    ⟨⟨(bS.alloc _).cell, (bS.alloc _).frozen⟩, hB0⟩
    (fun x => { tmps := #[.slice (some ⟨g, 0, none⟩) len cap, undef, .int .i64 0, .pointer (some ⟨w.heap.size, 0, none⟩), .slice (some ⟨g, 0, none⟩) len cap, .func (.func 50) #[] #[.pointer (some ⟨w.heap.size + 1, 0, none⟩)], .int .i64 (x : Int), undef, undef, undef], defers := [] }) ?assign ?body ?done ?stop
  case assign =>
    intro l x W K hK
    gi_wp2
    simpa using hK
  case body =>
    rintro l pre x W ⟨⟨hc, hf⟩, hB⟩ hlt
    have hp : (pre.length : Int) ≤ 1000 := by omega
    gi_wp2
    exact ⟨(KeepsOthers.setCell _ _ _).from _, (Below.refl w.heap.size W).setCell (p := ⟨w.heap.size, 0, none⟩) (Nat.le_refl _) _, ⟨by rw [List.length_append]; exact World.cell?_setCell_same' _ _ _ (by rw [hc]; rfl), by rw [World.frozen?_setCell]; exact hf⟩, hB.setCell (p := ⟨w.heap.size, 0, none⟩) (Nat.le_refl _) _⟩
  case done =>
    rintro D ys W hD rfl ⟨⟨hc, _⟩, hB⟩ hK
    rw [count_boxes] at hc
    gi_wp2
    refine ⟨by simp, .inl ⟨_, _, rfl, run_takeDeferred hK, ?_⟩⟩
    exact ⟨_, results_tmp rfl _ _ _, rfl, hB.trans (belowK_b (w := w) (Nat.le_refl _) W D _ _ (by simp at hD; omega) hK rfl rfl)⟩
  case stop =>
    rintro D c pre W _ _ h _
    exact h.elim

theorem count_any (g len cap : Nat) (bs : List Bool) (hlen : bs.length = len) (hm : len ≤ 1000) (w : World) (hI : CellsAt w g (bs.map .bool)) :
    Calls Try.prog 38 #[.slice (some ⟨g, 0, none⟩) len cap] w fun e W' => e = .returned (.int .i64 (nballs bs)) ∧ Below w.heap.size w W' :=
  callsIn_wide.1 (count_in Fence.wide 3 trivial trivial trivial rfl (Nat.le_refl _) g len cap bs hlen hm w hI)
end Go.Proofs.Ytkdhifofdghbbab

/- CIRCLES. Pure: no walk. The rounds fall, and add up to the balls. -/
namespace Go.Proofs.Ytkdhifofdghbbab

theorem drf_balls (l : List Bool) : drf l = 2 * (nballs l : Int) - (l.length : Int) := by
  induction l with
  | nil => rfl
  | cons x l ih =>
    simp only [drf, ih]
    have e : nballs (x :: l) = nballs l + if x then 1 else 0 := by
      unfold nballs
      rw [List.count_cons]
      cases x <;> rfl
    rw [e, List.length_cons]
    cases x <;> simp <;> omega
theorem aj_le : ∀ (l : List Bool) (p : Bool), (aj p l).length ≤ l.length
  | [], _ => Nat.le_refl _
  | x :: l, p => by
    have := aj_le l x
    simp only [aj]
    split
    · simp; exact this
    · simp; omega
theorem aj_full : ∀ (l : List Bool) (p : Bool), (aj p l).length = l.length → ∀ x ∈ l, x = p
  | [], _, _ => by simp
  | x :: l, p, h => by
    have hl := aj_le l x
    simp only [aj] at h
    by_cases hp : p = x
    · subst hp
      rw [if_pos rfl] at h
      have ih := aj_full l p (by simpa using h)
      intro y hy
      rcases List.mem_cons.1 hy with rfl | hy
      · rfl
      · exact ih y hy
    · rw [if_neg hp] at h
      simp at h
      omega
theorem nballs_all {l : List Bool} {p : Bool} (h : ∀ x ∈ l, x = p) : nballs l = if p then l.length else 0 := by
  unfold nballs
  cases p
  · rw [if_neg (by simp), List.count_eq_zero]
    intro hm
    exact absurd (h true hm) (by simp)
  · rw [if_pos rfl]
    exact List.count_eq_length.2 (fun b hb => (h b hb).symm)
theorem c10_le (l : List Bool) : (c10 l).length ≤ l.length := by
  rw [(c10_rot l).length]
  exact aj_le _ _
/-- no neighbours: no balls -/
theorem c10_none {l : List Bool} (h : drf l < 0) (he : (c10 l).length = l.length) : nballs l = 0 := by
  rw [(c10_rot l).length] at he
  have := nballs_all (aj_full l (ls false l) he)
  rw [drf_balls] at h
  cases hp : ls false l
  · rw [hp] at this; simpa using this
  · rw [hp, if_pos rfl] at this; omega
theorem c10_balls (l : List Bool) : 2 * (nballs l - nballs (c10 l)) = l.length - (c10 l).length ∧ nballs (c10 l) ≤ nballs l := by
  have h1 := c10_drf l
  have h2 := c10_le l
  rw [drf_balls, drf_balls] at h1
  omega
theorem cnt10_sum : ∀ (f : Nat) {l : List Bool}, drf l < 0 → nballs l ≤ f → (cnt10 f l).sum = nballs l
  | 0, l, _, hf => by
    have : nballs l = 0 := by omega
    rw [this]; rfl
  | f + 1, l, h, hf => by
    simp only [cnt10]
    by_cases he : (c10 l).length = l.length
    · rw [if_pos he, c10_none h he]; rfl
    · rw [if_neg he]
      have hb := c10_balls l
      have hl := c10_le l
      have ih := cnt10_sum f (l := c10 l) (by rw [c10_drf]; exact h) (by omega)
      rw [List.sum_cons, ih]
      omega
/-- how often the sign changes -/
def chg (p : Bool) : List Bool → Nat
  | [] => 0
  | x :: l => (if p = x then 0 else 1) + chg x l
theorem chg_aj (p : Bool) (l : List Bool) : l.length = chg p l + (aj p l).length := by
  induction l generalizing p with
  | nil => rfl
  | cons x l ih =>
    have := ih x
    simp only [chg, aj, List.length_cons]
    split
    · simp; omega
    · omega
theorem chg_le : ∀ (l : List Bool) (p q : Bool), chg q (aj p l) ≤ chg p l + if q = p then 0 else 1
  | [], _, _ => by simp [aj, chg]
  | x :: l, p, q => by
    simp only [aj, chg]
    by_cases hp : p = x
    · subst hp
      rw [if_pos rfl, if_pos rfl]
      have := chg_le l p p
      rw [if_pos rfl] at this
      simp only [chg]
      omega
    · rw [if_neg hp, if_neg hp]
      have := chg_le l x q
      cases x <;> cases p <;> cases q <;> simp at hp this ⊢ <;> omega
theorem chg_even : ∀ (l : List Bool) (p : Bool), chg p l % 2 = (p ^^ ls p l).toNat
  | [], p => by simp [chg, ls]
  | x :: l, p => by
    have h := chg_even l x
    have e : ls p (x :: l) = ls x l := rfl
    rw [e]
    simp only [chg]
    obtain ⟨y, hy⟩ : ∃ y, y = ls x l := ⟨_, rfl⟩
    rw [← hy] at h ⊢
    cases x <;> cases p <;> cases y <;> simp at h ⊢ <;> omega
theorem chg_cyc (l : List Bool) : chg (ls false (caj l)) (caj l) ≤ chg (ls false l) l := by
  obtain ⟨p, hp⟩ : ∃ p, p = ls false l := ⟨_, rfl⟩
  obtain ⟨q, hq⟩ : ∃ q, q = ls false (caj l) := ⟨_, rfl⟩
  unfold caj at *
  rw [← hp] at hq ⊢
  rw [← hq]
  have h1 := chg_le l p q
  have h2 := chg_le l p p
  rw [if_pos rfl] at h2
  by_cases e : q = p
  · rw [if_pos e] at h1; exact h1
  · rw [if_neg e] at h1
    by_cases hn : aj p l = []
    · rw [hn]; exact Nat.zero_le _
    · have o1 := chg_even (aj p l) q
      have o2 := chg_even l p
      have e1 : ls q (aj p l) = q := by rw [ls_cons q false hn, ← hq]
      have e2 : ls p l = p := by
        cases l with
        | nil => exact absurd rfl hn
        | cons x l => rw [ls_cons p false (by simp), ← hp]
      rw [e1, Bool.xor_self] at o1
      rw [e2, Bool.xor_self] at o2
      simp at o1 o2
      omega
theorem cntaj_le : ∀ (f : Nat) (l : List Bool), ∀ x ∈ cntaj f l, x ≤ chg (ls false l) l / 2
  | 0, _, x, h => by simp [cntaj] at h
  | f + 1, l, x, h => by
    have hc := chg_aj (ls false l) l
    have e : (caj l).length = (aj (ls false l) l).length := rfl
    simp only [cntaj] at h
    split at h
    · simp at h
    · rcases List.mem_cons.1 h with rfl | h
      · rw [e]; omega
      · have := cntaj_le f (caj l) x h
        have := chg_cyc l
        omega
theorem cntaj_falls : ∀ (f : Nat) (l : List Bool), Falls (cntaj f l)
  | 0, _ => fun k => by simp [cntaj]
  | f + 1, l => by
    have ih := cntaj_falls f (caj l)
    intro k
    simp only [cntaj]
    split
    · simp
    · cases k with
      | succ k => simpa using ih k
      | zero =>
        simp only [List.getElem?_cons_succ, List.getElem?_cons_zero, Option.getD_some]
        cases hk : (cntaj f (caj l))[0]? with
        | none => exact Nat.zero_le _
        | some x =>
          have := cntaj_le f (caj l) x (List.mem_of_getElem? hk)
          have h1 := chg_cyc l
          have h2 := chg_aj (ls false l) l
          have e : (caj l).length = (aj (ls false l) l).length := rfl
          simp only [Option.getD_some]
          rw [e]
          omega
/-- the shape of a circle: as many as the balls -/
theorem cshape_sum {l : List Bool} (h : drf l < 0) : (shp (cnt10 (nballs l) l)).sum = nballs l := by
  rw [shp_sum (by rw [cnt10_aj]; exact cntaj_falls _ _), cnt10_sum _ h (Nat.le_refl _)]
end Go.Proofs.Ytkdhifofdghbbab

/- CIRCLES. Pure: no walk. Which boxes are paired in a round, and what lies there behind a turn. -/
namespace Go.Proofs.Ytkdhifofdghbbab

/-- a list's members at the marks -/
def sel {α : Type} : List Bool → List α → List α
  | m :: ms, x :: l => if m then x :: sel ms l else sel ms l
  | _, _ => []
def m10 (p : Bool) : List Bool → Bool → List Bool
  | [], _ => []
  | x :: l, q => (if x then hd l q else !p) :: m10 x l q
def m01 (p : Bool) : List Bool → Bool → List Bool
  | [], _ => []
  | x :: l, q => (if x then p else !(hd l q)) :: m01 x l q
theorem k10_sel : ∀ (l : List Bool) (p q : Bool), k10 p l q = sel (m10 p l q) l
  | [], _, _ => rfl
  | x :: l, p, q => by simp only [k10, m10, sel, k10_sel l x q]
theorem k01_sel : ∀ (l : List Bool) (p q : Bool), k01 p l q = sel (m01 p l q) l
  | [], _, _ => rfl
  | x :: l, p, q => by simp only [k01, m01, sel, k01_sel l x q]
theorem m10_length : ∀ (l : List Bool) (p q : Bool), (m10 p l q).length = l.length
  | [], _, _ => rfl
  | x :: l, p, q => by simp only [m10, List.length_cons, m10_length l x q]
/-- the marks of a turn are those of the row; where there is none, the turn has the other sign -/
theorem tn_m10 : ∀ (l : List Bool) (c : Nat) (p p' q : Bool), (0 < c → p' = !p) → (c = 0 → p = false) →
    m01 p' (tn c l) (!q && decide (0 < lend c l)) = m10 p l q
  | [], _, _, _, _, _, _ => rfl
  | x :: l, c, p, p', q, h1, h2 => by
    have e2 : hd (tn (lstp c x) l) (!q && decide (0 < lend (lstp c x) l)) = (!(hd l q) && decide (0 < lstp c x)) := by
      cases l <;> rfl
    have ih := tn_m10 l (lstp c x) x (!x && decide (0 < c)) q (by cases x <;> simp [lstp] <;> omega) (by cases x <;> simp [lstp])
    show (if (!x && decide (0 < c)) then p' else !(hd (tn (lstp c x) l) (!q && decide (0 < lend (lstp c x) l)))) :: m01 (!x && decide (0 < c)) (tn (lstp c x) l) (!q && decide (0 < lend (lstp c x) l)) = (if x then hd l q else !p) :: m10 x l q
    rw [e2, ih]
    congr 1
    cases x
    · by_cases h : 0 < c
      · rw [h1 h]; simp [h]
      · have h0 : c = 0 := by omega
        subst h0
        rw [h2 rfl]; simp [lstp]
    · simp [lstp]
theorem tn_other : ∀ (l : List Bool) (c : Nat) (p q : Bool) (j : Nat) (x : Bool), (c = 0 → p = false) → (m10 p l q)[j]? = some false → l[j]? = some x → (tn c l)[j]? = some (!x)
  | [], _, _, _, j, x, _, _, h => by simp at h
  | y :: l, c, p, q, 0, x, h2, hm, h => by
    have hx : y = x := by simpa using h
    subst hx
    cases y
    · have hp : p = true := by simpa [m10] using hm
      have hc : 0 < c := Nat.pos_of_ne_zero (fun e => by have := h2 e; rw [hp] at this; exact absurd this (by simp))
      simp [tn, hc]
    · simp [tn]
  | y :: l, c, p, q, j + 1, x, h2, hm, h => by
    have := tn_other l (lstp c y) y q j x (by cases y <;> simp [lstp]) (by simpa [m10] using hm) (by simpa using h)
    simpa [tn] using this
/-- the marks round the circle -/
def cm (l : List Bool) : List Bool := m10 (ls false l) l (hd l false)
theorem cm_length (l : List Bool) : (cm l).length = l.length := m10_length _ _ _
theorem c10_sel (l : List Bool) : c10 l = sel (cm l) l := k10_sel _ _ _
/-- what is known of the load at the start -/
theorem start_inv {l : List Bool} (h : drf l < 0) : (0 < lend 0 l → ls false (cturn l) = !(ls false l)) ∧ (lend 0 l = 0 → ls false l = false) := by
  have hne : l ≠ [] := by intro e; subst e; simp [drf] at h
  have hs := lend_stays h
  have k := ls_inv l (lend 0 l) false true hne (fun _ => rfl) (fun _ => rfl)
  rw [hs] at k
  have ht : tn (lend 0 l) l ≠ [] := by intro e; have := congrArg List.length e; rw [tn_length] at this; exact hne (List.eq_nil_of_length_eq_zero (by simpa using this))
  rw [ls_cons true false ht] at k
  exact k
theorem cturn_sel {l : List Bool} (h : drf l < 0) : cturn (c10 l) = sel (cm l) (cturn l) := by
  have hne : l ≠ [] := by intro e; subst e; simp [drf] at h
  obtain ⟨j1, j2⟩ := start_inv h
  have hs := lend_stays h
  rw [← c01_turn h]
  unfold c01 cm
  rw [k01_sel]
  have k := tn_m10 l (lend 0 l) (ls false l) (ls false (cturn l)) (hd l false) j1 j2
  rw [hs] at k
  have e : hd (cturn l) false = (!(hd l false) && decide (0 < lend 0 l)) := hd_tn _ _ _ hne
  rw [e]
  unfold cturn at k ⊢
  rw [k]
theorem cturn_other {l : List Bool} (h : drf l < 0) {j : Nat} {x : Bool} (hm : (cm l)[j]? = some false) (hx : l[j]? = some x) : (cturn l)[j]? = some (!x) :=
  tn_other l _ _ _ j x (start_inv h).2 hm hx
theorem cturn_still {l : List Bool} (h : nballs l = 0) : cturn l = l :=
  cturn_none l (fun x hx => by
    cases x
    · rfl
    · unfold nballs at h
      exact absurd hx (List.count_eq_zero.1 h))
end Go.Proofs.Ytkdhifofdghbbab
