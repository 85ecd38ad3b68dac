/- TEXTS OfF. -/
import Derived.Test.YtdooboibmllfkaaGreatDoorExa03
import Derived.Test.YtdooboibmllfkaaGreatDoorExa26
import Derived.Test.YtdooboibmllfkaaGreatDoorExa08
import Derived.Test.YtdooboibmllfkaaGreatDoorExa10
import Derived.Test.YtdooboibmllfkaaGreatDoorExa27
import Derived.Test.YtdooboibmllfkaaGreatDoorExa28
import Derived.Lib.SlKeysI
import Derived.Maps.OwnOps
import Derived.Maps.OwnIn
import Derived.Maps.RangeWalk
import Derived.Shelf.SlSortCmp.NoneTotal
import Derived.RangeFuncKeeps
namespace Go.Proofs.YtdooboibmllfkaaGreatDoor
set_option maxRecDepth 100000
open Go.RowKit Go.Shelf Go.Maps Go.Sort

attribute [local go_sem] Oper.semAt_some

def CntAt (w : World) (b n : Nat) (c : Int → Nat) : Prop :=
  ∃ D : DataW Unit, w.ownsMap Tryz.prog 3 (plainElem Tryz.prog 3) b n D ∧ (∀ x, D.atKey (.int .i64 x) (.lit (.int .i64 0)) = .lit (.int .i64 (c x : Int))) ∧ ∀ x, has D (.int .i64 x) = true ↔ c x ≠ 0

theorem CntAt.kept {w w' : World} {b n : Nat} {c : Int → Nat} {row : Option Nat} (h : CntAt w b n c) (hg : w.grownBy w' row) (hne : some b ≠ row) : CntAt w' b n c := by
  obtain ⟨D, h1, h2, h3⟩ := h
  exact ⟨D, h1.kept hg hne, h2, h3⟩
theorem CntAt.below {w w' : World} {b n B : Nat} {c : Int → Nat} (h : CntAt w b n c) (hb : Below B w w') (hB : b < B) : CntAt w' b n c := by
  obtain ⟨D, ⟨es, clock, h0, F, hs, hD⟩, h2, h3⟩ := h
  exact ⟨D, ⟨es, clock, (hb.block b hB).trans h0, F, hs, hD⟩, h2, h3⟩
theorem CntAt.lt {w : World} {b n : Nat} {c : Int → Nat} (h : CntAt w b n c) : b < w.heap.size := by
  obtain ⟨D, h1, _⟩ := h
  exact h1.lt
theorem cnt_made (w : World) : CntAt (w.alloc (.map #[] 0)) w.heap.size 0 (fun _ => 0) :=
  ⟨.map [], World.ownsMap_made _ _ _ _, fun _ => rfl, fun x => by simp [has]⟩
theorem cnt_put {D : DataW Unit} {c : Int → Nat} (hD : IsMap D) (h2 : ∀ x, D.atKey (.int .i64 x) (.lit (.int .i64 0)) = .lit (.int .i64 (c x : Int))) (h3 : ∀ x, has D (.int .i64 x) = true ↔ c x ≠ 0) (k : Int) :
    (∀ x, (D.put (.int .i64 k) (.lit (.int .i64 ((c k + 1 : Nat) : Int)))).atKey (.int .i64 x) (.lit (.int .i64 0)) = .lit (.int .i64 ((if x = k then c x + 1 else c x : Nat) : Int))) ∧ ∀ x, has (D.put (.int .i64 k) (.lit (.int .i64 ((c k + 1 : Nat) : Int)))) (.int .i64 x) = true ↔ (if x = k then c x + 1 else c x) ≠ 0 := by
  refine ⟨fun x => ?_, fun x => ?_⟩
  · by_cases e : x = k
    · subst e
      rw [if_pos rfl, atKey_put_same hD (show WideAt.IsKeyLit (.int .i64 x) from trivial)]
    · rw [if_neg e, atKey_put_other (fun h => e (by injection h))]
      exact h2 x
  · by_cases e : x = k
    · subst e
      rw [if_pos rfl, has_put_same hD (show WideAt.IsKeyLit (.int .i64 x) from trivial)]
      simp
    · rw [if_neg e, has_put_other (fun h => e (by injection h))]
      exact h3 x

def KeysOfC (c : Int → Nat) (ss : List Int) : Prop := ss.Nodup ∧ ∀ x, x ∈ ss ↔ c x ≠ 0

theorem keys_in (F : Fence) (n : Nat) (hf : F.fn 166) (hro : F.round = none) (mb : Option Nat) (w : World) :
    CallsIn F n Tryz.prog 166 #[.map mb] w fun e w' => e = .returned (.func (.func 191) #[] #[.pointer (some ⟨w.heap.size, 0, none⟩)]) ∧ w' = w.alloc (.cells #[.map mb] 121) := by
  refine callsIn_of_wp Tryz.func166 rfl hf ?_ hro
  simp only [Tryz.ntmps166, List.size_toArray, List.length_cons, List.length_nil, Nat.reduceAdd, Nat.reduceSub, Array.replicate_succ, Array.replicate_zero, List.push_toArray, List.append_toArray, List.nil_append, List.cons_append]
  gi_wp2
  go_ret
  exact ⟨rfl, rfl⟩

set_option maxRecDepth 100000 in
set_option maxHeartbeats 1000000 in
theorem keys1_in {D0 : DataW Unit} {R : Value → Option (DataW Unit × List MemPlace)} (F : Fence) (n : Nat) (h10 : F.fn 191) (hro : F.round = none) (hn : 1 ≤ n) (l Bm b nn : Nat) (J Jx : List Int → World → Prop)
    (hY : ∀ pre x W, J pre W → pre.length < Maps.size D0 → YieldAt F (n - 1) Tryz.prog l #[Go.encZ x] W fun e W' =>
      (e = .returned (.bool true) ∧ J (pre ++ [x]) W' ∧ KeepsWalks W W') ∨ (e = .returned (.bool false) ∧ Jx (pre ++ [x]) W'))
    (W : World) (hJ : AbidesFrom W.heap.size J) (hm : W.cell? ⟨Bm, 0, none⟩ = some (.map (some b))) (hown : W.ownsMap Tryz.prog 3 R b nn D0) (h0 : J [] W) :
    CallsIn F n Tryz.prog 191 #[.func (.yield l) #[] #[], .pointer (some ⟨Bm, 0, none⟩)] W fun e W' => (∃ v, e = .returned v) ∧
      ((∃ ss : List Int, (ss.Nodup ∧ ∀ x, x ∈ ss ↔ has D0 (.int .i64 x) = true) ∧ J ss W') ∨ (∃ pre : List Int, Jx pre W')) := by
  refine callsIn_of_wp Tryz.func191 rfl h10 ?_ hro
  simp only [Tryz.ntmps191, List.size_toArray, List.length_cons, List.length_nil, Nat.reduceAdd, Nat.reduceSub, Array.replicate_succ, Array.replicate_zero, List.push_toArray, List.append_toArray, List.nil_append, List.cons_append]
  gi_wp2_with (first
    | (gi_at_range; refine wpListIn_range_own _ rfl _ 121 rfl 3 3 (int_keyed Tryz.underlying3) Tryz.underlying121 _ b nn _ rfl hown ?_; intro w0 hrg0 hg0 hs0)
    | gi_in)
  go_frame
  gi_loopw [3] (fun _ wr => ∃ (left : Lit → Bool) (cnt : Nat) (ss : List Int), wr.ranges Tryz.prog 3 R b W.heap.size nn D0 left cnt ∧ ss.length + cnt ≤ Maps.size D0 ∧ CollectedI D0 left ss ∧ J ss wr)
    (fun _ wr => wr.rangeLeft b W.heap.size)
  case atStart =>
    exact ⟨_, _, [], hrg0, by simp, CollectedI.start D0, hJ [] W w0 none h0 hg0 (fun r e => by cases e)⟩
  case round =>
    obtain ⟨left, cnt, ss, hrg, hcs, hC, hJs⟩ := hrel
    gi_wp2_with (first
      | (gi_at_next; refine wpListIn_next_ranges _ rfl _ rfl 3 (int_keyed Tryz.underlying3) R Go.encZ id (fun key kl hk => by obtain ⟨x, hx, _⟩ := Maps.keyOf_i64 Tryz.underlying3 hk; exact ⟨x, hx⟩) (fun v _ _ => ⟨v, rfl⟩) b W.heap.size nn _ _ _ rfl hrg ?_ ?_)
      | gi_in)
    · intro hc0 hl0
      gi_wp2
      go_end0
      exact ⟨⟨_, rfl⟩, .inl ⟨ss, ⟨hC.1, fun x => by rw [hC.2 x, hl0]; simp⟩, hJs⟩⟩
    · intro x c kl yd yp w2 cnt2 hkey hlk hv hat hrg2 hlt hg2 hs2 hen
      obtain ⟨x', ex, rfl, _⟩ := Maps.keyOf_i64 Tryz.underlying3 hkey
      obtain rfl : x = x' := Go.encZ_inj ex
      have hJ2 : J ss w2 := hJ ss wr w2 (some W.heap.size) hJs hg2 (fun r e => by cases e; exact ⟨Nat.le_refl _, hrg.iter_walk⟩)
      obtain ⟨fn, tmps, assign, body, hy, hR⟩ := hY ss x w2 hJ2 (by omega)
      clear hs2
      gi_wp2
      refine hR.mono ?_
      have hC2 := hC.step hlk hat
      rintro e W3 (⟨rfl, hJ3, hk3⟩ | ⟨rfl, hJx3⟩)
      · gi_wp2
        have hrg3 := hrg2.of_walks hk3
        go_roundw
        case rel => exact ⟨_, cnt2, ss ++ [x], hrg3, by simp; omega, hC2, hJ3⟩
        case measure => rw [hrg3.left_eq, hrg.left_eq]; exact hlt
      · gi_wp2
        refine bodyPost_ret (results_none rfl _ _ _) rfl ?_
        exact ⟨⟨_, rfl⟩, .inr ⟨ss ++ [x], hJx3⟩⟩

theorem keys_stops (F : Fence) (n : Nat) (h10 : F.fn 191) (hro : F.round = none) (hn : 1 ≤ n) (Bm b nn : Nat) (c : Int → Nat) (w : World) (hBm : Bm < w.heap.size)
    (hm : w.cell? ⟨Bm, 0, none⟩ = some (.map (some b))) (hc : CntAt w b nn c) :
    SeqStopsK F n Tryz.prog 191 #[.pointer (some ⟨Bm, 0, none⟩)] (fun x : Int => #[Go.encZ x]) KeepsWalks (KeysOfC c) (fun _ => True) nn w := fun l J Jx W hW hJ _ hY h0 => by
  obtain ⟨D, h1, h2, h3⟩ := hc.below hW hc.lt
  have hsz := h1.size_le
  refine (keys1_in F n h10 hro hn l Bm b nn J Jx (fun pre x W1 hj hl => hY pre x W1 hj (by omega)) W hJ ((hW.cell (p := ⟨Bm, 0, none⟩) hBm).trans hm) h1 h0).mono ?_
  rintro e W' ⟨he, ⟨ss, ⟨hs1, hs2⟩, hj⟩ | ⟨pre, hj⟩⟩
  · exact ⟨he, .inl ⟨ss, ⟨hs1, fun x => (hs2 x).trans (h3 x)⟩, hj⟩⟩
  · exact ⟨he, .inr ⟨pre, trivial, hj⟩⟩

set_option maxRecDepth 100000 in
set_option maxHeartbeats 2000000 in
theorem appendSeqK_in (F : Fence) (n : Nat) (h1' : F.fn 222) (gf : Nat) (lb : Array Value) (h3 : F.fn gf) (eg : ∀ args w, (callFunc gf args).run Tryz.prog w = .ok (.enter gf args) w) (hro : F.round = none) (hn : 3 ≤ n)
    (S : List Int → Prop) (N : Nat) (hN : N ≤ 1000) (w : World) (hseq : SeqStopsK F (n - 1) Tryz.prog gf lb (fun x : Int => #[Go.encZ x]) KeepsWalks S (fun _ => True) N w) :
    CallsIn F n Tryz.prog 222 #[.slice none 0 0, .func (.func gf) #[] lb] w fun e W' => ∃ v ss, e = .returned v ∧ S ss ∧ ss.length ≤ N ∧
      W'.ownsRow w.heap.size 3 1 v ss.length (ss.map Go.encZ) ∧ Below w.heap.size w W' := by
  have h1 : 1 ≤ n := by omega
  obtain ⟨i0, hi, hz0, hz1, hz2⟩ := info_parts infoI
  refine callsIn_of_wp_marks Tryz.func222 rfl h1' ?_ hro
  simp only [Tryz.ntmps222, List.size_toArray, List.length_cons, List.length_nil, Nat.reduceAdd, Nat.reduceSub, Array.replicate_succ, Array.replicate_zero, List.push_toArray, List.append_toArray, List.nil_append, List.cons_append]
  gi_wp2
  have bO := Boxed.new w 79 (.slice none 0 0)
  have hB0 : Below w.heap.size w (w.alloc (.cells #[.slice none 0 0] 79)) := (Below.refl _ w).alloc (Nat.le_refl _) _
  refine wpIn_rangeFunc_ownG hro h1 (gf := gf) (lb := lb) rfl h3 eg
    hseq walksK_t walksK_b hB0 (fun _ => rfl)
    (fun (pre : List Int) W => (pre.length ≤ N ∧ ∃ v, Boxed W w.heap.size 79 v ∧ W.ownsRow w.heap.size 3 1 v pre.length (pre.map Go.encZ) ∧ True) ∧ Below w.heap.size w W)
    (fun _ _ _ => False)
    (OwnFrom.and (Own.from (fun s A B row hs hg hr => ⟨hs.1, holdsRow_own w.heap.size w.heap.size 79 3 1 (fun (pre : List Int) => pre.length) (fun (pre : List Int) => pre.map Go.encZ) (fun _ _ => True) s A B row hs.2 hg hr⟩) _) (ownFrom_below (Nat.le_refl _) (by simp)))
    (fun _ _ _ _ _ hs _ _ => hs)
    ⟨⟨Nat.zero_le _, _, bO, World.ownsRow_nil _ _ _ _, trivial⟩, hB0⟩
    (fun x => { tmps := #[.slice none 0 0, .func (.func gf) #[] lb, .pointer (some ⟨w.heap.size, 0, none⟩), undef, .slice none 0 0, Go.encZ x, .func (.func gf) #[] lb, Go.encZ x, undef, undef, undef, undef, undef], defers := [] }) ?assign ?body ?done ?stop
  case assign =>
    intro l x W K hK
    gi_wp2
    exact hK
  case body =>
    rintro l pre x W ⟨⟨_, v, hv, hrow, _⟩, hB⟩ hlt
    have hc := hv.cell
    gi_wp2_with (gi_at_builtin; refine wpListIn_append_own _ rfl _ _ 79 rfl w.heap.size 3 i0 (.int .i64 0) 1 8 Tryz.underlying79 hi hz0 hz1 hz2 rfl (by decide) _ _ _ rfl (hrow.alloc _) ⟨W.heap.size, 0, none⟩ 1 1 [Go.encZ x] rfl rfl (cell_one_new _ _ _) (by simp [Value.oneCell']) (by unfold maxLen; omega) (by omega) (by have := hB.size; simp; omega) ?_; intro v' w1 hown' hgrow _; obtain ⟨g', cap', rfl⟩ := ownsRow_succ hown'; obtain ⟨hv1, hv2, hr2, hk2, hb2⟩ := hv.appended (by decide) hrow hB.size (Nat.le_refl _) hown' hgrow; have hc1 := hv1.cell; have hf1 := hv1.frozen)
    exact ⟨hk2.from _, hk2.walks, ⟨by simp; omega, _, hv2, by simpa using hr2, trivial⟩, hB.trans hb2⟩
  case done =>
    rintro D ys W hD hS ⟨⟨hl, v, hv, hrow, _⟩, hB⟩ hK
    have hc := hv.cell
    gi_wp2
    refine ⟨by simp, .inl ⟨_, _, rfl, run_takeDeferred hK, ?_⟩⟩
    exact ⟨_, results_tmp rfl _ _ _, v, ys, rfl, hS, hl, ownsRow_putObj hrow _ hK rfl, hB.trans (belowK_b (w := w) (Nat.le_refl _) W D _ _ (by simp at hD; omega) hK rfl rfl)⟩
  case stop =>
    rintro D c pre W _ _ h _
    exact h.elim

set_option maxHeartbeats 1000000 in
theorem collectK_in (F : Fence) (n : Nat) (h0 : F.fn 189) (h1' : F.fn 222) (gf : Nat) (lb : Array Value) (h3 : F.fn gf) (eg : ∀ args w, (callFunc gf args).run Tryz.prog w = .ok (.enter gf args) w) (hro : F.round = none) (hn : 4 ≤ n)
    (S : List Int → Prop) (N : Nat) (hN : N ≤ 1000) (w : World) (hseq : SeqStopsK F (n - 1 - 1) Tryz.prog gf lb (fun x : Int => #[Go.encZ x]) KeepsWalks S (fun _ => True) N w) :
    CallsIn F n Tryz.prog 189 #[.func (.func gf) #[] lb] w fun e W' => ∃ v ss, e = .returned v ∧ S ss ∧ ss.length ≤ N ∧
      W'.ownsRow w.heap.size 3 1 v ss.length (ss.map Go.encZ) ∧ Below w.heap.size w W' := by
  have C := hide (appendSeqK_in F (n - 1) h1' gf lb h3 eg hro (by omega) S N hN w hseq)
  clear hseq
  have h1 : 1 ≤ n := by omega
  refine callsIn_of_wp Tryz.func189 rfl h0 ?_ hro
  simp only [Tryz.ntmps189, List.size_toArray, List.length_cons, List.length_nil, Nat.reduceAdd, Nat.reduceSub, Array.replicate_succ, Array.replicate_zero, List.push_toArray, List.append_toArray, List.nil_append, List.cons_append]
  gi_wp2_with (gi_at_call 222; refine C.out.mono ?_; rintro e w' ⟨v, ss, rfl, hS, hl, ho, hb⟩)
  go_ret
  exact ⟨v, ss, rfl, hS, hl, ho, hb⟩
end Go.Proofs.YtdooboibmllfkaaGreatDoor

namespace Go.Proofs.YtdooboibmllfkaaGreatDoor
set_option maxRecDepth 100000
open Go.RowKit Go.Shelf Go.Maps Go.Sort

def CmpIs (gc : Nat) (cf : Int → Int → Int) : Prop :=
  (∀ args w, (callFunc gc args).run Tryz.prog w = .ok (.enter gc args) w) ∧ (∀ (x y : Int) (W : World), Calls Tryz.prog gc #[.int .i64 x, .int .i64 y] W fun e w' => e = .returned (.int .i64 (cf x y)) ∧ W = w') ∧
    SWO (ltOf cf) ∧ ∀ x y, ltOf cf x y = false → ltOf cf y x = false → x = y

theorem ltCmp (x y : Int) : ltOf cmpI x y = decide (x < y) := by
  unfold ltOf cmpI
  by_cases h1 : x < y
  · simp [h1]
  · by_cases h2 : y < x <;> simp [h1, h2]
theorem ltFall (x y : Int) : ltOf (fun a b => cmpI b a) x y = decide (y < x) := ltCmp y x
theorem cmpUp : CmpIs 136 cmpI :=
  ⟨enters_of Tryz.func136 (by kernel_rfl) rfl, fun x y W => compare_any x y W,
    ⟨fun x => by rw [ltCmp]; simp, fun x y z h1 h2 => by rw [ltCmp] at *; simp at *; omega, fun x y z h1 h2 => by rw [ltCmp] at *; simp at *; omega⟩,
    fun x y h1 h2 => by rw [ltCmp] at *; simp at *; omega⟩
theorem cmpDown : CmpIs 151 (fun a b => cmpI b a) :=
  ⟨enters_of Tryz.func151 (by kernel_rfl) rfl, fun x y W => falling_any x y W,
    ⟨fun x => by rw [ltFall]; simp, fun x y z h1 h2 => by rw [ltFall] at *; simp at *; omega, fun x y z h1 h2 => by rw [ltFall] at *; simp at *; omega⟩,
    fun x y h1 h2 => by rw [ltFall] at *; simp at *; omega⟩

set_option maxRecDepth 100000 in
set_option maxHeartbeats 1000000 in
theorem sortedFunc_any (gf : Nat) (lb : Array Value) (eg : ∀ args w, (callFunc gf args).run Tryz.prog w = .ok (.enter gf args) w) (gc : Nat) (cf : Int → Int → Int) (hcmp : CmpIs gc cf)
    (S : List Int → Prop) (N : Nat) (hN : N ≤ 1000) (w : World) (hseq : SeqStopsK Fence.wide 2 Tryz.prog gf lb (fun x : Int => #[Go.encZ x]) KeepsWalks S (fun _ => True) N w) :
    Calls Tryz.prog 165 #[.func (.func gf) #[] lb, .func (.func gc) #[] #[]] w fun e W' => ∃ v ss, e = .returned v ∧ S ss ∧ ss.length ≤ N ∧
      W'.ownsRow w.heap.size 3 1 v ss.length ((ss.mergeSort fun x y => !ltOf cf y x).map Go.encZ) ∧ Below w.heap.size w W' := by
  have C := hide (callsIn_wide.1 (collectK_in Fence.wide 4 trivial trivial gf lb trivial eg rfl (Nat.le_refl _) S N hN w hseq))
  have CN := hide (fun (p : Option Addr) (cap : Nat) (fv : Value) (W : World) => Tryz.slices_SortFunc_none (α := Int) p cap fv W)
  have CT := hide (fun (blk cap : Nat) (ss : List Int) (W : World) (hH : Holds Go.encZ W blk 0 ss.toArray) (hb : blk < W.heap.size) (hs : ss.length < 4611686018427387904) =>
    Tryz.slices_SortFunc_total Go.encZ (fun _ => rfl) cf hcmp.2.2.1 gc #[] blk 0 cap ss.toArray W hcmp.1 (CmpReads.lays (fun m os dk _ x y => (hcmp.2.1 x y _).mono (by rintro e w' ⟨rfl, rfl⟩; exact ⟨rfl, 0, rfl⟩))) hH hb (by simpa using hs) hcmp.2.2.2)
  clear hseq hcmp
  go_enter Tryz.func165, Tryz.ntmps165
  go_wp2_with fail
  refine C.out.mono ?_
  rintro e W ⟨v, ss, rfl, hS, hl, hrow, hb⟩
  rcases hrow.2 with ⟨rfl, hz⟩ | ⟨gb, cap, cur, rfl, hbase, hgb, r1, r2, r3, r4⟩
  · have hss : ss = [] := List.eq_nil_of_length_eq_zero hz
    subst hss
    go_wp2_with fail
    refine (CN.out none 0 _ W).mono ?_
    rintro e w' ⟨rfl, rfl⟩
    go_wp2_with fail
    go_ret
    exact ⟨.slice none 0 0, [], rfl, hS, hl, by simpa using hrow, hb⟩
  · have hH : Holds Go.encZ W gb 0 ss.toArray := holds_of_block_i hgb (by simpa using r4)
    have hgl : gb < W.heap.size := (Array.getElem?_eq_some_iff.1 hgb).1
    have CS := hide (CT.out gb cap ss W hH hgl (by omega))
    rw [List.size_toArray] at CS
    have FIN : Hid (∀ nn os, (sortWorld Go.encZ W gb 0 nn (ss.toArray.toList.mergeSort fun x y => !ltOf cf y x).toArray os).ownsRow w.heap.size 3 1 (.slice (some ⟨gb, 0, none⟩) ss.length cap) ss.length ((ss.mergeSort fun x y => !ltOf cf y x).map Go.encZ) ∧ Below w.heap.size w (sortWorld Go.encZ W gb 0 nn (ss.toArray.toList.mergeSort fun x y => !ltOf cf y x).toArray os)) :=
      fun nn os => ⟨ownsRow_sorted_i (by simp) hbase hgb r1 r2 r3, hb.grown (grownBy_sorted_i _) hb.size (fun j hj => by cases hj; exact hbase)⟩
    clear hH hgb hrow r1 r2 r3 r4 CT CN
    go_wp2_with fail
    refine CS.out.mono ?_
    rintro e w' ⟨rfl, nn, os, rfl⟩
    obtain ⟨f1, f2⟩ := FIN.out nn os
    obtain ⟨W2, hW2⟩ : ∃ W2, W2 = sortWorld Go.encZ W gb 0 nn (ss.toArray.toList.mergeSort fun x y => !ltOf cf y x).toArray os := ⟨_, rfl⟩
    rw [← hW2] at f1 f2 ⊢
    have F1 := hide f1
    have F2 := hide f2
    clear f1 f2 hW2
    go_wp2_with fail
    go_ret
    exact ⟨_, ss, rfl, hS, hl, F1.out, F2.out⟩
end Go.Proofs.YtdooboibmllfkaaGreatDoor

namespace Go.Proofs.YtdooboibmllfkaaGreatDoor
set_option maxRecDepth 100000
open Go.RowKit Go.Shelf Go.Maps Go.Sort

theorem zeroI (w : World) : (zeroValue 3).run Tryz.prog w = .ok (.int .i64 0) w := by kernel_rfl
def ListOf (cf : Int → Int → Int) (c : Int → Nat) (ks : List Int) : Prop := ks.Pairwise (fun x y => ltOf cf y x = false) ∧ ks.Nodup ∧ ∀ x, x ∈ ks ↔ c x ≠ 0
theorem manyL_part (c : Int → Nat) (ks : List Int) (k : Nat) (x : Int) (h : ks[k]? = some x) : manyL c (ks.take (k + 1)) = manyL c (ks.take k) ++ List.replicate (c x) x ∧ (manyL c (ks.take k)).length + c x ≤ (manyL c ks).length := by
  have e : ks.take (k + 1) = ks.take k ++ [x] := by rw [List.take_add_one, h]; rfl
  have h1 := manyL_snoc c (ks.take k) x
  refine ⟨by rw [e, h1], ?_⟩
  have h2 := manyL_le c (ks.take (k + 1)) (ks.drop (k + 1))
  rw [List.take_append_drop, e, h1, List.length_append, List.length_replicate] at h2
  exact h2

def ListRel (w2 : World) (c : Int → Nat) (ks : List Int) (v i : Value) (wr : World) : Prop :=
  ∃ k : Nat, k ≤ ks.length ∧ i = .int .i64 (k : Int) ∧ Hid (wr.ownsRow w2.heap.size 3 1 v (manyL c (ks.take k)).length ((manyL c (ks.take k)).map (.int .i64))) ∧ Hid (Below w2.heap.size w2 wr) ∧ w2.heap.size ≤ wr.heap.size

set_option maxRecDepth 100000 in
set_option maxHeartbeats 2000000 in
theorem list_any (b n : Nat) (c : Int → Nat) (gc : Nat) (cf : Int → Int → Int) (hcmp : CmpIs gc cf) (w : World) (hc : CntAt w b n c) (hn : n ≤ 1000) (hM : ∀ ks, KeysOfC c ks → (manyL c ks).length ≤ 1000) (hX : ∀ x, c x ≠ 0 → 1 ≤ x ∧ x ≤ 1000) :
    Calls Tryz.prog 135 #[.map (some b), .func (.func gc) #[] #[]] w fun e w' => ∃ v ks, e = .returned v ∧ ListOf cf c ks ∧ IntsV w.heap.size w' v (manyL c ks) ∧ Below w.heap.size w w' := by
  obtain ⟨i0, hi, hz0, hz1, hz2⟩ := info_parts infoI
  have hbl := hc.lt
  have K1 := hide (callsIn_wide.1 (keys_in Fence.wide 1 trivial rfl (some b) w))
  have hc1 : CntAt (w.alloc (.cells #[.map (some b)] 121)) b n c := hc.below ((Below.refl _ w).alloc (Nat.le_refl _) _) hbl
  have SF := hide (sortedFunc_any 191 #[.pointer (some ⟨w.heap.size, 0, none⟩)] (enters_of Tryz.func191 (by kernel_rfl) rfl) gc cf hcmp (KeysOfC c) n hn (w.alloc (.cells #[.map (some b)] 121))
    (keys_stops Fence.wide 2 trivial rfl (by omega) w.heap.size b n c _ (by simp) (by simp) hc1))
  have HTOT := hide hcmp.2.2
  have HM := hide hM
  have HX := hide hX
  have HCN := hide hc
  clear hcmp hc hc1 hM hX
  go_enter Tryz.func135, Tryz.ntmps135
  go_wp2_with fail
  refine K1.out.mono ?_
  rintro e w1 ⟨rfl, rfl⟩
  go_wp2_with fail
  refine SF.out.mono ?_
  rintro e w2 ⟨v0, ss, rfl, hS, hl, hrow, hb⟩
  rw [World.size_alloc] at hrow hb
  have hz2' : w.heap.size + 1 ≤ w2.heap.size := by have := hb.size; simpa using this
  have hb2 : Below w.heap.size w w2 := ((Below.refl w.heap.size w).alloc (Nat.le_refl _) _).trans (hb.mono (Nat.le_succ _))
  have HCN2 := hide (HCN.out.below hb2 hbl)
  have hbl2 : b < w2.heap.size := by omega
  obtain ⟨ks, hks⟩ : ∃ ks, ks = ss.mergeSort fun x y => !ltOf cf y x := ⟨_, rfl⟩
  rw [← hks] at hrow
  have hperm : ks.Perm ss := by rw [hks]; exact List.mergeSort_perm _ _
  have hlk : ks.length = ss.length := hperm.length_eq
  have HK : Hid (KeysOfC c ks) := ⟨hperm.nodup_iff.2 hS.1, fun x => (hperm.mem_iff).trans (hS.2 x)⟩
  have HLO : Hid (ListOf cf c ks) := by
    refine ⟨?_, HK.out.1, HK.out.2⟩
    rw [hks]
    have hp := List.pairwise_mergeSort (le := fun x y => !ltOf cf y x) (fun x y z h1 h2 => by simp only [Bool.not_eq_true'] at *; exact HTOT.out.1.ntrans z y x h2 h1) (fun x y => by
      cases h1 : ltOf cf y x
      · rfl
      · cases h2 : ltOf cf x y
        · rfl
        · have := HTOT.out.1.trans x y x h2 h1; rw [HTOT.out.1.irrefl] at this; cases this) ss
    exact hp.imp (fun h => by simpa using h)
  have hlen1000 := HM.out ks HK.out
  rw [← hlk] at hl hrow
  obtain ⟨a, cp, rfl⟩ := own_slice hrow
  have HF : Hid (0 < ks.length → ∃ q, a = some ⟨q, 0, none⟩ ∧ CellsAt w2 q (ks.map (.int .i64))) := by
    intro h
    obtain ⟨q, cap, h1, _⟩ := ownsRow_form hrow h
    injection h1 with h1 _ h2
    subst h1; subst h2
    exact ⟨q, rfl, CellsAt.of_owns hrow⟩
  have HB2 := hide hb2
  obtain ⟨nk, hnk⟩ : ∃ n, n = ks.length := ⟨_, rfl⟩
  have HNK := hide hnk
  rw [← hnk] at HF hl ⊢
  clear hks hperm hlk hrow hb hb2 hS SF K1 hnk
  go_wp2
  go_loopw [5, 13] (ListRel w2 c ks) (fun _ i _ => nk - (Go.RowKit.intOf i).toNat)
  case atStart => exact ⟨0, Nat.zero_le _, rfl, World.ownsRow_nil _ _ _ _, Below.refl _ _, Nat.le_refl _⟩
  case round =>
    obtain ⟨k, hk, rfl, HO, HBW, hz⟩ := hrel
    rw [← HNK.out] at hk
    by_cases hlt : k < nk
    · obtain ⟨q, rfl, hq⟩ := HF.out (by omega)
      obtain ⟨x, hx⟩ : ∃ x, ks[k]? = some x := ⟨_, List.getElem?_eq_getElem (by rw [← HNK.out]; exact hlt)⟩
      have hcell := ((hq.below' HBW.out (Nat.le_refl _)) k (.int .i64 x) (by rw [List.getElem?_map, hx]; rfl)).1
      obtain ⟨hp1, hp2⟩ := manyL_part c ks k x hx
      have hx0 : c x ≠ 0 := (HK.out.2 x).1 (List.mem_of_getElem? hx)
      obtain ⟨D, hD, hat, _⟩ := HCN2.out.below HBW.out hbl2
      have hatx := hat x
      obtain ⟨m, hm⟩ : ∃ m, m = c x := ⟨_, rfl⟩
      rw [← hm] at hp1 hp2 hx0 hatx
      have HP1 := hide hp1
      have RP := hide (fun W (h : W.cell? ⟨wr.heap.size, 0, none⟩ = some (.int .i64 x)) => repI_any (.int .i64 x) m wr.heap.size W (by omega) (by omega) rfl h)
      have hD2 := hD.alloc (.cells #[.int .i64 x] 3)
      obtain ⟨x0, x1⟩ := HX.out x (by rw [← hm]; exact hx0)
      have HKEY := hide (keyOf_int_mk (P := Tryz.prog) (k := 3) (q := .i64) (a := x) Tryz.underlying3 (by simp [Lit.wf]; have m2 : IntKind.i64.max = 9223372036854775807 := rfl; have m3 : IntKind.i64.min = -9223372036854775808 := rfl; omega))
      have HATX := hide hatx
      have HD2 := hide hD2
      have q0 : (0 : Int) ≤ (k : Int) := by omega
      have q1 : (k : Int) < (nk : Int) := by omega
      have hb3 : Below w2.heap.size w2 (wr.alloc (.cells #[.int .i64 x] 3)) := HBW.out.alloc hz _
      have HB3 := hide hb3
      have HO3 := hide (HO.out.alloc (.cells #[.int .i64 x] 3))
      clear hx hq hp1 hat hm hD hatx hD2 hb3
      go_wp2_with (first
        | (at_lookup; refine wpList_lookup_own_int _ rfl _ _ 121 rfl 3 3 .i64 (int_keyed Tryz.underlying3) Tryz.underlying121 Tryz.underlying3 (zeroI _) b n _ rfl HD2.out _ _ rfl HKEY.out ?_; intro z hatz hwz; obtain rfl : (m : Int) = z := (by have h := HATX.out.symm.trans hatz; injection h with h; injection h with _ h); clear hatz hwz)
        | (go_at_call 167; refine (RP.out _ (by simp)).mono ?_; rintro e w4 ⟨rfl, hb4, hz4, hcl4⟩; rw [World.size_alloc] at hb4 hz4 hcl4; have HCL4 := hide hcl4; have HB4 := hide (HB3.out.trans (hb4.mono (by omega))); have HO4 := hide (owns_below HO3.out hb4 (by simp)); clear hcl4 hb4)
        | (at_builtin; refine wpList_append_own _ rfl _ _ 79 rfl w2.heap.size 3 i0 (.int .i64 0) 1 8 Tryz.underlying79 hi hz0 hz1 hz2 rfl (by decide) _ _ _ rfl HO4.out ⟨wr.heap.size + 1, 0, none⟩ m m (List.replicate m (.int .i64 x)) rfl (by simp) HCL4.out.src (by intro u hu; rw [List.mem_replicate] at hu; rw [hu.2]; rfl) (by unfold maxLen; omega) (by omega) (by omega) ?_; intro v' w5 hown' hgrow _))
      go_roundw
      case rel =>
        have hsg := hgrow.size
        refine ⟨k + 1, by rw [← HNK.out]; omega, by go_num, ?_, HB4.out.grown hgrow (by omega) (fun b e => (HO4.out.lt b e).1), by omega⟩
        show World.ownsRow _ _ _ _ _ _ _
        rw [HP1.out, List.length_append, List.length_replicate, List.map_append, List.map_replicate]; exact hown'
      case measure => simp [Go.RowKit.intOf]; omega
    · have hkn : k = nk := by omega
      have hfin : ks.take k = ks := List.take_of_length_le (by rw [← HNK.out]; omega)
      rw [hfin] at HO
      clear hfin
      go_wp2
      go_ret
      exact ⟨_, ks, rfl, HLO.out, (IntsV.of_owns (e := 3) HO.out).mono (by omega), HB2.out.trans (HBW.out.mono (by omega))⟩
end Go.Proofs.YtdooboibmllfkaaGreatDoor

namespace Go.Proofs.YtdooboibmllfkaaGreatDoor
set_option maxRecDepth 100000
open Go.RowKit Go.Shelf Go.Maps Go.Sort

def cntL (L : List Int) (x : Int) : Nat := L.count x
theorem cntL_snoc (L : List Int) (k x : Int) : cntL (L ++ [k]) x = if x = k then cntL L x + 1 else cntL L x := by
  unfold cntL
  rw [List.count_append]
  by_cases e : x = k
  · subst e; simp
  · rw [if_neg e, List.count_eq_zero_of_not_mem (l := [k]) (by simpa using e)]; rfl
theorem CntAt.ext {w : World} {b n : Nat} {c c' : Int → Nat} (h : CntAt w b n c) (e : ∀ x, c x = c' x) : CntAt w b n c' := by
  obtain rfl : c = c' := funext e
  exact h
theorem wf_small (x : Int) (h0 : 0 ≤ x) (h1 : x ≤ 1000) : (Lit.int .i64 x).wf = true := by
  have m2 : IntKind.i64.max = 9223372036854775807 := rfl
  have m3 : IntKind.i64.min = -9223372036854775808 := rfl
  simp [Lit.wf]; omega

def OfRndRel (r : List Nat) (w : World) (k : Value) (wr : World) : Prop :=
  ∃ m : Nat, m ≤ r.headD 0 ∧ k = .int .i64 ((m : Int) + 1) ∧ Hid (CntAt wr w.heap.size m (cntL (ni ((shp r).take m)))) ∧ Hid (Below w.heap.size w wr) ∧ w.heap.size ≤ wr.heap.size

set_option maxRecDepth 100000 in
set_option maxHeartbeats 2000000 in
theorem shapeOfRounds_any (v : Value) (r : List Nat) (w : World) {lo : Nat} (hF : Falls r) (hlen : r.length ≤ 120) (hall : ∀ x ∈ r, x ≤ 120) (h : IntsV lo w v (ni r)) :
    Calls Tryz.prog 149 #[v] w fun e w' => e = .returned (.map (some w.heap.size)) ∧ CntAt w' w.heap.size 120 (cntL (ni (shp r))) ∧ Below w.heap.size w w' := by
  obtain ⟨a, cp, rfl, hf⟩ : ∃ a c, v = .slice a r.length c ∧ (0 < r.length → ∃ g, a = some ⟨g, 0, none⟩ ∧ CellsAt w g ((ni r).map (.int .i64))) := by
    rcases h with ⟨a, c, rfl, h0⟩ | ⟨g, c, rfl, _, _, _, hc⟩
    · have : r = [] := by cases r with
        | nil => rfl
        | cons x t => simp [ni] at h0
      subst this
      exact ⟨a, c, rfl, fun h => by simp at h⟩
    · exact ⟨_, c, by rw [ni_length], fun _ => ⟨g, rfl, hc⟩⟩
  have hmm := @run_makeMap Tryz.prog
  have hhd : r.headD 0 ≤ 120 := by cases r with
    | nil => exact Nat.zero_le _
    | cons x t => exact hall x (List.mem_cons_self ..)
  obtain ⟨n, hn⟩ : ∃ n, n = r.length := ⟨_, rfl⟩
  have HN := hide hn
  have HF := hide hf
  have HFALL := hide hF
  rw [← hn] at hlen HF ⊢
  clear hn hf h hall hF
  go_enter Tryz.func149, Tryz.ntmps149
  go_wp2
  clear hmm
  go_loopw [4] (OfRndRel r w) (fun k _ => 122 - (Go.RowKit.intOf k).toNat)
  case atStart => exact ⟨0, Nat.zero_le _, rfl, (cnt_made w).ext (fun x => by simp [cntL, ni]), (Below.refl _ _).alloc (Nat.le_refl _) _, by simp⟩
  case round =>
    obtain ⟨m, hm, rfl, HC, HBW, hz⟩ := hrel
    have p0 : (0 : Int) ≤ (m : Int) := by omega
    have p1 : (m : Int) ≤ 120 := by omega
    go_wp2
    go_loop [5, 13] (fun s i => ∃ j : Nat, j ≤ n ∧ i = .int .i64 (j : Int) ∧ s = .int .i64 (((r.take j).countP (fun y => decide (m < y)) : Nat) : Int)) (fun _ i => n - (Go.RowKit.intOf i).toNat)
    case atStart => exact ⟨0, Nat.zero_le _, rfl, rfl⟩
    case round =>
      obtain ⟨j, hj, rfl, rfl⟩ := hrel
      have hcl : (r.take j).countP (fun y => decide (m < y)) ≤ j := Nat.le_trans List.countP_le_length (by rw [List.length_take]; omega)
      by_cases hjl : j < n
      · obtain ⟨q, rfl, hq⟩ := HF.out (by omega)
        obtain ⟨y, hy⟩ : ∃ y, r[j]? = some y := ⟨_, List.getElem?_eq_getElem (by rw [← HN.out]; exact hjl)⟩
        have hcj : wr.cell? ⟨q, j, none⟩ = some (.int .i64 (y : Int)) := ((hq.below' HBW.out (Nat.le_refl _)) j _ (by rw [List.getElem?_map, ni_getElem, hy]; rfl)).1
        have HC2 := hide (count_take_succ r m j y hy)
        obtain ⟨n0, hn0⟩ : ∃ n0, n0 = (r.take j).countP (fun y => decide (m < y)) := ⟨_, rfl⟩
        rw [← hn0] at hcl HC2 ⊢
        clear hn0 hy hq
        have i0 : (0 : Int) ≤ (j : Int) := by omega
        have i1 : (j : Int) < (n : Int) := by omega
        by_cases hmy : m < y
        · have HC3 := hide (HC2.out.trans (by rw [if_pos hmy]))
          clear HC2
          have d2 : (m : Int) + 1 ≤ (y : Int) := by omega
          go_wp2
          go_round
          case rel => exact ⟨j + 1, by omega, by go_num, by rw [HC3.out]; rfl⟩
          case measure => simp [Go.RowKit.intOf]; omega
        · have HC3 := hide (HC2.out.trans (by rw [if_neg hmy, Nat.add_zero]))
          clear HC2
          have d2 : ¬ (m : Int) + 1 ≤ (y : Int) := by omega
          go_wp2
          go_round
          case rel => exact ⟨j + 1, by omega, by go_num, by rw [HC3.out]⟩
          case measure => simp [Go.RowKit.intOf]; omega
      · have hjn : j = n := by omega
        have hfull : r.take j = r := List.take_of_length_le (by rw [← HN.out]; omega)
        rw [hfull] at hcl ⊢
        clear hfull
        by_cases hlt : m < r.headD 0
        · have HS := hide (shp_take_succ r m hlt)
          have hpos : 1 ≤ r.countP (fun x => decide (m < x)) := shp_pos HFALL.out _ (List.mem_of_getElem? (shp_get r m hlt))
          obtain ⟨n0, hn0⟩ : ∃ n0, n0 = r.countP (fun x => decide (m < x)) := ⟨_, rfl⟩
          rw [← hn0] at hcl hpos HS ⊢
          clear hn0
          obtain ⟨D, hD, hat, hhas⟩ := HC.out
          have HKEY := hide (keyOf_int_mk (P := Tryz.prog) (k := 3) (q := .i64) (a := (n0 : Int)) Tryz.underlying3 (wf_small _ (by omega) (by omega)))
          have hcle : cntL (ni ((shp r).take m)) (n0 : Int) ≤ m := by
            unfold cntL
            refine Nat.le_trans List.count_le_length ?_
            rw [ni_length, List.length_take]; omega
          have PUT := hide (fun (w5 : World) (h5 : w5.ownsMap Tryz.prog 3 (plainElem Tryz.prog 3) w.heap.size (m + 1) (D.put (.int .i64 (n0 : Int)) (.lit (.int .i64 ((cntL (ni ((shp r).take m)) (n0 : Int) + 1 : Nat) : Int))))) =>
            (show CntAt w5 w.heap.size (m + 1) (cntL (ni ((shp r).take (m + 1)))) from by
              obtain ⟨e1, e2⟩ := cnt_put hD.isMap hat hhas (n0 : Int)
              have e3 : ∀ x, (if x = (n0 : Int) then cntL (ni ((shp r).take m)) x + 1 else cntL (ni ((shp r).take m)) x) = cntL (ni ((shp r).take (m + 1))) x := fun x => by rw [HS.out, ni_snoc, cntL_snoc]
              exact CntAt.ext ⟨_, h5, e1, e2⟩ e3))
          have HAT := hide (hat (n0 : Int))
          obtain ⟨z0, hz0⟩ : ∃ z, z = cntL (ni ((shp r).take m)) (n0 : Int) := ⟨_, rfl⟩
          rw [← hz0] at hcle HAT PUT
          have HD := hide hD
          have d0 : ((n0 : Int) == 0) = false := beq_eq_false_iff_ne.2 (by omega)
          clear hz0 hat hhas hD
          subst hjn
          go_wp2_with (first
            | (at_lookup; refine wpList_lookup_own_int _ rfl _ _ 121 rfl 3 3 .i64 (int_keyed Tryz.underlying3) Tryz.underlying121 Tryz.underlying3 (zeroI _) w.heap.size m _ rfl HD.out _ _ rfl HKEY.out ?_; intro z hatz hwz; obtain rfl : (z0 : Int) = z := (by have h := HAT.out.symm.trans hatz; injection h with h; injection h with _ h); clear hatz hwz)
            | (at_mapUpdate; refine wpList_mapUpdate_own _ rfl _ _ _ 121 rfl 3 3 (int_keyed Tryz.underlying3) Tryz.underlying121 _ w.heap.size m _ rfl HD.out (by unfold maxLen; omega) _ _ _ rfl rfl HKEY.out _ [] (plainElem_int Tryz.underlying3 (wf_small ((z0 : Int) + 1) (by omega) (by omega))) ?_; intro w5 hown5 hgrow5))
          go_roundw
          case rel => exact ⟨m + 1, by omega, by go_num, PUT.out w5 hown5, HBW.out.grown hgrow5 hz (fun b e => by cases e; exact Nat.le_refl _), Nat.le_trans hz hgrow5.size⟩
          case measure => simp [Go.RowKit.intOf]; omega
        · have hmx : m = r.headD 0 := by omega
          have hz0 : r.countP (fun x => decide (m < x)) = 0 := by
            rw [List.countP_eq_zero]
            intro y hy
            have := headD_le HFALL.out y hy
            simp; omega
          have hfin : (shp r).take m = shp r := List.take_of_length_le (by rw [shp_length]; omega)
          rw [hfin] at HC
          rw [hz0]
          have FIN : Hid (CntAt wr w.heap.size 120 (cntL (ni (shp r)))) := by
            obtain ⟨D, h1, h2⟩ := HC.out
            exact ⟨D, h1.mono (by omega), h2⟩
          clear hfin hz0 hcl
          go_wp2
          go_ret
          exact ⟨rfl, FIN.out, HBW.out⟩

theorem cntL_pos (L : List Int) (x : Int) : cntL L x ≠ 0 ↔ x ∈ L := by
  unfold cntL
  rw [← List.count_pos_iff]; omega
theorem manyL_perm {L ks : List Int} (h : KeysOfC (cntL L) ks) : (manyL (cntL L) ks).Perm L := by
  rw [List.perm_iff_count]
  intro y
  rw [manyL_count _ y ks h.1]
  by_cases e : y ∈ ks
  · rw [if_pos e]; rfl
  · rw [if_neg e, List.count_eq_zero_of_not_mem (fun h2 => e ((h.2 y).2 ((cntL_pos L y).2 h2)))]
theorem falls_pairwise : ∀ l : List Nat, Falls l → (ni l).Pairwise (fun x y => y ≤ x) := by
  intro l
  induction l with
  | nil => intro _; exact List.Pairwise.nil
  | cons x t ih =>
    intro h
    show ((x : Int) :: ni t).Pairwise _
    rw [List.pairwise_cons]
    refine ⟨fun y hy => ?_, ih h.tail⟩
    unfold ni at hy
    obtain ⟨z, hz, rfl⟩ := List.mem_map.1 hy
    have := h.le z hz
    show (z : Int) ≤ (x : Int)
    omega
theorem down_all {L ks : List Int} (hL : L.Pairwise (fun x y => y ≤ x)) (h : ListOf (fun a b => cmpI b a) (cntL L) ks) : manyL (cntL L) ks = L := by
  refine manyL_all (r := fun x y => y ≤ x) (fun a => Int.le_refl a) (fun a b h1 h2 => Int.le_antisymm h2 h1) hL ?_ h.2.1 (fun x => (h.2.2 x).trans (cntL_pos L x))
  exact h.1.imp (fun {a b} hab => by rw [ltFall] at hab; simp at hab; exact hab)
theorem up_all {L ks : List Int} (hL : L.Pairwise (fun x y => x ≤ y)) (h : ListOf cmpI (cntL L) ks) : manyL (cntL L) ks = L := by
  refine manyL_all (r := fun x y => x ≤ y) (fun a => Int.le_refl a) (fun a b h1 h2 => Int.le_antisymm h1 h2) hL ?_ h.2.1 (fun x => (h.2.2 x).trans (cntL_pos L x))
  exact h.1.imp (fun {a b} hab => by rw [ltCmp] at hab; simp at hab; exact hab)

set_option maxRecDepth 100000 in
set_option maxHeartbeats 1000000 in
theorem implShapeOf_any (s : ByteArray) (w : World) (hs : s.size ≤ maxLen) :
    Calls Tryz.prog 116 #[.string s] w fun e w' => ∃ v, e = .returned (.tuple #[v, .bool (vld s)]) ∧ IntsV w.heap.size w' v (shR s) ∧ Below w.heap.size w w' := by
  unfold shR
  cases hv : vld s
  · go_enter Tryz.func116, Tryz.ntmps116
    go_wp2_with (go_at_call 132; refine (readRow_no _ _ hs hv).mono ?_; rintro e w' ⟨rfl, rfl⟩)
    go_ret2
    exact ⟨_, rfl, .inl ⟨_, _, rfl, rfl⟩, Below.refl _ _⟩
  · have h120 := vld_le s hv
    have hnb : nballs (bits s) ≤ 120 := by
      have h1 := nballs_le (bits s) s.size
      rw [List.take_of_length_le (by rw [length_bits]; exact Nat.le_refl _)] at h1
      omega
    have C1 := hide (fun w => readRow_yes s w hv)
    have C2 := hide (fun (w1 : World) (hb1 : Below w.heap.size w w1) (hc1 : CellsAt w1 w.heap.size ((bits s).map .bool)) (hz1 : w.heap.size < w1.heap.size) => readRounds s w w1 hv hb1 hc1 hz1)
    rw [if_pos rfl]
    obtain ⟨b1, b2⟩ := rdB_bd (bits s)
    have hF := rdB_falls (bits s)
    have hsum : (shB3 (bits s)).sum = nballs (bits s) := by unfold shB3; rw [shp_sum hF, rdB_total]
    have hE : shB3 (bits s) = shp (rdB (bits s)) := rfl
    rw [hE] at hsum ⊢
    obtain ⟨t, ht⟩ : ∃ t, t = tl (bits s) := ⟨_, rfl⟩
    obtain ⟨r, hr⟩ : ∃ r, r = rdB (bits s) := ⟨_, rfl⟩
    rw [← ht] at C1 C2
    rw [← hr] at C2 hF hsum b1 b2 ⊢
    have hrl : r.length ≤ 120 := by omega
    have hall : ∀ x ∈ r, x ≤ 120 := fun x hx => Nat.le_trans (b2 x hx) hnb
    have hsl : (shp r).length ≤ 120 := by
      rw [shp_length]
      cases r with
      | nil => exact Nat.zero_le _
      | cons x q => exact hall x (List.mem_cons_self ..)
    have C3 := hide (fun (v : Value) (w : World) (lo : Nat) (h : IntsV lo w v (ni r)) => shapeOfRounds_any v r w hF hrl hall h)
    have C4 := hide (fun (b : Nat) (w : World) (hc : CntAt w b 120 (cntL (ni (shp r)))) => list_any b 120 (cntL (ni (shp r))) 151 (fun a b => cmpI b a) cmpDown w hc (by omega)
      (fun ks hk => by rw [(manyL_perm hk).length_eq, ni_length]; omega)
      (fun x hx => by
        have hm := (cntL_pos _ x).1 hx
        unfold ni at hm
        obtain ⟨y, hy, rfl⟩ := List.mem_map.1 hm
        have a1 := shp_pos hF y hy
        have a2 := mem_le_sum _ y hy
        omega))
    have HP := hide (falls_pairwise _ (shp_falls r))
    clear ht hr hE hsum b1 b2 hF hall hsl hrl
    go_enter Tryz.func116, Tryz.ntmps116
    go_wp2_with fail
    refine (C1.out _).mono ?_
    rintro e w1 ⟨rfl, hb1, hc1, hz1⟩
    have C5 := hide (C2.out w1 hb1 hc1 hz1)
    clear hc1 C1 C2
    go_wp2_with fail
    refine C5.out.mono ?_
    rintro e w2 ⟨v, rfl, hi, hb⟩
    have C6 := hide (C3.out v w2 _ hi)
    clear hi C3 C5
    go_wp2_with fail
    refine C6.out.mono ?_
    rintro e w3 ⟨rfl, hc3, hb3⟩
    have C7 := hide (C4.out w2.heap.size w3 hc3)
    have hz2 := hb.size
    have hB3 := hb.trans (hb3.mono hz2)
    have hz3 := hB3.size
    clear hc3 C4 C6
    go_wp2_with fail
    refine C7.out.mono ?_
    rintro e w4 ⟨v4, ks, rfl, hl4, hi4, hb4⟩
    rw [down_all HP.out hl4] at hi4
    clear hl4 C7
    go_wp2_with fail
    go_ret2
    exact ⟨v4, rfl, hi4.mono hz3, hB3.trans (hb4.mono hz3)⟩
end Go.Proofs.YtdooboibmllfkaaGreatDoor
