/- TEXTS InLaws, IRead. -/
import Derived.WalkKit
import Derived.OwnWalk
import Derived.OwnWalkIn
import Derived.Laws.CopyOwn
import Derived.Test.Ytkdhifofdghbbabexc11
import Derived.Test.Ytkdhifofdghbbabexc08
import Derived.Test.Ytkdhifofdghbbabexc10
/- TWO LAWS INSIDE A FENCE that the library has for the plain walk alone: a make of n zero elements; a copy into a row. Nothing of the program is named here. -/
namespace Go.Proofs.Ytkdhifofdghbbab
open Go.RowKit

theorem wpListIn_make_full {F : Fence} {f : Nat} {P : Program} (w : World) {ops : Array Oper} {rest : List Oper} {o : Oper} {a : Act} {Q : Exit → Act → World → Prop}
    (hg : o.guard = none) (l c : Operand) (t : TypeId) (hop : o.op = Op.makeSlice t l c)
    (base : Nat) (e : TypeId) (i : TypeInfo) (z : Value) (size : Nat) (h1 : P.underlying t = some (.slice e)) (h2 : P.info? e = some i) (h3 : i.zero = some z) (h4 : i.size = size)
    (kl kc : IntKind) (L C : Int) (n : Nat) (hl : a.eval l = .int kl L) (hc : a.eval c = .int kc C) (hL : L = (n : Int)) (hC : C = (n : Int)) (b2 : i.bytes * n ≤ 281474976710656) (b3 : n ≤ maxLen) (b4 : base ≤ w.heap.size)
    (hK : ∀ w', w'.ownsRow base e size (.slice (some ⟨w.heap.size, 0, none⟩) n n) n (madeCells z.cells (n * size)).toList → w.grownBy w' none → wpListIn F f P ops Q rest (a.put o.dst (.slice (some ⟨w.heap.size, 0, none⟩) n n)) w') :
    wpListIn F f P ops Q (o :: rest) a w := by
  refine wpListIn_plain hg fun K hK' => ?_
  obtain ⟨w', hrun, r1, r2⟩ := run_make_full (P := P) w base t e i z size h1 h2 h3 h4 kl kc n b2 b3 b4
  subst hL
  subst hC
  unfold Oper.wpIn
  refine ⟨?_, ?_⟩
  · simp [Oper.about, hop]
  · rw [Oper.semAt_plain F _ _ (by rw [hop]; intro c hc'; cases hc')]
    simp [execOp, hop, hl, hc, hrun, Result.andThen]
    exact hK' _ _ (hK w' r1 r2)

theorem wpListIn_copy_nothing {F : Fence} {f : Nat} {P : Program} {w : World} {ops : Array Oper} {rest : List Oper} {o : Oper} {a : Act} {Q : Exit → Act → World → Prop} (hgd : o.guard = none) (d s : Operand) (dT sT : TypeId)
    (ho : o.op = .call { callee := .builtin .copy, args := #[d, s], argTypes := #[dT, sT] }) (elem : TypeId) (hu : P.underlying dT = some (.slice elem)) (hsz : (P.info? elem).map (·.size) = some 1)
    (dp sp : Option Addr) (dLen dCap sLen sCap : Nat) (hd : a.eval d = .slice dp dLen dCap) (hs : a.eval s = .slice sp sLen sCap) (hn : Nat.min sLen dLen = 0)
    (h : wpListIn F f P ops Q rest (a.put o.dst (goInt 0)) w) : wpListIn F f P ops Q (o :: rest) a w := by
  refine wpListIn_plain hgd fun K hK => ?_
  have hrun := run_copy_none (P := P) w dT sT o.type elem dp sp dLen dCap sLen sCap hu hsz hn
  unfold Oper.wpIn
  refine ⟨?_, ?_⟩
  · simp [Oper.about, ho, resolve, Target.leads, Sem.run_pure]
  · rw [Oper.semAt_plain F _ _ (by rw [ho]; intro c hc'; cases hc')]
    simp [execOp, ho, resolve, invoke, builtin, hd, hs, hrun, Result.andThen]
    exact hK _ _ h

theorem wpListIn_copy_splice {F : Fence} {f : Nat} {P : Program} {w : World} {ops : Array Oper} {rest : List Oper} {o : Oper} {a : Act} {Q : Exit → Act → World → Prop} (hgd : o.guard = none) (d s : Operand) (dT sT : TypeId)
    (ho : o.op = .call { callee := .builtin .copy, args := #[d, s], argTypes := #[dT, sT] }) (elem : TypeId) (hu : P.underlying dT = some (.slice elem)) (hsz : (P.info? elem).map (·.size) = some 1)
    (dp sp : Option Addr) (dLen dCap sLen sCap : Nat) (hd : a.eval d = .slice dp dLen dCap) (hs : a.eval s = .slice sp sLen sCap)
    (g off : Nat) (cur : List Value) (t : TypeId) (hg : w.heap[g]? = some (.cells cur.toArray t (0, 0))) (cs : List Value) (hn : cs.length = Nat.min sLen dLen)
    (hpos : 0 < cs.length → dp = some ⟨g, off, none⟩ ∧ ∃ ad, sp = some ad ∧ ∀ j v, cs[j]? = some v → w.cell? (ad.add j) = some v)
    (hfit : off + cs.length ≤ cur.length) (h1 : ∀ v ∈ cs, v.oneCell' = true)
    (h : ∀ w', Hid (w'.heap[g]? = some (.cells (splice cur off cs).toArray t (0, 0))) → w.grownBy w' (some g) → Hid (w'.heap.size = w.heap.size) → wpListIn F f P ops Q rest (a.put o.dst (goInt cs.length)) w') :
    wpListIn F f P ops Q (o :: rest) a w := by
  by_cases h0 : cs.length = 0
  · obtain rfl : cs = [] := List.eq_nil_of_length_eq_zero h0
    refine wpListIn_copy_nothing hgd d s dT sT ho elem hu hsz dp sp dLen dCap sLen sCap hd hs (by simpa using hn.symm) ?_
    exact h w (show _ = _ by simpa [splice] using hg) ⟨rfl, rfl, rfl, Nat.le_refl _, fun _ _ _ => rfl⟩ (show _ = _ from rfl)
  · obtain ⟨rfl, ad, rfl, hsrc⟩ := hpos (by omega)
    refine wpListIn_plain hgd fun K hK => ?_
    have hrun := run_copy_row (P := P) w dT sT o.type elem g off dLen dCap ad sLen sCap cur.toArray t cs hu hsz hg hn hsrc (by simpa using hfit) h1
    unfold Oper.wpIn
    refine ⟨?_, ?_⟩
    · simp [Oper.about, ho, resolve, Target.leads, Sem.run_pure]
    · rw [Oper.semAt_plain F _ _ (by rw [ho]; intro c hc'; cases hc')]
      simp [execOp, ho, resolve, invoke, builtin, hd, hs, hrun, Result.andThen]
      exact hK _ _ (h _ (show _ = _ by simpa [splice] using setRow_heap w g _ _ t _ hg) ⟨rfl, rfl, rfl, by simp [World.setRow], fun k _ hk => setRow_other w g k _ (fun e => hk (by rw [e]))⟩ (show _ = _ by simp [World.setRow]))
end Go.Proofs.Ytkdhifofdghbbab

/- THE WALK of readCircle: the boxes of a text. -/
namespace Go.Proofs.Ytkdhifofdghbbab
open Go.RowKit Go.Shelf

attribute [local go_sem] Oper.semAt_some

theorem Cl.kept {w w' : World} {p : Addr} {v : Value} {row : Option Nat} (h : Cl w p v) (hg : w.grownBy w' row) (hr : ∀ r, row = some r → ∃ o : Obj, w.heap[r]? = some o ∧ o.isCells = false) : Cl w' p v :=
  ⟨cell_kept h.1 hg hr, (frozen_kept h.1 hg hr).trans h.2⟩
theorem BX.kept {w w' : World} {B n : Nat} {sg : List Bool} {A H : Nat → Option Addr} {row : Option Nat} (h : BX w B n sg A H) (hg : w.grownBy w' row) (hr : ∀ r, row = some r → ∃ o : Obj, w.heap[r]? = some o ∧ o.isCells = false) : BX w' B n sg A H :=
  ⟨h.len, fun i b hi => (h.s i b hi).kept hg hr, fun i hi => (h.a i hi).kept hg hr, fun i hi => (h.h i hi).kept hg hr⟩
theorem infoBox : (Try.prog.info? 47).map (fun i => (i.zero, i.size, i.bytes)) = some (some (.agg #[.bool false, .pointer none, .pointer none]), 3, 24) := by kernel_rfl
theorem madeBox (n i : Nat) (hi : i < n) : (madeCells (Value.agg #[.bool false, .pointer none, .pointer none]).cells (n * 3)).toList[i * 3]? = some (.bool false) ∧
    (madeCells (Value.agg #[.bool false, .pointer none, .pointer none]).cells (n * 3)).toList[i * 3 + 1]? = some (.pointer none) ∧ (madeCells (Value.agg #[.bool false, .pointer none, .pointer none]).cells (n * 3)).toList[i * 3 + 2]? = some (.pointer none) := by
  have e : (Value.agg #[.bool false, .pointer none, .pointer none]).cells = #[.bool false, .pointer none, .pointer none] := rfl
  rw [e]
  unfold madeCells
  refine ⟨?_, ?_, ?_⟩
  · rw [Array.getElem?_toList, Array.getElem?_map, Array.getElem?_range, if_pos (by omega)]
    simp [show i * 3 % 3 = 0 by omega]
  · rw [Array.getElem?_toList, Array.getElem?_map, Array.getElem?_range, if_pos (by omega)]
    simp [show (i * 3 + 1) % 3 = 1 by omega]
  · rw [Array.getElem?_toList, Array.getElem?_map, Array.getElem?_range, if_pos (by omega)]
    simp [show (i * 3 + 2) % 3 = 2 by omega]
theorem BX.of_made {w : World} {base e g n cap : Nat} (h : w.ownsRow base e 3 (.slice (some ⟨g, 0, none⟩) n cap) n (madeCells (Value.agg #[.bool false, .pointer none, .pointer none]).cells (n * 3)).toList) :
    BX w g n (List.replicate n false) (fun _ => none) (fun _ => none) := by
  have key : ∀ j v, (madeCells (Value.agg #[.bool false, .pointer none, .pointer none]).cells (n * 3)).toList[j]? = some v → Cl w ⟨g, j, none⟩ v := by
    intro j v hj
    have hl : j < n * 3 := by rw [← h.1]; exact (List.getElem?_eq_some_iff.1 hj).1
    exact ⟨by rw [h.cellAt j hl]; exact hj, h.frozenAt j⟩
  refine ⟨by simp, ?_, fun i hi => key _ _ (madeBox n i hi).2.1, fun i hi => key _ _ (madeBox n i hi).2.2⟩
  intro i b hi
  have hin : i < n := by simpa using (List.getElem?_eq_some_iff.1 hi).1
  rw [List.getElem?_replicate, if_pos hin] at hi
  injection hi with hi
  subst hi
  exact key _ _ (madeBox n i hin).1
/-- boxes with balls at some indexes -/
def bxs (n : Nat) (ps : List Nat) : List Bool := (List.range n).map fun j => ps.contains j
theorem bxs_nil (n : Nat) : bxs n [] = List.replicate n false := by
  unfold bxs
  apply List.ext_getElem?
  intro j
  by_cases h : j < n <;> simp [h]
theorem bxs_snoc (n : Nat) (ps : List Nat) (x : Nat) : bxs n (ps ++ [x]) = (bxs n ps).set x true := by
  apply List.ext_getElem?
  intro j
  rw [List.getElem?_set]
  unfold bxs
  by_cases e : x = j
  · subst e
    by_cases h : x < n <;> simp [h]
  · have e2 : ¬ j = x := fun h => e h.symm
    by_cases h : j < n <;> simp [h, e, e2]
theorem bxs_pos (l : List Bool) (n : Nat) (hl : l.length = n) : bxs n (pos (cut l)) = l := by
  subst hl
  obtain ⟨q, hq⟩ := cut_eq l
  apply List.ext_getElem?
  intro j
  unfold bxs
  by_cases h : j < l.length
  · have e : l[j]? = some l[j] := List.getElem?_eq_getElem h
    rw [List.getElem?_map, List.getElem?_range h, Option.map_some, e]
    congr 1
    rw [Bool.eq_iff_iff, List.contains_iff_mem]
    unfold pos posU
    rw [List.mem_filter, List.mem_range]
    by_cases hc : j < (cut l).length
    · have e2 : (cut l)[j]? = some l[j] := by
        have h3 : l[j]? = (cut l ++ List.replicate q false)[j]? := congrArg (·[j]?) hq
        rw [List.getElem?_append_left hc] at h3
        rw [← h3, e]
      rw [e2]
      simp [hc]
    · have e2 : l[j]? = some false := by
        have h3 : l[j]? = (cut l ++ List.replicate q false)[j]? := congrArg (·[j]?) hq
        have hj : j < (cut l ++ List.replicate q false).length := by rw [← hq]; exact h
        rw [List.length_append, List.length_replicate] at hj
        rw [List.getElem?_append_right (by omega), List.getElem?_replicate, if_pos (by omega)] at h3
        exact h3
      have e3 : l[j] = false := by rw [e] at e2; injection e2
      rw [e3]
      simp [hc]
  · simp [h]

set_option maxHeartbeats 1000000 in
theorem readCircle_no (s : ByteArray) (w : World) (hs : s.size ≤ maxLen) (hc : ciIn s = false) :
    Calls Try.prog 27 #[.string s] w fun e w' => e = .returned (.tuple #[.slice none 0 0, .bool false]) ∧ Below w.heap.size w w' := by
  cases hv : vld s
  · go_enter Try.func27, Try.ntmps27
    go_wp2_with (go_at_call 37; refine (readRow_no _ _ hs hv).mono ?_; rintro e w' ⟨rfl, rfl⟩)
    go_ret2
    exact ⟨rfl, Below.refl _ _⟩
  · have h120 := vld_le s hv
    have hle := tl_le (bits s)
    rw [length_bits] at hle
    have C1 := hide (fun w => readRow_yes s w hv)
    have HC := hide (cut_length (bits s))
    have HM := hide (cut_map (bits s))
    have HN := hide (nballs_cut (bits s))
    have hnl : nballs (bits s) ≤ s.size := by rw [← length_bits]; exact List.count_le_length
    have hcc : 60 < s.size ∨ (s.size ≤ 60 ∧ s.size ≤ 2 * nballs (bits s)) := by
      unfold ciIn ci60 at hc
      rw [hv] at hc
      simp at hc
      omega
    obtain ⟨t, ht⟩ : ∃ t, t = tl (bits s) := ⟨_, rfl⟩
    rw [← ht] at hle C1 HC HM
    obtain ⟨nb, hnb⟩ : ∃ nb, nb = nballs (bits s) := ⟨_, rfl⟩
    rw [← hnb] at HN hcc hnl
    clear ht hnb hc hv hs
    rcases hcc with h60 | ⟨h60, hnn⟩
    · have d1 : decide (60 < (s.size : Int)) = true := decide_eq_true (by omega)
      go_enter Try.func27, Try.ntmps27
      go_wp2_with (go_at_call 37; refine (C1.out _).mono ?_; rintro e w1 ⟨rfl, hb1, hc1, hz1⟩)
      go_ret2
      exact ⟨rfl, hb1⟩
    · have d1 : decide (60 < (s.size : Int)) = false := decide_eq_false (by omega)
      have d2 : decide ((s.size : Int) ≤ 2 * (nb : Int)) = true := decide_eq_true (by omega)
      go_enter Try.func27, Try.ntmps27
      go_wp2_with (first | (go_at_call 37; refine (C1.out _).mono ?_; rintro e w1 ⟨rfl, hb1, hc1, hz1⟩) | (go_at_call 38; refine (count_any _ t s.size (cut (bits s)) HC.out (by omega) w1 (by rw [HM.out]; exact hc1.take t)).mono ?_; rw [HN.out]; rintro e w2 ⟨rfl, hb2⟩))
      go_ret2
      exact ⟨rfl, hb1.trans (hb2.mono hb1.size)⟩

set_option maxRecDepth 100000 in
set_option maxHeartbeats 2000000 in
theorem readCircle_yes (s : ByteArray) (w : World) (hc : ciIn s = true) :
    Calls Try.prog 27 #[.string s] w fun e w' => ∃ g, e = .returned (.tuple #[.slice (some ⟨g, 0, none⟩) s.size s.size, .bool true]) ∧ w.heap.size ≤ g ∧ g < w'.heap.size ∧ BX w' g s.size (bits s) (fun _ => none) (fun _ => none) ∧ Below w.heap.size w w' := by
  obtain ⟨hv, h60, h1, h2, hd⟩ := ciIn_facts hc
  have h120 := vld_le s hv
  have hle := tl_le (bits s)
  rw [length_bits] at hle
  have C1 := hide (fun w => readRow_yes s w hv)
  have HC := hide (cut_length (bits s))
  have HM := hide (cut_map (bits s))
  have HN := hide (nballs_cut (bits s))
  rw [drf_balls, length_bits] at hd
  obtain ⟨t, ht⟩ : ∃ t, t = tl (bits s) := ⟨_, rfl⟩
  rw [← ht] at hle C1 HC HM
  obtain ⟨nb, hnb⟩ : ∃ nb, nb = nballs (bits s) := ⟨_, rfl⟩
  rw [← hnb] at HN hd
  clear ht hnb hc hv h60
  refine (callsIn_wide (n := 3)).1 ?_
  refine callsIn_of_wp_marks Try.func27 rfl trivial ?_ rfl
  simp only [Try.ntmps27, List.size_toArray, List.length_cons, List.length_nil, Nat.reduceAdd, Nat.reduceSub, Array.replicate_succ, Array.replicate_zero, List.push_toArray, List.append_toArray, List.nil_append, List.cons_append]
  have d1 : decide (60 < (s.size : Int)) = false := decide_eq_false (by omega)
  have d2 : decide ((s.size : Int) ≤ 2 * (nb : Int)) = false := decide_eq_false (by omega)
  obtain ⟨i0, hi, hy0, hy1, hy2⟩ := info_parts infoBox
  gi_wp2_with (first | (refine ⟨trivial, ?_⟩; gi_at_call 37; refine (callsIn_wide.2 (C1.out _)).mono ?_; rintro e w1 ⟨rfl, hb1, hc1, hz1⟩) | (refine ⟨trivial, ?_⟩; gi_at_call 38; refine (callsIn_wide.2 (count_any _ t s.size (cut (bits s)) HC.out (by omega) w1 (by rw [HM.out]; exact hc1.take t))).mono ?_; rw [HN.out]; rintro e w2 ⟨rfl, hb2⟩) | (gi_at_make; refine wpListIn_make_full _ rfl _ _ 37 rfl w2.heap.size 47 i0 (.agg #[.bool false, .pointer none, .pointer none]) 3 Try.underlying37 hi hy0 hy1 _ _ _ _ s.size rfl rfl rfl rfl ?b2 ?b3 ?b4 ?_; rotate_right; intro w3 hown hgrow) | (refine ⟨trivial, ?_⟩; gi_at_call 39; refine (balls_in Fence.wide _ trivial rfl _ _ _ _).mono ?_; rintro e w4 ⟨rfl, rfl⟩) | fail)
  case b2 => rw [hy2]; omega
  case b3 => unfold maxLen; omega
  case b4 => exact Nat.le_refl _
  have hs12 := hb2.size
  have hs23 := hgrow.size
  have hBX0 := BX.of_made hown
  have hz3 : w2.heap.size < w3.heap.size := (hown.lt _ rfl).2
  have hB3 : Below w.heap.size w w3 := (hb1.trans (hb2.mono (by omega))).grown hgrow (by omega) (fun k e => by cases e)
  have hB13 : Below w1.heap.size w1 w3 := hb2.grown hgrow (by omega) (fun k e => by cases e)
  have bX := Boxed.new w3 37 (.slice (some ⟨w2.heap.size, 0, none⟩) s.size s.size)
  have bN := Boxed.new (w3.alloc (.cells #[.slice (some ⟨w2.heap.size, 0, none⟩) s.size s.size] 37)) 57 (.slice (some ⟨w.heap.size, 0, none⟩) t s.size)
  rw [World.size_alloc] at bN
  have hB0 : Below w.heap.size w ((w3.alloc (.cells #[.slice (some ⟨w2.heap.size, 0, none⟩) s.size s.size] 37)).alloc (.cells #[.slice (some ⟨w.heap.size, 0, none⟩) t s.size] 57)) := (hB3.alloc (by omega) _).alloc (by simp; omega) _
  have hB01 : Below w1.heap.size w1 ((w3.alloc (.cells #[.slice (some ⟨w2.heap.size, 0, none⟩) s.size s.size] 37)).alloc (.cells #[.slice (some ⟨w.heap.size, 0, none⟩) t s.size] 57)) := (hB13.alloc (by omega) _).alloc (by simp; omega) _
  have HBX := hide (((hBX0.alloc hz3 (.cells #[.slice (some ⟨w2.heap.size, 0, none⟩) s.size s.size] 37))).alloc (by simp; omega) (.cells #[.slice (some ⟨w.heap.size, 0, none⟩) t s.size] 57))
  have HCC : Hid (CellsAt w1 w.heap.size ((cut (bits s)).map .bool)) := by rw [HM.out]; exact hc1.take t
  have HLB := hide (length_bits s)
  clear hBX0 hown hgrow hc1 HM HN C1
  refine wpIn_rangeFunc_ownG rfl (by omega) (gf := 50) (lb := #[.pointer (some ⟨w3.heap.size + 1, 0, none⟩)]) rfl trivial (enters_of Try.func50 (by kernel_rfl) rfl)
    (balls_stopsF Fence.wide 2 trivial rfl (by omega) (w3.heap.size + 1) w1.heap.size w.heap.size t s.size (cut (bits s)) HC.out (by omega) _ (by simp) (fun _ => hz1) bN.cell (HCC.out.below' hB01 (Nat.le_refl _))) belowK_t (belowK_b (by simp; omega)) (Below.refl _ _) (fun _ => rfl)
    (fun (pre : List { j : Nat // j < t }) W => (W.cell? ⟨w3.heap.size, 0, none⟩ = some (.slice (some ⟨w2.heap.size, 0, none⟩) s.size s.size) ∧ BX W w2.heap.size s.size (bxs s.size (pre.map (·.1))) (fun _ => none) (fun _ => none)) ∧ Below w.heap.size w W)
    (fun _ _ _ => False)
    (OwnFrom.and (Own.from (fun s A B row hs hg hr => ⟨cell_kept hs.1 hg hr, hs.2.kept hg hr⟩) _) (ownFrom_below (Nat.le_refl _) (by simp; omega)))
    (fun _ _ _ _ _ hs _ _ => hs)
    ⟨⟨(bX.alloc _).cell, by rw [List.map_nil, bxs_nil]; exact HBX.out⟩, hB0⟩
    (fun x => { tmps := #[.string s, undef, .slice none 0 0, .bool false, .slice (some ⟨w.heap.size, 0, none⟩) t s.size, .bool true, .pointer (some ⟨w3.heap.size, 0, none⟩), .int .i64 (x.1 : Int), .tuple #[.slice (some ⟨w.heap.size, 0, none⟩) t s.size, .bool true], .string s,
      .tuple #[.slice (some ⟨w.heap.size, 0, none⟩) t s.size, .bool true], .slice (some ⟨w.heap.size, 0, none⟩) t s.size, .bool true, .bool true, .bool false, .bool false, .string s, .int .i64 (s.size : Int), .bool false, .bool false, .bool false, .slice (some ⟨w.heap.size, 0, none⟩) t s.size,
      .int .i64 (nb : Int), .int .i64 (2 * (nb : Int)), .string s, .int .i64 (s.size : Int), .bool false, .bool false, .string s, .int .i64 (s.size : Int), .slice (some ⟨w2.heap.size, 0, none⟩) s.size s.size, .slice (some ⟨w.heap.size, 0, none⟩) t s.size,
      .func (.func 50) #[] #[.pointer (some ⟨w3.heap.size + 1, 0, none⟩)], .int .i64 (x.1 : Int), undef, undef, undef, undef, undef], defers := [] }) ?assign ?body ?done ?stop
  case assign =>
    intro l x W K hK
    gi_wp2
    exact hK
  case body =>
    rintro l' pre ⟨x, hx⟩ W ⟨⟨hcb, hcs⟩, hB⟩ _
    obtain ⟨v, hv⟩ : ∃ v, (bxs s.size (pre.map (·.1)))[x]? = some v := ⟨_, List.getElem?_eq_getElem (by simp [bxs]; omega)⟩
    obtain ⟨hcell, hfr⟩ := hcs.s x v hv
    have HS := hide (hcs.setS (show x < s.size by omega) true)
    have x0 : (0 : Int) ≤ (x : Int) := by omega
    have x1 : (x : Int) < (s.size : Int) := by omega
    clear hcs hv
    gi_wp2
    exact ⟨(KeepsOthers.setCell _ _ _).from _, (Below.refl w1.heap.size W).setCell (p := ⟨w2.heap.size, x * 3, none⟩) hs12 _, ⟨by rw [World.cell?_setCell_other _ _ _ _ (by intro h; injection h with h1 _; omega)]; exact hcb, by show BX _ _ _ (bxs s.size (List.map (fun y : { j : Nat // j < t } => y.1) (pre ++ [(⟨x, hx⟩ : { j : Nat // j < t })]))) _ _; rw [List.map_append, List.map_cons, List.map_nil, bxs_snoc]; exact HS.out⟩, hB.setCell (p := ⟨w2.heap.size, x * 3, none⟩) (by show w.heap.size ≤ w2.heap.size; omega) _⟩
  case done =>
    rintro D ys W hD hys ⟨⟨hcb, hcs⟩, hB⟩ hK
    rw [hys, bxs_pos (bits s) s.size HLB.out] at hcs
    have HCS := hide hcs
    clear hcs
    gi_wp2
    refine ⟨by simp, .inl ⟨_, _, rfl, run_takeDeferred hK, ?_⟩⟩
    have hbk := fun o' => belowK_b (w := w) (Nat.le_refl _) W D _ o' (by simp at hD; omega) hK rfl rfl
    have hbk3 := fun o' => belowK_b (w := w3) (Nat.le_refl _) W D _ o' (by simp at hD; omega) hK rfl rfl
    exact ⟨_, results_tmp2 rfl _ _ _, w2.heap.size, rfl, by omega, (HCS.out.below (hbk3 _) hz3).lt (by omega), HCS.out.below (hbk3 _) hz3, hB.trans (hbk _)⟩
  case stop =>
    rintro D c pre W _ _ h _
    exact h.elim
end Go.Proofs.Ytkdhifofdghbbab
