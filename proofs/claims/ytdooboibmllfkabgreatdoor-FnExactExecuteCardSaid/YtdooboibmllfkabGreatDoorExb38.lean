/- TEXTS IRead, Lnk3. -/
import Derived.Test.YtdooboibmllfkabGreatDoorExb37
import Derived.Test.YtdooboibmllfkabGreatDoorExb02
import Derived.Test.YtdooboibmllfkabGreatDoorExb14
import Derived.Test.YtdooboibmllfkabGreatDoorExb36
namespace Go.Proofs.YtdooboibmllfkabGreatDoor
set_option maxRecDepth 100000
open Go.RowKit Go.Shelf

attribute [local go_sem] Oper.semAt_some

theorem Cl.kept {w w' : World} {p : Addr} {v : Value} {row : Option Nat} (h : Cl w p v) (hg : w.grownBy w' row) (hr : ∀ r, row = some r → ∃ o : Obj, w.heap[r]? = some o ∧ o.isCells = false) : Cl w' p v :=
  ⟨cell_kept h.1 hg hr, (frozen_kept h.1 hg hr).trans h.2⟩
theorem BX.kept {w w' : World} {B n : Nat} {sg : List Bool} {A H : Nat → Option Addr} {row : Option Nat} (h : BX w B n sg A H) (hg : w.grownBy w' row) (hr : ∀ r, row = some r → ∃ o : Obj, w.heap[r]? = some o ∧ o.isCells = false) : BX w' B n sg A H :=
  ⟨h.len, fun i b hi => (h.s i b hi).kept hg hr, fun i hi => (h.a i hi).kept hg hr, fun i hi => (h.h i hi).kept hg hr⟩
theorem infoBox : (Tryz.prog.info? 176).map (fun i => (i.zero, i.size, i.bytes)) = some (some (.agg #[.bool false, .pointer none, .pointer none]), 3, 24) := by kernel_rfl
theorem madeBox (n i : Nat) (hi : i < n) : (madeCells (Value.agg #[.bool false, .pointer none, .pointer none]).cells (n * 3)).toList[i * 3]? = some (.bool false) ∧
    (madeCells (Value.agg #[.bool false, .pointer none, .pointer none]).cells (n * 3)).toList[i * 3 + 1]? = some (.pointer none) ∧ (madeCells (Value.agg #[.bool false, .pointer none, .pointer none]).cells (n * 3)).toList[i * 3 + 2]? = some (.pointer none) := by
  have e : (Value.agg #[.bool false, .pointer none, .pointer none]).cells = #[.bool false, .pointer none, .pointer none] := rfl
  rw [e]
  unfold madeCells
  refine ⟨?_, ?_, ?_⟩
  · rw [Array.getElem?_toList, Array.getElem?_map, Array.getElem?_range, if_pos (by omega)]
    simp [show i * 3 % 3 = 0 by omega]
  · rw [Array.getElem?_toList, Array.getElem?_map, Array.getElem?_range, if_pos (by omega)]
    simp [show (i * 3 + 1) % 3 = 1 by omega]
  · rw [Array.getElem?_toList, Array.getElem?_map, Array.getElem?_range, if_pos (by omega)]
    simp [show (i * 3 + 2) % 3 = 2 by omega]
theorem BX.of_made {w : World} {base e g n cap : Nat} (h : w.ownsRow base e 3 (.slice (some ⟨g, 0, none⟩) n cap) n (madeCells (Value.agg #[.bool false, .pointer none, .pointer none]).cells (n * 3)).toList) :
    BX w g n (List.replicate n false) (fun _ => none) (fun _ => none) := by
  have key : ∀ j v, (madeCells (Value.agg #[.bool false, .pointer none, .pointer none]).cells (n * 3)).toList[j]? = some v → Cl w ⟨g, j, none⟩ v := by
    intro j v hj
    have hl : j < n * 3 := by rw [← h.1]; exact (List.getElem?_eq_some_iff.1 hj).1
    exact ⟨by rw [h.cellAt j hl]; exact hj, h.frozenAt j⟩
  refine ⟨by simp, ?_, fun i hi => key _ _ (madeBox n i hi).2.1, fun i hi => key _ _ (madeBox n i hi).2.2⟩
  intro i b hi
  have hin : i < n := by simpa using (List.getElem?_eq_some_iff.1 hi).1
  rw [List.getElem?_replicate, if_pos hin] at hi
  injection hi with hi
  subst hi
  exact key _ _ (madeBox n i hin).1
def bxs (n : Nat) (ps : List Nat) : List Bool := (List.range n).map fun j => ps.contains j
theorem bxs_nil (n : Nat) : bxs n [] = List.replicate n false := by
  unfold bxs
  apply List.ext_getElem?
  intro j
  by_cases h : j < n <;> simp [h]
theorem bxs_snoc (n : Nat) (ps : List Nat) (x : Nat) : bxs n (ps ++ [x]) = (bxs n ps).set x true := by
  apply List.ext_getElem?
  intro j
  rw [List.getElem?_set]
  unfold bxs
  by_cases e : x = j
  · subst e
    by_cases h : x < n <;> simp [h]
  · have e2 : ¬ j = x := fun h => e h.symm
    by_cases h : j < n <;> simp [h, e, e2]
theorem bxs_pos (l : List Bool) (n : Nat) (hl : l.length = n) : bxs n (pos (cut l)) = l := by
  subst hl
  obtain ⟨q, hq⟩ := cut_eq l
  apply List.ext_getElem?
  intro j
  unfold bxs
  by_cases h : j < l.length
  · have e : l[j]? = some l[j] := List.getElem?_eq_getElem h
    rw [List.getElem?_map, List.getElem?_range h, Option.map_some, e]
    congr 1
    rw [Bool.eq_iff_iff, List.contains_iff_mem]
    unfold pos posU
    rw [List.mem_filter, List.mem_range]
    by_cases hc : j < (cut l).length
    · have e2 : (cut l)[j]? = some l[j] := by
        have h3 : l[j]? = (cut l ++ List.replicate q false)[j]? := congrArg (·[j]?) hq
        rw [List.getElem?_append_left hc] at h3
        rw [← h3, e]
      rw [e2]
      simp [hc]
    · have e2 : l[j]? = some false := by
        have h3 : l[j]? = (cut l ++ List.replicate q false)[j]? := congrArg (·[j]?) hq
        have hj : j < (cut l ++ List.replicate q false).length := by rw [← hq]; exact h
        rw [List.length_append, List.length_replicate] at hj
        rw [List.getElem?_append_right (by omega), List.getElem?_replicate, if_pos (by omega)] at h3
        exact h3
      have e3 : l[j] = false := by rw [e] at e2; injection e2
      rw [e3]
      simp [hc]
  · simp [h]

set_option maxHeartbeats 1000000 in
theorem readCircle_no (s : ByteArray) (w : World) (hs : s.size ≤ maxLen) (hc : ciIn s = false) :
    Calls Tryz.prog 159 #[.string s] w fun e w' => e = .returned (.tuple #[.slice none 0 0, .bool false]) ∧ Below w.heap.size w w' := by
  cases hv : vld s
  · go_enter Tryz.func159, Tryz.ntmps159
    go_wp2_with (go_at_call 37; refine (readRow_no _ _ hs hv).mono ?_; rintro e w' ⟨rfl, rfl⟩)
    go_ret2
    exact ⟨rfl, Below.refl _ _⟩
  · have h120 := vld_le s hv
    have hle := tl_le (bits s)
    rw [length_bits] at hle
    have C1 := hide (fun w => readRow_yes s w hv)
    have HC := hide (cut_length (bits s))
    have HM := hide (cut_map (bits s))
    have HN := hide (nballs_cut (bits s))
    have hnl : nballs (bits s) ≤ s.size := by rw [← length_bits]; exact List.count_le_length
    have hcc : 60 < s.size ∨ (s.size ≤ 60 ∧ s.size ≤ 2 * nballs (bits s)) := by
      unfold ciIn ci60 at hc
      rw [hv] at hc
      simp at hc
      omega
    obtain ⟨t, ht⟩ : ∃ t, t = tl (bits s) := ⟨_, rfl⟩
    rw [← ht] at hle C1 HC HM
    obtain ⟨nb, hnb⟩ : ∃ nb, nb = nballs (bits s) := ⟨_, rfl⟩
    rw [← hnb] at HN hcc hnl
    clear ht hnb hc hv hs
    rcases hcc with h60 | ⟨h60, hnn⟩
    · have d1 : decide (60 < (s.size : Int)) = true := decide_eq_true (by omega)
      go_enter Tryz.func159, Tryz.ntmps159
      go_wp2_with (go_at_call 37; refine (C1.out _).mono ?_; rintro e w1 ⟨rfl, hb1, hc1, hz1⟩)
      go_ret2
      exact ⟨rfl, hb1⟩
    · have d1 : decide (60 < (s.size : Int)) = false := decide_eq_false (by omega)
      have d2 : decide ((s.size : Int) ≤ 2 * (nb : Int)) = true := decide_eq_true (by omega)
      go_enter Tryz.func159, Tryz.ntmps159
      go_wp2_with (first | (go_at_call 37; refine (C1.out _).mono ?_; rintro e w1 ⟨rfl, hb1, hc1, hz1⟩) | (go_at_call 38; refine (count_any _ t s.size (cut (bits s)) HC.out (by omega) w1 (by rw [HM.out]; exact hc1.take t)).mono ?_; rw [HN.out]; rintro e w2 ⟨rfl, hb2⟩))
      go_ret2
      exact ⟨rfl, hb1.trans (hb2.mono hb1.size)⟩

set_option maxRecDepth 100000 in
set_option maxHeartbeats 2000000 in
theorem readCircle_yes (s : ByteArray) (w : World) (hc : ciIn s = true) :
    Calls Tryz.prog 159 #[.string s] w fun e w' => ∃ g, e = .returned (.tuple #[.slice (some ⟨g, 0, none⟩) s.size s.size, .bool true]) ∧ w.heap.size ≤ g ∧ g < w'.heap.size ∧ BX w' g s.size (bits s) (fun _ => none) (fun _ => none) ∧ Below w.heap.size w w' := by
  obtain ⟨hv, h60, h1, h2, hd⟩ := ciIn_facts hc
  have h120 := vld_le s hv
  have hle := tl_le (bits s)
  rw [length_bits] at hle
  have C1 := hide (fun w => readRow_yes s w hv)
  have HC := hide (cut_length (bits s))
  have HM := hide (cut_map (bits s))
  have HN := hide (nballs_cut (bits s))
  rw [drf_balls, length_bits] at hd
  obtain ⟨t, ht⟩ : ∃ t, t = tl (bits s) := ⟨_, rfl⟩
  rw [← ht] at hle C1 HC HM
  obtain ⟨nb, hnb⟩ : ∃ nb, nb = nballs (bits s) := ⟨_, rfl⟩
  rw [← hnb] at HN hd
  clear ht hnb hc hv h60
  refine (callsIn_wide (n := 3)).1 ?_
  refine callsIn_of_wp_marks Tryz.func159 rfl trivial ?_ rfl
  simp only [Tryz.ntmps159, List.size_toArray, List.length_cons, List.length_nil, Nat.reduceAdd, Nat.reduceSub, Array.replicate_succ, Array.replicate_zero, List.push_toArray, List.append_toArray, List.nil_append, List.cons_append]
  have d1 : decide (60 < (s.size : Int)) = false := decide_eq_false (by omega)
  have d2 : decide ((s.size : Int) ≤ 2 * (nb : Int)) = false := decide_eq_false (by omega)
  obtain ⟨i0, hi, hy0, hy1, hy2⟩ := info_parts infoBox
  gi_wp2_with (first | (refine ⟨trivial, ?_⟩; gi_at_call 37; refine (callsIn_wide.2 (C1.out _)).mono ?_; rintro e w1 ⟨rfl, hb1, hc1, hz1⟩) | (refine ⟨trivial, ?_⟩; gi_at_call 38; refine (callsIn_wide.2 (count_any _ t s.size (cut (bits s)) HC.out (by omega) w1 (by rw [HM.out]; exact hc1.take t))).mono ?_; rw [HN.out]; rintro e w2 ⟨rfl, hb2⟩) | (gi_at_make; refine wpListIn_make_full _ rfl _ _ 154 rfl w2.heap.size 176 i0 (.agg #[.bool false, .pointer none, .pointer none]) 3 Tryz.underlying154 hi hy0 hy1 _ _ _ _ s.size rfl rfl rfl rfl ?b2 ?b3 ?b4 ?_; rotate_right; intro w3 hown hgrow) | (refine ⟨trivial, ?_⟩; gi_at_call 46; refine (balls_in Fence.wide _ trivial rfl _ _ _ _).mono ?_; rintro e w4 ⟨rfl, rfl⟩) | fail)
  case b2 => rw [hy2]; omega
  case b3 => unfold maxLen; omega
  case b4 => exact Nat.le_refl _
  have hs12 := hb2.size
  have hs23 := hgrow.size
  have hBX0 := BX.of_made hown
  have hz3 : w2.heap.size < w3.heap.size := (hown.lt _ rfl).2
  have hB3 : Below w.heap.size w w3 := (hb1.trans (hb2.mono (by omega))).grown hgrow (by omega) (fun k e => by cases e)
  have hB13 : Below w1.heap.size w1 w3 := hb2.grown hgrow (by omega) (fun k e => by cases e)
  have bX := Boxed.new w3 154 (.slice (some ⟨w2.heap.size, 0, none⟩) s.size s.size)
  have bN := Boxed.new (w3.alloc (.cells #[.slice (some ⟨w2.heap.size, 0, none⟩) s.size s.size] 154)) 36 (.slice (some ⟨w.heap.size, 0, none⟩) t s.size)
  rw [World.size_alloc] at bN
  have hB0 : Below w.heap.size w ((w3.alloc (.cells #[.slice (some ⟨w2.heap.size, 0, none⟩) s.size s.size] 154)).alloc (.cells #[.slice (some ⟨w.heap.size, 0, none⟩) t s.size] 36)) := (hB3.alloc (by omega) _).alloc (by simp; omega) _
  have hB01 : Below w1.heap.size w1 ((w3.alloc (.cells #[.slice (some ⟨w2.heap.size, 0, none⟩) s.size s.size] 154)).alloc (.cells #[.slice (some ⟨w.heap.size, 0, none⟩) t s.size] 36)) := (hB13.alloc (by omega) _).alloc (by simp; omega) _
  have HBX := hide (((hBX0.alloc hz3 (.cells #[.slice (some ⟨w2.heap.size, 0, none⟩) s.size s.size] 154))).alloc (by simp; omega) (.cells #[.slice (some ⟨w.heap.size, 0, none⟩) t s.size] 36))
  have HCC : Hid (CellsAt w1 w.heap.size ((cut (bits s)).map .bool)) := by rw [HM.out]; exact hc1.take t
  have HLB := hide (length_bits s)
  clear hBX0 hown hgrow hc1 HM HN C1
  refine wpIn_rangeFunc_ownG rfl (by omega) (gf := 67) (lb := #[.pointer (some ⟨w3.heap.size + 1, 0, none⟩)]) rfl trivial (enters_of Tryz.func67 (by kernel_rfl) rfl)
    (balls_stopsF Fence.wide 2 trivial rfl (by omega) (w3.heap.size + 1) w1.heap.size w.heap.size t s.size (cut (bits s)) HC.out (by omega) _ (by simp) (fun _ => hz1) bN.cell (HCC.out.below' hB01 (Nat.le_refl _))) belowK_t (belowK_b (by simp; omega)) (Below.refl _ _) (fun _ => rfl)
    (fun (pre : List { j : Nat // j < t }) W => (W.cell? ⟨w3.heap.size, 0, none⟩ = some (.slice (some ⟨w2.heap.size, 0, none⟩) s.size s.size) ∧ BX W w2.heap.size s.size (bxs s.size (pre.map (·.1))) (fun _ => none) (fun _ => none)) ∧ Below w.heap.size w W)
    (fun _ _ _ => False)
    (OwnFrom.and (Own.from (fun s A B row hs hg hr => ⟨cell_kept hs.1 hg hr, hs.2.kept hg hr⟩) _) (ownFrom_below (Nat.le_refl _) (by simp; omega)))
    (fun _ _ _ _ _ hs _ _ => hs)
    ⟨⟨(bX.alloc _).cell, by rw [List.map_nil, bxs_nil]; exact HBX.out⟩, hB0⟩
    (fun x => { tmps := #[.string s, undef, .slice none 0 0, .bool false, .slice (some ⟨w.heap.size, 0, none⟩) t s.size, .bool true, .pointer (some ⟨w3.heap.size, 0, none⟩), .int .i64 (x.1 : Int), .tuple #[.slice (some ⟨w.heap.size, 0, none⟩) t s.size, .bool true], .string s,
      .tuple #[.slice (some ⟨w.heap.size, 0, none⟩) t s.size, .bool true], .slice (some ⟨w.heap.size, 0, none⟩) t s.size, .bool true, .bool true, .bool false, .bool false, .string s, .int .i64 (s.size : Int), .bool false, .bool false, .bool false, .slice (some ⟨w.heap.size, 0, none⟩) t s.size,
      .int .i64 (nb : Int), .int .i64 (2 * (nb : Int)), .string s, .int .i64 (s.size : Int), .bool false, .bool false, .string s, .int .i64 (s.size : Int), .slice (some ⟨w2.heap.size, 0, none⟩) s.size s.size, .slice (some ⟨w.heap.size, 0, none⟩) t s.size,
      .func (.func 67) #[] #[.pointer (some ⟨w3.heap.size + 1, 0, none⟩)], .int .i64 (x.1 : Int), undef, undef, undef, undef, undef], defers := [] }) ?assign ?body ?done ?stop
  case assign =>
    intro l x W K hK
    gi_wp2
    exact hK
  case body =>
    rintro l' pre ⟨x, hx⟩ W ⟨⟨hcb, hcs⟩, hB⟩ _
    obtain ⟨v, hv⟩ : ∃ v, (bxs s.size (pre.map (·.1)))[x]? = some v := ⟨_, List.getElem?_eq_getElem (by simp [bxs]; omega)⟩
    obtain ⟨hcell, hfr⟩ := hcs.s x v hv
    have HS := hide (hcs.setS (show x < s.size by omega) true)
    have x0 : (0 : Int) ≤ (x : Int) := by omega
    have x1 : (x : Int) < (s.size : Int) := by omega
    clear hcs hv
    gi_wp2
    exact ⟨(KeepsOthers.setCell _ _ _).from _, (Below.refl w1.heap.size W).setCell (p := ⟨w2.heap.size, x * 3, none⟩) hs12 _, ⟨by rw [World.cell?_setCell_other _ _ _ _ (by intro h; injection h with h1 _; omega)]; exact hcb, by show BX _ _ _ (bxs s.size (List.map (fun y : { j : Nat // j < t } => y.1) (pre ++ [(⟨x, hx⟩ : { j : Nat // j < t })]))) _ _; rw [List.map_append, List.map_cons, List.map_nil, bxs_snoc]; exact HS.out⟩, hB.setCell (p := ⟨w2.heap.size, x * 3, none⟩) (by show w.heap.size ≤ w2.heap.size; omega) _⟩
  case done =>
    rintro D ys W hD hys ⟨⟨hcb, hcs⟩, hB⟩ hK
    rw [hys, bxs_pos (bits s) s.size HLB.out] at hcs
    have HCS := hide hcs
    clear hcs
    gi_wp2
    refine ⟨by simp, .inl ⟨_, _, rfl, run_takeDeferred hK, ?_⟩⟩
    have hbk := fun o' => belowK_b (w := w) (Nat.le_refl _) W D _ o' (by simp at hD; omega) hK rfl rfl
    have hbk3 := fun o' => belowK_b (w := w3) (Nat.le_refl _) W D _ o' (by simp at hD; omega) hK rfl rfl
    exact ⟨_, results_tmp2 rfl _ _ _, w2.heap.size, rfl, by omega, (HCS.out.below (hbk3 _) hz3).lt (by omega), HCS.out.below (hbk3 _) hz3, hB.trans (hbk _)⟩
  case stop =>
    rintro D c pre W _ _ h _
    exact h.elim
end Go.Proofs.YtdooboibmllfkabGreatDoor

namespace Go.Proofs.YtdooboibmllfkabGreatDoor
set_option maxRecDepth 100000

theorem lk_ne {H A : Nat → Nat} {L : List Nat} (h : Lk H A L) (hn : L.Nodup) {e z : Nat} (he : e ∈ L) (hz : z ∈ L) (hez : z ≠ e) : A e ≠ e := by
  intro hA
  obtain ⟨k, hk⟩ := List.getElem?_of_mem he
  obtain ⟨i, hi⟩ := List.getElem?_of_mem hz
  have h1 := lk_lt hk
  have h2 := lk_lt hi
  have hik : i ≠ k := by
    intro e
    subst e
    rw [hi] at hk
    exact hez (Option.some.inj hk)
  obtain ⟨p, hp⟩ : ∃ p, p = if k = 0 then L.length - 1 else k - 1 := ⟨_, rfl⟩
  have hpl : p < L.length := by rw [hp]; split <;> omega
  have hc : cy L.length p = k := by unfold cy; rw [hp]; split <;> split <;> omega
  obtain ⟨x, hx⟩ := lk_get hpl
  have e1 : A e = x := (h p x e hx (by rw [hc]; exact hk)).2
  have e2 := nodup_get hn hk (by rw [← hA, e1]; exact hx)
  rw [hp] at e2
  split at e2 <;> omega
theorem flt_take {ps : List (Nat × Nat)} {i : Nat} {p : Nat × Nat} (h : ps[i]? = some p) : flt (ps.take (i + 1)) = (flt (ps.take i) ++ [p.1]) ++ [p.2] := by
  obtain ⟨hi, he⟩ := List.getElem?_eq_some_iff.1 h
  rw [List.take_succ_eq_append_getElem hi, flt_snoc, he]
theorem flt_sub {ps : List (Nat × Nat)} {i a : Nat} (h : a ∈ flt (ps.take i)) : a ∈ flt ps := by
  rw [flt_mem] at h ⊢
  obtain ⟨p, hp, e⟩ := h
  exact ⟨p, List.mem_of_mem_take hp, e⟩
def rest (L es : List Nat) : List Nat := L.filter fun a => !(es.contains a)
theorem rest_mem {L es : List Nat} {a : Nat} : a ∈ rest L es ↔ a ∈ L ∧ a ∉ es := by unfold rest; rw [List.mem_filter]; simp
theorem rest_nodup {L es : List Nat} (h : L.Nodup) : (rest L es).Nodup := h.sublist List.filter_sublist
theorem rp_pair {l : List Bool} {L : List Nat} {H0 A0 H A : Nat → Nat} {Q : List (List (Nat × Nat))} (h : RP l L H0 A0 Q) {i : Nat} {p : Nat × Nat} (hp : (prs l H0 (lbs l L))[i]? = some p)
    (hk : Lk H A (rest L (flt ((prs l H0 (lbs l L)).take i)))) :
    (p.1 < l.length ∧ A p.1 < l.length ∧ H p.1 < l.length ∧ A p.1 ≠ p.1) ∧
    (p.2 < l.length ∧ upd A (H p.1) (A p.1) p.2 < l.length ∧ upd H (A p.1) (H p.1) p.2 < l.length ∧ upd A (H p.1) (A p.1) p.2 ≠ p.2) ∧
    Lk (upd (upd H (A p.1) (H p.1)) (upd A (H p.1) (A p.1) p.2) (upd H (A p.1) (H p.1) p.2)) (upd (upd A (H p.1) (A p.1)) (upd H (A p.1) (H p.1) p.2) (upd A (H p.1) (A p.1) p.2))
      (rest L (flt ((prs l H0 (lbs l L)).take (i + 1)))) := by
  obtain ⟨h1, h2, h3, h4, h5, h6⟩ := lk_fresh h.lk h.nd hp
  obtain ⟨z, hz, hzf⟩ := h.stay
  have hpm := List.mem_of_getElem? hp
  have hz1 : z ≠ p.1 := fun e => hzf (flt_mem.2 ⟨p, hpm, .inl e⟩)
  have hz2 : z ≠ p.2 := fun e => hzf (flt_mem.2 ⟨p, hpm, .inr e⟩)
  have hz3 : z ∉ flt ((prs l H0 (lbs l L)).take i) := fun e => hzf (flt_sub e)
  have hz4 : z ∉ flt ((prs l H0 (lbs l L)).take i) ++ [p.1] := by
    rw [List.mem_append, List.mem_singleton]
    rintro (e | e)
    · exact hz3 e
    · exact hz1 e
  have hlt : ∀ es a, a ∈ rest L es → a < l.length := fun es a ha => h.stg.2.1 a (rest_mem.1 ha).1
  have m1 : p.1 ∈ rest L (flt ((prs l H0 (lbs l L)).take i)) := rest_mem.2 ⟨h1, h3⟩
  have hk2 : Lk (upd H (A p.1) (H p.1)) (upd A (H p.1) (A p.1)) (rest L (flt ((prs l H0 (lbs l L)).take i) ++ [p.1])) := lnk_take h.nd hk h1 h3 hz hz3 hz1
  have m2 : p.2 ∈ rest L (flt ((prs l H0 (lbs l L)).take i) ++ [p.1]) := rest_mem.2 ⟨h2, h4⟩
  refine ⟨⟨hlt _ _ m1, hlt _ _ (hk.ahead m1).1, hlt _ _ (hk.behind m1).1, lk_ne hk (rest_nodup h.nd) m1 (rest_mem.2 ⟨hz, hz3⟩) hz1⟩,
    ⟨hlt _ _ m2, hlt _ _ (hk2.ahead m2).1, hlt _ _ (hk2.behind m2).1, lk_ne hk2 (rest_nodup h.nd) m2 (rest_mem.2 ⟨hz, hz4⟩) hz2⟩, ?_⟩
  rw [flt_take hp]
  exact lnk_take h.nd hk2 h2 h4 hz hz4 hz2
theorem rest_nil (L : List Nat) : rest L [] = L := by unfold rest; simp
theorem rest_end {l : List Bool} {H A : Nat → Nat} {L : List Nat} (h : Lk H A L) : rest L (flt (prs l H (lbs l L))) = nxt l L := lk_end h
theorem prs_uns (l : List Bool) (H : Nat → Nat) (bs : List Nat) : (prs l H bs).length + (uns l H bs).length = bs.length := by
  unfold prs uns
  rw [List.length_map]
  induction bs with
  | nil => rfl
  | cons b bs ih =>
    rw [List.filter_cons, List.filter_cons]
    cases h : bl l (H b) <;> simp <;> omega
theorem rp_fewer {l : List Bool} {L : List Nat} {H A : Nat → Nat} {Q : List (List (Nat × Nat))} (h : RP l L H A Q) (hl : lbs l L ≠ []) : (lbs l (nxt l L)).length < (lbs l L).length := by
  have h1 := prs_uns l H (lbs l L)
  have h2 := lk_count (l := l) h.lk
  have h3 := h.some hl
  rw [lk_uns h.lk] at h1
  omega
theorem prs_take {l : List Bool} {H : Nat → Nat} {bs : List Nat} {k b : Nat} (hb : bs[k]? = some b) : prs l H (bs.take (k + 1)) = prs l H (bs.take k) ++ (if bl l (H b) then [] else [(b, H b)]) ∧ uns l H (bs.take (k + 1)) = uns l H (bs.take k) ++ (if bl l (H b) then [b] else []) := by
  obtain ⟨hi, he⟩ := List.getElem?_eq_some_iff.1 hb
  rw [List.take_succ_eq_append_getElem hi, he]
  exact ⟨prs_snoc _ _ _ _, uns_snoc _ _ _ _⟩
end Go.Proofs.YtdooboibmllfkabGreatDoor
