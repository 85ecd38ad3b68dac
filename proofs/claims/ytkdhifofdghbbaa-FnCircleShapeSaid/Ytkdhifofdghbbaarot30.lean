/- TEXTS Collect, PTidy. -/
import Derived.Test.Ytkdhifofdghbbaarot04
import Derived.Test.Ytkdhifofdghbbaarot23
import Derived.Maps.AppendAt
import Derived.Test.Ytkdhifofdghbbaarot22
import Derived.Test.Ytkdhifofdghbbaarot02
import Derived.Test.Ytkdhifofdghbbaarot25
import Derived.Test.Ytkdhifofdghbbaarot24
/- slices.Collect over the balls of a row: the indexes, in ascending order, in memory of its own. -/
namespace Go.Proofs.Ytkdhifofdghbbaa
open Go.RowKit Go.Shelf

attribute [local go_sem] Oper.semAt_some

set_option maxRecDepth 100000 in
set_option maxHeartbeats 2000000 in
theorem appendSeq_in (F : Fence) (n : Nat) (h1' : F.fn 78) (h3 : F.fn 70) (hro : F.round = none) (hn : 3 ≤ n) (Bs g len cap : Nat) (bs : List Bool) (hlen : bs.length = len) (hm : len ≤ 1000) (w : World) (hBs : Bs < w.heap.size)
    (hc : w.cell? ⟨Bs, 0, none⟩ = some (.slice (some ⟨g, 0, none⟩) len cap)) (hI : CellsAt w g (bs.map .bool)) :
    CallsIn F n Try.prog 78 #[.slice none 0 0, .func (.func 70) #[] #[.pointer (some ⟨Bs, 0, none⟩)]] w fun e W' => ∃ v, e = .returned v ∧
      W'.ownsRow w.heap.size 3 1 v (pos bs).length ((pos bs).map fun (j : Nat) => Value.int .i64 (j : Int)) ∧ Below w.heap.size w W' := by
  have h1 : 1 ≤ n := by omega
  obtain ⟨i0, hi, hz0, hz1, hz2⟩ := info_parts infoI
  have hgl : 0 < len → g < w.heap.size := fun h => hI.lt (by simp; omega)
  have HI := hide hI
  have HLEN := hide hlen
  have HGL := hide hgl
  clear hI hlen hgl
  refine callsIn_of_wp_marks Try.func78 rfl h1' ?_ hro
  simp only [Try.ntmps78, List.size_toArray, List.length_cons, List.length_nil, Nat.reduceAdd, Nat.reduceSub, Array.replicate_succ, Array.replicate_zero, List.push_toArray, List.append_toArray, List.nil_append, List.cons_append]
  gi_wp2
  have bO := Boxed.new w 32 (.slice none 0 0)
  have hB0 : Below w.heap.size w (w.alloc (.cells #[.slice none 0 0] 32)) := (Below.refl _ w).alloc (Nat.le_refl _) _
  have hc0 : (w.alloc (.cells #[.slice none 0 0] 32)).cell? ⟨Bs, 0, none⟩ = some (.slice (some ⟨g, 0, none⟩) len cap) := (hB0.cell (p := ⟨Bs, 0, none⟩) hBs).trans hc
  refine wpIn_rangeFunc_ownG hro h1 (gf := 70) (lb := #[.pointer (some ⟨Bs, 0, none⟩)]) rfl h3 (enters_of Try.func70 (by kernel_rfl) rfl)
    (balls_stops F (n - 1) h3 hro (by omega) Bs w.heap.size g len cap bs HLEN.out hm _ (by simp; omega) HGL.out hc0 (HI.out.below' hB0 (Nat.le_refl _))) belowK_t (belowK_b (by simp)) (Below.refl _ _) (fun _ => rfl)
    (fun (pre : List Nat) W => (∃ v, Boxed W w.heap.size 32 v ∧ W.ownsRow w.heap.size 3 1 v pre.length (pre.map fun (j : Nat) => Value.int .i64 (j : Int)) ∧ True) ∧ Below w.heap.size w W)
    (fun _ _ _ => False)
    (OwnFrom.and (Own.from (holdsRow_own w.heap.size w.heap.size 32 3 1 (fun (pre : List Nat) => pre.length) (fun (pre : List Nat) => pre.map fun (j : Nat) => Value.int .i64 (j : Int)) (fun _ _ => True)) _) (ownFrom_below (Nat.le_refl _) (by simp)))
    (fun _ _ _ _ _ hs _ _ => hs)
    ⟨⟨_, bO, World.ownsRow_nil _ _ _ _, trivial⟩, hB0⟩
    (fun x => { tmps := #[.slice none 0 0, .func (.func 70) #[] #[.pointer (some ⟨Bs, 0, none⟩)], .pointer (some ⟨w.heap.size, 0, none⟩), undef, .slice none 0 0, .int .i64 (x : Int), .func (.func 70) #[] #[.pointer (some ⟨Bs, 0, none⟩)], .int .i64 (x : Int), undef, undef, undef, undef, undef], defers := [] }) ?assign ?body ?done ?stop
  case assign =>
    intro l x W K hK
    gi_wp2
    exact hK
  case body =>
    rintro l pre x W ⟨⟨v, hv, hrow, _⟩, hB⟩ hlt
    have hc := hv.cell
    gi_wp2_with (gi_at_builtin; refine wpListIn_append_own _ rfl _ _ 32 rfl w.heap.size 3 i0 (.int .i64 0) 1 8 Try.underlying32 hi hz0 hz1 hz2 rfl (by decide) _ _ _ rfl (hrow.alloc _) ⟨W.heap.size, 0, none⟩ 1 1 [.int .i64 (x : Int)] rfl rfl (cell_one_new _ _ _) (by simp [Value.oneCell']) (by unfold maxLen; omega) (by omega) (by have := hB.size; simp; omega) ?_; intro v' w1 hown' hgrow _; obtain ⟨g', cap', rfl⟩ := ownsRow_succ hown'; obtain ⟨hv1, hv2, hr2, hk2, hb2⟩ := hv.appended (by decide) hrow hB.size (Nat.le_refl _) hown' hgrow; have hc1 := hv1.cell; have hf1 := hv1.frozen)
    exact ⟨hk2.from _, hb2, ⟨_, hv2, by simpa using hr2, trivial⟩, hB.trans hb2⟩
  case done =>
    rintro D ys W hD rfl ⟨⟨v, hv, hrow, _⟩, hB⟩ hK
    have hc := hv.cell
    gi_wp2
    refine ⟨by simp, .inl ⟨_, _, rfl, run_takeDeferred hK, ?_⟩⟩
    exact ⟨_, results_tmp rfl _ _ _, v, rfl, ownsRow_putObj hrow _ hK rfl, hB.trans (belowK_b (w := w) (Nat.le_refl _) W D _ _ (by simp at hD; omega) hK rfl rfl)⟩
  case stop =>
    rintro D c pre W _ _ h _
    exact h.elim

set_option maxHeartbeats 1000000 in
theorem collect_in (F : Fence) (n : Nat) (h0 : F.fn 72) (h1' : F.fn 78) (h3 : F.fn 70) (hro : F.round = none) (hn : 4 ≤ n) (Bs g len cap : Nat) (bs : List Bool) (hlen : bs.length = len) (hm : len ≤ 1000) (w : World) (hBs : Bs < w.heap.size)
    (hc : w.cell? ⟨Bs, 0, none⟩ = some (.slice (some ⟨g, 0, none⟩) len cap)) (hI : CellsAt w g (bs.map .bool)) :
    CallsIn F n Try.prog 72 #[.func (.func 70) #[] #[.pointer (some ⟨Bs, 0, none⟩)]] w fun e W' => ∃ v, e = .returned v ∧
      W'.ownsRow w.heap.size 3 1 v (pos bs).length ((pos bs).map fun (j : Nat) => Value.int .i64 (j : Int)) ∧ Below w.heap.size w W' := by
  have C := hide (appendSeq_in F (n - 1) h1' h3 hro (by omega) Bs g len cap bs hlen hm w hBs hc hI)
  clear hlen hc hI
  have h1 : 1 ≤ n := by omega
  refine callsIn_of_wp Try.func72 rfl h0 ?_ hro
  simp only [Try.ntmps72, List.size_toArray, List.length_cons, List.length_nil, Nat.reduceAdd, Nat.reduceSub, Array.replicate_succ, Array.replicate_zero, List.push_toArray, List.append_toArray, List.nil_append, List.cons_append]
  gi_wp2_with (gi_at_call 78; refine C.out.mono ?_; rintro e w' ⟨v, rfl, ho, hb⟩)
  go_ret
  exact ⟨v, rfl, ho, hb⟩

theorem collect_any (Bs g len cap : Nat) (bs : List Bool) (hlen : bs.length = len) (hm : len ≤ 1000) (w : World) (hBs : Bs < w.heap.size)
    (hc : w.cell? ⟨Bs, 0, none⟩ = some (.slice (some ⟨g, 0, none⟩) len cap)) (hI : CellsAt w g (bs.map .bool)) :
    Calls Try.prog 72 #[.func (.func 70) #[] #[.pointer (some ⟨Bs, 0, none⟩)]] w fun e W' => ∃ v, e = .returned v ∧
      W'.ownsRow w.heap.size 3 1 v (pos bs).length ((pos bs).map fun (j : Nat) => Value.int .i64 (j : Int)) ∧ Below w.heap.size w W' :=
  callsIn_wide.1 (collect_in Fence.wide 4 trivial trivial trivial rfl (Nat.le_refl _) Bs g len cap bs hlen hm w hBs hc hI)
theorem balls_any (a : Option Addr) (len cap : Nat) (w : World) :
    Calls Try.prog 54 #[.slice a len cap] w fun e w' => e = .returned (.func (.func 70) #[] #[.pointer (some ⟨w.heap.size, 0, none⟩)]) ∧ w' = w.alloc (.cells #[.slice a len cap] 47) :=
  callsIn_wide.1 (balls_in Fence.wide 1 trivial rfl a len cap w)
end Go.Proofs.Ytkdhifofdghbbaa

/- THE WALKS of RowAt, of the model and of the program, and of its exact law. -/
namespace Go.Proofs.Ytkdhifofdghbbaa
open Go.RowKit

def posI (l : List Bool) : List Int := (pos l).map fun (j : Nat) => (j : Int)
def atR (s : ByteArray) : List Int := if vld s then posI (bits s) else []
theorem posI_map (l : List Bool) : (posI l).map (Value.int .i64) = (pos l).map fun (j : Nat) => Value.int .i64 (j : Int) := by unfold posI; rw [List.map_map]; rfl
theorem pos_pad (l : List Bool) (n : Nat) : pos (l ++ List.replicate n false) = pos l := by
  unfold pos posU
  rw [List.length_append, List.length_replicate, List.range_add, List.filter_append]
  have h2 : ((List.range n).map (l.length + ·)).filter (fun j => (l ++ List.replicate n false)[j]?.getD false) = [] := by
    rw [List.filter_eq_nil_iff]
    intro a ha
    obtain ⟨i, hi, rfl⟩ := List.mem_map.1 ha
    rw [List.getElem?_append_right (by omega)]
    simp [List.getElem?_replicate]
    split <;> simp
  rw [h2, List.append_nil]
  apply List.filter_congr
  intro j hj
  rw [List.getElem?_append_left (by simpa using hj)]
theorem pos_cut (l : List Bool) : pos (cut l) = pos l := by
  obtain ⟨n, hn⟩ := cut_eq l
  have h := pos_pad (cut l) n
  rw [← hn] at h
  exact h.symm
theorem pos_len (l : List Bool) : (pos l).length ≤ l.length := posU_le l l.length

theorem atR_len (s : ByteArray) : (atR s).length ≤ 120 := by
  unfold atR
  cases h : vld s
  · simp
  · have := vld_le s h
    have h2 := pos_len (bits s)
    rw [length_bits] at h2
    simp [posI]; omega

end Go.Proofs.Ytkdhifofdghbbaa

/- THE WALK of the law FnTidy: tidy rows are tidy. -/
namespace Go.Proofs.Ytkdhifofdghbbaa
open Go.RowKit

theorem bits_tidyS (s : ByteArray) : bits (tidyS s) = cut (bits s) := by
  unfold bits cut tidyS
  rw [Lib.extract_data]
  simp [bits]
theorem tidyS_size' (s : ByteArray) : (tidyS s).size = tl (bits s) := by
  have := tl_le (bits s)
  rw [length_bits] at this
  unfold tidyS; simp; omega
theorem vld_tidyS (s : ByteArray) (h : vld s = true) : vld (tidyS s) = true := by
  have h1 := vld_sgn s h
  have h2 := vld_le s h
  have h3 := tidyS_le s
  have hl : (tidyS s).data.toList = s.data.toList.take (tl (bits s)) := by
    unfold tidyS
    rw [Lib.extract_data]
    simp
  unfold vld
  rw [hl]
  unfold allSgn at h1 ⊢
  rw [List.all_eq_true] at h1
  rw [Bool.and_eq_true, List.all_eq_true]
  exact ⟨fun c hc => h1 c (List.mem_of_mem_take hc), by simp; omega⟩
theorem tidyS_tidyS (s : ByteArray) : tidyS (tidyS s) = tidyS s := by
  have h : tl (bits (tidyS s)) = (tidyS s).size := by rw [bits_tidyS, tl_cut, tidyS_size']
  have h2 : tidyS (tidyS s) = (tidyS s).extract 0 (tl (bits (tidyS s))) := rfl
  rw [h2, h]; simp
theorem tl_last (l : List Bool) (n : Nat) (h : tl l = n + 1) : l[n]? = some true := by
  have g : ∀ (m : List Bool) (n : Nat), tl m.reverse = n + 1 → m.reverse[n]? = some true := by
    intro m
    induction m with
    | nil => intro n h; simp [tl] at h
    | cons b m ih =>
      intro n h
      rw [List.reverse_cons, tl_snoc] at h
      rw [List.reverse_cons]
      cases b
      · have h2 : tl m.reverse = n + 1 := by simpa using h
        have := ih n h2
        rw [List.getElem?_append_left (List.getElem?_eq_some_iff.1 this).1]; exact this
      · have h2 : m.reverse.length = n := by simp at h; simpa using h
        rw [List.getElem?_append_right (by omega), h2]; simp
  have := g l.reverse n (by rw [List.reverse_reverse]; exact h)
  rwa [List.reverse_reverse] at this
theorem tidyS_last (s : ByteArray) (h : (tidyS s).size - 1 < (tidyS s).size) : (((tidyS s)[(tidyS s).size - 1].toNat : Int) == 49) = true := by
  rw [← bit_int]
  have h2 := bits_getElem (tidyS s) ((tidyS s).size - 1) h
  have h3 := tl_last (bits (tidyS s)) ((tidyS s).size - 1) (by rw [bits_tidyS, tl_cut, ← tidyS_size']; omega)
  rw [h3] at h2
  simpa using h2.symm

end Go.Proofs.Ytkdhifofdghbbaa

/- THE WALK of the law FnBalls: balls are counted boxes. -/
namespace Go.Proofs.Ytkdhifofdghbbaa
open Go.RowKit

theorem bits_ofBits (l : List Bool) : bits (ofBits l) = l := bits_chars l (ofBits l) (by simp [ofBits])
theorem vld_ofBits (l : List Bool) (h : l.length ≤ 120) : vld (ofBits l) = true := by
  unfold vld
  have e : (ofBits l).data.toList = chars l := by simp [ofBits]
  have hz : (ofBits l).size = l.length := by
    have := congrArg List.length e; rw [chars_length] at this; exact this
  rw [e, chars_sgn, hz]; simpa using h
theorem nballs_shB (n : Nat) (l : List Bool) : nballs (shB n l) = nballs l := by
  have : nballs (shB n l) = nballs (cut l) := by unfold shB nballs; rw [List.count_append, List.count_replicate]; simp
  rw [this, nballs_cut]
/-- what a shifted row is -/
theorem shS_facts (s : ByteArray) (n : Int) (h : shOk s n = true) : vld (shS s n) = true ∧ bits (shS s n) = if tl (bits s) = 0 then [] else shB n.toNat (bits s) := by
  by_cases h0 : tl (bits s) = 0
  · have e : shS s n = ByteArray.empty := by unfold shS; simp [h0]
    rw [e, if_pos h0]; exact ⟨rfl, rfl⟩
  · have e : shS s n = ofBits (shB n.toNat (bits s)) := by unfold shS; simp [h0, h]
    rw [e, if_neg h0, bits_ofBits]
    refine ⟨vld_ofBits _ ?_, rfl⟩
    rw [shB_length]
    unfold shOk at h
    simp [h0] at h
    omega
theorem nballs_shS (s : ByteArray) (n : Int) (h : shOk s n = true) : nballs (bits (shS s n)) = nballs (bits s) := by
  rw [(shS_facts s n h).2]
  by_cases h0 : tl (bits s) = 0
  · rw [if_pos h0, ← nballs_cut (bits s)]
    have : cut (bits s) = [] := by unfold cut; rw [h0]; rfl
    rw [this]
  · rw [if_neg h0, nballs_shB]
theorem shS_le (s : ByteArray) (n : Int) : (shS s n).size ≤ 120 := by
  cases h : shOk s n
  · have : shS s n = ByteArray.empty := by unfold shS; simp [h]
    rw [this]; exact Nat.zero_le _
  · exact vld_le _ (shS_facts s n h).1
theorem atR_length (s : ByteArray) (h : vld s = true) : (atR s).length = nballs (bits s) := by
  unfold atR; rw [h, if_pos rfl]; unfold posI; rw [List.length_map, count_boxes]

end Go.Proofs.Ytkdhifofdghbbaa
