/- TEXTS Text, RowTidy. -/
import Derived.Test.Ytlgceccbjkkeiabwax03
/- THE WALK of the method text: the signs of a row, up to its last ball. -/
namespace Go.Proofs.Ytlgceccbjkkeiab
open Go.RowKit Go.Shelf

attribute [local go_sem] Oper.semAt_some

def chars (l : List Bool) : List UInt8 := l.map fun b => if b then 49 else 48
def ofBits (l : List Bool) : ByteArray := ⟨(chars l).toArray⟩
/-- the cells of the signs: balls at some indexes -/
def sg (t : Nat) (ps : List Nat) : List Value := (List.range t).map fun j => .int .u8 (if ps.contains j then 49 else 48)

theorem sg_nil (t : Nat) : sg t [] = zeros t := by
  unfold sg zeros
  apply List.ext_getElem?
  intro j
  by_cases h : j < t <;> simp [h]
theorem sg_snoc (t : Nat) (ps : List Nat) (x : Nat) : sg t (ps ++ [x]) = (sg t ps).set x (.int .u8 49) := by
  apply List.ext_getElem?
  intro j
  rw [List.getElem?_set]
  unfold sg
  by_cases e : x = j
  · subst e
    by_cases h : x < t <;> simp [h]
  · have e2 : ¬ j = x := fun h => e h.symm
    by_cases h : j < t <;> simp [h, e, e2]
theorem sg_pos (l : List Bool) (t : Nat) (hl : l.length = t) : sg t (pos l) = (chars l).map fun c => .int .u8 (c.toNat : Int) := by
  subst hl
  apply List.ext_getElem?
  intro j
  unfold sg chars
  by_cases h : j < l.length
  · have e : l[j]? = some l[j] := List.getElem?_eq_getElem h
    have hm : (pos l).contains j = l[j] := by
      rw [Bool.eq_iff_iff, List.contains_iff_mem]
      unfold pos posU
      rw [List.mem_filter, e]
      simp [h]
    simp only [List.getElem?_map, List.getElem?_range h, e, Option.map_some, hm]
    cases l[j] <;> rfl
  · simp [h]

theorem CellsAt.kept {w w' : World} {g : Nat} {l : List Value} {row : Option Nat} (h : CellsAt w g l) (hg : w.grownBy w' row) (hr : ∀ r, row = some r → ∃ o : Obj, w.heap[r]? = some o ∧ o.isCells = false) : CellsAt w' g l := by
  intro j v hv
  obtain ⟨a, b⟩ := h j v hv
  exact ⟨cell_kept a hg hr, (frozen_kept a hg hr).trans b⟩

set_option maxRecDepth 100000 in
set_option maxHeartbeats 2000000 in
theorem text_g (y : Option Addr) (g n cap : Nat) (l : List Bool) (w : World) (hy : 0 < n → y = some ⟨g, 0, none⟩) (hl : l.length = n) (hc : CellsAt w g (l.map .bool)) (hn : n ≤ cap) (hm : cap ≤ maxLen) (h120 : tl l ≤ 120) :
    Calls Try.prog 32 #[.slice y n cap] w fun e w' => e = .returned (.tuple #[.string (ofBits (cut l)), .bool true]) ∧ Below w.heap.size w w' := by
  have hgl : 0 < n → g < w.heap.size := fun h => hc.lt (by simp; omega)
  have hle := tl_le l
  rw [hl] at hle
  have HT := hide (tidy_g y g n cap l w hy hl hc hn hm)
  have HCL := hide (cut_length l)
  have HCC : Hid (CellsAt w g ((cut l).map .bool)) := by rw [cut_map]; exact hc.take _
  have HGL := hide hgl
  have HY := hide hy
  obtain ⟨t, ht⟩ : ∃ t, t = tl l := ⟨_, rfl⟩
  rw [← ht] at hle h120 HT HCL
  clear hl hc hgl ht hy
  have e48 : (w.alloc (.cells #[.int .u8 48] 5)).cell? ⟨w.heap.size, 0, none⟩ = some (.int .u8 48) := by rw [World.cell?_alloc_at _ _ _ _ rfl]; rfl
  have hr0 := repeat_any t w.heap.size (w.alloc (.cells #[.int .u8 48] 5)) (by omega) e48
  rw [World.size_alloc] at hr0
  have HR := hide hr0
  clear hr0
  refine (callsIn_wide (n := 3)).1 ?_
  refine callsIn_of_wp_marks Try.func32 rfl trivial ?_ rfl
  simp only [Try.ntmps32, List.size_toArray, List.length_cons, List.length_nil, Nat.reduceAdd, Nat.reduceSub, Array.replicate_succ, Array.replicate_zero, List.push_toArray, List.append_toArray, List.nil_append, List.cons_append]
  gi_wp2_with (first | (refine ⟨trivial, ?_⟩; gi_at_call 38; refine (callsIn_wide.2 HT.out).mono ?_; rintro e w' ⟨rfl, rfl⟩) | (refine ⟨trivial, ?_⟩; gi_at_call 43; refine (callsIn_wide.2 HR.out).mono ?_; rintro e w2 ⟨rfl, hb2, hz2, hc2⟩) | (refine ⟨trivial, ?_⟩; gi_at_call 39; refine (balls_in Fence.wide _ trivial rfl _ _ _ _).mono ?_; rintro e w3 ⟨rfl, rfl⟩))
  have hB2 : Below w.heap.size w w2 := ((Below.refl _ w).alloc (Nat.le_refl _) _).trans (hb2.mono (by omega))
  have bX := Boxed.new w2 62 (.slice (some ⟨w.heap.size + 1, 0, none⟩) t t)
  have bN := Boxed.new (w2.alloc (.cells #[.slice (some ⟨w.heap.size + 1, 0, none⟩) t t] 62)) 44 (.slice y t cap)
  rw [World.size_alloc] at bN
  have hs2 := hB2.size
  have hB0 : Below w.heap.size w ((w2.alloc (.cells #[.slice (some ⟨w.heap.size + 1, 0, none⟩) t t] 62)).alloc (.cells #[.slice y t cap] 44)) := (hB2.alloc hs2 _).alloc (by simp; omega) _
  have HZ := hide ((hc2.alloc (.cells #[.slice (some ⟨w.heap.size + 1, 0, none⟩) t t] 62)).alloc (.cells #[.slice y t cap] 44))
  have HZ2 := hide hz2
  clear hc2
  refine wpIn_rangeFunc_ownG rfl (by omega) (gf := 46) (lb := #[.pointer (some ⟨w2.heap.size + 1, 0, none⟩)]) rfl trivial (enters_of Try.func46 (by kernel_rfl) rfl)
    (balls_stopsF_g Fence.wide 2 trivial rfl (by omega) y (w2.heap.size + 1) w.heap.size g t cap (fun h => HY.out (by omega)) (cut l) HCL.out (by omega) _ (by simp) (fun h => HGL.out (by omega)) bN.cell (HCC.out.below' hB0 (Nat.le_refl _))) belowK_t (belowK_b (by simp; omega)) (Below.refl _ _) (fun _ => rfl)
    (fun (pre : List { j : Nat // j < t }) W => (W.cell? ⟨w2.heap.size, 0, none⟩ = some (.slice (some ⟨w.heap.size + 1, 0, none⟩) t t) ∧ CellsAt W (w.heap.size + 1) (sg t (pre.map (·.1)))) ∧ Below w.heap.size w W)
    (fun _ _ _ => False)
    (OwnFrom.and (Own.from (fun s A B row hs hg hr => ⟨cell_kept hs.1 hg hr, hs.2.kept hg hr⟩) _) (ownFrom_below (Nat.le_refl _) (by simp; omega)))
    (fun _ _ _ _ _ hs _ _ => hs)
    ⟨⟨(bX.alloc _).cell, by rw [List.map_nil, sg_nil]; exact HZ.out⟩, hB0⟩
    (fun x => { tmps := #[.slice y t cap, undef, .string ⟨#[]⟩, .bool false, .pointer (some ⟨w2.heap.size, 0, none⟩), .int .i64 (x.1 : Int), .slice y n cap, .slice y t cap,
      .slice y t cap, .int .i64 (t : Int), .bool (decide (120 < (t : Int))), .slice (some ⟨w.heap.size, 0, none⟩) 1 1, .slice y t cap, .int .i64 (t : Int), .slice (some ⟨w.heap.size + 1, 0, none⟩) t t,
      .slice y t cap, .func (.func 46) #[] #[.pointer (some ⟨w2.heap.size + 1, 0, none⟩)], .int .i64 (x.1 : Int), undef, undef, undef, undef, undef], defers := [] }) ?assign ?body ?done ?stop
  case assign =>
    intro l x W K hK
    gi_wp2
    exact hK
  case body =>
    rintro l' pre ⟨x, hx⟩ W ⟨⟨hcb, hcs⟩, hB⟩ _
    obtain ⟨v, hv⟩ : ∃ v, (sg t (pre.map (·.1)))[x]? = some v := ⟨_, List.getElem?_eq_getElem (by simp [sg]; exact hx)⟩
    obtain ⟨hcell, hfr⟩ := hcs x v hv
    have HS := hide (hcs.set x (by simp [sg]; exact hx) (.int .u8 49))
    have HV := hide hv
    have x0 : (0 : Int) ≤ (x : Int) := by omega
    have x1 : (x : Int) < (t : Int) := by omega
    clear hcs hv
    gi_wp2
    exact ⟨(KeepsOthers.setCell _ _ _).from _, (Below.refl w.heap.size W).setCell (p := ⟨w.heap.size + 1, x, none⟩) (by simp) _, ⟨by rw [World.cell?_setCell_other _ _ _ _ (by intro h; injection h with h1 _; have := HZ2.out; omega)]; exact hcb, by rw [List.map_append, List.map_cons, List.map_nil, sg_snoc]; exact HS.out⟩, hB.setCell (p := ⟨w.heap.size + 1, x, none⟩) (by simp) _⟩
  case done =>
    rintro D ys W hD hys ⟨⟨hcb, hcs⟩, hB⟩ hK
    rw [hys, sg_pos (cut l) t HCL.out] at hcs
    have hlen : (chars (cut l)).length = t := by unfold chars; rw [List.length_map]; exact HCL.out
    have hconv := run_convert_bytes_back (P := Try.prog) W 62 9 5 ⟨w.heap.size + 1, 0, none⟩ t (chars (cut l)) Try.underlying62 Try.underlying5 Try.underlying9 (fun j hj => by
      rw [Addr.add_lit, Nat.zero_add]
      exact (hcs j _ (by rw [List.getElem?_map, List.getElem?_eq_getElem hj]; rfl)).1)
    rw [hlen] at hconv
    gi_wp2
    refine ⟨by simp, .inl ⟨_, _, rfl, run_takeDeferred hK, ?_⟩⟩
    exact ⟨_, results_tmp2 rfl _ _ _, rfl, hB.trans (belowK_b (w := w) (Nat.le_refl _) W D _ _ (by simp at hD; omega) hK rfl rfl)⟩
  case stop =>
    rintro D c pre W _ _ h _
    exact h.elim
theorem text_any (g n cap : Nat) (l : List Bool) (w : World) (hl : l.length = n) (hc : CellsAt w g (l.map .bool)) (hn : n ≤ cap) (hm : cap ≤ maxLen) (h120 : n ≤ 120) :
    Calls Try.prog 32 #[.slice (some ⟨g, 0, none⟩) n cap] w fun e w' => e = .returned (.tuple #[.string (ofBits (cut l)), .bool true]) ∧ Below w.heap.size w w' :=
  text_g _ g n cap l w (fun _ => rfl) hl hc hn hm (by have := tl_le l; omega)

set_option maxHeartbeats 400000 in
/-- .. a row that is too long -/
theorem text_big (y : Option Addr) (g n cap : Nat) (l : List Bool) (w : World) (hy : 0 < n → y = some ⟨g, 0, none⟩) (hl : l.length = n) (hc : CellsAt w g (l.map .bool)) (hn : n ≤ cap) (hm : cap ≤ maxLen) (h120 : 120 < tl l) :
    Calls Try.prog 32 #[.slice y n cap] w fun e w' => e = .returned (.tuple #[.string ByteArray.empty, .bool false]) ∧ Below w.heap.size w w' := by
  have HT := hide (tidy_g y g n cap l w hy hl hc hn hm)
  have hle := tl_le l
  unfold maxLen at hm
  obtain ⟨t, ht⟩ : ∃ t, t = tl l := ⟨_, rfl⟩
  rw [← ht] at HT h120 hle
  clear hc ht
  go_enter Try.func32, Try.ntmps32
  go_wp2_with (go_at_call 38; refine HT.out.mono ?_; rintro e w' ⟨rfl, rfl⟩)
  go_ret2
  exact ⟨rfl, Below.refl _ _⟩
end Go.Proofs.Ytlgceccbjkkeiab

/- THE WALKS of RowTidy, of the program, and of its exact law. -/
namespace Go.Proofs.Ytlgceccbjkkeiab
open Go.RowKit

theorem tl_pad (l : List Bool) (n : Nat) : tl (l ++ List.replicate n false) = tl l := by
  induction n with
  | zero => simp
  | succ n ih => rw [List.replicate_succ', ← List.append_assoc, tl_snoc]; simpa using ih
theorem tl_cut (l : List Bool) : tl (cut l) = tl l := by
  obtain ⟨n, hn⟩ := cut_eq l
  have h := tl_pad (cut l) n
  rw [← hn] at h
  exact h.symm
theorem cut_cut (l : List Bool) : cut (cut l) = cut l := by
  have h : cut (cut l) = (cut l).take (tl (cut l)) := rfl
  rw [h, tl_cut, List.take_of_length_le (by rw [cut_length]; exact Nat.le_refl _)]
theorem chars_take (l : List Bool) (k : Nat) : chars (l.take k) = (chars l).take k := by unfold chars; rw [List.map_take]
theorem chars_bits (s : ByteArray) (h : allSgn s.data.toList = true) : chars (bits s) = s.data.toList := by
  unfold chars bits
  rw [List.map_map]
  unfold allSgn at h
  rw [List.all_eq_true] at h
  have : s.data.toList.map ((fun b => if b = true then (49 : UInt8) else 48) ∘ fun x => x == 49) = s.data.toList.map id := by
    apply List.map_congr_left
    intro c hc
    have hs := h c hc
    unfold sgn at hs
    by_cases h49 : c = 49
    · subst h49; rfl
    · have : c = 48 := by simpa [h49] using hs
      subst this; rfl
  rw [this, List.map_id]
theorem tidyS_eq (s : ByteArray) (h : allSgn s.data.toList = true) : ofBits (cut (bits s)) = tidyS s := by
  have hl : (tidyS s).data.toList = s.data.toList.take (tl (bits s)) := by
    unfold tidyS
    rw [Lib.extract_data]
    simp
  have e : ofBits (cut (bits s)) = ⟨(tidyS s).data.toList.toArray⟩ := by
    unfold ofBits
    rw [hl]
    unfold cut
    rw [chars_take, chars_bits s h]
  rw [e]

end Go.Proofs.Ytlgceccbjkkeiab
