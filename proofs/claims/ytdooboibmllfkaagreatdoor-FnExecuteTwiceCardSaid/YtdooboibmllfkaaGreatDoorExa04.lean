/- TEXTS Repeat, Text, RowTidy. -/
import Derived.Test.YtdooboibmllfkaaGreatDoorExa03
import Derived.Test.YtdooboibmllfkaaGreatDoorExa02
import Derived.Test.YtdooboibmllfkaaGreatDoorChecked
import Derived.Lib.SlBuf
import Derived.Lib.MakeNoZero
import Derived.Deep.RegionLaw
import Derived.Laws.CopyOwn
import Derived.WalkKit
import Derived.WalkSpells
import Derived.WalkLawsBesides
namespace Go.Proofs.YtdooboibmllfkaaGreatDoor
set_option maxRecDepth 100000
open Go.RowKit

def zeros (n : Nat) : List Value := List.replicate n (.int .u8 48)

set_option maxHeartbeats 400000 in
theorem repeat_zero (a : Option Addr) (w : World) :
    Calls Tryz.prog 161 #[.slice a 1 1, .int .i64 0] w fun e w' => e = .returned (.slice (some ⟨w.heap.size, 0, none⟩) 0 0) ∧ w' = w.alloc (.cells #[] 5) := by
  go_enter Tryz.func161, Tryz.ntmps161
  go_wp2
  go_ret
  exact ⟨rfl, rfl⟩

def RepRel (w : World) (g n : Nat) (i : Value) (wr : World) : Prop :=
  ∃ (k : Nat) (cur : List Value), 1 ≤ k ∧ k ≤ n ∧ i = .int .i64 (k : Int) ∧ Hid (wr.heap[g]? = some (.cells cur.toArray 5 (0, 0))) ∧ Hid (n ≤ cur.length) ∧ Hid (∀ j, j < k → cur[j]? = some (.int .u8 48)) ∧ Hid (Below g w wr)
theorem splice_zeros (cur : List Value) (k m : Nat) (hk : k ≤ cur.length) (h : ∀ j, j < k → cur[j]? = some (.int .u8 48)) : ∀ j, j < k + m → (splice cur k (zeros m))[j]? = some (.int .u8 48) := by
  intro j hj
  unfold splice zeros
  by_cases h1 : j < k
  · rw [List.getElem?_append_left (by simp; omega), List.getElem?_take, if_pos h1]; exact h j h1
  · rw [List.getElem?_append_right (by simp; omega), List.getElem?_append_left (by simp; omega), List.getElem?_replicate, if_pos (by simp; omega)]

set_option maxRecDepth 100000 in
set_option maxHeartbeats 1000000 in
theorem repeat_pos (n b : Nat) (w : World) (h0 : 0 < n) (hn : n ≤ 1000) (hc : w.cell? ⟨b, 0, none⟩ = some (.int .u8 48)) :
    Calls Tryz.prog 161 #[.slice (some ⟨b, 0, none⟩) 1 1, .int .i64 (n : Int)] w fun e w' => e = .returned (.slice (some ⟨w.heap.size, 0, none⟩) n n) ∧
      Below w.heap.size w w' ∧ w.heap.size < w'.heap.size ∧ CellsAt w' w.heap.size (zeros n) := by
  obtain ⟨cs, hrunM, hle, _⟩ := Lib.run_makeNoZero (P := Tryz.prog) w #[3] 22 5 Tryz.underlying22 n (by omega)
  have hcall : (callFunc 186 #[.int .i64 (n : Int)]).run Tryz.prog w = .ok (.value (.slice (some ⟨w.heap.size, 0, none⟩) n cs.size)) ((w.alloc (.cells cs 5)).drewN 2) := by
    rw [run_callFunc_extern Tryz.func186 (by kernel_rfl) (by kernel_rfl) (by kernel_rfl) (e := Extern.BytealgMakeNoZero.makeNoZero #[3] #[22]) (by kernel_rfl), hrunM]
    rfl
  clear hrunM
  have i0 : (0 : Int) ≤ (n : Int) := by omega
  have i1 : (n : Int) ≤ (cs.size : Int) := by omega
  have f0 : ((n : Int) == 0) = false := beq_eq_false_iff_ne.2 (by omega)
  have hmul := hide (fun w => (Tryz.bits_Mul 1 n (by omega) (by omega) w).mono (R' := fun e w' => e = .returned (.tuple #[.int .u64 0, .int .u64 (n : Int)]) ∧ w = w') (by
    rintro e w' ⟨rfl, rfl⟩
    rw [Nat.one_mul, Nat.div_eq_of_lt (by omega), Nat.mod_eq_of_lt (by omega)]
    exact ⟨rfl, rfl⟩))
  go_enter Tryz.func161, Tryz.ntmps161
  obtain ⟨g, hg⟩ : ∃ g, w.heap.size = g := ⟨_, rfl⟩
  have HH : Hid (((w.alloc (.cells cs 5)).drewN 2).heap[g]? = some (.cells cs.toList.toArray 5 (0, 0))) := by
    show (w.alloc (.cells cs 5)).heap[g]? = _
    rw [← hg]; simpa using heap_alloc_new w (.cells cs 5 (0, 0))
  have HBW : Hid (Below g w ((w.alloc (.cells cs 5)).drewN 2)) := ((Quiet.drewN (w := w.alloc (.cells cs 5)) 2).2 g |> ((Below.refl g w).alloc (by omega) _).trans)
  have HSRC : Hid (((w.alloc (.cells cs 5)).drewN 2).cell? ⟨b, 0, none⟩ = some (.int .u8 48)) := (HBW.out.cell (p := ⟨b, 0, none⟩) (by have := World.block_lt_of_cell? w _ hc; rw [← hg]; exact this)).trans hc
  have hsz5 : (Tryz.prog.info? 5).map (·.size) = some 1 := by kernel_rfl
  have HG := hide hg
  have HLE := hide hle
  rw [hg] at hcall ⊢
  clear hg hc hle
  have HSZ := hide hsz5
  clear hsz5
  go_wp2_with (first | (go_at_call 169; refine (hmul.out _).mono ?_; rintro e w' ⟨rfl, rfl⟩) | (with_reducible refine wpList_copy_splice rfl (.tmp 58) (.tmp 59) 22 22 rfl 5 Tryz.underlying22 HSZ.out (some ⟨g, 0, none⟩) (some ⟨b, 0, none⟩) n n 1 1 rfl rfl g 0 cs.toList 5 HH.out [.int .u8 48] ?c1 ?c2 ?c3 ?c4 g w HBW.out (Nat.le_refl _) ?_; rotate_right; intro w1 hh1 hb1))
  case c1 => show 1 = min 1 n; omega
  case c2 =>
    intro j v hj
    cases j with
    | zero => simp at hj; subst hj; exact HSRC.out
    | succ j => simp at hj
  case c3 => have := HLE.out; simp; omega
  case c4 => intro v hv; simp at hv; subst hv; rfl
  have h1b : (1 : Int) ≤ (n : Int) := by omega
  go_loopw [10] (RepRel w g n) (fun i _ => n - (Go.RowKit.intOf i).toNat)
  case atStart =>
    refine ⟨1, _, Nat.le_refl _, by omega, rfl, hh1, ?_, ?_, hb1⟩
    · have := HLE.out; simp [splice, Hid]; omega
    · intro j hj
      obtain rfl : j = 0 := by omega
      simp [splice]
  case round =>
    obtain ⟨k, cur, hk1, hk, rfl, HC, HN, HZ, HB⟩ := hrel
    clear hh1 hb1
    by_cases hlt : k < n
    · have z0 : (0 : Int) ≤ (k : Int) := by omega
      have z1 : (k : Int) < (n : Int) := by omega
      have z2 : ¬ ((n : Int) = (k : Int)) := by omega
      have hmin : min (k : Int) (n : Int) = (k : Int) := by omega
      have K1 := hide (show (zeros (min k (n - k))).length = Nat.min k (n - k) by unfold zeros; rw [List.length_replicate])
      have K2 : Hid (∃ ad, some (⟨g, 0, none⟩ : Addr) = some ad ∧ ∀ j v, (zeros (min k (n - k)))[j]? = some v → wr.drew.cell? (ad.add j) = some v) := by
        refine ⟨_, rfl, ?_⟩
        intro j v hj
        unfold zeros at hj
        rw [List.getElem?_replicate] at hj
        split at hj
        · simp only [Option.some.injEq] at hj
          subst hj
          have := cell_of_row wr g j cur.toArray 5 (0, 0) HC.out
          rw [Addr.add_lit, Nat.zero_add]
          show wr.cell? _ = _
          rw [this]
          simpa using HZ.out j (by omega)
        · cases hj
      have K3 := hide (show k + (zeros (min k (n - k))).length ≤ cur.length by have := HN.out; unfold zeros; rw [List.length_replicate]; omega)
      have K4 : Hid (∀ v ∈ zeros (min k (n - k)), v.oneCell' = true) := by
        intro v hv; unfold zeros at hv; rw [List.mem_replicate] at hv; rw [hv.2]; rfl
      have HC2 : Hid (wr.drew.heap[g]? = some (.cells cur.toArray 5 (0, 0))) := HC
      have HB2 : Hid (Below g w wr.drew) := HB.out.drew
      go_wp2
      go_region_law (refine step_copy_splice rfl (.tmp 70) (.tmp 73) 22 22 rfl 5 Tryz.underlying22 HSZ.out (some ⟨g, k, none⟩) (some ⟨g, 0, none⟩) (n - k) (n - k) k n (by simp [Act.eval, Act.put]; omega) (by simp [Act.eval, Act.put]) g k cur 5 HC2.out (zeros (min k (n - k))) K1.out (fun _ => ⟨rfl, K2.out⟩) K3.out K4.out g w HB2.out (Nat.le_refl _) ?_; intro w4 hg4 hb4; have HB4 := hide hb4; clear hb4)
      go_wp2
      go_roundw
      case rel =>
        refine ⟨k + min k (n - k), splice cur k (zeros (min k (n - k))), by omega, by omega, ?_, hg4, ?_, ?_, HB4⟩
        · rw [K1.out]; show Value.int .i64 (IntKind.i64.wrap ((k : Int) + ((min k (n - k) : Nat) : Int))) = _; rw [IntWalk.i64_in _ (by omega)]; congr 1
        · have := HN.out; have h3 := K3.out; rw [Hid, length_splice _ _ _ h3]; exact this
        · exact splice_zeros cur k _ (by have := HN.out; omega) HZ.out
      case measure => rw [K1.out]; show n - (IntKind.i64.wrap ((k : Int) + ((min k (n - k) : Nat) : Int))).toNat < n - (k : Int).toNat; rw [IntWalk.i64_in _ (by omega)]; omega
    · obtain rfl : k = n := by omega
      go_wp2
      go_ret
      have hg := HG.out
      subst hg
      have hlt := (Array.getElem?_eq_some_iff.1 HC.out).1
      refine ⟨rfl, HB.out, hlt, ?_⟩
      intro j v hj
      unfold zeros at hj
      rw [List.getElem?_replicate] at hj
      split at hj
      · simp only [Option.some.injEq] at hj
        subst hj
        exact ⟨by rw [cell_of_row wr _ j cur.toArray 5 (0, 0) HC.out]; simpa using HZ.out j (by omega), frozen_of_row wr _ j cur.toArray 5 HC.out⟩
      · cases hj

theorem repeat_any (n b : Nat) (w : World) (hn : n ≤ 1000) (hc : w.cell? ⟨b, 0, none⟩ = some (.int .u8 48)) :
    Calls Tryz.prog 161 #[.slice (some ⟨b, 0, none⟩) 1 1, .int .i64 (n : Int)] w fun e w' => e = .returned (.slice (some ⟨w.heap.size, 0, none⟩) n n) ∧
      Below w.heap.size w w' ∧ w.heap.size < w'.heap.size ∧ CellsAt w' w.heap.size (zeros n) := by
  by_cases h0 : n = 0
  · subst h0
    refine (repeat_zero (some ⟨b, 0, none⟩) w).mono ?_
    rintro e w' ⟨rfl, rfl⟩
    exact ⟨rfl, (Below.refl _ _).alloc (Nat.le_refl _) _, by simp, fun j v hj => by simp [zeros] at hj⟩
  · exact repeat_pos n b w (by omega) hn hc
end Go.Proofs.YtdooboibmllfkaaGreatDoor

namespace Go.Proofs.YtdooboibmllfkaaGreatDoor
set_option maxRecDepth 100000
open Go.RowKit Go.Shelf

attribute [local go_sem] Oper.semAt_some

def chars (l : List Bool) : List UInt8 := l.map fun b => if b then 49 else 48
def ofBits (l : List Bool) : ByteArray := ⟨(chars l).toArray⟩
def sg (t : Nat) (ps : List Nat) : List Value := (List.range t).map fun j => .int .u8 (if ps.contains j then 49 else 48)

theorem sg_nil (t : Nat) : sg t [] = zeros t := by
  unfold sg zeros
  apply List.ext_getElem?
  intro j
  by_cases h : j < t <;> simp [h]
theorem sg_snoc (t : Nat) (ps : List Nat) (x : Nat) : sg t (ps ++ [x]) = (sg t ps).set x (.int .u8 49) := by
  apply List.ext_getElem?
  intro j
  rw [List.getElem?_set]
  unfold sg
  by_cases e : x = j
  · subst e
    by_cases h : x < t <;> simp [h]
  · have e2 : ¬ j = x := fun h => e h.symm
    by_cases h : j < t <;> simp [h, e, e2]
theorem sg_pos (l : List Bool) (t : Nat) (hl : l.length = t) : sg t (pos l) = (chars l).map fun c => .int .u8 (c.toNat : Int) := by
  subst hl
  apply List.ext_getElem?
  intro j
  unfold sg chars
  by_cases h : j < l.length
  · have e : l[j]? = some l[j] := List.getElem?_eq_getElem h
    have hm : (pos l).contains j = l[j] := by
      rw [Bool.eq_iff_iff, List.contains_iff_mem]
      unfold pos posU
      rw [List.mem_filter, e]
      simp [h]
    simp only [List.getElem?_map, List.getElem?_range h, e, Option.map_some, hm]
    cases l[j] <;> rfl
  · simp [h]

theorem CellsAt.kept {w w' : World} {g : Nat} {l : List Value} {row : Option Nat} (h : CellsAt w g l) (hg : w.grownBy w' row) (hr : ∀ r, row = some r → ∃ o : Obj, w.heap[r]? = some o ∧ o.isCells = false) : CellsAt w' g l := by
  intro j v hv
  obtain ⟨a, b⟩ := h j v hv
  exact ⟨cell_kept a hg hr, (frozen_kept a hg hr).trans b⟩

set_option maxRecDepth 100000 in
set_option maxHeartbeats 2000000 in
theorem text_g (y : Option Addr) (g n cap : Nat) (l : List Bool) (w : World) (hy : 0 < n → y = some ⟨g, 0, none⟩) (hl : l.length = n) (hc : CellsAt w g (l.map .bool)) (hn : n ≤ cap) (hm : cap ≤ maxLen) (h120 : tl l ≤ 120) :
    Calls Tryz.prog 133 #[.slice y n cap] w fun e w' => e = .returned (.tuple #[.string (ofBits (cut l)), .bool true]) ∧ Below w.heap.size w w' := by
  have hgl : 0 < n → g < w.heap.size := fun h => hc.lt (by simp; omega)
  have hle := tl_le l
  rw [hl] at hle
  have HT := hide (tidy_g y g n cap l w hy hl hc hn hm)
  have HCL := hide (cut_length l)
  have HCC : Hid (CellsAt w g ((cut l).map .bool)) := by rw [cut_map]; exact hc.take _
  have HGL := hide hgl
  have HY := hide hy
  obtain ⟨t, ht⟩ : ∃ t, t = tl l := ⟨_, rfl⟩
  rw [← ht] at hle h120 HT HCL
  clear hl hc hgl ht hy
  have e48 : (w.alloc (.cells #[.int .u8 48] 5)).cell? ⟨w.heap.size, 0, none⟩ = some (.int .u8 48) := by rw [World.cell?_alloc_at _ _ _ _ rfl]; rfl
  have hr0 := repeat_any t w.heap.size (w.alloc (.cells #[.int .u8 48] 5)) (by omega) e48
  rw [World.size_alloc] at hr0
  have HR := hide hr0
  clear hr0
  refine (callsIn_wide (n := 3)).1 ?_
  refine callsIn_of_wp_marks Tryz.func133 rfl trivial ?_ rfl
  simp only [Tryz.ntmps133, List.size_toArray, List.length_cons, List.length_nil, Nat.reduceAdd, Nat.reduceSub, Array.replicate_succ, Array.replicate_zero, List.push_toArray, List.append_toArray, List.nil_append, List.cons_append]
  gi_wp2_with (first | (refine ⟨trivial, ?_⟩; gi_at_call 160; refine (callsIn_wide.2 HT.out).mono ?_; rintro e w' ⟨rfl, rfl⟩) | (refine ⟨trivial, ?_⟩; gi_at_call 161; refine (callsIn_wide.2 HR.out).mono ?_; rintro e w2 ⟨rfl, hb2, hz2, hc2⟩) | (refine ⟨trivial, ?_⟩; gi_at_call 162; refine (balls_in Fence.wide _ trivial rfl _ _ _ _).mono ?_; rintro e w3 ⟨rfl, rfl⟩))
  have hB2 : Below w.heap.size w w2 := ((Below.refl _ w).alloc (Nat.le_refl _) _).trans (hb2.mono (by omega))
  have bX := Boxed.new w2 22 (.slice (some ⟨w.heap.size + 1, 0, none⟩) t t)
  have bN := Boxed.new (w2.alloc (.cells #[.slice (some ⟨w.heap.size + 1, 0, none⟩) t t] 22)) 116 (.slice y t cap)
  rw [World.size_alloc] at bN
  have hs2 := hB2.size
  have hB0 : Below w.heap.size w ((w2.alloc (.cells #[.slice (some ⟨w.heap.size + 1, 0, none⟩) t t] 22)).alloc (.cells #[.slice y t cap] 116)) := (hB2.alloc hs2 _).alloc (by simp; omega) _
  have HZ := hide ((hc2.alloc (.cells #[.slice (some ⟨w.heap.size + 1, 0, none⟩) t t] 22)).alloc (.cells #[.slice y t cap] 116))
  have HZ2 := hide hz2
  clear hc2
  refine wpIn_rangeFunc_ownG rfl (by omega) (gf := 187) (lb := #[.pointer (some ⟨w2.heap.size + 1, 0, none⟩)]) rfl trivial (enters_of Tryz.func187 (by kernel_rfl) rfl)
    (balls_stopsF_g Fence.wide 2 trivial rfl (by omega) y (w2.heap.size + 1) w.heap.size g t cap (fun h => HY.out (by omega)) (cut l) HCL.out (by omega) _ (by simp) (fun h => HGL.out (by omega)) bN.cell (HCC.out.below' hB0 (Nat.le_refl _))) belowK_t (belowK_b (by simp; omega)) (Below.refl _ _) (fun _ => rfl)
    (fun (pre : List { j : Nat // j < t }) W => (W.cell? ⟨w2.heap.size, 0, none⟩ = some (.slice (some ⟨w.heap.size + 1, 0, none⟩) t t) ∧ CellsAt W (w.heap.size + 1) (sg t (pre.map (·.1)))) ∧ Below w.heap.size w W)
    (fun _ _ _ => False)
    (OwnFrom.and (Own.from (fun s A B row hs hg hr => ⟨cell_kept hs.1 hg hr, hs.2.kept hg hr⟩) _) (ownFrom_below (Nat.le_refl _) (by simp; omega)))
    (fun _ _ _ _ _ hs _ _ => hs)
    ⟨⟨(bX.alloc _).cell, by rw [List.map_nil, sg_nil]; exact HZ.out⟩, hB0⟩
    (fun x => { tmps := #[.slice y t cap, undef, .string ⟨#[]⟩, .bool false, .pointer (some ⟨w2.heap.size, 0, none⟩), .int .i64 (x.1 : Int), .slice y n cap, .slice y t cap,
      .slice y t cap, .int .i64 (t : Int), .bool (decide (120 < (t : Int))), .slice (some ⟨w.heap.size, 0, none⟩) 1 1, .slice y t cap, .int .i64 (t : Int), .slice (some ⟨w.heap.size + 1, 0, none⟩) t t,
      .slice y t cap, .func (.func 187) #[] #[.pointer (some ⟨w2.heap.size + 1, 0, none⟩)], .int .i64 (x.1 : Int), undef, undef, undef, undef, undef], defers := [] }) ?assign ?body ?done ?stop
  case assign =>
    intro l x W K hK
    gi_wp2
    exact hK
  case body =>
    rintro l' pre ⟨x, hx⟩ W ⟨⟨hcb, hcs⟩, hB⟩ _
    obtain ⟨v, hv⟩ : ∃ v, (sg t (pre.map (·.1)))[x]? = some v := ⟨_, List.getElem?_eq_getElem (by simp [sg]; exact hx)⟩
    obtain ⟨hcell, hfr⟩ := hcs x v hv
    have HS := hide (hcs.set x (by simp [sg]; exact hx) (.int .u8 49))
    have HV := hide hv
    have x0 : (0 : Int) ≤ (x : Int) := by omega
    have x1 : (x : Int) < (t : Int) := by omega
    clear hcs hv
    gi_wp2
    exact ⟨(KeepsOthers.setCell _ _ _).from _, (Below.refl w.heap.size W).setCell (p := ⟨w.heap.size + 1, x, none⟩) (by simp) _, ⟨by rw [World.cell?_setCell_other _ _ _ _ (by intro h; injection h with h1 _; have := HZ2.out; omega)]; exact hcb, by rw [List.map_append, List.map_cons, List.map_nil, sg_snoc]; exact HS.out⟩, hB.setCell (p := ⟨w.heap.size + 1, x, none⟩) (by simp) _⟩
  case done =>
    rintro D ys W hD hys ⟨⟨hcb, hcs⟩, hB⟩ hK
    rw [hys, sg_pos (cut l) t HCL.out] at hcs
    have hlen : (chars (cut l)).length = t := by unfold chars; rw [List.length_map]; exact HCL.out
    have hconv := run_convert_bytes_back (P := Tryz.prog) W 22 9 5 ⟨w.heap.size + 1, 0, none⟩ t (chars (cut l)) Tryz.underlying22 Tryz.underlying5 Tryz.underlying9 (fun j hj => by
      rw [Addr.add_lit, Nat.zero_add]
      exact (hcs j _ (by rw [List.getElem?_map, List.getElem?_eq_getElem hj]; rfl)).1)
    rw [hlen] at hconv
    gi_wp2
    refine ⟨by simp, .inl ⟨_, _, rfl, run_takeDeferred hK, ?_⟩⟩
    exact ⟨_, results_tmp2 rfl _ _ _, rfl, hB.trans (belowK_b (w := w) (Nat.le_refl _) W D _ _ (by simp at hD; omega) hK rfl rfl)⟩
  case stop =>
    rintro D c pre W _ _ h _
    exact h.elim
theorem text_any (g n cap : Nat) (l : List Bool) (w : World) (hl : l.length = n) (hc : CellsAt w g (l.map .bool)) (hn : n ≤ cap) (hm : cap ≤ maxLen) (h120 : n ≤ 120) :
    Calls Tryz.prog 133 #[.slice (some ⟨g, 0, none⟩) n cap] w fun e w' => e = .returned (.tuple #[.string (ofBits (cut l)), .bool true]) ∧ Below w.heap.size w w' :=
  text_g _ g n cap l w (fun _ => rfl) hl hc hn hm (by have := tl_le l; omega)

set_option maxHeartbeats 400000 in
theorem text_big (y : Option Addr) (g n cap : Nat) (l : List Bool) (w : World) (hy : 0 < n → y = some ⟨g, 0, none⟩) (hl : l.length = n) (hc : CellsAt w g (l.map .bool)) (hn : n ≤ cap) (hm : cap ≤ maxLen) (h120 : 120 < tl l) :
    Calls Tryz.prog 133 #[.slice y n cap] w fun e w' => e = .returned (.tuple #[.string ByteArray.empty, .bool false]) ∧ Below w.heap.size w w' := by
  have HT := hide (tidy_g y g n cap l w hy hl hc hn hm)
  have hle := tl_le l
  unfold maxLen at hm
  obtain ⟨t, ht⟩ : ∃ t, t = tl l := ⟨_, rfl⟩
  rw [← ht] at HT h120 hle
  clear hc ht
  go_enter Tryz.func133, Tryz.ntmps133
  go_wp2_with (go_at_call 160; refine HT.out.mono ?_; rintro e w' ⟨rfl, rfl⟩)
  go_ret2
  exact ⟨rfl, Below.refl _ _⟩
end Go.Proofs.YtdooboibmllfkaaGreatDoor

namespace Go.Proofs.YtdooboibmllfkaaGreatDoor
set_option maxRecDepth 100000
open Go.RowKit

theorem tl_pad (l : List Bool) (n : Nat) : tl (l ++ List.replicate n false) = tl l := by
  induction n with
  | zero => simp
  | succ n ih => rw [List.replicate_succ', ← List.append_assoc, tl_snoc]; simpa using ih
theorem tl_cut (l : List Bool) : tl (cut l) = tl l := by
  obtain ⟨n, hn⟩ := cut_eq l
  have h := tl_pad (cut l) n
  rw [← hn] at h
  exact h.symm
theorem cut_cut (l : List Bool) : cut (cut l) = cut l := by
  have h : cut (cut l) = (cut l).take (tl (cut l)) := rfl
  rw [h, tl_cut, List.take_of_length_le (by rw [cut_length]; exact Nat.le_refl _)]
theorem chars_take (l : List Bool) (k : Nat) : chars (l.take k) = (chars l).take k := by unfold chars; rw [List.map_take]
theorem chars_bits (s : ByteArray) (h : allSgn s.data.toList = true) : chars (bits s) = s.data.toList := by
  unfold chars bits
  rw [List.map_map]
  unfold allSgn at h
  rw [List.all_eq_true] at h
  have : s.data.toList.map ((fun b => if b = true then (49 : UInt8) else 48) ∘ fun x => x == 49) = s.data.toList.map id := by
    apply List.map_congr_left
    intro c hc
    have hs := h c hc
    unfold sgn at hs
    by_cases h49 : c = 49
    · subst h49; rfl
    · have : c = 48 := by simpa [h49] using hs
      subst this; rfl
  rw [this, List.map_id]
theorem tidyS_eq (s : ByteArray) (h : allSgn s.data.toList = true) : ofBits (cut (bits s)) = tidyS s := by
  have hl : (tidyS s).data.toList = s.data.toList.take (tl (bits s)) := by
    unfold tidyS
    rw [Lib.extract_data]
    simp
  have e : ofBits (cut (bits s)) = ⟨(tidyS s).data.toList.toArray⟩ := by
    unfold ofBits
    rw [hl]
    unfold cut
    rw [chars_take, chars_bits s h]
  rw [e]

set_option maxHeartbeats 400000 in
theorem implRowTidy_any (s : ByteArray) (w : World) (hs : s.size ≤ maxLen) :
    Calls Tryz.prog 101 #[.string s] w fun e w' => e = .returned (.tuple #[.string (if vld s then tidyS s else ByteArray.empty), .bool (vld s)]) ∧ Below w.heap.size w w' := by
  cases hv : vld s
  · go_enter Tryz.func101, Tryz.ntmps101
    go_wp2_with (go_at_call 132; refine (readRow_no _ _ hs hv).mono ?_; rintro e w' ⟨rfl, rfl⟩)
    go_ret2
    exact ⟨rfl, Below.refl _ _⟩
  · have h120 := vld_le s hv
    have hle := tl_le (bits s)
    rw [length_bits] at hle
    have C1 := hide (fun w => readRow_yes s w hv)
    have HC := hide (cut_length (bits s))
    have HM := hide (cut_map (bits s))
    have HE := hide (show ofBits (cut (cut (bits s))) = tidyS s by rw [cut_cut]; exact tidyS_eq s (vld_sgn s hv))
    obtain ⟨t, ht⟩ : ∃ t, t = tl (bits s) := ⟨_, rfl⟩
    rw [← ht] at hle C1 HC HM
    clear ht
    go_enter Tryz.func101, Tryz.ntmps101
    go_wp2_with fail
    refine (C1.out _).mono ?_
    rintro e w1 ⟨rfl, hb1, hc1, hz1⟩
    go_wp2_with fail
    refine (text_any _ t s.size (cut (bits s)) w1 HC.out (by rw [HM.out]; exact hc1.take t) hle hs (by omega)).mono ?_
    rintro e w2 ⟨rfl, hb2⟩
    rw [HE.out]
    go_wp2_with fail
    go_ret2
    exact ⟨rfl, hb1.trans (hb2.mono hb1.size)⟩

end Go.Proofs.YtdooboibmllfkaaGreatDoor
