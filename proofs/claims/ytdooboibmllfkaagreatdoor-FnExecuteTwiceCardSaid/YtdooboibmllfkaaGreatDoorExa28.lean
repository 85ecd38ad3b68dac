/- TEXTS RepI. -/
import Derived.Test.YtdooboibmllfkaaGreatDoorExa04
import Derived.Test.YtdooboibmllfkaaGreatDoorExa01
import Derived.Test.YtdooboibmllfkaaGreatDoorExa05
namespace Go.Proofs.YtdooboibmllfkaaGreatDoor
set_option maxRecDepth 100000
open Go.RowKit

def RepG (t : TypeId) (y : Value) (w : World) (g n : Nat) (i : Value) (wr : World) : Prop :=
  ∃ (k : Nat) (cur : List Value), 1 ≤ k ∧ k ≤ n ∧ i = .int .i64 (k : Int) ∧ Hid (wr.heap[g]? = some (.cells cur.toArray t (0, 0))) ∧ Hid (n ≤ cur.length) ∧ Hid (∀ j, j < k → cur[j]? = some y) ∧ Hid (Below g w wr)
theorem splice_rep (y : Value) (cur : List Value) (k m : Nat) (hk : k ≤ cur.length) (h : ∀ j, j < k → cur[j]? = some y) : ∀ j, j < k + m → (splice cur k (List.replicate m y))[j]? = some y := by
  intro j hj
  unfold splice
  by_cases h1 : j < k
  · rw [List.getElem?_append_left (by simp; omega), List.getElem?_take, if_pos h1]; exact h j h1
  · rw [List.getElem?_append_right (by simp; omega), List.getElem?_append_left (by simp; omega), List.getElem?_replicate, if_pos (by simp; omega)]

set_option maxRecDepth 100000 in
set_option maxHeartbeats 1000000 in
theorem repI_any (y : Value) (n b : Nat) (w : World) (h0 : 0 < n) (hn : n ≤ 1000) (hy : y.oneCell' = true) (hc : w.cell? ⟨b, 0, none⟩ = some y) :
    Calls Tryz.prog 167 #[.slice (some ⟨b, 0, none⟩) 1 1, .int .i64 (n : Int)] w fun e w' => e = .returned (.slice (some ⟨w.heap.size, 0, none⟩) n n) ∧
      Below w.heap.size w w' ∧ w.heap.size < w'.heap.size ∧ CellsAt w' w.heap.size (List.replicate n y) := by
  obtain ⟨i0, hi, hz0, hz1, hz2⟩ := info_parts infoI
  have i0n : (0 : Int) ≤ (n : Int) := by omega
  have i1n : (n : Int) ≤ 1000 := by omega
  have hmul := hide (fun w => (Tryz.bits_Mul 1 n (by omega) (by omega) w).mono (R' := fun e w' => e = .returned (.tuple #[.int .u64 0, .int .u64 (n : Int)]) ∧ w = w') (by
    rintro e w' ⟨rfl, rfl⟩
    rw [Nat.one_mul, Nat.div_eq_of_lt (by omega), Nat.mod_eq_of_lt (by omega)]
    exact ⟨rfl, rfl⟩))
  obtain ⟨g, hg⟩ : ∃ g, w.heap.size = g := ⟨_, rfl⟩
  have hbg : b < g := by have := World.block_lt_of_cell? w _ hc; rw [← hg]; exact this
  have HSRC := hide hc
  have HSZ := hide (show (Tryz.prog.info? 3).map (·.size) = some 1 by kernel_rfl)
  have HY := hide hy
  have HG := hide hg
  rw [hg]
  clear hg hc hy
  go_enter Tryz.func167, Tryz.ntmps167
  have MK : Hid (∀ w1 : World, ∀ xs : List Value, w1.ownsRow w.heap.size 3 1 (.slice (some ⟨w.heap.size, 0, none⟩) n n) n xs → ∃ cur : List Value, Hid (w1.heap[g]? = some (.cells cur.toArray 3 (0, 0))) ∧ Hid (n ≤ cur.length)) := by
    intro w1 xs hown
    rcases hown.2 with ⟨h1, _⟩ | ⟨g', cap', cur, h1, _, h2, h3, h4, h5, _⟩
    · cases h1
    · injection h1 with h1 _ h6
      injection h1 with h1
      injection h1 with h1
      rw [HG.out] at h1
      subst h1
      exact ⟨cur.toList, by show w1.heap[g]? = _; simpa using h2, by show n ≤ cur.toList.length; simp; omega⟩
  have MB : Hid (∀ w1 : World, w.grownBy w1 none → Hid (Below g w w1) ∧ Hid (w1.cell? ⟨b, 0, none⟩ = some y)) := by
    intro w1 hgrow
    have hb1 : Below g w w1 := by rw [← HG.out]; exact (Below.refl _ _).grown hgrow (Nat.le_refl _) (fun k e => by cases e)
    exact ⟨hb1, (hb1.cell (p := ⟨b, 0, none⟩) hbg).trans HSRC.out⟩
  go_wp2_with (first | (go_at_call 169; refine (hmul.out _).mono ?_; rintro e w' ⟨rfl, rfl⟩) | (at_make; refine wpList_make_full _ rfl _ _ 79 rfl w.heap.size 3 i0 (.int .i64 0) 1 Tryz.underlying79 hi hz0 hz1 _ _ _ _ n rfl rfl rfl rfl ?b2 ?b3 ?b4 ?_; rotate_right; intro w1 hown hgrow; obtain ⟨cur0, hh1, hl0⟩ := MK.out w1 _ hown; obtain ⟨HB1, hsrc1⟩ := MB.out w1 hgrow; clear hown hgrow; rw [HG.out]) | ((with_reducible refine wpList_copy_splice rfl (.tmp 31) (.tmp 32) 79 79 rfl 3 Tryz.underlying79 HSZ.out (some ⟨g, 0, none⟩) (some ⟨b, 0, none⟩) n n 1 1 rfl rfl g 0 cur0 3 hh1.out [y] ?c1 ?c2 ?c3 ?c4 g w HB1.out (Nat.le_refl _) ?_); rotate_right; intro w2 hh2 hb2))
  case b2 => rw [hz2]; omega
  case b3 => unfold maxLen; omega
  case b4 => exact Nat.le_refl _
  case c1 => show 1 = min 1 n; omega
  case c2 =>
    intro j v hj
    cases j with
    | zero => simp at hj; subst hj; exact hsrc1.out
    | succ j => simp at hj
  case c3 => have := hl0.out; simp; omega
  case c4 => intro v hv; simp at hv; subst hv; exact HY.out
  have HB2 := hide hb2
  clear hb2
  have h1b : (1 : Int) ≤ (n : Int) := by omega
  go_loopw [8] (RepG 3 y w g n) (fun i _ => n - (Go.RowKit.intOf i).toNat)
  case atStart =>
    refine ⟨1, _, Nat.le_refl _, by omega, rfl, hh2, ?_, ?_, HB2⟩
    · have := hl0.out; simp [splice, Hid]; omega
    · intro j hj
      obtain rfl : j = 0 := by omega
      simp [splice]
  case round =>
    obtain ⟨k, cur, hk1, hk, rfl, HC, HN, HZ, HB⟩ := hrel
    clear hh2 HB2 hh1 hl0 HB1 hsrc1
    by_cases hlt : k < n
    · have z0 : (0 : Int) ≤ (k : Int) := by omega
      have z1 : (k : Int) < (n : Int) := by omega
      have z2 : ¬ ((n : Int) = (k : Int)) := by omega
      have hmin : min (k : Int) (n : Int) = (k : Int) := by omega
      have K1 := hide (show (List.replicate (min k (n - k)) y).length = Nat.min k (n - k) by rw [List.length_replicate])
      have K2 : Hid (∃ ad, some (⟨g, 0, none⟩ : Addr) = some ad ∧ ∀ j v, (List.replicate (min k (n - k)) y)[j]? = some v → wr.drew.cell? (ad.add j) = some v) := by
        refine ⟨_, rfl, ?_⟩
        intro j v hj
        rw [List.getElem?_replicate] at hj
        split at hj
        · simp only [Option.some.injEq] at hj
          subst hj
          have := cell_of_row wr g j cur.toArray 3 (0, 0) HC.out
          rw [Addr.add_lit, Nat.zero_add]
          show wr.cell? _ = _
          rw [this]
          simpa using HZ.out j (by omega)
        · cases hj
      have K3 := hide (show k + (List.replicate (min k (n - k)) y).length ≤ cur.length by have := HN.out; rw [List.length_replicate]; omega)
      have K4 : Hid (∀ v ∈ List.replicate (min k (n - k)) y, v.oneCell' = true) := by
        intro v hv; rw [List.mem_replicate] at hv; rw [hv.2]; exact HY.out
      have HC2 : Hid (wr.drew.heap[g]? = some (.cells cur.toArray 3 (0, 0))) := HC
      have HB2 : Hid (Below g w wr.drew) := HB.out.drew
      go_wp2
      go_region_law (refine step_copy_splice rfl (.tmp 41) (.tmp 44) 79 79 rfl 3 Tryz.underlying79 HSZ.out (some ⟨g, k, none⟩) (some ⟨g, 0, none⟩) (n - k) (n - k) k n (by simp [Act.eval, Act.put]; omega) (by simp [Act.eval, Act.put]) g k cur 3 HC2.out (List.replicate (min k (n - k)) y) K1.out (fun _ => ⟨rfl, K2.out⟩) K3.out K4.out g w HB2.out (Nat.le_refl _) ?_; intro w4 hg4 hb4; have HB4 := hide hb4; clear hb4)
      go_wp2
      go_roundw
      case rel =>
        refine ⟨k + min k (n - k), splice cur k (List.replicate (min k (n - k)) y), by omega, by omega, ?_, hg4, ?_, ?_, HB4⟩
        · (try rw [K1.out]); show Value.int .i64 (IntKind.i64.wrap ((k : Int) + ((min k (n - k) : Nat) : Int))) = _; rw [IntWalk.i64_in _ (by omega)]; congr 1
        · have := HN.out; have h3 := K3.out; rw [Hid, length_splice _ _ _ h3]; exact this
        · exact splice_rep y cur k _ (by have := HN.out; omega) HZ.out
      case measure => (try rw [K1.out]); show n - (IntKind.i64.wrap ((k : Int) + ((min k (n - k) : Nat) : Int))).toNat < n - (k : Int).toNat; rw [IntWalk.i64_in _ (by omega)]; omega
    · obtain rfl : k = n := by omega
      go_wp2
      go_ret
      have hlt := (Array.getElem?_eq_some_iff.1 HC.out).1
      refine ⟨rfl, HB.out, hlt, ?_⟩
      intro j v hj
      rw [List.getElem?_replicate] at hj
      split at hj
      · simp only [Option.some.injEq] at hj
        subst hj
        exact ⟨by rw [cell_of_row wr _ j cur.toArray 3 (0, 0) HC.out]; simpa using HZ.out j (by omega), frozen_of_row wr _ j cur.toArray 3 HC.out⟩
      · cases hj
end Go.Proofs.YtdooboibmllfkaaGreatDoor

namespace Go.Proofs.YtdooboibmllfkaaGreatDoor
set_option maxRecDepth 100000
open Go.RowKit

set_option maxRecDepth 100000 in
set_option maxHeartbeats 1000000 in
theorem repB_any (y : Value) (n b : Nat) (w : World) (h0 : 0 < n) (hn : n ≤ 1000) (hy : y.oneCell' = true) (hc : w.cell? ⟨b, 0, none⟩ = some y) :
    Calls Tryz.prog 137 #[.slice (some ⟨b, 0, none⟩) 1 1, .int .i64 (n : Int)] w fun e w' => e = .returned (.slice (some ⟨w.heap.size, 0, none⟩) n n) ∧
      Below w.heap.size w w' ∧ w.heap.size < w'.heap.size ∧ CellsAt w' w.heap.size (List.replicate n y) := by
  obtain ⟨i0, hi, hz0, hz1, hz2⟩ := info_parts infoB
  have i0n : (0 : Int) ≤ (n : Int) := by omega
  have i1n : (n : Int) ≤ 1000 := by omega
  have hmul := hide (fun w => (Tryz.bits_Mul 1 n (by omega) (by omega) w).mono (R' := fun e w' => e = .returned (.tuple #[.int .u64 0, .int .u64 (n : Int)]) ∧ w = w') (by
    rintro e w' ⟨rfl, rfl⟩
    rw [Nat.one_mul, Nat.div_eq_of_lt (by omega), Nat.mod_eq_of_lt (by omega)]
    exact ⟨rfl, rfl⟩))
  obtain ⟨g, hg⟩ : ∃ g, w.heap.size = g := ⟨_, rfl⟩
  have hbg : b < g := by have := World.block_lt_of_cell? w _ hc; rw [← hg]; exact this
  have HSRC := hide hc
  have HSZ := hide (show (Tryz.prog.info? 4).map (·.size) = some 1 by kernel_rfl)
  have HY := hide hy
  have HG := hide hg
  rw [hg]
  clear hg hc hy
  go_enter Tryz.func137, Tryz.ntmps137
  have MK : Hid (∀ w1 : World, ∀ xs : List Value, w1.ownsRow w.heap.size 4 1 (.slice (some ⟨w.heap.size, 0, none⟩) n n) n xs → ∃ cur : List Value, Hid (w1.heap[g]? = some (.cells cur.toArray 4 (0, 0))) ∧ Hid (n ≤ cur.length)) := by
    intro w1 xs hown
    rcases hown.2 with ⟨h1, _⟩ | ⟨g', cap', cur, h1, _, h2, h3, h4, h5, _⟩
    · cases h1
    · injection h1 with h1 _ h6
      injection h1 with h1
      injection h1 with h1
      rw [HG.out] at h1
      subst h1
      exact ⟨cur.toList, by show w1.heap[g]? = _; simpa using h2, by show n ≤ cur.toList.length; simp; omega⟩
  have MB : Hid (∀ w1 : World, w.grownBy w1 none → Hid (Below g w w1) ∧ Hid (w1.cell? ⟨b, 0, none⟩ = some y)) := by
    intro w1 hgrow
    have hb1 : Below g w w1 := by rw [← HG.out]; exact (Below.refl _ _).grown hgrow (Nat.le_refl _) (fun k e => by cases e)
    exact ⟨hb1, (hb1.cell (p := ⟨b, 0, none⟩) hbg).trans HSRC.out⟩
  go_wp2_with (first | (go_at_call 169; refine (hmul.out _).mono ?_; rintro e w' ⟨rfl, rfl⟩) | (at_make; refine wpList_make_full _ rfl _ _ 116 rfl w.heap.size 4 i0 (.bool false) 1 Tryz.underlying116 hi hz0 hz1 _ _ _ _ n rfl rfl rfl rfl ?b2 ?b3 ?b4 ?_; rotate_right; intro w1 hown hgrow; obtain ⟨cur0, hh1, hl0⟩ := MK.out w1 _ hown; obtain ⟨HB1, hsrc1⟩ := MB.out w1 hgrow; clear hown hgrow; rw [HG.out]) | ((with_reducible refine wpList_copy_splice rfl (.tmp 31) (.tmp 32) 116 116 rfl 4 Tryz.underlying116 HSZ.out (some ⟨g, 0, none⟩) (some ⟨b, 0, none⟩) n n 1 1 rfl rfl g 0 cur0 4 hh1.out [y] ?c1 ?c2 ?c3 ?c4 g w HB1.out (Nat.le_refl _) ?_); rotate_right; intro w2 hh2 hb2))
  case b2 => rw [hz2]; omega
  case b3 => unfold maxLen; omega
  case b4 => exact Nat.le_refl _
  case c1 => show 1 = min 1 n; omega
  case c2 =>
    intro j v hj
    cases j with
    | zero => simp at hj; subst hj; exact hsrc1.out
    | succ j => simp at hj
  case c3 => have := hl0.out; simp; omega
  case c4 => intro v hv; simp at hv; subst hv; exact HY.out
  have HB2 := hide hb2
  clear hb2
  have h1b : (1 : Int) ≤ (n : Int) := by omega
  go_loopw [8] (RepG 4 y w g n) (fun i _ => n - (Go.RowKit.intOf i).toNat)
  case atStart =>
    refine ⟨1, _, Nat.le_refl _, by omega, rfl, hh2, ?_, ?_, HB2⟩
    · have := hl0.out; simp [splice, Hid]; omega
    · intro j hj
      obtain rfl : j = 0 := by omega
      simp [splice]
  case round =>
    obtain ⟨k, cur, hk1, hk, rfl, HC, HN, HZ, HB⟩ := hrel
    clear hh2 HB2 hh1 hl0 HB1 hsrc1
    by_cases hlt : k < n
    · have z0 : (0 : Int) ≤ (k : Int) := by omega
      have z1 : (k : Int) < (n : Int) := by omega
      have z2 : ¬ ((n : Int) = (k : Int)) := by omega
      have hmin : min (k : Int) (n : Int) = (k : Int) := by omega
      have K1 := hide (show (List.replicate (min k (n - k)) y).length = Nat.min k (n - k) by rw [List.length_replicate])
      have K2 : Hid (∃ ad, some (⟨g, 0, none⟩ : Addr) = some ad ∧ ∀ j v, (List.replicate (min k (n - k)) y)[j]? = some v → wr.drew.cell? (ad.add j) = some v) := by
        refine ⟨_, rfl, ?_⟩
        intro j v hj
        rw [List.getElem?_replicate] at hj
        split at hj
        · simp only [Option.some.injEq] at hj
          subst hj
          have := cell_of_row wr g j cur.toArray 4 (0, 0) HC.out
          rw [Addr.add_lit, Nat.zero_add]
          show wr.cell? _ = _
          rw [this]
          simpa using HZ.out j (by omega)
        · cases hj
      have K3 := hide (show k + (List.replicate (min k (n - k)) y).length ≤ cur.length by have := HN.out; rw [List.length_replicate]; omega)
      have K4 : Hid (∀ v ∈ List.replicate (min k (n - k)) y, v.oneCell' = true) := by
        intro v hv; rw [List.mem_replicate] at hv; rw [hv.2]; exact HY.out
      have HC2 : Hid (wr.drew.heap[g]? = some (.cells cur.toArray 4 (0, 0))) := HC
      have HB2 : Hid (Below g w wr.drew) := HB.out.drew
      go_wp2
      go_region_law (refine step_copy_splice rfl (.tmp 41) (.tmp 44) 116 116 rfl 4 Tryz.underlying116 HSZ.out (some ⟨g, k, none⟩) (some ⟨g, 0, none⟩) (n - k) (n - k) k n (by simp [Act.eval, Act.put]; omega) (by simp [Act.eval, Act.put]) g k cur 4 HC2.out (List.replicate (min k (n - k)) y) K1.out (fun _ => ⟨rfl, K2.out⟩) K3.out K4.out g w HB2.out (Nat.le_refl _) ?_; intro w4 hg4 hb4; have HB4 := hide hb4; clear hb4)
      go_wp2
      go_roundw
      case rel =>
        refine ⟨k + min k (n - k), splice cur k (List.replicate (min k (n - k)) y), by omega, by omega, ?_, hg4, ?_, ?_, HB4⟩
        · (try rw [K1.out]); show Value.int .i64 (IntKind.i64.wrap ((k : Int) + ((min k (n - k) : Nat) : Int))) = _; rw [IntWalk.i64_in _ (by omega)]; congr 1
        · have := HN.out; have h3 := K3.out; rw [Hid, length_splice _ _ _ h3]; exact this
        · exact splice_rep y cur k _ (by have := HN.out; omega) HZ.out
      case measure => (try rw [K1.out]); show n - (IntKind.i64.wrap ((k : Int) + ((min k (n - k) : Nat) : Int))).toNat < n - (k : Int).toNat; rw [IntWalk.i64_in _ (by omega)]; omega
    · obtain rfl : k = n := by omega
      go_wp2
      go_ret
      have hlt := (Array.getElem?_eq_some_iff.1 HC.out).1
      refine ⟨rfl, HB.out, hlt, ?_⟩
      intro j v hj
      rw [List.getElem?_replicate] at hj
      split at hj
      · simp only [Option.some.injEq] at hj
        subst hj
        exact ⟨by rw [cell_of_row wr _ j cur.toArray 4 (0, 0) HC.out]; simpa using HZ.out j (by omega), frozen_of_row wr _ j cur.toArray 4 HC.out⟩
      · cases hj
end Go.Proofs.YtdooboibmllfkaaGreatDoor
