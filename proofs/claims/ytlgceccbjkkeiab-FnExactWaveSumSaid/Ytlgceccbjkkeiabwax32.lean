/- TEXTS RepI, AppZ. -/
import Derived.Test.Ytlgceccbjkkeiabwax03
import Derived.Test.Ytlgceccbjkkeiabwax02
import Derived.Test.Ytlgceccbjkkeiabwax06
import Derived.Test.Ytlgceccbjkkeiabwax01
import Derived.Lib.AppendZerosOnto
/- slices.Repeat of one number, and of one box. -/
namespace Go.Proofs.Ytlgceccbjkkeiab
open Go.RowKit

/-- a value, as often as told -/
def RepG (t : TypeId) (y : Value) (w : World) (g n : Nat) (i : Value) (wr : World) : Prop :=
  ∃ (k : Nat) (cur : List Value), 1 ≤ k ∧ k ≤ n ∧ i = .int .i64 (k : Int) ∧ Hid (wr.heap[g]? = some (.cells cur.toArray t (0, 0))) ∧ Hid (n ≤ cur.length) ∧ Hid (∀ j, j < k → cur[j]? = some y) ∧ Hid (Below g w wr)
theorem splice_rep (y : Value) (cur : List Value) (k m : Nat) (hk : k ≤ cur.length) (h : ∀ j, j < k → cur[j]? = some y) : ∀ j, j < k + m → (splice cur k (List.replicate m y))[j]? = some y := by
  intro j hj
  unfold splice
  by_cases h1 : j < k
  · rw [List.getElem?_append_left (by simp; omega), List.getElem?_take, if_pos h1]; exact h j h1
  · rw [List.getElem?_append_right (by simp; omega), List.getElem?_append_left (by simp; omega), List.getElem?_replicate, if_pos (by simp; omega)]

end Go.Proofs.Ytlgceccbjkkeiab

/- slices.Repeat of one box. -/
namespace Go.Proofs.Ytlgceccbjkkeiab
open Go.RowKit

set_option maxRecDepth 100000 in
set_option maxHeartbeats 1000000 in
theorem repB_any (y : Value) (n b : Nat) (w : World) (h0 : 0 < n) (hn : n ≤ 1000) (hy : y.oneCell' = true) (hc : w.cell? ⟨b, 0, none⟩ = some y) :
    Calls Try.prog 42 #[.slice (some ⟨b, 0, none⟩) 1 1, .int .i64 (n : Int)] w fun e w' => e = .returned (.slice (some ⟨w.heap.size, 0, none⟩) n n) ∧
      Below w.heap.size w w' ∧ w.heap.size < w'.heap.size ∧ CellsAt w' w.heap.size (List.replicate n y) := by
  obtain ⟨i0, hi, hz0, hz1, hz2⟩ := info_parts infoB
  have i0n : (0 : Int) ≤ (n : Int) := by omega
  have i1n : (n : Int) ≤ 1000 := by omega
  have hmul := hide (fun w => (Try.bits_Mul 1 n (by omega) (by omega) w).mono (R' := fun e w' => e = .returned (.tuple #[.int .u64 0, .int .u64 (n : Int)]) ∧ w = w') (by
    rintro e w' ⟨rfl, rfl⟩
    rw [Nat.one_mul, Nat.div_eq_of_lt (by omega), Nat.mod_eq_of_lt (by omega)]
    exact ⟨rfl, rfl⟩))
  obtain ⟨g, hg⟩ : ∃ g, w.heap.size = g := ⟨_, rfl⟩
  have hbg : b < g := by have := World.block_lt_of_cell? w _ hc; rw [← hg]; exact this
  have HSRC := hide hc
  have HSZ := hide (show (Try.prog.info? 4).map (·.size) = some 1 by kernel_rfl)
  have HY := hide hy
  have HG := hide hg
  rw [hg]
  clear hg hc hy
  go_enter Try.func42, Try.ntmps42
  have MK : Hid (∀ w1 : World, ∀ xs : List Value, w1.ownsRow w.heap.size 4 1 (.slice (some ⟨w.heap.size, 0, none⟩) n n) n xs → ∃ cur : List Value, Hid (w1.heap[g]? = some (.cells cur.toArray 4 (0, 0))) ∧ Hid (n ≤ cur.length)) := by
    intro w1 xs hown
    rcases hown.2 with ⟨h1, _⟩ | ⟨g', cap', cur, h1, _, h2, h3, h4, h5, _⟩
    · cases h1
    · injection h1 with h1 _ h6
      injection h1 with h1
      injection h1 with h1
      rw [HG.out] at h1
      subst h1
      exact ⟨cur.toList, by show w1.heap[g]? = _; simpa using h2, by show n ≤ cur.toList.length; simp; omega⟩
  have MB : Hid (∀ w1 : World, w.grownBy w1 none → Hid (Below g w w1) ∧ Hid (w1.cell? ⟨b, 0, none⟩ = some y)) := by
    intro w1 hgrow
    have hb1 : Below g w w1 := by rw [← HG.out]; exact (Below.refl _ _).grown hgrow (Nat.le_refl _) (fun k e => by cases e)
    exact ⟨hb1, (hb1.cell (p := ⟨b, 0, none⟩) hbg).trans HSRC.out⟩
  go_wp2_with (first | (go_at_call 47; refine (hmul.out _).mono ?_; rintro e w' ⟨rfl, rfl⟩) | (at_make; refine wpList_make_full _ rfl _ _ 44 rfl w.heap.size 4 i0 (.bool false) 1 Try.underlying44 hi hz0 hz1 _ _ _ _ n rfl rfl rfl rfl ?b2 ?b3 ?b4 ?_; rotate_right; intro w1 hown hgrow; obtain ⟨cur0, hh1, hl0⟩ := MK.out w1 _ hown; obtain ⟨HB1, hsrc1⟩ := MB.out w1 hgrow; clear hown hgrow; rw [HG.out]) | ((with_reducible refine wpList_copy_splice rfl (.tmp 31) (.tmp 32) 44 44 rfl 4 Try.underlying44 HSZ.out (some ⟨g, 0, none⟩) (some ⟨b, 0, none⟩) n n 1 1 rfl rfl g 0 cur0 4 hh1.out [y] ?c1 ?c2 ?c3 ?c4 g w HB1.out (Nat.le_refl _) ?_); rotate_right; intro w2 hh2 hb2))
  case b2 => rw [hz2]; omega
  case b3 => unfold maxLen; omega
  case b4 => exact Nat.le_refl _
  case c1 => show 1 = min 1 n; omega
  case c2 =>
    intro j v hj
    cases j with
    | zero => simp at hj; subst hj; exact hsrc1.out
    | succ j => simp at hj
  case c3 => have := hl0.out; simp; omega
  case c4 => intro v hv; simp at hv; subst hv; exact HY.out
  have HB2 := hide hb2
  clear hb2
  have h1b : (1 : Int) ≤ (n : Int) := by omega
  go_loopw [8] (RepG 4 y w g n) (fun i _ => n - (Go.RowKit.intOf i).toNat)
  case atStart =>
    refine ⟨1, _, Nat.le_refl _, by omega, rfl, hh2, ?_, ?_, HB2⟩
    · have := hl0.out; simp [splice, Hid]; omega
    · intro j hj
      obtain rfl : j = 0 := by omega
      simp [splice]
  case round =>
    obtain ⟨k, cur, hk1, hk, rfl, HC, HN, HZ, HB⟩ := hrel
    clear hh2 HB2 hh1 hl0 HB1 hsrc1
    by_cases hlt : k < n
    · have z0 : (0 : Int) ≤ (k : Int) := by omega
      have z1 : (k : Int) < (n : Int) := by omega
      have z2 : ¬ ((n : Int) = (k : Int)) := by omega
      have hmin : min (k : Int) (n : Int) = (k : Int) := by omega
      have K1 := hide (show (List.replicate (min k (n - k)) y).length = Nat.min k (n - k) by rw [List.length_replicate])
      have K2 : Hid (∃ ad, some (⟨g, 0, none⟩ : Addr) = some ad ∧ ∀ j v, (List.replicate (min k (n - k)) y)[j]? = some v → wr.drew.cell? (ad.add j) = some v) := by
        refine ⟨_, rfl, ?_⟩
        intro j v hj
        rw [List.getElem?_replicate] at hj
        split at hj
        · simp only [Option.some.injEq] at hj
          subst hj
          have := cell_of_row wr g j cur.toArray 4 (0, 0) HC.out
          rw [Addr.add_lit, Nat.zero_add]
          show wr.cell? _ = _
          rw [this]
          simpa using HZ.out j (by omega)
        · cases hj
      have K3 := hide (show k + (List.replicate (min k (n - k)) y).length ≤ cur.length by have := HN.out; rw [List.length_replicate]; omega)
      have K4 : Hid (∀ v ∈ List.replicate (min k (n - k)) y, v.oneCell' = true) := by
        intro v hv; rw [List.mem_replicate] at hv; rw [hv.2]; exact HY.out
      have HC2 : Hid (wr.drew.heap[g]? = some (.cells cur.toArray 4 (0, 0))) := HC
      have HB2 : Hid (Below g w wr.drew) := HB.out.drew
      go_wp2
      go_region_law (refine step_copy_splice rfl (.tmp 41) (.tmp 44) 44 44 rfl 4 Try.underlying44 HSZ.out (some ⟨g, k, none⟩) (some ⟨g, 0, none⟩) (n - k) (n - k) k n (by simp [Act.eval, Act.put]; omega) (by simp [Act.eval, Act.put]) g k cur 4 HC2.out (List.replicate (min k (n - k)) y) K1.out (fun _ => ⟨rfl, K2.out⟩) K3.out K4.out g w HB2.out (Nat.le_refl _) ?_; intro w4 hg4 hb4; have HB4 := hide hb4; clear hb4)
      go_wp2
      go_roundw
      case rel =>
        refine ⟨k + min k (n - k), splice cur k (List.replicate (min k (n - k)) y), by omega, by omega, ?_, hg4, ?_, ?_, HB4⟩
        · (try rw [K1.out]); show Value.int .i64 (IntKind.i64.wrap ((k : Int) + ((min k (n - k) : Nat) : Int))) = _; rw [IntWalk.i64_in _ (by omega)]; congr 1
        · have := HN.out; have h3 := K3.out; rw [Hid, length_splice _ _ _ h3]; exact this
        · exact splice_rep y cur k _ (by have := HN.out; omega) HZ.out
      case measure => (try rw [K1.out]); show n - (IntKind.i64.wrap ((k : Int) + ((min k (n - k) : Nat) : Int))).toNat < n - (k : Int).toNat; rw [IntWalk.i64_in _ (by omega)]; omega
    · obtain rfl : k = n := by omega
      go_wp2
      go_ret
      have hlt := (Array.getElem?_eq_some_iff.1 HC.out).1
      refine ⟨rfl, HB.out, hlt, ?_⟩
      intro j v hj
      rw [List.getElem?_replicate] at hj
      split at hj
      · simp only [Option.some.injEq] at hj
        subst hj
        exact ⟨by rw [cell_of_row wr _ j cur.toArray 4 (0, 0) HC.out]; simpa using HZ.out j (by omega), frozen_of_row wr _ j cur.toArray 4 HC.out⟩
      · cases hj
end Go.Proofs.Ytlgceccbjkkeiab

/- append(s, make(row, k)...) where the call owns s: a law of no function. -/
namespace Go.Proofs.Ytlgceccbjkkeiab
open Go.RowKit

theorem zeros_one (z : Value) (h : z.cells = #[z]) (k : Nat) : (Builtin.zeroCells z.cells k).toList = List.replicate k z := by
  rw [h]
  unfold Builtin.zeroCells
  apply List.ext_getElem?
  intro j
  by_cases hj : j < k
  · simp [hj, Nat.mod_one]
  · simp [hj]

theorem run_append_room_zeros {P : Program} (w : World) (t tn ty e : TypeId) (i : TypeInfo) (z : Value) (kn : IntKind) (ht : P.underlying t = some (.slice e)) (htn : P.underlying tn = some (.int kn)) (hi : P.info? e = some i) (hz : i.zero = some z) (hsize : i.size = 1) (hc : z.cells = #[z]) (h1 : z.oneCell' = true)
    (g sLen sCap k : Nat) (cur : Array Value) (hg : w.heap[g]? = some (.cells cur e (0, 0))) (h0 : 0 < k) (hroom : sLen + k ≤ sCap) (h63 : ((sLen + k : Nat) : Int) ≤ 9223372036854775807) (h48 : k * i.bytes ≤ 281474976710656) (hfit : sLen + k ≤ cur.size) :
    (Builtin.append_ #[t, tn] ty #[.slice (some ⟨g, 0, none⟩) sLen sCap, .int .i64 k]).run P w =
      .ok (.slice (some ⟨g, 0, none⟩) (sLen + k) sCap) (w.setRow g (cur.toList.take sLen ++ List.replicate k z ++ cur.toList.drop (sLen + k)).toArray) := by
  have hst := run_storeCells_at P g sLen e (List.replicate k z) 0 cur w hg (by simpa using hfit) (by intro u hu; rw [List.mem_replicate] at hu; rw [hu.2]; exact h1)
  simp only [Nat.add_zero, List.length_replicate] at hst
  have hk : k ≠ 0 := by omega
  have hw : IntKind.i64.wrap (k : Int) = k := by rw [IntKind.wrap_i64]; omega
  have h48i : ¬ (281474976710656 < (k : Int) * (i.bytes : Int)) := by
    rw [← Int.natCast_mul]
    omega
  have hneg : ¬ ((k : Int) < 0) := by omega
  have hzc := zeros_one z hc k
  simp [Builtin.append_, run_underlying ht, run_underlying htn, sizeOf, typeInfo, zeroValue, hi, hz, asInt, asIntOf, hw, hneg, h48i, hroom, hsize, hk, hzc, Addr.add_lit, hst]

theorem run_append_zeros_own {P : Program} (w : World) (base : Nat) (t tn ty e : TypeId) (i : TypeInfo) (z : Value) (kn : IntKind) (ht : P.underlying t = some (.slice e)) (htn : P.underlying tn = some (.int kn)) (hi : P.info? e = some i) (hz : i.zero = some z) (hsize : i.size = 1) (hc : z.cells = #[z]) (h1 : z.oneCell' = true) (hbytes : i.bytes ≤ 100)
    (v : Value) (n k : Nat) (xs : List Value) (hown : w.ownsRow base e 1 v n xs) (h0 : 0 < k) (hsm : n + k ≤ 100000) (hbase : base ≤ w.heap.size) :
    ∃ v' w', (Builtin.append_ #[t, tn] ty #[v, .int .i64 k]).run P w = .ok v' w' ∧ w'.ownsRow base e 1 v' (n + k) (xs ++ List.replicate k z) ∧ w.grownBy w' v.ownBlock := by
  have hxl : xs.length = n := by have := hown.1; omega
  have hmax : n + k ≤ maxLen := by unfold maxLen; omega
  have hby : ∀ m, m ≤ 100000 → m * i.bytes ≤ 10000000 := fun m hm => Nat.le_trans (Nat.mul_le_mul hm hbytes) (by omega)
  have grown : ∀ (old : Nat), ∀ (row : Option Nat), (w.drew.alloc (.cells (xs.toArray ++ Builtin.zeroCells z.cells k ++ Builtin.zeroCells z.cells (grownCap w (n + k) old e - (n + k))) e)).ownsRow base e 1
        (.slice (some ⟨w.heap.size, 0, none⟩) (n + k) (grownCap w (n + k) old e)) (n + k) (xs ++ List.replicate k z) ∧
      w.grownBy (w.drew.alloc (.cells (xs.toArray ++ Builtin.zeroCells z.cells k ++ Builtin.zeroCells z.cells (grownCap w (n + k) old e - (n + k))) e)) row := by
    intro old row
    have hge := grownCap_ge w (n + k) old e
    have hcm : grownCap w (n + k) old e ≤ maxLen := grownCap_le_maxLen w (n + k) old e hmax
    refine ⟨⟨by simp [hxl], .inr ⟨w.heap.size, _, _, rfl, hbase, heap_alloc_new w.drew _, hge, hcm, ?_, ?_⟩⟩, ⟨rfl, rfl, rfl, by simp, fun j hj _ => Below.heap_alloc w.drew _ j hj⟩⟩
    · simp only [Array.size_append, List.size_toArray, size_zeroCells, hc, hxl]
      simp
      omega
    · simp only [Array.toList_append, zeros_one z hc, List.append_assoc]
      rw [← List.append_assoc]
      have : (n + k) * 1 = (xs ++ List.replicate k z).length := by simp [hxl]
      rw [this]
      exact List.take_left
  rcases hown.2 with ⟨rfl, rfl⟩ | ⟨g, cap, cur, rfl, hbg, hg, hnc, hcm, hcs, htake⟩
  · obtain rfl : xs = [] := List.eq_nil_of_length_eq_zero hxl
    have hr := Lib.run_append_nil_zeros (P := P) w t tn ty e i z .i64 kn ht htn hi hz k h0 (by omega) (by omega) (by have := hby k (by omega); omega)
    have hgr := grown 0 (Value.ownBlock (.slice none 0 0))
    simp only [Nat.zero_add, List.nil_append, Array.empty_append] at hgr ⊢
    exact ⟨_, _, hr, hgr.1, hgr.2⟩
  · by_cases hroom : n + k ≤ cap
    · have hr := run_append_room_zeros (P := P) w t tn ty e i z kn ht htn hi hz hsize hc h1 g n cap k cur hg h0 hroom (by omega) (by have := hby k (by omega); omega) (by omega)
      refine ⟨_, _, hr, ⟨by simp [hxl], .inr ⟨g, cap, _, rfl, hbg, setRow_heap w g cur _ e _ hg, hroom, hcm, ?_, ?_⟩⟩, ⟨rfl, rfl, rfl, by simp, fun j _ hj => setRow_other w g j _ (fun e => hj (by simp [Value.ownBlock, e]))⟩⟩
      · simp only [List.size_toArray, List.length_append, List.length_take, List.length_drop, Array.length_toList, List.length_replicate]
        omega
      · have ht2 : cur.toList.take n = xs := by simpa using htake
        rw [ht2]
        have : (n + k) * 1 = (xs ++ List.replicate k z).length := by simp [hxl]
        rw [this]
        exact List.take_left
    · have hold : (Builtin.firstCells i.size n (.slice (some ⟨g, 0, none⟩) n cap)).run P w.drew = .ok xs.toArray w.drew :=
        run_firstCells_some w.drew i.size n ⟨g, 0, none⟩ n cap xs (by rw [hxl, hsize]; omega) (fun j v hj => hown.cells (g := g) rfl j v hj)
      have hr := Lib.run_append_grow_zeros (P := P) w t tn ty e i z .i64 kn ht htn hi hz (some ⟨g, 0, none⟩) n cap xs hold k h0 (by omega) (by omega) (by omega) (by have := hby k (by omega); omega) (growslice_fits (by omega) (by have := hby (n + k) hsm; omega))
      have hgr := grown cap (Value.ownBlock (.slice (some ⟨g, 0, none⟩) n cap))
      exact ⟨_, _, hr, hgr.1, hgr.2⟩
end Go.Proofs.Ytlgceccbjkkeiab
