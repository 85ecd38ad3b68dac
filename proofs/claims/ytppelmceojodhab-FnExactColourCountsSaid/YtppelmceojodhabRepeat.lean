/- bytes.Repeat of one sign '0'. -/
import Derived.Test.YtppelmceojodhabShelf
import Derived.Test.YtppelmceojodhabInts
import Derived.Test.YtppelmceojodhabChecked
import Derived.Lib.SlBuf
import Derived.Lib.MakeNoZero
import Derived.Deep.RegionLaw
import Derived.Laws.CopyOwn
import Derived.WalkKit
import Derived.WalkSpells
import Derived.WalkLawsBesides
namespace Go.Proofs.Ytppelmceojodhab
open Go.RowKit

def zeros (n : Nat) : List Value := List.replicate n (.int .u8 48)

set_option maxHeartbeats 400000 in
theorem repeat_zero (a : Option Addr) (w : World) :
    Calls Try.prog 22 #[.slice a 1 1, .int .i64 0] w fun e w' => e = .returned (.slice (some ⟨w.heap.size, 0, none⟩) 0 0) ∧ w' = w.alloc (.cells #[] 5) := by
  go_enter Try.func22, Try.ntmps22
  go_wp2
  go_ret
  exact ⟨rfl, rfl⟩

def RepRel (w : World) (g n : Nat) (i : Value) (wr : World) : Prop :=
  ∃ (k : Nat) (cur : List Value), 1 ≤ k ∧ k ≤ n ∧ i = .int .i64 (k : Int) ∧ Hid (wr.heap[g]? = some (.cells cur.toArray 5 (0, 0))) ∧ Hid (n ≤ cur.length) ∧ Hid (∀ j, j < k → cur[j]? = some (.int .u8 48)) ∧ Hid (Below g w wr)
theorem splice_zeros (cur : List Value) (k m : Nat) (hk : k ≤ cur.length) (h : ∀ j, j < k → cur[j]? = some (.int .u8 48)) : ∀ j, j < k + m → (splice cur k (zeros m))[j]? = some (.int .u8 48) := by
  intro j hj
  unfold splice zeros
  by_cases h1 : j < k
  · rw [List.getElem?_append_left (by simp; omega), List.getElem?_take, if_pos h1]; exact h j h1
  · rw [List.getElem?_append_right (by simp; omega), List.getElem?_append_left (by simp; omega), List.getElem?_replicate, if_pos (by simp; omega)]

set_option maxRecDepth 100000 in
set_option maxHeartbeats 1000000 in
theorem repeat_pos (n b : Nat) (w : World) (h0 : 0 < n) (hn : n ≤ 1000) (hc : w.cell? ⟨b, 0, none⟩ = some (.int .u8 48)) :
    Calls Try.prog 22 #[.slice (some ⟨b, 0, none⟩) 1 1, .int .i64 (n : Int)] w fun e w' => e = .returned (.slice (some ⟨w.heap.size, 0, none⟩) n n) ∧
      Below w.heap.size w w' ∧ w.heap.size < w'.heap.size ∧ CellsAt w' w.heap.size (zeros n) := by
  obtain ⟨cs, hrunM, hle, _⟩ := Lib.run_makeNoZero (P := Try.prog) w #[3] 49 5 Try.underlying49 n (by omega)
  have hcall : (callFunc 25 #[.int .i64 (n : Int)]).run Try.prog w = .ok (.value (.slice (some ⟨w.heap.size, 0, none⟩) n cs.size)) ((w.alloc (.cells cs 5)).drewN 2) := by
    rw [run_callFunc_extern Try.func25 (by kernel_rfl) (by kernel_rfl) (by kernel_rfl) (e := Extern.BytealgMakeNoZero.makeNoZero #[3] #[49]) (by kernel_rfl), hrunM]
    rfl
  clear hrunM
  have i0 : (0 : Int) ≤ (n : Int) := by omega
  have i1 : (n : Int) ≤ (cs.size : Int) := by omega
  have f0 : ((n : Int) == 0) = false := beq_eq_false_iff_ne.2 (by omega)
  have hmul := hide (fun w => (Try.bits_Mul 1 n (by omega) (by omega) w).mono (R' := fun e w' => e = .returned (.tuple #[.int .u64 0, .int .u64 (n : Int)]) ∧ w = w') (by
    rintro e w' ⟨rfl, rfl⟩
    rw [Nat.one_mul, Nat.div_eq_of_lt (by omega), Nat.mod_eq_of_lt (by omega)]
    exact ⟨rfl, rfl⟩))
  go_enter Try.func22, Try.ntmps22
  obtain ⟨g, hg⟩ : ∃ g, w.heap.size = g := ⟨_, rfl⟩
  have HH : Hid (((w.alloc (.cells cs 5)).drewN 2).heap[g]? = some (.cells cs.toList.toArray 5 (0, 0))) := by
    show (w.alloc (.cells cs 5)).heap[g]? = _
    rw [← hg]; simpa using heap_alloc_new w (.cells cs 5 (0, 0))
  have HBW : Hid (Below g w ((w.alloc (.cells cs 5)).drewN 2)) := ((Quiet.drewN (w := w.alloc (.cells cs 5)) 2).2 g |> ((Below.refl g w).alloc (by omega) _).trans)
  have HSRC : Hid (((w.alloc (.cells cs 5)).drewN 2).cell? ⟨b, 0, none⟩ = some (.int .u8 48)) := (HBW.out.cell (p := ⟨b, 0, none⟩) (by have := World.block_lt_of_cell? w _ hc; rw [← hg]; exact this)).trans hc
  have hsz5 : (Try.prog.info? 5).map (·.size) = some 1 := by kernel_rfl
  have HG := hide hg
  have HLE := hide hle
  rw [hg] at hcall ⊢
  clear hg hc hle
  have HSZ := hide hsz5
  clear hsz5
  go_wp2_with (first | (go_at_call 24; refine (hmul.out _).mono ?_; rintro e w' ⟨rfl, rfl⟩) | (with_reducible refine wpList_copy_splice rfl (.tmp 58) (.tmp 59) 49 49 rfl 5 Try.underlying49 HSZ.out (some ⟨g, 0, none⟩) (some ⟨b, 0, none⟩) n n 1 1 rfl rfl g 0 cs.toList 5 HH.out [.int .u8 48] ?c1 ?c2 ?c3 ?c4 g w HBW.out (Nat.le_refl _) ?_; rotate_right; intro w1 hh1 hb1))
  case c1 => show 1 = min 1 n; omega
  case c2 =>
    intro j v hj
    cases j with
    | zero => simp at hj; subst hj; exact HSRC.out
    | succ j => simp at hj
  case c3 => have := HLE.out; simp; omega
  case c4 => intro v hv; simp at hv; subst hv; rfl
  have h1b : (1 : Int) ≤ (n : Int) := by omega
  go_loopw [10] (RepRel w g n) (fun i _ => n - (intOf i).toNat)
  case atStart =>
    refine ⟨1, _, Nat.le_refl _, by omega, rfl, hh1, ?_, ?_, hb1⟩
    · have := HLE.out; simp [splice, Hid]; omega
    · intro j hj
      obtain rfl : j = 0 := by omega
      simp [splice]
  case round =>
    obtain ⟨k, cur, hk1, hk, rfl, HC, HN, HZ, HB⟩ := hrel
    clear hh1 hb1
    by_cases hlt : k < n
    · have z0 : (0 : Int) ≤ (k : Int) := by omega
      have z1 : (k : Int) < (n : Int) := by omega
      have z2 : ¬ ((n : Int) = (k : Int)) := by omega
      have hmin : min (k : Int) (n : Int) = (k : Int) := by omega
      have K1 := hide (show (zeros (min k (n - k))).length = Nat.min k (n - k) by unfold zeros; rw [List.length_replicate])
      have K2 : Hid (∃ ad, some (⟨g, 0, none⟩ : Addr) = some ad ∧ ∀ j v, (zeros (min k (n - k)))[j]? = some v → wr.drew.cell? (ad.add j) = some v) := by
        refine ⟨_, rfl, ?_⟩
        intro j v hj
        unfold zeros at hj
        rw [List.getElem?_replicate] at hj
        split at hj
        · simp only [Option.some.injEq] at hj
          subst hj
          have := cell_of_row wr g j cur.toArray 5 (0, 0) HC.out
          rw [Addr.add_lit, Nat.zero_add]
          show wr.cell? _ = _
          rw [this]
          simpa using HZ.out j (by omega)
        · cases hj
      have K3 := hide (show k + (zeros (min k (n - k))).length ≤ cur.length by have := HN.out; unfold zeros; rw [List.length_replicate]; omega)
      have K4 : Hid (∀ v ∈ zeros (min k (n - k)), v.oneCell' = true) := by
        intro v hv; unfold zeros at hv; rw [List.mem_replicate] at hv; rw [hv.2]; rfl
      have HC2 : Hid (wr.drew.heap[g]? = some (.cells cur.toArray 5 (0, 0))) := HC
      have HB2 : Hid (Below g w wr.drew) := HB.out.drew
      go_wp2
      go_region_law (refine step_copy_splice rfl (.tmp 70) (.tmp 73) 49 49 rfl 5 Try.underlying49 HSZ.out (some ⟨g, k, none⟩) (some ⟨g, 0, none⟩) (n - k) (n - k) k n (by simp [Act.eval, Act.put]; omega) (by simp [Act.eval, Act.put]) g k cur 5 HC2.out (zeros (min k (n - k))) K1.out (fun _ => ⟨rfl, K2.out⟩) K3.out K4.out g w HB2.out (Nat.le_refl _) ?_; intro w4 hg4 hb4; have HB4 := hide hb4; clear hb4)
      go_wp2
      go_roundw
      case rel =>
        refine ⟨k + min k (n - k), splice cur k (zeros (min k (n - k))), by omega, by omega, ?_, hg4, ?_, ?_, HB4⟩
        · rw [K1.out]; show Value.int .i64 (IntKind.i64.wrap ((k : Int) + ((min k (n - k) : Nat) : Int))) = _; rw [IntWalk.i64_in _ (by omega)]; congr 1
        · have := HN.out; have h3 := K3.out; rw [Hid, length_splice _ _ _ h3]; exact this
        · exact splice_zeros cur k _ (by have := HN.out; omega) HZ.out
      case measure => rw [K1.out]; show n - (IntKind.i64.wrap ((k : Int) + ((min k (n - k) : Nat) : Int))).toNat < n - (k : Int).toNat; rw [IntWalk.i64_in _ (by omega)]; omega
    · obtain rfl : k = n := by omega
      go_wp2
      go_ret
      have hg := HG.out
      subst hg
      have hlt := (Array.getElem?_eq_some_iff.1 HC.out).1
      refine ⟨rfl, HB.out, hlt, ?_⟩
      intro j v hj
      unfold zeros at hj
      rw [List.getElem?_replicate] at hj
      split at hj
      · simp only [Option.some.injEq] at hj
        subst hj
        exact ⟨by rw [cell_of_row wr _ j cur.toArray 5 (0, 0) HC.out]; simpa using HZ.out j (by omega), frozen_of_row wr _ j cur.toArray 5 HC.out⟩
      · cases hj

theorem repeat_any (n b : Nat) (w : World) (hn : n ≤ 1000) (hc : w.cell? ⟨b, 0, none⟩ = some (.int .u8 48)) :
    Calls Try.prog 22 #[.slice (some ⟨b, 0, none⟩) 1 1, .int .i64 (n : Int)] w fun e w' => e = .returned (.slice (some ⟨w.heap.size, 0, none⟩) n n) ∧
      Below w.heap.size w w' ∧ w.heap.size < w'.heap.size ∧ CellsAt w' w.heap.size (zeros n) := by
  by_cases h0 : n = 0
  · subst h0
    refine (repeat_zero (some ⟨b, 0, none⟩) w).mono ?_
    rintro e w' ⟨rfl, rfl⟩
    exact ⟨rfl, (Below.refl _ _).alloc (Nat.le_refl _) _, by simp, fun j v hj => by simp [zeros] at hj⟩
  · exact repeat_pos n b w (by omega) hn hc
end Go.Proofs.Ytppelmceojodhab
