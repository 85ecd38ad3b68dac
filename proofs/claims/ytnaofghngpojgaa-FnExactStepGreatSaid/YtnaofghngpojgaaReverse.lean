/- slices.Reverse of a row, in place. -/
import Derived.Test.YtnaofghngpojgaaRowTidy
import Derived.RegionTactic
import Derived.ChangeAlike
import Derived.BigRegion
namespace Go.Proofs.Ytnaofghngpojgaa
open Go.RowKit

/-- the first k and the last k boxes have been exchanged -/
def Turned (l xs : List Bool) (k : Nat) : Prop := xs.length = l.length ∧ ∀ j, j < l.length → xs[j]? = if j < k ∨ l.length - 1 - j < k then l[l.length - 1 - j]? else l[j]?
theorem Turned.start (l : List Bool) : Turned l l 0 := ⟨rfl, fun j _ => by simp⟩
theorem Turned.step {l xs : List Bool} {k m : Nat} (h : Turned l xs k) (hk : k < m) (hm : k + m + 1 = l.length) (x y : Bool) (hx : l[k]? = some x) (hy : l[m]? = some y) : Turned l ((xs.set k y).set m x) (k + 1) := by
  refine ⟨by simp [h.1], ?_⟩
  intro j hj
  have hl := h.1
  rw [List.getElem?_set, List.getElem?_set]
  by_cases e1 : m = j
  · subst e1
    rw [if_pos rfl, if_pos (by simp; omega), if_pos (by omega), show l.length - 1 - m = k by omega, hx]
  · rw [if_neg e1]
    by_cases e2 : k = j
    · subst e2
      rw [if_pos rfl, if_pos (by omega), if_pos (by omega), show l.length - 1 - k = m by omega, hy]
    · rw [if_neg e2, h.2 j hj]
      by_cases c : j < k ∨ l.length - 1 - j < k
      · rw [if_pos c, if_pos (by omega)]
      · rw [if_neg c, if_neg (by omega)]
theorem Turned.stop {l xs : List Bool} {k m : Nat} (h : Turned l xs k) (hk : ¬ k < m) (hm : k + m + 1 = l.length) : xs = l.reverse := by
  apply List.ext_getElem?
  intro j
  by_cases hj : j < l.length
  · rw [h.2 j hj, List.getElem?_reverse hj]
    by_cases c : j < k ∨ l.length - 1 - j < k
    · rw [if_pos c]
    · rw [if_neg c, show l.length - 1 - j = j by omega]
  · rw [List.getElem?_eq_none_iff.2 (by rw [h.1]; omega), List.getElem?_eq_none_iff.2 (by simp; omega)]

set_option maxHeartbeats 400000 in
theorem reverse_none (a : Option Addr) (cap : Nat) (w : World) :
    Calls Try.prog 33 #[.slice a 0 cap] w fun e w' => e = .returned (.tuple #[]) ∧ w = w' := by
  go_enter Try.func33, Try.ntmps33
  go_wp2
  go_loop [2, 3] (fun i j => i = .int .i64 0 ∧ j = .int .i64 (-1)) (fun _ _ => 0)
  case atStart => exact ⟨rfl, rfl⟩
  case round =>
    obtain ⟨rfl, rfl⟩ := hrel
    go_wp2
    go_end0
    exact ⟨rfl, rfl⟩

set_option maxHeartbeats 1000000 in
theorem reverse_some (g n cap B : Nat) (l : List Bool) (w : World) (hl : l.length = n) (h0 : 0 < n) (hm : n ≤ 1000) (hB : B ≤ g) (hc : CellsAt w g (l.map .bool)) :
    Calls Try.prog 33 #[.slice (some ⟨g, 0, none⟩) n cap] w fun e w' => e = .returned (.tuple #[]) ∧ Below B w w' ∧ CellsAt w' g (l.reverse.map .bool) := by
  have HL := hide hl
  have HC := hide hc
  clear hl hc
  go_enter Try.func33, Try.ntmps33
  go_wp2
  go_loopw [2, 3] (fun i j wr => ∃ k m : Nat, i = .int .i64 (k : Int) ∧ j = .int .i64 (m : Int) ∧ Hid (k + m + 1 = n) ∧ Hid (Below B w wr) ∧ ∃ xs : List Bool, Hid (Turned l xs k) ∧ Hid (CellsAt wr g (xs.map .bool))) (fun _ j _ => (intOf j).toNat)
  case atStart => exact ⟨0, n - 1, rfl, by congr 1; omega, by simp [Hid]; omega, Below.refl _ _, l, Turned.start l, HC.out⟩
  case round =>
    obtain ⟨k, m, rfl, rfl, HN, HB, xs, HT, HX⟩ := hrel
    by_cases hlt : k < m
    · have hkm := HN.out
      obtain ⟨x, hx⟩ : ∃ x, l[k]? = some x := ⟨_, List.getElem?_eq_getElem (by rw [HL.out]; omega)⟩
      obtain ⟨y, hy⟩ : ∃ y, l[m]? = some y := ⟨_, List.getElem?_eq_getElem (by rw [HL.out]; omega)⟩
      have hxk : xs[k]? = some x := by rw [HT.out.2 k (by rw [HL.out]; omega), if_neg (by rw [HL.out]; omega)]; exact hx
      have hxm : xs[m]? = some y := by rw [HT.out.2 m (by rw [HL.out]; omega), if_neg (by rw [HL.out]; omega)]; exact hy
      obtain ⟨hck, hfk⟩ := HX.out k (.bool x) (by simp [hxk])
      obtain ⟨hcm, hfm⟩ := HX.out m (.bool y) (by simp [hxm])
      have HS := hide (HT.out.step hlt (by rw [HL.out]; exact hkm) x y hx hy)
      have HXL := hide (show xs.length = n by rw [HT.out.1, HL.out])
      clear hx hy hxk hxm
      have i0 : (0 : Int) ≤ (k : Int) := by omega
      have i1 : (k : Int) < (n : Int) := by omega
      have i2 : (0 : Int) ≤ (m : Int) := by omega
      have i3 : (m : Int) < (n : Int) := by omega
      have i4 : ¬ k = m := by omega
      have i5 : ¬ m = k := by omega
      clear hkm
      go_wp2
      go_region
      all_goals go_wp2
      go_roundw
      case rel =>
        refine ⟨k + 1, m - 1, by go_num, by congr 1; omega, by have := HN.out; simp [Hid]; omega, ((HB.out.setCell hB _).setCell hB _).drew, _, HS, ?_⟩
        have h1 := (HX.out.set k (by rw [List.length_map, HXL.out]; omega) (.bool y)).set m (by rw [List.length_set, List.length_map, HXL.out]; omega) (.bool x)
        rw [List.map_set, List.map_set]
        exact h1
      case measure => simp [intOf]; omega
    · go_wp2
      go_end0
      have := HT.out.stop hlt (by rw [HL.out]; exact HN.out)
      exact ⟨rfl, HB.out, by rw [← this]; exact HX.out⟩

theorem reverse_any (g n cap B : Nat) (l : List Bool) (w : World) (hl : l.length = n) (hm : n ≤ 1000) (hB : B ≤ g) (hc : CellsAt w g (l.map .bool)) :
    Calls Try.prog 33 #[.slice (some ⟨g, 0, none⟩) n cap] w fun e w' => e = .returned (.tuple #[]) ∧ Below B w w' ∧ CellsAt w' g (l.reverse.map .bool) := by
  by_cases h0 : n = 0
  · subst h0
    obtain rfl : l = [] := List.eq_nil_of_length_eq_zero hl
    refine (reverse_none (some ⟨g, 0, none⟩) cap w).mono ?_
    rintro e w' ⟨rfl, rfl⟩
    exact ⟨rfl, Below.refl _ _, hc⟩
  · exact reverse_some g n cap B l w hl (by omega) hm hB hc
end Go.Proofs.Ytnaofghngpojgaa
