/- THE WALK of slices.Reverse at boxes. -/
import Derived.Test.YtkdhifofdghbbaaIBox
import Derived.RegionTactic
import Derived.BigRegion
namespace Go.Proofs.Ytkdhifofdghbbaa
open Go.RowKit

/-- the first k and the last k boxes have been exchanged -/
def TurnedB (l xs : List Bool) (k : Nat) : Prop := xs.length = l.length ∧ ∀ j, j < l.length → xs[j]? = if j < k ∨ l.length - 1 - j < k then l[l.length - 1 - j]? else l[j]?
theorem TurnedB.start (l : List Bool) : TurnedB l l 0 := ⟨rfl, fun j _ => by simp⟩
theorem TurnedB.step {l xs : List Bool} {k m : Nat} (h : TurnedB l xs k) (hk : k < m) (hm : k + m + 1 = l.length) (x y : Bool) (hx : l[k]? = some x) (hy : l[m]? = some y) : TurnedB l ((xs.set k y).set m x) (k + 1) := by
  refine ⟨by simp [h.1], ?_⟩
  intro j hj
  have hl := h.1
  rw [List.getElem?_set, List.getElem?_set]
  by_cases e1 : m = j
  · subst e1
    rw [if_pos rfl, if_pos (by simp; omega), if_pos (by omega), show l.length - 1 - m = k by omega, hx]
  · rw [if_neg e1]
    by_cases e2 : k = j
    · subst e2
      rw [if_pos rfl, if_pos (by omega), if_pos (by omega), show l.length - 1 - k = m by omega, hy]
    · rw [if_neg e2, h.2 j hj]
      by_cases c : j < k ∨ l.length - 1 - j < k
      · rw [if_pos c, if_pos (by omega)]
      · rw [if_neg c, if_neg (by omega)]
theorem TurnedB.stop {l xs : List Bool} {k m : Nat} (h : TurnedB l xs k) (hk : ¬ k < m) (hm : k + m + 1 = l.length) : xs = l.reverse := by
  apply List.ext_getElem?
  intro j
  by_cases hj : j < l.length
  · rw [h.2 j hj, List.getElem?_reverse hj]
    by_cases c : j < k ∨ l.length - 1 - j < k
    · rw [if_pos c]
    · rw [if_neg c, show l.length - 1 - j = j by omega]
  · rw [List.getElem?_eq_none_iff.2 (by rw [h.1]; omega), List.getElem?_eq_none_iff.2 (by simp; omega)]

set_option maxRecDepth 100000 in
set_option maxHeartbeats 4000000 in
theorem reverseB_any (B n cap : Nat) (sg : List Bool) (A0 H0 : Nat → Option Addr) (w : World) (hn : 0 < n) (hm : n ≤ 60) (h : BX w B n sg A0 H0) :
    Calls Try.prog 46 #[.slice (some ⟨B, 0, none⟩) n cap] w fun o w' => o = .returned (.tuple #[]) ∧ (∃ A H, BX w' B n sg.reverse A H) ∧ Ex B w w' := by
  have HX := hide h
  have HL := hide h.len
  clear h
  go_enter Try.func46, Try.ntmps46
  go_wp2
  go_loopw [2, 3] (fun i j wr => ∃ k m : Nat, i = .int .i64 (k : Int) ∧ j = .int .i64 (m : Int) ∧ Hid (k + m + 1 = n) ∧ Hid (Ex B w wr) ∧ ∃ (xs : List Bool) (A H : Nat → Option Addr), Hid (TurnedB sg xs k) ∧ Hid (BX wr B n xs A H)) (fun _ j _ => (intOf j).toNat)
  case atStart => exact ⟨0, n - 1, rfl, by congr 1; omega, by simp [Hid]; omega, Ex.refl _ _, sg, A0, H0, TurnedB.start sg, HX.out⟩
  case round =>
    obtain ⟨k, m, rfl, rfl, HN, HB, xs, A, H, HT, HY⟩ := hrel
    by_cases hlt : k < m
    · have hkm := HN.out
      obtain ⟨x, hx⟩ : ∃ x, sg[k]? = some x := ⟨_, List.getElem?_eq_getElem (by rw [HL.out]; omega)⟩
      obtain ⟨y, hy⟩ : ∃ y, sg[m]? = some y := ⟨_, List.getElem?_eq_getElem (by rw [HL.out]; omega)⟩
      have hxk : xs[k]? = some x := by rw [HT.out.2 k (by rw [HL.out]; omega), if_neg (by rw [HL.out]; omega)]; exact hx
      have hxm : xs[m]? = some y := by rw [HT.out.2 m (by rw [HL.out]; omega), if_neg (by rw [HL.out]; omega)]; exact hy
      have HS := hide (HT.out.step hlt (by rw [HL.out]; exact hkm) x y hx hy)
      obtain ⟨a0, f0⟩ := HY.out.s k x hxk
      obtain ⟨a1, f1⟩ := HY.out.a k (by omega)
      obtain ⟨a2, f2⟩ := HY.out.h k (by omega)
      obtain ⟨b0, g0⟩ := HY.out.s m y hxm
      obtain ⟨b1, g1⟩ := HY.out.a m (by omega)
      obtain ⟨b2, g2⟩ := HY.out.h m (by omega)
      obtain ⟨ak, hak⟩ : ∃ z, z = A k := ⟨_, rfl⟩
      obtain ⟨am, ham⟩ : ∃ z, z = A m := ⟨_, rfl⟩
      obtain ⟨hk', hhk⟩ : ∃ z, z = H k := ⟨_, rfl⟩
      obtain ⟨hm', hhm⟩ : ∃ z, z = H m := ⟨_, rfl⟩
      have hkn : k < n := by omega
      have hmn : m < n := by omega
      have HF := hide ((((((HY.out.setS hkn y).setA hkn am).setH hkn hm').setS hmn x).setA hmn ak).setH hmn hk')
      have HE := hide ((((((HB.out.setCell (k * 3) (.bool y)).setCell (k * 3 + 1) (.pointer am)).setCell (k * 3 + 2) (.pointer hm')).setCell (m * 3) (.bool x)).setCell (m * 3 + 1) (.pointer ak)).setCell (m * 3 + 2) (.pointer hk'))
      rw [← hak] at a1
      rw [← ham] at b1
      rw [← hhk] at a2
      rw [← hhm] at b2
      have HKM := hide hkm
      have i0 : (0 : Int) ≤ (k : Int) := by omega
      have i1 : (k : Int) < (n : Int) := by omega
      have i2 : (0 : Int) ≤ (m : Int) := by omega
      have i3 : (m : Int) < (n : Int) := by omega
      have i4 : ¬ k = m := by omega
      have i5 : ¬ m = k := by omega
      have n1 : ¬ k * 3 = m * 3 := by omega
      have n2 : ¬ k * 3 = m * 3 + 1 := by omega
      have n3 : ¬ k * 3 = m * 3 + 2 := by omega
      have n4 : ¬ k * 3 + 1 = m * 3 := by omega
      have n5 : ¬ k * 3 + 1 = m * 3 + 1 := by omega
      have n6 : ¬ k * 3 + 1 = m * 3 + 2 := by omega
      have n7 : ¬ k * 3 + 2 = m * 3 := by omega
      have n8 : ¬ k * 3 + 2 = m * 3 + 1 := by omega
      have n9 : ¬ k * 3 + 2 = m * 3 + 2 := by omega
      clear hx hy hxk hxm hak ham hhk hhm hkm
      go_wp2
      go_region
      all_goals go_wp2
      go_roundw
      case rel => exact ⟨k + 1, m - 1, by go_num, by congr 1; omega, by have := HKM.out; simp [Hid]; omega, HE.out.drew, _, _, _, HS, HF.out.drew⟩
      case measure => simp [intOf]; omega
    · have HXS := hide (HT.out.stop hlt (by rw [HL.out]; exact HN.out))
      go_wp2
      go_end0
      exact ⟨rfl, ⟨_, _, by rw [← HXS.out]; exact HY.out⟩, HB.out⟩
end Go.Proofs.Ytkdhifofdghbbaa
