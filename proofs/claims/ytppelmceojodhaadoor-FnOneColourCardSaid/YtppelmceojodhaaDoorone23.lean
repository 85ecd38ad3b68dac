/- TEXTS ICol2, OwnSet. -/
import Derived.Test.YtppelmceojodhaaDoorone22
import Derived.Maps.AppendAt
import Derived.RegionTactic
import Derived.ChangeAlike
import Derived.BigRegion
import Derived.Deep.RegionLaw
import Derived.Deep.RegionWith
import Derived.Test.YtppelmceojodhaaDoorone01
/- THE WALKS of slices.Clone and slices.Reverse at coloured rows, and of the program's method moved. -/
namespace Go.Proofs.YtppelmceojodhaaDoor
open Go.RowKit Go.Lib

/-- a row of boxes of one's own -/
def OwnC (B : Nat) (w : World) (v : Value) (l : List UInt8) : Prop := ∃ g cp, v = .slice (some ⟨g, 0, none⟩) l.length cp ∧ B ≤ g ∧ g < w.heap.size ∧ l.length ≤ cp ∧ cp ≤ maxLen ∧ w.ownsRow B 44 1 v l.length (cV l)
theorem ownC_of {B : Nat} {w : World} {v : Value} {l : List UInt8} (h : w.ownsRow B 44 1 v l.length (cV l)) (hn : v ≠ .slice none 0 0) : OwnC B w v l := by
  have h' := h
  rcases h.2 with ⟨h0, _⟩ | ⟨g, cp, cur, h1, h2, h3, h4, h5, h6, h7⟩
  · exact absurd h0 hn
  · exact ⟨g, cp, h1, h2, (Array.getElem?_eq_some_iff.1 h3).1, by omega, by omega, h'⟩

theorem eqC (w : World) (a : Option Addr) (n c n' c' : Nat) : (binOp .eql 40 (.slice a n c) (.slice none n' c')).run Tryd.prog w = .ok (.bool a.isNone) w :=
  Go.Lib.run_eql_slice_nil w _ _ a n c n' c' Tryd.underlying40

set_option maxRecDepth 100000 in
set_option maxHeartbeats 1000000 in
theorem cloneC_any (g n cap : Nat) (l : List UInt8) (w : World) (hl : l.length = n) (hm : n ≤ 1000) (hc : CellsAt w g (cV l)) :
    Calls Tryd.prog 46 #[.slice (some ⟨g, 0, none⟩) n cap] w fun e w' => ∃ v, e = .returned v ∧ OwnC w.heap.size w' v l ∧ Below w.heap.size w w' := by
  obtain ⟨i0, hi, hz0, hz1, hz2⟩ := info_parts infoC
  have q := eqC
  have h0 := World.ownsRow_lit (base := w.heap.size) (e := 44) (size := 1) w #[] 0 (Nat.le_refl _) (by unfold maxLen; omega) rfl
  have SRC : Hid (∀ j u, (cV l)[j]? = some u → (w.alloc (.cells #[] 44)).cell? ((⟨g, 0, none⟩ : Addr).add j) = some u) := by
    intro j u hu
    rw [Addr.add_lit, Nat.zero_add]
    exact ((hc.alloc (.cells #[] 44)) j u hu).1
  have H0 := hide h0
  have HL : Hid ((cV l).length = n * 1) := by show _ = _; rw [cV_length, hl, Nat.mul_one]
  have HLL := hide hl
  clear h0 hc hl
  go_enter Tryd.func46, Tryd.ntmps46
  go_wp2_with (first | (at_builtin; refine wpList_append_own _ rfl _ _ 40 rfl w.heap.size 44 i0 .nilIface 1 16 Tryd.underlying40 hi hz0 hz1 hz2 rfl (by decide) (.slice (some ⟨w.heap.size, 0, none⟩) 0 0) 0 [] rfl H0.out ⟨g, 0, none⟩ n cap (cV l) rfl HL.out SRC.out (cV_one _) (by unfold maxLen; omega) (by omega) (by simp) ?_; intro v' w1 hown' hgrow hnil) | fail)
  go_ret
  rw [Nat.zero_add, List.nil_append] at hown'
  have hn : v' ≠ .slice none 0 0 := fun h => by
    have := (hnil.1 h).1
    cases this
  refine ⟨_, rfl, ownC_of (by rw [HLL.out]; exact hown') hn, ?_⟩
  exact ((Below.refl w.heap.size w).alloc (Nat.le_refl _) _).grown hgrow (by simp) (fun r e => by have e' : some w.heap.size = some r := e; injection e' with e'; omega)

/-- the first k and the last k boxes have been exchanged -/
def TurnedU (l xs : List UInt8) (k : Nat) : Prop := xs.length = l.length ∧ ∀ j, j < l.length → xs[j]? = if j < k ∨ l.length - 1 - j < k then l[l.length - 1 - j]? else l[j]?
theorem TurnedU.start (l : List UInt8) : TurnedU l l 0 := ⟨rfl, fun j _ => by simp⟩
theorem TurnedU.step {l xs : List UInt8} {k m : Nat} (h : TurnedU l xs k) (hk : k < m) (hm : k + m + 1 = l.length) (x y : UInt8) (hx : l[k]? = some x) (hy : l[m]? = some y) : TurnedU l ((xs.set k y).set m x) (k + 1) := by
  refine ⟨by simp [h.1], ?_⟩
  intro j hj
  have hl := h.1
  rw [List.getElem?_set, List.getElem?_set]
  by_cases e1 : m = j
  · subst e1
    rw [if_pos rfl, if_pos (by simp; omega), if_pos (by omega), show l.length - 1 - m = k by omega, hx]
  · rw [if_neg e1]
    by_cases e2 : k = j
    · subst e2
      rw [if_pos rfl, if_pos (by omega), if_pos (by omega), show l.length - 1 - k = m by omega, hy]
    · rw [if_neg e2, h.2 j hj]
      by_cases c : j < k ∨ l.length - 1 - j < k
      · rw [if_pos c, if_pos (by omega)]
      · rw [if_neg c, if_neg (by omega)]
theorem TurnedU.stop {l xs : List UInt8} {k m : Nat} (h : TurnedU l xs k) (hk : ¬ k < m) (hm : k + m + 1 = l.length) : xs = l.reverse := by
  apply List.ext_getElem?
  intro j
  by_cases hj : j < l.length
  · rw [h.2 j hj, List.getElem?_reverse hj]
    by_cases c : j < k ∨ l.length - 1 - j < k
    · rw [if_pos c]
    · rw [if_neg c, show l.length - 1 - j = j by omega]
  · rw [List.getElem?_eq_none_iff.2 (by rw [h.1]; omega), List.getElem?_eq_none_iff.2 (by simp; omega)]

set_option maxHeartbeats 400000 in
theorem reverseC_none (a : Option Addr) (cap : Nat) (w : World) :
    Calls Tryd.prog 47 #[.slice a 0 cap] w fun e w' => e = .returned (.tuple #[]) ∧ w = w' := by
  go_enter Tryd.func47, Tryd.ntmps47
  go_wp2
  go_loop [2, 3] (fun i j => i = .int .i64 0 ∧ j = .int .i64 (-1)) (fun _ _ => 0)
  case atStart => exact ⟨rfl, rfl⟩
  case round =>
    obtain ⟨rfl, rfl⟩ := hrel
    go_wp2
    go_end0
    exact ⟨rfl, rfl⟩

set_option maxHeartbeats 1000000 in
theorem reverseC_some (g n cap B : Nat) (l : List UInt8) (w : World) (hl : l.length = n) (h0 : 0 < n) (hm : n ≤ 1000) (hB : B ≤ g) (hc : CellsAt w g (cV l)) :
    Calls Tryd.prog 47 #[.slice (some ⟨g, 0, none⟩) n cap] w fun e w' => e = .returned (.tuple #[]) ∧ Below B w w' ∧ CellsAt w' g (cV l.reverse) := by
  have HL := hide hl
  have HC := hide hc
  clear hl hc
  go_enter Tryd.func47, Tryd.ntmps47
  go_wp2
  go_loopw [2, 3] (fun i j wr => ∃ k m : Nat, i = .int .i64 (k : Int) ∧ j = .int .i64 (m : Int) ∧ Hid (k + m + 1 = n) ∧ Hid (Below B w wr) ∧ ∃ xs : List UInt8, Hid (TurnedU l xs k) ∧ Hid (CellsAt wr g (cV xs))) (fun _ j _ => (Go.RowKit.intOf j).toNat)
  case atStart => exact ⟨0, n - 1, rfl, by congr 1; omega, by simp [Hid]; omega, Below.refl _ _, l, TurnedU.start l, HC.out⟩
  case round =>
    obtain ⟨k, m, rfl, rfl, HN, HB, xs, HT, HX⟩ := hrel
    by_cases hlt : k < m
    · have hkm := HN.out
      obtain ⟨x, hx⟩ : ∃ x, l[k]? = some x := ⟨_, List.getElem?_eq_getElem (by rw [HL.out]; omega)⟩
      obtain ⟨y, hy⟩ : ∃ y, l[m]? = some y := ⟨_, List.getElem?_eq_getElem (by rw [HL.out]; omega)⟩
      have hxk : xs[k]? = some x := by rw [HT.out.2 k (by rw [HL.out]; omega), if_neg (by rw [HL.out]; omega)]; exact hx
      have hxm : xs[m]? = some y := by rw [HT.out.2 m (by rw [HL.out]; omega), if_neg (by rw [HL.out]; omega)]; exact hy
      obtain ⟨hck, hfk⟩ := HX.out k _ (cV_get hxk)
      obtain ⟨hcm, hfm⟩ := HX.out m _ (cV_get hxm)
      have HS := hide (HT.out.step hlt (by rw [HL.out]; exact hkm) x y hx hy)
      have HXL := hide (show xs.length = n by rw [HT.out.1, HL.out])
      clear hx hy hxk hxm
      have i0 : (0 : Int) ≤ (k : Int) := by omega
      have i1 : (k : Int) < (n : Int) := by omega
      have i2 : (0 : Int) ≤ (m : Int) := by omega
      have i3 : (m : Int) < (n : Int) := by omega
      have i4 : ¬ k = m := by omega
      have i5 : ¬ m = k := by omega
      have HC2 : Hid (CellsAt ((wr.setCell ⟨g, k, none⟩ (cv y)).setCell ⟨g, m, none⟩ (cv x)) g (cV ((xs.set k y).set m x))) := by
        show CellsAt _ _ _
        rw [cV_set, cV_set]
        exact (HX.out.set k (by rw [cV_length, HXL.out]; omega) _).set m (by rw [List.length_set, cV_length, HXL.out]; omega) _
      have HKM := hide hkm
      clear hkm
      rcases cv_form x with hx | ⟨ux, hx⟩ <;> rcases cv_form y with hy | ⟨uy, hy⟩ <;> rw [hx] at hck HC2 <;> rw [hy] at hcm HC2 <;> clear hx hy
      · go_wp2
        go_region
        all_goals go_wp2
        go_roundw
        case rel => exact ⟨k + 1, m - 1, by go_num, by congr 1; omega, by have := HKM.out; simp [Hid]; omega, ((HB.out.setCell hB _).setCell hB _).drew, _, HS, HC2.out⟩
        case measure => simp [Go.RowKit.intOf]; omega
      · go_wp2
        go_region
        all_goals go_wp2
        go_roundw
        case rel => exact ⟨k + 1, m - 1, by go_num, by congr 1; omega, by have := HKM.out; simp [Hid]; omega, ((HB.out.setCell hB _).setCell hB _).drew, _, HS, HC2.out⟩
        case measure => simp [Go.RowKit.intOf]; omega
      · go_wp2
        go_region
        all_goals go_wp2
        go_roundw
        case rel => exact ⟨k + 1, m - 1, by go_num, by congr 1; omega, by have := HKM.out; simp [Hid]; omega, ((HB.out.setCell hB _).setCell hB _).drew, _, HS, HC2.out⟩
        case measure => simp [Go.RowKit.intOf]; omega
      · go_wp2
        go_region
        all_goals go_wp2
        go_roundw
        case rel => exact ⟨k + 1, m - 1, by go_num, by congr 1; omega, by have := HKM.out; simp [Hid]; omega, ((HB.out.setCell hB _).setCell hB _).drew, _, HS, HC2.out⟩
        case measure => simp [Go.RowKit.intOf]; omega
    · go_wp2
      go_end0
      have := HT.out.stop hlt (by rw [HL.out]; exact HN.out)
      exact ⟨rfl, HB.out, by rw [← this]; exact HX.out⟩

theorem reverseC_any (g n cap B : Nat) (l : List UInt8) (w : World) (hl : l.length = n) (hm : n ≤ 1000) (hB : B ≤ g) (hc : CellsAt w g (cV l)) :
    Calls Tryd.prog 47 #[.slice (some ⟨g, 0, none⟩) n cap] w fun e w' => e = .returned (.tuple #[]) ∧ Below B w w' ∧ CellsAt w' g (cV l.reverse) := by
  by_cases h0 : n = 0
  · subst h0
    obtain rfl : l = [] := List.eq_nil_of_length_eq_zero hl
    refine (reverseC_none (some ⟨g, 0, none⟩) cap w).mono ?_
    rintro e w' ⟨rfl, rfl⟩
    exact ⟨rfl, Below.refl _ _, hc⟩
  · exact reverseC_some g n cap B l w hl (by omega) hm hB hc

theorem nilC (W : World) (u : TypeId) (v : Value) : (binOp .neq 44 (.iface u v) .nilIface).run Tryd.prog W = .ok (.bool true) W := by kernel_rfl
theorem nilC0 (W : World) : (binOp .neq 44 .nilIface .nilIface).run Tryd.prog W = .ok (.bool false) W := by kernel_rfl
theorem neqC (W : World) (x : UInt8) (h : sg3 x = true) : (binOp .neq 44 (cv x) .nilIface).run Tryd.prog W = .ok (.bool (!(x == 48))) W := by
  rcases (sg3_iff x).1 h with rfl | rfl | rfl | rfl
  · exact nilC0 W
  · exact nilC W _ _
  · exact nilC W _ _
  · exact nilC W _ _
end Go.Proofs.YtppelmceojodhaaDoor

/- One cell of a row of one's own is set. -/
namespace Go.Proofs.YtppelmceojodhaaDoor
open Go.RowKit
theorem own_set {w : World} {B e size n k : Nat} {a : Option Addr} {g c : Nat} {xs : List Value} (h : w.ownsRow B e size (.slice a n c) n xs) (ha : a = some ⟨g, 0, none⟩) (u : Value) : (w.setCell ⟨g, k, none⟩ u).ownsRow B e size (.slice a n c) n (xs.set k u) := by
  refine ⟨by rw [List.length_set]; exact h.1, ?_⟩
  rcases h.2 with ⟨h1, _⟩ | ⟨g', cap, cur, h1, h2, h3, h4, h5, h6, h7⟩
  · injection h1 with h1; rw [ha] at h1; cases h1
  · injection h1 with h1 _ h8
    rw [ha] at h1
    injection h1 with h1
    injection h1 with h1
    subst h1
    refine .inr ⟨g, cap, cur.set! k u, by rw [ha, h8], h2, ?_, h4, h5, by simpa using h6, ?_⟩
    · show (w.heap.modify g _)[g]? = _
      obtain ⟨hlt, hg⟩ := Array.getElem?_eq_some_iff.1 h3
      rw [Array.getElem?_eq_getElem (by rw [Array.size_modify]; exact hlt), Array.getElem_modify_self, hg]
      rfl
    · rw [← h7]
      simp [List.take_set]
end Go.Proofs.YtppelmceojodhaaDoor
