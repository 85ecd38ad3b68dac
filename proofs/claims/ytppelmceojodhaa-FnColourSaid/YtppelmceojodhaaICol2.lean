/- THE WALKS of slices.Clone and slices.Reverse at coloured rows, and of the program's method moved. -/
import Derived.Test.YtppelmceojodhaaICol1
import Derived.Maps.AppendAt
import Derived.RegionTactic
import Derived.ChangeAlike
import Derived.BigRegion
import Derived.Deep.RegionLaw
import Derived.Deep.RegionWith
namespace Go.Proofs.Ytppelmceojodhaa
open Go.RowKit Go.Lib

/-- a row of boxes of one's own -/
def OwnC (B : Nat) (w : World) (v : Value) (l : List UInt8) : Prop := ∃ g cp, v = .slice (some ⟨g, 0, none⟩) l.length cp ∧ B ≤ g ∧ g < w.heap.size ∧ l.length ≤ cp ∧ cp ≤ maxLen ∧ w.ownsRow B 44 1 v l.length (cV l)
theorem ownC_of {B : Nat} {w : World} {v : Value} {l : List UInt8} (h : w.ownsRow B 44 1 v l.length (cV l)) (hn : v ≠ .slice none 0 0) : OwnC B w v l := by
  have h' := h
  rcases h.2 with ⟨h0, _⟩ | ⟨g, cp, cur, h1, h2, h3, h4, h5, h6, h7⟩
  · exact absurd h0 hn
  · exact ⟨g, cp, h1, h2, (Array.getElem?_eq_some_iff.1 h3).1, by omega, by omega, h'⟩

theorem eqC (w : World) (a : Option Addr) (n c n' c' : Nat) : (binOp .eql 40 (.slice a n c) (.slice none n' c')).run Try.prog w = .ok (.bool a.isNone) w :=
  Go.Lib.run_eql_slice_nil w _ _ a n c n' c' Try.underlying40

/-- the first k and the last k boxes have been exchanged -/
def TurnedU (l xs : List UInt8) (k : Nat) : Prop := xs.length = l.length ∧ ∀ j, j < l.length → xs[j]? = if j < k ∨ l.length - 1 - j < k then l[l.length - 1 - j]? else l[j]?
theorem TurnedU.start (l : List UInt8) : TurnedU l l 0 := ⟨rfl, fun j _ => by simp⟩
theorem TurnedU.step {l xs : List UInt8} {k m : Nat} (h : TurnedU l xs k) (hk : k < m) (hm : k + m + 1 = l.length) (x y : UInt8) (hx : l[k]? = some x) (hy : l[m]? = some y) : TurnedU l ((xs.set k y).set m x) (k + 1) := by
  refine ⟨by simp [h.1], ?_⟩
  intro j hj
  have hl := h.1
  rw [List.getElem?_set, List.getElem?_set]
  by_cases e1 : m = j
  · subst e1
    rw [if_pos rfl, if_pos (by simp; omega), if_pos (by omega), show l.length - 1 - m = k by omega, hx]
  · rw [if_neg e1]
    by_cases e2 : k = j
    · subst e2
      rw [if_pos rfl, if_pos (by omega), if_pos (by omega), show l.length - 1 - k = m by omega, hy]
    · rw [if_neg e2, h.2 j hj]
      by_cases c : j < k ∨ l.length - 1 - j < k
      · rw [if_pos c, if_pos (by omega)]
      · rw [if_neg c, if_neg (by omega)]
theorem TurnedU.stop {l xs : List UInt8} {k m : Nat} (h : TurnedU l xs k) (hk : ¬ k < m) (hm : k + m + 1 = l.length) : xs = l.reverse := by
  apply List.ext_getElem?
  intro j
  by_cases hj : j < l.length
  · rw [h.2 j hj, List.getElem?_reverse hj]
    by_cases c : j < k ∨ l.length - 1 - j < k
    · rw [if_pos c]
    · rw [if_neg c, show l.length - 1 - j = j by omega]
  · rw [List.getElem?_eq_none_iff.2 (by rw [h.1]; omega), List.getElem?_eq_none_iff.2 (by simp; omega)]

theorem nilC (W : World) (u : TypeId) (v : Value) : (binOp .neq 44 (.iface u v) .nilIface).run Try.prog W = .ok (.bool true) W := by kernel_rfl
theorem nilC0 (W : World) : (binOp .neq 44 .nilIface .nilIface).run Try.prog W = .ok (.bool false) W := by kernel_rfl
theorem neqC (W : World) (x : UInt8) (h : sg3 x = true) : (binOp .neq 44 (cv x) .nilIface).run Try.prog W = .ok (.bool (!(x == 48))) W := by
  rcases (sg3_iff x).1 h with rfl | rfl | rfl | rfl
  · exact nilC0 W
  · exact nilC W _ _
  · exact nilC W _ _
  · exact nilC W _ _
end Go.Proofs.Ytppelmceojodhaa
