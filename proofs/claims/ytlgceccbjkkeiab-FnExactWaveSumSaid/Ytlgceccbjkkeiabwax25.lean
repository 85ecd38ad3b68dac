/- TEXTS Rounds. -/
import Derived.Test.Ytlgceccbjkkeiabwax10
import Derived.Test.Ytlgceccbjkkeiabwax24
import Derived.Lib.AppendZeros
import Derived.Deep.LoopGhost
/- slices.Concat of two rows. -/
namespace Go.Proofs.Ytlgceccbjkkeiab
open Go.RowKit

/-- the two loops of Concat -/
def SizeRel (na nd : Nat) (s i : Value) : Prop :=
  (i = .int .i64 0 ∧ s = .int .i64 0) ∨ (i = .int .i64 1 ∧ s = .int .i64 (na : Int)) ∨ (i = .int .i64 2 ∧ s = .int .i64 ((na + nd : Nat) : Int))
def CatRel (A D : List Bool) (B : Nat) (w : World) (v i : Value) (wr : World) : Prop :=
  Hid (Below B w wr) ∧ B ≤ wr.heap.size ∧ ((i = .int .i64 0 ∧ Hid (wr.ownsRow B 4 1 v 0 [])) ∨ (i = .int .i64 1 ∧ Hid (wr.ownsRow B 4 1 v A.length (A.map .bool))) ∨
    (i = .int .i64 2 ∧ Hid (wr.ownsRow B 4 1 v (A.length + D.length) ((A ++ D).map .bool))))

end Go.Proofs.Ytlgceccbjkkeiab

/- takeOut; roundsOf; the program's ShapeRounds. -/
namespace Go.Proofs.Ytlgceccbjkkeiab
open Go.RowKit

/-- the loop of takeOut -/
def OutRel (l : List Bool) (B : Nat) (w : World) (v c i : Value) (wr : World) : Prop :=
  ∃ (k m : Nat) (R : List Bool), k ≤ l.length ∧ i = .int .i64 (k : Int) ∧ c = .int .i64 (m : Int) ∧ m ≤ k ∧ R.length ≤ k ∧
    Hid (wr.ownsRow B 4 1 v R.length (R.map .bool)) ∧ Hid (el l = R ++ el (l.drop k)) ∧ Hid (np l = m + np (l.drop k)) ∧ Hid (Below B w wr) ∧ B ≤ wr.heap.size

theorem owns_mono {w : World} {b b' e n : Nat} {v : Value} {xs : List Value} (h : w.ownsRow b e 1 v n xs) (hb : b' ≤ b) : w.ownsRow b' e 1 v n xs := by
  refine ⟨h.1, ?_⟩
  rcases h.2 with h2 | ⟨g, cap, cur, h1, h2, h3⟩
  · exact .inl h2
  · exact .inr ⟨g, cap, cur, h1, Nat.le_trans hb h2, h3⟩
theorem owns_below {w w' : World} {B b e n : Nat} {v : Value} {xs : List Value} (h : w.ownsRow b e 1 v n xs) (hb : Below B w w') (hB : w.heap.size ≤ B) : w'.ownsRow b e 1 v n xs := by
  refine ⟨h.1, ?_⟩
  rcases h.2 with h2 | ⟨g, cap, cur, h1, h2, h3, h4⟩
  · exact .inl h2
  · have hlt := (Array.getElem?_eq_some_iff.1 h3).1
    exact .inr ⟨g, cap, cur, h1, h2, (hb.block g (by omega)).trans h3, h4⟩
theorem nballs_drop (t : List Bool) (k : Nat) (h : nballs (t.take k) = 0) (hk : t.length ≤ k) : nballs t = 0 := by rw [List.take_of_length_le hk] at h; exact h
theorem nballs_at (t : List Bool) (k : Nat) (h : t[k]? = some true) : nballs t ≠ 0 := by
  unfold nballs
  intro e
  rw [List.count_eq_zero] at e
  exact e (List.mem_of_getElem? h)

/-- the loop of roundsOf, between two rounds -/
def RndRel (l : List Bool) (B : Nat) (w : World) (gk : Nat) (lv rv : Value) (wr : World) : Prop :=
  ∃ (t : List Bool) (out : List Nat), t.length ≤ 240 ∧ nballs t + out.length ≤ 120 ∧ nballs t ≤ gk ∧ Hid (Still t) ∧ Hid (rdB l = out ++ rds (nballs t) t) ∧ Hid (wr.ownsRow B 4 1 lv t.length (t.map .bool)) ∧
    Hid (wr.ownsRow B 3 1 rv out.length ((ni out).map (.int .i64))) ∧ Hid (Below B w wr) ∧ B ≤ wr.heap.size
theorem rdB_cut (l : List Bool) : rdB (cut l) = rdB l := rdB_ext (bx_fun_cut l)

end Go.Proofs.Ytlgceccbjkkeiab
