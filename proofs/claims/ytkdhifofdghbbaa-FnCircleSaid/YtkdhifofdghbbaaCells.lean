/- CELLS OF ONE BLOCK THAT HOLD A LIST, none frozen: small laws; and rows as lists of Bools. Nothing of the program is named here. -/
import Derived.WalkKit
import Derived.WalkSpells
import Derived.WalkLawsBesides
import Derived.ProofKit
import Derived.Test.YtkdhifofdghbbaaPlain
namespace Go.Proofs.Ytkdhifofdghbbaa
open Go.RowKit

/-- block g's first cells hold the list, none of them frozen -/
def CellsAt (w : World) (g : Nat) (l : List Value) : Prop := ∀ j v, l[j]? = some v → w.cell? ⟨g, j, none⟩ = some v ∧ w.frozen? ⟨g, j, none⟩ = false

theorem CellsAt.cell {w : World} {g : Nat} {l : List Value} (h : CellsAt w g l) (j : Nat) (v : Value) (hv : l[j]? = some v) : w.cell? ⟨g, j, none⟩ = some v := (h j v hv).1
theorem CellsAt.lt {w : World} {g : Nat} {l : List Value} (h : CellsAt w g l) (hl : 0 < l.length) : g < w.heap.size := by
  have := (h 0 l[0] (by simp [hl])).1
  exact World.block_lt_of_cell? w _ this
theorem CellsAt.below {w w' : World} {g B : Nat} {l : List Value} (h : CellsAt w g l) (hb : Below B w w') (hg : g < B) : CellsAt w' g l := by
  intro j v hv
  obtain ⟨a, b⟩ := h j v hv
  exact ⟨(hb.cell (p := ⟨g, j, none⟩) hg).trans a, (hb.frozen (p := ⟨g, j, none⟩) hg).trans b⟩
/-- an empty list or a block below: what lies below is kept -/
theorem CellsAt.below' {w w' : World} {g B : Nat} {l : List Value} (h : CellsAt w g l) (hb : Below B w w') (hB : w.heap.size ≤ B) : CellsAt w' g l := by
  by_cases hl : 0 < l.length
  · exact h.below hb (by have := h.lt hl; omega)
  · have : l = [] := List.eq_nil_of_length_eq_zero (by omega)
    subst this
    intro j v hv; simp at hv
theorem CellsAt.set {w : World} {g : Nat} {l : List Value} (h : CellsAt w g l) (k : Nat) (hk : k < l.length) (u : Value) : CellsAt (w.setCell ⟨g, k, none⟩ u) g (l.set k u) := by
  intro j v hv
  rw [List.getElem?_set] at hv
  by_cases e : k = j
  · subst e
    simp [hk] at hv
    subst hv
    obtain ⟨a, b⟩ := h k l[k] (by simp [hk])
    exact ⟨World.cell?_setCell_same' _ _ _ (by rw [a]; rfl), by rw [World.frozen?_setCell]; exact b⟩
  · simp [e] at hv
    obtain ⟨a, b⟩ := h j v hv
    exact ⟨by rw [World.cell?_setCell_other _ _ _ _ (by intro h; injection h with _ h2; exact e h2)]; exact a, by rw [World.frozen?_setCell]; exact b⟩
theorem CellsAt.far {w : World} {g : Nat} {l : List Value} (h : CellsAt w g l) (p : Addr) (hp : p.block ≠ g) (u : Value) : CellsAt (w.setCell p u) g l := by
  intro j v hv
  obtain ⟨a, b⟩ := h j v hv
  exact ⟨by rw [World.cell?_setCell_other _ _ _ _ (by intro h; exact hp (by rw [h]))]; exact a, by rw [World.frozen?_setCell]; exact b⟩
theorem CellsAt.alloc {w : World} {g : Nat} {l : List Value} (h : CellsAt w g l) (o : Obj) : CellsAt (w.alloc o) g l := h.below' ((Below.refl w.heap.size w).alloc (Nat.le_refl _) o) (Nat.le_refl _)
theorem CellsAt.of_owns {w : World} {base e g n cap : Nat} {xs : List Value} (h : w.ownsRow base e 1 (.slice (some ⟨g, 0, none⟩) n cap) n xs) : CellsAt w g xs := by
  intro j v hv
  have hl : j < n * 1 := by have := h.1; have := (List.getElem?_eq_some_iff.1 hv).1; omega
  exact ⟨by rw [h.cellAt j hl]; exact hv, h.frozenAt j⟩

/-- the boxes of a text: has it a ball? -/
def bits (s : ByteArray) : List Bool := s.data.toList.map (· == 49)
/-- the number of boxes up to the last ball -/
def tl (l : List Bool) : Nat := (l.reverse.dropWhile (! ·)).length
theorem length_bits (s : ByteArray) : (bits s).length = s.size := by simp [bits]
theorem bits_getElem (s : ByteArray) (k : Nat) (h : k < s.size) : (bits s)[k]? = some (s[k] == 49) := by
  simp [bits, h]; rfl
theorem bit_int (c : UInt8) : (c == 49) = ((c.toNat : Int) == 49) := by
  rw [Bool.eq_iff_iff]; simp [← UInt8.toNat_inj]; omega
theorem bits_step (s : ByteArray) (xs : List Bool) (k : Nat) (h : k < s.size) (hx : xs.length = s.size) (ht : xs.take k = (bits s).take k) :
    (xs.set k (s[k] == 49)).take (k + 1) = (bits s).take (k + 1) := by
  have hb : k < (bits s).length := by rw [length_bits]; exact h
  rw [List.take_succ_eq_append_getElem (by simp; omega), List.take_succ_eq_append_getElem hb, List.take_set_of_le (Nat.le_refl _), ht]
  have e := bits_getElem s k h
  rw [List.getElem?_eq_getElem hb] at e
  simp only [Option.some.injEq] at e
  rw [e]; simp
theorem tl_le (l : List Bool) : tl l ≤ l.length := by
  unfold tl; have := (List.dropWhile_sublist (! ·) (l := l.reverse)).length_le; simpa using this
theorem tl_nil : tl [] = 0 := rfl
theorem tl_snoc (l : List Bool) (b : Bool) : tl (l ++ [b]) = if b then l.length + 1 else tl l := by
  unfold tl; cases b <;> simp
/-- going down from n: box n - 1 has none -/
theorem tl_take_pred (l : List Bool) (n : Nat) (hn : n < l.length) (h : l[n]? = some false) : tl (l.take (n + 1)) = tl (l.take n) := by
  rw [List.take_succ_eq_append_getElem hn, tl_snoc]
  have : l[n] = false := by rw [List.getElem?_eq_getElem hn] at h; simpa using h
  simp [this]
theorem tl_take_stop (l : List Bool) (n : Nat) (hn : n < l.length) (h : l[n]? = some true) : tl (l.take (n + 1)) = n + 1 := by
  rw [List.take_succ_eq_append_getElem hn, tl_snoc]
  have : l[n] = true := by rw [List.getElem?_eq_getElem hn] at h; simpa using h
  simp [this]; omega
theorem madeB (n : Nat) : (madeCells (Value.bool false).cells (n * 1)).toList = (List.replicate n false).map Value.bool := by
  rw [Nat.mul_one]; show (madeCells #[Value.bool false] n).toList = _; rw [toList_madeCells_one]; simp
theorem madeI (n : Nat) : (madeCells (Value.int .i64 0).cells (n * 1)).toList = (List.replicate n (0 : Int)).map (Value.int .i64) := by
  rw [Nat.mul_one]; show (madeCells #[Value.int .i64 0] n).toList = _; rw [toList_madeCells_one]; simp
end Go.Proofs.Ytkdhifofdghbbaa
