/- THE WALK of the drawing of a room. -/
import Derived.Test.YtkdhifofdghbbaaDraw
import Derived.Test.YtkdhifofdghbbaaPick
namespace Go.Proofs.Ytkdhifofdghbbaa
open Go.RowKit

theorem Bytes.below {w w' : World} {a : Option Addr} {len : Nat} {z : List Int} (h : Bytes w a len z) (hb : Below w.heap.size w w') : Bytes w' a len z := by
  intro h0
  obtain ⟨b, off, h1, h2, h3⟩ := h h0
  exact ⟨b, off, h1, Nat.lt_of_lt_of_le h2 hb.size, fun j hj => ⟨(hb.cell (p := ⟨b, off + j, none⟩) h2).trans (h3 j hj).1, (h3 j hj).2⟩⟩

/-- what the drawing of a room leaves -/
def DrawnRoom (w : World) (R : Nat) (a : Option Addr) (len cap : Nat) (z : List Int) (p : Nat) (e : Ending) (w' : World) : Prop :=
  ∃ (v : Int) (q : Nat), e = .returned (.int .i64 v) ∧ -1 ≤ v ∧ v ≤ 201 ∧ q ≤ p + 2 ∧ Rd w' R a len cap z q ∧ Below R w w' ∧ w.grownBy w' (some R)

theorem grown_cell {w w' : World} {R g j : Nat} {v : Value} (hg : w.grownBy w' (some R)) (hne : g ≠ R) (h : w.cell? ⟨g, j, none⟩ = some v) : w'.cell? ⟨g, j, none⟩ = some v :=
  (World.cell?_of_block (a := ⟨g, j, none⟩) (hg.block g (World.block_lt_of_cell? w _ h) (by intro e; injection e with e; exact hne e))).trans h
theorem lit3 (w : World) (t : TypeId) (p : Nat) (h : p < 3) : ∃ x : Int, -1 ≤ x ∧ x ≤ 201 ∧ (w.alloc (.cells #[.int .i64 0, .int .i64 201, .int .i64 (-1)] t)).cell? ⟨w.heap.size, p, none⟩ = some (.int .i64 x) := by
  rcases (show p = 0 ∨ p = 1 ∨ p = 2 by omega) with rfl | rfl | rfl
  · exact ⟨0, by omega, by omega, by rw [World.cell?_alloc_at _ _ _ _ rfl]; rfl⟩
  · exact ⟨201, by omega, by omega, by rw [World.cell?_alloc_at _ _ _ _ rfl]; rfl⟩
  · exact ⟨-1, by omega, by omega, by rw [World.cell?_alloc_at _ _ _ _ rfl]; rfl⟩
theorem lit6 (w : World) (t : TypeId) (p : Nat) (h : p < 6) : ∃ x : Int, -1 ≤ x ∧ x ≤ 201 ∧ (w.alloc (.cells #[.int .i64 1, .int .i64 2, .int .i64 3, .int .i64 4, .int .i64 5, .int .i64 200] t)).cell? ⟨w.heap.size, p, none⟩ = some (.int .i64 x) := by
  rcases (show p = 0 ∨ p = 1 ∨ p = 2 ∨ p = 3 ∨ p = 4 ∨ p = 5 by omega) with rfl | rfl | rfl | rfl | rfl | rfl
  · exact ⟨1, by omega, by omega, by rw [World.cell?_alloc_at _ _ _ _ rfl]; rfl⟩
  · exact ⟨2, by omega, by omega, by rw [World.cell?_alloc_at _ _ _ _ rfl]; rfl⟩
  · exact ⟨3, by omega, by omega, by rw [World.cell?_alloc_at _ _ _ _ rfl]; rfl⟩
  · exact ⟨4, by omega, by omega, by rw [World.cell?_alloc_at _ _ _ _ rfl]; rfl⟩
  · exact ⟨5, by omega, by omega, by rw [World.cell?_alloc_at _ _ _ _ rfl]; rfl⟩
  · exact ⟨200, by omega, by omega, by rw [World.cell?_alloc_at _ _ _ _ rfl]; rfl⟩

end Go.Proofs.Ytkdhifofdghbbaa
