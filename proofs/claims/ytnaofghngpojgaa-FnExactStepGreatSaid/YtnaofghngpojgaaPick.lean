/- A PICK IS NOT NEGATIVE: the walk of pick once more, with its value's bounds from below. -/
import Derived.Test.YtnaofghngpojgaaDraw
import Derived.Laws.BitsAllLaws
namespace Go.Proofs.Ytnaofghngpojgaa
open Go.RowKit

/-- what a pick leaves -/
def Picked2 (w : World) (R : Nat) (a : Option Addr) (len cap : Nat) (z : List Int) (p : Nat) (n : Int) (e : Ending) (w' : World) : Prop :=
  ∃ v : Int, e = .returned (.int .i64 v) ∧ 0 ≤ v ∧ v < n ∧ Rd w' R a len cap z (p + 1) ∧ Below R w w' ∧ w'.heap.size = w.heap.size ∧ w.grownBy w' (some R)

theorem picked2_next {w : World} {R : Nat} {a : Option Addr} {len cap : Nat} {z : List Int} {p : Nat} {n v : Int} (h : Rd w R a len cap z p) (h1 : 0 ≤ v) (h2 : v < n) (k : Nat) :
    Picked2 w R a len cap z p n (.returned (.int .i64 v)) ((w.setCell ⟨R, 1, none⟩ (.int .i64 ((p : Int) + 1))).drewN k) := by
  have e : ((p : Int) + 1) = ((p + 1 : Nat) : Int) := by omega
  rw [e]
  refine ⟨v, rfl, h1, h2, h.next.below ((Quiet.drewN k).2 (R + 1)) (Nat.lt_succ_self R), ?_, ?_, ?_⟩
  · exact ((Below.refl R w).setCell (Nat.le_refl _) _).trans ((Quiet.drewN k).2 R)
  · show (World.setCell _ _ _).heap.size = _; simp [World.setCell]
  · exact ⟨rfl, rfl, rfl, by show w.heap.size ≤ (World.setCell _ _ _).heap.size; simp [World.setCell], fun j _ hj => heap_setCell_other w ⟨R, 1, none⟩ j _ (fun e => hj (by simp [e]))⟩

theorem CellsAt.grown {w w' : World} {g R : Nat} {l : List Value} (h : CellsAt w g l) (hg : w.grownBy w' (some R)) (hne : g ≠ R) : CellsAt w' g l := by
  intro j v hv
  obtain ⟨a, b⟩ := h j v hv
  have hb := hg.block g (World.block_lt_of_cell? w _ a) (by intro e; injection e with e; exact hne e)
  exact ⟨(World.cell?_of_block (a := ⟨g, j, none⟩) hb).trans a, (World.frozen?_of_block (a := ⟨g, j, none⟩) hb).trans b⟩
theorem i64_xor_nat (a b : Nat) (ha : a < 9223372036854775808) (hb : b < 9223372036854775808) : Go.bits .xor .i64 (a : Int) (b : Int) = ((a ^^^ b : Nat) : Int) := by
  have hx : a ^^^ b < 2 ^ 63 := Nat.xor_lt_two_pow (by omega) (by omega)
  show IntKind.i64.wrap ((BitVec.ofInt 64 (a : Int) ^^^ BitVec.ofInt 64 (b : Int)).toNat : Int) = _
  rw [BitVec.toNat_xor, ofInt_u64 a (by omega), ofInt_u64 b (by omega), IntKind.wrap_i64]
  omega
theorem pick_nonneg (y1 y2 P D n : Int) (h1 : 0 ≤ y1 ∧ y1 ≤ 255) (h2 : 0 ≤ y2 ∧ y2 ≤ 255) (h3 : 0 ≤ P ∧ P ≤ 100000) (h4 : 0 ≤ D ∧ D ≤ 100000) (hn : 1 ≤ n) (X : Int)
    (hX : X = wrap64 (wrap64 (wrap64 (wrap64 (wrap64 y1 * 131) + wrap64 (wrap64 y2 * 1117)) + P * 29) + wrap64 (wrap64 D * 53))) :
    0 ≤ (Go.bits BinOp.xor IntKind.i64 X (wrap64 (X.tdiv 64))).tmod n ∧ (Go.bits BinOp.xor IntKind.i64 X (wrap64 (X.tdiv 64))).tmod n < n := by
  have e1 : wrap64 y1 = y1 := IntWalk.wrap64_in _ (by omega)
  have e2 : wrap64 y2 = y2 := IntWalk.wrap64_in _ (by omega)
  have e3 : wrap64 (y1 * 131) = y1 * 131 := IntWalk.wrap64_in _ (by omega)
  have e4 : wrap64 (y2 * 1117) = y2 * 1117 := IntWalk.wrap64_in _ (by omega)
  have e5 : wrap64 (y1 * 131 + y2 * 1117) = y1 * 131 + y2 * 1117 := IntWalk.wrap64_in _ (by omega)
  have e6 : wrap64 (y1 * 131 + y2 * 1117 + P * 29) = y1 * 131 + y2 * 1117 + P * 29 := IntWalk.wrap64_in _ (by omega)
  have e7 : wrap64 D = D := IntWalk.wrap64_in _ (by omega)
  have e8 : wrap64 (D * 53) = D * 53 := IntWalk.wrap64_in _ (by omega)
  have e9 : wrap64 (y1 * 131 + y2 * 1117 + P * 29 + D * 53) = y1 * 131 + y2 * 1117 + P * 29 + D * 53 := IntWalk.wrap64_in _ (by omega)
  rw [e1, e2, e3, e4, e5, e6, e7, e8, e9] at hX
  have hx0 : 0 ≤ X := by omega
  have hx1 : X ≤ 100000000 := by omega
  obtain ⟨x, rfl⟩ := Int.eq_ofNat_of_zero_le hx0
  have e10 : (x : Int).tdiv 64 = ((x / 64 : Nat) : Int) := rfl
  rw [e10, IntWalk.wrap64_in _ (by omega), i64_xor_nat x (x / 64) (by omega) (by omega)]
  exact ⟨Int.tmod_nonneg _ (by omega), Int.tmod_lt_of_pos _ (by omega)⟩

end Go.Proofs.Ytnaofghngpojgaa
