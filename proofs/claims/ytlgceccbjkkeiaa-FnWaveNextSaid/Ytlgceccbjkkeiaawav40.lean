/- TEXTS Pick, DrawR, Draw5. -/
import Derived.Test.Ytlgceccbjkkeiaawav05
import Derived.Laws.BitsAllLaws
import Derived.Test.Ytlgceccbjkkeiaawav14
import Derived.Maps.AppendAt
/- A PICK IS NOT NEGATIVE: the walk of pick once more, with its value's bounds from below. -/
namespace Go.Proofs.Ytlgceccbjkkeiaa
open Go.RowKit

/-- what a pick leaves -/
def Picked2 (w : World) (R : Nat) (a : Option Addr) (len cap : Nat) (z : List Int) (p : Nat) (n : Int) (e : Ending) (w' : World) : Prop :=
  ∃ v : Int, e = .returned (.int .i64 v) ∧ 0 ≤ v ∧ v < n ∧ Rd w' R a len cap z (p + 1) ∧ Below R w w' ∧ w'.heap.size = w.heap.size ∧ w.grownBy w' (some R)

theorem picked2_next {w : World} {R : Nat} {a : Option Addr} {len cap : Nat} {z : List Int} {p : Nat} {n v : Int} (h : Rd w R a len cap z p) (h1 : 0 ≤ v) (h2 : v < n) (k : Nat) :
    Picked2 w R a len cap z p n (.returned (.int .i64 v)) ((w.setCell ⟨R, 1, none⟩ (.int .i64 ((p : Int) + 1))).drewN k) := by
  have e : ((p : Int) + 1) = ((p + 1 : Nat) : Int) := by omega
  rw [e]
  refine ⟨v, rfl, h1, h2, h.next.below ((Quiet.drewN k).2 (R + 1)) (Nat.lt_succ_self R), ?_, ?_, ?_⟩
  · exact ((Below.refl R w).setCell (Nat.le_refl _) _).trans ((Quiet.drewN k).2 R)
  · show (World.setCell _ _ _).heap.size = _; simp [World.setCell]
  · exact ⟨rfl, rfl, rfl, by show w.heap.size ≤ (World.setCell _ _ _).heap.size; simp [World.setCell], fun j _ hj => heap_setCell_other w ⟨R, 1, none⟩ j _ (fun e => hj (by simp [e]))⟩

theorem CellsAt.grown {w w' : World} {g R : Nat} {l : List Value} (h : CellsAt w g l) (hg : w.grownBy w' (some R)) (hne : g ≠ R) : CellsAt w' g l := by
  intro j v hv
  obtain ⟨a, b⟩ := h j v hv
  have hb := hg.block g (World.block_lt_of_cell? w _ a) (by intro e; injection e with e; exact hne e)
  exact ⟨(World.cell?_of_block (a := ⟨g, j, none⟩) hb).trans a, (World.frozen?_of_block (a := ⟨g, j, none⟩) hb).trans b⟩
theorem i64_xor_nat (a b : Nat) (ha : a < 9223372036854775808) (hb : b < 9223372036854775808) : Go.bits .xor .i64 (a : Int) (b : Int) = ((a ^^^ b : Nat) : Int) := by
  have hx : a ^^^ b < 2 ^ 63 := Nat.xor_lt_two_pow (by omega) (by omega)
  show IntKind.i64.wrap ((BitVec.ofInt 64 (a : Int) ^^^ BitVec.ofInt 64 (b : Int)).toNat : Int) = _
  rw [BitVec.toNat_xor, ofInt_u64 a (by omega), ofInt_u64 b (by omega), IntKind.wrap_i64]
  omega
theorem pick_nonneg (y1 y2 P D n : Int) (h1 : 0 ≤ y1 ∧ y1 ≤ 255) (h2 : 0 ≤ y2 ∧ y2 ≤ 255) (h3 : 0 ≤ P ∧ P ≤ 100000) (h4 : 0 ≤ D ∧ D ≤ 100000) (hn : 1 ≤ n) (X : Int)
    (hX : X = wrap64 (wrap64 (wrap64 (wrap64 (wrap64 y1 * 131) + wrap64 (wrap64 y2 * 1117)) + P * 29) + wrap64 (wrap64 D * 53))) :
    0 ≤ (Go.bits BinOp.xor IntKind.i64 X (wrap64 (X.tdiv 64))).tmod n ∧ (Go.bits BinOp.xor IntKind.i64 X (wrap64 (X.tdiv 64))).tmod n < n := by
  have e1 : wrap64 y1 = y1 := IntWalk.wrap64_in _ (by omega)
  have e2 : wrap64 y2 = y2 := IntWalk.wrap64_in _ (by omega)
  have e3 : wrap64 (y1 * 131) = y1 * 131 := IntWalk.wrap64_in _ (by omega)
  have e4 : wrap64 (y2 * 1117) = y2 * 1117 := IntWalk.wrap64_in _ (by omega)
  have e5 : wrap64 (y1 * 131 + y2 * 1117) = y1 * 131 + y2 * 1117 := IntWalk.wrap64_in _ (by omega)
  have e6 : wrap64 (y1 * 131 + y2 * 1117 + P * 29) = y1 * 131 + y2 * 1117 + P * 29 := IntWalk.wrap64_in _ (by omega)
  have e7 : wrap64 D = D := IntWalk.wrap64_in _ (by omega)
  have e8 : wrap64 (D * 53) = D * 53 := IntWalk.wrap64_in _ (by omega)
  have e9 : wrap64 (y1 * 131 + y2 * 1117 + P * 29 + D * 53) = y1 * 131 + y2 * 1117 + P * 29 + D * 53 := IntWalk.wrap64_in _ (by omega)
  rw [e1, e2, e3, e4, e5, e6, e7, e8, e9] at hX
  have hx0 : 0 ≤ X := by omega
  have hx1 : X ≤ 100000000 := by omega
  obtain ⟨x, rfl⟩ := Int.eq_ofNat_of_zero_le hx0
  have e10 : (x : Int).tdiv 64 = ((x / 64 : Nat) : Int) := rfl
  rw [e10, IntWalk.wrap64_in _ (by omega), i64_xor_nat x (x / 64) (by omega) (by omega)]
  exact ⟨Int.tmod_nonneg _ (by omega), Int.tmod_lt_of_pos _ (by omega)⟩

set_option maxHeartbeats 1000000 in
theorem pick2_any (w : World) (R : Nat) (a : Option Addr) (len cap : Nat) (z : List Int) (p : Nat) (n : Int) (hrd : Rd w R a len cap z p) (hp : p ≤ 100000) (hn1 : 1 ≤ n) (hn2 : n ≤ 1000) :
    Calls Try.prog 47 #[.pointer (some ⟨R, 0, none⟩), .int .i64 n] w (Picked2 w R a len cap z p n) := by
  have hc0 := hrd.c0
  have hc1 := hrd.c1
  have hf1 := hrd.f1
  have hlen := hrd.len_le
  by_cases h0 : len = 0
  · subst h0
    have HR := hide hrd
    clear hrd
    go_enter Try.func47, Try.ntmps47
    go_wp2
    go_ret
    exact picked2_next HR.out (by omega) (by omega) 0
  · obtain ⟨b, off, rfl, hbR, hby⟩ := hrd.bytes (by omega)
    have HR := hide hrd
    have HB := hide hby
    clear hrd hby
    have l0 : ((len : Int) == 0) = false := beq_eq_false_iff_ne.2 (by omega)
    by_cases hpl : p < len
    · obtain ⟨hcell, hz0, hz1⟩ := HB.out p hpl
      obtain ⟨y, hy⟩ : ∃ y, y = z.getD p 0 := ⟨_, rfl⟩
      rw [← hy] at hcell hz0 hz1
      clear hy
      go_enter Try.func47, Try.ntmps47
      go_wp2
      go_ret
      have h1 := Int.emod_nonneg y (show n ≠ 0 by omega)
      have h2 := Int.emod_lt_of_pos y (show 0 < n by omega)
      exact picked2_next HR.out h1 h2 0
    · obtain ⟨i1, hi1⟩ : ∃ i, i = p % len := ⟨_, rfl⟩
      obtain ⟨i2, hi2⟩ : ∃ i, i = (p * 7 + 3) % len := ⟨_, rfl⟩
      have b1 : i1 < len := by rw [hi1]; exact Nat.mod_lt _ (by omega)
      have b2 : i2 < len := by rw [hi2]; exact Nat.mod_lt _ (by omega)
      have hcell1 := (HB.out i1 b1).1
      have hcell2 := (HB.out i2 b2).1
      have yb1 := hide (HB.out i1 b1).2
      have yb2 := hide (HB.out i2 b2).2
      obtain ⟨y1, hy1⟩ : ∃ y, y = z.getD i1 0 := ⟨_, rfl⟩
      obtain ⟨y2, hy2⟩ : ∃ y, y = z.getD i2 0 := ⟨_, rfl⟩
      rw [← hy1] at hcell1 yb1
      rw [← hy2] at hcell2 yb2
      have hd := hide (show 0 ≤ (p : Int) / (len : Int) ∧ (p : Int) / (len : Int) ≤ 100000 from ⟨Int.ediv_nonneg (by omega) (by omega), Int.le_trans (Int.ediv_le_self _ (by omega)) (by omega)⟩)
      have e1 : Int.tmod (p : Int) (len : Int) = (i1 : Int) := by rw [hi1]; rfl
      have e2 : Int.tmod ((p : Int) * 7 + 3) (len : Int) = (i2 : Int) := by
        rw [hi2, show ((p : Int) * 7 + 3) = ((p * 7 + 3 : Nat) : Int) by omega]; rfl
      have w1 : IntKind.i64.wrap ((p : Int) * 7) = (p : Int) * 7 := IntWalk.i64_in _ (by omega)
      have w2 : IntKind.i64.wrap ((p : Int) * 7 + 3) = (p : Int) * 7 + 3 := IntWalk.i64_in _ (by omega)
      have n1 : (0 : Int) ≤ (i1 : Int) := by omega
      have n2 : (0 : Int) ≤ (i2 : Int) := by omega
      have m1 : (i1 : Int) < (len : Int) := by omega
      have m2 : (i2 : Int) < (len : Int) := by omega
      clear hi1 hi2 hy1 hy2 b1 b2
      go_enter Try.func47, Try.ntmps47
      go_wp2
      go_quiet (fail)
      go_wp2
      go_ret
      have hf := pick_nonneg y1 y2 (p : Int) ((p : Int) / (len : Int)) n yb1.out yb2.out (by omega) hd.out hn1 _ rfl
      exact picked2_next HR.out hf.1 hf.2 _

end Go.Proofs.Ytlgceccbjkkeiaa

/- THE WALK of the drawing of a room. -/
namespace Go.Proofs.Ytlgceccbjkkeiaa
open Go.RowKit

theorem Bytes.below {w w' : World} {a : Option Addr} {len : Nat} {z : List Int} (h : Bytes w a len z) (hb : Below w.heap.size w w') : Bytes w' a len z := by
  intro h0
  obtain ⟨b, off, h1, h2, h3⟩ := h h0
  exact ⟨b, off, h1, Nat.lt_of_lt_of_le h2 hb.size, fun j hj => ⟨(hb.cell (p := ⟨b, off + j, none⟩) h2).trans (h3 j hj).1, (h3 j hj).2⟩⟩

/-- what the drawing of a room leaves -/
def DrawnRoom (w : World) (R : Nat) (a : Option Addr) (len cap : Nat) (z : List Int) (p : Nat) (e : Ending) (w' : World) : Prop :=
  ∃ (v : Int) (q : Nat), e = .returned (.int .i64 v) ∧ -1 ≤ v ∧ v ≤ 201 ∧ q ≤ p + 2 ∧ Rd w' R a len cap z q ∧ Below R w w' ∧ w.grownBy w' (some R)

theorem grown_cell {w w' : World} {R g j : Nat} {v : Value} (hg : w.grownBy w' (some R)) (hne : g ≠ R) (h : w.cell? ⟨g, j, none⟩ = some v) : w'.cell? ⟨g, j, none⟩ = some v :=
  (World.cell?_of_block (a := ⟨g, j, none⟩) (hg.block g (World.block_lt_of_cell? w _ h) (by intro e; injection e with e; exact hne e))).trans h
theorem lit3 (w : World) (t : TypeId) (p : Nat) (h : p < 3) : ∃ x : Int, -1 ≤ x ∧ x ≤ 201 ∧ (w.alloc (.cells #[.int .i64 0, .int .i64 201, .int .i64 (-1)] t)).cell? ⟨w.heap.size, p, none⟩ = some (.int .i64 x) := by
  rcases (show p = 0 ∨ p = 1 ∨ p = 2 by omega) with rfl | rfl | rfl
  · exact ⟨0, by omega, by omega, by rw [World.cell?_alloc_at _ _ _ _ rfl]; rfl⟩
  · exact ⟨201, by omega, by omega, by rw [World.cell?_alloc_at _ _ _ _ rfl]; rfl⟩
  · exact ⟨-1, by omega, by omega, by rw [World.cell?_alloc_at _ _ _ _ rfl]; rfl⟩
theorem lit6 (w : World) (t : TypeId) (p : Nat) (h : p < 6) : ∃ x : Int, -1 ≤ x ∧ x ≤ 201 ∧ (w.alloc (.cells #[.int .i64 1, .int .i64 2, .int .i64 3, .int .i64 4, .int .i64 5, .int .i64 200] t)).cell? ⟨w.heap.size, p, none⟩ = some (.int .i64 x) := by
  rcases (show p = 0 ∨ p = 1 ∨ p = 2 ∨ p = 3 ∨ p = 4 ∨ p = 5 by omega) with rfl | rfl | rfl | rfl | rfl | rfl
  · exact ⟨1, by omega, by omega, by rw [World.cell?_alloc_at _ _ _ _ rfl]; rfl⟩
  · exact ⟨2, by omega, by omega, by rw [World.cell?_alloc_at _ _ _ _ rfl]; rfl⟩
  · exact ⟨3, by omega, by omega, by rw [World.cell?_alloc_at _ _ _ _ rfl]; rfl⟩
  · exact ⟨4, by omega, by omega, by rw [World.cell?_alloc_at _ _ _ _ rfl]; rfl⟩
  · exact ⟨5, by omega, by omega, by rw [World.cell?_alloc_at _ _ _ _ rfl]; rfl⟩
  · exact ⟨200, by omega, by omega, by rw [World.cell?_alloc_at _ _ _ _ rfl]; rfl⟩

end Go.Proofs.Ytlgceccbjkkeiaa

/- THE WALKS of the drawing of a row and a room. -/
namespace Go.Proofs.Ytlgceccbjkkeiaa
open Go.RowKit

theorem ints_room {R : Nat} {w w' : World} {v : Value} {l : List Int} (h : IntsV (R + 1) w v l) (hg : w.grownBy w' (some R)) : IntsV (R + 1) w' v l := by
  rcases h with h | ⟨g, cap, rfl, h1, h2, h3, h4⟩
  · exact .inl h
  · exact .inr ⟨g, cap, rfl, h1, h2, Nat.lt_of_lt_of_le h3 hg.size, h4.grown hg (by omega)⟩
/-- what the drawing of a row and a room leaves -/
def DrawnGiven (w : World) (e : Ending) (w' : World) : Prop := ∃ (s : ByteArray) (n : Int), e = .returned (.tuple #[.string s, .int .i64 n]) ∧ s.size ≤ 300 ∧ -1 ≤ n ∧ n ≤ 201 ∧ Below w.heap.size w w'

/-- what the drawing of a row, a room and a number leaves -/
def DrawnMany (w : World) (e : Ending) (w' : World) : Prop := ∃ (s : ByteArray) (n m : Int), e = .returned (.tuple #[.string s, .int .i64 n, .int .i64 m]) ∧ s.size ≤ 300 ∧ -1 ≤ n ∧ n ≤ 201 ∧ -100 ≤ m ∧ m ≤ 100 ∧ Below w.heap.size w w'
theorem tdiv23 (v : Int) (h1 : 0 ≤ v) (h2 : v < 24) : 0 ≤ v.tdiv 23 ∧ v.tdiv 23 ≤ 1 := by
  rw [Int.tdiv_eq_ediv_of_nonneg h1]; omega

end Go.Proofs.Ytlgceccbjkkeiaa
