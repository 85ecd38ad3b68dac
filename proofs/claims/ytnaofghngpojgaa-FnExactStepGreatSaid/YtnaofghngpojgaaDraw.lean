/- THE WALKS of the drawing: the reader of a code, its picks; texts of signs. Of what is drawn it is only said how long it may be. -/
import Derived.Test.YtnaofghngpojgaaSpec1
import Derived.Deep.QuietTactic
import Derived.BigQuiet
namespace Go.Proofs.Ytnaofghngpojgaa
open Go.RowKit

/-- the reader at block R: its bytes lie below R, it has picked p times -/
structure Rd (w : World) (R : Nat) (a : Option Addr) (len cap : Nat) (z : List Int) (p : Nat) : Prop where
  c0 : w.cell? ⟨R, 0, none⟩ = some (.slice a len cap)
  c1 : w.cell? ⟨R, 1, none⟩ = some (.int .i64 (p : Int))
  f1 : w.frozen? ⟨R, 1, none⟩ = false
  len_le : len ≤ 2000
  bytes : 0 < len → ∃ b off, a = some ⟨b, off, none⟩ ∧ b < R ∧ (∀ j, j < len → w.cell? ⟨b, off + j, none⟩ = some (.int .u8 (z.getD j 0)) ∧ 0 ≤ z.getD j 0 ∧ z.getD j 0 ≤ 255)

theorem Rd.lt {w : World} {R : Nat} {a : Option Addr} {len cap : Nat} {z : List Int} {p : Nat} (h : Rd w R a len cap z p) : R < w.heap.size := World.block_lt_of_cell? w _ h.c0
theorem Rd.below {w w' : World} {R : Nat} {a : Option Addr} {len cap : Nat} {z : List Int} {p : Nat} (h : Rd w R a len cap z p) {B : Nat} (hb : Below B w w') (hR : R < B) : Rd w' R a len cap z p where
  c0 := (hb.cell (p := ⟨R, 0, none⟩) hR).trans h.c0
  c1 := (hb.cell (p := ⟨R, 1, none⟩) hR).trans h.c1
  f1 := (hb.frozen (p := ⟨R, 1, none⟩) hR).trans h.f1
  len_le := h.len_le
  bytes := fun h0 => by
    obtain ⟨b, off, e, hb1, hc⟩ := h.bytes h0
    exact ⟨b, off, e, hb1, fun j hj => ⟨(hb.cell (p := ⟨b, off + j, none⟩) (Nat.lt_trans hb1 hR)).trans (hc j hj).1, (hc j hj).2⟩⟩
theorem Rd.next {w : World} {R : Nat} {a : Option Addr} {len cap : Nat} {z : List Int} {p : Nat} (h : Rd w R a len cap z p) : Rd (w.setCell ⟨R, 1, none⟩ (.int .i64 ((p + 1 : Nat) : Int))) R a len cap z (p + 1) where
  c0 := by rw [World.cell?_setCell_other _ _ _ _ (by intro h; injection h with _ h2; cases h2)]; exact h.c0
  c1 := World.cell?_setCell_same' _ _ _ (by rw [h.c1]; rfl)
  f1 := by rw [World.frozen?_setCell]; exact h.f1
  len_le := h.len_le
  bytes := fun h0 => by
    obtain ⟨b, off, e, hb1, hc⟩ := h.bytes h0
    exact ⟨b, off, e, hb1, fun j hj => ⟨by rw [World.cell?_setCell_other _ _ _ _ (by intro h; injection h with h2 _; omega)]; exact (hc j hj).1, (hc j hj).2⟩⟩

/-- what a pick leaves -/
def Picked (w : World) (R : Nat) (a : Option Addr) (len cap : Nat) (z : List Int) (p : Nat) (n : Int) (e : Ending) (w' : World) : Prop :=
  ∃ v : Int, e = .returned (.int .i64 v) ∧ -n < v ∧ v < n ∧ Rd w' R a len cap z (p + 1) ∧ Below R w w' ∧ w'.heap.size = w.heap.size

theorem picked_next {w : World} {R : Nat} {a : Option Addr} {len cap : Nat} {z : List Int} {p : Nat} {n v : Int} (h : Rd w R a len cap z p) (h1 : -n < v) (h2 : v < n) (k : Nat) :
    Picked w R a len cap z p n (.returned (.int .i64 v)) ((w.setCell ⟨R, 1, none⟩ (.int .i64 ((p : Int) + 1))).drewN k) := by
  have e : ((p : Int) + 1) = ((p + 1 : Nat) : Int) := by omega
  rw [e]
  refine ⟨v, rfl, h1, h2, h.next.below ((Quiet.drewN k).2 (R + 1)) (Nat.lt_succ_self R), ?_, ?_⟩
  · exact ((Below.refl R w).setCell (Nat.le_refl _) _).trans ((Quiet.drewN k).2 R)
  · show (World.setCell _ _ _).heap.size = _; simp [World.setCell]

theorem tmod_bd (x n : Int) (h : 1 ≤ n) : -n < x.tmod n ∧ x.tmod n < n := by
  constructor
  · have := Int.tmod_lt_of_pos (-x) (show 0 < n by omega); rw [Int.neg_tmod] at this; omega
  · exact Int.tmod_lt_of_pos x (by omega)

theorem Rd.new (w : World) (a : Option Addr) (len cap : Nat) (z : List Int) (hlen : len ≤ 2000)
    (hby : 0 < len → ∃ b off, a = some ⟨b, off, none⟩ ∧ b < w.heap.size ∧ (∀ j, j < len → w.cell? ⟨b, off + j, none⟩ = some (.int .u8 (z.getD j 0)) ∧ 0 ≤ z.getD j 0 ∧ z.getD j 0 ≤ 255)) (t : TypeId) :
    Rd (w.alloc (.cells #[.slice a len cap, .int .i64 0] t)) w.heap.size a len cap z 0 where
  c0 := by rw [World.cell?_alloc_at _ _ _ _ rfl]; rfl
  c1 := by rw [World.cell?_alloc_at _ _ _ _ rfl]; rfl
  f1 := World.frozen?_alloc_at _ _ _ _ rfl
  len_le := hlen
  bytes := fun h0 => by
    obtain ⟨b, off, e, hb, hc⟩ := hby h0
    exact ⟨b, off, e, hb, fun j hj => ⟨by rw [World.cell?_alloc_past _ _ _ hb]; exact (hc j hj).1, (hc j hj).2⟩⟩

/-- a list n times -/
def rep {α : Type} (n : Nat) (l : List α) : List α := (List.replicate n l).flatten
theorem rep_zero {α : Type} (l : List α) : rep 0 l = [] := rfl
theorem rep_succ {α : Type} (n : Nat) (l : List α) : rep (n + 1) l = l ++ rep n l := by simp [rep, List.replicate_succ]
theorem rep_double {α : Type} (m : Nat) (l : List α) : rep (2 * m) l = rep m (l ++ l) := by
  induction m with
  | zero => rfl
  | succ m ih => rw [show 2 * (m + 1) = 2 * m + 1 + 1 by omega, rep_succ, rep_succ, rep_succ, ih, List.append_assoc]
theorem rep_length {α : Type} (n : Nat) (l : List α) : (rep n l).length = n * l.length := by simp [rep]

end Go.Proofs.Ytnaofghngpojgaa
