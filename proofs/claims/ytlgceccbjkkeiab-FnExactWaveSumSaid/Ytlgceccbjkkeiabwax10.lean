/- TEXTS Carrier. -/
import Derived.Test.Ytlgceccbjkkeiabwax09
import Derived.Test.Ytlgceccbjkkeiabwax04
import Derived.Deep.QuietTactic
import Derived.BigQuiet
/- THE WALKS of newCarrier, of the closure that it makes, and of carry. -/
namespace Go.Proofs.Ytlgceccbjkkeiab
open Go.RowKit

theorem drewN_grown (w : World) (k : Nat) (r : Option Nat) : w.grownBy (w.drewN k) r := ⟨rfl, rfl, rfl, Nat.le_refl _, fun _ _ _ => rfl⟩
theorem set_grown (w : World) (g : Nat) (v : Value) (k : Nat) : w.grownBy ((w.setCell ⟨g, 0, none⟩ v).drewN k) (some g) :=
  ⟨rfl, rfl, rfl, by show w.heap.size ≤ (World.setCell _ _ _).heap.size; simp [World.setCell], fun j _ hj => heap_setCell_other w ⟨g, 0, none⟩ j _ (fun e => hj (by simp [e]))⟩

/-- what the carrier leaves: the box, and its load in its own block -/
def Carried (w : World) (gl : Nat) (K : Nat) (b : Bool) (u : Nat) (e : Ending) (w' : World) : Prop :=
  e = .returned (.tuple #[.bool (ot K b u), .int .i64 (nx K b u : Int)]) ∧ w.grownBy w' (some gl) ∧ w'.heap.size = w.heap.size ∧ w'.cell? ⟨gl, 0, none⟩ = some (.int .i64 (nx K b u : Int)) ∧ w'.frozen? ⟨gl, 0, none⟩ = false

theorem carried_set {w : World} {gl K u : Nat} {b : Bool} {v : Bool} {n : Int} (hc : w.cell? ⟨gl, 0, none⟩ = some (.int .i64 (u : Int))) (hf : w.frozen? ⟨gl, 0, none⟩ = false) (h1 : ot K b u = v) (h2 : (nx K b u : Int) = n) (k : Nat) :
    Carried w gl K b u (.returned (.tuple #[.bool v, .int .i64 n])) ((w.setCell ⟨gl, 0, none⟩ (.int .i64 n)).drewN k) := by
  refine ⟨by rw [h1, h2], set_grown w gl _ k, ?_, ?_, ?_⟩
  · show (World.setCell _ _ _).heap.size = _; simp [World.setCell]
  · show (World.setCell _ _ _).cell? _ = _; rw [World.cell?_setCell_same' _ _ _ (by rw [hc]; rfl), h2]
  · show (World.setCell _ _ _).frozen? _ = _; rw [World.frozen?_setCell]; exact hf
theorem carried_same {w : World} {gl K u : Nat} {b : Bool} {v : Bool} (hc : w.cell? ⟨gl, 0, none⟩ = some (.int .i64 (u : Int))) (hf : w.frozen? ⟨gl, 0, none⟩ = false) (h1 : ot K b u = v) (h2 : nx K b u = u) (k : Nat) :
    Carried w gl K b u (.returned (.tuple #[.bool v, .int .i64 (u : Int)])) (w.drewN k) :=
  ⟨by rw [h1, h2], drewN_grown w k _, rfl, by rw [h2]; exact hc, hf⟩

theorem own_ne {w : World} {b e size n : Nat} {v : Value} {xs : List Value} (h : w.ownsRow (b + 1) e size v n xs) : v.ownBlock = none ∨ v.ownBlock ≠ some b := by
  cases hv : v.ownBlock with
  | none => exact .inl rfl
  | some k => exact .inr (fun e => by have := (h.lt k hv).1; injection e with e; omega)
theorem own_apart {w : World} {base base' e e' size size' n n' : Nat} {v v' : Value} {xs xs' : List Value} (h : w.ownsRow base e size v n xs) (h' : w.ownsRow base' e' size' v' n' xs') (hne : e ≠ e') : v.ownBlock = none ∨ v.ownBlock ≠ v'.ownBlock := by
  rcases h.2 with ⟨rfl, _⟩ | ⟨g, cap, cur, rfl, hb, hg, _⟩
  · exact .inl rfl
  · refine .inr (fun he => ?_)
    rcases h'.2 with ⟨rfl, _⟩ | ⟨g', cap', cur', rfl, hb', hg', _⟩
    · simp [Value.ownBlock] at he
    · simp [Value.ownBlock] at he
      subst he
      rw [hg] at hg'
      simp at hg'
      exact hne hg'.2

/-- the value is a row of these boxes: nil, or at the head of a block of its own from lo on -/
def BoolsV (lo : Nat) (w : World) (v : Value) (l : List Bool) : Prop :=
  ∃ y g cap, v = .slice y l.length cap ∧ (0 < l.length → y = some ⟨g, 0, none⟩) ∧ CellsAt w g (l.map .bool) ∧ l.length ≤ cap ∧ cap ≤ maxLen ∧ lo ≤ g
theorem BoolsV.of_owns {w : World} {base e n : Nat} {v : Value} {l : List Bool} (h : w.ownsRow base e 1 v n (l.map .bool)) : BoolsV base w v l := by
  have hl : l.length = n := by have := h.1; simpa using this
  rcases h.2 with ⟨rfl, h0⟩ | ⟨g, cap, cur, rfl, hb, hg, hnc, hcm, hcs, htake⟩
  · obtain rfl : l = [] := List.eq_nil_of_length_eq_zero (by omega)
    exact ⟨none, base, 0, rfl, fun h => by simp at h, fun j v hv => by simp at hv, Nat.le_refl _, by unfold maxLen; omega, Nat.le_refl _⟩
  · exact ⟨_, g, cap, by rw [hl], fun _ => rfl, CellsAt.of_owns h, by omega, hcm, hb⟩

theorem BoolsV.mono {lo lo' : Nat} {w : World} {v : Value} {l : List Bool} (h : BoolsV lo w v l) (hl : lo' ≤ lo) : BoolsV lo' w v l := by
  obtain ⟨y, g, cap, h1, h2, h3, h4, h5, h6⟩ := h
  exact ⟨y, g, cap, h1, h2, h3, h4, h5, by omega⟩
/-- the loop of carry, between two boxes -/
def CarryRel (w : World) (B K : Nat) (l : List Bool) (p u ls i : Value) (wr : World) : Prop :=
  ∃ k : Nat, k ≤ fin K l ∧ i = .int .i64 (k : Int) ∧ u = .int .i64 (ld K (bx l) k : Int) ∧
    Hid (wr.ownsRow (B + 1 + 1) 4 1 p k ((stpU K (bx l) k).map .bool)) ∧ Hid (wr.ownsRow (B + 1 + 1) 3 1 ls (k + 1) ((ldsU K (bx l) (k + 1)).map (.int .i64))) ∧
    Hid (wr.cell? ⟨B + 1, 0, none⟩ = some (.int .i64 (ld K (bx l) k : Int)) ∧ wr.frozen? ⟨B + 1, 0, none⟩ = false ∧ wr.cell? ⟨B, 0, none⟩ = some (.int .i64 (K : Int))) ∧
    Hid (Below B w wr) ∧ B + 2 ≤ wr.heap.size

theorem frozen_far {w w' : World} {row : Option Nat} {a : Addr} {v : Value} (hg : w.grownBy w' row) (hc : w.cell? a = some v) (hne : some a.block ≠ row) : w'.frozen? a = w.frozen? a :=
  World.frozen?_of_block (hg.block _ (World.block_lt_of_cell? w a hc) hne)

theorem one_of_bool (x : Bool) : ∀ u ∈ [Value.bool x], u.oneCell' = true := by intro u hu; simp at hu; subst hu; rfl

end Go.Proofs.Ytlgceccbjkkeiab
