/- TEXTS Shape1. -/
import Derived.Test.Ytkdhifofdghbbabexc33
import Derived.Maps.AppendAt
/- THE WALKS of the model's l3Runs, ShapeRuns, ShapeApart. -/
namespace Go.Proofs.Ytkdhifofdghbbab
open Go.RowKit

/-- numbers as ints -/
def ni (l : List Nat) : List Int := l.map fun (x : Nat) => (x : Int)
theorem ni_length (l : List Nat) : (ni l).length = l.length := by simp [ni]
theorem ni_snoc (l : List Nat) (x : Nat) : ni (l ++ [x]) = ni l ++ [(x : Int)] := by simp [ni]
theorem ni_getElem (l : List Nat) (k : Nat) : (ni l)[k]? = l[k]?.map fun (x : Nat) => (x : Int) := by simp [ni]
theorem bits_drop (s : ByteArray) (k : Nat) (h : k < s.size) : (bits s).drop k = (s[k] == 49) :: (bits s).drop (k + 1) := by
  have hb : k < (bits s).length := by rw [length_bits]; exact h
  have e := bits_getElem s k h
  rw [List.getElem?_eq_getElem hb] at e
  simp only [Option.some.injEq] at e
  rw [List.drop_eq_getElem_cons hb, e]

/-- the loop of l3Runs, between two signs -/
def RunRel (s : ByteArray) (B : Nat) (w : World) (u v c d i : Value) (wr : World) : Prop :=
  ∃ (k n g : Nat) (R G : List Nat), k ≤ s.size ∧ i = .int .i64 (k : Int) ∧ c = .int .i64 (n : Int) ∧ d = .int .i64 (g : Int) ∧ n ≤ k ∧ g ≤ k ∧ R.length ≤ k ∧ G.length ≤ k ∧
    Hid (wr.ownsRow B 3 1 u R.length ((ni R).map (.int .i64))) ∧ Hid (wr.ownsRow B 3 1 v G.length ((ni G).map (.int .i64))) ∧ Hid (∀ x, u.ownBlock = some x → v.ownBlock ≠ some x) ∧
    Hid (rr (bits s) = rrF ((bits s).drop k) R G n g) ∧ Hid (Below B w wr) ∧ B ≤ wr.heap.size
theorem apart_ne {u v : Value} (h : ∀ x, u.ownBlock = some x → v.ownBlock ≠ some x) : (u.ownBlock = none ∨ u.ownBlock ≠ v.ownBlock) ∧ (v.ownBlock = none ∨ v.ownBlock ≠ u.ownBlock) := by
  cases hu : u.ownBlock with
  | none => refine ⟨.inl rfl, ?_⟩; cases hv : v.ownBlock with
            | none => exact .inl rfl
            | some y => exact .inr (fun e => by cases e)
  | some x => exact ⟨.inr (fun e => h x hu e.symm), .inr (fun e => h x hu e)⟩
theorem own_slice {w : World} {B e n : Nat} {v : Value} {xs : List Value} (h : w.ownsRow B e 1 v n xs) : ∃ a c, v = .slice a n c := by
  rcases h.2 with ⟨rfl, rfl⟩ | ⟨g, cap, cur, rfl, _⟩
  · exact ⟨_, _, rfl⟩
  · exact ⟨_, _, rfl⟩
/-- one number put behind the first row: the other one is kept -/
theorem rows_next {B e m : Nat} {u v u' : Value} {ys : List Value} {wr w1 : World} {o : Obj} (hv : wr.ownsRow B e 1 v m ys) (ha : ∀ x, u.ownBlock = some x → v.ownBlock ≠ some x)
    (hg : (wr.alloc o).grownBy w1 u.ownBlock) (hat : u'.ownBlock = u.ownBlock ∨ u'.ownBlock = some (wr.alloc o).heap.size) : w1.ownsRow B e 1 v m ys ∧ ∀ x, u'.ownBlock = some x → v.ownBlock ≠ some x := by
  refine ⟨(hv.alloc o).kept hg (apart_ne ha).2, ?_⟩
  intro x hx hvx
  rcases hat with h | h
  · exact ha x (h ▸ hx) hvx
  · rw [h] at hx
    injection hx with hx
    have := (hv.lt x hvx).2
    rw [World.size_alloc] at hx
    omega

/-- what ShapeRuns answers -/
def rnR (s : ByteArray) : List Int := if vld s then ni (rr (bits s)).1 else []
/-- what ShapeApart answers -/
def apOk (s : ByteArray) : Bool := vld s && apB (rr (bits s)).1 (rr (bits s)).2
theorem rr_len (l : List Bool) : (rr l).1.length ≤ l.length ∧ ((rr l).2 = [] ∨ (rr l).2.length + 1 = (rr l).1.length) ∧ ∀ x ∈ (rr l).1, x ≤ l.length := by
  obtain ⟨h1, h2, h3⟩ := runs_energy l
  refine ⟨by rw [h1]; exact tk_le _ _ _, ?_, ?_⟩
  · obtain ⟨g, ps, hg, rfl⟩ := blocks l
    rw [rr_blocks hg]
    cases ps with
    | nil => exact .inl rfl
    | cons p ps => exact .inr (by simp)
  · intro x hx
    have := mem_le_sum _ x hx
    rw [h2] at this
    have h4 : nballs l ≤ l.length := by unfold nballs; exact List.count_le_length
    omega

theorem apB_at {R G : List Nat} {k : Nat} (h : k < G.length) (hb : (decide (R.getD k 0 ≤ R.getD (k + 1) 0) && decide (R.getD k 0 ≤ G.getD k 0)) = false) : apB R G = false := by
  unfold apB
  rw [List.all_eq_false]
  exact ⟨k, by simpa using h, by rw [hb]; simp⟩
theorem apB_all {R G : List Nat} (h : ∀ k, k < G.length → (decide (R.getD k 0 ≤ R.getD (k + 1) 0) && decide (R.getD k 0 ≤ G.getD k 0)) = true) : apB R G = true := by
  unfold apB
  rw [List.all_eq_true]
  intro k hk
  exact h k (by simpa using hk)
theorem getD_some {l : List Nat} {k : Nat} (h : k < l.length) : l[k]? = some (l.getD k 0) := by
  rw [List.getD_eq_getElem?_getD, List.getElem?_eq_getElem h]; rfl

end Go.Proofs.Ytkdhifofdghbbab
