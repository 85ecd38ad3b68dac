/- TEXTS RowOf. -/
import Derived.Test.Ytlgceccbjkkeiaawav04
import Derived.Test.Ytlgceccbjkkeiaawav05
import Derived.Test.Ytlgceccbjkkeiaawav06
/- THE WALKS of RowOf, of the model and of the program, and of its exact law. -/
namespace Go.Proofs.Ytlgceccbjkkeiaa
open Go.RowKit

/-- balls put into boxes one by one -/
def ofR : List Bool → List Int → Option (List Bool)
  | h, [] => some h
  | h, x :: r => if 0 ≤ x ∧ x < 120 ∧ h[x.toNat]? = some false then ofR (h.set x.toNat true) r else none
def none120 : List Bool := List.replicate 120 false
def ofS (l : List Int) : ByteArray := match ofR none120 l with | some h => ofBits (cut h) | none => ByteArray.empty
def ofOk (l : List Int) : Bool := (ofR none120 l).isSome
theorem ofR_bad (h : List Bool) (x : Int) (r : List Int) (hx : ¬ (0 ≤ x ∧ x < 120 ∧ h[x.toNat]? = some false)) : ofR h (x :: r) = none := by unfold ofR; rw [if_neg hx]
theorem ofR_good (h : List Bool) (x : Int) (r : List Int) (hx : 0 ≤ x ∧ x < 120 ∧ h[x.toNat]? = some false) : ofR h (x :: r) = ofR (h.set x.toNat true) r := by
  rw [ofR, if_pos hx]
theorem ofS_none {l : List Int} (h : ofR none120 l = none) : ofS l = ByteArray.empty ∧ ofOk l = false := by unfold ofS ofOk; rw [h]; exact ⟨rfl, rfl⟩
theorem ofS_some {l : List Int} {b : List Bool} (h : ofR none120 l = some b) : ofS l = ofBits (cut b) ∧ ofOk l = true := by unfold ofS ofOk; rw [h]; exact ⟨rfl, rfl⟩

end Go.Proofs.Ytlgceccbjkkeiaa

/- THE WALKS of RowOf, of the model and of the program. -/
namespace Go.Proofs.Ytlgceccbjkkeiaa
open Go.RowKit

theorem chars_snoc (h : List Bool) (k : Nat) (b : Bool) (hb : h[k]? = some b) : chars (h.take (k + 1)) = chars (h.take k) ++ [if b then 49 else 48] := by
  obtain ⟨hk, he⟩ := List.getElem?_eq_some_iff.1 hb
  rw [List.take_succ_eq_append_getElem hk, he]; simp [chars]
theorem chars_length (h : List Bool) : (chars h).length = h.length := by simp [chars]
theorem chars_sgn (h : List Bool) : allSgn (chars h) = true := by
  unfold allSgn chars
  rw [List.all_map, List.all_eq_true]
  intro b _
  cases b <;> rfl
theorem bits_chars (h : List Bool) (x : ByteArray) (hx : x.data.toList = chars h) : bits x = h := by
  unfold bits
  rw [hx]; unfold chars
  rw [List.map_map]
  have : h.map ((fun x : UInt8 => x == 49) ∘ fun b => if b = true then 49 else 48) = h.map id := by
    apply List.map_congr_left
    intro b _
    cases b <;> rfl
  rw [this, List.map_id]

/-- the loop of RowOf, between two rounds -/
def OfRel (w : World) (q b : Nat) (l : List Int) (i : Value) (wr : World) : Prop :=
  ∃ (k : Nat) (h : List Bool), k ≤ l.length ∧ i = .int .i64 (k : Int) ∧ Hid (h.length = 120) ∧ Hid (ofR none120 l = ofR h (l.drop k)) ∧ Hid (CellsAt wr q (h.map .bool)) ∧ Hid (CellsAt wr b (l.map (.int .i64))) ∧ Hid (Below q w wr)

theorem drop_at (l : List Int) (k : Nat) (x : Int) (hx : l[k]? = some x) : l.drop k = x :: l.drop (k + 1) := by
  obtain ⟨hk, he⟩ := List.getElem?_eq_some_iff.1 hx
  rw [List.drop_eq_getElem_cons hk, he]

end Go.Proofs.Ytlgceccbjkkeiaa

/- THE WALK of the exact law of RowOf. -/
namespace Go.Proofs.Ytlgceccbjkkeiaa
open Go.RowKit

/-- an argument that came in lies as it lay -/
theorem IsRow.below {k : IntKind} {w w' : World} {a : Option Addr} {len cap : Nat} {z : List Int} (h : IsRow k w a len cap z) (hb : Below w.heap.size w w') : IsRow k w' a len cap z := by
  rcases h with h | ⟨x, rfl, hl, hm, hz, hcell, hwz⟩
  · exact .inl h
  · refine .inr ⟨x, rfl, hl, hm, hz, fun i hi => ?_, hwz⟩
    have hc := hcell i hi
    have hlt := World.block_lt_of_cell? w _ hc
    exact (hb.cell hlt).trans hc
theorem IsRow.take_len {k : IntKind} {w : World} {a : Option Addr} {len cap : Nat} {z : List Int} (h : IsRow k w a len cap z) : (z.take len).length = len := by
  rcases h with ⟨_, rfl, _, rfl⟩ | ⟨x, rfl, hl, hm, hz, hcell, hwz⟩
  · rfl
  · rw [List.length_take]; omega

end Go.Proofs.Ytlgceccbjkkeiaa
