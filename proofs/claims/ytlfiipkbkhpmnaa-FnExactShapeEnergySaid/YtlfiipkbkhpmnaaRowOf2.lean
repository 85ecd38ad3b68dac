/- THE WALKS of RowOf, of the model and of the program. -/
import Derived.Test.YtlfiipkbkhpmnaaRowOf
namespace Go.Proofs.Ytlfiipkbkhpmnaa
open Go.RowKit

theorem l6In_any (n low high : Int) (b : Bool) (w : World) (hb : (decide (low ≤ n) && decide (n ≤ high)) = b) :
    Calls Try.prog 34 #[.int .i64 n, .int .i64 low, .int .i64 high] w fun e w' => e = .returned (.bool b) ∧ w = w' := by
  by_cases h1 : low ≤ n
  · by_cases h2 : n ≤ high
    · obtain rfl : true = b := by rw [← hb]; simp [h1, h2]
      clear hb
      go_enter Try.func34, Try.ntmps34
      go_wp2
      go_ret
      exact ⟨rfl, rfl⟩
    · obtain rfl : false = b := by rw [← hb]; simp [h2]
      clear hb
      go_enter Try.func34, Try.ntmps34
      go_wp2
      go_ret
      exact ⟨rfl, rfl⟩
  · obtain rfl : false = b := by rw [← hb]; simp [h1]
    clear hb
    go_enter Try.func34, Try.ntmps34
    go_wp2
    go_ret
    exact ⟨rfl, rfl⟩

theorem chars_snoc (h : List Bool) (k : Nat) (b : Bool) (hb : h[k]? = some b) : chars (h.take (k + 1)) = chars (h.take k) ++ [if b then 49 else 48] := by
  obtain ⟨hk, he⟩ := List.getElem?_eq_some_iff.1 hb
  rw [List.take_succ_eq_append_getElem hk, he]; simp [chars]
theorem chars_length (h : List Bool) : (chars h).length = h.length := by simp [chars]
theorem chars_sgn (h : List Bool) : allSgn (chars h) = true := by
  unfold allSgn chars
  rw [List.all_map, List.all_eq_true]
  intro b _
  cases b <;> rfl
theorem bits_chars (h : List Bool) (x : ByteArray) (hx : x.data.toList = chars h) : bits x = h := by
  unfold bits
  rw [hx]; unfold chars
  rw [List.map_map]
  have : h.map ((fun x : UInt8 => x == 49) ∘ fun b => if b = true then 49 else 48) = h.map id := by
    apply List.map_congr_left
    intro b _
    cases b <;> rfl
  rw [this, List.map_id]

/-- the loop of RowOf, between two rounds -/
def OfRel (w : World) (q b : Nat) (l : List Int) (i : Value) (wr : World) : Prop :=
  ∃ (k : Nat) (h : List Bool), k ≤ l.length ∧ i = .int .i64 (k : Int) ∧ Hid (h.length = 120) ∧ Hid (ofR none120 l = ofR h (l.drop k)) ∧ Hid (CellsAt wr q (h.map .bool)) ∧ Hid (CellsAt wr b (l.map (.int .i64))) ∧ Hid (Below q w wr)

theorem drop_at (l : List Int) (k : Nat) (x : Int) (hx : l[k]? = some x) : l.drop k = x :: l.drop (k + 1) := by
  obtain ⟨hk, he⟩ := List.getElem?_eq_some_iff.1 hx
  rw [List.drop_eq_getElem_cons hk, he]

end Go.Proofs.Ytlfiipkbkhpmnaa
