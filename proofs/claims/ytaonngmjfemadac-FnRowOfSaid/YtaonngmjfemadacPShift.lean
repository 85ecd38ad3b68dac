/- THE WALK of the law FnShift: shifted rows have shifted balls. -/
import Derived.Test.YtaonngmjfemadacPBalls
namespace Go.Proofs.Ytaonngmjfemadac
open Go.RowKit

theorem pos_pre (n : Nat) (m : List Bool) : pos (List.replicate n false ++ m) = (pos m).map (n + ·) := by
  unfold pos posU
  rw [List.length_append, List.length_replicate, List.range_add, List.filter_append]
  have h1 : (List.range n).filter (fun j => (List.replicate n false ++ m)[j]?.getD false) = [] := by
    rw [List.filter_eq_nil_iff]
    intro a ha
    have : a < n := by simpa using ha
    rw [List.getElem?_append_left (by simpa using this), List.getElem?_replicate]; simp [this]
  rw [h1, List.nil_append, List.filter_map]
  congr 1
  apply List.filter_congr
  intro j hj
  show (List.replicate n false ++ m)[n + j]?.getD false = _
  rw [List.getElem?_append_right (by simp), List.length_replicate, Nat.add_sub_cancel_left]
theorem posI_shB (n : Nat) (l : List Bool) : posI (shB n l) = (posI l).map fun x => x + (n : Int) := by
  unfold posI shB
  rw [pos_pre, pos_cut, List.map_map, List.map_map]
  apply List.map_congr_left
  intro j _
  show ((n + j : Nat) : Int) = (j : Int) + (n : Int)
  omega
theorem atR_shS (s : ByteArray) (n : Int) (h : shOk s n = true) : atR (shS s n) = (atR s).map fun x => x + n := by
  have hv : vld s = true := by unfold shOk at h; simp at h; exact h.1.1
  have hn : 0 ≤ n := by unfold shOk at h; simp at h; exact h.1.2
  obtain ⟨h1, h2⟩ := shS_facts s n h
  unfold atR
  rw [h1, hv, if_pos rfl, if_pos rfl, h2]
  by_cases h0 : tl (bits s) = 0
  · rw [if_pos h0]
    have e : posI (bits s) = [] := by
      unfold posI; rw [← pos_cut]
      have : cut (bits s) = [] := by unfold cut; rw [h0]; rfl
      rw [this]; rfl
    rw [e]; rfl
  · rw [if_neg h0, posI_shB]
    apply List.map_congr_left
    intro x _
    omega

/-- what the drawing of a row and a number leaves -/
def DrawnRowN (w : World) (e : Ending) (w' : World) : Prop := ∃ (s : ByteArray) (n : Int), e = .returned (.tuple #[.string s, .int .i64 n]) ∧ s.size ≤ 300 ∧ -1000 ≤ n ∧ n ≤ 1000 ∧ Below w.heap.size w w'
theorem tdiv15 (v : Int) (h1 : -16 < v) (h2 : v < 16) : -1 ≤ v.tdiv 15 ∧ v.tdiv 15 ≤ 1 := by
  rcases Int.lt_or_le v 0 with h | h
  · have e : v = -(-v) := by omega
    have h3 : (-v).tdiv 15 = (-v) / 15 := Int.tdiv_eq_ediv_of_nonneg (by omega)
    rw [e, Int.neg_tdiv, h3]; omega
  · rw [Int.tdiv_eq_ediv_of_nonneg h]; omega

/-- a value that is a slice of these numbers: its length; and its cells, where there are any -/
theorem IntsV.form {lo : Nat} {w : World} {v : Value} {l : List Int} (h : IntsV lo w v l) : ∃ a c, v = .slice a l.length c ∧ (0 < l.length → ∃ g, a = some ⟨g, 0, none⟩ ∧ CellsAt w g (l.map (.int .i64))) := by
  rcases h with ⟨a, c, rfl, rfl⟩ | ⟨g, c, rfl, _, _, _, hc⟩
  · exact ⟨a, c, rfl, fun h => by simp at h⟩
  · exact ⟨_, _, rfl, fun _ => ⟨g, rfl, hc⟩⟩

end Go.Proofs.Ytaonngmjfemadac
