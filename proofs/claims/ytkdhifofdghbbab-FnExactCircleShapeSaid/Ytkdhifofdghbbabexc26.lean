/- TEXTS Step2. -/
import Derived.Test.Ytkdhifofdghbbabexc25
/- THE WALKS of the model's StepOf, StepTaken, StepLoads. -/
namespace Go.Proofs.Ytkdhifofdghbbab
open Go.RowKit

/-- what StepOf answers -/
def stOk (s : ByteArray) (room : Int) : Bool := vld s && roomOk room && decide (tl (stp room.toNat (bits s)) ≤ 120)
def stS (s : ByteArray) (room : Int) : ByteArray := if stOk s room then ofBits (cut (stp room.toNat (bits s))) else ByteArray.empty
/-- what StepTaken answers -/
def tkOk (s : ByteArray) (room : Int) : Bool := vld s && roomOk room
def tkN (s : ByteArray) (room : Int) : Int := if tkOk s room then (tk room.toNat (bx (bits s)) s.size : Int) else 0
/-- what StepLoads answers -/
def ldOk (s : ByteArray) (room : Int) : Bool := vld s && decide (tl (bits s) = s.size) && roomOk room
def ldR (s : ByteArray) (room : Int) : List Int := if ldOk s room then ldsU room.toNat (bx (bits s)) (s.size + 1) else []

theorem room_nat {room : Int} (h : roomOk room = true) : ∃ K : Nat, room = (K : Int) ∧ 1 ≤ K ∧ K ≤ 200 ∧ room.toNat = K := by
  unfold roomOk at h; simp at h
  exact ⟨room.toNat, by omega, by omega, by omega, rfl⟩

/-- a text of a row that a step made -/
theorem stp_text {K : Nat} {l : List Bool} {x : ByteArray} (h : x.data.toList = chars (stp K l)) : allSgn x.data.toList = true ∧ bits x = stp K l ∧ tidyS x = ofBits (cut (stp K l)) ∧ x.size = fin K l := by
  have h1 : allSgn x.data.toList = true := by rw [h]; exact chars_sgn _
  have h2 := bits_chars _ x h
  refine ⟨h1, h2, by rw [← tidyS_eq x h1, h2], ?_⟩
  have := congrArg List.length h
  rw [chars_length, stp_length] at this
  exact this

theorem IntsV.some {lo : Nat} {w : World} {v : Value} {l : List Int} (h : IntsV lo w v l) (hl : 0 < l.length) : ∃ g cap, v = .slice (some ⟨g, 0, none⟩) l.length cap ∧ l.length ≤ cap ∧ lo ≤ g ∧ g < w.heap.size ∧ CellsAt w g (l.map (.int .i64)) := by
  rcases h with ⟨a, cap, rfl, rfl⟩ | h
  · simp at hl
  · exact h

end Go.Proofs.Ytkdhifofdghbbab
