/- THE WALKS of the model's StepOf, StepTaken, StepLoads. -/
import Derived.Test.YtlfiipkbkhpmnacStep1
namespace Go.Proofs.Ytlfiipkbkhpmnac
open Go.RowKit

/-- what StepOf answers -/
def stOk (s : ByteArray) (room : Int) : Bool := vld s && roomOk room && decide (tl (stp room.toNat (bits s)) ≤ 120)
def stS (s : ByteArray) (room : Int) : ByteArray := if stOk s room then ofBits (cut (stp room.toNat (bits s))) else ByteArray.empty
/-- what StepTaken answers -/
def tkOk (s : ByteArray) (room : Int) : Bool := vld s && roomOk room
def tkN (s : ByteArray) (room : Int) : Int := if tkOk s room then (tk room.toNat (bx (bits s)) s.size : Int) else 0
/-- what StepLoads answers -/
def ldOk (s : ByteArray) (room : Int) : Bool := vld s && decide (tl (bits s) = s.size) && roomOk room
def ldR (s : ByteArray) (room : Int) : List Int := if ldOk s room then ldsU room.toNat (bx (bits s)) (s.size + 1) else []

theorem room_nat {room : Int} (h : roomOk room = true) : ∃ K : Nat, room = (K : Int) ∧ 1 ≤ K ∧ K ≤ 200 ∧ room.toNat = K := by
  unfold roomOk at h; simp at h
  exact ⟨room.toNat, by omega, by omega, by omega, rfl⟩

/-- a text of a row that a step made -/
theorem stp_text {K : Nat} {l : List Bool} {x : ByteArray} (h : x.data.toList = chars (stp K l)) : allSgn x.data.toList = true ∧ bits x = stp K l ∧ tidyS x = ofBits (cut (stp K l)) ∧ x.size = fin K l := by
  have h1 : allSgn x.data.toList = true := by rw [h]; exact chars_sgn _
  have h2 := bits_chars _ x h
  refine ⟨h1, h2, by rw [← tidyS_eq x h1, h2], ?_⟩
  have := congrArg List.length h
  rw [chars_length, stp_length] at this
  exact this

theorem done_stp (s : ByteArray) (K : Nat) (hs : fin K (bits s) ≤ 1000) (x : ByteArray) (h : x.data.toList = chars (stp K (bits s))) (w : World) :
    Calls Try.prog 41 #[.string x] w fun e w' => e = .returned (.tuple #[.string (if tl (stp K (bits s)) ≤ 120 then ofBits (cut (stp K (bits s))) else ByteArray.empty), .bool (decide (tl (stp K (bits s)) ≤ 120))]) ∧ w = w' := by
  obtain ⟨t1, t2, t3, t4⟩ := stp_text h
  have := l1Done_any x w (by omega) t1
  rw [t2, t3] at this
  exact this

set_option maxHeartbeats 1000000 in
theorem specStepOf_any (s : ByteArray) (room : Int) (w : World) (hs : s.size ≤ maxLen) :
    Calls Try.prog 43 #[.string s, .int .i64 room] w fun e w' => e = .returned (.tuple #[.string (stS s room), .bool (stOk s room)]) ∧ Below w.heap.size w w' := by
  cases hv : vld s
  · have e1 : stOk s room = false := by simp [stOk, hv]
    have e2 : stS s room = ByteArray.empty := by simp [stS, e1]
    rw [e1, e2]
    clear e1 e2
    go_enter Try.func43, Try.ntmps43
    go_wp2_with (go_at_call 27; refine (specRowValid_any _ _ hs).mono ?_; rintro e w' ⟨rfl, rfl⟩)
    go_ret2
    exact ⟨rfl, Below.refl _ _⟩
  · have h120 := vld_le s hv
    have C0 := hide (fun w => l2Room_any room w)
    cases hr : roomOk room
    · have e1 : stOk s room = false := by simp [stOk, hr]
      have e2 : stS s room = ByteArray.empty := by simp [stS, e1]
      rw [hr] at C0
      rw [e1, e2]
      clear e1 e2
      go_enter Try.func43, Try.ntmps43
      go_wp2_with (first | (go_at_call 27; refine (specRowValid_any _ _ hs).mono ?_; rintro e w' ⟨rfl, rfl⟩) | (go_at_call 59; refine (C0.out _).mono ?_; rintro e w' ⟨rfl, rfl⟩))
      go_ret2
      exact ⟨rfl, Below.refl _ _⟩
    · have e1 : stOk s room = decide (tl (stp room.toNat (bits s)) ≤ 120) := by simp [stOk, hv, hr]
      have e2 : stS s room = if tl (stp room.toNat (bits s)) ≤ 120 then ofBits (cut (stp room.toNat (bits s))) else ByteArray.empty := by
        unfold stS; rw [e1]; simp
      rw [e1, e2]
      rw [hr] at C0
      obtain ⟨K, rfl, hK1, hK2, hK3⟩ := room_nat hr
      rw [hK3]
      clear e1 e2 hr hK3
      have hfin := fin_le K (bits s)
      rw [length_bits] at hfin
      have C1 := hide (fun w => l2Step_any s K w h120 ⟨hK1, hK2⟩)
      have C2 := hide (done_stp s K (by omega))
      obtain ⟨y, hy⟩ : ∃ y, y = (if tl (stp K (bits s)) ≤ 120 then ofBits (cut (stp K (bits s))) else ByteArray.empty) := ⟨_, rfl⟩
      obtain ⟨b, hb0⟩ : ∃ b, b = decide (tl (stp K (bits s)) ≤ 120) := ⟨_, rfl⟩
      rw [← hy, ← hb0] at C2 ⊢
      clear hy hb0
      go_enter Try.func43, Try.ntmps43
      go_wp2_with (first | (go_at_call 27; refine (specRowValid_any _ _ hs).mono ?_; rintro e w' ⟨rfl, rfl⟩) | (go_at_call 59; refine (C0.out _).mono ?_; rintro e w' ⟨rfl, rfl⟩))
      refine (C1.out _).mono ?_
      rintro e w1 ⟨x, v, rfl, hx, hi, hb⟩
      have C2x := hide (C2.out x hx)
      clear C2 C1 hx hi
      go_wp2_with (go_at_call 41; refine (C2x.out _).mono ?_; rintro e w' ⟨rfl, rfl⟩)
      go_ret2
      exact ⟨rfl, hb⟩

theorem IntsV.some {lo : Nat} {w : World} {v : Value} {l : List Int} (h : IntsV lo w v l) (hl : 0 < l.length) : ∃ g cap, v = .slice (some ⟨g, 0, none⟩) l.length cap ∧ l.length ≤ cap ∧ lo ≤ g ∧ g < w.heap.size ∧ CellsAt w g (l.map (.int .i64)) := by
  rcases h with ⟨a, cap, rfl, rfl⟩ | h
  · simp at hl
  · exact h

end Go.Proofs.Ytlfiipkbkhpmnac
