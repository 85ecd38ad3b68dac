/- THE WALKS of the model's StepOf, StepTaken, StepLoads. -/
import Derived.Test.YtnaofghngpojgacStep1
namespace Go.Proofs.Ytnaofghngpojgac
open Go.RowKit

/-- what StepOf answers -/
def stOk (s : ByteArray) (room : Int) : Bool := vld s && roomOk room && decide (tl (stp room.toNat (bits s)) ≤ 120)
def stS (s : ByteArray) (room : Int) : ByteArray := if stOk s room then ofBits (cut (stp room.toNat (bits s))) else ByteArray.empty
/-- what StepTaken answers -/
def tkOk (s : ByteArray) (room : Int) : Bool := vld s && roomOk room
def tkN (s : ByteArray) (room : Int) : Int := if tkOk s room then (tk room.toNat (bx (bits s)) s.size : Int) else 0
/-- what StepLoads answers -/
def ldOk (s : ByteArray) (room : Int) : Bool := vld s && decide (tl (bits s) = s.size) && roomOk room
def ldR (s : ByteArray) (room : Int) : List Int := if ldOk s room then ldsU room.toNat (bx (bits s)) (s.size + 1) else []

theorem room_nat {room : Int} (h : roomOk room = true) : ∃ K : Nat, room = (K : Int) ∧ 1 ≤ K ∧ K ≤ 200 ∧ room.toNat = K := by
  unfold roomOk at h; simp at h
  exact ⟨room.toNat, by omega, by omega, by omega, rfl⟩

/-- a text of a row that a step made -/
theorem stp_text {K : Nat} {l : List Bool} {x : ByteArray} (h : x.data.toList = chars (stp K l)) : allSgn x.data.toList = true ∧ bits x = stp K l ∧ tidyS x = ofBits (cut (stp K l)) ∧ x.size = fin K l := by
  have h1 : allSgn x.data.toList = true := by rw [h]; exact chars_sgn _
  have h2 := bits_chars _ x h
  refine ⟨h1, h2, by rw [← tidyS_eq x h1, h2], ?_⟩
  have := congrArg List.length h
  rw [chars_length, stp_length] at this
  exact this

theorem done_stp (s : ByteArray) (K : Nat) (hs : fin K (bits s) ≤ 1000) (x : ByteArray) (h : x.data.toList = chars (stp K (bits s))) (w : World) :
    Calls Try.prog 31 #[.string x] w fun e w' => e = .returned (.tuple #[.string (if tl (stp K (bits s)) ≤ 120 then ofBits (cut (stp K (bits s))) else ByteArray.empty), .bool (decide (tl (stp K (bits s)) ≤ 120))]) ∧ w = w' := by
  obtain ⟨t1, t2, t3, t4⟩ := stp_text h
  have := l1Done_any x w (by omega) t1
  rw [t2, t3] at this
  exact this

set_option maxHeartbeats 1000000 in
theorem specStepTaken_any (s : ByteArray) (room : Int) (w : World) (hs : s.size ≤ maxLen) :
    Calls Try.prog 12 #[.string s, .int .i64 room] w fun e w' => e = .returned (.tuple #[.int .i64 (tkN s room), .bool (tkOk s room)]) ∧ Below w.heap.size w w' := by
  cases hv : vld s
  · have e1 : tkOk s room = false := by simp [tkOk, hv]
    have e2 : tkN s room = 0 := by simp [tkN, e1]
    rw [e1, e2]
    clear e1 e2
    go_enter Try.func12, Try.ntmps12
    go_wp2_with (go_at_call 21; refine (specRowValid_any _ _ hs).mono ?_; rintro e w' ⟨rfl, rfl⟩)
    go_ret2
    exact ⟨rfl, Below.refl _ _⟩
  · have h120 := vld_le s hv
    have C0 := hide (fun w => l2Room_any room w)
    cases hr : roomOk room
    · have e1 : tkOk s room = false := by simp [tkOk, hr]
      have e2 : tkN s room = 0 := by simp [tkN, e1]
      rw [hr] at C0
      rw [e1, e2]
      clear e1 e2
      go_enter Try.func12, Try.ntmps12
      go_wp2_with (first | (go_at_call 21; refine (specRowValid_any _ _ hs).mono ?_; rintro e w' ⟨rfl, rfl⟩) | (go_at_call 23; refine (C0.out _).mono ?_; rintro e w' ⟨rfl, rfl⟩))
      go_ret2
      exact ⟨rfl, Below.refl _ _⟩
    · have e1 : tkOk s room = true := by simp [tkOk, hv, hr]
      have e2 : tkN s room = (tk room.toNat (bx (bits s)) s.size : Int) := by simp [tkN, e1]
      rw [e1, e2]
      rw [hr] at C0
      obtain ⟨K, rfl, hK1, hK2, hK3⟩ := room_nat hr
      rw [hK3]
      clear e1 e2 hr hK3
      have C1 := hide (fun w => l2Step_any s K w h120 ⟨hK1, hK2⟩)
      go_enter Try.func12, Try.ntmps12
      go_wp2_with (first | (go_at_call 21; refine (specRowValid_any _ _ hs).mono ?_; rintro e w' ⟨rfl, rfl⟩) | (go_at_call 23; refine (C0.out _).mono ?_; rintro e w' ⟨rfl, rfl⟩))
      refine (C1.out _).mono ?_
      rintro e w1 ⟨x, v, rfl, hx, hi, hb⟩
      clear C1 hx hi
      go_wp2
      go_ret2
      exact ⟨rfl, hb⟩

theorem IntsV.some {lo : Nat} {w : World} {v : Value} {l : List Int} (h : IntsV lo w v l) (hl : 0 < l.length) : ∃ g cap, v = .slice (some ⟨g, 0, none⟩) l.length cap ∧ l.length ≤ cap ∧ lo ≤ g ∧ g < w.heap.size ∧ CellsAt w g (l.map (.int .i64)) := by
  rcases h with ⟨a, cap, rfl, rfl⟩ | h
  · simp at hl
  · exact h

set_option maxHeartbeats 1000000 in
theorem specStepLoads_any (s : ByteArray) (room : Int) (w : World) (hs : s.size ≤ maxLen) :
    Calls Try.prog 8 #[.string s, .int .i64 room] w fun e w' => ∃ v, e = .returned (.tuple #[v, .bool (ldOk s room)]) ∧ IntsV w.heap.size w' v (ldR s room) ∧ Below w.heap.size w w' := by
  cases hv : vld s
  · have e1 : ldOk s room = false := by simp [ldOk, hv]
    have e2 : ldR s room = [] := by simp [ldR, e1]
    rw [e1, e2]
    clear e1 e2
    go_enter Try.func8, Try.ntmps8
    go_wp2_with (go_at_call 21; refine (specRowValid_any _ _ hs).mono ?_; rintro e w' ⟨rfl, rfl⟩)
    go_ret2
    exact ⟨_, rfl, .inl ⟨_, _, rfl, rfl⟩, (Below.refl _ _).alloc (Nat.le_refl _) _⟩
  · have hg := hide (vld_sgn s hv)
    have h120 := vld_le s hv
    have C0 := hide (fun w => l2Room_any room w)
    by_cases ht : tl (bits s) = s.size
    · have HT := hide (tidyS_self s ht)
      have c1 := fun w => (l1Tidy_any s w hs hg.out).mono (R' := fun e w' => e = .returned (.string s) ∧ w = w') (by rintro e w' ⟨rfl, h⟩; rw [HT.out]; exact ⟨rfl, h⟩)
      have CT := hide c1
      clear c1
      cases hr : roomOk room
      · have e1 : ldOk s room = false := by simp [ldOk, hr]
        have e2 : ldR s room = [] := by simp [ldR, e1]
        rw [hr] at C0
        rw [e1, e2]
        clear e1 e2
        go_enter Try.func8, Try.ntmps8
        go_wp2_with (first | (go_at_call 21; refine (specRowValid_any _ _ hs).mono ?_; rintro e w' ⟨rfl, rfl⟩) | (go_at_call 22; refine (CT.out _).mono ?_; rintro e w' ⟨rfl, rfl⟩) | (go_at_call 23; refine (C0.out _).mono ?_; rintro e w' ⟨rfl, rfl⟩))
        go_ret2
        exact ⟨_, rfl, .inl ⟨_, _, rfl, rfl⟩, (Below.refl _ _).alloc (Nat.le_refl _) _⟩
      · have e1 : ldOk s room = true := by simp [ldOk, hv, hr, ht]
        have e2 : ldR s room = ldsU room.toNat (bx (bits s)) (s.size + 1) := by simp [ldR, e1]
        rw [e1, e2]
        rw [hr] at C0
        obtain ⟨K, rfl, hK1, hK2, hK3⟩ := room_nat hr
        rw [hK3]
        clear e1 e2 hr hK3 ht
        have C1 := hide (fun w => l2Step_any s K w h120 ⟨hK1, hK2⟩)
        have HL := hide (lds_length K (bits s))
        have hf : s.size ≤ fin K (bits s) := by unfold fin; rw [length_bits]; omega
        have hf2 := fin_le K (bits s)
        rw [length_bits] at hf2
        go_enter Try.func8, Try.ntmps8
        go_wp2_with (first | (go_at_call 21; refine (specRowValid_any _ _ hs).mono ?_; rintro e w' ⟨rfl, rfl⟩) | (go_at_call 22; refine (CT.out _).mono ?_; rintro e w' ⟨rfl, rfl⟩) | (go_at_call 23; refine (C0.out _).mono ?_; rintro e w' ⟨rfl, rfl⟩))
        refine (C1.out _).mono ?_
        rintro e w1 ⟨x, v, rfl, hx, hi, hb⟩
        obtain ⟨g, cap, rfl, h1, h2, h3, h4⟩ := hi.some (by rw [HL.out]; omega)
        rw [HL.out] at h1
        have H4 := hide h4
        clear C1 hx h4 hi
        rw [HL.out]
        go_wp2
        go_ret2
        refine ⟨_, rfl, .inr ⟨g, cap, ?_, ?_, h2, h3, ?_⟩, hb⟩
        · rw [ldsU_length]; rfl
        · rw [ldsU_length]; omega
        · have := H4.out.take (s.size + 1)
          rw [← List.map_take] at this
          unfold lds at this
          rw [ldsU_take _ _ _ _ (by omega)] at this
          exact this
    · have e1 : ldOk s room = false := by simp [ldOk, ht]
      have e2 : ldR s room = [] := by simp [ldR, e1]
      rw [e1, e2]
      have HS := tidyS_size s
      have hne : ((tidyS s).toList == s.toList) = false := by
        rw [ByteArray.toList_eq, ByteArray.toList_eq]
        exact beq_eq_false_iff_ne.2 (fun e => ht (by rw [← HS]; have := congrArg List.length e; simpa using this))
      clear e1 e2 HS
      go_enter Try.func8, Try.ntmps8
      go_wp2_with (first | (go_at_call 21; refine (specRowValid_any _ _ hs).mono ?_; rintro e w' ⟨rfl, rfl⟩) | (go_at_call 22; refine (l1Tidy_any _ _ hs hg.out).mono ?_; rintro e w' ⟨rfl, rfl⟩))
      go_ret2
      exact ⟨_, rfl, .inl ⟨_, _, rfl, rfl⟩, (Below.refl _ _).alloc (Nat.le_refl _) _⟩
end Go.Proofs.Ytnaofghngpojgac
