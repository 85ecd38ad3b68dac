/- THE WALKS of RowTurned, of the model and of the program, and of its exact law. -/
import Derived.Test.YtaonngmjfemadabReverse
namespace Go.Proofs.Ytaonngmjfemadab
open Go.RowKit

/-- the boxes up to the last ball in the opposite order, up to the last ball -/
def turnB (l : List Bool) : List Bool := cut (cut l).reverse
def turnS (s : ByteArray) : ByteArray := if vld s then ofBits (turnB (bits s)) else ByteArray.empty

theorem sub_toList (t : ByteArray) (k : Nat) (h : k < t.size) : (t.extract k (k + 1)).data.toList = [t[k]] := by
  rw [Lib.extract_data, show k + 1 - k = 1 by omega, List.drop_eq_getElem_cons (by simpa using h)]
  simp
  rfl

set_option maxHeartbeats 400000 in
theorem specRowTurned_any (s : ByteArray) (w : World) (hs : s.size ≤ maxLen) :
    Calls Try.prog 15 #[.string s] w fun e w' => e = .returned (.tuple #[.string (turnS s), .bool (vld s)]) ∧ w = w' := by
  unfold turnS
  cases hv : vld s
  · go_enter Try.func15, Try.ntmps15
    go_wp2_with (go_at_call 28; refine (specRowValid_any _ _ hs).mono ?_; rintro e w' ⟨rfl, rfl⟩)
    go_ret2
    exact ⟨rfl, rfl⟩
  · have h120 := vld_le s hv
    have hg := vld_sgn s hv
    have C := hide (fun w => l1Tidy_any s w hs hg)
    have ht1 : (tidyS s).size ≤ 120 := by have : (tidyS s).size ≤ s.size := by unfold tidyS; simp; omega
                                          omega
    have hbt : bits (tidyS s) = cut (bits s) := by
      unfold bits cut tidyS
      rw [Lib.extract_data]
      simp [bits]
    have hat : allSgn (tidyS s).data.toList = true := by
      have hl : (tidyS s).data.toList = s.data.toList.take (tl (bits s)) := by
        unfold tidyS
        rw [Lib.extract_data]
        simp
      rw [hl]
      unfold allSgn at hg ⊢
      rw [List.all_eq_true] at hg ⊢
      exact fun c hc => hg c (List.mem_of_mem_take hc)
    have fin : ∀ out : ByteArray, out.data.toList = (tidyS s).data.toList.reverse → out.size ≤ maxLen ∧ allSgn out.data.toList = true ∧ tidyS out = ofBits (turnB (bits s)) := by
      intro out ho
      have hz : out.size = (tidyS s).size := by have := congrArg List.length ho; simpa using this
      have ha : allSgn out.data.toList = true := by
        rw [ho]; unfold allSgn at hat ⊢
        rw [List.all_eq_true] at hat ⊢
        exact fun c hc => hat c (List.mem_reverse.1 hc)
      refine ⟨by rw [hz]; unfold maxLen; omega, ha, ?_⟩
      rw [← tidyS_eq out ha]
      have hb : bits out = (cut (bits s)).reverse := by
        rw [← hbt]; unfold bits; rw [ho, List.map_reverse]
      rw [hb]; rfl
    have FIN := hide fin
    obtain ⟨t, ht⟩ : ∃ t, t = tidyS s := ⟨_, rfl⟩
    rw [← ht] at C FIN ht1
    clear ht fin hbt hat
    go_enter Try.func15, Try.ntmps15
    go_wp2_with (first | (go_at_call 28; refine (specRowValid_any _ _ hs).mono ?_; rintro e w' ⟨rfl, rfl⟩) | (go_at_call 25; refine (C.out _).mono ?_; rintro e w' ⟨rfl, rfl⟩))
    go_loop [5, 6] (fun o i => ∃ (x : ByteArray) (k : Nat), k ≤ t.size ∧ o = .string x ∧ i = .int .i64 (k : Int) ∧ x.size ≤ k ∧ Hid (x.data.toList = (t.data.toList.take k).reverse)) (fun _ i => t.size - (intOf i).toNat)
    case atStart => exact ⟨⟨#[]⟩, 0, Nat.zero_le _, rfl, rfl, Nat.zero_le _, rfl⟩
    case round =>
      obtain ⟨x, k, hk, rfl, rfl, hxk, HX⟩ := hrel
      by_cases hlt : k < t.size
      · have HS := hide (sub_toList t k hlt)
        have HT := hide (take_snoc t k hlt)
        go_wp2
        go_round
        case rel =>
          have h1 : (t.extract k (k + 1)).size ≤ 1 := by simp; omega
          have h2 : ((t.extract k (k + 1)) ++ x).size ≤ k + 1 := by rw [ByteArray.size_append]; omega
          refine ⟨_, k + 1, by omega, rfl, by go_num, h2, ?_⟩
          show ((t.extract k (k + 1)) ++ x).data.toList = _
          rw [ByteArray.data_append, Array.toList_append, HS.out, HX.out, HT.out, List.reverse_append]; rfl
        case measure => simp [intOf]; omega
      · have HX2 := hide (show x.data.toList = t.data.toList.reverse by rw [HX.out, List.take_of_length_le (by simp; omega)])
        obtain ⟨f1, f2, f3⟩ := FIN.out x HX2.out
        have F3 := hide f3
        clear f3
        go_wp2_with (go_at_call 25; refine (l1Tidy_any x _ f1 f2).mono ?_; rintro e w' ⟨rfl, rfl⟩)
        rw [F3.out]
        go_ret2
        exact ⟨rfl, rfl⟩

set_option maxHeartbeats 400000 in
theorem implRowTurned_any (s : ByteArray) (w : World) (hs : s.size ≤ maxLen) :
    Calls Try.prog 16 #[.string s] w fun e w' => e = .returned (.tuple #[.string (turnS s), .bool (vld s)]) ∧ Below w.heap.size w w' := by
  unfold turnS
  cases hv : vld s
  · go_enter Try.func16, Try.ntmps16
    go_wp2_with (go_at_call 31; refine (readRow_no _ _ hs hv).mono ?_; rintro e w' ⟨rfl, rfl⟩)
    go_ret2
    exact ⟨rfl, Below.refl _ _⟩
  · have h120 := vld_le s hv
    have hle := tl_le (bits s)
    rw [length_bits] at hle
    have C1 := hide (fun w => readRow_yes s w hv)
    have HC := hide (cut_length (bits s))
    have HM := hide (cut_map (bits s))
    have HR := hide (show (cut (bits s)).reverse.length = tl (bits s) by rw [List.length_reverse, cut_length])
    obtain ⟨t, ht⟩ : ∃ t, t = tl (bits s) := ⟨_, rfl⟩
    rw [← ht] at hle C1 HC HM HR
    clear ht
    go_enter Try.func16, Try.ntmps16
    go_wp2_with fail
    refine (C1.out _).mono ?_
    rintro e w1 ⟨rfl, hb1, hc1, hz1⟩
    go_wp2_with fail
    refine (reverse_any w.heap.size t s.size w.heap.size (cut (bits s)) w1 HC.out (by omega) (Nat.le_refl _) (by rw [HM.out]; exact hc1.take t)).mono ?_
    rintro e w2 ⟨rfl, hb2, hc2⟩
    go_wp2_with fail
    refine (text_any _ t s.size (cut (bits s)).reverse w2 HR.out hc2 hle hs (by omega)).mono ?_
    rintro e w3 ⟨rfl, hb3⟩
    go_wp2_with fail
    go_ret2
    have hb12 := hb1.trans hb2
    exact ⟨rfl, hb12.trans (hb3.mono hb12.size)⟩

set_option maxHeartbeats 400000 in
theorem walkFnExactRowTurned (s : ByteArray) (hs : s.size ≤ maxLen) (w : World) :
    Calls Try.prog 5 #[.string s] w fun e w' => e = .returned (.bool true) ∧ Below w.heap.size w w' := by
  have hs' := hs
  unfold maxLen at hs'
  by_cases hbig : 1048576 < s.size
  · go_enter Try.func5, Try.ntmps5
    go_wp2
    go_ret
    exact ⟨rfl, Below.refl _ _⟩
  · have C0 := hide (fun w => specRowTurned_any s w hs)
    have C1 := hide (fun w => implRowTurned_any s w hs)
    obtain ⟨x, hx⟩ : ∃ x : ByteArray, x = turnS s := ⟨_, rfl⟩
    obtain ⟨b, hb⟩ : ∃ b : Bool, b = vld s := ⟨_, rfl⟩
    rw [← hx, ← hb] at C0 C1
    clear hx hb
    go_enter Try.func5, Try.ntmps5
    go_wp2_with (first | (go_at_call 15; refine (C0.out _).mono ?_; rintro e w1 ⟨rfl, rfl⟩) | (go_at_call 16; refine (C1.out _).mono ?_; rintro e w2 ⟨rfl, hb2⟩))
    go_ret
    exact ⟨rfl, hb2⟩
end Go.Proofs.Ytaonngmjfemadab
