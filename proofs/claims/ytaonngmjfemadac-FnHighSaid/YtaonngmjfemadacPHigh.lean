/- THE WALK of the law FnHigh: high rows stay high behind empty boxes. -/
import Derived.Test.YtaonngmjfemadacRowHigh
import Derived.Test.YtaonngmjfemadacPBalls
import Derived.Test.YtaonngmjfemadacDraw4
namespace Go.Proofs.Ytaonngmjfemadac
open Go.RowKit

theorem levAt_pre (l : List Bool) (k : Nat) : levAt (List.replicate 1 false ++ l) (k + 1) = levAt l k + 1 := by
  unfold levAt
  have : nballs ((List.replicate 1 false ++ l).take (k + 1)) = nballs (l.take k) := by
    show nballs ((false :: l).take (k + 1)) = _
    rw [List.take_succ_cons]; unfold nballs; rw [List.count_cons]; simp
  rw [this]; omega
theorem lev_all (l : List Bool) : (lev l).all nn = true ↔ ∀ k, k ≤ l.length → 0 ≤ levAt l k := by
  unfold lev
  rw [List.all_map, List.all_eq_true]
  constructor
  · intro h k hk
    have := h k (by simp; omega)
    simpa [nn] using this
  · intro h k hk
    have hk2 : k < l.length + 1 := by simpa using hk
    simpa [nn] using h k (by omega)
theorem size_bits (s : ByteArray) : s.size = (bits s).length := (length_bits s).symm

/-- of a high row -/
theorem high_facts (s : ByteArray) (h : highB s = true) : vld s = true ∧ 2 * nballs (bits s) ≤ s.size ∧ (shOk s 1 = true → highB (shS s 1) = true) := by
  unfold highB at h
  rw [Bool.and_eq_true] at h
  obtain ⟨h1, h2⟩ := h
  have hr : levR s = lev (bits s) := by unfold levR; rw [h1]; rfl
  rw [hr, lev_all] at h2
  unfold levOk at h1
  rw [Bool.and_eq_true] at h1
  obtain ⟨hv, ht⟩ := h1
  have ht : tl (bits s) = s.size := of_decide_eq_true ht
  refine ⟨hv, ?_, ?_⟩
  · have := h2 s.size (by rw [length_bits]; exact Nat.le_refl _)
    unfold levAt at this
    rw [List.take_of_length_le (by rw [length_bits]; exact Nat.le_refl _)] at this
    omega
  · intro hk
    obtain ⟨g1, g2⟩ := shS_facts s 1 hk
    have hc : cut (bits s) = bits s := by unfold cut; rw [ht, List.take_of_length_le (by rw [length_bits]; exact Nat.le_refl _)]
    by_cases h0 : tl (bits s) = 0
    · rw [if_pos h0] at g2
      have hz : (shS s 1).size = 0 := by rw [size_bits, g2]; rfl
      have ho : levOk (shS s 1) = true := by unfold levOk; rw [g1, g2, hz]; rfl
      unfold highB levR
      rw [ho, if_pos rfl, g2]; rfl
    · rw [if_neg h0] at g2
      have hb : bits (shS s 1) = List.replicate 1 false ++ bits s := by rw [g2]; unfold shB; rw [hc]; rfl
      have hl : tl (bits (shS s 1)) = (bits (shS s 1)).length := by
        rw [hb, tl_pre, if_neg h0, ht, List.length_append, length_bits]; rfl
      have ho : levOk (shS s 1) = true := by unfold levOk; rw [g1, hl, size_bits]; simp
      unfold highB
      have hr2 : levR (shS s 1) = lev (bits (shS s 1)) := by unfold levR; rw [ho]; rfl
      rw [ho, hr2, Bool.true_and, lev_all]
      intro k hk2
      rw [hb] at hk2 ⊢
      cases k with
      | zero => rw [levAt_zero]; exact Int.le_refl _
      | succ k =>
        rw [levAt_pre]
        have := h2 k (by simp at hk2; omega)
        omega

set_option maxHeartbeats 1000000 in
theorem walkFnHigh {w : World} (a : Option Addr) (len cap : Nat) (z : List Int) (hr : IsRow .u8 w a len cap z) :
    Calls Try.prog 7 #[.slice a len cap] w fun e w' => e = .returned (.bool true) ∧ Below w.heap.size w w' := by
  have hcap := hr.le
  have hmax := hr.max
  unfold maxLen at hmax
  by_cases hbig : 1048576 < len
  · go_enter Try.func7, Try.ntmps7
    go_wp2
    go_ret
    exact ⟨rfl, Below.refl _ _⟩
  · have D := hide (DrawRowHigh_any a len cap z w (by omega) hcap hr.bytes)
    clear hr
    go_enter Try.func7, Try.ntmps7
    go_wp2_with fail
    refine D.out.mono ?_
    rintro e w1 ⟨s, rfl, hs, hb1⟩
    have hs' : s.size ≤ maxLen := by unfold maxLen; omega
    have C1 := hide (fun w => implRowHigh_any s w hs')
    have C0 := hide (fun w => specRowHigh_any s w hs')
    cases hv : highB s
    · rw [hv] at C0 C1
      clear hv
      go_wp2_with fail
      refine (C1.out _).mono ?_
      rintro e w2 ⟨rfl, hb2⟩
      have b2 := hb1.trans (hb2.mono hb1.size)
      go_wp2_with fail
      refine (C0.out _).mono ?_
      rintro e w3 ⟨rfl, hb3⟩
      go_wp2_with fail
      go_ret
      exact ⟨rfl, b2.trans (hb3.mono b2.size)⟩
    · obtain ⟨f1, f2, f3⟩ := high_facts s hv
      have B := hide (fun w => implRowBalls_any s w hs')
      have H := hide (fun w => implRowShift_any s 1 w hs' (by decide))
      have HT := hide (shS_le s 1)
      have H2 : Hid (shOk s 1 = true → ∀ w, Calls Try.prog 26 #[.string (shS s 1)] w fun e w' => e = .returned (.bool true) ∧ Below w.heap.size w w') := by
        intro hk w
        have c := implRowHigh_any (shS s 1) w (by have := HT.out; unfold maxLen; omega)
        rw [f3 hk] at c
        exact c
      rw [hv] at C0 C1
      rw [f1] at B
      simp only [if_true] at B
      obtain ⟨m, hm⟩ : ∃ m, m = nballs (bits s) := ⟨_, rfl⟩
      obtain ⟨t, ht⟩ : ∃ t, t = shS s 1 := ⟨_, rfl⟩
      obtain ⟨q, hq⟩ : ∃ q, q = shOk s 1 := ⟨_, rfl⟩
      rw [← hm] at B f2
      rw [← ht, ← hq] at H H2
      clear hm ht hq HT hv f1 f3
      have f2' : 2 * (m : Int) ≤ (s.size : Int) := by omega
      go_wp2_with fail
      refine (C1.out _).mono ?_
      rintro e w2 ⟨rfl, hb2⟩
      have b2 := hb1.trans (hb2.mono hb1.size)
      go_wp2_with fail
      refine (C0.out _).mono ?_
      rintro e w3 ⟨rfl, hb3⟩
      have b3 := b2.trans (hb3.mono b2.size)
      go_wp2_with fail
      refine (H.out _).mono ?_
      rintro e w4 ⟨rfl, hb4⟩
      have b4 := b3.trans (hb4.mono b3.size)
      go_wp2_with fail
      refine (B.out _).mono ?_
      rintro e w5 ⟨rfl, hb5⟩
      have b5 := b4.trans (hb5.mono b4.size)
      cases q
      · go_wp2_with fail
        go_ret
        exact ⟨rfl, b5⟩
      · have H3 := hide (H2.out rfl)
        clear H2
        go_wp2_with fail
        refine (H3.out _).mono ?_
        rintro e w6 ⟨rfl, hb6⟩
        go_wp2_with fail
        go_ret
        exact ⟨rfl, b5.trans (hb6.mono b5.size)⟩
end Go.Proofs.Ytaonngmjfemadac
