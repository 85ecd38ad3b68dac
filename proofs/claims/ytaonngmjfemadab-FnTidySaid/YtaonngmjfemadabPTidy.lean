/- THE WALK of the law FnTidy: tidy rows are tidy. -/
import Derived.Test.YtaonngmjfemadabRowTidy
import Derived.Test.YtaonngmjfemadabDraw3
namespace Go.Proofs.Ytaonngmjfemadab
open Go.RowKit

theorem bits_tidyS (s : ByteArray) : bits (tidyS s) = cut (bits s) := by
  unfold bits cut tidyS
  rw [Lib.extract_data]
  simp [bits]
theorem tidyS_size' (s : ByteArray) : (tidyS s).size = tl (bits s) := by
  have := tl_le (bits s)
  rw [length_bits] at this
  unfold tidyS; simp; omega
theorem vld_tidyS (s : ByteArray) (h : vld s = true) : vld (tidyS s) = true := by
  have h1 := vld_sgn s h
  have h2 := vld_le s h
  have h3 := tidyS_le s
  have hl : (tidyS s).data.toList = s.data.toList.take (tl (bits s)) := by
    unfold tidyS
    rw [Lib.extract_data]
    simp
  unfold vld
  rw [hl]
  unfold allSgn at h1 ⊢
  rw [List.all_eq_true] at h1
  rw [Bool.and_eq_true, List.all_eq_true]
  exact ⟨fun c hc => h1 c (List.mem_of_mem_take hc), by simp; omega⟩
theorem tidyS_tidyS (s : ByteArray) : tidyS (tidyS s) = tidyS s := by
  have h : tl (bits (tidyS s)) = (tidyS s).size := by rw [bits_tidyS, tl_cut, tidyS_size']
  have h2 : tidyS (tidyS s) = (tidyS s).extract 0 (tl (bits (tidyS s))) := rfl
  rw [h2, h]; simp
theorem tl_last (l : List Bool) (n : Nat) (h : tl l = n + 1) : l[n]? = some true := by
  have g : ∀ (m : List Bool) (n : Nat), tl m.reverse = n + 1 → m.reverse[n]? = some true := by
    intro m
    induction m with
    | nil => intro n h; simp [tl] at h
    | cons b m ih =>
      intro n h
      rw [List.reverse_cons, tl_snoc] at h
      rw [List.reverse_cons]
      cases b
      · have h2 : tl m.reverse = n + 1 := by simpa using h
        have := ih n h2
        rw [List.getElem?_append_left (List.getElem?_eq_some_iff.1 this).1]; exact this
      · have h2 : m.reverse.length = n := by simp at h; simpa using h
        rw [List.getElem?_append_right (by omega), h2]; simp
  have := g l.reverse n (by rw [List.reverse_reverse]; exact h)
  rwa [List.reverse_reverse] at this
theorem tidyS_last (s : ByteArray) (h : (tidyS s).size - 1 < (tidyS s).size) : (((tidyS s)[(tidyS s).size - 1].toNat : Int) == 49) = true := by
  rw [← bit_int]
  have h2 := bits_getElem (tidyS s) ((tidyS s).size - 1) h
  have h3 := tl_last (bits (tidyS s)) ((tidyS s).size - 1) (by rw [bits_tidyS, tl_cut, ← tidyS_size']; omega)
  rw [h3] at h2
  simpa using h2.symm

set_option maxHeartbeats 1000000 in
theorem walkFnTidy {w : World} (a : Option Addr) (len cap : Nat) (z : List Int) (hr : IsRow .u8 w a len cap z) :
    Calls Try.prog 6 #[.slice a len cap] w fun e w' => e = .returned (.bool true) ∧ Below w.heap.size w w' := by
  have hcap := hr.le
  have hmax := hr.max
  unfold maxLen at hmax
  by_cases hbig : 1048576 < len
  · go_enter Try.func6, Try.ntmps6
    go_wp2
    go_ret
    exact ⟨rfl, Below.refl _ _⟩
  · have D := hide (DrawRowTidy_any a len cap z w (by omega) hcap hr.bytes)
    clear hr
    go_enter Try.func6, Try.ntmps6
    go_wp2_with fail
    refine D.out.mono ?_
    rintro e w1 ⟨s, rfl, hs, hb1⟩
    have hs' : s.size ≤ maxLen := by unfold maxLen; omega
    have C1 := hide (fun w => implRowTidy_any s w hs')
    have C0 := hide (fun w => specRowTidy_any s w hs')
    cases hv : vld s
    · rw [hv] at C0 C1
      simp only [Bool.false_eq_true, if_false] at C0 C1
      clear hv
      go_wp2_with fail
      refine (C1.out _).mono ?_
      rintro e w2 ⟨rfl, hb2⟩
      go_wp2_with fail
      refine (C0.out _).mono ?_
      rintro e w3 ⟨rfl, rfl⟩
      go_wp2_with fail
      go_ret
      exact ⟨rfl, hb1.trans (hb2.mono hb1.size)⟩
    · have hv2 := vld_tidyS s hv
      have hle := tidyS_le s
      have HE := hide (tidyS_tidyS s)
      have HL := hide (tidyS_last s)
      rw [hv] at C0 C1
      simp only [if_true] at C0 C1
      obtain ⟨t, ht⟩ : ∃ t, t = tidyS s := ⟨_, rfl⟩
      rw [← ht] at hv2 hle HE HL C0 C1
      clear ht
      have C := hide (fun w => implRowTidy_any t w (Nat.le_trans hle hs'))
      rw [hv2, HE.out] at C
      simp only [if_true] at C
      clear hv hv2
      by_cases h0 : t.size = 0
      · have z0 : ((t.size : Int) == 0) = true := by simp [h0]
        clear h0
        go_wp2_with fail
        refine (C1.out _).mono ?_
        rintro e w2 ⟨rfl, hb2⟩
        go_wp2_with fail
        refine (C0.out _).mono ?_
        rintro e w3 ⟨rfl, rfl⟩
        have hb12 := hb1.trans (hb2.mono hb1.size)
        go_wp2_with fail
        refine (C.out _).mono ?_
        rintro e w3 ⟨rfl, hb3⟩
        go_wp2_with fail
        go_ret
        exact ⟨rfl, hb12.trans (hb3.mono hb12.size)⟩
      · have z0 : ((t.size : Int) == 0) = false := beq_eq_false_iff_ne.2 (by omega)
        have z1 : (1 : Int) ≤ (t.size : Int) := by omega
        have z2 : t.size - 1 < t.size := by omega
        have z3 := HL.out z2
        clear h0
        go_wp2_with fail
        refine (C1.out _).mono ?_
        rintro e w2 ⟨rfl, hb2⟩
        go_wp2_with fail
        refine (C0.out _).mono ?_
        rintro e w3 ⟨rfl, rfl⟩
        have hb12 := hb1.trans (hb2.mono hb1.size)
        go_wp2_with fail
        refine (C.out _).mono ?_
        rintro e w3 ⟨rfl, hb3⟩
        go_wp2_with fail
        go_ret
        exact ⟨rfl, hb12.trans (hb3.mono hb12.size)⟩
end Go.Proofs.Ytaonngmjfemadab
