/- THE WALKS of the exact laws of ShapeOf and ShapeRow. -/
import Derived.Test.YtlfiipkbkhpmnaaRowF
import Derived.Test.YtlfiipkbkhpmnaaShape5
import Derived.Test.YtlfiipkbkhpmnaaRowOf
namespace Go.Proofs.Ytlfiipkbkhpmnaa
open Go.RowKit

theorem shR_len (s : ByteArray) : (shR s).length ≤ 120 := by
  unfold shR
  cases hv : vld s
  · exact Nat.zero_le _
  · have h120 := vld_le s hv
    show (ni (shB3 (bits s))).length ≤ 120
    rw [ni_length, shB3_length, ← (runs_energy (bits s)).1]
    have := runs_few (bits s)
    rw [length_bits] at this
    omega

set_option maxHeartbeats 1000000 in
theorem walkFnExactShapeOf (s : ByteArray) (hs : s.size ≤ maxLen) (w : World) :
    Calls Try.prog 4 #[.string s] w fun e w' => e = .returned (.bool true) ∧ Below w.heap.size w w' := by
  have hs' := hs
  unfold maxLen at hs'
  have hlen := shR_len s
  by_cases hbig0 : 1048576 < s.size
  · go_enter Try.func4, Try.ntmps4
    go_wp2
    go_ret
    exact ⟨rfl, Below.refl _ _⟩
  obtain ⟨l, hl⟩ : ∃ l, l = shR s := ⟨_, rfl⟩
  obtain ⟨b, hb⟩ : ∃ b, b = vld s := ⟨_, rfl⟩
  have C0 := hide (fun w => specShapeOf_any s w hs)
  have C1 := hide (fun w => implShapeOf_any s w hs)
  rw [← hl, ← hb] at C0 C1
  rw [← hl] at hlen
  clear hl hb
  have hm : l.length ≤ maxLen := by unfold maxLen; omega
  have hm2 : l.length ≤ 4611686018427387904 := by omega
  go_enter Try.func4, Try.ntmps4
  go_wp2_with fail
  refine (C0.out _).mono ?_
  rintro e w1 ⟨v0, rfl, hi0, hb0⟩
  go_wp2_with fail
  refine (C1.out _).mono ?_
  rintro e w2 ⟨v1, rfl, hi1, hb1⟩
  have hi0' := hi0.below hb1 (Nat.le_refl _)
  have s0 := hb0.size
  have s1 := hb1.size
  go_wp2_with fail
  refine (eqIntS_same hm hi1 hi0').mono ?_
  rintro e w3 ⟨rfl, q3⟩
  have hi1' := q3.ints hi1
  have b13 := hb1.trans (q3.2 _)
  clear hi0' hi1
  cases b
  all_goals
    go_wp2_with fail
    refine (markIntS_any hm2 hi1').mono ?_
    rintro e w4 ⟨rfl, b34, hi1m⟩
    have b14 := b13.trans b34
    go_wp2_with fail
    refine (heldIntS_any hm2 hi1m).mono ?_
    rintro e w5 ⟨rfl, q5⟩
    have b15 := b14.trans (q5.2 _)
    have s5 := b15.size
    have s45 := q5.1
    go_wp2_with fail
    refine (C1.out _).mono ?_
    rintro e w6 ⟨v2, rfl, hi2, hb6⟩
    have b16 := b15.trans (hb6.mono s5)
    have hi0' := hi0.below b16 (Nat.le_refl _)
    go_wp2_with fail
    refine (eqIntS_same hm hi2 hi0').mono ?_
    rintro e w7 ⟨rfl, q7⟩
    have hi1n := (q5.ints hi1m).below (hb6.trans (q7.2 _)) (Nat.le_refl _)
    go_wp2_with fail
    refine (heldIntS_any hm2 hi1n).mono ?_
    rintro e w8 ⟨rfl, q8⟩
    go_wp2_with fail
    go_ret
    exact ⟨rfl, ((hb0.trans (b16.mono s0)).trans (q7.2 _)).trans (q8.2 _)⟩
set_option maxHeartbeats 1000000 in
theorem walkFnExactShapeRow {w : World} (a : Option Addr) (len cap : Nat) (z : List Int) (hr : IsRow .i64 w a len cap z) :
    Calls Try.prog 8 #[.slice a len cap] w fun e w' => e = .returned (.bool true) ∧ Below w.heap.size w w' := by
  have hcap := hr.le
  have hmax := hr.max
  unfold maxLen at hmax
  by_cases hbig : 1048576 < len
  · go_enter Try.func8, Try.ntmps8
    go_wp2
    go_ret
    exact ⟨rfl, Below.refl _ _⟩
  · have hlen := hr.take_len
    have T := hide (fun (w : World) (h : IsRow .i64 w a len cap z) => toIntS_any a len cap z h (by omega))
    obtain ⟨l, hl⟩ : ∃ l, l = z.take len := ⟨_, rfl⟩
    rw [← hl] at hlen T
    clear hl
    have hll : l.length ≤ 1048576 := by omega
    have hlm : l.length ≤ maxLen := by unfold maxLen; omega
    obtain ⟨x, hx⟩ : ∃ x : ByteArray, x = swS l := ⟨_, rfl⟩
    obtain ⟨b, hb⟩ : ∃ b : Bool, b = swO l := ⟨_, rfl⟩
    have S0 := hide (fun (v : Value) (w : World) (lo : Nat) (h : IntsV lo w v l) => specShapeRow_any v l w hll h)
    have S1 := hide (fun (v : Value) (w : World) (lo : Nat) (h : IntsV lo w v l) => implShapeRow_any v l w hll h)
    rw [← hx, ← hb] at S0 S1
    clear hx hb
    have HLM := hide hlm
    clear hlm hll hlen
    go_enter Try.func8, Try.ntmps8
    go_wp2_with fail
    refine (T.out _ hr).mono ?_
    rintro e w1 ⟨v1, rfl, hi1, hb1⟩
    go_wp2_with fail
    refine (S0.out v1 w1 _ hi1).mono ?_
    rintro e w2 ⟨rfl, hb2⟩
    have b02 := hb1.trans (hb2.mono hb1.size)
    go_wp2_with fail
    refine (T.out _ (hr.below b02)).mono ?_
    rintro e w3 ⟨v3, rfl, hi3, hb3⟩
    have b03 := b02.trans (hb3.mono b02.size)
    go_wp2_with fail
    refine (S1.out v3 w3 _ hi3).mono ?_
    rintro e w4 ⟨rfl, hb4⟩
    have b04 := b03.trans (hb4.mono b03.size)
    have hi3' := hi3.below hb4 (Nat.le_refl _)
    go_wp2_with fail
    refine (T.out _ (hr.below b04)).mono ?_
    rintro e w5 ⟨v5, rfl, hi5, hb5⟩
    have b05 := b04.trans (hb5.mono b04.size)
    have hi3'' := hi3'.below hb5 (Nat.le_refl _)
    go_wp2_with fail
    refine (eqIntS_same HLM.out hi3'' hi5).mono ?_
    rintro e w6 ⟨rfl, q6⟩
    go_wp2_with fail
    go_ret
    exact ⟨rfl, b05.trans (q6.2 _)⟩
end Go.Proofs.Ytlfiipkbkhpmnaa
