/- THE WALK of the exact law of RowOf. -/
import Derived.Test.YtaonngmjfemadabRowOf2
namespace Go.Proofs.Ytaonngmjfemadab
open Go.RowKit

/-- an argument that came in lies as it lay -/
theorem IsRow.below {k : IntKind} {w w' : World} {a : Option Addr} {len cap : Nat} {z : List Int} (h : IsRow k w a len cap z) (hb : Below w.heap.size w w') : IsRow k w' a len cap z := by
  rcases h with h | ⟨x, rfl, hl, hm, hz, hcell, hwz⟩
  · exact .inl h
  · refine .inr ⟨x, rfl, hl, hm, hz, fun i hi => ?_, hwz⟩
    have hc := hcell i hi
    have hlt := World.block_lt_of_cell? w _ hc
    exact (hb.cell hlt).trans hc
theorem IsRow.take_len {k : IntKind} {w : World} {a : Option Addr} {len cap : Nat} {z : List Int} (h : IsRow k w a len cap z) : (z.take len).length = len := by
  rcases h with ⟨_, rfl, _, rfl⟩ | ⟨x, rfl, hl, hm, hz, hcell, hwz⟩
  · rfl
  · rw [List.length_take]; omega

set_option maxHeartbeats 1000000 in
theorem walkFnExactRowOf {w : World} (a : Option Addr) (len cap : Nat) (z : List Int) (hr : IsRow .i64 w a len cap z) :
    Calls Try.prog 3 #[.slice a len cap] w fun e w' => e = .returned (.bool true) ∧ Below w.heap.size w w' := by
  have hcap := hr.le
  have hmax := hr.max
  unfold maxLen at hmax
  by_cases hbig : 1048576 < len
  · go_enter Try.func3, Try.ntmps3
    go_wp2
    go_ret
    exact ⟨rfl, Below.refl _ _⟩
  · have hlen := hr.take_len
    have T := hide (fun (w : World) (h : IsRow .i64 w a len cap z) => toIntS_any a len cap z h (by omega))
    obtain ⟨l, hl⟩ : ∃ l, l = z.take len := ⟨_, rfl⟩
    rw [← hl] at hlen T
    clear hl
    have hll : l.length ≤ 1048576 := by omega
    have hlm : l.length ≤ maxLen := by unfold maxLen; omega
    obtain ⟨x, hx⟩ : ∃ x : ByteArray, x = ofS l := ⟨_, rfl⟩
    obtain ⟨b, hb⟩ : ∃ b : Bool, b = ofOk l := ⟨_, rfl⟩
    have S0 := hide (fun (v : Value) (w : World) (lo : Nat) (h : IntsV lo w v l) => specRowOf_any v l w hll h)
    have S1 := hide (fun (v : Value) (w : World) (lo : Nat) (h : IntsV lo w v l) => implRowOf_any v l w hll h)
    rw [← hx, ← hb] at S0 S1
    clear hx hb
    have HLM := hide hlm
    clear hlm hll hlen
    go_enter Try.func3, Try.ntmps3
    go_wp2_with fail
    refine (T.out _ hr).mono ?_
    rintro e w1 ⟨v1, rfl, hi1, hb1⟩
    go_wp2_with fail
    refine (S0.out v1 w1 _ hi1).mono ?_
    rintro e w2 ⟨rfl, hb2⟩
    have b02 := hb1.trans (hb2.mono hb1.size)
    go_wp2_with fail
    refine (T.out _ (hr.below b02)).mono ?_
    rintro e w3 ⟨v3, rfl, hi3, hb3⟩
    have b03 := b02.trans (hb3.mono b02.size)
    go_wp2_with fail
    refine (S1.out v3 w3 _ hi3).mono ?_
    rintro e w4 ⟨rfl, hb4⟩
    have b04 := b03.trans (hb4.mono b03.size)
    have hi3' := hi3.below hb4 (Nat.le_refl _)
    go_wp2_with fail
    refine (T.out _ (hr.below b04)).mono ?_
    rintro e w5 ⟨v5, rfl, hi5, hb5⟩
    have b05 := b04.trans (hb5.mono b04.size)
    have hi3'' := hi3'.below hb5 (Nat.le_refl _)
    go_wp2_with fail
    refine (eqIntS_same HLM.out hi3'' hi5).mono ?_
    rintro e w6 ⟨rfl, q6⟩
    go_wp2_with fail
    go_ret
    exact ⟨rfl, b05.trans (q6.2 _)⟩
end Go.Proofs.Ytaonngmjfemadab
