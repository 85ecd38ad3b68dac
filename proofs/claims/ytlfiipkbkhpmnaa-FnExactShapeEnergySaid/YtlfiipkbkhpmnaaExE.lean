/- THE WALK of the exact law of ShapeEnergy. -/
import Derived.Test.YtlfiipkbkhpmnaaCmpI
import Derived.Test.YtlfiipkbkhpmnaaRowOf3
namespace Go.Proofs.Ytlfiipkbkhpmnaa
open Go.RowKit

set_option maxRecDepth 100000 in
set_option maxHeartbeats 1000000 in
theorem walkFnExactShapeEnergy {w : World} (a : Option Addr) (len cap : Nat) (z : List Int) (hr : IsRow .i64 w a len cap z) (n : Int) (_hn : (Lit.int .i64 n).wf = true) :
    Calls Try.prog 5 #[.slice a len cap, .int .i64 n] w fun e w' => e = .returned (.bool true) ∧ Below w.heap.size w w' := by
  have hcap := hr.le
  have hmax := hr.max
  unfold maxLen at hmax
  by_cases hbig : 1048576 < len
  · go_enter Try.func5, Try.ntmps5
    go_wp2
    go_ret
    exact ⟨rfl, Below.refl _ _⟩
  · have hlen := hr.take_len
    have T := hide (fun (w : World) (h : IsRow .i64 w a len cap z) => toIntS_any a len cap z h (by omega))
    obtain ⟨l, hl⟩ : ∃ l, l = z.take len := ⟨_, rfl⟩
    rw [← hl] at hlen T
    clear hl
    have hll : l.length ≤ 1048576 := by omega
    have hlm : l.length ≤ maxLen := by unfold maxLen; omega
    obtain ⟨x, hx⟩ : ∃ x : Int, x = enN l n := ⟨_, rfl⟩
    obtain ⟨b, hb⟩ : ∃ b : Bool, b = enOk l n := ⟨_, rfl⟩
    have S0 := hide (fun (v : Value) (w : World) (lo : Nat) (h : IntsV lo w v l) => specShapeEnergy_any v l n w hll h)
    have S1 := hide (fun (v : Value) (w : World) (lo : Nat) (h : IntsV lo w v l) => implShapeEnergy_any v l n w hll h)
    rw [← hx, ← hb] at S0 S1
    clear hx hb
    have HLM := hide hlm
    clear hlm hll hlen
    go_enter Try.func5, Try.ntmps5
    go_wp2_with fail
    refine (T.out _ hr).mono ?_
    rintro e w1 ⟨v1, rfl, hi1, hb1⟩
    go_wp2_with fail
    refine (S0.out v1 w1 _ hi1).mono ?_
    rintro e w2 ⟨rfl, rfl⟩
    go_wp2_with fail
    refine (T.out _ (hr.below hb1)).mono ?_
    rintro e w3 ⟨v3, rfl, hi3, hb3⟩
    have b03 := hb1.trans (hb3.mono hb1.size)
    go_wp2_with fail
    refine (S1.out v3 w3 _ hi3).mono ?_
    rintro e w4 ⟨rfl, hb4⟩
    have b04 := b03.trans (hb4.mono b03.size)
    have hi3' := hi3.below hb4 (Nat.le_refl _)
    go_wp2_with fail
    refine (T.out _ (hr.below b04)).mono ?_
    rintro e w5 ⟨v5, rfl, hi5, hb5⟩
    have b05 := b04.trans (hb5.mono b04.size)
    have hi3'' := hi3'.below hb5 (Nat.le_refl _)
    go_wp2_with fail
    refine (eqIntS_same HLM.out hi3'' hi5).mono ?_
    rintro e w6 ⟨rfl, q6⟩
    go_wp2_with fail
    go_ret
    exact ⟨rfl, b05.trans (q6.2 _)⟩
end Go.Proofs.Ytlfiipkbkhpmnaa
