/- THE WALK of the program's ShapeTime, and of its exact law. -/
import Derived.Test.YtlfiipkbkhpmnacApart
import Derived.Test.YtlfiipkbkhpmnacShape3
import Derived.Test.YtlfiipkbkhpmnacStep6
namespace Go.Proofs.Ytlfiipkbkhpmnac
open Go.RowKit

theorem tmR_F (s : ByteArray) : tmR s = tmF 61 s 0 := by
  unfold tmR
  cases hv : vld s
  · have e1 : apOk s = false := by unfold apOk; rw [hv]; rfl
    have e2 : stOk s 200 = false := by
      cases h : stOk s 200
      · rfl
      · have := (tkOk_iff (stOk_tk h)).1; rw [hv] at this; cases this
    show ((0 : Int), false) = if apOk s then _ else if stOk s 200 then _ else _
    rw [e1, e2]; rfl
  · rfl

set_option maxRecDepth 100000 in
set_option maxHeartbeats 2000000 in
theorem implShapeTime_any (s : ByteArray) (w : World) (hs : s.size ≤ maxLen) :
    Calls Try.prog 17 #[.string s] w fun e w' => e = .returned (.tuple #[.int .i64 (tmR s).1, .bool (tmR s).2]) ∧ Below w.heap.size w w' := by
  rw [tmR_F]
  obtain ⟨R, hR⟩ : ∃ R, R = tmF 61 s 0 := ⟨_, rfl⟩
  rw [← hR]
  have HR := hide hR
  have HS := hide hs
  clear hR hs
  go_enter Try.func17, Try.ntmps17
  go_wp2
  go_loopw [0, 7] (fun sv n wr => ∃ (x : ByteArray) (k : Nat), k ≤ 61 ∧ sv = .string x ∧ n = .int .i64 (k : Int) ∧ Hid (x.size ≤ maxLen) ∧ Hid (R = tmF (61 - k) x k) ∧ Hid (Below w.heap.size w wr)) (fun _ n _ => 61 - (intOf n).toNat)
  case atStart => exact ⟨s, 0, Nat.zero_le _, rfl, rfl, HS, HR, Below.refl _ _⟩
  case round =>
    obtain ⟨x, k, hk, rfl, rfl, HX, HE, HBW⟩ := hrel
    by_cases hlt : k ≤ 60
    · have hE : R = if apOk x then ((k : Int), true) else if stOk x 200 then tmF (61 - (k + 1)) (stS x 200) (k + 1) else (0, false) := by
        rw [HE.out, show 61 - k = (61 - (k + 1)) + 1 by omega]; rfl
      have HE2 := hide hE
      have CA := hide (fun w => implShapeApart_any x w HX.out)
      have CS := hide (fun w => implStepOf_any x 200 w HX.out)
      have hsz : (stS x 200).size ≤ maxLen := by have := stS_size x 200; unfold maxLen; omega
      obtain ⟨y, hy⟩ : ∃ y, y = stS x 200 := ⟨_, rfl⟩
      obtain ⟨a, ha⟩ : ∃ a, a = apOk x := ⟨_, rfl⟩
      obtain ⟨b, hb⟩ : ∃ b, b = stOk x 200 := ⟨_, rfl⟩
      rw [← hy, ← ha, ← hb] at HE2
      rw [← ha] at CA
      rw [← hy, ← hb] at CS
      rw [← hy] at hsz
      have HSZ := hide hsz
      clear hy ha hb hE HE hsz
      cases a
      · go_wp2_with fail
        refine (CA.out _).mono ?_
        rintro e w1 ⟨rfl, hb1⟩
        have g1 := HBW.out.trans (hb1.mono HBW.out.size)
        clear CA hb1
        cases b
        · have HE3 := hide (HE2.out.trans rfl)
          clear HE2
          go_wp2_with fail
          refine (CS.out _).mono ?_
          rintro e w2 ⟨rfl, hb2⟩
          go_wp2_with fail
          go_ret2
          exact ⟨by rw [HE3.out]; rfl, g1.trans (hb2.mono g1.size)⟩
        · have HE3 := hide (HE2.out.trans rfl)
          clear HE2
          go_wp2_with fail
          refine (CS.out _).mono ?_
          rintro e w2 ⟨rfl, hb2⟩
          have g2 := g1.trans (hb2.mono g1.size)
          clear CS hb2
          go_wp2_with fail
          go_roundw
          case rel => exact ⟨y, k + 1, by omega, rfl, by go_num, HSZ, HE3, g2⟩
          case measure => simp [intOf]; omega
      · have HE3 := hide (HE2.out.trans rfl)
        clear HE2 CS
        go_wp2_with fail
        refine (CA.out _).mono ?_
        rintro e w1 ⟨rfl, hb1⟩
        go_wp2_with fail
        go_ret2
        exact ⟨by rw [HE3.out]; rfl, HBW.out.trans (hb1.mono HBW.out.size)⟩
    · have hk61 : k = 61 := by omega
      have HE2 := hide (HE.out.trans (by rw [hk61]; rfl : _ = ((0 : Int), false)))
      go_wp2
      go_ret2
      exact ⟨by rw [HE2.out]; rfl, HBW.out⟩

end Go.Proofs.Ytlfiipkbkhpmnac
