/- THE WALK of the law FnColourStep. -/
import Derived.Test.YtppelmceojodhaaDoorPCol
namespace Go.Proofs.YtppelmceojodhaaDoor
open Go.RowKit

set_option maxHeartbeats 2000000 in
theorem walkFnColourStep {w : World} (a : Option Addr) (len cap : Nat) (z : List Int) (hr : IsRow .u8 w a len cap z) :
    Calls Tryd.prog 4 #[.slice a len cap] w fun e w' => e = .returned (.bool true) ∧ Below w.heap.size w w' := by
  have hcap := hr.le
  have hmax := hr.max
  unfold maxLen at hmax
  by_cases hbig : 1048576 < len
  · go_enter Tryd.func4, Tryd.ntmps4
    go_wp2
    go_ret
    exact ⟨rfl, Below.refl _ _⟩
  · have D := hide (DrawColourStep_any a len cap z w (by omega) hcap hr.bytes)
    clear hr
    go_enter Tryd.func4, Tryd.ntmps4
    go_wp2_with fail
    refine D.out.mono ?_
    rintro e w1 ⟨s, rfl, hs, hb1⟩
    have hs' : s.size ≤ maxLen := by unfold maxLen; omega
    have C1 := hide (fun w => implColourStep_any s w hs')
    have C0 := hide (fun w => specColourStep_any s w hs')
    cases hk : csOk s
    · rw [hk] at C0 C1
      obtain ⟨x, hx⟩ : ∃ x, x = csS s := ⟨_, rfl⟩
      rw [← hx] at C0 C1
      clear hk hx
      go_wp2_with fail
      refine (C1.out _).mono ?_
      rintro e w2 ⟨rfl, hb2⟩
      have g2 := hb1.trans (hb2.mono hb1.size)
      go_wp2_with fail
      refine (C0.out _).mono ?_
      rintro e w3 ⟨rfl, hb3⟩
      go_wp2_with fail
      go_ret
      exact ⟨rfl, g2.trans (hb3.mono g2.size)⟩
    · obtain ⟨k1, k2⟩ := step_back_S hk
      have hin := csS_in hk
      have hz1 : (csS s).size ≤ maxLen := by
        have := ((cIn_iff _).1 hin).2
        unfold maxLen; omega
      have hi0 := (csOk_some hk).1
      have A1 := hide (fun w => implColourBack_any (csS s) w hz1)
      have N1 := hide (fun w => implColourCounts_any s w hs')
      have N2 := hide (fun w => implColourCounts_any (csS s) w hz1)
      have HM := hide (show (ccL s).length ≤ maxLen by have := ccL_length s; unfold maxLen; omega)
      rw [k1, k2] at A1
      rw [hin, ccL_step hk] at N2
      rw [hi0] at N1
      rw [hk] at C0 C1
      obtain ⟨x, hx⟩ : ∃ x, x = csS s := ⟨_, rfl⟩
      obtain ⟨l, hl⟩ : ∃ l, l = ccL s := ⟨_, rfl⟩
      rw [← hx] at C0 C1 A1 N2
      rw [← hl] at N1 N2 HM
      clear hk hx hl hz1 k1 k2 hin hi0
      have hs3 : s.size ≤ 300 := hs
      go_wp2_with fail
      refine (C1.out _).mono ?_
      rintro e w2 ⟨rfl, hb2⟩
      have g2 := hb1.trans (hb2.mono hb1.size)
      go_wp2_with fail
      refine (C0.out _).mono ?_
      rintro e w3 ⟨rfl, hb3⟩
      have G3 := hide (g2.trans (hb3.mono g2.size))
      clear hb3 hb2 hb1 g2 C1 C0
      go_wp2_with fail
      refine (N1.out _).mono ?_
      rintro e w4 ⟨v4, rfl, hi4, hb4⟩
      have G4 := hide (G3.out.trans (hb4.mono G3.out.size))
      have I4 := hide hi4
      clear hb4 hi4
      go_wp2_with fail
      refine (N2.out _).mono ?_
      rintro e w5 ⟨v5, rfl, hi5, hb5⟩
      have G5 := hide (G4.out.trans (hb5.mono G4.out.size))
      have I4' := hide (I4.out.below hb5 (Nat.le_refl _))
      have I5 := hide hi5
      clear hb5 hi5 I4
      go_wp2_with fail
      refine (A1.out _).mono ?_
      rintro e w6 ⟨rfl, hb6⟩
      have G6 := hide (G5.out.trans (hb6.mono G5.out.size))
      have SM := hide (sameInts_same HM.out (I4'.out.below hb6 (Nat.le_refl _)) (I5.out.below hb6 (Nat.le_refl _)))
      clear hb6 A1 N1 N2 G3 G4 G5 I4' I5
      go_wp2_with fail
      go_loop [14] (fun i => ∃ k : Nat, k ≤ s.size ∧ i = .int .i64 k ∧ Hid (tl ((nz (lst s)).take k) = tl (nz (lst s)))) (fun i => (intOf i).toNat)
      case atStart => exact ⟨s.size, Nat.le_refl _, rfl, by rw [List.take_of_length_le (by rw [nz_length, lst_size]; exact Nat.le_refl _)]; rfl⟩
      case round =>
        obtain ⟨k, hk, rfl, HT⟩ := hrel
        by_cases hk0 : k = 0
        · subst hk0
          have HF : Hid (tidyC s = s.extract 0 0) := by show _ = _; unfold tidyC; rw [← HT.out, List.take_zero, tl_nil]
          go_wp2_with fail
          refine SM.out.mono ?_
          rintro e w7 ⟨rfl, q7⟩
          go_wp2_with fail
          go_ret
          exact ⟨ret_bool (by rw [HF.out]; simp), G6.out.trans (q7.2 _)⟩
        · obtain ⟨j, rfl⟩ : ∃ j, k = j + 1 := ⟨k - 1, by omega⟩
          have hj : j < s.size := by omega
          have HJ : Hid (j < (nz (lst s)).length) := by show _ < _; rw [nz_length, lst_size]; exact hj
          have HB : Hid ((nz (lst s))[j]? = some (!(s[j] == 48))) := by
            show _ = _
            unfold nz
            rw [List.getElem?_map, lst_get s j hj]
            rfl
          by_cases h48 : (s[j].toNat : Int) = 48
          · have h8 : s[j] = 48 := UInt8.toNat_inj.1 (by show s[j].toNat = 48; omega)
            have HB2 : Hid ((nz (lst s))[j]? = some false) := by show _ = _; rw [HB.out, h8]; rfl
            have hb : ((s[j].toNat : Int) == 48) = true := by simp [h48]
            clear h48 h8
            go_wp2
            go_round
            case rel => exact ⟨j, by omega, rfl, (tl_take_pred (nz (lst s)) j HJ.out HB2.out).symm.trans HT.out⟩
            case measure => simp [intOf]
          · have h8 : ¬ s[j] = 48 := fun h => h48 (by rw [h]; rfl)
            have HB2 : Hid ((nz (lst s))[j]? = some true) := by show _ = _; rw [HB.out]; simp [h8]
            have hb : ((s[j].toNat : Int) == 48) = false := by simpa using h48
            have HF : Hid (tidyC s = s.extract 0 (j + 1)) := by show _ = _; unfold tidyC; rw [← HT.out, tl_take_stop (nz (lst s)) j HJ.out HB2.out]
            clear h48 h8
            go_wp2_with fail
            refine SM.out.mono ?_
            rintro e w7 ⟨rfl, q7⟩
            go_wp2_with fail
            go_ret
            exact ⟨ret_bool (by rw [HF.out]; simp), G6.out.trans (q7.2 _)⟩
end Go.Proofs.YtppelmceojodhaaDoor
