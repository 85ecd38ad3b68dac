/- THE WALK of the law FnLevels: levels change by 1. -/
import Derived.Test.YtaonngmjfemadacRowLevels
import Derived.Test.YtaonngmjfemadacRowBalls
import Derived.Test.YtaonngmjfemadacDraw4
import Derived.Deep.RegionHeld3
namespace Go.Proofs.Ytaonngmjfemadac
open Go.RowKit

set_option maxRecDepth 100000 in
set_option maxHeartbeats 2000000 in
theorem walkFnLevels {w : World} (a : Option Addr) (len cap : Nat) (z : List Int) (hr : IsRow .u8 w a len cap z) :
    Calls Try.prog 6 #[.slice a len cap] w fun e w' => e = .returned (.bool true) ∧ Below w.heap.size w w' := by
  have hcap := hr.le
  have hmax := hr.max
  unfold maxLen at hmax
  by_cases hbig : 1048576 < len
  · go_enter Try.func6, Try.ntmps6
    go_wp2
    go_ret
    exact ⟨rfl, Below.refl _ _⟩
  · have D := hide (DrawRowLevels_any a len cap z w (by omega) hcap hr.bytes)
    clear hr
    go_enter Try.func6, Try.ntmps6
    go_wp2_with fail
    refine D.out.mono ?_
    rintro e w1 ⟨s, rfl, hs, hb1⟩
    have hs' : s.size ≤ maxLen := by unfold maxLen; omega
    have C1 := hide (fun w => implRowLevels_any s w hs')
    have C0 := hide (fun w => specRowLevels_any s w hs')
    have hal := levR_len s
    have HM := hide (show (levR s).length ≤ maxLen by unfold maxLen; omega)
    cases hv : levOk s
    · rw [hv] at C0 C1
      obtain ⟨l, hl⟩ : ∃ l, l = levR s := ⟨_, rfl⟩
      rw [← hl] at C0 C1 HM
      clear hv hl hal
      go_wp2_with fail
      refine (C1.out _).mono ?_
      rintro e w2 ⟨v2, rfl, hi2, hb2⟩
      have b2 := hb1.trans (hb2.mono hb1.size)
      go_wp2_with fail
      refine (C0.out _).mono ?_
      rintro e w3 ⟨v3, rfl, hi3, hb3⟩
      have b3 := b2.trans (hb3.mono b2.size)
      have hi2' := hi2.below hb3 (Nat.le_refl _)
      go_wp2_with fail
      refine (sameInts_same HM.out hi2' hi3).mono ?_
      rintro e w4 ⟨rfl, q4⟩
      have b4 := b3.trans (q4.2 _)
      have hi2'' := q4.ints hi2'
      have hi3'' := q4.ints hi3
      go_wp2_with fail
      refine (sameInts_same HM.out hi2'' hi3'').mono ?_
      rintro e w5 ⟨rfl, q5⟩
      go_wp2_with fail
      go_ret
      exact ⟨rfl, b4.trans (q5.2 _)⟩
    · have hvv : vld s = true := by unfold levOk at hv; simp at hv; exact hv.1
      have h120 := vld_le s hvv
      have e0 : levR s = lev (bits s) := by unfold levR; rw [hv]; rfl
      have B := hide (fun w => implRowBalls_any s w hs')
      rw [hvv] at B
      simp only [if_true] at B
      have HLEN := hide (show (levR s).length = s.size + 1 by rw [e0, lev_length, length_bits])
      have HAT := hide (fun k (h : k ≤ s.size) => lev_getElem (bits s) k (by rw [length_bits]; exact h))
      rw [← e0] at HAT
      have HST := hide (fun (k : Nat) (h : k < s.size) => levAt_succ (bits s) k (s[k] == 49) (bits_getElem s k h))
      have HEND := hide (show levAt (bits s) s.size = (s.size : Int) - 2 * (nballs (bits s) : Int) by unfold levAt; rw [List.take_of_length_le (by rw [length_bits]; exact Nat.le_refl _)])
      have HZ := hide (levAt_zero (bits s))
      have hnb := nballs_le (bits s) s.size
      rw [List.take_of_length_le (by rw [length_bits]; exact Nat.le_refl _)] at hnb
      rw [hv] at C0 C1
      obtain ⟨m, hm⟩ : ∃ m, m = nballs (bits s) := ⟨_, rfl⟩
      obtain ⟨l, hl⟩ : ∃ l, l = levR s := ⟨_, rfl⟩
      rw [← hl] at C0 C1 HM HLEN HAT hal
      rw [← hm] at B HEND hnb
      clear hv hvv hl hm e0
      go_wp2_with fail
      refine (C1.out _).mono ?_
      rintro e w2 ⟨v2, rfl, hi2, hb2⟩
      have b2 := hb1.trans (hb2.mono hb1.size)
      go_wp2_with fail
      refine (C0.out _).mono ?_
      rintro e w3 ⟨v3, rfl, hi3, hb3⟩
      have b3 := b2.trans (hb3.mono b2.size)
      have hi2' := hi2.below hb3 (Nat.le_refl _)
      go_wp2_with fail
      refine (sameInts_same HM.out hi2' hi3).mono ?_
      rintro e w4 ⟨rfl, q4⟩
      have b4 := b3.trans (q4.2 _)
      have hi4 := q4.ints hi2'
      clear hi2' hi2 hi3 hb1 hb2 hb3
      rcases hi4 with ⟨a4, c4, rfl, hnil⟩ | ⟨g, c4, rfl, _, _, _, hc4⟩
      · have := HLEN.out; rw [hnil] at this; simp at this
      · have HC4 := hide hc4
        rw [HLEN.out]
        clear hc4
        go_wp2_with fail
        go_loopw [8] (fun i wr => ∃ k : Nat, 1 ≤ k ∧ i = .int .i64 (k : Int) ∧ k ≤ s.size + 1 ∧ Hid (Quiet w4 wr)) (fun i _ => s.size + 1 - (intOf i).toNat)
        case atStart => exact ⟨1, Nat.le_refl _, rfl, by omega, Quiet.refl _⟩
        case round =>
          obtain ⟨k, hk1, rfl, hkn, HQ⟩ := hrel
          by_cases hltk : k < s.size + 1
          · obtain ⟨j, rfl⟩ : ∃ j, k = j + 1 := ⟨k - 1, by omega⟩
            have hj : j < s.size := by omega
            have c1 := ((HQ.out.cells HC4.out) j (.int .i64 (levAt (bits s) j)) (by simp [HAT.out j (by omega)])).1
            have c2 := ((HQ.out.cells HC4.out) (j + 1) (.int .i64 (levAt (bits s) (j + 1))) (by simp [HAT.out (j + 1) (by omega)])).1
            have hst := HST.out j hj
            have hbd := levAt_bd (bits s) j
            rw [bit_int] at hst
            obtain ⟨x, hx⟩ : ∃ x, x = levAt (bits s) j := ⟨_, rfl⟩
            rw [← hx] at c1 hst hbd
            rw [hst] at c2
            clear hst hx
            have i0 : (0 : Int) ≤ (j : Int) := by omega
            have i1 : (j : Int) + 1 < (s.size : Int) + 1 := by omega
            have i2 : (j : Int) < (s.size : Int) + 1 := by omega
            cases hb : ((s[j].toNat : Int) == 49)
            · rw [hb] at c2
              simp only [Bool.false_eq_true, if_false] at c2
              have hw : IntKind.i64.wrap (x + 1 - x) = 1 := by rw [IntWalk.i64_in _ (by omega)]; omega
              go_wp2
              go_quiet (fail)
              go_wp2
              go_roundw
              case rel => exact ⟨j + 1 + 1, by omega, by go_num, by omega, HQ.out.trans (Quiet.drewN _)⟩
              case measure => simp [intOf]; omega
            · rw [hb] at c2
              simp only [if_true] at c2
              have hw : IntKind.i64.wrap (x + -1 - x) = -1 := by rw [IntWalk.i64_in _ (by omega)]; omega
              go_wp2
              go_quiet (fail)
              go_wp2
              go_roundw
              case rel => exact ⟨j + 1 + 1, by omega, by go_num, by omega, HQ.out.trans (Quiet.drewN _)⟩
              case measure => simp [intOf]; omega
          · have c0 := ((HQ.out.cells HC4.out) 0 (.int .i64 0) (by have := HAT.out 0 (Nat.zero_le _); rw [HZ.out] at this; simp [this])).1
            have cN := ((HQ.out.cells HC4.out) s.size (.int .i64 ((s.size : Int) - 2 * (m : Int))) (by have := HAT.out s.size (Nat.le_refl _); rw [HEND.out] at this; simp [this])).1
            have hgw := World.block_lt_of_cell? wr _ c0
            have b4' := b4.trans (HQ.out.2 _)
            have BS := hide (fun (w' : World) (h0 : w'.cell? ⟨g, 0, none⟩ = some (.int .i64 0)) (hN : w'.cell? ⟨g, s.size, none⟩ = some (.int .i64 ((s.size : Int) - 2 * (m : Int)))) (hB : Below w.heap.size w w') =>
              (B.out w').mono (R' := fun e w'' => e = .returned (.int .i64 (m : Int)) ∧ w''.cell? ⟨g, 0, none⟩ = some (.int .i64 0) ∧ w''.cell? ⟨g, s.size, none⟩ = some (.int .i64 ((s.size : Int) - 2 * (m : Int))) ∧ Below w.heap.size w w'')
                (fun e w'' ⟨he, hb⟩ => ⟨he, (hb.cell (p := ⟨g, 0, none⟩) (World.block_lt_of_cell? w' _ h0)).trans h0, (hb.cell (p := ⟨g, s.size, none⟩) (World.block_lt_of_cell? w' _ hN)).trans hN, hB.trans (hb.mono hB.size)⟩))
            have wr1 : IntKind.i64.wrap (2 * (m : Int)) = 2 * (m : Int) := IntWalk.i64_in _ (by omega)
            have wr2 : IntKind.i64.wrap ((s.size : Int) - 2 * (m : Int)) = (s.size : Int) - 2 * (m : Int) := IntWalk.i64_in _ (by omega)
            have wr3 : IntKind.i64.wrap ((s.size : Int) + 1) = (s.size : Int) + 1 := IntWalk.i64_in _ (by omega)
            have i0 : (0 : Int) ≤ (s.size : Int) := by omega
            have i1 : (s.size : Int) < (s.size : Int) + 1 := by omega
            have i2 : (0 : Int) < (s.size : Int) + 1 := by omega
            clear hgw
            go_wp2_with fail
            go_region_held3 (fun w' => w'.cell? ⟨g, 0, none⟩ = some (.int .i64 0) ∧ w'.cell? ⟨g, s.size, none⟩ = some (.int .i64 ((s.size : Int) - 2 * (m : Int))) ∧ Below w.heap.size w w') (first | exact ⟨c0, cN, b4'.drew⟩ | (refine ⟨?_, ?_, ?_⟩ <;> assumption) | go_keep)
              (first | (go_at_call 15; have hx1 := BS.out wr.drew c0 cN b4'.drew; refine hx1.mono ?_; rintro e w5 ⟨rfl, d0, dN, hb5⟩) | fail)
            go_wp2
            go_ret
            exact ⟨rfl, by assumption⟩
end Go.Proofs.Ytaonngmjfemadac
