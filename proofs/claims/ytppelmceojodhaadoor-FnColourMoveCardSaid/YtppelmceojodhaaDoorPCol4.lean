/- THE WALKS of the laws FnColourMove, FnPlain. -/
import Derived.Test.YtppelmceojodhaaDoorPCol
namespace Go.Proofs.YtppelmceojodhaaDoor
open Go.RowKit

theorem cCh_int {c : Int} (h : c3 c = true) (x : UInt8) (hx : (x.toNat : Int) - 48 ≠ c) : x ≠ cCh c := by
  rcases c3_cases h with rfl | rfl | rfl <;> (rintro rfl; exact hx (by decide))
theorem move_there {s : ByteArray} {c : Int} (h : cmOk s c = true) {k : Nat} (hk : k < s.size) (h48 : (s[k].toNat : Int) ≠ 48) (hc : (s[k].toNat : Int) - 48 ≠ c) :
    ∃ h2 : k < (cmS s c).size, (cmS s c)[k] = s[k] := by
  have h3 : c3 c = true := by unfold cmOk at h; rw [Bool.and_eq_true, Bool.and_eq_true] at h; exact h.1.2
  have h8 : s[k] ≠ 48 := fun e => h48 (by rw [e]; rfl)
  have hm := move_other h (lst_get s k hk) h8 (cCh_int h3 _ hc)
  have hlt : k < (cmS s c).size := by rw [← lst_size]; exact (List.getElem?_eq_some_iff.1 hm).1
  have h2 := lst_get (cmS s c) k hlt
  rw [hm] at h2
  injection h2 with h2
  exact ⟨hlt, h2.symm⟩
theorem tidyS_cp {s : ByteArray} {c : Int} (h : cpOk s c = true) : tidyS (cpS s c) = cpS s c := by
  have hb := (cpS_row h).2.1
  have hz : tl (bits (cpS s c)) = (cpS s c).size := by rw [← length_bits, hb, tl_cut, cut_length]
  unfold tidyS
  rw [hz]
  simp
theorem plain_there {s : ByteArray} {c : Int} (h : cpOk s c = true) {k : Nat} (hk : k < (cpS s c).size) (hb : (((cpS s c)[k].toNat : Int) == 49) = true) :
    ∃ h2 : k < (cpS s 1).size, (((cpS s 1)[k].toNat : Int) == 49) = true := by
  have h1 := bits_getElem (cpS s c) k hk
  rw [bit_int, hb] at h1
  have h2 := plain_ball h h1
  have hlt : k < (cpS s 1).size := by rw [← length_bits]; exact (List.getElem?_eq_some_iff.1 h2).1
  have h3 := bits_getElem (cpS s 1) k hlt
  rw [h2, bit_int] at h3
  injection h3 with h3
  exact ⟨hlt, h3.symm⟩

set_option maxHeartbeats 2000000 in
theorem walkFnColourMove {w : World} (a : Option Addr) (len cap : Nat) (z : List Int) (hr : IsRow .u8 w a len cap z) :
    Calls Tryd.prog 3 #[.slice a len cap] w fun e w' => e = .returned (.bool true) ∧ Below w.heap.size w w' := by
  have hcap := hr.le
  have hmax := hr.max
  unfold maxLen at hmax
  by_cases hbig : 1048576 < len
  · go_enter Tryd.func3, Tryd.ntmps3
    go_wp2
    go_ret
    exact ⟨rfl, Below.refl _ _⟩
  · have D := hide (DrawColourMove_any a len cap z w (by omega) hcap hr.bytes)
    clear hr
    go_enter Tryd.func3, Tryd.ntmps3
    go_wp2_with fail
    refine D.out.mono ?_
    rintro e w1 ⟨s, c, rfl, hs, c0, c1, hb1⟩
    have hs' : s.size ≤ maxLen := by unfold maxLen; omega
    have C1 := hide (fun w => implColourMove_any s c w hs')
    have C0 := hide (fun w => specColourMove_any s c w hs')
    cases hk : cmOk s c
    · rw [hk] at C0 C1
      obtain ⟨x, hx⟩ : ∃ x, x = cmS s c := ⟨_, rfl⟩
      rw [← hx] at C0 C1
      clear hk hx
      go_wp2_with fail
      refine (C1.out _).mono ?_
      rintro e w2 ⟨rfl, hb2⟩
      have g2 := hb1.trans (hb2.mono hb1.size)
      go_wp2_with fail
      refine (C0.out _).mono ?_
      rintro e w3 ⟨rfl, hb3⟩
      go_wp2_with fail
      go_ret
      exact ⟨rfl, g2.trans (hb3.mono g2.size)⟩
    · have hin := (cmS_in hk).1
      have hz0 := ((cIn_iff _).1 hin).2
      have hz1 : (cmS s c).size ≤ maxLen := by unfold maxLen; omega
      have hi0 : cIn s = true := by unfold cmOk at hk; rw [Bool.and_eq_true, Bool.and_eq_true] at hk; exact hk.1.1
      have HSG := hide (fun (k : Nat) (h : k < s.size) => (sg3_int s[k]).1 (((cIn_iff s).1 hi0).1 s[k] (List.mem_of_getElem? (lst_get s k h))))
      have h120 := ((cIn_iff s).1 hi0).2
      have N1 := hide (fun w => implColourCounts_any s w hs')
      have N2 := hide (fun w => implColourCounts_any (cmS s c) w hz1)
      have HM := hide (show (ccL s).length ≤ maxLen by have := ccL_length s; unfold maxLen; omega)
      have HMV := hide (fun (k : Nat) (h : k < s.size) (h1 : (s[k].toNat : Int) ≠ 48) (h2 : (s[k].toNat : Int) - 48 ≠ c) => move_there hk h h1 h2)
      rw [hin, ccL_move hk] at N2
      rw [hi0] at N1
      rw [hk] at C0 C1
      obtain ⟨x, hx⟩ : ∃ x, x = cmS s c := ⟨_, rfl⟩
      obtain ⟨l, hl⟩ : ∃ l, l = ccL s := ⟨_, rfl⟩
      rw [← hx] at C0 C1 N2 hz0 HMV
      rw [← hl] at N1 N2 HM
      clear hk hx hl hz1 hin hi0
      go_wp2_with fail
      refine (C1.out _).mono ?_
      rintro e w2 ⟨rfl, hb2⟩
      have g2 := hb1.trans (hb2.mono hb1.size)
      go_wp2_with fail
      refine (C0.out _).mono ?_
      rintro e w3 ⟨rfl, hb3⟩
      have G3 := hide (g2.trans (hb3.mono g2.size))
      clear hb3 hb2 hb1 g2 C1 C0
      go_wp2_with fail
      refine (N1.out _).mono ?_
      rintro e w4 ⟨v4, rfl, hi4, hb4⟩
      have G4 := hide (G3.out.trans (hb4.mono G3.out.size))
      have I4 := hide hi4
      clear hb4 hi4
      go_wp2_with fail
      refine (N2.out _).mono ?_
      rintro e w5 ⟨v5, rfl, hi5, hb5⟩
      have G5 := hide (G4.out.trans (hb5.mono G4.out.size))
      have SM := hide (fun (wr : World) (q : Quiet w5 wr) => sameInts_same HM.out (q.ints (I4.out.below hb5 (Nat.le_refl _))) (q.ints hi5))
      clear hb5 hi5 I4 G3 G4 N1 N2
      go_wp2_with fail
      go_loopw [13, 14] (fun i _ wr => ∃ k : Nat, k ≤ s.size ∧ i = .int .i64 (k : Int) ∧ Hid (Quiet w5 wr)) (fun i _ => fun _ => s.size - (intOf i).toNat)
      case atStart => exact ⟨0, Nat.zero_le _, rfl, Quiet.refl _⟩
      case round =>
        obtain ⟨k, hk, rfl, HQ⟩ := hrel
        by_cases hlt : k < s.size
        · have hv := HSG.out k hlt
          have hmv := HMV.out k hlt
          by_cases h48 : (s[k].toNat : Int) = 48
          · have t1 : ((s[k].toNat : Int) == 48) = true := by simp [h48]
            clear hmv
            go_wp2
            go_quiet (fail)
            go_wp2
            go_roundw
            case rel => exact ⟨k + 1, by omega, by go_num, HQ.out.trans (Quiet.drewN _)⟩
            case measure => simp [intOf]; omega
          · have t1 : ((s[k].toNat : Int) == 48) = false := by simpa using h48
            have hw : IntKind.u8.wrap ((s[k].toNat : Int) - 48) = (s[k].toNat : Int) - 48 := by
              obtain ⟨v, hvv⟩ : ∃ v : Int, v = (s[k].toNat : Int) := ⟨_, rfl⟩
              rw [← hvv] at hv ⊢
              have : v = 48 ∨ v = 49 ∨ v = 50 ∨ v = 51 := by omega
              rcases this with rfl | rfl | rfl | rfl <;> rfl
            have hw2 : IntKind.i64.wrap ((s[k].toNat : Int) - 48) = (s[k].toNat : Int) - 48 := by rw [IntKind.wrap_i64]; omega
            by_cases hc : (s[k].toNat : Int) - 48 = c
            · have t2 : ((s[k].toNat : Int) - 48 == c) = true := by simp [hc]
              have t2n : ((s[k].toNat : Int) - 48 != c) = false := by simp [hc]
              clear hmv
              go_wp2
              go_quiet (fail)
              go_wp2
              go_roundw
              case rel => exact ⟨k + 1, by omega, by go_num, HQ.out.trans (Quiet.drewN _)⟩
              case measure => simp [intOf]; omega
            · have t2 : ((s[k].toNat : Int) - 48 == c) = false := by simpa using hc
              have t2n : ((s[k].toNat : Int) - 48 != c) = true := by simpa using hc
              obtain ⟨hx1, hx2⟩ := hmv h48 hc
              have t3 : ((x[k].toNat : Int) == (s[k].toNat : Int)) = true := by rw [hx2]; simp
              have t3n : ((x[k].toNat : Int) != (s[k].toNat : Int)) = false := by rw [hx2]; simp
              have i0 : (0 : Int) ≤ (k : Int) := by omega
              have i1 : (k : Int) < (s.size : Int) := by omega
              have i2 : (k : Int) < (x.size : Int) := by omega
              have i3 : decide ((x.size : Int) ≤ (k : Int)) = false := by simp; omega
              clear hx2
              go_wp2
              go_quiet (fail)
              go_wp2
              go_roundw
              case rel => exact ⟨k + 1, by omega, by go_num, HQ.out.trans (Quiet.drewN _)⟩
              case measure => simp [intOf]; omega
        · go_wp2_with fail
          refine (SM.out _ HQ.out).mono ?_
          rintro e w7 ⟨rfl, q7⟩
          go_wp2_with fail
          go_ret
          exact ⟨rfl, (G5.out.trans (HQ.out.2 _)).trans (q7.2 _)⟩

end Go.Proofs.YtppelmceojodhaaDoor
