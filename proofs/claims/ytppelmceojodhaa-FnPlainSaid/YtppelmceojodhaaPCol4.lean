/- THE WALKS of the laws FnColourMove, FnPlain. -/
import Derived.Test.YtppelmceojodhaaPCol
namespace Go.Proofs.Ytppelmceojodhaa
open Go.RowKit

theorem cCh_int {c : Int} (h : c3 c = true) (x : UInt8) (hx : (x.toNat : Int) - 48 ≠ c) : x ≠ cCh c := by
  rcases c3_cases h with rfl | rfl | rfl <;> (rintro rfl; exact hx (by decide))
theorem move_there {s : ByteArray} {c : Int} (h : cmOk s c = true) {k : Nat} (hk : k < s.size) (h48 : (s[k].toNat : Int) ≠ 48) (hc : (s[k].toNat : Int) - 48 ≠ c) :
    ∃ h2 : k < (cmS s c).size, (cmS s c)[k] = s[k] := by
  have h3 : c3 c = true := by unfold cmOk at h; rw [Bool.and_eq_true, Bool.and_eq_true] at h; exact h.1.2
  have h8 : s[k] ≠ 48 := fun e => h48 (by rw [e]; rfl)
  have hm := move_other h (lst_get s k hk) h8 (cCh_int h3 _ hc)
  have hlt : k < (cmS s c).size := by rw [← lst_size]; exact (List.getElem?_eq_some_iff.1 hm).1
  have h2 := lst_get (cmS s c) k hlt
  rw [hm] at h2
  injection h2 with h2
  exact ⟨hlt, h2.symm⟩
theorem tidyS_cp {s : ByteArray} {c : Int} (h : cpOk s c = true) : tidyS (cpS s c) = cpS s c := by
  have hb := (cpS_row h).2.1
  have hz : tl (bits (cpS s c)) = (cpS s c).size := by rw [← length_bits, hb, tl_cut, cut_length]
  unfold tidyS
  rw [hz]
  simp
theorem plain_there {s : ByteArray} {c : Int} (h : cpOk s c = true) {k : Nat} (hk : k < (cpS s c).size) (hb : (((cpS s c)[k].toNat : Int) == 49) = true) :
    ∃ h2 : k < (cpS s 1).size, (((cpS s 1)[k].toNat : Int) == 49) = true := by
  have h1 := bits_getElem (cpS s c) k hk
  rw [bit_int, hb] at h1
  have h2 := plain_ball h h1
  have hlt : k < (cpS s 1).size := by rw [← length_bits]; exact (List.getElem?_eq_some_iff.1 h2).1
  have h3 := bits_getElem (cpS s 1) k hlt
  rw [h2, bit_int] at h3
  injection h3 with h3
  exact ⟨hlt, h3.symm⟩

set_option maxHeartbeats 2000000 in
theorem walkFnPlain {w : World} (a : Option Addr) (len cap : Nat) (z : List Int) (hr : IsRow .u8 w a len cap z) :
    Calls Try.prog 5 #[.slice a len cap] w fun e w' => e = .returned (.bool true) ∧ Below w.heap.size w w' := by
  have hcap := hr.le
  have hmax := hr.max
  unfold maxLen at hmax
  by_cases hbig : 1048576 < len
  · go_enter Try.func5, Try.ntmps5
    go_wp2
    go_ret
    exact ⟨rfl, Below.refl _ _⟩
  · have D := hide (DrawColourPlain_any a len cap z w (by omega) hcap hr.bytes)
    clear hr
    go_enter Try.func5, Try.ntmps5
    go_wp2_with fail
    refine D.out.mono ?_
    rintro e w1 ⟨s, c, rfl, hs, c0, c1, hb1⟩
    have hs' : s.size ≤ maxLen := by unfold maxLen; omega
    have C1 := hide (fun w => implColourPlain_any s c w hs')
    have C0 := hide (fun w => specColourPlain_any s c w hs')
    cases hk : cpOk s c
    · rw [hk] at C0 C1
      obtain ⟨x, hx⟩ : ∃ x, x = cpS s c := ⟨_, rfl⟩
      rw [← hx] at C0 C1
      clear hk hx
      go_wp2_with fail
      refine (C1.out _).mono ?_
      rintro e w2 ⟨rfl, hb2⟩
      have g2 := hb1.trans (hb2.mono hb1.size)
      go_wp2_with fail
      refine (C0.out _).mono ?_
      rintro e w3 ⟨rfl, rfl⟩
      go_wp2_with fail
      go_ret
      exact ⟨rfl, g2⟩
    · have h1 : cIn s = true := by unfold cpOk at hk; rw [Bool.and_eq_true] at hk; exact hk.1
      have k1 : cpOk s 1 = true := cpOk_of h1 (by omega)
      obtain ⟨r1, _, r3⟩ := cpS_row hk
      obtain ⟨_, _, a3⟩ := cpS_row k1
      have CA := hide (fun w => implColourPlain_any s 1 w hs')
      have RT := hide (fun w => implRowTidy_any (cpS s c) w (by unfold maxLen; omega))
      rw [r1, tidyS_cp hk] at RT
      simp only [if_true] at RT
      have HTH := hide (fun (k : Nat) (h : k < (cpS s c).size) (h1 : (((cpS s c)[k].toNat : Int) == 49) = true) => plain_there hk h h1)
      rw [k1] at CA
      rw [hk] at C0 C1
      obtain ⟨x, hx⟩ : ∃ x, x = cpS s c := ⟨_, rfl⟩
      obtain ⟨y, hy⟩ : ∃ y, y = cpS s 1 := ⟨_, rfl⟩
      rw [← hx] at C0 C1 RT r3 HTH
      rw [← hy] at CA a3 HTH
      clear hk hx hy h1 k1 r1
      go_wp2_with fail
      refine (C1.out _).mono ?_
      rintro e w2 ⟨rfl, hb2⟩
      have G2 := hide (hb1.trans (hb2.mono hb1.size))
      clear hb2 hb1
      go_wp2_with fail
      refine (C0.out _).mono ?_
      rintro e w3 ⟨rfl, rfl⟩
      go_wp2_with fail
      refine (CA.out _).mono ?_
      rintro e w3 ⟨rfl, hb3⟩
      have G3 := hide (G2.out.trans (hb3.mono G2.out.size))
      clear hb3
      go_wp2_with fail
      refine (RT.out _).mono ?_
      rintro e w4 ⟨rfl, hb4⟩
      have G4 := hide (G3.out.trans (hb4.mono G3.out.size))
      clear hb4 G2 G3 C0 C1 CA RT
      go_wp2_with fail
      go_loop [13] (fun i => ∃ k : Nat, k ≤ x.size ∧ i = .int .i64 (k : Int)) (fun i => x.size - (intOf i).toNat)
      case atStart => exact ⟨0, Nat.zero_le _, rfl⟩
      case round =>
        obtain ⟨k, hk, rfl⟩ := hrel
        by_cases hlt : k < x.size
        · have hth := HTH.out k hlt
          cases hb : ((x[k].toNat : Int) == 49)
          · clear hth
            go_wp2
            go_round
            case rel => exact ⟨k + 1, by omega, by go_num⟩
            case measure => simp [intOf]; omega
          · obtain ⟨hy1, hy2⟩ := hth hb
            have i1 : (k : Int) < (y.size : Int) := by omega
            have i3 : decide ((y.size : Int) ≤ (k : Int)) = false := by simp; omega
            have i4 : ¬ y.size ≤ k := by omega
            have i5 : decide (y.size ≤ k) = false := by simp; omega
            have hy3 : ((y[k].toNat : Int) != 49) = false := by rw [bne, hy2]; rfl
            clear hth
            go_wp2
            go_round
            case rel => exact ⟨k + 1, by omega, by go_num⟩
            case measure => simp [intOf]; omega
        · go_wp2
          go_ret
          exact ⟨rfl, G4.out⟩
end Go.Proofs.Ytppelmceojodhaa
