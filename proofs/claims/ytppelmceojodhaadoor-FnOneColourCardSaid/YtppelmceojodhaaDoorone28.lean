/- TEXTS PCol. -/
import Derived.Test.YtppelmceojodhaaDoorone12
import Derived.Test.YtppelmceojodhaaDoorone20
import Derived.Test.YtppelmceojodhaaDoorone06
import Derived.Test.YtppelmceojodhaaDoorone27
import Derived.Deep.RegionHeld3
/- THE WALKS of the laws FnColour, FnCounts, FnColourBack. -/
namespace Go.Proofs.YtppelmceojodhaaDoor
open Go.RowKit

/-- a slice of three numbers -/
theorem ints3 {lo : Nat} {w : World} {v : Value} {x y z : Int} (h : IntsV lo w v [x, y, z]) :
    ∃ g k, v = .slice (some ⟨g, 0, none⟩) 3 k ∧ lo ≤ g ∧ g < w.heap.size ∧ w.cell? ⟨g, 0, none⟩ = some (.int .i64 x) ∧ w.cell? ⟨g, 1, none⟩ = some (.int .i64 y) ∧ w.cell? ⟨g, 2, none⟩ = some (.int .i64 z) := by
  rcases h with ⟨a, c, rfl, h0⟩ | ⟨g, c, rfl, _, hlo, hlt, hc⟩
  · cases h0
  · exact ⟨g, c, rfl, hlo, hlt, (hc 0 _ rfl).1, (hc 1 _ rfl).1, (hc 2 _ rfl).1⟩
set_option maxHeartbeats 1000000 in
theorem walkFnColourBack {w : World} (a : Option Addr) (len cap : Nat) (z : List Int) (hr : IsRow .u8 w a len cap z) :
    Calls Tryd.prog 6 #[.slice a len cap] w fun e w' => e = .returned (.bool true) ∧ Below w.heap.size w w' := by
  have hcap := hr.le
  have hmax := hr.max
  unfold maxLen at hmax
  by_cases hbig : 1048576 < len
  · go_enter Tryd.func6, Tryd.ntmps6
    go_wp2
    go_ret
    exact ⟨rfl, Below.refl _ _⟩
  · have D := hide (DrawColourBack_any a len cap z w (by omega) hcap hr.bytes)
    clear hr
    go_enter Tryd.func6, Tryd.ntmps6
    go_wp2_with fail
    refine D.out.mono ?_
    rintro e w1 ⟨s, rfl, hs, hb1⟩
    have hs' : s.size ≤ maxLen := by unfold maxLen; omega
    have C1 := hide (fun w => implColourBack_any s w hs')
    have C0 := hide (fun w => specColourBack_any s w hs')
    cases hk : cbkO s
    · rw [hk] at C0 C1
      obtain ⟨x, hx⟩ : ∃ x, x = cbkS s := ⟨_, rfl⟩
      rw [← hx] at C0 C1
      clear hk hx
      go_wp2_with fail
      refine (C1.out _).mono ?_
      rintro e w2 ⟨rfl, hb2⟩
      have g2 := hb1.trans (hb2.mono hb1.size)
      go_wp2_with fail
      refine (C0.out _).mono ?_
      rintro e w3 ⟨rfl, hb3⟩
      go_wp2_with fail
      go_ret
      exact ⟨rfl, g2.trans (hb3.mono g2.size)⟩
    · obtain ⟨k1, k2⟩ := back_step_S hk
      have hz1 : (cbkS s).size ≤ maxLen := by
        have := ((cIn_iff _).1 (cbkS_in hk)).2
        unfold maxLen; omega
      have A1 := hide (fun w => implColourStep_any (cbkS s) w hz1)
      rw [k1, k2] at A1
      rw [hk] at C0 C1
      obtain ⟨x, hx⟩ : ∃ x, x = cbkS s := ⟨_, rfl⟩
      rw [← hx] at C0 C1 A1
      clear hk hx hz1 k1 k2
      have hs3 : s.size ≤ 300 := hs
      go_wp2_with fail
      refine (C1.out _).mono ?_
      rintro e w2 ⟨rfl, hb2⟩
      have g2 := hb1.trans (hb2.mono hb1.size)
      go_wp2_with fail
      refine (C0.out _).mono ?_
      rintro e w3 ⟨rfl, hb3⟩
      have g3 := g2.trans (hb3.mono g2.size)
      go_wp2_with fail
      refine (A1.out _).mono ?_
      rintro e w4 ⟨rfl, hb4⟩
      have G4 := hide (g3.trans (hb4.mono g3.size))
      clear hb4 hb3 hb2 hb1 g2 g3 A1 C0 C1
      go_wp2_with fail
      go_loop [10] (fun i => ∃ k : Nat, k ≤ s.size ∧ i = .int .i64 k ∧ Hid (tl ((nz (lst s)).take k) = tl (nz (lst s)))) (fun i => (Go.RowKit.intOf i).toNat)
      case atStart => exact ⟨s.size, Nat.le_refl _, rfl, by rw [List.take_of_length_le (by rw [nz_length, lst_size]; exact Nat.le_refl _)]; rfl⟩
      case round =>
        obtain ⟨k, hk, rfl, HT⟩ := hrel
        by_cases hk0 : k = 0
        · subst hk0
          have HF : Hid (tidyC s = s.extract 0 0) := by show _ = _; unfold tidyC; rw [← HT.out, List.take_zero, tl_nil]
          go_wp2
          go_ret
          exact ⟨ret_bool (by rw [HF.out]; simp), G4.out⟩
        · obtain ⟨j, rfl⟩ : ∃ j, k = j + 1 := ⟨k - 1, by omega⟩
          have hj : j < s.size := by omega
          have HJ : Hid (j < (nz (lst s)).length) := by show _ < _; rw [nz_length, lst_size]; exact hj
          have HB : Hid ((nz (lst s))[j]? = some (!(s[j] == 48))) := by
            show _ = _
            unfold nz
            rw [List.getElem?_map, lst_get s j hj]
            rfl
          by_cases h48 : (s[j].toNat : Int) = 48
          · have h8 : s[j] = 48 := UInt8.toNat_inj.1 (by show s[j].toNat = 48; omega)
            have HB2 : Hid ((nz (lst s))[j]? = some false) := by show _ = _; rw [HB.out, h8]; rfl
            have hb : ((s[j].toNat : Int) == 48) = true := by simp [h48]
            clear h48 h8
            go_wp2
            go_round
            case rel => exact ⟨j, by omega, rfl, (tl_take_pred (nz (lst s)) j HJ.out HB2.out).symm.trans HT.out⟩
            case measure => simp [Go.RowKit.intOf]
          · have h8 : ¬ s[j] = 48 := fun h => h48 (by rw [h]; rfl)
            have HB2 : Hid ((nz (lst s))[j]? = some true) := by show _ = _; rw [HB.out]; simp [h8]
            have hb : ((s[j].toNat : Int) == 48) = false := by simpa using h48
            have HF : Hid (tidyC s = s.extract 0 (j + 1)) := by show _ = _; unfold tidyC; rw [← HT.out, tl_take_stop (nz (lst s)) j HJ.out HB2.out]
            clear h48 h8
            go_wp2
            go_ret
            exact ⟨ret_bool (by rw [HF.out]; simp), G4.out⟩
end Go.Proofs.YtppelmceojodhaaDoor
