/- THE WALKS of the drawing of rows that are often high. -/
import Derived.Test.YteibopcneflidaaDoorDraw
namespace Go.Proofs.YteibopcneflidaaDoor
open Go.RowKit

/-- between two rounds of l91High -/
def HighRel (w : World) (R : Nat) (a : Option Addr) (len cap : Nat) (z : List Int) (p : Nat) (s level i : Value) (wr : World) : Prop :=
  ∃ (x : ByteArray) (k q : Nat) (l : Int), s = .string x ∧ level = .int .i64 l ∧ i = .int .i64 (k : Int) ∧ -(k : Int) ≤ l ∧ l ≤ k ∧ x.size = k ∧ k ≤ 28 ∧ allSgn x.data.toList = true ∧ q ≤ p + 1 + k ∧ Rd wr R a len cap z q ∧ Below R w wr ∧ wr.heap.size = w.heap.size

/-- what the drawing of a high row leaves -/
def DrawnH (w : World) (R : Nat) (e : Ending) (w' : World) : Prop := ∃ s : ByteArray, e = .returned (.string s) ∧ s.size ≤ 300 ∧ Below R w w'

set_option maxHeartbeats 2000000 in
theorem l91High_any (w : World) (R : Nat) (a : Option Addr) (len cap : Nat) (z : List Int) (p : Nat) (hrd : Rd w R a len cap z p) (hp : p ≤ 500) :
    Calls Tryd.prog 57 #[.pointer (some ⟨R, 0, none⟩)] w (DrawnH w R) := by
  go_enter Tryd.func57, Tryd.ntmps57
  go_wp2_with fail
  refine (pick_any w R a len cap z p 28 hrd (by omega) (by omega) (by omega)).mono ?_
  rintro e w1 ⟨n, rfl, hn1, hn2, hr1, hb1, hz1⟩
  go_wp2_with fail
  go_loopw [3, 4, 6] (HighRel w R a len cap z p) (fun _ _ i _ => (n - intOf i).toNat)
  case atStart => exact ⟨_, 0, _, 0, rfl, rfl, rfl, by omega, by omega, rfl, by omega, rfl, by omega, hr1, hb1, hz1⟩
  case round =>
    obtain ⟨x, k, q, l, rfl, rfl, rfl, hl1, hl2, hx, hk, hs, hq, hr, hb, hz⟩ := hrel
    have HS := hide hs
    have HX := hide hx
    have HB := hide hb
    have HZ := hide hz
    clear hs hx hb hz hr1 hb1 hz1
    by_cases hlt : (k : Int) < n
    · have hsz : x.size + 1 ≤ 1000 := by rw [HX.out]; omega
      by_cases hl0 : 0 < l
      · go_wp2_with fail
        refine (pick_any wr R a len cap z q 2 hr (by omega) (by omega) (by omega)).mono ?_
        rintro e w2 ⟨v, rfl, hv1, hv2, hr2, hb2, hz2⟩
        have HR2 := hide hr2
        have HB2 := hide hb2
        have HZ2 := hide hz2
        clear hr2 hb2 hz2 hr
        cases hv : (v == 0)
        all_goals
          go_wp2_with fail
          go_roundw
          case rel => exact ⟨_, k + 1, q + 1, _, rfl, rfl, by go_num, by omega, by omega, by simp [HX.out]; rfl, by omega, allSgn_push x _ (by rfl) HS.out, by omega, HR2.out, HB.out.trans HB2.out, HZ2.out.trans HZ.out⟩
          case measure => simp [intOf]; omega
      · have HR := hide hr
        clear hr
        go_wp2_with fail
        go_roundw
        case rel => exact ⟨_, k + 1, q, _, rfl, rfl, by go_num, by omega, by omega, by simp [HX.out]; rfl, by omega, allSgn_push x _ (by rfl) HS.out, by omega, HR.out, HB.out, HZ.out⟩
        case measure => simp [intOf]; omega
    · have hsz : x.size ≤ 28 := by rw [HX.out]; omega
      go_wp2_with fail
      refine (pick_any wr R a len cap z q 10 hr (by omega) (by omega) (by omega)).mono ?_
      rintro e w2 ⟨v, rfl, hv1, hv2, hr2, hb2, hz2⟩
      have HB2 := hide (HB.out.trans hb2)
      clear hr hb2 hz2 hrd
      cases h0 : (v == 0)
      · go_wp2_with (go_at_call 45; refine (l1Tidy_any x _ (by unfold maxLen; omega) HS.out).mono ?_; rintro e w3 ⟨rfl, rfl⟩)
        go_ret
        exact ⟨_, rfl, by have := tidyS_le x; omega, HB2.out⟩
      · go_wp2_with fail
        refine (l91Row_any w2 R a len cap z (q + 1) hr2 (by omega)).mono ?_
        rintro e w3 ⟨t, q3, rfl, ht, hq3, hr3, hb3, hz3⟩
        go_wp2_with fail
        go_ret
        exact ⟨t, rfl, ht, HB2.out.trans hb3⟩

end Go.Proofs.YteibopcneflidaaDoor
