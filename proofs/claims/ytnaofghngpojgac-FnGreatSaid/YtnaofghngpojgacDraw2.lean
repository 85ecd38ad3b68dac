/- THE WALKS of the drawing of rows. -/
import Derived.Test.YtnaofghngpojgacDraw
namespace Go.Proofs.Ytnaofghngpojgac
open Go.RowKit

/-- what the drawing of a text leaves -/
def DrawnS (w : World) (R : Nat) (a : Option Addr) (len cap : Nat) (z : List Int) (p : Nat) (e : Ending) (w' : World) : Prop :=
  ∃ (s : ByteArray) (q : Nat), e = .returned (.string s) ∧ s.size ≤ 300 ∧ q ≤ p + 70 ∧ Rd w' R a len cap z q ∧ Below R w w' ∧ w'.heap.size = w.heap.size
/-- the same, of signs alone -/
def DrawnRel (w : World) (R : Nat) (a : Option Addr) (len cap : Nat) (z : List Int) (p d : Nat) (s : Value) (i : Value) (wr : World) : Prop :=
  ∃ (x : ByteArray) (k q : Nat), s = .string x ∧ i = .int .i64 (k : Int) ∧ x.size = k ∧ k ≤ 28 ∧ allSgn x.data.toList = true ∧ q ≤ p + 1 + d * k ∧ Rd wr R a len cap z q ∧ Below R w wr ∧ wr.heap.size = w.heap.size

theorem allSgn_push (x : ByteArray) (c : UInt8) (hc : sgn c = true) (h : allSgn x.data.toList = true) : allSgn (x ++ ⟨#[c]⟩).data.toList = true := by
  unfold allSgn at h ⊢
  simp [ByteArray.data_append, hc]
  simpa using h

theorem tidyS_le (x : ByteArray) : (tidyS x).size ≤ x.size := by
  unfold tidyS; simp; omega
theorem many61 (w : World) : Calls Try.prog 39 #[.string ⟨#[49, 48]⟩, .int .i64 61] w fun e w' => (∃ out : ByteArray, e = .returned (.string out) ∧ out.size = 122) ∧ w = w' :=
  (l6Many_any ⟨#[49, 48]⟩ 61 w (by omega) (by decide)).mono fun e w' ⟨⟨out, he, ho⟩, hw⟩ => ⟨⟨out, he, by have := congrArg List.length ho; rw [rep_length] at this; exact this⟩, hw⟩

set_option maxHeartbeats 1000000 in
theorem l91Row_any (w : World) (R : Nat) (a : Option Addr) (len cap : Nat) (z : List Int) (p : Nat) (hrd : Rd w R a len cap z p) (hp : p ≤ 1000) :
    Calls Try.prog 27 #[.pointer (some ⟨R, 0, none⟩)] w (DrawnS w R a len cap z p) := by
  go_enter Try.func27, Try.ntmps27
  go_wp2_with fail
  refine (pick_any w R a len cap z p 28 hrd (by omega) (by omega) (by omega)).mono ?_
  rintro e w1 ⟨n, rfl, hn1, hn2, hr1, hb1, hz1⟩
  go_wp2_with fail
  go_loopw [3, 5] (DrawnRel w R a len cap z p 1) (fun _ i _ => (n - intOf i).toNat)
  case atStart => exact ⟨_, 0, _, rfl, rfl, rfl, by omega, rfl, by omega, hr1, hb1, hz1⟩
  case round =>
    obtain ⟨x, k, q, rfl, rfl, hx, hk, hs, hq, hr, hb, hz⟩ := hrel
    have HS := hide hs
    have HX := hide hx
    have HB := hide hb
    have HZ := hide hz
    clear hs hx hb hz hr1 hb1 hz1
    by_cases hlt : (k : Int) < n
    · have hsz : x.size + 1 ≤ 1000 := by rw [HX.out]; omega
      go_wp2_with fail
      refine (pick_any wr R a len cap z q 3 hr (by omega) (by omega) (by omega)).mono ?_
      rintro e w2 ⟨v, rfl, hv1, hv2, hr2, hb2, hz2⟩
      have HR2 := hide hr2
      have HB2 := hide hb2
      have HZ2 := hide hz2
      clear hr2 hb2 hz2 hr
      cases hv : (v == 0)
      all_goals
        go_wp2_with fail
        go_roundw
        case rel => exact ⟨_, k + 1, q + 1, rfl, by go_num, by simp [HX.out]; rfl, by omega, allSgn_push x _ (by rfl) HS.out, by omega, HR2.out, HB.out.trans HB2.out, HZ2.out.trans HZ.out⟩
        case measure => simp [intOf]; omega
    · go_wp2_with fail
      refine (pick_any wr R a len cap z q 24 hr (by omega) (by omega) (by omega)).mono ?_
      rintro e w2 ⟨v, rfl, hv1, hv2, hr2, hb2, hz2⟩
      have hsz : x.size ≤ 28 := by rw [HX.out]; omega
      have fin : ∀ t : ByteArray, t.size ≤ 300 → DrawnS w R a len cap z p (.returned (.string t)) w2 := fun t ht => ⟨t, q + 1, rfl, ht, by omega, hr2, HB.out.trans hb2, hz2.trans HZ.out⟩
      have FIN := hide fin
      clear fin hr2 hb2 hz2 hr hrd
      cases h0 : (v == 0)
      · cases h1 : (v == 1)
        · cases h2 : (v == 2)
          · go_wp2_with (go_at_call 22; refine (l1Tidy_any x _ (by unfold maxLen; omega) HS.out).mono ?_; rintro e w3 ⟨rfl, rfl⟩)
            go_ret
            exact FIN.out _ (by have := tidyS_le x; omega)
          · go_wp2
            go_ret
            exact FIN.out _ (by omega)
        · go_wp2_with (go_at_call 39; refine (many61 _).mono ?_; rintro e w3 ⟨⟨out, rfl, hout⟩, rfl⟩)
          · go_ret
            exact FIN.out _ (by simp; omega)
      · go_wp2
        go_ret
        exact FIN.out _ (by have : (⟨#[50]⟩ : ByteArray).size = 1 := rfl; simp; omega)
end Go.Proofs.Ytnaofghngpojgac
