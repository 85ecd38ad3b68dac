/- THE DRAWING of circles. -/
import Derived.Test.YtkdhifofdghbbaaDrawC
import Derived.Test.YtkdhifofdghbbaaSCir
namespace Go.Proofs.Ytkdhifofdghbbaa
open Go.RowKit

theorem lit3c (w : World) (t : TypeId) (j : Nat) (hj : j < 3) : ∃ x : ByteArray, x.size ≤ 1 ∧ (w.alloc (.cells #[.string ⟨#[48]⟩, .string ⟨#[48]⟩, .string ⟨#[49]⟩] t)).cell? ⟨w.heap.size, j, none⟩ = some (.string x) := by
  rcases (show j = 0 ∨ j = 1 ∨ j = 2 by omega) with rfl | rfl | rfl
  · exact ⟨⟨#[48]⟩, by decide, by rw [World.cell?_alloc_at _ _ _ _ rfl]; rfl⟩
  · exact ⟨⟨#[48]⟩, by decide, by rw [World.cell?_alloc_at _ _ _ _ rfl]; rfl⟩
  · exact ⟨⟨#[49]⟩, by decide, by rw [World.cell?_alloc_at _ _ _ _ rfl]; rfl⟩

set_option maxHeartbeats 2000000 in
theorem l92Circle_any (w : World) (R : Nat) (a : Option Addr) (len cap : Nat) (z : List Int) (p : Nat) (hrd : Rd w R a len cap z p) (hp : p ≤ 500) :
    Calls Try.prog 35 #[.pointer (some ⟨R, 0, none⟩)] w (DrawnC w R a len cap z p) := by
  go_enter Try.func35, Try.ntmps35
  go_wp2_with fail
  refine (pick2_any w R a len cap z p 16 hrd (by omega) (by omega) (by omega)).mono ?_
  rintro e w1 ⟨v, rfl, hn1, hn2, hr1, hb1, hz1, hg1⟩
  have HR1 := hide hr1
  have HB1 := hide hb1
  have HG1 := hide hg1
  clear hr1 hb1 hz1 hg1 hrd
  obtain ⟨n, hn⟩ : ∃ n : Int, n = 1 + v := ⟨_, rfl⟩
  have hw : IntKind.i64.wrap (1 + v) = n := by rw [hn, IntKind.wrap_i64]; omega
  have hn3 : 1 ≤ n ∧ n ≤ 16 := by omega
  obtain ⟨n0, n1⟩ := hn3
  clear hn hn1 hn2
  go_wp2_with fail
  go_loopw [3, 5] (fun sv i wr => ∃ (x : ByteArray) (k q : Nat), sv = .string x ∧ i = .int .i64 (k : Int) ∧ x.size ≤ k ∧ k ≤ 16 ∧ q ≤ p + 1 + k ∧ Hid (Rd wr R a len cap z q) ∧ Hid (Below R w wr) ∧ Hid (w.grownBy wr (some R))) (fun _ i => fun _ => (n - intOf i).toNat)
  case atStart => exact ⟨_, 0, p + 1, rfl, rfl, Nat.zero_le _, by omega, by omega, HR1, HB1, HG1⟩
  case round =>
    obtain ⟨x, k, q, rfl, rfl, hx, hk, hq, HR, HB, HG⟩ := hrel
    by_cases hlt : (k : Int) < n
    · have hRl := HR.out.lt
      have OF := hide (of_any (wr.alloc (.cells #[.string ⟨#[48]⟩, .string ⟨#[48]⟩, .string ⟨#[49]⟩] 9)) R a len cap z q wr.heap.size 3 3 1 (HR.out.below ((Below.refl (R + 1) wr).alloc hRl _) (Nat.lt_succ_self R)) (by omega) (by omega) (by omega) (fun j hj => lit3c wr _ j hj))
      have HBA := hide (HB.out.alloc (by omega) (.cells #[.string ⟨#[48]⟩, .string ⟨#[48]⟩, .string ⟨#[49]⟩] 9))
      have HGA := hide (HG.out.trans (World.grownBy_alloc wr (.cells #[.string ⟨#[48]⟩, .string ⟨#[48]⟩, .string ⟨#[49]⟩] 9) (some R)))
      go_wp2_with fail
      refine OF.out.mono ?_
      rintro e w2 ⟨t, rfl, ht, hr2, hb2, hg2⟩
      have HR2 := hide hr2
      have HB2 := hide (HBA.out.trans hb2)
      have HG2 := hide (HGA.out.trans hg2)
      have hxt : x.size + t.size ≤ 100 := by omega
      clear hr2 hb2 hg2
      go_wp2_with fail
      go_roundw
      case rel => exact ⟨_, k + 1, q + 1, rfl, by go_num, by rw [ByteArray.size_append]; omega, by omega, by omega, HR2, HB2, HG2⟩
      case measure => simp [intOf]; omega
    · have CB := hide (fun w => l1Balls_any x w (by unfold maxLen; omega))
      have hcb := nballs_le (bits x) x.size
      obtain ⟨c, hc⟩ : ∃ c, c = nballs (bits x) := ⟨_, rfl⟩
      rw [List.take_of_length_le (by rw [length_bits]; exact Nat.le_refl _), ← hc] at hcb
      rw [← hc] at CB
      have w1 : IntKind.i64.wrap (2 * (c : Int)) = 2 * (c : Int) := by rw [IntKind.wrap_i64]; omega
      clear hc
      by_cases hge : n ≤ 2 * (c : Int)
      · go_wp2_with (go_at_call 40; refine (CB.out _).mono ?_; rintro e w' ⟨rfl, rfl⟩)
        refine (pick2_any wr R a len cap z q 6 HR.out (by omega) (by omega) (by omega)).mono ?_
        rintro e w2 ⟨v2, rfl, v0, v1, hr2, hb2, hz2, hg2⟩
        have HR2 := hide hr2
        have HB2 := hide (HB.out.trans hb2)
        have HG2 := hide (HG.out.trans hg2)
        clear hr2 hb2 hz2 hg2
        by_cases hv : 0 < v2
        · obtain ⟨m, hm⟩ : ∃ m : Nat, (m : Int) = 2 * (c : Int) - n + 1 := ⟨(2 * (c : Int) - n + 1).toNat, by omega⟩
          have CM := hide (fun w => l6Many_any ⟨#[48]⟩ m w (by omega) (by decide))
          have hm33 : m ≤ 33 := by omega
          rw [hm] at CM
          have w2' : IntKind.i64.wrap (2 * (c : Int) - n) = 2 * (c : Int) - n := by rw [IntKind.wrap_i64]; omega
          have w3 : IntKind.i64.wrap (2 * (c : Int) - n + 1) = 2 * (c : Int) - n + 1 := by rw [IntKind.wrap_i64]; omega
          clear hm
          go_wp2_with (go_at_call 40; refine (CB.out _).mono ?_; rintro e w' ⟨rfl, rfl⟩)
          refine (CM.out _).mono ?_
          rintro e w' ⟨⟨out, rfl, ho⟩, rfl⟩
          have hos : out.size ≤ 33 := by
            have := congrArg List.length ho
            rw [rep_length] at this
            have h2 : out.data.toList.length = out.size := by simp
            rw [h2] at this
            simp at this
            omega
          have hxo : x.size + out.size ≤ 300 := by omega
          clear ho
          go_wp2_with fail
          go_ret
          exact ⟨_, q + 1, rfl, by rw [ByteArray.size_append]; exact hxo, by omega, HR2.out, HB2.out, HG2.out⟩
        · go_wp2_with fail
          go_ret
          exact ⟨x, q + 1, rfl, by omega, by omega, HR2.out, HB2.out, HG2.out⟩
      · go_wp2_with (go_at_call 40; refine (CB.out _).mono ?_; rintro e w' ⟨rfl, rfl⟩)
        go_ret
        exact ⟨x, q, rfl, by omega, by omega, HR.out, HB.out, HG.out⟩

set_option maxHeartbeats 400000 in
theorem DrawCircleIn_any (a : Option Addr) (len cap : Nat) (z : List Int) (w : World) (hlen : len ≤ 1048576) (hcap : len ≤ cap) (hb : Bytes w a len z) :
    Calls Try.prog 10 #[.slice a len cap] w (DrawnRow w) := by
  go_enter Try.func10, Try.ntmps10
  go_wp2_with fail
  refine (l6Open_any a len cap z w hlen hcap hb).mono ?_
  rintro e w1 ⟨rfl, hr, hb1, hz1⟩
  go_wp2_with fail
  refine (l92Circle_any w1 w.heap.size a _ cap z 0 hr (by omega)).mono ?_
  rintro e w2 ⟨s, q, rfl, hs, hq, hr2, hb2, hg2⟩
  go_wp2_with fail
  go_ret
  exact ⟨s, rfl, hs, hb1.trans hb2⟩

set_option maxHeartbeats 400000 in
theorem DrawCircleTurn_any (a : Option Addr) (len cap : Nat) (z : List Int) (w : World) (hlen : len ≤ 1048576) (hcap : len ≤ cap) (hb : Bytes w a len z) :
    Calls Try.prog 15 #[.slice a len cap] w (DrawnRow w) := by
  go_enter Try.func15, Try.ntmps15
  go_wp2_with fail
  refine (l6Open_any a len cap z w hlen hcap hb).mono ?_
  rintro e w1 ⟨rfl, hr, hb1, hz1⟩
  go_wp2_with fail
  refine (l92Circle_any w1 w.heap.size a _ cap z 0 hr (by omega)).mono ?_
  rintro e w2 ⟨s, q, rfl, hs, hq, hr2, hb2, hg2⟩
  go_wp2_with fail
  go_ret
  exact ⟨s, rfl, hs, hb1.trans hb2⟩

set_option maxHeartbeats 400000 in
theorem DrawCircleBack_any (a : Option Addr) (len cap : Nat) (z : List Int) (w : World) (hlen : len ≤ 1048576) (hcap : len ≤ cap) (hb : Bytes w a len z) :
    Calls Try.prog 19 #[.slice a len cap] w (DrawnRow w) := by
  go_enter Try.func19, Try.ntmps19
  go_wp2_with fail
  refine (l6Open_any a len cap z w hlen hcap hb).mono ?_
  rintro e w1 ⟨rfl, hr, hb1, hz1⟩
  go_wp2_with fail
  refine (l92Circle_any w1 w.heap.size a _ cap z 0 hr (by omega)).mono ?_
  rintro e w2 ⟨s, q, rfl, hs, hq, hr2, hb2, hg2⟩
  go_wp2_with fail
  go_ret
  exact ⟨s, rfl, hs, hb1.trans hb2⟩

set_option maxHeartbeats 400000 in
theorem DrawCircleShape_any (a : Option Addr) (len cap : Nat) (z : List Int) (w : World) (hlen : len ≤ 1048576) (hcap : len ≤ cap) (hb : Bytes w a len z) :
    Calls Try.prog 25 #[.slice a len cap] w (DrawnRow w) := by
  go_enter Try.func25, Try.ntmps25
  go_wp2_with fail
  refine (l6Open_any a len cap z w hlen hcap hb).mono ?_
  rintro e w1 ⟨rfl, hr, hb1, hz1⟩
  go_wp2_with fail
  refine (l92Circle_any w1 w.heap.size a _ cap z 0 hr (by omega)).mono ?_
  rintro e w2 ⟨s, q, rfl, hs, hq, hr2, hb2, hg2⟩
  go_wp2_with fail
  go_ret
  exact ⟨s, rfl, hs, hb1.trans hb2⟩

set_option maxHeartbeats 400000 in
theorem DrawCirclePeriod_any (a : Option Addr) (len cap : Nat) (z : List Int) (w : World) (hlen : len ≤ 1048576) (hcap : len ≤ cap) (hb : Bytes w a len z) :
    Calls Try.prog 27 #[.slice a len cap] w (DrawnRow w) := by
  go_enter Try.func27, Try.ntmps27
  go_wp2_with fail
  refine (l6Open_any a len cap z w hlen hcap hb).mono ?_
  rintro e w1 ⟨rfl, hr, hb1, hz1⟩
  go_wp2_with fail
  refine (l92Circle_any w1 w.heap.size a _ cap z 0 hr (by omega)).mono ?_
  rintro e w2 ⟨s, q, rfl, hs, hq, hr2, hb2, hg2⟩
  go_wp2_with fail
  go_ret
  exact ⟨s, rfl, hs, hb1.trans hb2⟩

/-- a drawing of a circle and a number -/
def DrawnCN (w : World) (e : Ending) (w' : World) : Prop := ∃ (s : ByteArray) (n : Int), e = .returned (.tuple #[.string s, .int .i64 n]) ∧ s.size ≤ 300 ∧ -1 ≤ n ∧ n ≤ 300 ∧ Below w.heap.size w w'
set_option maxHeartbeats 1000000 in
theorem DrawCircleRotate_any (a : Option Addr) (len cap : Nat) (z : List Int) (w : World) (hlen : len ≤ 1048576) (hcap : len ≤ cap) (hb : Bytes w a len z) :
    Calls Try.prog 21 #[.slice a len cap] w (DrawnCN w) := by
  go_enter Try.func21, Try.ntmps21
  go_wp2_with fail
  refine (l6Open_any a len cap z w hlen hcap hb).mono ?_
  rintro e w1 ⟨rfl, hr, hb1, hz1⟩
  go_wp2_with fail
  refine (l92Circle_any w1 w.heap.size a _ cap z 0 hr (by omega)).mono ?_
  rintro e w2 ⟨s, q, rfl, hs, hq, hr2, hb2, hg2⟩
  have HR2 := hide hr2
  have HB2 := hide (hb1.trans hb2)
  clear hr hb1 hz1 hr2 hb2 hg2
  have w1 : IntKind.i64.wrap ((s.size : Int) + 1) = (s.size : Int) + 1 := by rw [IntKind.wrap_i64]; omega
  go_wp2_with fail
  refine (pick2_any w2 w.heap.size a _ cap z q ((s.size : Int) + 1) HR2.out (by omega) (by omega) (by omega)).mono ?_
  rintro e w3 ⟨u, rfl, u0, u1, hr3, hb3, hz3, hg3⟩
  have HR3 := hide hr3
  have HB3 := hide (HB2.out.trans hb3)
  clear hr3 hb3 hz3 hg3
  go_wp2_with fail
  refine (pick2_any w3 w.heap.size a _ cap z (q + 1) 20 HR3.out (by omega) (by omega) (by omega)).mono ?_
  rintro e w4 ⟨v, rfl, v0, v1, hr4, hb4, hz4, hg4⟩
  have HB4 := hide (HB3.out.trans hb4)
  clear hr4 hb4 hz4 hg4
  obtain ⟨d0, d1⟩ := tdiv19b v v0 v1
  obtain ⟨d, hd⟩ : ∃ d, v.tdiv 19 = d := ⟨_, rfl⟩
  rw [hd] at d0 d1
  have e1 : IntKind.i64.wrap d = d := by rw [IntKind.wrap_i64]; omega
  have e2 : IntKind.i64.wrap (u - d) = u - d := by rw [IntKind.wrap_i64]; omega
  have hb : -1 ≤ u - d ∧ u - d ≤ 300 := by omega
  have HBD := hide hb
  clear hb d0 d1 u0 u1 v0 v1
  go_wp2_with fail
  go_ret2
  exact ⟨s, _, rfl, hs, HBD.out.1, HBD.out.2, HB4.out⟩
end Go.Proofs.Ytkdhifofdghbbaa
