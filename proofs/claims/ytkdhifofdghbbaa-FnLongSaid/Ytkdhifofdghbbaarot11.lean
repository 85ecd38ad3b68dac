/- TEXTS SCir, DrawK, Cir7, Cir8. -/
import Derived.Test.Ytkdhifofdghbbaarot10
import Derived.Test.Ytkdhifofdghbbaarot02
import Derived.Test.Ytkdhifofdghbbaarot05
import Derived.Test.Ytkdhifofdghbbaarot09
/- THE WALKS of the model's CircleIn, l6cTurned, CircleRotate. -/
namespace Go.Proofs.Ytkdhifofdghbbaa
open Go.RowKit

/-- 1 to 60 signs -/
def ci60 (s : ByteArray) : Bool := decide ((1 : Int) ≤ (s.size : Int)) && decide ((s.size : Int) ≤ 60)
def ciIn (s : ByteArray) : Bool := vld s && ci60 s && decide (2 * (nballs (bits s) : Int) < (s.size : Int))
theorem ciIn_facts {s : ByteArray} (h : ciIn s = true) : vld s = true ∧ ci60 s = true ∧ 1 ≤ s.size ∧ s.size ≤ 60 ∧ drf (bits s) < 0 := by
  unfold ciIn at h
  rw [Bool.and_eq_true, Bool.and_eq_true] at h
  obtain ⟨⟨h1, h2⟩, h3⟩ := h
  have h2' := h2
  unfold ci60 at h2'
  simp at h2' h3
  refine ⟨h1, h2, by omega, by omega, ?_⟩
  rw [drf_balls, length_bits]
  omega

set_option maxHeartbeats 400000 in
theorem specCircleIn_any (s : ByteArray) (w : World) (hs : s.size ≤ maxLen) :
    Calls Try.prog 12 #[.string s] w fun e w' => e = .returned (.bool (ciIn s)) ∧ w = w' := by
  have CV := hide (fun w => specRowValid_any s w hs)
  have CL := hide (fun w => l6In_any (s.size : Int) 1 60 (ci60 s) w rfl)
  have CB := hide (fun w => l1Balls_any s w hs)
  cases hv : vld s
  · rw [hv] at CV
    have e : ciIn s = false := by unfold ciIn; rw [hv]; rfl
    rw [e]
    clear hv e CB CL
    unfold maxLen at hs
    go_enter Try.func12, Try.ntmps12
    go_wp2_with (go_at_call 38; refine (CV.out _).mono ?_; rintro e w' ⟨rfl, rfl⟩)
    go_ret
    exact ⟨rfl, rfl⟩
  · rw [hv] at CV
    cases h6 : ci60 s
    · rw [h6] at CL
      have e : ciIn s = false := by unfold ciIn; rw [h6, hv]; rfl
      rw [e]
      clear hv h6 e CB
      unfold maxLen at hs
      go_enter Try.func12, Try.ntmps12
      go_wp2_with (first | (go_at_call 38; refine (CV.out _).mono ?_; rintro e w' ⟨rfl, rfl⟩) | (go_at_call 39; refine (CL.out _).mono ?_; rintro e w' ⟨rfl, rfl⟩))
      go_ret
      exact ⟨rfl, rfl⟩
    · rw [h6] at CL
      have e : ciIn s = decide (2 * (nballs (bits s) : Int) < (s.size : Int)) := by unfold ciIn; rw [h6, hv]; rfl
      have hb := nballs_le (bits s) s.size
      rw [← length_bits s, List.take_of_length_le (Nat.le_refl _)] at hb
      have h120 := vld_le s hv
      rw [length_bits] at hb
      rw [e]
      obtain ⟨n, hn⟩ : ∃ n : Int, n = (nballs (bits s) : Int) := ⟨_, rfl⟩
      rw [← hn] at CB ⊢
      have hw : IntKind.i64.wrap (2 * n) = 2 * n := IntWalk.i64_in _ (by omega)
      clear hn hv h6 e hb
      unfold maxLen at hs
      go_enter Try.func12, Try.ntmps12
      go_wp2_with (first | (go_at_call 38; refine (CV.out _).mono ?_; rintro e w' ⟨rfl, rfl⟩) | (go_at_call 39; refine (CL.out _).mono ?_; rintro e w' ⟨rfl, rfl⟩) | (go_at_call 40; refine (CB.out _).mono ?_; rintro e w' ⟨rfl, rfl⟩))
      go_ret
      exact ⟨rfl, rfl⟩

theorem sub_one (t : ByteArray) (k : Nat) (h : k < t.size) : (t.extract k (k + 1)).data.toList = [t[k]] := by
  rw [Lib.extract_data, show k + 1 - k = 1 by omega, List.drop_eq_getElem_cons (by simpa using h)]
  simp
  rfl
set_option maxHeartbeats 400000 in
theorem l6cTurned_any (t : ByteArray) (w : World) (ht : t.size ≤ maxLen) :
    Calls Try.prog 47 #[.string t] w fun e w' => e = .returned (.string (ofL (lst t).reverse)) ∧ w = w' := by
  unfold maxLen at ht
  go_enter Try.func47, Try.ntmps47
  go_wp2
  go_loop [3, 4] (fun o i => ∃ (x : ByteArray) (k : Nat), k ≤ t.size ∧ o = .string x ∧ i = .int .i64 (k : Int) ∧ x.size ≤ k ∧ Hid (x.data.toList = (t.data.toList.take k).reverse)) (fun _ i => t.size - (Go.RowKit.intOf i).toNat)
  case atStart => exact ⟨⟨#[]⟩, 0, Nat.zero_le _, rfl, rfl, Nat.zero_le _, rfl⟩
  case round =>
    obtain ⟨x, k, hk, rfl, rfl, hxk, HX⟩ := hrel
    by_cases hlt : k < t.size
    · have HS := hide (sub_one t k hlt)
      have HT := hide (take_snoc t k hlt)
      go_wp2
      go_round
      case rel =>
        have h1 : (t.extract k (k + 1)).size ≤ 1 := by simp; omega
        have h2 : ((t.extract k (k + 1)) ++ x).size ≤ k + 1 := by rw [ByteArray.size_append]; omega
        refine ⟨_, k + 1, by omega, rfl, by go_num, h2, ?_⟩
        show ((t.extract k (k + 1)) ++ x).data.toList = _
        rw [ByteArray.data_append, Array.toList_append, HS.out, HX.out, HT.out, List.reverse_append]; rfl
      case measure => simp [Go.RowKit.intOf]; omega
    · have HX2 : Hid (x = ofL (lst t).reverse) := by
        show _ = _
        rw [← ofL_lst x]
        show ofL x.data.toList = _
        rw [HX.out, List.take_of_length_le (by simp; omega)]
        rfl
      go_wp2
      go_ret
      exact ⟨ret_string HX2.out, rfl⟩

/-- CircleRotate -/
def rtOk (s : ByteArray) (n : Int) : Bool := ciIn s && (decide ((0 : Int) ≤ n) && decide (n ≤ (s.size : Int)))
def rtS (s : ByteArray) (n : Int) : ByteArray := if rtOk s n then s.extract n.toNat s.size ++ s.extract 0 n.toNat else ByteArray.empty
set_option maxHeartbeats 400000 in
theorem specCircleRotate_any (s : ByteArray) (n : Int) (w : World) (hs : s.size ≤ maxLen) :
    Calls Try.prog 22 #[.string s, .int .i64 n] w fun e w' => e = .returned (.tuple #[.string (rtS s n), .bool (rtOk s n)]) ∧ Quiet w w' := by
  have CI := hide (fun w => specCircleIn_any s w hs)
  have CL := hide (fun w => l6In_any n 0 (s.size : Int) _ w rfl)
  cases h1 : ciIn s
  · rw [h1] at CI
    have e1 : rtOk s n = false := by unfold rtOk; rw [h1]; rfl
    have e2 : rtS s n = ByteArray.empty := by unfold rtS; rw [e1]; rfl
    rw [e1, e2]
    clear e1 e2 h1 hs CL
    go_enter Try.func22, Try.ntmps22
    go_wp2_with (go_at_call 12; refine (CI.out _).mono ?_; rintro e w' ⟨rfl, rfl⟩)
    go_ret2
    exact ⟨rfl, Quiet.refl _⟩
  · rw [h1] at CI
    cases h2 : (decide ((0 : Int) ≤ n) && decide (n ≤ (s.size : Int)))
    · rw [h2] at CL
      have e1 : rtOk s n = false := by unfold rtOk; rw [h1, h2]; rfl
      have e2 : rtS s n = ByteArray.empty := by unfold rtS; rw [e1]; rfl
      rw [e1, e2]
      clear e1 e2 h1 h2
      unfold maxLen at hs
      go_enter Try.func22, Try.ntmps22
      go_wp2_with (first | (go_at_call 12; refine (CI.out _).mono ?_; rintro e w' ⟨rfl, rfl⟩) | (go_at_call 39; refine (CL.out _).mono ?_; rintro e w' ⟨rfl, rfl⟩))
      go_ret2
      exact ⟨rfl, Quiet.refl _⟩
    · rw [h2] at CL
      have e1 : rtOk s n = true := by unfold rtOk; rw [h1, h2]; rfl
      have e2 : rtS s n = s.extract n.toNat s.size ++ s.extract 0 n.toNat := by unfold rtS; rw [e1]; rfl
      rw [e1, e2]
      have hs60 := (ciIn_facts h1).2.2.2.1
      simp at h2
      obtain ⟨n0, n1⟩ := h2
      obtain ⟨m, rfl⟩ := Int.eq_ofNat_of_zero_le n0
      have hm : m ≤ s.size := by omega
      have hz1 : (s.extract m s.size).size ≤ 60 := by simp; omega
      have hz2 : (s.extract 0 m).size ≤ 60 := by simp; omega
      clear e1 e2 h1
      unfold maxLen at hs
      go_enter Try.func22, Try.ntmps22
      go_wp2_with (first | (go_at_call 12; refine (CI.out _).mono ?_; rintro e w' ⟨rfl, rfl⟩) | (go_at_call 39; refine (CL.out _).mono ?_; rintro e w' ⟨rfl, rfl⟩))
      go_quiet (fail)
      go_wp2
      go_ret2
      exact ⟨by simp, Quiet.drewN _⟩
end Go.Proofs.Ytkdhifofdghbbaa

/- THE DRAWING of circles. -/
namespace Go.Proofs.Ytkdhifofdghbbaa
open Go.RowKit

theorem lit3c (w : World) (t : TypeId) (j : Nat) (hj : j < 3) : ∃ x : ByteArray, x.size ≤ 1 ∧ (w.alloc (.cells #[.string ⟨#[48]⟩, .string ⟨#[48]⟩, .string ⟨#[49]⟩] t)).cell? ⟨w.heap.size, j, none⟩ = some (.string x) := by
  rcases (show j = 0 ∨ j = 1 ∨ j = 2 by omega) with rfl | rfl | rfl
  · exact ⟨⟨#[48]⟩, by decide, by rw [World.cell?_alloc_at _ _ _ _ rfl]; rfl⟩
  · exact ⟨⟨#[48]⟩, by decide, by rw [World.cell?_alloc_at _ _ _ _ rfl]; rfl⟩
  · exact ⟨⟨#[49]⟩, by decide, by rw [World.cell?_alloc_at _ _ _ _ rfl]; rfl⟩

set_option maxHeartbeats 2000000 in
theorem l92Circle_any (w : World) (R : Nat) (a : Option Addr) (len cap : Nat) (z : List Int) (p : Nat) (hrd : Rd w R a len cap z p) (hp : p ≤ 500) :
    Calls Try.prog 35 #[.pointer (some ⟨R, 0, none⟩)] w (DrawnC w R a len cap z p) := by
  go_enter Try.func35, Try.ntmps35
  go_wp2_with fail
  refine (pick2_any w R a len cap z p 16 hrd (by omega) (by omega) (by omega)).mono ?_
  rintro e w1 ⟨v, rfl, hn1, hn2, hr1, hb1, hz1, hg1⟩
  have HR1 := hide hr1
  have HB1 := hide hb1
  have HG1 := hide hg1
  clear hr1 hb1 hz1 hg1 hrd
  obtain ⟨n, hn⟩ : ∃ n : Int, n = 1 + v := ⟨_, rfl⟩
  have hw : IntKind.i64.wrap (1 + v) = n := by rw [hn, IntKind.wrap_i64]; omega
  have hn3 : 1 ≤ n ∧ n ≤ 16 := by omega
  obtain ⟨n0, n1⟩ := hn3
  clear hn hn1 hn2
  go_wp2_with fail
  go_loopw [3, 5] (fun sv i wr => ∃ (x : ByteArray) (k q : Nat), sv = .string x ∧ i = .int .i64 (k : Int) ∧ x.size ≤ k ∧ k ≤ 16 ∧ q ≤ p + 1 + k ∧ Hid (Rd wr R a len cap z q) ∧ Hid (Below R w wr) ∧ Hid (w.grownBy wr (some R))) (fun _ i => fun _ => (n - Go.RowKit.intOf i).toNat)
  case atStart => exact ⟨_, 0, p + 1, rfl, rfl, Nat.zero_le _, by omega, by omega, HR1, HB1, HG1⟩
  case round =>
    obtain ⟨x, k, q, rfl, rfl, hx, hk, hq, HR, HB, HG⟩ := hrel
    by_cases hlt : (k : Int) < n
    · have hRl := HR.out.lt
      have OF := hide (of_any (wr.alloc (.cells #[.string ⟨#[48]⟩, .string ⟨#[48]⟩, .string ⟨#[49]⟩] 9)) R a len cap z q wr.heap.size 3 3 1 (HR.out.below ((Below.refl (R + 1) wr).alloc hRl _) (Nat.lt_succ_self R)) (by omega) (by omega) (by omega) (fun j hj => lit3c wr _ j hj))
      have HBA := hide (HB.out.alloc (by omega) (.cells #[.string ⟨#[48]⟩, .string ⟨#[48]⟩, .string ⟨#[49]⟩] 9))
      have HGA := hide (HG.out.trans (World.grownBy_alloc wr (.cells #[.string ⟨#[48]⟩, .string ⟨#[48]⟩, .string ⟨#[49]⟩] 9) (some R)))
      go_wp2_with fail
      refine OF.out.mono ?_
      rintro e w2 ⟨t, rfl, ht, hr2, hb2, hg2⟩
      have HR2 := hide hr2
      have HB2 := hide (HBA.out.trans hb2)
      have HG2 := hide (HGA.out.trans hg2)
      have hxt : x.size + t.size ≤ 100 := by omega
      clear hr2 hb2 hg2
      go_wp2_with fail
      go_roundw
      case rel => exact ⟨_, k + 1, q + 1, rfl, by go_num, by rw [ByteArray.size_append]; omega, by omega, by omega, HR2, HB2, HG2⟩
      case measure => simp [Go.RowKit.intOf]; omega
    · have CB := hide (fun w => l1Balls_any x w (by unfold maxLen; omega))
      have hcb := nballs_le (bits x) x.size
      obtain ⟨c, hc⟩ : ∃ c, c = nballs (bits x) := ⟨_, rfl⟩
      rw [List.take_of_length_le (by rw [length_bits]; exact Nat.le_refl _), ← hc] at hcb
      rw [← hc] at CB
      have w1 : IntKind.i64.wrap (2 * (c : Int)) = 2 * (c : Int) := by rw [IntKind.wrap_i64]; omega
      clear hc
      by_cases hge : n ≤ 2 * (c : Int)
      · go_wp2_with (go_at_call 40; refine (CB.out _).mono ?_; rintro e w' ⟨rfl, rfl⟩)
        refine (pick2_any wr R a len cap z q 6 HR.out (by omega) (by omega) (by omega)).mono ?_
        rintro e w2 ⟨v2, rfl, v0, v1, hr2, hb2, hz2, hg2⟩
        have HR2 := hide hr2
        have HB2 := hide (HB.out.trans hb2)
        have HG2 := hide (HG.out.trans hg2)
        clear hr2 hb2 hz2 hg2
        by_cases hv : 0 < v2
        · obtain ⟨m, hm⟩ : ∃ m : Nat, (m : Int) = 2 * (c : Int) - n + 1 := ⟨(2 * (c : Int) - n + 1).toNat, by omega⟩
          have CM := hide (fun w => l6Many_any ⟨#[48]⟩ m w (by omega) (by decide))
          have hm33 : m ≤ 33 := by omega
          rw [hm] at CM
          have w2' : IntKind.i64.wrap (2 * (c : Int) - n) = 2 * (c : Int) - n := by rw [IntKind.wrap_i64]; omega
          have w3 : IntKind.i64.wrap (2 * (c : Int) - n + 1) = 2 * (c : Int) - n + 1 := by rw [IntKind.wrap_i64]; omega
          clear hm
          go_wp2_with (go_at_call 40; refine (CB.out _).mono ?_; rintro e w' ⟨rfl, rfl⟩)
          refine (CM.out _).mono ?_
          rintro e w' ⟨⟨out, rfl, ho⟩, rfl⟩
          have hos : out.size ≤ 33 := by
            have := congrArg List.length ho
            rw [rep_length] at this
            have h2 : out.data.toList.length = out.size := by simp
            rw [h2] at this
            simp at this
            omega
          have hxo : x.size + out.size ≤ 300 := by omega
          clear ho
          go_wp2_with fail
          go_ret
          exact ⟨_, q + 1, rfl, by rw [ByteArray.size_append]; exact hxo, by omega, HR2.out, HB2.out, HG2.out⟩
        · go_wp2_with fail
          go_ret
          exact ⟨x, q + 1, rfl, by omega, by omega, HR2.out, HB2.out, HG2.out⟩
      · go_wp2_with (go_at_call 40; refine (CB.out _).mono ?_; rintro e w' ⟨rfl, rfl⟩)
        go_ret
        exact ⟨x, q, rfl, by omega, by omega, HR.out, HB.out, HG.out⟩

set_option maxHeartbeats 400000 in
theorem DrawCircleIn_any (a : Option Addr) (len cap : Nat) (z : List Int) (w : World) (hlen : len ≤ 1048576) (hcap : len ≤ cap) (hb : Bytes w a len z) :
    Calls Try.prog 10 #[.slice a len cap] w (DrawnRow w) := by
  go_enter Try.func10, Try.ntmps10
  go_wp2_with fail
  refine (l6Open_any a len cap z w hlen hcap hb).mono ?_
  rintro e w1 ⟨rfl, hr, hb1, hz1⟩
  go_wp2_with fail
  refine (l92Circle_any w1 w.heap.size a _ cap z 0 hr (by omega)).mono ?_
  rintro e w2 ⟨s, q, rfl, hs, hq, hr2, hb2, hg2⟩
  go_wp2_with fail
  go_ret
  exact ⟨s, rfl, hs, hb1.trans hb2⟩

set_option maxHeartbeats 400000 in
theorem DrawCircleTurn_any (a : Option Addr) (len cap : Nat) (z : List Int) (w : World) (hlen : len ≤ 1048576) (hcap : len ≤ cap) (hb : Bytes w a len z) :
    Calls Try.prog 15 #[.slice a len cap] w (DrawnRow w) := by
  go_enter Try.func15, Try.ntmps15
  go_wp2_with fail
  refine (l6Open_any a len cap z w hlen hcap hb).mono ?_
  rintro e w1 ⟨rfl, hr, hb1, hz1⟩
  go_wp2_with fail
  refine (l92Circle_any w1 w.heap.size a _ cap z 0 hr (by omega)).mono ?_
  rintro e w2 ⟨s, q, rfl, hs, hq, hr2, hb2, hg2⟩
  go_wp2_with fail
  go_ret
  exact ⟨s, rfl, hs, hb1.trans hb2⟩

set_option maxHeartbeats 400000 in
theorem DrawCircleBack_any (a : Option Addr) (len cap : Nat) (z : List Int) (w : World) (hlen : len ≤ 1048576) (hcap : len ≤ cap) (hb : Bytes w a len z) :
    Calls Try.prog 19 #[.slice a len cap] w (DrawnRow w) := by
  go_enter Try.func19, Try.ntmps19
  go_wp2_with fail
  refine (l6Open_any a len cap z w hlen hcap hb).mono ?_
  rintro e w1 ⟨rfl, hr, hb1, hz1⟩
  go_wp2_with fail
  refine (l92Circle_any w1 w.heap.size a _ cap z 0 hr (by omega)).mono ?_
  rintro e w2 ⟨s, q, rfl, hs, hq, hr2, hb2, hg2⟩
  go_wp2_with fail
  go_ret
  exact ⟨s, rfl, hs, hb1.trans hb2⟩

set_option maxHeartbeats 400000 in
theorem DrawCircleShape_any (a : Option Addr) (len cap : Nat) (z : List Int) (w : World) (hlen : len ≤ 1048576) (hcap : len ≤ cap) (hb : Bytes w a len z) :
    Calls Try.prog 25 #[.slice a len cap] w (DrawnRow w) := by
  go_enter Try.func25, Try.ntmps25
  go_wp2_with fail
  refine (l6Open_any a len cap z w hlen hcap hb).mono ?_
  rintro e w1 ⟨rfl, hr, hb1, hz1⟩
  go_wp2_with fail
  refine (l92Circle_any w1 w.heap.size a _ cap z 0 hr (by omega)).mono ?_
  rintro e w2 ⟨s, q, rfl, hs, hq, hr2, hb2, hg2⟩
  go_wp2_with fail
  go_ret
  exact ⟨s, rfl, hs, hb1.trans hb2⟩

set_option maxHeartbeats 400000 in
theorem DrawCirclePeriod_any (a : Option Addr) (len cap : Nat) (z : List Int) (w : World) (hlen : len ≤ 1048576) (hcap : len ≤ cap) (hb : Bytes w a len z) :
    Calls Try.prog 27 #[.slice a len cap] w (DrawnRow w) := by
  go_enter Try.func27, Try.ntmps27
  go_wp2_with fail
  refine (l6Open_any a len cap z w hlen hcap hb).mono ?_
  rintro e w1 ⟨rfl, hr, hb1, hz1⟩
  go_wp2_with fail
  refine (l92Circle_any w1 w.heap.size a _ cap z 0 hr (by omega)).mono ?_
  rintro e w2 ⟨s, q, rfl, hs, hq, hr2, hb2, hg2⟩
  go_wp2_with fail
  go_ret
  exact ⟨s, rfl, hs, hb1.trans hb2⟩

/-- a drawing of a circle and a number -/
def DrawnCN (w : World) (e : Ending) (w' : World) : Prop := ∃ (s : ByteArray) (n : Int), e = .returned (.tuple #[.string s, .int .i64 n]) ∧ s.size ≤ 300 ∧ -1 ≤ n ∧ n ≤ 300 ∧ Below w.heap.size w w'
set_option maxHeartbeats 1000000 in
theorem DrawCircleRotate_any (a : Option Addr) (len cap : Nat) (z : List Int) (w : World) (hlen : len ≤ 1048576) (hcap : len ≤ cap) (hb : Bytes w a len z) :
    Calls Try.prog 21 #[.slice a len cap] w (DrawnCN w) := by
  go_enter Try.func21, Try.ntmps21
  go_wp2_with fail
  refine (l6Open_any a len cap z w hlen hcap hb).mono ?_
  rintro e w1 ⟨rfl, hr, hb1, hz1⟩
  go_wp2_with fail
  refine (l92Circle_any w1 w.heap.size a _ cap z 0 hr (by omega)).mono ?_
  rintro e w2 ⟨s, q, rfl, hs, hq, hr2, hb2, hg2⟩
  have HR2 := hide hr2
  have HB2 := hide (hb1.trans hb2)
  clear hr hb1 hz1 hr2 hb2 hg2
  have w1 : IntKind.i64.wrap ((s.size : Int) + 1) = (s.size : Int) + 1 := by rw [IntKind.wrap_i64]; omega
  go_wp2_with fail
  refine (pick2_any w2 w.heap.size a _ cap z q ((s.size : Int) + 1) HR2.out (by omega) (by omega) (by omega)).mono ?_
  rintro e w3 ⟨u, rfl, u0, u1, hr3, hb3, hz3, hg3⟩
  have HR3 := hide hr3
  have HB3 := hide (HB2.out.trans hb3)
  clear hr3 hb3 hz3 hg3
  go_wp2_with fail
  refine (pick2_any w3 w.heap.size a _ cap z (q + 1) 20 HR3.out (by omega) (by omega) (by omega)).mono ?_
  rintro e w4 ⟨v, rfl, v0, v1, hr4, hb4, hz4, hg4⟩
  have HB4 := hide (HB3.out.trans hb4)
  clear hr4 hb4 hz4 hg4
  obtain ⟨d0, d1⟩ := tdiv19b v v0 v1
  obtain ⟨d, hd⟩ : ∃ d, v.tdiv 19 = d := ⟨_, rfl⟩
  rw [hd] at d0 d1
  have e1 : IntKind.i64.wrap d = d := by rw [IntKind.wrap_i64]; omega
  have e2 : IntKind.i64.wrap (u - d) = u - d := by rw [IntKind.wrap_i64]; omega
  have hb : -1 ≤ u - d ∧ u - d ≤ 300 := by omega
  have HBD := hide hb
  clear hb d0 d1 u0 u1 v0 v1
  go_wp2_with fail
  go_ret2
  exact ⟨s, _, rfl, hs, HBD.out.1, HBD.out.2, HB4.out⟩
end Go.Proofs.Ytkdhifofdghbbaa

/- CIRCLES. Pure: no walk. The boxes that are left behind some rounds, as indexes. -/
namespace Go.Proofs.Ytkdhifofdghbbaa

/-- the signs of some boxes -/
def sgs (l : List Bool) (left : List Nat) : List Bool := left.map fun i => l.getD i false
theorem sel_map {α β : Type} (f : α → β) : ∀ (m : List Bool) (l : List α), (sel m l).map f = sel m (l.map f)
  | [], _ => by simp [sel]
  | _ :: _, [] => by simp [sel]
  | b :: m, x :: l => by
    have ih := sel_map f m l
    cases b <;> simp [sel, ih]
theorem sel_mem {α : Type} : ∀ (m : List Bool) (l : List α) (x : α), x ∈ sel m l → x ∈ l
  | [], _, _, h => by simp [sel] at h
  | _ :: _, [], _, h => by simp [sel] at h
  | b :: m, y :: l, x, h => by
    cases b
    · simp only [sel] at h
      exact List.mem_cons_of_mem _ (sel_mem m l x (by simpa using h))
    · simp only [sel] at h
      rcases List.mem_cons.1 (by simpa using h) with rfl | h
      · exact List.mem_cons_self ..
      · exact List.mem_cons_of_mem _ (sel_mem m l x h)
theorem sel_out {α : Type} : ∀ (m : List Bool) (l : List α) (x : α), m.length = l.length → x ∈ l → x ∉ sel m l → ∃ j : Nat, m[j]? = some false ∧ l[j]? = some x
  | [], [], x, _, h, _ => by simp at h
  | [], _ :: _, _, h, _, _ => by simp at h
  | _ :: _, [], _, h, _, _ => by simp at h
  | b :: m, y :: l, x, hl, h, hn => by
    cases b
    · rcases List.mem_cons.1 h with rfl | h
      · exact ⟨0, rfl, rfl⟩
      · obtain ⟨j, h1, h2⟩ := sel_out m l x (by simpa using hl) h (by simpa [sel] using hn)
        exact ⟨j + 1, h1, h2⟩
    · have hn' : x ≠ y ∧ x ∉ sel m l := by simpa [sel] using hn
      rcases List.mem_cons.1 h with e | h
      · exact absurd e hn'.1
      · obtain ⟨j, h1, h2⟩ := sel_out m l x (by simpa using hl) h hn'.2
        exact ⟨j + 1, h1, h2⟩
/-- what is known behind some rounds -/
def Stg (l : List Bool) (left : List Nat) : Prop :=
  drf (sgs l left) < 0 ∧ (∀ i ∈ left, i < l.length) ∧ cturn (sgs l left) = sgs (cturn l) left ∧
  ∀ i, i < l.length → i ∉ left → (cturn l).getD i false = !(l.getD i false)
theorem sgs_all (l : List Bool) : sgs l (List.range l.length) = l := by
  unfold sgs
  refine List.ext_getElem? fun j => ?_
  rw [List.getElem?_map]
  by_cases hj : j < l.length
  · rw [List.getElem?_range hj, List.getElem?_eq_getElem hj]
    simp [List.getD, hj]
  · rw [List.getElem?_eq_none_iff.2 (by rw [List.length_range]; omega), List.getElem?_eq_none_iff.2 (by omega)]
    rfl
theorem stg_start {l : List Bool} (h : drf l < 0) : Stg l (List.range l.length) := by
  refine ⟨by rw [sgs_all]; exact h, fun i hi => List.mem_range.1 hi, ?_, fun i hi hn => absurd (List.mem_range.2 hi) hn⟩
  rw [sgs_all]
  have := sgs_all (cturn l)
  rw [cturn_length] at this
  exact this.symm
/-- the boxes that are left behind one round more -/
def nxt (l : List Bool) (left : List Nat) : List Nat := sel (cm (sgs l left)) left
theorem nxt_signs (l : List Bool) (left : List Nat) : sgs l (nxt l left) = c10 (sgs l left) := by
  unfold nxt sgs
  rw [sel_map, c10_sel]
theorem stg_step {l : List Bool} {left : List Nat} (h : Stg l left) : Stg l (nxt l left) := by
  obtain ⟨h1, h2, h3, h4⟩ := h
  refine ⟨by rw [nxt_signs, c10_drf]; exact h1, fun i hi => h2 i (sel_mem _ _ i hi), ?_, fun i hi hn => ?_⟩
  · rw [nxt_signs, cturn_sel h1, h3]
    unfold nxt
    conv => rhs; unfold sgs
    rw [sel_map]
    rfl
  · by_cases hm : i ∈ left
    · obtain ⟨j, j1, j2⟩ := sel_out (cm (sgs l left)) left i (by rw [cm_length]; simp [sgs]) hm hn
      have e1 : (sgs l left)[j]? = some (l.getD i false) := by unfold sgs; rw [List.getElem?_map, j2]; rfl
      have e2 : (sgs (cturn l) left)[j]? = some ((cturn l).getD i false) := by unfold sgs; rw [List.getElem?_map, j2]; rfl
      have e3 := cturn_other h1 j1 e1
      rw [h3, e2] at e3
      injection e3
    · exact h4 i hi hm
/-- at the end: a turn's balls lie in the empty boxes that were paired -/
theorem stg_end {l : List Bool} {left : List Nat} (h : Stg l left) (he : (c10 (sgs l left)).length = (sgs l left).length) (i : Nat) (hi : i < l.length) :
    (cturn l).getD i false = (!(decide (i ∈ left)) && !(l.getD i false)) := by
  obtain ⟨h1, h2, h3, h4⟩ := h
  by_cases hm : i ∈ left
  · have hz := c10_none h1 he
    have hs := cturn_still hz
    rw [h3] at hs
    have hall : ∀ x ∈ sgs l left, x = false := by
      intro x hx
      cases x
      · rfl
      · unfold nballs at hz
        exact absurd hx (List.count_eq_zero.1 hz)
    have e : sgs (cturn l) left = sgs l left := hs
    have m1 : (cturn l).getD i false ∈ sgs (cturn l) left := List.mem_map.2 ⟨i, hm, rfl⟩
    rw [e] at m1
    rw [hall _ m1]
    simp [hm]
  · rw [h4 i hi hm]
    simp [hm]
/-- rounds behind rounds -/
theorem cnt_step {l : List Bool} {left : List Nat} (f : Nat) (he : (c10 (sgs l left)).length ≠ (sgs l left).length) :
    cnt10 (f + 1) (sgs l left) = ((sgs l left).length - (c10 (sgs l left)).length) / 2 :: cnt10 f (sgs l (nxt l left)) := by
  rw [nxt_signs]
  simp only [cnt10]
  rw [if_neg he]
end Go.Proofs.Ytkdhifofdghbbaa

/- CIRCLES AS TEXTS: what the model answers, and the facts of promises 43 to 48. Pure: no walk. -/
namespace Go.Proofs.Ytkdhifofdghbbaa
open Go.RowKit

def ofB (l : List Bool) : ByteArray := ofL (chC 49 l)
theorem bits_ofB (l : List Bool) : bits (ofB l) = l := by
  unfold ofB ofL bits chC
  simp only [List.map_map]
  have : l.map ((fun x : UInt8 => x == 49) ∘ fun b => if b = true then (49 : UInt8) else 48) = l.map id := List.map_congr_left (fun b _ => by cases b <;> rfl)
  rw [this, List.map_id]
theorem ofB_size (l : List Bool) : (ofB l).size = l.length := by rw [← length_bits, bits_ofB]
theorem vld_ofB {l : List Bool} (h : l.length ≤ 120) : vld (ofB l) = true := by
  unfold vld
  rw [Bool.and_eq_true]
  refine ⟨?_, by rw [ofB_size]; simpa using h⟩
  unfold allSgn
  rw [List.all_eq_true]
  intro x hx
  have hx' : x ∈ chC 49 l := hx
  unfold chC at hx'
  obtain ⟨b, _, rfl⟩ := List.mem_map.1 hx'
  cases b <;> rfl
theorem ofB_bits {s : ByteArray} (h : vld s = true) : ofB (bits s) = s := by
  have h1 := vld_sgn s h
  unfold allSgn at h1
  rw [List.all_eq_true] at h1
  have e : chC 49 (bits s) = lst s := by
    unfold chC bits lst
    rw [List.map_map]
    have e : s.data.toList.map ((fun b => if b = true then (49 : UInt8) else 48) ∘ fun x => x == 49) = s.data.toList.map id := by
      refine List.map_congr_left (fun x hx => ?_)
      have hs := h1 x hx
      unfold sgn at hs
      rw [Bool.or_eq_true, beq_iff_eq, beq_iff_eq] at hs
      rcases hs with rfl | rfl <;> rfl
    rw [e, List.map_id]
  unfold ofB
  rw [e, ofL_lst]
/-- a list that is a circle -/
theorem ciIn_ofB {l : List Bool} (h0 : l.length ≤ 60) (h : drf l < 0) : ciIn (ofB l) = true := by
  have hne : 1 ≤ l.length := by
    cases l with
    | nil => simp [drf] at h
    | cons x l => simp
  rw [drf_balls] at h
  unfold ciIn ci60
  rw [vld_ofB (by omega), bits_ofB, ofB_size]
  simp
  omega

/-- CircleTurn, CircleBack -/
def ctS (s : ByteArray) : ByteArray := if ciIn s then ofB (cturn (bits s)) else ByteArray.empty
def cbS (s : ByteArray) : ByteArray := if ciIn s then ofB (cturn (bits s).reverse).reverse else ByteArray.empty
theorem ctS_facts {s : ByteArray} (h : ciIn s = true) : bits (ctS s) = cturn (bits s) ∧ ciIn (ctS s) = true ∧ (ctS s).size = s.size ∧ nballs (bits (ctS s)) = nballs (bits s) := by
  obtain ⟨_, _, _, h60, hd⟩ := ciIn_facts h
  have e : ctS s = ofB (cturn (bits s)) := by unfold ctS; rw [if_pos h]
  have hl : (cturn (bits s)).length = s.size := by rw [cturn_length, length_bits]
  have hd2 := cturn_drf hd
  rw [e, bits_ofB, ofB_size]
  refine ⟨rfl, ciIn_ofB (by omega) (by omega), hl, ?_⟩
  rw [drf_balls, drf_balls, cturn_length] at hd2
  omega
theorem cbS_facts {s : ByteArray} (h : ciIn s = true) : bits (cbS s) = (cturn (bits s).reverse).reverse ∧ ciIn (cbS s) = true ∧ (cbS s).size = s.size := by
  obtain ⟨_, _, _, h60, hd⟩ := ciIn_facts h
  have e : cbS s = ofB (cturn (bits s).reverse).reverse := by unfold cbS; rw [if_pos h]
  have hl : (cturn (bits s).reverse).reverse.length = s.size := by rw [List.length_reverse, cturn_length, List.length_reverse, length_bits]
  have hd2 : drf (bits s).reverse < 0 := by rw [drf_rev]; exact hd
  rw [e, bits_ofB, ofB_size]
  exact ⟨rfl, ciIn_ofB (by omega) (by rw [drf_rev, cturn_drf hd2]; exact hd2), hl⟩
/-- P44 -/
theorem turn_back_S {s : ByteArray} (h : ciIn s = true) : cbS (ctS s) = s := by
  obtain ⟨hv, _, _, _, hd⟩ := ciIn_facts h
  obtain ⟨h1, h2, _, _⟩ := ctS_facts h
  unfold cbS
  rw [if_pos h2, h1, cturn_back hd, List.reverse_reverse, ofB_bits hv]
/-- P45 -/
theorem back_turn_S {s : ByteArray} (h : ciIn s = true) : ctS (cbS s) = s := by
  obtain ⟨hv, _, _, _, hd⟩ := ciIn_facts h
  obtain ⟨h1, h2, _⟩ := cbS_facts h
  unfold ctS
  rw [if_pos h2, h1, cback_turn hd, ofB_bits hv]
/-- P44: none in the same box -/
theorem turn_apart {s : ByteArray} (h : ciIn s = true) {j : Nat} (hj : (bits s)[j]? = some true) : (bits (ctS s))[j]? = some false := by
  rw [(ctS_facts h).1]
  exact tn_apart _ _ _ hj

/-- CircleShape -/
def cshB (l : List Bool) : List Nat := shp (cnt10 (nballs l) l)
theorem cshB_turn {l : List Bool} (h : drf l < 0) : cshB (cturn l) = cshB l := by
  have e : nballs (cturn l) = nballs l := by
    have := cturn_drf h
    rw [drf_balls, drf_balls, cturn_length] at this
    omega
  unfold cshB
  rw [e, rounds_turn _ h]
theorem nballs_rot {l l' : List Bool} (h : Rot l l') : nballs l = nballs l' := by
  obtain ⟨a, b, rfl, rfl⟩ := h
  unfold nballs
  rw [List.count_append, List.count_append]
  omega
theorem cshB_rot {l l' : List Bool} (h : Rot l l') : cshB l = cshB l' := by
  unfold cshB
  rw [nballs_rot h, cnt10_rot _ h]

/-- CirclePeriod: the first of some turns that brings the circle back -/
def perB (l : List Bool) : Nat → Nat → Nat
  | 0, _ => 0
  | f + 1, n => if cturns n l = l then n else perB l f (n + 1)
theorem perB_turn {l : List Bool} (h : drf l < 0) : ∀ f n : Nat, perB (cturn l) f n = perB l f n
  | 0, _ => rfl
  | f + 1, n => by
    simp only [perB]
    rw [perB_turn h f (n + 1)]
    have := period_turn h n
    by_cases e : cturns n l = l
    · rw [if_pos e, if_pos (this.2 e)]
    · rw [if_neg e, if_neg (fun h => e (this.1 h))]
theorem perB_ge (l : List Bool) : ∀ f n : Nat, perB l f n = 0 ∨ n ≤ perB l f n
  | 0, _ => .inl rfl
  | f + 1, n => by
    simp only [perB]
    split
    · exact .inr (Nat.le_refl _)
    · rcases perB_ge l f (n + 1) with h | h
      · exact .inl h
      · exact .inr (by omega)
/-- P48: 1 exactly without balls -/
theorem perB_one (l : List Bool) (f : Nat) : perB l (f + 1) 1 = 1 ↔ nballs l = 0 := by
  have e : cturns 1 l = cturn l := rfl
  constructor
  · intro h
    simp only [perB] at h
    split at h
    · rename_i h1
      rw [e] at h1
      have := period_one h1
      unfold nballs
      rw [List.count_eq_zero]
      intro hm
      exact absurd (this true hm) (by simp)
    · have h3 : perB l f 2 = 1 := h
      rcases perB_ge l f 2 with h2 | h2
      · rw [h3] at h2; exact absurd h2 (by simp)
      · rw [h3] at h2; exact absurd h2 (by simp)
  · intro h
    simp only [perB]
    rw [if_pos (by rw [e]; exact cturn_still h)]
end Go.Proofs.Ytkdhifofdghbbaa
