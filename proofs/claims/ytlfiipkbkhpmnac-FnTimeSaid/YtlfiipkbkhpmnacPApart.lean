/- THE DRAWING of rows that are often apart; THE WALKS of the laws FnApart, FnShapeRow, FnTime. -/
import Derived.Test.YtlfiipkbkhpmnacExact4
import Derived.Test.YtlfiipkbkhpmnacExact3
import Derived.Test.YtlfiipkbkhpmnacTimeF
import Derived.Test.YtlfiipkbkhpmnacSShape
import Derived.Test.YtlfiipkbkhpmnacDraw6
import Derived.Test.YtlfiipkbkhpmnacPEnergy
import Derived.IntWalk
namespace Go.Proofs.Ytlfiipkbkhpmnac
open Go.RowKit

set_option maxRecDepth 100000 in
set_option maxHeartbeats 1000000 in
theorem DrawShapeApart_any (a : Option Addr) (len cap : Nat) (z : List Int) (w : World) (hlen : len ≤ 1048576) (hcap : len ≤ cap) (hb : Bytes w a len z) :
    Calls Try.prog 6 #[.slice a len cap] w (DrawnRow w) := by
  go_enter Try.func6, Try.ntmps6
  go_wp2_with fail
  refine (l6Open_any a len cap z w hlen hcap hb).mono ?_
  rintro e w1 ⟨rfl, hr, hb1, hz1⟩
  go_wp2_with fail
  refine (l91Sizes_any w1 w.heap.size a _ cap z 0 hr (by omega)).mono ?_
  rintro e w2 ⟨v, l, q, rfl, hl, hq, hi, hr2, hb2⟩
  have hlt := hr2.lt
  have SR := hide (specShapeRow_any v l w2 (by omega) hi)
  have hsw : swO l = true → (swS l).size ≤ 120 := fun h => (swS_facts h).2.1
  obtain ⟨x, hx⟩ : ∃ x, x = swS l := ⟨_, rfl⟩
  obtain ⟨b, hbb⟩ : ∃ x, x = swO l := ⟨_, rfl⟩
  rw [← hx, ← hbb] at SR hsw
  have HB2 := hide (hb1.trans hb2)
  clear hb1 hb2 hr hi hx hbb hz1
  go_wp2_with fail
  refine SR.out.mono ?_
  rintro e w3 ⟨rfl, hb3⟩
  have hr3 := hr2.below hb3 hlt
  have HB3 := hide (HB2.out.trans (hb3.mono (Nat.le_of_lt hlt)))
  clear hb3 SR hr2
  cases b
  · clear hsw
    go_wp2_with fail
    refine (l91Row_any w3 w.heap.size a _ cap z q hr3 (by omega)).mono ?_
    rintro e w4 ⟨s, q4, rfl, hs, hq4, hr4, hb4, hz4⟩
    go_wp2_with fail
    go_ret
    exact ⟨s, rfl, hs, HB3.out.trans hb4⟩
  · have hx120 := hsw rfl
    clear hsw
    go_wp2_with fail
    refine (pick2_any w3 w.heap.size a _ cap z q 2 hr3 (by omega) (by omega) (by omega)).mono ?_
    rintro e w4 ⟨n, rfl, n0, n1, hr4, hb4, hz4, hg4⟩
    have HB4 := hide (HB3.out.trans hb4)
    clear hg4 hb4 hz4
    by_cases hn0 : n = 0
    · subst hn0
      go_wp2_with fail
      go_ret
      exact ⟨x, rfl, by omega, HB4.out⟩
    · have hni : ((n : Int) == 0) = false := beq_eq_false_iff_ne.2 hn0
      clear hn0
      go_wp2_with fail
      refine (l91Row_any w4 w.heap.size a _ cap z _ hr4 (by omega)).mono ?_
      rintro e w5 ⟨s, q5, rfl, hs, hq5, hr5, hb5, hz5⟩
      go_wp2_with fail
      go_ret
      exact ⟨s, rfl, hs, HB4.out.trans hb5⟩

theorem rev_get (L : List Int) (k : Nat) (h : k < L.length) : L.reverse[k]? = L[L.length - 1 - k]? := List.getElem?_reverse h
theorem ints_form {lo : Nat} {w : World} {u : Value} {L : List Int} {n : Nat} (h : IntsV lo w u L) (hn : L.length = n) : ∃ a c, u = .slice a n c ∧ (0 < n → ∃ g, a = some ⟨g, 0, none⟩ ∧ CellsAt w g (L.map (.int .i64))) := by
  subst hn
  rcases h with ⟨a, c, rfl, rfl⟩ | ⟨g, c, rfl, _, _, _, hc⟩
  · exact ⟨a, c, rfl, fun h => by simp at h⟩
  · exact ⟨_, c, rfl, fun _ => ⟨g, rfl, hc⟩⟩
/-- the loop that holds the shape against the runs -/
def RevRel (w : World) (n : Nat) (i : Value) (wr : World) : Prop := ∃ k : Nat, k ≤ n ∧ i = .int .i64 (k : Int) ∧ Hid (Quiet w wr)

set_option maxRecDepth 100000 in
set_option maxHeartbeats 2000000 in
theorem walkFnApart {w : World} (a : Option Addr) (len cap : Nat) (z : List Int) (hr : IsRow .u8 w a len cap z) :
    Calls Try.prog 3 #[.slice a len cap] w fun e w' => e = .returned (.bool true) ∧ Below w.heap.size w w' := by
  have hcap := hr.le
  have hmax := hr.max
  unfold maxLen at hmax
  by_cases hbig : 1048576 < len
  · go_enter Try.func3, Try.ntmps3
    go_wp2
    go_ret
    exact ⟨rfl, Below.refl _ _⟩
  · have D := hide (DrawShapeApart_any a len cap z w (by omega) hcap hr.bytes)
    clear hr
    go_enter Try.func3, Try.ntmps3
    go_wp2_with fail
    refine D.out.mono ?_
    rintro e w1 ⟨s, rfl, hs, hb1⟩
    have hs' : s.size ≤ maxLen := by unfold maxLen; omega
    have C1 := hide (fun w => implShapeApart_any s w hs')
    have C0 := hide (fun w => specShapeApart_any s w hs')
    cases ha : apOk s
    · rw [ha] at C0 C1
      clear ha
      go_wp2_with fail
      refine (C1.out _).mono ?_
      rintro e w2 ⟨rfl, hb2⟩
      have g2 := hb1.trans (hb2.mono hb1.size)
      go_wp2_with fail
      refine (C0.out _).mono ?_
      rintro e w3 ⟨rfl, hb3⟩
      go_wp2_with fail
      go_ret
      exact ⟨by simp, g2.trans (hb3.mono g2.size)⟩
    · rw [ha] at C0 C1
      obtain ⟨k1, k2⟩ := apart_facts ha
      have hv : vld s = true := by unfold apOk at ha; rw [Bool.and_eq_true] at ha; exact ha.1
      have hlen := rnR_len s
      have hz : (stS s 200).size ≤ maxLen := by have := stS_size s 200; unfold maxLen; omega
      have R1 := hide (fun w => implShapeRuns_any s w hs')
      have O1 := hide (fun w => implShapeOf_any s w hs')
      rw [hv] at R1 O1
      rw [k1] at O1
      have T1 : Hid (∃ (t : ByteArray) (p : Bool), (∀ w, Calls Try.prog 11 #[.string s, .int .i64 200] w (fun e w' => e = .returned (.tuple #[.string t, .bool p]) ∧ Below w.heap.size w w')) ∧
          ((p = true ∧ (∀ w, Calls Try.prog 9 #[.string t] w (fun e w' => ∃ v, e = .returned (.tuple #[v, .bool true]) ∧ IntsV w.heap.size w' v (rnR s) ∧ Below w.heap.size w w')) ∧
              ∀ w, Calls Try.prog 7 #[.string t] w (fun e w' => e = .returned (.bool true) ∧ Below w.heap.size w w')) ∨
           (p = false ∧ ∃ q : Bool, ∀ w, Calls Try.prog 9 #[.string t] w (fun e w' => ∃ v, e = .returned (.tuple #[v, .bool q]) ∧ Below w.heap.size w w')))) := by
        refine ⟨stS s 200, stOk s 200, fun w => implStepOf_any s 200 w hs', ?_⟩
        cases hk : stOk s 200
        · exact .inr ⟨rfl, vld (stS s 200), fun w => (implShapeRuns_any (stS s 200) w hz).mono (by rintro e w' ⟨v, rfl, _, hb⟩; exact ⟨v, rfl, hb⟩)⟩
        · obtain ⟨e1, e2⟩ := k2 hk
          refine .inl ⟨rfl, fun w => ?_, fun w => ?_⟩
          · have h := implShapeRuns_any (stS s 200) w hz
            rw [vld_stS hk, e1] at h
            exact h
          · have h := implShapeApart_any (stS s 200) w hz
            rw [e2] at h
            exact h
      obtain ⟨L, hL⟩ : ∃ L, L = rnR s := ⟨_, rfl⟩
      rw [← hL] at R1 O1 T1 hlen
      obtain ⟨n, hn⟩ : ∃ n, n = L.length := ⟨_, rfl⟩
      have HLL := hide hn.symm
      rw [← hn] at hlen
      have HM : Hid (L.length ≤ maxLen) := by show _ ≤ _; unfold maxLen; omega
      have hnn : ((n : Int) == (n : Int)) = true := by simp
      clear k1 k2 hv hz hL ha hn
      go_wp2_with fail
      refine (C1.out _).mono ?_
      rintro e w2 ⟨rfl, hb2⟩
      have g2 := hb1.trans (hb2.mono hb1.size)
      go_wp2_with fail
      refine (C0.out _).mono ?_
      rintro e w3 ⟨rfl, hb3⟩
      have g3 := g2.trans (hb3.mono g2.size)
      go_wp2_with fail
      refine (R1.out _).mono ?_
      rintro e w4 ⟨u, rfl, hu, hb4⟩
      have g4 := g3.trans (hb4.mono g3.size)
      go_wp2_with fail
      refine (O1.out _).mono ?_
      rintro e w5 ⟨v, rfl, hv, hb5⟩
      have G5 := hide (g4.trans (hb5.mono g4.size))
      have hu5 := hu.below hb5 (Nat.le_refl _)
      have HU5 := hide hu5
      obtain ⟨b, c, rfl, hfu⟩ := ints_form hu5 HLL.out
      obtain ⟨b2, c2, rfl, hfv⟩ := ints_form (n := n) hv (by rw [List.length_reverse]; exact HLL.out)
      have HU := hide hfu
      have HV := hide hfv
      clear hu hv hu5 hfu hfv hb1 hb2 hb3 hb4 hb5 g2 g3 g4 C0 C1 R1 O1
      go_wp2
      go_loopw [11] (fun i wr => RevRel w5 n i wr) (fun i _ => n - (intOf i).toNat)
      case atStart => exact ⟨0, Nat.zero_le _, rfl, Quiet.refl _⟩
      case round =>
        obtain ⟨k, hk, rfl, HQ⟩ := hrel
        by_cases hlt : k < n
        · obtain ⟨q, rfl, hq⟩ := HU.out (by omega)
          obtain ⟨p, rfl, hp⟩ := HV.out (by omega)
          obtain ⟨m, hm⟩ : ∃ m, m = n - 1 - k := ⟨_, rfl⟩
          obtain ⟨x, hx⟩ : ∃ x, L[m]? = some x := ⟨_, List.getElem?_eq_getElem (by rw [HLL.out]; omega)⟩
          have c0 : wr.cell? ⟨q, m, none⟩ = some (.int .i64 x) := ((HQ.out.cells hq) m _ (by rw [List.getElem?_map, hx]; rfl)).1
          have c1 : wr.cell? ⟨p, k, none⟩ = some (.int .i64 x) := ((HQ.out.cells hp) k _ (by rw [List.getElem?_map, rev_get L k (by rw [HLL.out]; exact hlt), HLL.out, ← hm, hx]; rfl)).1
          have hxx : ((x : Int) != x) = false := by simp
          have j0 : (0 : Int) ≤ (k : Int) := by omega
          have j1 : (k : Int) < (n : Int) := by omega
          have m0 : (0 : Int) ≤ (m : Int) := by omega
          have m1 : (m : Int) < (n : Int) := by omega
          have hw1 : IntKind.i64.wrap ((n : Int) - 1) = (n : Int) - 1 := IntWalk.i64_in _ (by omega)
          have hw2 : IntKind.i64.wrap ((n : Int) - 1 - (k : Int)) = (m : Int) := by rw [IntWalk.i64_in _ (by omega)]; omega
          have hw3 : (n : Int) - 1 - (k : Int) = (m : Int) := by omega
          clear hx hq hp hm
          go_wp2
          go_quiet (fail)
          clear hw1 hw2 hw3
          go_wp2
          go_roundw
          case rel => exact ⟨k + 1, by omega, by go_num, HQ.out.trans (Quiet.drewN _)⟩
          case measure => simp [intOf]; omega
        · have hkn : n = k := by omega
          subst hkn
          have G6 := hide (G5.out.trans (HQ.out.2 _))
          have HU6 := hide (HQ.out.ints HU5.out)
          obtain ⟨t, p, hst, hsh⟩ := T1.out
          have HST := hide hst
          clear hst HQ T1 HU HV G5 HU5
          go_wp2_with fail
          refine (HST.out _).mono ?_
          rintro e w6 ⟨rfl, hb6⟩
          have G7 := hide (G6.out.trans (hb6.mono G6.out.size))
          have HU7 := hide (HU6.out.below hb6 (Nat.le_refl _))
          clear hb6 G6 HU6 HST
          rcases hsh with ⟨rfl, hsr, hsa⟩ | ⟨rfl, bq, hsr⟩
          · have HSR := hide hsr
            have HSA := hide hsa
            clear hsr hsa
            go_wp2_with fail
            refine (HSR.out _).mono ?_
            rintro e w7 ⟨v7, rfl, hi7, hb7⟩
            have G8 := hide (G7.out.trans (hb7.mono G7.out.size))
            have SM := hide (sameInts_same HM.out hi7 (HU7.out.below hb7 (Nat.le_refl _)))
            clear hb7 hi7 HSR G7 HU7
            go_wp2_with fail
            refine SM.out.mono ?_
            rintro e w8 ⟨rfl, q8⟩
            have G9 := hide (G8.out.trans (q8.2 _))
            clear q8 G8 SM
            go_wp2_with fail
            refine (HSA.out _).mono ?_
            rintro e w9 ⟨rfl, hb9⟩
            go_wp2_with fail
            go_ret
            exact ⟨by simp, G9.out.trans (hb9.mono G9.out.size)⟩
          · have HSR := hide hsr
            clear hsr
            go_wp2_with fail
            refine (HSR.out _).mono ?_
            rintro e w7 ⟨v7, rfl, hb7⟩
            go_wp2_with fail
            go_ret
            exact ⟨by simp, G7.out.trans (hb7.mono G7.out.size)⟩

set_option maxRecDepth 100000 in
set_option maxHeartbeats 2000000 in
theorem walkFnTime {w : World} (a : Option Addr) (len cap : Nat) (z : List Int) (hr : IsRow .u8 w a len cap z) :
    Calls Try.prog 5 #[.slice a len cap] w fun e w' => e = .returned (.bool true) ∧ Below w.heap.size w w' := by
  have hcap := hr.le
  have hmax := hr.max
  unfold maxLen at hmax
  by_cases hbig : 1048576 < len
  · go_enter Try.func5, Try.ntmps5
    go_wp2
    go_ret
    exact ⟨rfl, Below.refl _ _⟩
  · have D := hide (DrawShapeTime_any a len cap z w (by omega) hcap hr.bytes)
    clear hr
    go_enter Try.func5, Try.ntmps5
    go_wp2_with fail
    refine D.out.mono ?_
    rintro e w1 ⟨s, rfl, hs, hb1⟩
    have hs' : s.size ≤ maxLen := by unfold maxLen; omega
    have C1 := hide (fun w => implShapeTime_any s w hs')
    have C0 := hide (fun w => specShapeTime_any s w hs')
    obtain ⟨x, ok, hx⟩ : ∃ x ok, tmR s = (x, ok) := ⟨_, _, rfl⟩
    have e1 : (tmR s).1 = x := by rw [hx]
    have e2 : (tmR s).2 = ok := by rw [hx]
    rw [e1, e2] at C0 C1
    clear e1 e2
    have hxx : ((x : Int) != x) = false := by simp
    have hxe : ((x : Int) == x) = true := by simp
    cases ok
    · clear hx
      go_wp2_with fail
      refine (C1.out _).mono ?_
      rintro e w2 ⟨rfl, hb2⟩
      have g2 := hb1.trans (hb2.mono hb1.size)
      go_wp2_with fail
      refine (C0.out _).mono ?_
      rintro e w3 ⟨rfl, hb3⟩
      go_wp2_with fail
      go_ret
      exact ⟨by simp, g2.trans (hb3.mono g2.size)⟩
    · obtain ⟨t, k1, k2, k3, k4, k5⟩ := time_facts hx
      have hvt : vld t = true := by unfold apOk at k3; rw [Bool.and_eq_true] at k3; exact k3.1
      have ht' : t.size ≤ maxLen := by unfold maxLen; omega
      have hlen := rnR_len t
      have S1 := hide (fun w => implStepMany_any s 200 x w hs')
      have R1 := hide (fun w => implShapeRuns_any t w ht')
      have O1 := hide (fun w => implShapeOf_any s w hs')
      have A1 := hide (fun w => implShapeApart_any t w ht')
      rw [k1] at S1
      rw [hvt] at R1
      rw [k5, k4] at O1
      rw [k3] at A1
      obtain ⟨L, hL⟩ : ∃ L, L = rnR t := ⟨_, rfl⟩
      rw [← hL] at R1 O1 hlen
      obtain ⟨n, hn⟩ : ∃ n, n = L.length := ⟨_, rfl⟩
      have HLL := hide hn.symm
      rw [← hn] at hlen
      have hnn : ((n : Int) == (n : Int)) = true := by simp
      clear k1 k2 k3 k4 k5 hvt hL hx hn
      go_wp2_with fail
      refine (C1.out _).mono ?_
      rintro e w2 ⟨rfl, hb2⟩
      have g2 := hb1.trans (hb2.mono hb1.size)
      go_wp2_with fail
      refine (C0.out _).mono ?_
      rintro e w3 ⟨rfl, hb3⟩
      have g3 := g2.trans (hb3.mono g2.size)
      go_wp2_with fail
      refine (S1.out _).mono ?_
      rintro e w3b ⟨rfl, hb3b⟩
      have g3b := g3.trans (hb3b.mono g3.size)
      go_wp2_with fail
      refine (R1.out _).mono ?_
      rintro e w4 ⟨u, rfl, hu, hb4⟩
      have g4 := g3b.trans (hb4.mono g3b.size)
      go_wp2_with fail
      refine (O1.out _).mono ?_
      rintro e w5 ⟨v, rfl, hv, hb5⟩
      have G5 := hide (g4.trans (hb5.mono g4.size))
      have hu5 := hu.below hb5 (Nat.le_refl _)
      obtain ⟨b, c, rfl, hfu⟩ := ints_form hu5 HLL.out
      obtain ⟨b2, c2, rfl, hfv⟩ := ints_form (n := n) hv (by rw [List.length_reverse]; exact HLL.out)
      have HU := hide hfu
      have HV := hide hfv
      clear hu hv hu5 hfu hfv hb1 hb2 hb3 hb3b hb4 hb5 g2 g3 g3b g4 C0 C1 R1 O1 S1
      go_wp2
      go_loopw [15] (fun i wr => RevRel w5 n i wr) (fun i _ => n - (intOf i).toNat)
      case atStart => exact ⟨0, Nat.zero_le _, rfl, Quiet.refl _⟩
      case round =>
        obtain ⟨k, hk, rfl, HQ⟩ := hrel
        by_cases hlt : k < n
        · obtain ⟨q, rfl, hq⟩ := HU.out (by omega)
          obtain ⟨p, rfl, hp⟩ := HV.out (by omega)
          obtain ⟨m, hm⟩ : ∃ m, m = n - 1 - k := ⟨_, rfl⟩
          obtain ⟨x, hx⟩ : ∃ x, L[m]? = some x := ⟨_, List.getElem?_eq_getElem (by rw [HLL.out]; omega)⟩
          have c0 : wr.cell? ⟨q, m, none⟩ = some (.int .i64 x) := ((HQ.out.cells hq) m _ (by rw [List.getElem?_map, hx]; rfl)).1
          have c1 : wr.cell? ⟨p, k, none⟩ = some (.int .i64 x) := ((HQ.out.cells hp) k _ (by rw [List.getElem?_map, rev_get L k (by rw [HLL.out]; exact hlt), HLL.out, ← hm, hx]; rfl)).1
          have hxx : ((x : Int) != x) = false := by simp
          have j0 : (0 : Int) ≤ (k : Int) := by omega
          have j1 : (k : Int) < (n : Int) := by omega
          have m0 : (0 : Int) ≤ (m : Int) := by omega
          have m1 : (m : Int) < (n : Int) := by omega
          have hw1 : IntKind.i64.wrap ((n : Int) - 1) = (n : Int) - 1 := IntWalk.i64_in _ (by omega)
          have hw2 : IntKind.i64.wrap ((n : Int) - 1 - (k : Int)) = (m : Int) := by rw [IntWalk.i64_in _ (by omega)]; omega
          have hw3 : (n : Int) - 1 - (k : Int) = (m : Int) := by omega
          clear hx hq hp hm
          go_wp2
          go_quiet (fail)
          clear hw1 hw2 hw3
          go_wp2
          go_roundw
          case rel => exact ⟨k + 1, by omega, by go_num, HQ.out.trans (Quiet.drewN _)⟩
          case measure => simp [intOf]; omega
        · have hkn : n = k := by omega
          subst hkn
          have G6 := hide (G5.out.trans (HQ.out.2 _))
          clear HQ HU HV G5
          go_wp2_with fail
          refine (A1.out _).mono ?_
          rintro e w6 ⟨rfl, hb6⟩
          go_wp2_with fail
          go_ret
          exact ⟨by simp, G6.out.trans (hb6.mono G6.out.size)⟩

set_option maxRecDepth 100000 in
set_option maxHeartbeats 2000000 in
theorem walkFnShapeRow {w : World} (a : Option Addr) (len cap : Nat) (z : List Int) (hr : IsRow .u8 w a len cap z) :
    Calls Try.prog 4 #[.slice a len cap] w fun e w' => e = .returned (.bool true) ∧ Below w.heap.size w w' := by
  have hcap := hr.le
  have hmax := hr.max
  unfold maxLen at hmax
  by_cases hbig : 1048576 < len
  · go_enter Try.func4, Try.ntmps4
    go_wp2
    go_ret
    exact ⟨rfl, Below.refl _ _⟩
  · have D := hide (DrawShapeRow_any a len cap z w (by omega) hcap hr.bytes)
    clear hr
    go_enter Try.func4, Try.ntmps4
    go_wp2_with fail
    refine D.out.mono ?_
    rintro e w1 ⟨v, l, rfl, hl, hi, hb1⟩
    have S1 := hide (fun (w : World) (h : ∃ lo, IntsV lo w v l) => (show Calls Try.prog 14 #[v] w (fun e w' => e = .returned (.tuple #[.string (swS l), .bool (swO l)]) ∧ Below w.heap.size w w') from by obtain ⟨lo, h⟩ := h; exact implShapeRow_any v l w (by omega) h))
    have S0 := hide (fun (w : World) (h : ∃ lo, IntsV lo w v l) => (show Calls Try.prog 15 #[v] w (fun e w' => e = .returned (.tuple #[.string (swS l), .bool (swO l)]) ∧ Below w.heap.size w w') from by obtain ⟨lo, h⟩ := h; exact specShapeRow_any v l w (by omega) h))
    have HI := hide hi
    cases hk : swO l
    · rw [hk] at S0 S1
      obtain ⟨x, hx⟩ : ∃ x, x = swS l := ⟨_, rfl⟩
      rw [← hx] at S0 S1
      clear hk hx hi
      go_wp2_with fail
      refine (S1.out w1 ⟨_, HI.out⟩).mono ?_
      rintro e w2 ⟨rfl, hb2⟩
      have g2 := hb1.trans (hb2.mono hb1.size)
      have HI2 := hide (HI.out.below hb2 (Nat.le_refl _))
      go_wp2_with fail
      refine (S0.out w2 ⟨_, HI2.out⟩).mono ?_
      rintro e w3 ⟨rfl, hb3⟩
      go_wp2_with fail
      go_ret
      exact ⟨by simp, g2.trans (hb3.mono g2.size)⟩
    · obtain ⟨k1, k2, k3⟩ := sizes_facts hk
      obtain ⟨hv, hz, _⟩ := swS_facts hk
      have hC : swC l = true := by unfold swO at hk; rw [Bool.and_eq_true] at hk; exact hk.1
      obtain ⟨_, hall⟩ := swC_iff.1 hC
      have hz' : (swS l).size ≤ maxLen := by unfold maxLen; omega
      have O1 := hide (fun w => implShapeOf_any (swS l) w hz')
      have A1 := hide (fun w => implShapeApart_any (swS l) w hz')
      have hrr : shR (swS l) = ni (shB3 (bits (swS l))) := by unfold shR; rw [hv]; rfl
      rw [hv] at O1
      rw [k1] at A1
      rw [hk] at S0 S1
      rw [hrr] at k2 k3 O1
      rw [ni_length] at k2
      rw [ni_sum] at k3
      obtain ⟨x, hx⟩ : ∃ x, x = swS l := ⟨_, rfl⟩
      obtain ⟨r, hr⟩ : ∃ r, r = shB3 (bits (swS l)) := ⟨_, rfl⟩
      rw [← hr] at k2 k3 O1
      rw [← hx] at S0 S1 O1 A1
      have hallz : l.all szOk = true := List.all_eq_true.2 (fun y hy => by have := hall y hy; unfold szOk; simp; omega)
      obtain ⟨T, hT⟩ : ∃ T, T = r.sum := ⟨_, rfl⟩
      obtain ⟨n, hn⟩ : ∃ n, n = l.length := ⟨_, rfl⟩
      have hsb := sum_bd l hallz
      have HALL := hide hallz
      have HT := hide hT
      have HNL := hide hn
      have HRL := hide (k2.trans hn.symm)
      rw [← hT] at k3
      rw [← k3] at hsb
      have HK3 := hide k3
      rw [← hn] at hl hsb
      have hT2 : T ≤ 1000 := by omega
      have hnn : ((n : Int) == (n : Int)) = true := by simp
      clear hk k1 k2 k3 hv hz hC hall hrr hx hr hallz hT hn hi hsb
      go_wp2_with fail
      refine (S1.out w1 ⟨_, HI.out⟩).mono ?_
      rintro e w2 ⟨rfl, hb2⟩
      have g2 := hb1.trans (hb2.mono hb1.size)
      have HI2 := hide (HI.out.below hb2 (Nat.le_refl _))
      go_wp2_with fail
      refine (S0.out w2 ⟨_, HI2.out⟩).mono ?_
      rintro e w3 ⟨rfl, hb3⟩
      have g3 := g2.trans (hb3.mono g2.size)
      have HI3 := hide (HI2.out.below hb3 (Nat.le_refl _))
      clear hb1 hb2 hb3 g2 S0 S1 HI HI2
      go_wp2_with fail
      refine (O1.out _).mono ?_
      rintro e w4 ⟨u, rfl, hu, hb4⟩
      have G4 := hide (g3.trans (hb4.mono g3.size))
      obtain ⟨b, c, rfl, hfv⟩ := ints_form (HI3.out.below hb4 (Nat.le_refl _)) HNL.out.symm
      obtain ⟨b2, c2, rfl, hfu⟩ := ints_form (n := n) hu (by rw [ni_length]; exact HRL.out)
      have HV := hide hfv
      have HU := hide hfu
      clear hu hfu hfv hb4 g3 HI3 O1
      go_wp2
      go_loop [10, 12] (fun t i => ∃ k : Nat, k ≤ n ∧ i = .int .i64 (k : Int) ∧ t = .int .i64 ((l.take k).sum)) (fun _ i => n - (intOf i).toNat)
      case atStart => exact ⟨0, Nat.zero_le _, rfl, rfl⟩
      case round =>
        obtain ⟨k, hk, rfl, rfl⟩ := hrel
        have hall2 : (l.take k).all szOk = true := List.all_eq_true.2 (fun x hx => List.all_eq_true.1 HALL.out x (List.mem_of_mem_take hx))
        obtain ⟨s0, s1⟩ := sum_bd (l.take k) hall2
        have hlt2 : (l.take k).length ≤ 5 := by rw [List.length_take, ← HNL.out]; omega
        clear hall2
        by_cases hlt : k < n
        · obtain ⟨q, rfl, hq⟩ := HV.out (by omega)
          obtain ⟨y, hy⟩ : ∃ y, l[k]? = some y := ⟨_, List.getElem?_eq_getElem (by rw [← HNL.out]; exact hlt)⟩
          have hcell := (hq k (.int .i64 y) (by rw [List.getElem?_map, hy]; rfl)).1
          have HS := hide (sum_take_succ l k y hy)
          have hsz := List.all_eq_true.1 HALL.out y (List.mem_of_getElem? hy)
          unfold szOk at hsz
          simp at hsz
          obtain ⟨y0, y1⟩ := hsz
          obtain ⟨t, ht⟩ : ∃ t, t = (l.take k).sum := ⟨_, rfl⟩
          rw [← ht] at s0 s1 HS ⊢
          clear ht hy hq
          have i0 : (0 : Int) ≤ (k : Int) := by omega
          have i1 : (k : Int) < (n : Int) := by omega
          go_wp2
          go_round
          case rel => exact ⟨k + 1, by omega, by go_num, by rw [HS.out]⟩
          case measure => simp [intOf]; omega
        · have hkn : n = k := by omega
          have hfin : (l.take k).sum = (T : Int) := by rw [List.take_of_length_le (by rw [← HNL.out]; omega)]; exact HK3.out.symm
          rw [hfin]
          clear hfin s0 s1 hlt2
          subst hkn
          go_wp2
          go_loop [11, 13] (fun t i => ∃ k : Nat, k ≤ n ∧ i = .int .i64 (k : Int) ∧ t = .int .i64 (((r.take k).sum : Nat) : Int)) (fun _ i => n - (intOf i).toNat)
          case atStart => exact ⟨0, Nat.zero_le _, rfl, rfl⟩
          case round =>
            obtain ⟨k, hk, rfl, rfl⟩ := hrel
            have hsb : (r.take k).sum ≤ T := by
              rw [HT.out]
              have h1 := List.take_append_drop k r
              have h2 : r.sum = (r.take k).sum + (r.drop k).sum := by rw [← List.sum_append, h1]
              omega
            by_cases hlt : k < n
            · obtain ⟨q, rfl, hq⟩ := HU.out (by omega)
              obtain ⟨x, hx⟩ : ∃ x, r[k]? = some x := ⟨_, List.getElem?_eq_getElem (by rw [HRL.out]; exact hlt)⟩
              have c0 : w4.cell? ⟨q, k, none⟩ = some (.int .i64 (x : Int)) := (hq k _ (by rw [List.getElem?_map, ni_getElem, hx]; rfl)).1
              have HS : Hid ((r.take (k + 1)).sum = (r.take k).sum + x) := by
                show _ = _
                rw [List.take_add_one, hx, List.sum_append]; simp
              have hsx : x ≤ T := by rw [HT.out]; exact mem_le_sum _ x (List.mem_of_getElem? hx)
              obtain ⟨t, ht⟩ : ∃ t, t = (r.take k).sum := ⟨_, rfl⟩
              rw [← ht] at hsb HS ⊢
              have j0 : (0 : Int) ≤ (k : Int) := by omega
              have j1 : (k : Int) < (n : Int) := by omega
              clear hx hq ht
              go_wp2
              go_round
              case rel => exact ⟨k + 1, by omega, by go_num, by rw [HS.out]; go_num⟩
              case measure => simp [intOf]; omega
            · have hkn : n = k := by omega
              have hfin : (r.take k).sum = T := by rw [List.take_of_length_le (by rw [HRL.out]; omega)]; exact HT.out.symm
              rw [hfin] at hsb ⊢
              clear hfin
              subst hkn
              have hTT : ((T : Int) == (T : Int)) = true := by simp
              go_wp2_with fail
              refine (A1.out _).mono ?_
              rintro e w5 ⟨rfl, hb5⟩
              go_wp2_with fail
              go_ret
              exact ⟨by simp, G4.out.trans (hb5.mono G4.out.size)⟩
end Go.Proofs.Ytlfiipkbkhpmnac
