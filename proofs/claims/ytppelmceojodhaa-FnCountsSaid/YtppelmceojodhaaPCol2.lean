/- THE WALK of the law FnCounts. -/
import Derived.Test.YtppelmceojodhaaPCol
namespace Go.Proofs.Ytppelmceojodhaa
open Go.RowKit

set_option maxHeartbeats 1000000 in
theorem walkFnCounts {w : World} (a : Option Addr) (len cap : Nat) (z : List Int) (hr : IsRow .u8 w a len cap z) :
    Calls Try.prog 4 #[.slice a len cap] w fun e w' => e = .returned (.bool true) ∧ Below w.heap.size w w' := by
  have hcap := hr.le
  have hmax := hr.max
  unfold maxLen at hmax
  by_cases hbig : 1048576 < len
  · go_enter Try.func4, Try.ntmps4
    go_wp2
    go_ret
    exact ⟨rfl, Below.refl _ _⟩
  · have D := hide (DrawColourCounts_any a len cap z w (by omega) hcap hr.bytes)
    clear hr
    go_enter Try.func4, Try.ntmps4
    go_wp2_with fail
    refine D.out.mono ?_
    rintro e w1 ⟨s, rfl, hs, hb1⟩
    have hs' : s.size ≤ maxLen := by unfold maxLen; omega
    have C1 := hide (fun w => implColourCounts_any s w hs')
    have C0 := hide (fun w => specColourCounts_any s w hs')
    have HM := hide (show (ccL s).length ≤ maxLen by have := ccL_length s; unfold maxLen; omega)
    cases hv : cIn s
    · rw [hv] at C0 C1
      obtain ⟨l, hl⟩ : ∃ l, l = ccL s := ⟨_, rfl⟩
      rw [← hl] at C0 C1 HM
      clear hv hl
      go_wp2_with fail
      refine (C1.out _).mono ?_
      rintro e w2 ⟨v2, rfl, hi2, hb2⟩
      have b2 := hb1.trans (hb2.mono hb1.size)
      go_wp2_with fail
      refine (C0.out _).mono ?_
      rintro e w3 ⟨v3, rfl, hi3, hb3⟩
      have b3 := b2.trans (hb3.mono b2.size)
      have hi2' := hi2.below hb3 (Nat.le_refl _)
      go_wp2_with fail
      refine (sameInts_same HM.out hi2' hi3).mono ?_
      rintro e w4 ⟨rfl, q4⟩
      have b4 := b3.trans (q4.2 _)
      have hi2'' := q4.ints hi2'
      have hi3'' := q4.ints hi3
      go_wp2_with fail
      refine (sameInts_same HM.out hi2'' hi3'').mono ?_
      rintro e w5 ⟨rfl, q5⟩
      go_wp2_with fail
      go_ret
      exact ⟨rfl, b4.trans (q5.2 _)⟩
    · have CX := hide (fun w => implColourPlain_any s 2 w hs')
      have CY := hide (fun w => implColourPlain_any s 3 w hs')
      have k2 : cpOk s 2 = true := cpOk_of hv (by omega)
      have k3 : cpOk s 3 = true := cpOk_of hv (by omega)
      obtain ⟨x1, _, x3⟩ := cpS_row k2
      obtain ⟨y1, _, y3⟩ := cpS_row k3
      obtain ⟨_, p2, p3⟩ := plain_count (lst s) ((cIn_iff s).1 hv).1
      have h120 := ((cIn_iff s).1 hv).2
      have BX := hide (fun w => implRowBalls_any (cpS s 2) w (by unfold maxLen; omega))
      have BY := hide (fun w => implRowBalls_any (cpS s 3) w (by unfold maxLen; omega))
      rw [x1, plain_balls hv 2 (by omega), p2] at BX
      rw [y1, plain_balls hv 3 (by omega), p3] at BY
      simp only [if_true] at BX BY
      rw [Int.natCast_add] at BX
      rw [ccL_in hv] at C0 C1 HM
      unfold ccT at C0 C1 HM
      rw [hv] at C0 C1
      rw [k2] at CX
      rw [k3] at CY
      have q2 := List.count_le_length (a := (50 : UInt8)) (l := lst s)
      have q3 := List.count_le_length (a := (51 : UInt8)) (l := lst s)
      rw [lst_size] at q2 q3
      obtain ⟨x, hx⟩ : ∃ t, t = cpS s 2 := ⟨_, rfl⟩
      obtain ⟨y, hy⟩ : ∃ t, t = cpS s 3 := ⟨_, rfl⟩
      rw [← hx] at CX BX
      rw [← hy] at CY BY
      obtain ⟨n1, e1⟩ : ∃ n : Int, n = ((lst s).count 49 : Int) := ⟨_, rfl⟩
      obtain ⟨n2, e2⟩ : ∃ n : Int, n = ((lst s).count 50 : Int) := ⟨_, rfl⟩
      obtain ⟨n3, e3⟩ : ∃ n : Int, n = ((lst s).count 51 : Int) := ⟨_, rfl⟩
      have b2 : 0 ≤ n2 ∧ n2 ≤ 120 := by omega
      have b3 : 0 ≤ n3 ∧ n3 ≤ 120 := by omega
      rw [← e1, ← e2, ← e3] at C0 C1 HM
      rw [← e2, ← e3] at BX
      rw [← e3] at BY
      have m1 : IntKind.i64.wrap (n2 + n3) = n2 + n3 := IntWalk.i64_in _ (by omega)
      have HB1 := hide hb1
      clear k2 k3 x1 x3 y1 y3 p2 p3 hv hx hy e1 e2 e3 q2 q3 h120 b2 b3 hb1
      go_wp2_with fail
      refine (C1.out _).mono ?_
      rintro e w2 ⟨v, rfl, hi2, hb2⟩
      have HB2 := hide (HB1.out.trans (hb2.mono HB1.out.size))
      clear hb2
      go_wp2_with fail
      refine (C0.out _).mono ?_
      rintro e w3 ⟨v3, rfl, hi3, hb3⟩
      have HB3 := hide (HB2.out.trans (hb3.mono HB2.out.size))
      have hi2' := hi2.below hb3 (Nat.le_refl _)
      clear hb3 hi2
      go_wp2_with fail
      refine (sameInts_same HM.out hi2' hi3).mono ?_
      rintro e w4 ⟨rfl, q4⟩
      have HB4 := hide (HB3.out.trans (q4.2 _))
      obtain ⟨g, k, rfl, hlo, hlt, c0, c1, c2⟩ := ints3 (q4.ints hi2')
      clear q4 hi2' hi3 hlo
      go_wp2_with fail
      refine (CX.out _).mono ?_
      rintro e w5 ⟨rfl, hb5⟩
      have d0 := (hb5.cell (p := ⟨g, 0, none⟩) hlt).trans c0
      have d1 := (hb5.cell (p := ⟨g, 1, none⟩) hlt).trans c1
      have d2 := (hb5.cell (p := ⟨g, 2, none⟩) hlt).trans c2
      have HB5 := hide (HB4.out.trans (hb5.mono HB4.out.size))
      have hlt5 := Nat.lt_of_lt_of_le hlt hb5.size
      clear hb5 hlt c0 c1 c2
      go_wp2_with fail
      refine (CY.out _).mono ?_
      rintro e w6 ⟨rfl, hb6⟩
      have f0 := (hb6.cell (p := ⟨g, 0, none⟩) hlt5).trans d0
      have f1 := (hb6.cell (p := ⟨g, 1, none⟩) hlt5).trans d1
      have f2 := (hb6.cell (p := ⟨g, 2, none⟩) hlt5).trans d2
      have b6 := HB5.out.trans (hb6.mono HB5.out.size)
      clear hb6 hlt5 d0 d1 d2
      have SX := hide (fun (w' : World) h0 h1 h2 hB => balls_held (x := n1) (y := n2) (z := n3) (g := g) (w0 := w) (BX.out w') h0 h1 h2 hB)
      have SY := hide (fun (w' : World) h0 h1 h2 hB => balls_held (x := n1) (y := n2) (z := n3) (g := g) (w0 := w) (BY.out w') h0 h1 h2 hB)
      go_wp2_with fail
      go_region_held3 (fun w' => w'.cell? ⟨g, 0, none⟩ = some (.int .i64 n1) ∧ w'.cell? ⟨g, 1, none⟩ = some (.int .i64 n2) ∧ w'.cell? ⟨g, 2, none⟩ = some (.int .i64 n3) ∧ Below w.heap.size w w') (first | exact ⟨y0, y1, y2, hb8⟩ | exact ⟨x0, x1, x2, hb7⟩ | exact ⟨f0, f1, f2, b6.drew⟩ | go_keep | fail)
        (first
          | (go_at_call 11; have hx1 := SX.out w6.drew f0 f1 f2 b6.drew; with_reducible (refine hx1.mono ?_); rintro e w7 ⟨rfl, x0, x1, x2, hb7⟩)
          | (go_at_call 11; have hx2 := SY.out w7 x0 x1 x2 hb7; with_reducible (refine hx2.mono ?_); rintro e w8 ⟨rfl, y0, y1, y2, hb8⟩)
          | fail)
      go_wp2
      go_ret
      exact ⟨rfl, by assumption⟩
end Go.Proofs.Ytppelmceojodhaa
