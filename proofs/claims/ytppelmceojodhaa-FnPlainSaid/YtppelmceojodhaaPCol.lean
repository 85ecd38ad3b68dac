/- THE WALKS of the laws FnColour, FnCounts, FnColourBack. -/
import Derived.Test.YtppelmceojodhaaDrawC
import Derived.Test.YtppelmceojodhaaCol6
import Derived.Test.YtppelmceojodhaaRowBalls
import Derived.Test.YtppelmceojodhaaICol
import Derived.Deep.RegionHeld3
namespace Go.Proofs.Ytppelmceojodhaa
open Go.RowKit

/-- a slice of three numbers -/
theorem ints3 {lo : Nat} {w : World} {v : Value} {x y z : Int} (h : IntsV lo w v [x, y, z]) :
    ∃ g k, v = .slice (some ⟨g, 0, none⟩) 3 k ∧ lo ≤ g ∧ g < w.heap.size ∧ w.cell? ⟨g, 0, none⟩ = some (.int .i64 x) ∧ w.cell? ⟨g, 1, none⟩ = some (.int .i64 y) ∧ w.cell? ⟨g, 2, none⟩ = some (.int .i64 z) := by
  rcases h with ⟨a, c, rfl, h0⟩ | ⟨g, c, rfl, _, hlo, hlt, hc⟩
  · cases h0
  · exact ⟨g, c, rfl, hlo, hlt, (hc 0 _ rfl).1, (hc 1 _ rfl).1, (hc 2 _ rfl).1⟩
/-- the balls of a text, counted while three cells stand -/
theorem balls_held {t : ByteArray} {m x y z : Int} {w0 w' : World} {g : Nat}
    (B : Calls Try.prog 11 #[.string t] w' fun e w'' => e = .returned (.int .i64 m) ∧ Below w'.heap.size w' w'')
    (h0 : w'.cell? ⟨g, 0, none⟩ = some (.int .i64 x)) (h1 : w'.cell? ⟨g, 1, none⟩ = some (.int .i64 y)) (h2 : w'.cell? ⟨g, 2, none⟩ = some (.int .i64 z)) (hB : Below w0.heap.size w0 w') :
    Calls Try.prog 11 #[.string t] w' fun e w'' => e = .returned (.int .i64 m) ∧ w''.cell? ⟨g, 0, none⟩ = some (.int .i64 x) ∧ w''.cell? ⟨g, 1, none⟩ = some (.int .i64 y) ∧ w''.cell? ⟨g, 2, none⟩ = some (.int .i64 z) ∧ Below w0.heap.size w0 w'' := by
  have hg := World.block_lt_of_cell? w' _ h0
  exact B.mono (fun e w'' ⟨he, hb⟩ => ⟨he, (hb.cell (p := ⟨g, 0, none⟩) hg).trans h0, (hb.cell (p := ⟨g, 1, none⟩) hg).trans h1, (hb.cell (p := ⟨g, 2, none⟩) hg).trans h2, hB.trans (hb.mono hB.size)⟩)

set_option maxHeartbeats 1000000 in
theorem walkFnColour {w : World} (a : Option Addr) (len cap : Nat) (z : List Int) (hr : IsRow .u8 w a len cap z) :
    Calls Try.prog 3 #[.slice a len cap] w fun e w' => e = .returned (.bool true) ∧ Below w.heap.size w w' := by
  have hcap := hr.le
  have hmax := hr.max
  unfold maxLen at hmax
  by_cases hbig : 1048576 < len
  · go_enter Try.func3, Try.ntmps3
    go_wp2
    go_ret
    exact ⟨rfl, Below.refl _ _⟩
  · have D := hide (DrawColourIn_any a len cap z w (by omega) hcap hr.bytes)
    clear hr
    go_enter Try.func3, Try.ntmps3
    go_wp2_with fail
    refine D.out.mono ?_
    rintro e w1 ⟨s, rfl, hs, hb1⟩
    have hs' : s.size ≤ maxLen := by unfold maxLen; omega
    have C1 := hide (fun w => implColourIn_any s w hs')
    have C0 := hide (fun w => specColourIn_any s w hs')
    cases hv : cIn s
    · rw [hv] at C0 C1
      clear hv
      go_wp2_with fail
      refine (C1.out _).mono ?_
      rintro e w2 ⟨rfl, hb2⟩
      go_wp2_with fail
      refine (C0.out _).mono ?_
      rintro e w3 ⟨rfl, rfl⟩
      go_wp2_with fail
      go_ret
      exact ⟨rfl, hb1.trans (hb2.mono hb1.size)⟩
    · have CC := hide (fun w => implColourCounts_any s w hs')
      have CP := hide (fun w => implColourPlain_any s 1 w hs')
      have k1 : cpOk s 1 = true := cpOk_of hv (by omega)
      obtain ⟨r1, _, r3⟩ := cpS_row k1
      have hp := plain_balls hv 1 (by omega)
      have hpc := (plain_count (lst s) ((cIn_iff s).1 hv).1).1
      have h120 := ((cIn_iff s).1 hv).2
      have BA := hide (fun w => implRowBalls_any (cpS s 1) w (by unfold maxLen; omega))
      rw [r1, hp, hpc] at BA
      simp only [if_true] at BA
      rw [Int.natCast_add, Int.natCast_add] at BA
      rw [ccL_in hv] at CC
      unfold ccT at CC
      rw [hv] at CC C0 C1
      rw [k1] at CP
      have q1 := List.count_le_length (a := (49 : UInt8)) (l := lst s)
      have q2 := List.count_le_length (a := (50 : UInt8)) (l := lst s)
      have q3 := List.count_le_length (a := (51 : UInt8)) (l := lst s)
      rw [lst_size] at q1 q2 q3
      obtain ⟨t, ht⟩ : ∃ t, t = cpS s 1 := ⟨_, rfl⟩
      rw [← ht] at CP BA
      obtain ⟨n1, e1⟩ : ∃ n : Int, n = ((lst s).count 49 : Int) := ⟨_, rfl⟩
      obtain ⟨n2, e2⟩ : ∃ n : Int, n = ((lst s).count 50 : Int) := ⟨_, rfl⟩
      obtain ⟨n3, e3⟩ : ∃ n : Int, n = ((lst s).count 51 : Int) := ⟨_, rfl⟩
      have b1 : 0 ≤ n1 ∧ n1 ≤ 120 := by omega
      have b2 : 0 ≤ n2 ∧ n2 ≤ 120 := by omega
      have b3 : 0 ≤ n3 ∧ n3 ≤ 120 := by omega
      rw [← e1, ← e2, ← e3] at BA CC
      clear k1 r1 r3 hp hpc hv ht e1 e2 e3 q1 q2 q3 h120
      have m1 : IntKind.i64.wrap (n1 + n2) = n1 + n2 := IntWalk.i64_in _ (by omega)
      have m2 : IntKind.i64.wrap (n1 + n2 + n3) = n1 + n2 + n3 := IntWalk.i64_in _ (by omega)
      have HB1 := hide hb1
      clear b1 b2 b3 hb1
      go_wp2_with fail
      refine (C1.out _).mono ?_
      rintro e w2 ⟨rfl, hb2⟩
      have HB2 := hide (HB1.out.trans (hb2.mono HB1.out.size))
      clear hb2
      go_wp2_with fail
      refine (C0.out _).mono ?_
      rintro e w3 ⟨rfl, rfl⟩
      go_wp2_with fail
      refine (CC.out _).mono ?_
      rintro e w3 ⟨v, rfl, hi, hb3⟩
      obtain ⟨g, k, rfl, hlo, hlt, c0, c1, c2⟩ := ints3 hi
      have HB3 := hide (HB2.out.trans (hb3.mono HB2.out.size))
      clear hb3 hi hlo
      go_wp2_with fail
      refine (CP.out _).mono ?_
      rintro e w4 ⟨rfl, hb4⟩
      have d0 := (hb4.cell (p := ⟨g, 0, none⟩) hlt).trans c0
      have d1 := (hb4.cell (p := ⟨g, 1, none⟩) hlt).trans c1
      have d2 := (hb4.cell (p := ⟨g, 2, none⟩) hlt).trans c2
      have b4' := HB3.out.trans (hb4.mono HB3.out.size)
      clear hb4 hlt c0 c1 c2
      have BS := hide (fun (w' : World) h0 h1 h2 hB => balls_held (x := n1) (y := n2) (z := n3) (g := g) (w0 := w) (BA.out w') h0 h1 h2 hB)
      go_wp2_with fail
      go_region_held3 (fun w' => w'.cell? ⟨g, 0, none⟩ = some (.int .i64 n1) ∧ w'.cell? ⟨g, 1, none⟩ = some (.int .i64 n2) ∧ w'.cell? ⟨g, 2, none⟩ = some (.int .i64 n3) ∧ Below w.heap.size w w') (first | exact ⟨d0, d1, d2, b4'.drew⟩ | (refine ⟨?_, ?_, ?_, ?_⟩ <;> assumption) | go_keep | fail)
        (first | (go_at_call 11; have hx1 := BS.out w4.drew d0 d1 d2 b4'.drew; refine hx1.mono ?_; rintro e w5 ⟨rfl, x0, x1, x2, hb5⟩) | fail)
      go_wp2
      go_ret
      exact ⟨rfl, by assumption⟩

end Go.Proofs.Ytppelmceojodhaa
