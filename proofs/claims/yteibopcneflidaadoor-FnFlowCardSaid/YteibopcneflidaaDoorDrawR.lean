/- THE WALK of the drawing of a room. -/
import Derived.Test.YteibopcneflidaaDoorDraw
import Derived.Test.YteibopcneflidaaDoorPick
namespace Go.Proofs.YteibopcneflidaaDoor
open Go.RowKit

theorem Bytes.below {w w' : World} {a : Option Addr} {len : Nat} {z : List Int} (h : Bytes w a len z) (hb : Below w.heap.size w w') : Bytes w' a len z := by
  intro h0
  obtain ⟨b, off, h1, h2, h3⟩ := h h0
  exact ⟨b, off, h1, Nat.lt_of_lt_of_le h2 hb.size, fun j hj => ⟨(hb.cell (p := ⟨b, off + j, none⟩) h2).trans (h3 j hj).1, (h3 j hj).2⟩⟩

/-- what the drawing of a room leaves -/
def DrawnRoom (w : World) (R : Nat) (a : Option Addr) (len cap : Nat) (z : List Int) (p : Nat) (e : Ending) (w' : World) : Prop :=
  ∃ (v : Int) (q : Nat), e = .returned (.int .i64 v) ∧ -1 ≤ v ∧ v ≤ 201 ∧ q ≤ p + 2 ∧ Rd w' R a len cap z q ∧ Below R w w' ∧ w.grownBy w' (some R)

theorem grown_cell {w w' : World} {R g j : Nat} {v : Value} (hg : w.grownBy w' (some R)) (hne : g ≠ R) (h : w.cell? ⟨g, j, none⟩ = some v) : w'.cell? ⟨g, j, none⟩ = some v :=
  (World.cell?_of_block (a := ⟨g, j, none⟩) (hg.block g (World.block_lt_of_cell? w _ h) (by intro e; injection e with e; exact hne e))).trans h
theorem lit3 (w : World) (t : TypeId) (p : Nat) (h : p < 3) : ∃ x : Int, -1 ≤ x ∧ x ≤ 201 ∧ (w.alloc (.cells #[.int .i64 0, .int .i64 201, .int .i64 (-1)] t)).cell? ⟨w.heap.size, p, none⟩ = some (.int .i64 x) := by
  rcases (show p = 0 ∨ p = 1 ∨ p = 2 by omega) with rfl | rfl | rfl
  · exact ⟨0, by omega, by omega, by rw [World.cell?_alloc_at _ _ _ _ rfl]; rfl⟩
  · exact ⟨201, by omega, by omega, by rw [World.cell?_alloc_at _ _ _ _ rfl]; rfl⟩
  · exact ⟨-1, by omega, by omega, by rw [World.cell?_alloc_at _ _ _ _ rfl]; rfl⟩
theorem lit6 (w : World) (t : TypeId) (p : Nat) (h : p < 6) : ∃ x : Int, -1 ≤ x ∧ x ≤ 201 ∧ (w.alloc (.cells #[.int .i64 1, .int .i64 2, .int .i64 3, .int .i64 4, .int .i64 5, .int .i64 200] t)).cell? ⟨w.heap.size, p, none⟩ = some (.int .i64 x) := by
  rcases (show p = 0 ∨ p = 1 ∨ p = 2 ∨ p = 3 ∨ p = 4 ∨ p = 5 by omega) with rfl | rfl | rfl | rfl | rfl | rfl
  · exact ⟨1, by omega, by omega, by rw [World.cell?_alloc_at _ _ _ _ rfl]; rfl⟩
  · exact ⟨2, by omega, by omega, by rw [World.cell?_alloc_at _ _ _ _ rfl]; rfl⟩
  · exact ⟨3, by omega, by omega, by rw [World.cell?_alloc_at _ _ _ _ rfl]; rfl⟩
  · exact ⟨4, by omega, by omega, by rw [World.cell?_alloc_at _ _ _ _ rfl]; rfl⟩
  · exact ⟨5, by omega, by omega, by rw [World.cell?_alloc_at _ _ _ _ rfl]; rfl⟩
  · exact ⟨200, by omega, by omega, by rw [World.cell?_alloc_at _ _ _ _ rfl]; rfl⟩

set_option maxHeartbeats 1000000 in
theorem l91Room_any (w : World) (R : Nat) (a : Option Addr) (len cap : Nat) (z : List Int) (p : Nat) (hrd : Rd w R a len cap z p) (hp : p ≤ 1000) :
    Calls Tryd.prog 38 #[.pointer (some ⟨R, 0, none⟩)] w (DrawnRoom w R a len cap z p) := by
  have hlt := hrd.lt
  go_enter Tryd.func38, Tryd.ntmps38
  go_wp2_with fail
  refine (pick2_any w R a len cap z p 24 hrd (by omega) (by omega) (by omega)).mono ?_
  rintro e w1 ⟨v, rfl, hv0, hv1, hr1, hb1, hz1, hg1⟩
  have hR1 : R < w1.heap.size := by omega
  have HB1 := hide hb1
  have HG1 := hide hg1
  clear hrd hg1 hz1 hb1
  by_cases h0 : v = 0
  · subst h0
    go_wp2_with fail
    refine (pick2_any (w1.alloc (.cells #[.int .i64 0, .int .i64 201, .int .i64 (-1)] 3)) R a len cap z (p + 1) 3 (hr1.below ((Below.refl (R + 1) w1).alloc hR1 _) (Nat.lt_succ_self R)) (by omega) (by omega) (by omega)).mono ?_
    rintro e w2 ⟨v, rfl, a0, a1, hr2, hb2, hz2, hg2⟩
    obtain ⟨j, rfl⟩ := Int.eq_ofNat_of_zero_le a0
    obtain ⟨x, x0, x1, hc⟩ := lit3 w1 3 j (by omega)
    have hc2 := grown_cell hg2 (by omega) hc
    have i0 : (0 : Int) ≤ (j : Int) := by omega
    have HB2 := hide ((HB1.out.alloc (by omega) (.cells #[.int .i64 0, .int .i64 201, .int .i64 (-1)] 3)).trans hb2)
    have HR2 := hide hr2
    have HG2 := hide ((HG1.out.trans (World.grownBy_alloc w1 _ _)).trans hg2)
    clear hc hg2 hz2 hb2 hr2 hr1
    go_wp2_with fail
    go_ret
    exact ⟨x, _, rfl, x0, x1, Nat.le_refl _, HR2.out, HB2.out, HG2.out⟩
  · have hv : ((v : Int) == 0) = false := beq_eq_false_iff_ne.2 h0
    go_wp2_with fail
    refine (pick2_any (w1.alloc (.cells #[.int .i64 1, .int .i64 2, .int .i64 3, .int .i64 4, .int .i64 5, .int .i64 200] 3)) R a len cap z (p + 1) 6 (hr1.below ((Below.refl (R + 1) w1).alloc hR1 _) (Nat.lt_succ_self R)) (by omega) (by omega) (by omega)).mono ?_
    rintro e w2 ⟨v', rfl, a0, a1, hr2, hb2, hz2, hg2⟩
    obtain ⟨j, rfl⟩ := Int.eq_ofNat_of_zero_le a0
    obtain ⟨x, x0, x1, hc⟩ := lit6 w1 3 j (by omega)
    have hc2 := grown_cell hg2 (by omega) hc
    have i0 : (0 : Int) ≤ (j : Int) := by omega
    have HB2 := hide ((HB1.out.alloc (by omega) (.cells #[.int .i64 1, .int .i64 2, .int .i64 3, .int .i64 4, .int .i64 5, .int .i64 200] 3)).trans hb2)
    have HR2 := hide hr2
    have HG2 := hide ((HG1.out.trans (World.grownBy_alloc w1 _ _)).trans hg2)
    clear hc hg2 hz2 hb2 hr2 hr1
    go_wp2_with fail
    go_ret
    exact ⟨x, _, rfl, x0, x1, Nat.le_refl _, HR2.out, HB2.out, HG2.out⟩
end Go.Proofs.YteibopcneflidaaDoor
