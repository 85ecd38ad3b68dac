/- THE WALK of the law FnKept: steps keep the energy for each room. -/
import Derived.Test.YtnaofghngpojgabSFacts
import Derived.Test.YtnaofghngpojgabDraw5
namespace Go.Proofs.Ytnaofghngpojgab
open Go.RowKit

/-- the rooms that the law asks -/
def rooms6 : List Int := [1, 2, 3, 4, 5, 200]
theorem rooms6_ok (k : Nat) (r : Int) (h : rooms6[k]? = some r) : roomOk r = true := by
  have hk : k < 6 := (List.getElem?_eq_some_iff.1 h).1
  rcases (show k = 0 ∨ k = 1 ∨ k = 2 ∨ k = 3 ∨ k = 4 ∨ k = 5 by omega) with rfl | rfl | rfl | rfl | rfl | rfl <;>
    (simp [rooms6] at h; subst h; rfl)
theorem rooms6_cells (w : World) (t : TypeId) : CellsAt (w.alloc (.cells #[.int .i64 1, .int .i64 2, .int .i64 3, .int .i64 4, .int .i64 5, .int .i64 200] t)) w.heap.size (rooms6.map (.int .i64)) := by
  intro j v hv
  have hj : j < 6 := by have := (List.getElem?_eq_some_iff.1 hv).1; simpa [rooms6] using this
  have hf : ∀ i : Nat, (w.alloc (.cells #[.int .i64 1, .int .i64 2, .int .i64 3, .int .i64 4, .int .i64 5, .int .i64 200] t)).frozen? ⟨w.heap.size, i, none⟩ = false := fun i => by
    have := (World.ownsRow_lit (base := 0) (e := t) (size := 1) w #[.int .i64 1, .int .i64 2, .int .i64 3, .int .i64 4, .int .i64 5, .int .i64 200] 6 (by omega) (by unfold maxLen; omega) rfl).frozenAt i
    exact this
  refine ⟨?_, hf j⟩
  rcases (show j = 0 ∨ j = 1 ∨ j = 2 ∨ j = 3 ∨ j = 4 ∨ j = 5 by omega) with rfl | rfl | rfl | rfl | rfl | rfl <;>
    (simp [rooms6] at hv; subst hv; rw [World.cell?_alloc_at _ _ _ _ rfl]; rfl)

set_option maxHeartbeats 2000000 in
theorem walkFnKept {w : World} (a : Option Addr) (len cap : Nat) (z : List Int) (hr : IsRow .u8 w a len cap z) :
    Calls Try.prog 4 #[.slice a len cap] w fun e w' => e = .returned (.bool true) ∧ Below w.heap.size w w' := by
  have hcap := hr.le
  have hmax := hr.max
  unfold maxLen at hmax
  by_cases hbig : 1048576 < len
  · go_enter Try.func4, Try.ntmps4
    go_wp2
    go_ret
    exact ⟨rfl, Below.refl _ _⟩
  · have D := hide (DrawStepOf_any a len cap z w (by omega) hcap hr.bytes)
    clear hr
    go_enter Try.func4, Try.ntmps4
    go_wp2_with fail
    refine D.out.mono ?_
    rintro e w1 ⟨s, n, rfl, hs, hn0, hn1, hb1⟩
    have hs' : s.size ≤ maxLen := by unfold maxLen; omega
    have C1 := hide (fun w => implStepOf_any s n w hs')
    have C0 := hide (fun w => specStepOf_any s n w hs')
    cases hk : stOk s n
    · rw [hk] at C0 C1
      obtain ⟨x, hx⟩ : ∃ x, x = stS s n := ⟨_, rfl⟩
      rw [← hx] at C0 C1
      clear hk hx
      go_wp2_with fail
      refine (C1.out _).mono ?_
      rintro e w2 ⟨rfl, hb2⟩
      go_wp2_with fail
      refine (C0.out _).mono ?_
      rintro e w3 ⟨rfl, hb3⟩
      go_wp2_with fail
      go_ret
      have b2 := hb1.trans (hb2.mono hb1.size)
      exact ⟨rfl, b2.trans (hb3.mono b2.size)⟩
    · have hz1 : (stS s n).size ≤ maxLen := by have := stS_size s n; unfold maxLen; omega
      have T1 : Hid (∀ (k : Nat) (r : Int), rooms6[k]? = some r → ∃ q : Int, ∀ w, Calls Try.prog 12 #[.string s, .int .i64 r] w (fun e w' => e = .returned (.tuple #[.int .i64 q, .bool true]) ∧ Below w.heap.size w w') ∧
          Calls Try.prog 12 #[.string (stS s n), .int .i64 r] w (fun e w' => e = .returned (.tuple #[.int .i64 q, .bool true]) ∧ Below w.heap.size w w')) := by
        intro k r h
        obtain ⟨k1, k2, k3⟩ := kept_eq hk (rooms6_ok k r h)
        refine ⟨tkN s r, fun w => ⟨?_, ?_⟩⟩
        · have := implStepTaken_any s r w hs'; rw [k1] at this; exact this
        · have := implStepTaken_any (stS s n) r w hz1; rw [k2, k3] at this; exact this
      rw [hk] at C0 C1
      obtain ⟨x, hx⟩ : ∃ x, x = stS s n := ⟨_, rfl⟩
      rw [← hx] at C0 C1 T1
      clear hk hx hz1
      go_wp2_with fail
      refine (C1.out _).mono ?_
      rintro e w2 ⟨rfl, hb2⟩
      have g2 := hb1.trans (hb2.mono hb1.size)
      go_wp2_with fail
      refine (C0.out _).mono ?_
      rintro e w3 ⟨rfl, hb3⟩
      have g3 := g2.trans (hb3.mono g2.size)
      have G4 := hide (g3.alloc g3.size (.cells #[.int .i64 1, .int .i64 2, .int .i64 3, .int .i64 4, .int .i64 5, .int .i64 200] 3))
      have HR := hide (rooms6_cells w3 3)
      have HS3 := hide g3.size
      clear C0 C1 hb1 hb2 hb3 g2 g3
      go_wp2
      go_loopw [10] (fun i wr => ∃ k : Nat, k ≤ 6 ∧ i = .int .i64 (k : Int) ∧ Hid (CellsAt wr w3.heap.size (rooms6.map (.int .i64))) ∧ Hid (Below w.heap.size w wr) ∧ w3.heap.size < wr.heap.size) (fun i _ => 6 - (intOf i).toNat)
      case atStart => exact ⟨0, Nat.zero_le _, rfl, HR, G4, by simp⟩
      case round =>
        obtain ⟨k, hk6, rfl, HC, HB, hsz⟩ := hrel
        by_cases hlt : k < 6
        · obtain ⟨r, hr⟩ : ∃ r, rooms6[k]? = some r := ⟨_, List.getElem?_eq_getElem (by simpa [rooms6] using hlt)⟩
          obtain ⟨q, hq⟩ := T1.out k r hr
          have HQ := hide hq
          have hcell := (HC.out k (.int .i64 r) (by simp [hr])).1
          have HRR := hide hr
          clear hq hr
          have i0 : (0 : Int) ≤ (k : Int) := by omega
          have i1 : (k : Int) < 6 := by omega
          go_wp2_with fail
          refine (HQ.out wr).1.mono ?_
          rintro e w4 ⟨rfl, hb4⟩
          have HC4 := hide (HC.out.below hb4 hsz)
          have hcell4 := (HC4.out k (.int .i64 r) (by simp [HRR.out])).1
          have HB4 := hide (HB.out.trans (hb4.mono HB.out.size))
          have hsz4 : w3.heap.size < w4.heap.size := Nat.lt_of_lt_of_le hsz hb4.size
          clear hcell hb4
          go_wp2_with fail
          refine (HQ.out w4).2.mono ?_
          rintro e w5 ⟨rfl, hb5⟩
          have HC5 := hide (HC4.out.below hb5 hsz4)
          have HB5 := hide (HB4.out.trans (hb5.mono HB4.out.size))
          have hsz5 : w3.heap.size < w5.heap.size := Nat.lt_of_lt_of_le hsz4 hb5.size
          clear hcell4 hb5
          have hqq : ((q : Int) != q) = false := by simp
          go_wp2_with fail
          go_roundw
          case rel => exact ⟨k + 1, by omega, by go_num, HC5, HB5, hsz5⟩
          case measure => simp [intOf]; omega
        · go_wp2
          go_ret
          exact ⟨rfl, HB.out⟩
end Go.Proofs.Ytnaofghngpojgab
