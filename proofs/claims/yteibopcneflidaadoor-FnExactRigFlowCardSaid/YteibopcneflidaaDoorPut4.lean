/- THE WALKS of slices.BinarySearchFunc at parts, of the sorted list's put, of newRigged and room. -/
import Derived.Test.YteibopcneflidaaDoorIns4
import Derived.Test.YteibopcneflidaaDoorChk4
import Derived.Deep.LoopGhost
namespace Go.Proofs.YteibopcneflidaaDoor
open Go.RowKit Go.Sort Go.Shelf

set_option maxRecDepth 100000 in
set_option maxHeartbeats 4000000 in
theorem search_grw (l : List (Int × Int)) (v : Value) (t : Int × Int) (w : World) {lo : Nat} (hs : pSorted l) (hP : PartsV lo w v l) (hl : l.length ≤ 1000) :
    Calls Tryd.prog 91 #[v, pV t, cmpFn] w fun e w' =>
      (∃ (k : Nat) (fb : Bool), e = .returned (.tuple #[.int .i64 (k : Int), .bool fb]) ∧ k ≤ l.length ∧ l.take k ++ t :: l.drop k = pPut l t) ∧ Grw w w' := by
  have mixed : Tryd.prog.follows .mixedOrders = true := by kernel_rfl
  have eg := cmpEnters
  obtain ⟨n, hn⟩ : ∃ n, l.length = n := ⟨_, rfl⟩
  obtain ⟨a, c, rfl, hf⟩ := hP.form hn
  have HN := hide hn
  have HF := hide hf
  have HSO := hide hs
  rw [hn] at hl ⊢
  clear hP hn hf hs
  obtain ⟨t1, ht1⟩ : ∃ z, z = t.1 := ⟨_, rfl⟩
  obtain ⟨t2, ht2⟩ : ∃ z, z = t.2 := ⟨_, rfl⟩
  have HTE := hide (show t = (t1, t2) by rw [ht1, ht2])
  unfold pV
  rw [← ht1, ← ht2]
  clear ht1 ht2
  -- what stands ahead of the target stands ahead of all behind
  have MONO : Hid (∀ (i j : Nat) (x y : Int × Int), i ≤ j → l[i]? = some x → l[j]? = some y → pLess t y = true → pLess t x = true) := by
    intro i j x y hij hx hy h
    by_cases e : i = j
    · subst e
      rw [hx] at hy
      injection hy with hy
      rw [hy]; exact h
    · obtain ⟨hi, ex⟩ := List.getElem?_eq_some_iff.1 hx
      obtain ⟨hj, ey⟩ := List.getElem?_eq_some_iff.1 hy
      have h1 := List.pairwise_iff_getElem.1 HSO.out i j hi hj (by omega)
      rw [ex, ey] at h1
      have h2 := (pLess_false _ _).1 h1
      have h3 := (pLess_iff _ _).1 h
      rw [pLess_iff]
      omega
  obtain ⟨W0, hW0⟩ : ∃ W0, W0 = w.alloc (.cells #[.int .i64 t1, .int .i64 t2] 48) := ⟨_, rfl⟩
  have hc1 : W0.cell? ⟨w.heap.size, 0, none⟩ = some (.int .i64 t1) := by rw [hW0, World.cell?_alloc_at _ _ _ _ rfl]; rfl
  have hc2 : W0.cell? ⟨w.heap.size, 1, none⟩ = some (.int .i64 t2) := by rw [hW0, World.cell?_alloc_at _ _ _ _ rfl]; rfl
  have HG0 : Hid (Grw w W0) := by rw [hW0]; exact hide (Grw.alloc w _)
  have hz0 : w.heap.size < W0.heap.size := by rw [hW0]; simp
  have HC1 := hide hc1
  have HC2 := hide hc2
  have HZ0 := hide hz0
  clear hc1 hc2 hz0
  go_enter Tryd.func91, Tryd.ntmps91
  go_wp2
  rw [← hW0]
  clear hW0
  go_loopg [9, 10] n (fun kx s9 s10 wr => ∃ lo hi : Nat, s9 = .int .i64 (lo : Int) ∧ s10 = .int .i64 (hi : Int) ∧ lo ≤ hi ∧ hi ≤ n ∧ hi - lo ≤ kx ∧ Hid (Grw W0 wr) ∧
    Hid ((∀ (j : Nat) (x : Int × Int), j < lo → l[j]? = some x → pLess t x = true) ∧ (∀ (j : Nat) (x : Int × Int), hi ≤ j → l[j]? = some x → pLess t x = false)))
  case atStart => exact ⟨0, n, rfl, rfl, Nat.zero_le _, Nat.le_refl _, by omega, Grw.refl _, (⟨fun j x hj => absurd hj (Nat.not_lt_zero _), fun j x hj hx => by have := (List.getElem?_eq_some_iff.1 hx).1; have := HN.out; omega⟩ : (∀ (j : Nat) (x : Int × Int), j < 0 → l[j]? = some x → pLess t x = true) ∧ (∀ (j : Nat) (x : Int × Int), n ≤ j → l[j]? = some x → pLess t x = false))⟩
  case round =>
    obtain ⟨lo, hi, rfl, rfl, hlh, hin, hg, HG, HI⟩ := hrel
    have hzr : w.heap.size < wr.heap.size := Nat.lt_of_lt_of_le HZ0.out HG.out.size
    have e1 : ∀ n os, (grow (wr.drewN n) os).cell? ⟨w.heap.size, 0, none⟩ = some (.int .i64 t1) := fun n os => cell_grown hzr ((HG.out.below.cell (p := ⟨w.heap.size, 0, none⟩) HZ0.out).trans HC1.out) n os
    have e2 : ∀ n os, (grow (wr.drewN n) os).cell? ⟨w.heap.size, 1, none⟩ = some (.int .i64 t2) := fun n os => cell_grown hzr ((HG.out.below.cell (p := ⟨w.heap.size, 1, none⟩) HZ0.out).trans HC2.out) n os
    by_cases hlt : lo < hi
    · obtain ⟨q, rfl, hq0, hq⟩ := HF.out (by omega)
      obtain ⟨m, hm⟩ : ∃ m, m = (lo + hi) / 2 := ⟨_, rfl⟩
      obtain ⟨x, hx⟩ : ∃ x, l[m]? = some x := ⟨_, List.getElem?_eq_getElem (by rw [HN.out]; omega)⟩
      obtain ⟨g1, g2⟩ := encZ_get l m x hx
      have hqr := HG.out.cells (HG0.out.cells hq)
      have hql : q < wr.heap.size := by omega
      have d1 : ∀ n os, (grow (wr.drewN n) os).cell? ⟨q, m * 2, none⟩ = some (.int .i64 x.1) := fun n os => cell_grown hql (hqr _ _ g1).1 n os
      have d2 : ∀ n os, (grow (wr.drewN n) os).cell? ⟨q, m * 2 + 1, none⟩ = some (.int .i64 x.2) := fun n os => cell_grown hql (hqr _ _ g2).1 n os
      have HX := hide hx
      have HM := hide hm
      obtain ⟨x1, hx1⟩ : ∃ z, z = x.1 := ⟨_, rfl⟩
      obtain ⟨x2, hx2⟩ : ∃ z, z = x.2 := ⟨_, rfl⟩
      rw [← hx1] at d1
      rw [← hx2] at d2
      obtain ⟨c0, hc0⟩ : ∃ c, c = cpP x t := ⟨_, rfl⟩
      have CC := hide (fun W => cmp_at x t x1 x2 t1 t2 c0 (by rw [hx1, hx2]) HTE.out hc0 W)
      have HP := hide (show decide (c0 < 0) = pLess t x by rw [hc0]; exact cpP_lt x t)
      have ea : (((lo : Int) + (hi : Int)) / 2).toNat = m := by omega
      have i0 : (0 : Int) ≤ ((lo : Int) + (hi : Int)) / 2 := by omega
      have i1 : ((lo : Int) + (hi : Int)) / 2 < (n : Int) := by omega
      clear hx hm g1 g2 hqr hx1 hx2 hc0
      by_cases hcx : c0 < 0
      · have hd : decide (c0 < 0) = true := decide_eq_true hcx
        have HI2 : Hid ((∀ (j : Nat) (y : Int × Int), j < (lo + hi) / 2 + 1 → l[j]? = some y → pLess t y = true) ∧ (∀ (j : Nat) (y : Int × Int), hi ≤ j → l[j]? = some y → pLess t y = false)) :=
          ⟨fun j y hj hy => MONO.out j m y x (by have := HM.out; omega) hy HX.out (by rw [← HP.out, hd]), HI.out.2⟩
        go_wp2
        refine wp_region_quiet_grown (by assumption) (by kernel_rfl) ?_
        repeat (first | go_big_quiet_skip | quiet_step ((go_at_fn 60; refine Calls.grown_of (CC.out _))))
        refine wpQuiet_nil ?_
        intro _ hw'
        obtain ⟨⟨nq, osq⟩, hw''⟩ := hw'
        subst hw''
        go_wp2
        go_roundg (hi - ((lo + hi) / 2 + 1))
        case measure => omega
        case rel => exact ⟨(lo + hi) / 2 + 1, hi, by rw [show ((lo : Int) + (hi : Int)) / 2 + 1 = (((lo + hi) / 2 + 1 : Nat) : Int) by omega], rfl, by omega, hin, Nat.le_refl _, HG.out.trans (Grw.mk _ _ _), HI2.out⟩
      · have hd : decide (c0 < 0) = false := decide_eq_false hcx
        have HI2 : Hid ((∀ (j : Nat) (y : Int × Int), j < lo → l[j]? = some y → pLess t y = true) ∧ (∀ (j : Nat) (y : Int × Int), (lo + hi) / 2 ≤ j → l[j]? = some y → pLess t y = false)) := by
          refine ⟨HI.out.1, fun j y hj hy => ?_⟩
          cases h : pLess t y
          · rfl
          · have := MONO.out m j x y (by have := HM.out; omega) HX.out hy h
            rw [← HP.out, hd] at this
            cases this
        go_wp2
        refine wp_region_quiet_grown (by assumption) (by kernel_rfl) ?_
        repeat (first | go_big_quiet_skip | quiet_step ((go_at_fn 60; refine Calls.grown_of (CC.out _))))
        refine wpQuiet_nil ?_
        intro _ hw'
        obtain ⟨⟨nq, osq⟩, hw''⟩ := hw'
        subst hw''
        go_wp2
        go_roundg ((lo + hi) / 2 - lo)
        case measure => omega
        case rel => exact ⟨lo, (lo + hi) / 2, rfl, by rw [show ((lo : Int) + (hi : Int)) / 2 = (((lo + hi) / 2 : Nat) : Int) by omega], by omega, by omega, Nat.le_refl _, HG.out.trans (Grw.mk _ _ _), HI2.out⟩
    · obtain rfl : hi = lo := by omega
      have HPUT : Hid (l.take hi ++ t :: l.drop hi = pPut l t) := ins_at HSO.out HI.out.1 HI.out.2
      by_cases hnn : hi < n
      · obtain ⟨q, rfl, hq0, hq⟩ := HF.out (by omega)
        obtain ⟨x, hx⟩ : ∃ x, l[hi]? = some x := ⟨_, List.getElem?_eq_getElem (by rw [HN.out]; omega)⟩
        obtain ⟨g1, g2⟩ := encZ_get l hi x hx
        have hqr := HG.out.cells (HG0.out.cells hq)
        have hql : q < wr.heap.size := by omega
        have d1 : ∀ n os, (grow (wr.drewN n) os).cell? ⟨q, hi * 2, none⟩ = some (.int .i64 x.1) := fun n os => cell_grown hql (hqr _ _ g1).1 n os
        have d2 : ∀ n os, (grow (wr.drewN n) os).cell? ⟨q, hi * 2 + 1, none⟩ = some (.int .i64 x.2) := fun n os => cell_grown hql (hqr _ _ g2).1 n os
        obtain ⟨x1, hx1⟩ : ∃ z, z = x.1 := ⟨_, rfl⟩
        obtain ⟨x2, hx2⟩ : ∃ z, z = x.2 := ⟨_, rfl⟩
        rw [← hx1] at d1
        rw [← hx2] at d2
        obtain ⟨c0, hc0⟩ : ∃ c, c = cpP x t := ⟨_, rfl⟩
        have CC := hide (fun W => cmp_at x t x1 x2 t1 t2 c0 (by rw [hx1, hx2]) HTE.out hc0 W)
        have i0 : (0 : Int) ≤ (hi : Int) := by omega
        have i1 : (hi : Int) < (n : Int) := by omega
        have i2 : decide (hi < n) = true := decide_eq_true hnn
        clear hx g1 g2 hqr hx1 hx2 hc0 hlt hlh hg
        go_wp2
        refine wp_region_quiet_grown (by assumption) (by kernel_rfl) ?_
        repeat (first | go_big_quiet_skip | quiet_step ((go_at_fn 60; refine Calls.grown_of (CC.out _))))
        refine wpQuiet_nil ?_
        intro _ hw'
        obtain ⟨⟨nq, osq⟩, hw''⟩ := hw'
        subst hw''
        go_wp2
        go_ret2
        exact ⟨⟨hi, _, rfl, by omega, HPUT.out⟩, HG0.out.trans (HG.out.trans (Grw.mk _ _ _))⟩
      · have i2 : decide (hi < n) = false := decide_eq_false hnn
        have hni := hide (show hi ≤ n by omega)
        clear hlt hlh hg hnn hin
        go_wp2
        refine wp_region_quiet_grown (by assumption) (by kernel_rfl) ?_
        repeat (first | go_big_quiet_skip | quiet_step (fail))
        refine wpQuiet_nil ?_
        intro _ hw'
        obtain ⟨⟨nq, osq⟩, hw''⟩ := hw'
        subst hw''
        go_wp2
        go_ret2
        exact ⟨⟨hi, _, rfl, hni.out, HPUT.out⟩, HG0.out.trans (HG.out.trans (Grw.mk _ _ _))⟩
end Go.Proofs.YteibopcneflidaaDoor
