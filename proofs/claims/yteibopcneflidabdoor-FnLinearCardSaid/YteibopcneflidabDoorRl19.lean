/- TEXTS Chk4, Put4. -/
import Derived.Test.YteibopcneflidabDoorRl16
import Derived.Test.YteibopcneflidabDoorRl18
import Derived.Test.YteibopcneflidabDoorRl17
import Derived.Deep.LoopGhost
/- THE WALKS of slices.IsSortedFunc at parts, the program's checkParts, and its RigIn. -/
namespace Go.Proofs.YteibopcneflidabDoor
open Go.RowKit Go.Sort Go.Shelf

/-- the comparison as a function value -/
abbrev cmpFn : Value := .func (.func 43) #[] #[]
theorem cmpEnters : ∀ args w, (callFunc 43 args).run Tryd.prog w = .ok (.enter 43 args) w := enters_of Tryd.func43 (by kernel_rfl) rfl
theorem cmp_at (a b : Int × Int) (a1 a2 b1 b2 c : Int) (ha : a = (a1, a2)) (hb : b = (b1, b2)) (hc : c = cpP a b) (W : World) :
    Calls Tryd.prog 43 #[.agg #[.int .i64 a1, .int .i64 a2], .agg #[.int .i64 b1, .int .i64 b2]] W fun e w' => e = .returned (.int .i64 c) ∧ ∃ (q : Nat) (os : Array Obj), w' = grow (W.drewN q) os := by
  subst ha hb hc
  exact compareParts_grw (a1, a2) (b1, b2) W

set_option maxRecDepth 100000 in
set_option maxHeartbeats 4000000 in
theorem isSorted_grw (l : List (Int × Int)) (v : Value) (w : World) {lo : Nat} (hP : PartsV lo w v l) (hl : l.length ≤ 1048576) :
    Calls Tryd.prog 58 #[v, cmpFn] w fun e w' => e = .returned (.bool (rgSorted l)) ∧ Grw w w' := by
  have mixed : Tryd.prog.follows .mixedOrders = true := by kernel_rfl
  have eg := cmpEnters
  obtain ⟨n, hn⟩ : ∃ n, l.length = n := ⟨_, rfl⟩
  obtain ⟨a, c, rfl, hf⟩ := hP.form hn
  have HN := hide hn
  have HF := hide hf
  rw [hn] at hl
  clear hP hn hf
  by_cases h0 : n = 0
  · subst h0
    have HR : Hid (rgSorted l = true) := by rw [List.eq_nil_of_length_eq_zero HN.out]; rfl
    go_enter Tryd.func58, Tryd.ntmps58
    go_wp2
    go_loopw [5] (fun i wr => i = .int .i64 (-1) ∧ Hid (w = wr)) (fun _ _ => 0)
    case atStart => exact ⟨rfl, rfl⟩
    case round =>
      obtain ⟨rfl, HQ⟩ := hrel
      go_wp2
      go_ret
      have hw := HQ.out
      subst hw
      exact ⟨by rw [HR.out]; rfl, Grw.refl _⟩
  · have hn1 : IntKind.i64.wrap ((n : Int) - 1) = (n : Int) - 1 := by rw [IntKind.wrap_i64]; omega
    go_enter Tryd.func58, Tryd.ntmps58
    go_wp2
    go_loopw [5] (fun i wr => ∃ k : Nat, k < n ∧ i = .int .i64 (k : Int) ∧ Hid (∀ (j : Nat) (x y : Int × Int), k ≤ j → l[j]? = some x → l[j + 1]? = some y → pLess x y = false) ∧ Hid (Grw w wr)) (fun i _ => (intOf i).toNat)
    case atStart => exact ⟨n - 1, by omega, by congr 1; omega, (fun j x y hj _ hy => by have := (List.getElem?_eq_some_iff.1 hy).1; have := HN.out; omega), Grw.refl w⟩
    case round =>
      obtain ⟨k, hk, rfl, HS, HG⟩ := hrel
      clear hn1
      rcases Nat.eq_zero_or_pos k with hk0 | hk0
      · have HR : Hid (rgSorted l = true) := (rgSorted_adj l).2 (fun i x y hx hy => HS.out i x y (by omega) hx hy)
        subst hk0
        go_wp2
        go_ret
        exact ⟨by rw [HR.out]; rfl, HG.out⟩
      · obtain ⟨m, hkm⟩ : ∃ m, k = m + 1 := ⟨k - 1, by omega⟩
        obtain ⟨q, rfl, hq0, hq⟩ := HF.out (by omega)
        obtain ⟨x, hx⟩ : ∃ x, l[k]? = some x := ⟨_, List.getElem?_eq_getElem (by rw [HN.out]; exact hk)⟩
        obtain ⟨y, hy⟩ : ∃ y, l[m]? = some y := ⟨_, List.getElem?_eq_getElem (by rw [HN.out]; omega)⟩
        obtain ⟨g1, g2⟩ := encZ_get l k x hx
        obtain ⟨g3, g4⟩ := encZ_get l m y hy
        have hqr := HG.out.cells hq
        have hql : q < wr.heap.size := by have := HG.out.size; omega
        obtain ⟨iN, hiN⟩ : ∃ q, q = k := ⟨_, rfl⟩
        have d1 : ∀ n os, (grow (wr.drewN n) os).cell? ⟨q, iN * 2, none⟩ = some (.int .i64 x.1) := fun n os => by rw [hiN]; exact cell_grown hql (hqr _ _ g1).1 n os
        have d2 : ∀ n os, (grow (wr.drewN n) os).cell? ⟨q, iN * 2 + 1, none⟩ = some (.int .i64 x.2) := fun n os => by rw [hiN]; exact cell_grown hql (hqr _ _ g2).1 n os
        have d3 : ∀ n os, (grow (wr.drewN n) os).cell? ⟨q, m * 2, none⟩ = some (.int .i64 y.1) := fun n os => cell_grown hql (hqr _ _ g3).1 n os
        have d4 : ∀ n os, (grow (wr.drewN n) os).cell? ⟨q, m * 2 + 1, none⟩ = some (.int .i64 y.2) := fun n os => cell_grown hql (hqr _ _ g4).1 n os
        have HX := hide hx
        have HY := hide hy
        obtain ⟨x1, hx1⟩ : ∃ z, z = x.1 := ⟨_, rfl⟩
        obtain ⟨x2, hx2⟩ : ∃ z, z = x.2 := ⟨_, rfl⟩
        obtain ⟨y1, hy1⟩ : ∃ z, z = y.1 := ⟨_, rfl⟩
        obtain ⟨y2, hy2⟩ : ∃ z, z = y.2 := ⟨_, rfl⟩
        rw [← hx1] at d1
        rw [← hx2] at d2
        rw [← hy1] at d3
        rw [← hy2] at d4
        obtain ⟨c0, hc0⟩ : ∃ c, c = cpP x y := ⟨_, rfl⟩
        have CC := hide (fun W => cmp_at x y x1 x2 y1 y2 c0 (by rw [hx1, hx2]) (by rw [hy1, hy2]) hc0 W)
        have HP := hide (show decide (c0 < 0) = pLess y x by rw [hc0]; exact cpP_lt x y)
        have ea : ((m : Int) + 1).toNat = iN := by omega
        have pa : (0 : Int) ≤ (m : Int) + 1 := by omega
        have ba : (m : Int) + 1 < (n : Int) := by omega
        have ra : IntKind.i64.wrap ((m : Int) + 1) = (m : Int) + 1 := by rw [IntKind.wrap_i64]; omega
        have m0 : (0 : Int) ≤ (m : Int) := by omega
        have m1 : (m : Int) < (n : Int) := by omega
        have rm : IntKind.i64.wrap (m : Int) = (m : Int) := by rw [IntKind.wrap_i64]; omega
        have hqz : (k : Int) = (m : Int) + 1 := by omega
        have HKM := hide hkm
        rw [hqz]
        clear hx hy g1 g2 g3 g4 hqr hiN hx1 hx2 hy1 hy2 hc0 hqz hkm hk0 h0
        by_cases hlt : c0 < 0
        · have hd : decide (c0 < 0) = true := decide_eq_true hlt
          have HR : Hid (rgSorted l = false) := by
            cases hs : rgSorted l
            · rfl
            · have h1 := (rgSorted_adj l).1 hs m y x HY.out (by rw [← HKM.out]; exact HX.out)
              rw [← HP.out, hd] at h1
              cases h1
          go_wp2
          refine wp_region_quiet_grown (by assumption) (by kernel_rfl) ?_
          repeat (first | go_big_quiet_skip | quiet_step ((go_at_fn 43; refine Calls.grown_of (CC.out _))))
          refine wpQuiet_nil ?_
          intro _ hw'
          obtain ⟨⟨nq, osq⟩, hw''⟩ := hw'
          subst hw''
          go_wp2
          go_ret
          exact ⟨by rw [HR.out]; rfl, HG.out.trans (Grw.mk _ _ _)⟩
        · have hd : decide (c0 < 0) = false := decide_eq_false hlt
          have HS2 : Hid (∀ (j : Nat) (a b : Int × Int), m ≤ j → l[j]? = some a → l[j + 1]? = some b → pLess a b = false) := by
            intro j a b hj ha hb
            by_cases e : j = m
            · subst e
              rw [HY.out] at ha
              rw [← HKM.out, HX.out] at hb
              injection ha with ha
              injection hb with hb
              rw [← ha, ← hb, ← HP.out, hd]
            · exact HS.out j a b (by have := HKM.out; omega) ha hb
          go_wp2
          refine wp_region_quiet_grown (by assumption) (by kernel_rfl) ?_
          repeat (first | go_big_quiet_skip | quiet_step ((go_at_fn 43; refine Calls.grown_of (CC.out _))))
          refine wpQuiet_nil ?_
          intro _ hw'
          obtain ⟨⟨nq, osq⟩, hw''⟩ := hw'
          subst hw''
          go_wp2
          go_roundw
          case rel => exact ⟨m, by omega, by go_num, HS2.out, HG.out.trans (Grw.mk _ _ _)⟩
          case measure => simp [intOf]

theorem fault_mk (s : ByteArray) : FaultV false (.iface 61 (.string s)) := ⟨s, rfl⟩

set_option maxRecDepth 100000 in
set_option maxHeartbeats 4000000 in
theorem checkParts_grw (l : List (Int × Int)) (v : Value) (w : World) {lo : Nat} (hP : PartsV lo w v l) (hl : l.length ≤ 1048576) :
    Calls Tryd.prog 37 #[v] w fun e w' => (∃ u, e = .returned u ∧ FaultV (rgIn l) u) ∧ Grw w w' := by
  have CS := hide (fun (W : World) (h : PartsV lo W v l) => isSorted_grw l v W h hl)
  have HP := hide hP
  obtain ⟨n, hn⟩ : ∃ n, l.length = n := ⟨_, rfl⟩
  obtain ⟨a, c, rfl, hf⟩ := hP.form hn
  have HN := hide hn
  have HF := hide hf
  rw [hn] at hl
  clear hP hn hf
  by_cases h60 : n ≤ 60
  · have hni : ¬ ((60 : Int) < (n : Int)) := by omega
    go_enter Tryd.func37, Tryd.ntmps37
    go_wp2
    clear hni
    go_loopw [11] (fun i wr => ∃ k : Nat, k ≤ n ∧ i = .int .i64 (k : Int) ∧ Hid (∀ x ∈ l.take k, rgPart x = true) ∧ Hid (Grw w wr)) (fun i _ => n - (intOf i).toNat)
    case atStart => exact ⟨0, Nat.zero_le _, rfl, (fun x hx => by simp at hx), Grw.refl w⟩
    case round =>
      obtain ⟨k, hk, rfl, HS, HG⟩ := hrel
      by_cases hlt : k < n
      · obtain ⟨q, rfl, hq0, hq⟩ := HF.out (by omega)
        obtain ⟨x, hx⟩ : ∃ x, l[k]? = some x := ⟨_, List.getElem?_eq_getElem (by rw [HN.out]; exact hlt)⟩
        obtain ⟨g1, g2⟩ := encZ_get l k x hx
        have d1 := ((HG.out.cells hq) _ _ g1).1
        have d2 := ((HG.out.cells hq) _ _ g2).1
        have hql : q < wr.heap.size := by have := HG.out.size; omega
        have HBAD : Hid (rgPart x = false → rgIn l = false) := rgIn_bad_part (List.mem_of_getElem? hx)
        have HNX : Hid (rgPart x = true → ∀ y ∈ l.take (k + 1), rgPart y = true) := by
          intro h y hy
          rw [List.take_add_one, hx] at hy
          rcases List.mem_append.1 hy with hy | hy
          · exact HS.out y hy
          · simp at hy; rw [hy]; exact h
        have HPT : Hid (rgPart x = (decide (1 ≤ x.1) && decide (x.1 ≤ 60) && (decide (0 ≤ x.2) && decide (x.2 ≤ 1000)))) := rfl
        obtain ⟨x1, hx1⟩ : ∃ z, z = x.1 := ⟨_, rfl⟩
        obtain ⟨x2, hx2⟩ : ∃ z, z = x.2 := ⟨_, rfl⟩
        rw [← hx1] at d1 HPT
        rw [← hx2] at d2 HPT
        have i0 : (0 : Int) ≤ (k : Int) := by omega
        have i1 : (k : Int) < (n : Int) := by omega
        clear hx g1 g2 hx1 hx2
        by_cases h1 : x1 < 1
        · have HB2 := hide (HBAD.out (by rw [HPT.out, decide_eq_false (show ¬ (1 ≤ x1) by omega)]; rfl))
          go_wp2
          go_ret
          exact ⟨⟨_, rfl, by rw [HB2.out]; exact fault_mk _⟩, HG.out.trans (Grw.alloc _ _)⟩
        · by_cases h2 : 60 < x1
          · have HB2 := hide (HBAD.out (by rw [HPT.out, decide_eq_false (show ¬ (x1 ≤ 60) by omega)]; simp))
            go_wp2
            go_ret
            exact ⟨⟨_, rfl, by rw [HB2.out]; exact fault_mk _⟩, HG.out.trans (Grw.alloc _ _)⟩
          · by_cases h3 : x2 < 0
            · have HB2 := hide (HBAD.out (by rw [HPT.out, decide_eq_false (show ¬ (0 ≤ x2) by omega)]; simp))
              go_wp2
              go_ret
              exact ⟨⟨_, rfl, by rw [HB2.out]; exact fault_mk _⟩, HG.out.trans (Grw.alloc _ _)⟩
            · by_cases h4 : 1000 < x2
              · have HB2 := hide (HBAD.out (by rw [HPT.out, decide_eq_false (show ¬ (x2 ≤ 1000) by omega)]; simp))
                go_wp2
                go_ret
                exact ⟨⟨_, rfl, by rw [HB2.out]; exact fault_mk _⟩, HG.out.trans (Grw.alloc _ _)⟩
              · have HN2 := hide (HNX.out (by rw [HPT.out, decide_eq_true (show 1 ≤ x1 by omega), decide_eq_true (show x1 ≤ 60 by omega), decide_eq_true (show 0 ≤ x2 by omega), decide_eq_true (show x2 ≤ 1000 by omega)]; rfl))
                go_wp2
                go_roundw
                case rel => exact ⟨k + 1, by omega, by go_num, HN2.out, HG.out.trans (Grw.alloc _ _)⟩
                case measure => simp [intOf]; omega
      · have hkn : k = n := by omega
        have HALL : Hid (rgIn l = rgSorted l) := by
          refine rgIn_of (fun x hx => HS.out x ?_) (by rw [HN.out]; exact h60)
          rw [List.take_of_length_le (by rw [HN.out]; omega)]
          exact hx
        have CS2 := hide (CS.out wr (HP.out.below HG.out.below (Nat.le_refl _)))
        rw [← HALL.out] at CS2
        obtain ⟨b, hb⟩ : ∃ b, b = rgIn l := ⟨_, rfl⟩
        rw [← hb] at CS2
        have HBB := hide hb
        clear hb
        cases b
        · go_wp2_with (go_at_call 58; refine CS2.out.mono ?_; rintro e w2 ⟨rfl, hg2⟩; have HG2 := hide hg2; clear hg2)
          go_ret
          exact ⟨⟨_, rfl, by rw [← HBB.out]; exact fault_mk _⟩, HG.out.trans HG2.out⟩
        · go_wp2_with (go_at_call 58; refine CS2.out.mono ?_; rintro e w2 ⟨rfl, hg2⟩; have HG2 := hide hg2; clear hg2)
          go_ret
          exact ⟨⟨_, rfl, by rw [← HBB.out]; rfl⟩, HG.out.trans HG2.out⟩
  · have hni : (60 : Int) < (n : Int) := by omega
    have HR := hide (rgIn_len (l := l) (by rw [HN.out]; omega))
    go_enter Tryd.func37, Tryd.ntmps37
    go_wp2
    go_ret
    exact ⟨⟨_, rfl, by rw [HR.out]; exact fault_mk _⟩, Grw.refl _⟩

end Go.Proofs.YteibopcneflidabDoor

/- THE WALKS of slices.BinarySearchFunc at parts, of the sorted list's put, of newRigged and room. -/
namespace Go.Proofs.YteibopcneflidabDoor
open Go.RowKit Go.Sort Go.Shelf

set_option maxRecDepth 100000 in
set_option maxHeartbeats 4000000 in
theorem search_grw (l : List (Int × Int)) (v : Value) (t : Int × Int) (w : World) {lo : Nat} (hs : pSorted l) (hP : PartsV lo w v l) (hl : l.length ≤ 1000) :
    Calls Tryd.prog 62 #[v, pV t, cmpFn] w fun e w' =>
      (∃ (k : Nat) (fb : Bool), e = .returned (.tuple #[.int .i64 (k : Int), .bool fb]) ∧ k ≤ l.length ∧ l.take k ++ t :: l.drop k = pPut l t) ∧ Grw w w' := by
  have mixed : Tryd.prog.follows .mixedOrders = true := by kernel_rfl
  have eg := cmpEnters
  obtain ⟨n, hn⟩ : ∃ n, l.length = n := ⟨_, rfl⟩
  obtain ⟨a, c, rfl, hf⟩ := hP.form hn
  have HN := hide hn
  have HF := hide hf
  have HSO := hide hs
  rw [hn] at hl ⊢
  clear hP hn hf hs
  obtain ⟨t1, ht1⟩ : ∃ z, z = t.1 := ⟨_, rfl⟩
  obtain ⟨t2, ht2⟩ : ∃ z, z = t.2 := ⟨_, rfl⟩
  have HTE := hide (show t = (t1, t2) by rw [ht1, ht2])
  unfold pV
  rw [← ht1, ← ht2]
  clear ht1 ht2
  -- what stands ahead of the target stands ahead of all behind
  have MONO : Hid (∀ (i j : Nat) (x y : Int × Int), i ≤ j → l[i]? = some x → l[j]? = some y → pLess t y = true → pLess t x = true) := by
    intro i j x y hij hx hy h
    by_cases e : i = j
    · subst e
      rw [hx] at hy
      injection hy with hy
      rw [hy]; exact h
    · obtain ⟨hi, ex⟩ := List.getElem?_eq_some_iff.1 hx
      obtain ⟨hj, ey⟩ := List.getElem?_eq_some_iff.1 hy
      have h1 := List.pairwise_iff_getElem.1 HSO.out i j hi hj (by omega)
      rw [ex, ey] at h1
      have h2 := (pLess_false _ _).1 h1
      have h3 := (pLess_iff _ _).1 h
      rw [pLess_iff]
      omega
  obtain ⟨W0, hW0⟩ : ∃ W0, W0 = w.alloc (.cells #[.int .i64 t1, .int .i64 t2] 44) := ⟨_, rfl⟩
  have hc1 : W0.cell? ⟨w.heap.size, 0, none⟩ = some (.int .i64 t1) := by rw [hW0, World.cell?_alloc_at _ _ _ _ rfl]; rfl
  have hc2 : W0.cell? ⟨w.heap.size, 1, none⟩ = some (.int .i64 t2) := by rw [hW0, World.cell?_alloc_at _ _ _ _ rfl]; rfl
  have HG0 : Hid (Grw w W0) := by rw [hW0]; exact hide (Grw.alloc w _)
  have hz0 : w.heap.size < W0.heap.size := by rw [hW0]; simp
  have HC1 := hide hc1
  have HC2 := hide hc2
  have HZ0 := hide hz0
  clear hc1 hc2 hz0
  go_enter Tryd.func62, Tryd.ntmps62
  go_wp2
  rw [← hW0]
  clear hW0
  go_loopg [9, 10] n (fun kx s9 s10 wr => ∃ lo hi : Nat, s9 = .int .i64 (lo : Int) ∧ s10 = .int .i64 (hi : Int) ∧ lo ≤ hi ∧ hi ≤ n ∧ hi - lo ≤ kx ∧ Hid (Grw W0 wr) ∧
    Hid ((∀ (j : Nat) (x : Int × Int), j < lo → l[j]? = some x → pLess t x = true) ∧ (∀ (j : Nat) (x : Int × Int), hi ≤ j → l[j]? = some x → pLess t x = false)))
  case atStart => exact ⟨0, n, rfl, rfl, Nat.zero_le _, Nat.le_refl _, by omega, Grw.refl _, (⟨fun j x hj => absurd hj (Nat.not_lt_zero _), fun j x hj hx => by have := (List.getElem?_eq_some_iff.1 hx).1; have := HN.out; omega⟩ : (∀ (j : Nat) (x : Int × Int), j < 0 → l[j]? = some x → pLess t x = true) ∧ (∀ (j : Nat) (x : Int × Int), n ≤ j → l[j]? = some x → pLess t x = false))⟩
  case round =>
    obtain ⟨lo, hi, rfl, rfl, hlh, hin, hg, HG, HI⟩ := hrel
    have hzr : w.heap.size < wr.heap.size := Nat.lt_of_lt_of_le HZ0.out HG.out.size
    have e1 : ∀ n os, (grow (wr.drewN n) os).cell? ⟨w.heap.size, 0, none⟩ = some (.int .i64 t1) := fun n os => cell_grown hzr ((HG.out.below.cell (p := ⟨w.heap.size, 0, none⟩) HZ0.out).trans HC1.out) n os
    have e2 : ∀ n os, (grow (wr.drewN n) os).cell? ⟨w.heap.size, 1, none⟩ = some (.int .i64 t2) := fun n os => cell_grown hzr ((HG.out.below.cell (p := ⟨w.heap.size, 1, none⟩) HZ0.out).trans HC2.out) n os
    by_cases hlt : lo < hi
    · obtain ⟨q, rfl, hq0, hq⟩ := HF.out (by omega)
      obtain ⟨m, hm⟩ : ∃ m, m = (lo + hi) / 2 := ⟨_, rfl⟩
      obtain ⟨x, hx⟩ : ∃ x, l[m]? = some x := ⟨_, List.getElem?_eq_getElem (by rw [HN.out]; omega)⟩
      obtain ⟨g1, g2⟩ := encZ_get l m x hx
      have hqr := HG.out.cells (HG0.out.cells hq)
      have hql : q < wr.heap.size := by omega
      have d1 : ∀ n os, (grow (wr.drewN n) os).cell? ⟨q, m * 2, none⟩ = some (.int .i64 x.1) := fun n os => cell_grown hql (hqr _ _ g1).1 n os
      have d2 : ∀ n os, (grow (wr.drewN n) os).cell? ⟨q, m * 2 + 1, none⟩ = some (.int .i64 x.2) := fun n os => cell_grown hql (hqr _ _ g2).1 n os
      have HX := hide hx
      have HM := hide hm
      obtain ⟨x1, hx1⟩ : ∃ z, z = x.1 := ⟨_, rfl⟩
      obtain ⟨x2, hx2⟩ : ∃ z, z = x.2 := ⟨_, rfl⟩
      rw [← hx1] at d1
      rw [← hx2] at d2
      obtain ⟨c0, hc0⟩ : ∃ c, c = cpP x t := ⟨_, rfl⟩
      have CC := hide (fun W => cmp_at x t x1 x2 t1 t2 c0 (by rw [hx1, hx2]) HTE.out hc0 W)
      have HP := hide (show decide (c0 < 0) = pLess t x by rw [hc0]; exact cpP_lt x t)
      have ea : (((lo : Int) + (hi : Int)) / 2).toNat = m := by omega
      have i0 : (0 : Int) ≤ ((lo : Int) + (hi : Int)) / 2 := by omega
      have i1 : ((lo : Int) + (hi : Int)) / 2 < (n : Int) := by omega
      clear hx hm g1 g2 hqr hx1 hx2 hc0
      by_cases hcx : c0 < 0
      · have hd : decide (c0 < 0) = true := decide_eq_true hcx
        have HI2 : Hid ((∀ (j : Nat) (y : Int × Int), j < (lo + hi) / 2 + 1 → l[j]? = some y → pLess t y = true) ∧ (∀ (j : Nat) (y : Int × Int), hi ≤ j → l[j]? = some y → pLess t y = false)) :=
          ⟨fun j y hj hy => MONO.out j m y x (by have := HM.out; omega) hy HX.out (by rw [← HP.out, hd]), HI.out.2⟩
        go_wp2
        refine wp_region_quiet_grown (by assumption) (by kernel_rfl) ?_
        repeat (first | go_big_quiet_skip | quiet_step ((go_at_fn 43; refine Calls.grown_of (CC.out _))))
        refine wpQuiet_nil ?_
        intro _ hw'
        obtain ⟨⟨nq, osq⟩, hw''⟩ := hw'
        subst hw''
        go_wp2
        go_roundg (hi - ((lo + hi) / 2 + 1))
        case measure => omega
        case rel => exact ⟨(lo + hi) / 2 + 1, hi, by rw [show ((lo : Int) + (hi : Int)) / 2 + 1 = (((lo + hi) / 2 + 1 : Nat) : Int) by omega], rfl, by omega, hin, Nat.le_refl _, HG.out.trans (Grw.mk _ _ _), HI2.out⟩
      · have hd : decide (c0 < 0) = false := decide_eq_false hcx
        have HI2 : Hid ((∀ (j : Nat) (y : Int × Int), j < lo → l[j]? = some y → pLess t y = true) ∧ (∀ (j : Nat) (y : Int × Int), (lo + hi) / 2 ≤ j → l[j]? = some y → pLess t y = false)) := by
          refine ⟨HI.out.1, fun j y hj hy => ?_⟩
          cases h : pLess t y
          · rfl
          · have := MONO.out m j x y (by have := HM.out; omega) HX.out hy h
            rw [← HP.out, hd] at this
            cases this
        go_wp2
        refine wp_region_quiet_grown (by assumption) (by kernel_rfl) ?_
        repeat (first | go_big_quiet_skip | quiet_step ((go_at_fn 43; refine Calls.grown_of (CC.out _))))
        refine wpQuiet_nil ?_
        intro _ hw'
        obtain ⟨⟨nq, osq⟩, hw''⟩ := hw'
        subst hw''
        go_wp2
        go_roundg ((lo + hi) / 2 - lo)
        case measure => omega
        case rel => exact ⟨lo, (lo + hi) / 2, rfl, by rw [show ((lo : Int) + (hi : Int)) / 2 = (((lo + hi) / 2 : Nat) : Int) by omega], by omega, by omega, Nat.le_refl _, HG.out.trans (Grw.mk _ _ _), HI2.out⟩
    · obtain rfl : hi = lo := by omega
      have HPUT : Hid (l.take hi ++ t :: l.drop hi = pPut l t) := ins_at HSO.out HI.out.1 HI.out.2
      by_cases hnn : hi < n
      · obtain ⟨q, rfl, hq0, hq⟩ := HF.out (by omega)
        obtain ⟨x, hx⟩ : ∃ x, l[hi]? = some x := ⟨_, List.getElem?_eq_getElem (by rw [HN.out]; omega)⟩
        obtain ⟨g1, g2⟩ := encZ_get l hi x hx
        have hqr := HG.out.cells (HG0.out.cells hq)
        have hql : q < wr.heap.size := by omega
        have d1 : ∀ n os, (grow (wr.drewN n) os).cell? ⟨q, hi * 2, none⟩ = some (.int .i64 x.1) := fun n os => cell_grown hql (hqr _ _ g1).1 n os
        have d2 : ∀ n os, (grow (wr.drewN n) os).cell? ⟨q, hi * 2 + 1, none⟩ = some (.int .i64 x.2) := fun n os => cell_grown hql (hqr _ _ g2).1 n os
        obtain ⟨x1, hx1⟩ : ∃ z, z = x.1 := ⟨_, rfl⟩
        obtain ⟨x2, hx2⟩ : ∃ z, z = x.2 := ⟨_, rfl⟩
        rw [← hx1] at d1
        rw [← hx2] at d2
        obtain ⟨c0, hc0⟩ : ∃ c, c = cpP x t := ⟨_, rfl⟩
        have CC := hide (fun W => cmp_at x t x1 x2 t1 t2 c0 (by rw [hx1, hx2]) HTE.out hc0 W)
        have i0 : (0 : Int) ≤ (hi : Int) := by omega
        have i1 : (hi : Int) < (n : Int) := by omega
        have i2 : decide (hi < n) = true := decide_eq_true hnn
        clear hx g1 g2 hqr hx1 hx2 hc0 hlt hlh hg
        go_wp2
        refine wp_region_quiet_grown (by assumption) (by kernel_rfl) ?_
        repeat (first | go_big_quiet_skip | quiet_step ((go_at_fn 43; refine Calls.grown_of (CC.out _))))
        refine wpQuiet_nil ?_
        intro _ hw'
        obtain ⟨⟨nq, osq⟩, hw''⟩ := hw'
        subst hw''
        go_wp2
        go_ret2
        exact ⟨⟨hi, _, rfl, by omega, HPUT.out⟩, HG0.out.trans (HG.out.trans (Grw.mk _ _ _))⟩
      · have i2 : decide (hi < n) = false := decide_eq_false hnn
        have hni := hide (show hi ≤ n by omega)
        clear hlt hlh hg hnn hin
        go_wp2
        refine wp_region_quiet_grown (by assumption) (by kernel_rfl) ?_
        repeat (first | go_big_quiet_skip | quiet_step (fail))
        refine wpQuiet_nil ?_
        intro _ hw'
        obtain ⟨⟨nq, osq⟩, hw''⟩ := hw'
        subst hw''
        go_wp2
        go_ret2
        exact ⟨⟨hi, _, rfl, hni.out, HPUT.out⟩, HG0.out.trans (HG.out.trans (Grw.mk _ _ _))⟩
end Go.Proofs.YteibopcneflidabDoor
