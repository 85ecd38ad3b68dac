/- TEXTS Put8. -/
import Derived.Test.YtdooboibmllfkaaGreatDoorExa19
namespace Go.Proofs.YtdooboibmllfkaaGreatDoor
set_option maxRecDepth 100000
open Go.RowKit Go.Sort Go.Shelf

theorem Below.mono {B B' : Nat} {w w' : World} (h : Below B w w') (hb : B' ≤ B) : Below B' w w' := ⟨h.os, h.tape, h.output, h.size, fun k hk => h.block k (by omega)⟩
theorem below_drawn {S : Nat} {W X Y w1 : World} {row : Option Nat} (hg : Y.grownBy w1 row) (h : Below S W X) (e1 : Y.heap = X.heap) (e2 : Y.os = X.os) (e3 : Y.tape = X.tape) (e4 : Y.output = X.output) (hS : S ≤ X.heap.size) (hr : ∀ r, row = some r → S ≤ r) : Below S W w1 :=
  ⟨hg.os.trans (e2.trans h.os), hg.tape.trans (e3.trans h.tape), hg.output.trans (e4.trans h.output), Nat.le_trans h.size (by rw [← e1]; exact hg.size), fun k hk =>
    (hg.block k (by rw [e1]; omega) (fun e => by have := hr k e.symm; omega)).trans ((by rw [e1] : Y.heap[k]? = X.heap[k]?).trans (h.block k hk))⟩
theorem cell_two_put (w : World) (x y : Value) (t : TypeId) : ∀ j u, [x, y][j]? = some u → (w.alloc (.cells #[x, y] t)).cell? ((⟨w.heap.size, 0, none⟩ : Addr).add j) = some u := by
  intro j u hj
  match j, hj with
  | 0, hj => simp at hj; subst hj; simp [Addr.add]
  | 1, hj => simp at hj; subst hj; simp [Addr.add]

set_option maxRecDepth 100000 in
set_option maxHeartbeats 16000000 in
theorem specPut_any (l : List (Int × Int)) (v : Value) (p : Int × Int) (w : World) {lo : Nat} (hP : PartsS lo w v l) (hl : l.length ≤ 1000) :
    Calls Tryz.prog 88 #[v, pV p] w fun e w' => ∃ u, e = .returned u ∧ PartsS w.heap.size w' u (pPut l p) ∧ Below w.heap.size w w' := by
  have mixed : Tryz.prog.follows .mixedOrders = true := by kernel_rfl
  obtain ⟨i0, hi, hz0, hz1, hz2⟩ := info_parts infoP
  obtain ⟨n, hn⟩ : ∃ n, l.length = n := ⟨_, rfl⟩
  obtain ⟨_, g, c, rfl, hnc, _, hg, hc⟩ := hP
  rw [hn] at hl hnc
  rw [hn]
  obtain ⟨p1, p2⟩ := p
  show Calls Tryz.prog 88 #[.slice (some ⟨g, 0, none⟩) n c, .agg #[.int .i64 p1, .int .i64 p2]] w fun e w' => ∃ u, e = .returned u ∧ PartsS w.heap.size w' u (pPut l (p1, p2)) ∧ Below w.heap.size w w'
  have HN := hide hn
  have BW0 := hide ((Below.refl w.heap.size w).alloc (Nat.le_refl _) (.cells #[.int .i64 p1, .int .i64 p2] 98))
  have HC0 := hide (hc.below' BW0.out (Nat.le_refl _))
  have GS : Hid (g < (w.alloc (.cells #[.int .i64 p1, .int .i64 p2] 98)).heap.size) := hide (by rw [World.size_alloc]; omega)
  have cB1 : (w.alloc (.cells #[.int .i64 p1, .int .i64 p2] 98)).cell? ⟨w.heap.size, 0, none⟩ = some (.int .i64 p1) := by rw [World.cell?_alloc_at _ _ _ _ rfl]; rfl
  have cB2 : (w.alloc (.cells #[.int .i64 p1, .int .i64 p2] 98)).cell? ⟨w.heap.size, 1, none⟩ = some (.int .i64 p2) := by rw [World.cell?_alloc_at _ _ _ _ rfl]; rfl
  have CB1 := hide cB1
  have CB2 := hide cB2
  have hgn := hg
  clear hc hn cB1 cB2
  go_enter Tryz.func88, Tryz.ntmps88
  go_wp2
  go_loopw [5] (fun i wr => ∃ k : Nat, k ≤ n ∧ i = .int .i64 (k : Int) ∧ Hid (∀ (j : Nat) (x : Int × Int), j < k → l[j]? = some x → pLess x (p1, p2) = false) ∧ Hid (Grw (w.alloc (.cells #[.int .i64 p1, .int .i64 p2] 98)) wr)) (fun i _ => n - (Go.RowKit.intOf i).toNat)
  case atStart => exact ⟨0, Nat.zero_le _, rfl, fun j x h => by omega, Grw.refl _⟩
  case round =>
    obtain ⟨k, hk, rfl, HS, HG⟩ := hrel
    have hszW : w.heap.size < wr.heap.size := by have := HG.out.size; rw [World.size_alloc] at this; omega
    have hbc1 := (HG.out.below.cell (p := ⟨w.heap.size, 0, none⟩) (by show w.heap.size < _; rw [World.size_alloc]; exact Nat.lt_succ_self _)).trans CB1.out
    have hbc2 := (HG.out.below.cell (p := ⟨w.heap.size, 1, none⟩) (by show w.heap.size < _; rw [World.size_alloc]; exact Nat.lt_succ_self _)).trans CB2.out
    have HKN : Hid (k ≤ l.length) := hide (by have := HN.out; omega)
    by_cases hlt : k < n
    · obtain ⟨x, hx⟩ : ∃ x, l[k]? = some x := ⟨_, List.getElem?_eq_getElem (by rw [HN.out]; exact hlt)⟩
      obtain ⟨g1, g2⟩ := encZ_get l k x hx
      have hqr := HG.out.cells HC0.out
      have hql : g < wr.heap.size := by have := HG.out.size; have := GS.out; omega
      have d1 : ∀ n os, (grow (wr.drewN n) os).cell? ⟨g, k * 2, none⟩ = some (.int .i64 x.1) := fun n os => cell_grown hql (hqr _ _ g1).1 n os
      have d2 : ∀ n os, (grow (wr.drewN n) os).cell? ⟨g, k * 2 + 1, none⟩ = some (.int .i64 x.2) := fun n os => cell_grown hql (hqr _ _ g2).1 n os
      have d3 : ∀ n os, (grow (wr.drewN n) os).cell? ⟨w.heap.size, 0, none⟩ = some (.int .i64 p1) := fun n os => cell_grown hszW hbc1 n os
      have d4 : ∀ n os, (grow (wr.drewN n) os).cell? ⟨w.heap.size, 1, none⟩ = some (.int .i64 p2) := fun n os => cell_grown hszW hbc2 n os
      have HX := hide hx
      obtain ⟨t, ht⟩ : ∃ t, t = pLess x (p1, p2) := ⟨_, rfl⟩
      have HT := hide ht
      have CL := hide (fun W => (specLess_grw x (p1, p2) W).mono (fun e w' h => (show e = .returned (.bool (pLess x (p1, p2))) ∧ ∃ (q : Nat) (os : Array Obj), w' = grow (W.drewN q) os from h)))
      rw [← ht] at CL
      unfold pV at CL
      obtain ⟨x1, hx1⟩ : ∃ z, z = x.1 := ⟨_, rfl⟩
      obtain ⟨x2, hx2⟩ : ∃ z, z = x.2 := ⟨_, rfl⟩
      rw [← hx1] at d1 CL
      rw [← hx2] at d2 CL
      have i0' : (0 : Int) ≤ (k : Int) := by omega
      have i1 : (k : Int) < (n : Int) := by omega
      have HB1 := hide hbc1
      have HB2 := hide hbc2
      have HLT := hide hlt
      clear hx g1 g2 hqr ht hx1 hx2 hbc1 hbc2
      cases t
      · have HN2 : Hid (∀ (j : Nat) (y : Int × Int), j < k + 1 → l[j]? = some y → pLess y (p1, p2) = false) := hide (fun j y hj hy => by
          by_cases h : j < k
          · exact HS.out j y h hy
          · obtain rfl : j = k := by omega
            rw [HX.out] at hy
            injection hy with hy
            rw [← hy]
            exact HT.out.symm)
        go_wp2
        refine wp_region_quiet_grown (by assumption) (by kernel_rfl) ?_
        repeat (first | go_big_quiet_skip | quiet_step ((go_at_call 126; refine Calls.grown_of (CL.out _))))
        refine wpQuiet_nil ?_
        intro _ hw'
        obtain ⟨⟨nq, osq⟩, hw''⟩ := hw'
        subst hw''
        go_wp2
        go_roundw
        case rel => exact ⟨k + 1, by omega, by go_num, HN2.out, HG.out.trans (Grw.mk _ _ _)⟩
        case measure => simp [Go.RowKit.intOf]; omega
      · have HSTOP : Hid (∀ x, l[k]? = some x → pLess x (p1, p2) = true) := hide (fun y hy => by
          rw [HX.out] at hy
          injection hy with hy
          rw [← hy]
          exact HT.out.symm)
        go_wp2
        refine wp_region_quiet_grown (by assumption) (by kernel_rfl) ?_
        repeat (first | go_big_quiet_skip | quiet_step ((go_at_call 126; refine Calls.grown_of (CL.out _))))
        refine wpQuiet_nil ?_
        intro _ hw'
        obtain ⟨⟨nq, osq⟩, hw''⟩ := hw'
        subst hw''
        have cW1 := d3 nq osq
        have cW2 := d4 nq osq
        have HG := hide (HG.out.trans (Grw.mk _ nq osq))
        have hbW : w.heap.size < (grow (wr.drewN nq) osq).heap.size := by have := HG.out.size; rw [World.size_alloc] at this; omega
        clear d1 d2 d3 d4 CL HB1 HB2 hszW hql
        generalize grow (wr.drewN nq) osq = W at *
        have HCW := hide (HG.out.cells HC0.out)
        have hgW : g < W.heap.size := by have := HG.out.size; have := GS.out; omega
        have HGW : Hid (Below w.heap.size w W) := hide (BW0.out.trans (HG.out.below.mono (by rw [World.size_alloc]; exact Nat.le_succ _)))
        have KEEP : Hid (∀ w', Below W.heap.size W w' → w'.cell? ⟨w.heap.size, 0, none⟩ = some (.int .i64 p1) ∧ w'.cell? ⟨w.heap.size, 1, none⟩ = some (.int .i64 p2)) := hide (fun w' h => ⟨(h.cell (p := ⟨w.heap.size, 0, none⟩) hbW).trans cW1, (h.cell (p := ⟨w.heap.size, 1, none⟩) hbW).trans cW2⟩)
        have TW := hide (And.intro cW1 cW2)
        have KA := hide ((Below.refl W.heap.size W).alloc (Nat.le_refl _) (.cells #[] 98))
        have KB := hide (KA.out.alloc KA.out.size (.cells #[.int .i64 p1, .int .i64 p2] 98))
        have KL := hide ((Below.refl W.heap.size W).alloc (Nat.le_refl _) (.cells #[.int .i64 p1, .int .i64 p2] 98))
        have KC := hide (KL.out.alloc KL.out.size (.cells #[] 98))
        have TA := hide (KEEP.out _ KA.out)
        have TB := hide (KEEP.out _ KB.out)
        have TC := hide (KEEP.out _ KC.out)
        have TL := hide (KEEP.out _ KL.out)
        have HCA := hide (HCW.out.below' KA.out (Nat.le_refl _))
        have HCB := hide (HCW.out.below' KB.out (Nat.le_refl _))
        have HCC := hide (HCW.out.below' KC.out (Nat.le_refl _))
        have OA := hide (World.ownsRow_lit (base := W.heap.size) (e := 98) (size := 2) W #[] 0 (Nat.le_refl _) (by unfold maxLen; omega) rfl)
        have OB := hide (OA.out.alloc (.cells #[.int .i64 p1, .int .i64 p2] 98))
        have OC : Hid (((W.alloc (.cells #[.int .i64 p1, .int .i64 p2] 98)).alloc (.cells #[] 98)).ownsRow W.heap.size 98 2 (.slice (some ⟨W.heap.size + 1, 0, none⟩) 0 0) 0 []) := hide (by
          have := World.ownsRow_lit (base := W.heap.size) (e := 98) (size := 2) (W.alloc (.cells #[.int .i64 p1, .int .i64 p2] 98)) #[] 0 (by rw [World.size_alloc]; exact Nat.le_succ _) (by unfold maxLen; omega) rfl
          rw [World.size_alloc] at this
          exact this)
        have LCB : Hid (∀ w0 w1 : World, w0.heap = ((W.alloc (.cells #[] 98)).alloc (.cells #[.int .i64 p1, .int .i64 p2] 98)).heap → w0.grownBy w1 (Value.slice (some ⟨W.heap.size, 0, none⟩) 0 0).ownBlock → ∀ j u, [Value.int .i64 p1, Value.int .i64 p2][j]? = some u → w1.cell? ((⟨W.heap.size + 1, 0, none⟩ : Addr).add j) = some u) := hide (by
          intro w0 w1 hw hg j u hu
          have h1 := cell_two_put (W.alloc (.cells #[] 98)) (.int .i64 p1) (.int .i64 p2) 98 j u hu
          rw [World.size_alloc, Addr.add_lit] at h1
          rw [Addr.add_lit]
          have h2 : w0.cell? ⟨W.heap.size + 1, 0 + j, none⟩ = ((W.alloc (.cells #[] 98)).alloc (.cells #[.int .i64 p1, .int .i64 p2] 98)).cell? ⟨W.heap.size + 1, 0 + j, none⟩ := World.cell?_of_block (by rw [hw])
          exact (hg.cell_far ⟨W.heap.size + 1, 0 + j, none⟩ (by rw [hw]; show _ < ((W.alloc (.cells #[] 98)).alloc (.cells #[.int .i64 p1, .int .i64 p2] 98)).heap.size; simp) (by simp [Value.ownBlock])).trans (h2.trans h1))
        have LCC : Hid (∀ w0 w1 : World, w0.heap = ((W.alloc (.cells #[.int .i64 p1, .int .i64 p2] 98)).alloc (.cells #[] 98)).heap → w0.grownBy w1 (Value.slice (some ⟨W.heap.size + 1, 0, none⟩) 0 0).ownBlock → ∀ j u, [Value.int .i64 p1, Value.int .i64 p2][j]? = some u → w1.cell? ((⟨W.heap.size, 0, none⟩ : Addr).add j) = some u) := hide (by
          intro w0 w1 hw hg j u hu
          have h1 := cell_two_put W (.int .i64 p1) (.int .i64 p2) 98 j u hu
          rw [Addr.add_lit] at h1
          rw [Addr.add_lit]
          have h2 := ((Below.refl (W.heap.size + 1) (W.alloc (.cells #[.int .i64 p1, .int .i64 p2] 98))).alloc (by simp) (.cells #[] 98)).cell (p := ⟨W.heap.size, 0 + j, none⟩) (by simp)
          have h3 : w0.cell? ⟨W.heap.size, 0 + j, none⟩ = ((W.alloc (.cells #[.int .i64 p1, .int .i64 p2] 98)).alloc (.cells #[] 98)).cell? ⟨W.heap.size, 0 + j, none⟩ := World.cell?_of_block (by rw [hw])
          exact (hg.cell_far ⟨W.heap.size, 0 + j, none⟩ (by rw [hw]; show _ < ((W.alloc (.cells #[.int .i64 p1, .int .i64 p2] 98)).alloc (.cells #[] 98)).heap.size; simp; omega) (by simp [Value.ownBlock])).trans (h3.trans (h2.trans h1)))
        have LT : Hid ((encZ (l.take k)).length = k * 2) := hide (by have := HN.out; rw [encZ_length, List.length_take, this]; omega)
        have oT := hide (encZ_one (l.take k))
        have oD := hide (encZ_one (l.drop k))
        have one2 : Hid (∀ u ∈ [Value.int .i64 p1, Value.int .i64 p2], u.oneCell' = true) := hide (by intro u hu; simp at hu; rcases hu with rfl | rfl <;> rfl)
        have HPUT : Hid (encZ (l.take k) ++ [Value.int .i64 p1, Value.int .i64 p2] ++ encZ (l.drop k) = encZ (pPut l (p1, p2))) := hide (by rw [← put_at l (p1, p2) k HKN.out HS.out HSTOP.out, encZ_app, encZ_app]; rfl)
        clear cW1 cW2
        have hcn : ¬ (c = k) := by omega
        have ck : (k : Int) ≤ (c : Int) := by omega
        have LD : Hid ((encZ (l.drop k)).length = (n - k) * 2) := hide (by have := HN.out; rw [encZ_length, List.length_drop, this])
        go_wp2_with fail
        go_region_held3 (fun w' => w'.cell? ⟨w.heap.size, 0, none⟩ = some (.int .i64 p1) ∧ w'.cell? ⟨w.heap.size, 1, none⟩ = some (.int .i64 p2))
          (first | exact TW.out | exact TA.out | exact TB.out | exact TC.out | exact TL.out | exact T1.out | exact T1L.out | exact T2.out | exact T3.out | fail)
          (first | (refine step_appK (by rfl) (.tmp 21) (.tmp 24) 85 (by rfl) W.heap.size 98 i0 (.agg #[.int .i64 0, .int .i64 0]) 2 16 Tryz.underlying85 hi hz0 hz1 hz2 rfl (by decide) (.slice (some ⟨W.heap.size, 0, none⟩) 0 0) 0 [] (by rfl) OA.out ⟨g, 0, none⟩ k c (encZ (l.take k)) (by rfl) LT.out (src_take HCA.out k) oT.out (by unfold maxLen; omega) (by omega) KA.out.size ?_; intro v1 w1 hown1 hgrow1 hat1; have K1 := hide (below_drawn hgrow1 KA.out (show _ = (W.alloc (.cells #[] 98)).heap from rfl) rfl rfl rfl KA.out.size (fun r e => by cases e; first | exact Nat.le_refl _ | exact Nat.le_succ _)); have T1 := hide (KEEP.out _ K1.out); have K1L := hide (K1.out.alloc K1.out.size (.cells #[.int .i64 p1, .int .i64 p2] 98)); have T1L := hide (KEEP.out _ K1L.out); have O1 := hide hown1; clear hown1 hat1) | (refine step_appK (by rfl) (.tmp 21) (.tmp 24) 85 (by rfl) W.heap.size 98 i0 (.agg #[.int .i64 0, .int .i64 0]) 2 16 Tryz.underlying85 hi hz0 hz1 hz2 rfl (by decide) (.slice (some ⟨W.heap.size, 0, none⟩) 0 0) 0 [] (by rfl) OB.out ⟨g, 0, none⟩ k c (encZ (l.take k)) (by rfl) LT.out (src_take HCB.out k) oT.out (by unfold maxLen; omega) (by omega) KB.out.size ?_; intro v1 w1 hown1 hgrow1 hat1; have K1 := hide (below_drawn hgrow1 KB.out (show _ = ((W.alloc (.cells #[] 98)).alloc (.cells #[.int .i64 p1, .int .i64 p2] 98)).heap from rfl) rfl rfl rfl KB.out.size (fun r e => by cases e; first | exact Nat.le_refl _ | exact Nat.le_succ _)); have T1 := hide (KEEP.out _ K1.out); have K1L := hide (K1.out.alloc K1.out.size (.cells #[.int .i64 p1, .int .i64 p2] 98)); have T1L := hide (KEEP.out _ K1L.out); have O1 := hide hown1; have LC := LCB.out _ w1 (by rfl) hgrow1; clear hown1 hat1) | (refine step_appK (by rfl) (.tmp 21) (.tmp 24) 85 (by rfl) W.heap.size 98 i0 (.agg #[.int .i64 0, .int .i64 0]) 2 16 Tryz.underlying85 hi hz0 hz1 hz2 rfl (by decide) (.slice (some ⟨W.heap.size + 1, 0, none⟩) 0 0) 0 [] (by rfl) OC.out ⟨g, 0, none⟩ k c (encZ (l.take k)) (by rfl) LT.out (src_take HCC.out k) oT.out (by unfold maxLen; omega) (by omega) KC.out.size ?_; intro v1 w1 hown1 hgrow1 hat1; have K1 := hide (below_drawn hgrow1 KC.out (show _ = ((W.alloc (.cells #[.int .i64 p1, .int .i64 p2] 98)).alloc (.cells #[] 98)).heap from rfl) rfl rfl rfl KC.out.size (fun r e => by cases e; first | exact Nat.le_refl _ | exact Nat.le_succ _)); have T1 := hide (KEEP.out _ K1.out); have K1L := hide (K1.out.alloc K1.out.size (.cells #[.int .i64 p1, .int .i64 p2] 98)); have T1L := hide (KEEP.out _ K1L.out); have O1 := hide hown1; have LC := LCC.out _ w1 (by rfl) hgrow1; clear hown1 hat1) | (refine step_appK (by rfl) (.tmp 25) (.tmp 27) 85 (by rfl) W.heap.size 98 i0 (.agg #[.int .i64 0, .int .i64 0]) 2 16 Tryz.underlying85 hi hz0 hz1 hz2 rfl (by decide) v1 (0 + k) ([] ++ encZ (l.take k)) (by rfl) (O1.out.alloc (.cells #[.int .i64 p1, .int .i64 p2] 98)) ⟨w1.heap.size, 0, none⟩ 1 1 [Value.int .i64 p1, Value.int .i64 p2] (by rfl) rfl (cell_two_put _ _ _ _) one2.out (by unfold maxLen; omega) (by omega) K1L.out.size ?_; intro v2 w2 hown2 hgrow2 hat2; have K2 := hide (below_drawn hgrow2 K1L.out rfl rfl rfl rfl K1L.out.size (fun r e => (O1.out.lt r e).1)); have T2 := hide (KEEP.out _ K2.out); have O2 := hide hown2; clear hown2 hat2) | (refine step_appK (by rfl) (.tmp 25) (.tmp 27) 85 (by rfl) W.heap.size 98 i0 (.agg #[.int .i64 0, .int .i64 0]) 2 16 Tryz.underlying85 hi hz0 hz1 hz2 rfl (by decide) v1 (0 + k) ([] ++ encZ (l.take k)) (by rfl) O1.out ⟨W.heap.size + 1, 0, none⟩ 1 1 [Value.int .i64 p1, Value.int .i64 p2] (by rfl) rfl LC one2.out (by unfold maxLen; omega) (by omega) K1.out.size ?_; intro v2 w2 hown2 hgrow2 hat2; have K2 := hide (below_drawn hgrow2 K1.out rfl rfl rfl rfl K1.out.size (fun r e => (O1.out.lt r e).1)); have T2 := hide (KEEP.out _ K2.out); have O2 := hide hown2; clear hown2 hat2) | (refine step_appK (by rfl) (.tmp 25) (.tmp 27) 85 (by rfl) W.heap.size 98 i0 (.agg #[.int .i64 0, .int .i64 0]) 2 16 Tryz.underlying85 hi hz0 hz1 hz2 rfl (by decide) v1 (0 + k) ([] ++ encZ (l.take k)) (by rfl) O1.out ⟨W.heap.size, 0, none⟩ 1 1 [Value.int .i64 p1, Value.int .i64 p2] (by rfl) rfl LC one2.out (by unfold maxLen; omega) (by omega) K1.out.size ?_; intro v2 w2 hown2 hgrow2 hat2; have K2 := hide (below_drawn hgrow2 K1.out rfl rfl rfl rfl K1.out.size (fun r e => (O1.out.lt r e).1)); have T2 := hide (KEEP.out _ K2.out); have O2 := hide hown2; clear hown2 hat2) | (refine step_appK (by rfl) (.tmp 28) (.tmp 31) 85 (by rfl) W.heap.size 98 i0 (.agg #[.int .i64 0, .int .i64 0]) 2 16 Tryz.underlying85 hi hz0 hz1 hz2 rfl (by decide) v2 (0 + k + 1) ([] ++ encZ (l.take k) ++ [Value.int .i64 p1, Value.int .i64 p2]) (by rfl) O2.out ⟨g, k * 2, none⟩ (n - k) (c - k) (encZ (l.drop k)) (by rfl) LD.out (src_drop (HCW.out.below' K2.out (Nat.le_refl _)) k) oD.out (by unfold maxLen; omega) (by omega) K2.out.size ?_; intro v3 w3 hown3 hgrow3 hat3; have K3 := hide (below_drawn hgrow3 K2.out rfl rfl rfl rfl K2.out.size (fun r e => (O2.out.lt r e).1)); have T3 := hide (KEEP.out _ K3.out); have O3 := hide hown3; clear hown3 hat3) | fail)
        all_goals (try go_wp2)
        all_goals go_ret
        all_goals (exact ⟨v3, rfl, PartsS.lo (PartsS.of_owns (n := 0 + k + 1 + (n - k)) (e := 98) (by rw [← HPUT.out]; simpa using O3.out) (.inl (by omega))) HGW.out.size, HGW.out.trans (K3.out.mono HGW.out.size)⟩)

    · have HSTOP : Hid (∀ x, l[k]? = some x → pLess x (p1, p2) = true) := hide (fun y hy => by
        have := (List.getElem?_eq_some_iff.1 hy).1
        have := HN.out
        omega)
      have hkn : k = n := by omega
      subst hkn
      have i1 : decide ((k : Int) < (k : Int)) = false := by simp
      go_wp2
      refine wp_region_quiet_grown (by assumption) (by kernel_rfl) ?_
      repeat (first | go_big_quiet_skip | quiet_step (fail))
      refine wpQuiet_nil ?_
      intro _ hw'
      obtain ⟨⟨nq, osq⟩, hw''⟩ := hw'
      subst hw''
      have cW1 := cell_grown hszW hbc1 nq osq
      have cW2 := cell_grown hszW hbc2 nq osq
      have HG := hide (HG.out.trans (Grw.mk _ nq osq))
      have hbW : w.heap.size < (grow (wr.drewN nq) osq).heap.size := by have := HG.out.size; rw [World.size_alloc] at this; omega
      clear hbc1 hbc2 hszW
      generalize grow (wr.drewN nq) osq = W at *
      have HCW := hide (HG.out.cells HC0.out)
      have hgW : g < W.heap.size := by have := HG.out.size; have := GS.out; omega
      have HGW : Hid (Below w.heap.size w W) := hide (BW0.out.trans (HG.out.below.mono (by rw [World.size_alloc]; exact Nat.le_succ _)))
      have KEEP : Hid (∀ w', Below W.heap.size W w' → w'.cell? ⟨w.heap.size, 0, none⟩ = some (.int .i64 p1) ∧ w'.cell? ⟨w.heap.size, 1, none⟩ = some (.int .i64 p2)) := hide (fun w' h => ⟨(h.cell (p := ⟨w.heap.size, 0, none⟩) hbW).trans cW1, (h.cell (p := ⟨w.heap.size, 1, none⟩) hbW).trans cW2⟩)
      have TW := hide (And.intro cW1 cW2)
      have KA := hide ((Below.refl W.heap.size W).alloc (Nat.le_refl _) (.cells #[] 98))
      have KB := hide (KA.out.alloc KA.out.size (.cells #[.int .i64 p1, .int .i64 p2] 98))
      have KL := hide ((Below.refl W.heap.size W).alloc (Nat.le_refl _) (.cells #[.int .i64 p1, .int .i64 p2] 98))
      have KC := hide (KL.out.alloc KL.out.size (.cells #[] 98))
      have TA := hide (KEEP.out _ KA.out)
      have TB := hide (KEEP.out _ KB.out)
      have TC := hide (KEEP.out _ KC.out)
      have TL := hide (KEEP.out _ KL.out)
      have HCA := hide (HCW.out.below' KA.out (Nat.le_refl _))
      have HCB := hide (HCW.out.below' KB.out (Nat.le_refl _))
      have HCC := hide (HCW.out.below' KC.out (Nat.le_refl _))
      have OA := hide (World.ownsRow_lit (base := W.heap.size) (e := 98) (size := 2) W #[] 0 (Nat.le_refl _) (by unfold maxLen; omega) rfl)
      have OB := hide (OA.out.alloc (.cells #[.int .i64 p1, .int .i64 p2] 98))
      have OC : Hid (((W.alloc (.cells #[.int .i64 p1, .int .i64 p2] 98)).alloc (.cells #[] 98)).ownsRow W.heap.size 98 2 (.slice (some ⟨W.heap.size + 1, 0, none⟩) 0 0) 0 []) := hide (by
        have := World.ownsRow_lit (base := W.heap.size) (e := 98) (size := 2) (W.alloc (.cells #[.int .i64 p1, .int .i64 p2] 98)) #[] 0 (by rw [World.size_alloc]; exact Nat.le_succ _) (by unfold maxLen; omega) rfl
        rw [World.size_alloc] at this
        exact this)
      have LCB : Hid (∀ w0 w1 : World, w0.heap = ((W.alloc (.cells #[] 98)).alloc (.cells #[.int .i64 p1, .int .i64 p2] 98)).heap → w0.grownBy w1 (Value.slice (some ⟨W.heap.size, 0, none⟩) 0 0).ownBlock → ∀ j u, [Value.int .i64 p1, Value.int .i64 p2][j]? = some u → w1.cell? ((⟨W.heap.size + 1, 0, none⟩ : Addr).add j) = some u) := hide (by
        intro w0 w1 hw hg j u hu
        have h1 := cell_two_put (W.alloc (.cells #[] 98)) (.int .i64 p1) (.int .i64 p2) 98 j u hu
        rw [World.size_alloc, Addr.add_lit] at h1
        rw [Addr.add_lit]
        have h2 : w0.cell? ⟨W.heap.size + 1, 0 + j, none⟩ = ((W.alloc (.cells #[] 98)).alloc (.cells #[.int .i64 p1, .int .i64 p2] 98)).cell? ⟨W.heap.size + 1, 0 + j, none⟩ := World.cell?_of_block (by rw [hw])
        exact (hg.cell_far ⟨W.heap.size + 1, 0 + j, none⟩ (by rw [hw]; show _ < ((W.alloc (.cells #[] 98)).alloc (.cells #[.int .i64 p1, .int .i64 p2] 98)).heap.size; simp) (by simp [Value.ownBlock])).trans (h2.trans h1))
      have LCC : Hid (∀ w0 w1 : World, w0.heap = ((W.alloc (.cells #[.int .i64 p1, .int .i64 p2] 98)).alloc (.cells #[] 98)).heap → w0.grownBy w1 (Value.slice (some ⟨W.heap.size + 1, 0, none⟩) 0 0).ownBlock → ∀ j u, [Value.int .i64 p1, Value.int .i64 p2][j]? = some u → w1.cell? ((⟨W.heap.size, 0, none⟩ : Addr).add j) = some u) := hide (by
        intro w0 w1 hw hg j u hu
        have h1 := cell_two_put W (.int .i64 p1) (.int .i64 p2) 98 j u hu
        rw [Addr.add_lit] at h1
        rw [Addr.add_lit]
        have h2 := ((Below.refl (W.heap.size + 1) (W.alloc (.cells #[.int .i64 p1, .int .i64 p2] 98))).alloc (by simp) (.cells #[] 98)).cell (p := ⟨W.heap.size, 0 + j, none⟩) (by simp)
        have h3 : w0.cell? ⟨W.heap.size, 0 + j, none⟩ = ((W.alloc (.cells #[.int .i64 p1, .int .i64 p2] 98)).alloc (.cells #[] 98)).cell? ⟨W.heap.size, 0 + j, none⟩ := World.cell?_of_block (by rw [hw])
        exact (hg.cell_far ⟨W.heap.size, 0 + j, none⟩ (by rw [hw]; show _ < ((W.alloc (.cells #[.int .i64 p1, .int .i64 p2] 98)).alloc (.cells #[] 98)).heap.size; simp; omega) (by simp [Value.ownBlock])).trans (h3.trans (h2.trans h1)))
      have LT : Hid ((encZ (l.take k)).length = k * 2) := hide (by have := HN.out; rw [encZ_length, List.length_take, this]; omega)
      have oT := hide (encZ_one (l.take k))
      have oD := hide (encZ_one (l.drop k))
      have one2 : Hid (∀ u ∈ [Value.int .i64 p1, Value.int .i64 p2], u.oneCell' = true) := hide (by intro u hu; simp at hu; rcases hu with rfl | rfl <;> rfl)
      have HPUT : Hid (encZ (l.take k) ++ [Value.int .i64 p1, Value.int .i64 p2] ++ encZ (l.drop k) = encZ (pPut l (p1, p2))) := hide (by rw [← put_at l (p1, p2) k HKN.out HS.out HSTOP.out, encZ_app, encZ_app]; rfl)
      clear cW1 cW2
      have D0 : Hid (l.drop k = []) := hide (List.drop_of_length_le (by have := HN.out; omega))
      by_cases hcc : c = k
      · subst hcc
        have LD : Hid ((encZ (l.drop c)).length = 0 * 2) := hide (by rw [D0.out]; rfl)
        go_wp2_with fail
        go_region_held3 (fun w' => w'.cell? ⟨w.heap.size, 0, none⟩ = some (.int .i64 p1) ∧ w'.cell? ⟨w.heap.size, 1, none⟩ = some (.int .i64 p2))
          (first | exact TW.out | exact TA.out | exact TB.out | exact TC.out | exact TL.out | exact T1.out | exact T1L.out | exact T2.out | exact T3.out | fail)
          (first | (refine step_appK (by rfl) (.tmp 21) (.tmp 24) 85 (by rfl) W.heap.size 98 i0 (.agg #[.int .i64 0, .int .i64 0]) 2 16 Tryz.underlying85 hi hz0 hz1 hz2 rfl (by decide) (.slice (some ⟨W.heap.size, 0, none⟩) 0 0) 0 [] (by rfl) OA.out ⟨g, 0, none⟩ c c (encZ (l.take c)) (by rfl) LT.out (src_take HCA.out c) oT.out (by unfold maxLen; omega) (by omega) KA.out.size ?_; intro v1 w1 hown1 hgrow1 hat1; have K1 := hide (below_drawn hgrow1 KA.out (show _ = (W.alloc (.cells #[] 98)).heap from rfl) rfl rfl rfl KA.out.size (fun r e => by cases e; first | exact Nat.le_refl _ | exact Nat.le_succ _)); have T1 := hide (KEEP.out _ K1.out); have K1L := hide (K1.out.alloc K1.out.size (.cells #[.int .i64 p1, .int .i64 p2] 98)); have T1L := hide (KEEP.out _ K1L.out); have O1 := hide hown1; clear hown1 hat1) | (refine step_appK (by rfl) (.tmp 21) (.tmp 24) 85 (by rfl) W.heap.size 98 i0 (.agg #[.int .i64 0, .int .i64 0]) 2 16 Tryz.underlying85 hi hz0 hz1 hz2 rfl (by decide) (.slice (some ⟨W.heap.size, 0, none⟩) 0 0) 0 [] (by rfl) OB.out ⟨g, 0, none⟩ c c (encZ (l.take c)) (by rfl) LT.out (src_take HCB.out c) oT.out (by unfold maxLen; omega) (by omega) KB.out.size ?_; intro v1 w1 hown1 hgrow1 hat1; have K1 := hide (below_drawn hgrow1 KB.out (show _ = ((W.alloc (.cells #[] 98)).alloc (.cells #[.int .i64 p1, .int .i64 p2] 98)).heap from rfl) rfl rfl rfl KB.out.size (fun r e => by cases e; first | exact Nat.le_refl _ | exact Nat.le_succ _)); have T1 := hide (KEEP.out _ K1.out); have K1L := hide (K1.out.alloc K1.out.size (.cells #[.int .i64 p1, .int .i64 p2] 98)); have T1L := hide (KEEP.out _ K1L.out); have O1 := hide hown1; have LC := LCB.out _ w1 (by rfl) hgrow1; clear hown1 hat1) | (refine step_appK (by rfl) (.tmp 21) (.tmp 24) 85 (by rfl) W.heap.size 98 i0 (.agg #[.int .i64 0, .int .i64 0]) 2 16 Tryz.underlying85 hi hz0 hz1 hz2 rfl (by decide) (.slice (some ⟨W.heap.size + 1, 0, none⟩) 0 0) 0 [] (by rfl) OC.out ⟨g, 0, none⟩ c c (encZ (l.take c)) (by rfl) LT.out (src_take HCC.out c) oT.out (by unfold maxLen; omega) (by omega) KC.out.size ?_; intro v1 w1 hown1 hgrow1 hat1; have K1 := hide (below_drawn hgrow1 KC.out (show _ = ((W.alloc (.cells #[.int .i64 p1, .int .i64 p2] 98)).alloc (.cells #[] 98)).heap from rfl) rfl rfl rfl KC.out.size (fun r e => by cases e; first | exact Nat.le_refl _ | exact Nat.le_succ _)); have T1 := hide (KEEP.out _ K1.out); have K1L := hide (K1.out.alloc K1.out.size (.cells #[.int .i64 p1, .int .i64 p2] 98)); have T1L := hide (KEEP.out _ K1L.out); have O1 := hide hown1; have LC := LCC.out _ w1 (by rfl) hgrow1; clear hown1 hat1) | (refine step_appK (by rfl) (.tmp 25) (.tmp 27) 85 (by rfl) W.heap.size 98 i0 (.agg #[.int .i64 0, .int .i64 0]) 2 16 Tryz.underlying85 hi hz0 hz1 hz2 rfl (by decide) v1 (0 + c) ([] ++ encZ (l.take c)) (by rfl) (O1.out.alloc (.cells #[.int .i64 p1, .int .i64 p2] 98)) ⟨w1.heap.size, 0, none⟩ 1 1 [Value.int .i64 p1, Value.int .i64 p2] (by rfl) rfl (cell_two_put _ _ _ _) one2.out (by unfold maxLen; omega) (by omega) K1L.out.size ?_; intro v2 w2 hown2 hgrow2 hat2; have K2 := hide (below_drawn hgrow2 K1L.out rfl rfl rfl rfl K1L.out.size (fun r e => (O1.out.lt r e).1)); have T2 := hide (KEEP.out _ K2.out); have O2 := hide hown2; clear hown2 hat2) | (refine step_appK (by rfl) (.tmp 25) (.tmp 27) 85 (by rfl) W.heap.size 98 i0 (.agg #[.int .i64 0, .int .i64 0]) 2 16 Tryz.underlying85 hi hz0 hz1 hz2 rfl (by decide) v1 (0 + c) ([] ++ encZ (l.take c)) (by rfl) O1.out ⟨W.heap.size + 1, 0, none⟩ 1 1 [Value.int .i64 p1, Value.int .i64 p2] (by rfl) rfl LC one2.out (by unfold maxLen; omega) (by omega) K1.out.size ?_; intro v2 w2 hown2 hgrow2 hat2; have K2 := hide (below_drawn hgrow2 K1.out rfl rfl rfl rfl K1.out.size (fun r e => (O1.out.lt r e).1)); have T2 := hide (KEEP.out _ K2.out); have O2 := hide hown2; clear hown2 hat2) | (refine step_appK (by rfl) (.tmp 25) (.tmp 27) 85 (by rfl) W.heap.size 98 i0 (.agg #[.int .i64 0, .int .i64 0]) 2 16 Tryz.underlying85 hi hz0 hz1 hz2 rfl (by decide) v1 (0 + c) ([] ++ encZ (l.take c)) (by rfl) O1.out ⟨W.heap.size, 0, none⟩ 1 1 [Value.int .i64 p1, Value.int .i64 p2] (by rfl) rfl LC one2.out (by unfold maxLen; omega) (by omega) K1.out.size ?_; intro v2 w2 hown2 hgrow2 hat2; have K2 := hide (below_drawn hgrow2 K1.out rfl rfl rfl rfl K1.out.size (fun r e => (O1.out.lt r e).1)); have T2 := hide (KEEP.out _ K2.out); have O2 := hide hown2; clear hown2 hat2) | (refine step_appK (by rfl) (.tmp 28) (.tmp 31) 85 (by rfl) W.heap.size 98 i0 (.agg #[.int .i64 0, .int .i64 0]) 2 16 Tryz.underlying85 hi hz0 hz1 hz2 rfl (by decide) v2 (0 + c + 1) ([] ++ encZ (l.take c) ++ [Value.int .i64 p1, Value.int .i64 p2]) (by rfl) O2.out ⟨g, 0, none⟩ 0 0 (encZ (l.drop c)) (by rfl) LD.out (src_none D0.out) oD.out (by unfold maxLen; omega) (by omega) K2.out.size ?_; intro v3 w3 hown3 hgrow3 hat3; have K3 := hide (below_drawn hgrow3 K2.out rfl rfl rfl rfl K2.out.size (fun r e => (O2.out.lt r e).1)); have T3 := hide (KEEP.out _ K3.out); have O3 := hide hown3; clear hown3 hat3) | fail)
        all_goals (try go_wp2)
        all_goals go_ret
        all_goals (exact ⟨v3, rfl, PartsS.lo (PartsS.of_owns (n := 0 + c + 1 + 0) (e := 98) (by rw [← HPUT.out]; simpa using O3.out) (.inl (by omega))) HGW.out.size, HGW.out.trans (K3.out.mono HGW.out.size)⟩)

      · have hcn : ¬ (c = k) := hcc
        have ck : (k : Int) ≤ (c : Int) := by omega
        have LD : Hid ((encZ (l.drop k)).length = 0 * 2) := hide (by rw [D0.out]; rfl)
        go_wp2_with fail
        go_region_held3 (fun w' => w'.cell? ⟨w.heap.size, 0, none⟩ = some (.int .i64 p1) ∧ w'.cell? ⟨w.heap.size, 1, none⟩ = some (.int .i64 p2))
          (first | exact TW.out | exact TA.out | exact TB.out | exact TC.out | exact TL.out | exact T1.out | exact T1L.out | exact T2.out | exact T3.out | fail)
          (first | (refine step_appK (by rfl) (.tmp 21) (.tmp 24) 85 (by rfl) W.heap.size 98 i0 (.agg #[.int .i64 0, .int .i64 0]) 2 16 Tryz.underlying85 hi hz0 hz1 hz2 rfl (by decide) (.slice (some ⟨W.heap.size, 0, none⟩) 0 0) 0 [] (by rfl) OA.out ⟨g, 0, none⟩ k c (encZ (l.take k)) (by rfl) LT.out (src_take HCA.out k) oT.out (by unfold maxLen; omega) (by omega) KA.out.size ?_; intro v1 w1 hown1 hgrow1 hat1; have K1 := hide (below_drawn hgrow1 KA.out (show _ = (W.alloc (.cells #[] 98)).heap from rfl) rfl rfl rfl KA.out.size (fun r e => by cases e; first | exact Nat.le_refl _ | exact Nat.le_succ _)); have T1 := hide (KEEP.out _ K1.out); have K1L := hide (K1.out.alloc K1.out.size (.cells #[.int .i64 p1, .int .i64 p2] 98)); have T1L := hide (KEEP.out _ K1L.out); have O1 := hide hown1; clear hown1 hat1) | (refine step_appK (by rfl) (.tmp 21) (.tmp 24) 85 (by rfl) W.heap.size 98 i0 (.agg #[.int .i64 0, .int .i64 0]) 2 16 Tryz.underlying85 hi hz0 hz1 hz2 rfl (by decide) (.slice (some ⟨W.heap.size, 0, none⟩) 0 0) 0 [] (by rfl) OB.out ⟨g, 0, none⟩ k c (encZ (l.take k)) (by rfl) LT.out (src_take HCB.out k) oT.out (by unfold maxLen; omega) (by omega) KB.out.size ?_; intro v1 w1 hown1 hgrow1 hat1; have K1 := hide (below_drawn hgrow1 KB.out (show _ = ((W.alloc (.cells #[] 98)).alloc (.cells #[.int .i64 p1, .int .i64 p2] 98)).heap from rfl) rfl rfl rfl KB.out.size (fun r e => by cases e; first | exact Nat.le_refl _ | exact Nat.le_succ _)); have T1 := hide (KEEP.out _ K1.out); have K1L := hide (K1.out.alloc K1.out.size (.cells #[.int .i64 p1, .int .i64 p2] 98)); have T1L := hide (KEEP.out _ K1L.out); have O1 := hide hown1; have LC := LCB.out _ w1 (by rfl) hgrow1; clear hown1 hat1) | (refine step_appK (by rfl) (.tmp 21) (.tmp 24) 85 (by rfl) W.heap.size 98 i0 (.agg #[.int .i64 0, .int .i64 0]) 2 16 Tryz.underlying85 hi hz0 hz1 hz2 rfl (by decide) (.slice (some ⟨W.heap.size + 1, 0, none⟩) 0 0) 0 [] (by rfl) OC.out ⟨g, 0, none⟩ k c (encZ (l.take k)) (by rfl) LT.out (src_take HCC.out k) oT.out (by unfold maxLen; omega) (by omega) KC.out.size ?_; intro v1 w1 hown1 hgrow1 hat1; have K1 := hide (below_drawn hgrow1 KC.out (show _ = ((W.alloc (.cells #[.int .i64 p1, .int .i64 p2] 98)).alloc (.cells #[] 98)).heap from rfl) rfl rfl rfl KC.out.size (fun r e => by cases e; first | exact Nat.le_refl _ | exact Nat.le_succ _)); have T1 := hide (KEEP.out _ K1.out); have K1L := hide (K1.out.alloc K1.out.size (.cells #[.int .i64 p1, .int .i64 p2] 98)); have T1L := hide (KEEP.out _ K1L.out); have O1 := hide hown1; have LC := LCC.out _ w1 (by rfl) hgrow1; clear hown1 hat1) | (refine step_appK (by rfl) (.tmp 25) (.tmp 27) 85 (by rfl) W.heap.size 98 i0 (.agg #[.int .i64 0, .int .i64 0]) 2 16 Tryz.underlying85 hi hz0 hz1 hz2 rfl (by decide) v1 (0 + k) ([] ++ encZ (l.take k)) (by rfl) (O1.out.alloc (.cells #[.int .i64 p1, .int .i64 p2] 98)) ⟨w1.heap.size, 0, none⟩ 1 1 [Value.int .i64 p1, Value.int .i64 p2] (by rfl) rfl (cell_two_put _ _ _ _) one2.out (by unfold maxLen; omega) (by omega) K1L.out.size ?_; intro v2 w2 hown2 hgrow2 hat2; have K2 := hide (below_drawn hgrow2 K1L.out rfl rfl rfl rfl K1L.out.size (fun r e => (O1.out.lt r e).1)); have T2 := hide (KEEP.out _ K2.out); have O2 := hide hown2; clear hown2 hat2) | (refine step_appK (by rfl) (.tmp 25) (.tmp 27) 85 (by rfl) W.heap.size 98 i0 (.agg #[.int .i64 0, .int .i64 0]) 2 16 Tryz.underlying85 hi hz0 hz1 hz2 rfl (by decide) v1 (0 + k) ([] ++ encZ (l.take k)) (by rfl) O1.out ⟨W.heap.size + 1, 0, none⟩ 1 1 [Value.int .i64 p1, Value.int .i64 p2] (by rfl) rfl LC one2.out (by unfold maxLen; omega) (by omega) K1.out.size ?_; intro v2 w2 hown2 hgrow2 hat2; have K2 := hide (below_drawn hgrow2 K1.out rfl rfl rfl rfl K1.out.size (fun r e => (O1.out.lt r e).1)); have T2 := hide (KEEP.out _ K2.out); have O2 := hide hown2; clear hown2 hat2) | (refine step_appK (by rfl) (.tmp 25) (.tmp 27) 85 (by rfl) W.heap.size 98 i0 (.agg #[.int .i64 0, .int .i64 0]) 2 16 Tryz.underlying85 hi hz0 hz1 hz2 rfl (by decide) v1 (0 + k) ([] ++ encZ (l.take k)) (by rfl) O1.out ⟨W.heap.size, 0, none⟩ 1 1 [Value.int .i64 p1, Value.int .i64 p2] (by rfl) rfl LC one2.out (by unfold maxLen; omega) (by omega) K1.out.size ?_; intro v2 w2 hown2 hgrow2 hat2; have K2 := hide (below_drawn hgrow2 K1.out rfl rfl rfl rfl K1.out.size (fun r e => (O1.out.lt r e).1)); have T2 := hide (KEEP.out _ K2.out); have O2 := hide hown2; clear hown2 hat2) | (refine step_appK (by rfl) (.tmp 28) (.tmp 31) 85 (by rfl) W.heap.size 98 i0 (.agg #[.int .i64 0, .int .i64 0]) 2 16 Tryz.underlying85 hi hz0 hz1 hz2 rfl (by decide) v2 (0 + k + 1) ([] ++ encZ (l.take k) ++ [Value.int .i64 p1, Value.int .i64 p2]) (by rfl) O2.out ⟨g, k * 2, none⟩ 0 (c - k) (encZ (l.drop k)) (by rfl) LD.out (src_none D0.out) oD.out (by unfold maxLen; omega) (by omega) K2.out.size ?_; intro v3 w3 hown3 hgrow3 hat3; have K3 := hide (below_drawn hgrow3 K2.out rfl rfl rfl rfl K2.out.size (fun r e => (O2.out.lt r e).1)); have T3 := hide (KEEP.out _ K3.out); have O3 := hide hown3; clear hown3 hat3) | fail)
        all_goals (try go_wp2)
        all_goals go_ret
        all_goals (exact ⟨v3, rfl, PartsS.lo (PartsS.of_owns (n := 0 + k + 1 + 0) (e := 98) (by rw [← HPUT.out]; simpa using O3.out) (.inl (by omega))) HGW.out.size, HGW.out.trans (K3.out.mono HGW.out.size)⟩)

end Go.Proofs.YtdooboibmllfkaaGreatDoor
