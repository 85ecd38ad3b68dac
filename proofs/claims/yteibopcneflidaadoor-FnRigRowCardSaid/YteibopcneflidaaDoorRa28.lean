/- TEXTS Spec4, CmpP. -/
import Derived.Test.YteibopcneflidaaDoorRa27
import Derived.Test.YteibopcneflidaaDoorRa10
import Derived.Deep.RegionHeld3
/- THE WALKS of the model's RigIn, RigRoom, RigFits, RigSizes; the program's compareParts. -/
namespace Go.Proofs.YteibopcneflidaaDoor
open Go.RowKit Go.Sort Go.Shelf

theorem grw_same {f : FuncId} {args : Array Value} {v : Value} (h : ∀ w, Calls Tryd.prog f args w fun e w' => e = .returned v ∧ w = w') (W : World) :
    Calls Tryd.prog f args W fun e w' => e = .returned v ∧ ∃ (q : Nat) (os : Array Obj), w' = grow (W.drewN q) os :=
  (h W).mono (by rintro e w' ⟨rfl, rfl⟩; exact ⟨rfl, Grw.refl _⟩)

set_option maxRecDepth 100000 in
set_option maxHeartbeats 4000000 in
theorem specRigIn_any (l : List (Int × Int)) (v : Value) (w : World) {lo : Nat} (hP : PartsV lo w v l) (hl : l.length ≤ 1048576) :
    Calls Tryd.prog 29 #[v] w fun e w' => e = .returned (.bool (rgIn l)) ∧ Grw w w' := by
  have mixed : Tryd.prog.follows .mixedOrders = true := by kernel_rfl
  obtain ⟨n, hn⟩ : ∃ n, l.length = n := ⟨_, rfl⟩
  obtain ⟨a, c, rfl, hf⟩ := hP.form hn
  have HN := hide hn
  have HF := hide hf
  rw [hn] at hl
  clear hP hn hf
  go_enter Tryd.func29, Tryd.ntmps29
  go_wp2
  go_loopw [3] (fun i wr => ∃ k : Nat, k ≤ n ∧ i = .int .i64 (k : Int) ∧ Hid (rgSeen l k) ∧ Hid (Grw w wr)) (fun i _ => n - (intOf i).toNat)
  case atStart => exact ⟨0, Nat.zero_le _, rfl, rgSeen_zero l, Grw.refl w⟩
  case round =>
    obtain ⟨k, hk, rfl, HS, HG⟩ := hrel
    by_cases hlt : k < n
    · obtain ⟨q, rfl, hq0, hq⟩ := HF.out (by omega)
      obtain ⟨x, hx⟩ : ∃ x, l[k]? = some x := ⟨_, List.getElem?_eq_getElem (by rw [HN.out]; exact hlt)⟩
      obtain ⟨g1, g2⟩ := encZ_get l k x hx
      have hqr := HG.out.cells hq
      have hql : q < wr.heap.size := by have := HG.out.size; omega
      have d1 : ∀ n os, (grow (wr.drewN n) os).cell? ⟨q, k * 2, none⟩ = some (.int .i64 x.1) := fun n os => cell_grown hql (hqr _ _ g1).1 n os
      have d2 : ∀ n os, (grow (wr.drewN n) os).cell? ⟨q, k * 2 + 1, none⟩ = some (.int .i64 x.2) := fun n os => cell_grown hql (hqr _ _ g2).1 n os
      have HX := hide hx
      have HMEM := hide (List.mem_of_getElem? hx)
      obtain ⟨b1, hb1⟩ : ∃ b, b = (decide (1 ≤ x.1) && decide (x.1 ≤ 60)) := ⟨_, rfl⟩
      obtain ⟨b2, hb2⟩ : ∃ b, b = (decide (0 ≤ x.2) && decide (x.2 ≤ 1000)) := ⟨_, rfl⟩
      have HB1 := hide hb1
      have HB2 := hide hb2
      have C1 := hide (grw_same (fun w => l6In_any x.1 1 60 b1 w hb1.symm))
      have C2 := hide (grw_same (fun w => l6In_any x.2 0 1000 b2 w hb2.symm))
      have hpart : Hid (rgPart x = (b1 && b2)) := by show _ = _; unfold rgPart; rw [hb1, hb2]
      obtain ⟨x1, hx1⟩ : ∃ y, y = x.1 := ⟨_, rfl⟩
      obtain ⟨x2, hx2⟩ : ∃ y, y = x.2 := ⟨_, rfl⟩
      have hxe : x = (x1, x2) := by rw [hx1, hx2]
      rw [← hx1] at d1 C1
      rw [← hx2] at d2 C2
      have i0 : (0 : Int) ≤ (k : Int) := by omega
      have i1 : (k : Int) < (n : Int) := by omega
      have HXE := hide hxe
      clear hx g1 g2 hqr hb1 hb2 hx1 hx2 hxe
      cases b1
      · have HBAD : Hid (rgIn l = false) := rgIn_bad_part HMEM.out (by rw [hpart.out]; rfl)
        clear d2 C2
        go_wp2
        refine wp_region_quiet_grown (by assumption) (by kernel_rfl) ?_
        repeat (first | go_big_quiet_skip | quiet_step ((go_at_call 50; refine Calls.grown_of (C1.out _))))
        refine wpQuiet_nil ?_
        intro _ hw'
        obtain ⟨⟨nq, osq⟩, hw''⟩ := hw'
        subst hw''
        go_wp2
        go_ret
        exact ⟨by rw [HBAD.out]; rfl, HG.out.trans (Grw.mk _ _ _)⟩
      · cases b2
        · have HBAD : Hid (rgIn l = false) := rgIn_bad_part HMEM.out (by rw [hpart.out]; rfl)
          go_wp2
          refine wp_region_quiet_grown (by assumption) (by kernel_rfl) ?_
          repeat (first | go_big_quiet_skip | quiet_step ((go_at_call 50; first | (with_reducible refine Calls.grown_of (C1.out _)) | (with_reducible refine Calls.grown_of (C2.out _)))))
          refine wpQuiet_nil ?_
          intro _ hw'
          obtain ⟨⟨nq, osq⟩, hw''⟩ := hw'
          subst hw''
          go_wp2
          go_ret
          exact ⟨by rw [HBAD.out]; rfl, HG.out.trans (Grw.mk _ _ _)⟩
        · have hgood : Hid (rgPart x = true) := by show _ = _; rw [hpart.out]; rfl
          rcases (show (k = 0 ∧ decide (0 < k) = false) ∨ ((∃ m, k = m + 1) ∧ decide (0 < k) = true) by
              by_cases h : k = 0
              · exact .inl ⟨h, by simp; omega⟩
              · exact .inr ⟨⟨k - 1, by omega⟩, by simp; omega⟩) with ⟨hk0, e0⟩ | ⟨⟨m, hkm⟩, e0⟩
          · have HN2 := hide (rgSeen_succ HS.out HX.out hgood.out (fun i y hi _ => by omega))
            clear hk0
            go_wp2
            refine wp_region_quiet_grown (by assumption) (by kernel_rfl) ?_
            repeat (first | go_big_quiet_skip | quiet_step ((go_at_call 50; first | (with_reducible refine Calls.grown_of (C1.out _)) | (with_reducible refine Calls.grown_of (C2.out _)))))
            refine wpQuiet_nil ?_
            intro _ hw'
            obtain ⟨⟨nq, osq⟩, hw''⟩ := hw'
            subst hw''
            go_wp2
            go_roundw
            case rel => exact ⟨k + 1, by omega, by go_num, HN2.out, HG.out.trans (Grw.mk _ _ _)⟩
            case measure => simp [intOf]; omega
          · obtain ⟨y, hy⟩ : ∃ y, l[m]? = some y := ⟨_, List.getElem?_eq_getElem (by rw [HN.out]; omega)⟩
            obtain ⟨g1, g2⟩ := encZ_get l m y hy
            have hqr := HG.out.cells hq
            have d3 : ∀ n os, (grow (wr.drewN n) os).cell? ⟨q, m * 2, none⟩ = some (.int .i64 y.1) := fun n os => cell_grown hql (hqr _ _ g1).1 n os
            have d4 : ∀ n os, (grow (wr.drewN n) os).cell? ⟨q, m * 2 + 1, none⟩ = some (.int .i64 y.2) := fun n os => cell_grown hql (hqr _ _ g2).1 n os
            have HY := hide hy
            obtain ⟨t, ht⟩ : ∃ t, t = pLess y x := ⟨_, rfl⟩
            have HT := hide ht
            have CL := hide (fun W => (specLess_grw y x W).mono (fun e w' h => (show e = .returned (.bool (pLess y x)) ∧ ∃ (q : Nat) (os : Array Obj), w' = grow (W.drewN q) os from h)))
            rw [← ht, HXE.out] at CL
            unfold pV at CL
            obtain ⟨y1, hy1⟩ : ∃ z, z = y.1 := ⟨_, rfl⟩
            obtain ⟨y2, hy2⟩ : ∃ z, z = y.2 := ⟨_, rfl⟩
            rw [← hy1] at d3 CL
            rw [← hy2] at d4 CL
            have HKM := hide hkm
            obtain ⟨iN, hiN⟩ : ∃ q, q = k := ⟨_, rfl⟩
            rw [← hiN] at d1 d2
            have ea : ((m : Int) + 1).toNat = iN := by omega
            have pa : (0 : Int) ≤ (m : Int) + 1 := by omega
            have ba : (m : Int) + 1 < (n : Int) := by omega
            have ra : IntKind.i64.wrap ((m : Int) + 1) = (m : Int) + 1 := by rw [IntKind.wrap_i64]; omega
            have m0 : (0 : Int) ≤ (m : Int) := by omega
            have m1 : (m : Int) < (n : Int) := by omega
            have rm : IntKind.i64.wrap (m : Int) = (m : Int) := by rw [IntKind.wrap_i64]; omega
            have hqz : (k : Int) = (m : Int) + 1 := by omega
            have HIN := hide hiN
            rw [hqz]
            clear hiN hqz hkm e0 i0 i1
            clear hy g1 g2 hqr ht hy1 hy2
            cases t
            · have HN2 := hide (rgSeen_succ HS.out HX.out hgood.out (fun i z hi hz => by
                obtain rfl : i = m := by have := HKM.out; omega
                rw [HY.out] at hz
                injection hz with hz
                rw [← hz]
                exact HT.out.symm))
              go_wp2
              refine wp_region_quiet_grown (by assumption) (by kernel_rfl) ?_
              repeat (first | go_big_quiet_skip | quiet_step (first | (go_at_call 50; first | (with_reducible refine Calls.grown_of (C1.out _)) | (with_reducible refine Calls.grown_of (C2.out _))) | (go_at_call 53; refine Calls.grown_of (CL.out _))))
              refine wpQuiet_nil ?_
              intro _ hw'
              obtain ⟨⟨nq, osq⟩, hw''⟩ := hw'
              subst hw''
              go_wp2
              go_roundw
              case rel => exact ⟨k + 1, by omega, by have := HKM.out; subst this; go_num, HN2.out, HG.out.trans (Grw.mk _ _ _)⟩
              case measure => have := HKM.out; simp [intOf]; omega
            · have HBAD : Hid (rgIn l = false) := rgIn_bad_less HY.out (by rw [← HKM.out]; exact HX.out) HT.out.symm
              go_wp2
              refine wp_region_quiet_grown (by assumption) (by kernel_rfl) ?_
              repeat (first | go_big_quiet_skip | quiet_step (first | (go_at_call 50; first | (with_reducible refine Calls.grown_of (C1.out _)) | (with_reducible refine Calls.grown_of (C2.out _))) | (go_at_call 53; refine Calls.grown_of (CL.out _))))
              refine wpQuiet_nil ?_
              intro _ hw'
              obtain ⟨⟨nq, osq⟩, hw''⟩ := hw'
              subst hw''
              go_wp2
              go_ret
              exact ⟨by rw [HBAD.out]; rfl, HG.out.trans (Grw.mk _ _ _)⟩
    · have hkn : k = n := by omega
      subst hkn
      have HE := HS.out
      rw [← HN.out] at HE
      have HR := hide (rgSeen_all HE)
      clear HE
      go_wp2
      go_ret
      exact ⟨by rw [HR.out, HN.out]; congr 2; simp; omega, HG.out⟩
end Go.Proofs.YteibopcneflidaaDoor

/- THE WALK of the program's compareParts. -/
namespace Go.Proofs.YteibopcneflidaaDoor
open Go.RowKit Go.Sort Go.Shelf

/-- a cell of the block laid last, behind draws -/
theorem cell_lit (W W' : World) (cs : Array Value) (t b j : Nat) (hb : b = W.heap.size) (hw : W'.heap = (W.alloc (.cells cs t)).heap) {v : Value} (hv : cs[j]? = some v) : W'.cell? ⟨b, j, none⟩ = some v := by
  have e : W'.cell? ⟨b, j, none⟩ = (W.alloc (.cells cs t)).cell? ⟨b, j, none⟩ := World.cell?_of_block (by rw [hw])
  rw [e, World.cell?_alloc_at _ _ _ _ hb]
  exact hv

set_option maxRecDepth 100000 in
set_option maxHeartbeats 4000000 in
theorem compareParts_grw (a b : Int × Int) (w : World) :
    Calls Tryd.prog 60 #[pV a, pV b] w fun e w' => e = .returned (.int .i64 (cpP a b)) ∧ Grw w w' := by
  unfold pV cpP
  obtain ⟨a1, a2⟩ := a
  obtain ⟨b1, b2⟩ := b
  have CA := hide (fun w => falling_any a1 b1 w)
  have CB := hide (fun w => falling_any a2 b2 w)
  show Calls Tryd.prog 60 #[.agg #[.int .i64 a1, .int .i64 a2], .agg #[.int .i64 b1, .int .i64 b2]] w fun e w' => e = .returned (.int .i64 (if cmpI b1 a1 = 0 then cmpI b2 a2 else cmpI b1 a1)) ∧ Grw w w'
  obtain ⟨s, hs⟩ : ∃ s, s = cmpI b1 a1 := ⟨_, rfl⟩
  obtain ⟨t, ht⟩ : ∃ t, t = cmpI b2 a2 := ⟨_, rfl⟩
  rw [← hs] at CA ⊢
  rw [← ht] at CB ⊢
  clear hs ht
  obtain ⟨r, hr⟩ : ∃ r, (if s = 0 then t else s) = r := ⟨_, rfl⟩
  have HOR := hide (fun b c w h0 h1 => or_any s t r hr b c w h0 h1)
  rw [hr]
  clear hr
  obtain ⟨W, hW⟩ : ∃ W, W = (w.alloc (.cells #[.int .i64 a1, .int .i64 a2] 48)).alloc (.cells #[.int .i64 b1, .int .i64 b2] 48) := ⟨_, rfl⟩
  have hlt : w.heap.size < (w.alloc (.cells #[.int .i64 a1, .int .i64 a2] 48)).heap.size := by simp
  have c1 : W.cell? ⟨w.heap.size, 0, none⟩ = some (.int .i64 a1) := by rw [hW, World.cell?_alloc_lt _ _ ⟨w.heap.size, 0, none⟩ hlt, World.cell?_alloc_at _ _ _ _ rfl]; rfl
  have c2 : W.cell? ⟨w.heap.size, 1, none⟩ = some (.int .i64 a2) := by rw [hW, World.cell?_alloc_lt _ _ ⟨w.heap.size, 1, none⟩ hlt, World.cell?_alloc_at _ _ _ _ rfl]; rfl
  have c3 : W.cell? ⟨w.heap.size + 1, 0, none⟩ = some (.int .i64 b1) := by rw [hW, World.cell?_alloc_at _ _ _ _ (by simp)]; rfl
  have c4 : W.cell? ⟨w.heap.size + 1, 1, none⟩ = some (.int .i64 b2) := by rw [hW, World.cell?_alloc_at _ _ _ _ (by simp)]; rfl
  have HG : Hid (Grw w W) := by
    rw [hW]
    exact hide ((Grw.alloc w _).trans (Grw.alloc _ _))
  clear hlt
  go_enter Tryd.func60, Tryd.ntmps60
  go_wp2
  rw [← hW]
  clear hW
  go_region_held3 (fun w' => w'.cell? ⟨w.heap.size, 0, none⟩ = some (.int .i64 a1) ∧ w'.cell? ⟨w.heap.size, 1, none⟩ = some (.int .i64 a2) ∧ w'.cell? ⟨w.heap.size + 1, 0, none⟩ = some (.int .i64 b1) ∧ w'.cell? ⟨w.heap.size + 1, 1, none⟩ = some (.int .i64 b2))
    (first | exact ⟨c1, c2, c3, c4⟩ | go_keep | fail)
    (first
      | (go_at_call 79; (first | (with_reducible refine (CA.out _).mono ?_) | (with_reducible refine (CB.out _).mono ?_)); rintro e w' ⟨rfl, rfl⟩)
      | (go_at_call 78; refine (HOR.out _ _ _ ?_ ?_).mono ?_; exact cell_lit W _ #[.int .i64 s, .int .i64 t] 3 _ 0 rfl rfl rfl; exact cell_lit W _ #[.int .i64 s, .int .i64 t] 3 _ 1 rfl rfl rfl; rintro e w' ⟨rfl, rfl⟩)
      | fail)
  all_goals (try go_wp2)
  all_goals go_ret
  all_goals exact ⟨rfl, HG.out.trans ((Grw.alloc _ _).trans (Grw.drew _))⟩
end Go.Proofs.YteibopcneflidaaDoor
