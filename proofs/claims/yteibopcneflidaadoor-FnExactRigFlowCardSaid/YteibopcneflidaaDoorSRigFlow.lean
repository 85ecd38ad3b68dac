/- THE WALK of the model's RigFlow. -/
import Derived.Test.YteibopcneflidaaDoorSpec4b
import Derived.Test.YteibopcneflidaaDoorPut8
import Derived.Test.YteibopcneflidaaDoorSRigOf
namespace Go.Proofs.YteibopcneflidaaDoor
open Go.RowKit Go.Sort Go.Shelf

theorem rmOk_any (K : Int) (w : World) :
    Calls Tryd.prog 30 #[.int .i64 K] w fun e w' => e = .returned (.bool (rmOk K)) ∧ w' = w := by
  go_enter Tryd.func30, Tryd.ntmps30
  go_wp2_with (go_at_call 50; refine (l6In_any _ _ _ (rmOk K) _ rfl).mono ?_; rintro e w' ⟨rfl, rfl⟩)
  go_ret
  exact ⟨rfl, rfl⟩
theorem rmOk_iff (K : Int) : rmOk K = true ↔ 1 ≤ K ∧ K ≤ 200 := by
  unfold rmOk
  simp
theorem flow_next {l : List (Int × Int)} (K : Int) (hs : pSorted l) {k : Nat} {x : Int × Int} (hx : l[k]? = some x) :
    pPut ((l.map (rgAdd K)).take k) (rgAdd K x) = (l.map (rgAdd K)).take (k + 1) :=
  take_put (add_sorted K hs) (by rw [List.getElem?_map, hx]; rfl)

set_option maxRecDepth 100000 in
set_option maxHeartbeats 16000000 in
theorem specRigFlow_any (l : List (Int × Int)) (v : Value) (K : Int) (w : World) {lo : Nat} (hP : PartsV lo w v l) (hl : l.length ≤ 1048576) :
    Calls Tryd.prog 10 #[v, .int .i64 K] w fun e w' => ∃ u, e = .returned (.tuple #[u, .bool (rgFlowOk l K)]) ∧ PartsS w.heap.size w' u (rgFlow l K) ∧ Below w.heap.size w w' := by
  obtain ⟨B, hB⟩ : ∃ B, B = w.heap.size := ⟨_, rfl⟩
  obtain ⟨W0, hW0⟩ : ∃ W0, W0 = w.alloc (.cells #[] 48) := ⟨_, rfl⟩
  have HB0 : Hid (Below B w W0) := by rw [hW0, hB]; exact (Below.refl _ w).alloc (Nat.le_refl _) _
  have HP0 : Hid (PartsS B W0 (.slice (some ⟨w.heap.size, 0, none⟩) 0 0) []) := by rw [hW0, hB]; exact parts_lit w
  have hz0 : B ≤ W0.heap.size := by rw [hW0, hB]; simp
  have HL0 : Hid (PartsV lo W0 v l) := hP.below HB0.out (by rw [hB]; exact Nat.le_refl _)
  have CI := hide (specRigIn_any l v W0 HL0.out hl)
  have CB := hide (fun w => rmOk_any K w)
  rw [← hB]
  cases h1 : rgIn l
  · have e1 : rgFlowOk l K = false := by unfold rgFlowOk; rw [h1]; rfl
    have e2 : rgFlow l K = [] := by unfold rgFlow; rw [e1]; rfl
    rw [h1] at CI
    rw [e1, e2]
    clear e1 e2 h1 hP
    go_enter Tryd.func10, Tryd.ntmps10
    go_wp2_with fail
    rw [← hW0, ← hB]
    clear hW0
    refine CI.out.mono ?_
    rintro e w1 ⟨rfl, g1⟩
    have B1 := hide g1.below
    clear g1
    go_wp2_with fail
    go_ret2
    exact ⟨_, rfl, HP0.out.below B1.out (Nat.le_refl _), HB0.out.trans (B1.out.mono hz0)⟩
  · rw [h1] at CI
    cases h2 : rmOk K
    · have e1 : rgFlowOk l K = false := by unfold rgFlowOk; rw [h1, h2]; rfl
      have e2 : rgFlow l K = [] := by unfold rgFlow; rw [e1]; rfl
      rw [h2] at CB
      rw [e1, e2]
      clear e1 e2 h1 h2 hP
      go_enter Tryd.func10, Tryd.ntmps10
      go_wp2_with fail
      rw [← hW0, ← hB]
      clear hW0
      refine CI.out.mono ?_
      rintro e w1 ⟨rfl, g1⟩
      have B1 := hide g1.below
      clear g1
      go_wp2_with (go_at_call 30; refine (CB.out _).mono ?_; rintro e w' ⟨rfl, rfl⟩)
      go_ret2
      exact ⟨_, rfl, HP0.out.below B1.out (Nat.le_refl _), HB0.out.trans (B1.out.mono hz0)⟩
    · rw [h2] at CB
      obtain ⟨K1, K2⟩ := (rmOk_iff K).1 h2
      obtain ⟨s1, s2, s3⟩ := (rgIn_iff l).1 h1
      obtain ⟨m, hm⟩ : ∃ m, m = l.map (rgAdd K) := ⟨_, rfl⟩
      have e1 : rgFlowOk l K = rgIn m := by unfold rgFlowOk; rw [h1, h2, hm]; rfl
      have e2 : rgFlow l K = if rgIn m then m else [] := by unfold rgFlow; rw [e1, hm]
      have hml : m.length = l.length := by rw [hm, List.length_map]
      have FN := hide (fun (k : Nat) (x : Int × Int) (hx : l[k]? = some x) => flow_next K s2 hx)
      rw [← hm] at FN
      obtain ⟨L, hL⟩ : ∃ L, L = rgFlow l K := ⟨_, rfl⟩
      have HLL := hide (hL.trans e2)
      rw [e1, ← hL]
      clear hL
      have S1 := hide s1
      obtain ⟨n, hn⟩ : ∃ n, l.length = n := ⟨_, rfl⟩
      rw [hn] at s3 hml hl
      have HN := hide hn
      have HML := hide hml
      obtain ⟨a, c, rfl, hf⟩ := HL0.out.form hn
      have HF := hide hf
      clear e1 e2 h1 h2 hP hm s1 s2 hn hml hf
      go_enter Tryd.func10, Tryd.ntmps10
      go_wp2_with fail
      rw [← hW0, ← hB]
      clear hW0
      refine CI.out.mono ?_
      rintro e w1 ⟨rfl, g1⟩
      have B1 := hide g1.below
      have HB1 := hide (HB0.out.trans (B1.out.mono hz0))
      have HP1 := hide (HP0.out.below B1.out (Nat.le_refl _))
      have hz1 : B ≤ w1.heap.size := by have := B1.out.size; omega
      clear g1 CI HB0 HP0
      go_wp2_with (go_at_call 30; refine (CB.out _).mono ?_; rintro e w' ⟨rfl, rfl⟩)
      go_loopw [6, 7] (fun v i wr => ∃ k : Nat, k ≤ n ∧ i = .int .i64 (k : Int) ∧ Hid (PartsS B wr v (m.take k)) ∧ Hid (Below B w wr) ∧ Hid (Below W0.heap.size W0 wr) ∧ B ≤ wr.heap.size) (fun _ i _ => n - (intOf i).toNat)
      case atStart => exact ⟨0, Nat.zero_le _, rfl, HP1, HB1, B1, hz1⟩
      case round =>
        obtain ⟨k, hk, rfl, HP, HW, HW0, hzr⟩ := hrel
        by_cases hlt : k < n
        · obtain ⟨q, rfl, hq0, hq⟩ := HF.out (by omega)
          obtain ⟨x, hx⟩ : ∃ x, l[k]? = some x := ⟨_, List.getElem?_eq_getElem (by rw [HN.out]; exact hlt)⟩
          obtain ⟨g1, g2⟩ := encZ_get l k x hx
          have hqr := hq.below' HW0.out (Nat.le_refl _)
          have c1 : wr.cell? ⟨q, k * 2, none⟩ = some (.int .i64 x.1) := (hqr _ _ g1).1
          have c2 : wr.cell? ⟨q, k * 2 + 1, none⟩ = some (.int .i64 x.2) := (hqr _ _ g2).1
          have hbx := S1.out x (List.mem_of_getElem? hx)
          have hql : q < wr.heap.size := World.block_lt_of_cell? wr _ c1
          have HPT := hide (FN.out k x hx)
          unfold rgAdd at HPT
          have hlt2 : (m.take k).length ≤ 1000 := by rw [List.length_take]; omega
          obtain ⟨x1, hx1⟩ : ∃ z, z = x.1 := ⟨_, rfl⟩
          obtain ⟨x2, hx2⟩ : ∃ z, z = x.2 := ⟨_, rfl⟩
          rw [← hx1] at c1 hbx HPT
          rw [← hx2] at c2 hbx HPT
          obtain ⟨y, hy⟩ : ∃ y, y = x2 + min x1 K := ⟨_, rfl⟩
          rw [← hy] at HPT
          have htk : (m.take k).length = k := by rw [List.length_take, HML.out]; omega
          obtain ⟨_, g, cp, rfl, q1, q2, q3, q4⟩ := HP.out
          have HP' := HP.out
          rw [htk] at q1 HP' hlt2 ⊢
          have HPV := hide HP'
          have HTK := hide htk
          have CP := hide (fun (W : World) (z : Int) (hz : z = y) (hW : Below wr.heap.size wr W) => (show Calls Tryd.prog 31 #[.slice (some ⟨g, 0, none⟩) k cp, .agg #[.int .i64 x1, .int .i64 z]] W (fun e w' => ∃ u, e = .returned u ∧ PartsS W.heap.size w' u (pPut (m.take k) (x1, y)) ∧ Below W.heap.size W w') from by subst hz; exact specPut_any (m.take k) _ (x1, z) W (HPV.out.below hW (Nat.le_refl _)) (by have := HTK.out; omega)))
          obtain ⟨b1, b2, b3, b4⟩ := hbx
          have i0 : (0 : Int) ≤ (k : Int) := by omega
          have i1 : (k : Int) < (n : Int) := by omega
          clear hx g1 g2 hqr hx1 hx2 hlt2 HP HP' htk q1 q2 q3 q4
          obtain ⟨t, ht⟩ : ∃ t, (if K < x1 then K else x1) = t := ⟨_, rfl⟩
          have em : IntKind.i64.wrap (x2 + t) = y := by rw [IntKind.wrap_i64, ← ht]; split <;> omega
          clear hy
          go_wp2_with fail
          go_region_held3 (fun w' => w'.cell? ⟨q, k * 2, none⟩ = some (.int .i64 x1) ∧ w'.cell? ⟨q, k * 2 + 1, none⟩ = some (.int .i64 x2))
            (first | exact ⟨c1, c2⟩ | exact ⟨d1, d2⟩ | go_keep | fail)
            (first | (go_at_call 31; go_loud (refine (CP.out wr.drew _ rfl (Below.refl _ _).drew).mono ?_; rintro e w3 ⟨u, rfl, p3, b3⟩; have d1 := (b3.cell (p := ⟨q, k * 2, none⟩) hql).trans c1; have d2 := (b3.cell (p := ⟨q, k * 2 + 1, none⟩) hql).trans c2; have P3 := hide p3; have B3 := hide b3; clear p3 b3)) | fail)
          all_goals (try go_wp2_with fail)
          all_goals (try go_roundw)
          all_goals first
            | exact ⟨k + 1, by omega, by go_num, by rw [← HPT.out]; exact hide (P3.out.lo hzr), hide (HW.out.trans (((Below.refl B wr).drew).trans (B3.out.mono hzr))), hide (HW0.out.trans (((Below.refl W0.heap.size wr).drew).trans (B3.out.mono HW0.out.size))), by have := B3.out.size; exact Nat.le_trans hzr this⟩
            | (simp [intOf]; omega)
        · have hkn : k = n := by omega
          subst hkn
          have e : m.take k = m := List.take_of_length_le (by rw [HML.out]; exact Nat.le_refl _)
          rw [e] at HP
          have CJ := hide (specRigIn_any m _ wr HP.out.1 (by rw [HML.out]; omega))
          clear e
          cases h3 : rgIn m
          · have hl3 : L = [] := by rw [HLL.out, h3]; rfl
            subst hl3
            rw [h3] at CJ
            have H3 := hide h3
            clear h3
            go_wp2_with fail
            refine CJ.out.mono ?_
            rintro e w2 ⟨rfl, g2⟩
            have B2 := hide g2.below
            clear g2
            go_wp2_with fail
            go_ret2
            subst hB
            (try rw [H3.out])
            have hw2 : w.heap.size ≤ w2.heap.size := Nat.le_trans hzr B2.out.size
            exact ⟨_, rfl, (parts_lit w2).lo hw2, (HW.out.trans (B2.out.mono hzr)).alloc hw2 _⟩
          · have hl3 : L = m := by rw [HLL.out, h3]; rfl
            subst hl3
            rw [h3] at CJ
            have H3 := hide h3
            clear h3
            go_wp2_with fail
            refine CJ.out.mono ?_
            rintro e w2 ⟨rfl, g2⟩
            have B2 := hide g2.below
            clear g2
            go_wp2_with fail
            go_ret2
            subst hB
            (try rw [H3.out])
            exact ⟨_, rfl, HP.out.below B2.out (Nat.le_refl _), HW.out.trans (B2.out.mono hzr)⟩

theorem specRigFlowV_any (l : List (Int × Int)) (v : Value) (K : Int) (w : World) {lo : Nat} (hP : PartsV lo w v l) (hl : l.length ≤ 1048576) :
    Calls Tryd.prog 10 #[v, .int .i64 K] w fun e w' => ∃ u, e = .returned (.tuple #[u, .bool (rgFlowOk l K)]) ∧ PartsV w.heap.size w' u (rgFlow l K) ∧ Below w.heap.size w w' :=
  (specRigFlow_any l v K w hP hl).mono (by rintro _ _ ⟨u, h1, h2, h3⟩; exact ⟨u, h1, h2.1, h3⟩)
end Go.Proofs.YteibopcneflidaaDoor
