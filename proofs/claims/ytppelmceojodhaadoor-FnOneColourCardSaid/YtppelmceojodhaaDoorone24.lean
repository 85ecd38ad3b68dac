/- TEXTS ICol3. -/
import Derived.Test.YtppelmceojodhaaDoorone23
/- THE WALK of the program's method moved, and of the method move of each colour. -/
namespace Go.Proofs.YtppelmceojodhaaDoor
open Go.RowKit Go.Lib

theorem OwnC.cells {B : Nat} {w : World} {g n cp : Nat} {l : List UInt8} (h : w.ownsRow B 44 1 (.slice (some ⟨g, 0, none⟩) n cp) n (cV l)) : CellsAt w g (cV l) := CellsAt.of_owns h
theorem cell_c_new (w : World) (v : Value) (t : TypeId) : ∀ j u, [v][j]? = some u → (w.alloc (.cells #[v] t)).cell? ((⟨w.heap.size, 0, none⟩ : Addr).add j) = some u := cell_one_new _ _ _

/-- what is known behind a round -/
theorem own_next {B : Nat} {w : World} {g n cp k e : Nat} {c : UInt8} {l l' : List UInt8} (h : w.ownsRow B 44 1 (.slice (some ⟨g, 0, none⟩) n cp) n (cV l)) (hl : l' = (l.set e c).set k 48) (hn : l.length = n) (hke : k ≠ e) (hcp : n ≤ cp) (hm : cp ≤ maxLen) (hB : B ≤ g) (hg : g < w.heap.size) :
    OwnC B ((w.setCell ⟨g, k, none⟩ .nilIface).setCell ⟨g, e, none⟩ (cv c)) (.slice (some ⟨g, 0, none⟩) n cp) l' := by
  have h1 := own_set (own_set h rfl (k := k) .nilIface) rfl (k := e) (cv c)
  have e1 : ((cV l).set k .nilIface).set e (cv c) = cV l' := by
    rw [hl, cV_set, cV_set, List.set_comm _ _ hke]
    rfl
  have e2 : l'.length = n := by rw [hl, List.length_set, List.length_set, hn]
  rw [e1] at h1
  exact ⟨g, cp, by rw [e2], hB, by simpa [World.setCell] using hg, by omega, hm, by rw [e2]; exact h1⟩

theorem app_own {B : Nat} {w : World} {v : Value} {m : Nat} {L : List UInt8} (h : w.ownsRow B 44 1 v (m + 1) (cV L ++ [.nilIface])) (hm : m = L.length) :
    ∃ g cp, v = .slice (some ⟨g, 0, none⟩) (m + 1) cp ∧ B ≤ g ∧ g < w.heap.size ∧ m + 1 ≤ cp ∧ cp ≤ maxLen ∧ w.ownsRow B 44 1 (.slice (some ⟨g, 0, none⟩) (m + 1) cp) (m + 1) (cV (L ++ [48])) := by
  have e1 : cV L ++ [.nilIface] = cV (L ++ [48]) := by unfold cV; rw [List.map_append]; rfl
  have e2 : (L ++ [48]).length = m + 1 := by rw [List.length_append, hm]; rfl
  rw [e1, ← e2] at h
  have hn : v ≠ .slice none 0 0 := by
    rintro rfl
    rcases h.2 with ⟨_, h0⟩ | ⟨g, cap, cur, h1, _⟩
    · omega
    · cases h1
  obtain ⟨g, cp, k1, k2, k3, k4, k5, k6⟩ := ownC_of h hn
  rw [e2] at k1 k4 k6
  rw [k1] at k6
  exact ⟨g, cp, k1, k2, k3, k4, k5, k6⟩
theorem app_cell {B : Nat} {w : World} {g cp m : Nat} {L : List UInt8} (h : w.ownsRow B 44 1 (.slice (some ⟨g, 0, none⟩) (m + 1) cp) (m + 1) (cV (L ++ [48]))) (hm : m = L.length) {j : Nat} (hj : j < m + 1) :
    ∃ v, w.cell? ⟨g, j, none⟩ = some v ∧ w.frozen? ⟨g, j, none⟩ = false := by
  obtain ⟨y, hy⟩ : ∃ y, (L ++ [48])[j]? = some y := ⟨_, List.getElem?_eq_getElem (by rw [List.length_append, ← hm]; exact hj)⟩
  have := CellsAt.of_owns h j _ (cV_get hy)
  exact ⟨_, this.1, this.2⟩
theorem fz_sg {c : UInt8} (hc : sg3 c = true) : ∀ (u : Nat) (l : List UInt8), (∀ x ∈ l, sg3 x = true) → ∀ x ∈ fz c u l, sg3 x = true
  | _, [], _, x, hx => by simp [fz] at hx
  | u, y :: l, h, x, hx => by
    unfold fz at hx
    split at hx
    · rcases List.mem_cons.1 hx with rfl | hx
      · exact hc
      · exact fz_sg hc _ l (fun z hz => h z (List.mem_cons_of_mem _ hz)) x hx
    · rcases List.mem_cons.1 hx with rfl | hx
      · exact h _ (List.mem_cons_self ..)
      · exact fz_sg hc _ l (fun z hz => h z (List.mem_cons_of_mem _ hz)) x hx
theorem cv_nil {x : UInt8} (h : cv x = .nilIface) (h3 : sg3 x = true) : x = 48 := by
  rcases (sg3_iff x).1 h3 with rfl | rfl | rfl | rfl
  · rfl
  · cases h
  · cases h
  · cases h
theorem aAt_sg {c : UInt8} (hc : sg3 c = true) {l : List UInt8} (h : ∀ x ∈ l, sg3 x = true) (i : Nat) : ∀ x ∈ aAt c l i, sg3 x = true := by
  intro x hx
  unfold aAt at hx
  rcases List.mem_append.1 hx with hx | hx
  · unfold cAt at hx
    rcases List.mem_append.1 hx with hx | hx
    · exact cMv_sg hc _ _ (fun y hy => h y (List.mem_of_mem_take hy)) x hx
    · exact fz_sg hc _ _ (fun y hy => h y (List.mem_of_mem_drop hy)) x hx
  · rw [(List.mem_replicate.1 hx).2]; exact hc

set_option maxRecDepth 100000 in
set_option maxHeartbeats 4000000 in
theorem movedC_any (g n cap : Nat) (c : UInt8) (l : List UInt8) (w : World) (hl : l.length = n) (hm : n ≤ 120) (hsg : ∀ x ∈ l, sg3 x = true) (hc3 : sg3 c = true) (hc : c ≠ 48) (hcs : CellsAt w g (cV l)) :
    Calls Tryd.prog 83 #[.slice (some ⟨g, 0, none⟩) n cap, cv c] w fun e w' => ∃ v, e = .returned v ∧ OwnC w.heap.size w' v (mvU c l) ∧ Below w.heap.size w w' := by
  obtain ⟨i0, hi, hz0, hz1, hz2⟩ := info_parts infoC
  have CC := hide (cloneC_any g n cap l w hl (by omega) hcs)
  have CN := hide (fun (x : UInt8) (h : sg3 x = true) (w : World) => numberOf_any x w h)
  have HSG := hide hsg
  have HL := hide hl
  have HC0 := hide hc
  have HC3 := hide hc3
  obtain ⟨B, hB⟩ : ∃ B, w.heap.size = B := ⟨_, rfl⟩
  have HCS : Hid (∀ W, Below B w W → CellsAt W g (cV l)) := fun W hW => hcs.below' hW (by omega)
  rw [hB] at CC ⊢
  have HB0 := hide hB
  clear hsg hl hcs hc hc3 hB
  obtain ⟨vc, hvc⟩ : ∃ vc, vc = cv c := ⟨_, rfl⟩
  rw [← hvc]
  have HVC := hide hvc
  clear hvc
  go_enter Tryd.func83, Tryd.ntmps83
  go_wp2_with fail
  refine CC.out.mono ?_
  rintro e w1 ⟨v, rfl, ho1, hb1⟩
  have HO1 : Hid (OwnC B w1 v (aAt c l 0)) := by rw [aAt_zero]; exact ho1
  have HB1 := hide hb1
  clear ho1 hb1
  go_wp2_with fail
  go_loopw [5, 8, 13] (fun av tv iv wr => ∃ k : Nat, k ≤ n ∧ iv = .int .i64 (k : Int) ∧ Hid (OwnC B wr av (aAt c l k)) ∧ Hid (Below B w wr)) (fun _ _ iv _ => n - (Go.RowKit.intOf iv).toNat)
  case atStart => exact ⟨0, Nat.zero_le _, rfl, HO1, HB1⟩
  case round =>
    obtain ⟨k, hk, rfl, HO, HB⟩ := hrel
    by_cases hlt : k < n
    · obtain ⟨x, hx⟩ : ∃ x, l[k]? = some x := ⟨_, List.getElem?_eq_getElem (by rw [HL.out]; exact hlt)⟩
      have hsx := HSG.out x (List.mem_of_getElem? hx)
      have hcell := (HCS.out wr HB.out k _ (cV_get hx)).1
      have NX := hide (CN.out x hsx)
      have NC := hide (CN.out c HC3.out)
      rw [← HVC.out] at NC
      obtain ⟨vx, hvx⟩ : ∃ vx, vx = cv x := ⟨_, rfl⟩
      rw [← hvx] at hcell NX
      obtain ⟨nx, hnx⟩ : ∃ nx : Int, nx = (x.toNat : Int) - 48 := ⟨_, rfl⟩
      obtain ⟨nc, hnc⟩ : ∃ nc : Int, nc = (c.toNat : Int) - 48 := ⟨_, rfl⟩
      rw [← hnx] at NX
      rw [← hnc] at NC
      have HX := hide hx
      have k0 : (0 : Int) ≤ (k : Int) := by omega
      have k1 : (k : Int) < (n : Int) := by omega
      by_cases hxc : x = c
      · have hne : (nx != nc) = false := by rw [hnx, hnc, hxc]; simp
        have HXC := hide hxc
        clear hx hsx hvx hnx hnc hxc
        obtain ⟨ga, cp, rfl, hga1, hga2, hcp, hcm, hown⟩ := HO.out
        obtain ⟨m, hm2⟩ : ∃ m, m = (aAt c l k).length := ⟨_, rfl⟩
        have hmk : k < m := by have := aAt_ge c l k; rw [HL.out] at this; omega
        have hmz : m ≤ 240 := by have := aAt_le c l k; rw [HL.out] at this; omega
        rw [← hm2] at hcp hown ⊢
        have HMZ := hide hm2
        have HOWN := hide hown
        have HAC := hide (CellsAt.of_owns hown)
        have HG1 := hide hga1
        have HG2 := hide hga2
        have HCPM := hide hcm
        clear hm2 hown hga1 hga2 hcm
        have wk : IntKind.i64.wrap ((k : Int) + 1) = (k : Int) + 1 := by rw [IntKind.wrap_i64]; omega
        go_wp2_with (go_at_call 32; first
          | (have h := NX.out wr; with_reducible (refine h.mono ?_); rintro e w' ⟨rfl, rfl⟩)
          | (have h := NC.out wr; with_reducible (refine h.mono ?_); rintro e w' ⟨rfl, rfl⟩))
        have HMK := hide hmk
        go_loop [8] (fun tv => ∃ e : Nat, tv = .int .i64 (e : Int) ∧ k + 1 ≤ e ∧ e ≤ m ∧ Hid (∀ j, k + 1 ≤ j → j < e → (aAt c l k)[j]? ≠ some 48)) (fun tv => m - (Go.RowKit.intOf tv).toNat)
        case atStart => exact ⟨k + 1, by go_num, Nat.le_refl _, hmk, fun j h1 h2 => by omega⟩
        case round =>
          obtain ⟨e, rfl, he1, he2, HN⟩ := hrel
          by_cases hem : e < m
          · obtain ⟨z, hz⟩ : ∃ z, (aAt c l k)[e]? = some z := ⟨_, List.getElem?_eq_getElem (by rw [← HMZ.out]; exact hem)⟩
            have o1 := (HAC.out e _ (cV_get hz)).1
            have hsz : sg3 z = true := aAt_sg HC3.out HSG.out k z (List.mem_of_getElem? hz)
            have j0 : (0 : Int) ≤ (e : Int) := by omega
            have j1 : (e : Int) < (m : Int) := by omega
            by_cases h48 : z = 48
            · subst h48
              rw [cv_48] at o1
              have q1 := nilC0 wr
              have HNX : Hid (aAt c l (k + 1) = ((aAt c l k).set e c).set k 48) := by
                have h1 := aAt_ball (k := e - (k + 1)) HC0.out (HXC.out ▸ HX.out) (by rw [show k + 1 + (e - (k + 1)) = e by omega, hz]) (fun j hj => HN.out (k + 1 + j) (by omega) (by omega))
                rw [show k + 1 + (e - (k + 1)) = e by omega] at h1
                exact h1
              have f3 := (HAC.out e _ (cV_get hz)).2
              obtain ⟨y, hy⟩ : ∃ y, (aAt c l k)[k]? = some y := ⟨_, List.getElem?_eq_getElem (by rw [← HMZ.out]; omega)⟩
              have f2 := HAC.out k _ (cV_get hy)
              have f4 := f2.1
              have f5 := f2.2
              obtain ⟨vy, hvy⟩ : ∃ vy, vy = cv y := ⟨_, rfl⟩
              rw [← hvy] at f4
              have OWN : Hid (OwnC B ((wr.setCell ⟨ga, k, none⟩ .nilIface).setCell ⟨ga, e, none⟩ vc) (.slice (some ⟨ga, 0, none⟩) m cp) (aAt c l (k + 1))) := by
                rw [HVC.out]
                exact own_next HOWN.out HNX.out HMZ.out.symm (by omega) hcp HCPM.out HG1.out HG2.out
              have i1 : ((e : Int) == (m : Int)) = false := beq_eq_false_iff_ne.2 (by omega)
              have i2 : (k : Int) < (m : Int) := by omega
              have i3 : ¬ k = e := by omega
              have i4 : ¬ e = k := by omega
              have HBN : Hid (Below B w ((wr.setCell ⟨ga, k, none⟩ .nilIface).setCell ⟨ga, e, none⟩ vc)) := (HB.out.setCell (p := ⟨ga, k, none⟩) HG1.out _).setCell (p := ⟨ga, e, none⟩) HG1.out _
              obtain ⟨uc, huc⟩ : ∃ uc, vc = .iface uc (.agg #[]) := by
                rcases cv_form c with h | h
                · exact absurd (cv_nil h HC3.out) HC0.out
                · rw [HVC.out]; exact h
              subst huc
              clear hz hsz f2 hy hvy
              go_wp2
              exact ⟨⟨k + 1, by omega, by go_num, OWN, HBN⟩, by simp [Go.RowKit.intOf]; omega⟩
            · obtain ⟨uz, huz⟩ : ∃ uz, cv z = .iface uz (.agg #[]) := by
                rcases cv_form z with h | h
                · exact absurd (cv_nil h hsz) h48
                · exact h
              rw [huz] at o1
              have q1 := nilC wr uz (.agg #[])
              have HN2 : Hid (∀ j, k + 1 ≤ j → j < e + 1 → (aAt c l k)[j]? ≠ some 48) := by
                intro j h1 h2
                by_cases h : j = e
                · subst h; rw [hz]; simpa using h48
                · exact HN.out j h1 (by omega)
              clear hz hsz huz h48
              go_wp2
              go_round
              case rel => exact ⟨e + 1, by go_num, by omega, by omega, HN2⟩
              case measure => simp [Go.RowKit.intOf]; omega
          · obtain rfl : e = m := by omega
            have HNX : Hid (aAt c l (k + 1) = ((aAt c l k ++ [48]).set e c).set k 48) := by
              have h1 := aAt_out HC0.out (HXC.out ▸ HX.out) (fun j h1 h2 => HN.out j h1 (by rw [HMZ.out]; exact h2))
              have h2 : (aAt c l k ++ [48]).set e c = aAt c l k ++ [c] := by
                rw [HMZ.out, List.set_append_right _ _ (Nat.le_refl _), Nat.sub_self]
                rfl
              rw [h2]
              exact h1
            have i1 : ((e : Int) == (e : Int)) = true := by simp
            have i2 : (k : Int) < ((e + 1 : Nat) : Int) := by omega
            have i5 : (e : Int) < ((e + 1 : Nat) : Int) := by omega
            have i3 : ¬ k = e := by omega
            have i4 : ¬ e = k := by omega
            have j0 : (0 : Int) ≤ (e : Int) := by omega
            have hwz := HB.out.size
            rw [HB0.out] at hwz
            obtain ⟨uc, huc⟩ : ∃ uc, vc = .iface uc (.agg #[]) := by
              rcases cv_form c with h | h
              · exact absurd (cv_nil h HC3.out) HC0.out
              · rw [HVC.out]; exact h
            subst huc
            go_wp2_with (first | (at_builtin; refine wpList_append_own _ rfl _ _ 40 rfl B 44 i0 .nilIface 1 16 Tryd.underlying40 hi hz0 hz1 hz2 rfl (by decide) _ _ _ rfl (HOWN.out.alloc _) ⟨wr.heap.size, 0, none⟩ 1 1 [.nilIface] rfl rfl (cell_one_new _ _ _) (by intro u hu; simp at hu; subst hu; rfl) (by unfold maxLen; omega) (by omega) (by simp; omega) ?_; intro v' w2 hown' hgrow _; obtain ⟨g', cp', rfl, hb1, hb2, hcp', hcm', hown2⟩ := app_own hown' HMZ.out; have f1 := app_cell hown2 HMZ.out (j := k) (by omega); have f2 := app_cell hown2 HMZ.out (j := e) (by omega); obtain ⟨vy, f3, f4⟩ := f1; obtain ⟨vm, f5, f6⟩ := f2; have OWN2 := hide (own_next hown2 HNX.out (by rw [List.length_append, ← HMZ.out]; rfl) (by omega) hcp' hcm' hb1 hb2); have HBN2 := hide (((((HB.out.alloc hwz _).grown hgrow (by simp; omega) (fun b h => (HOWN.out.lt b h).1)).setCell (p := ⟨g', k, none⟩) hb1 .nilIface)).setCell (p := ⟨g', e, none⟩) hb1 (cv c)); clear hown' hgrow hown2 hb1 hb2 hcm') | fail)
            exact ⟨⟨k + 1, by omega, by go_num, by rw [HVC.out]; exact OWN2, by rw [HVC.out]; exact HBN2⟩, by simp [Go.RowKit.intOf]; omega⟩
      · have hne : (nx != nc) = true := by
          have : ¬ nx = nc := fun h => hxc (UInt8.toNat_inj.1 (by omega))
          simpa using this
        have HNX := hide (aAt_other hx hxc)
        clear hx hsx hvx hnx hnc hxc
        go_wp2_with (go_at_call 32; first
          | (have h := NX.out wr; with_reducible (refine h.mono ?_); rintro e w' ⟨rfl, rfl⟩)
          | (have h := NC.out wr; with_reducible (refine h.mono ?_); rintro e w' ⟨rfl, rfl⟩))
        go_roundw
        case rel => exact ⟨k + 1, by omega, by go_num, by rw [HNX.out]; exact HO, HB⟩
        case measure => simp [Go.RowKit.intOf]; omega
    · have hkn : k = n := by omega
      have hf := HO.out
      rw [hkn, ← HL.out] at hf
      have HF := hide (show OwnC B wr _ (mvU c l) from hf)
      clear hf
      clear hkn
      go_wp2
      go_ret
      exact ⟨_, rfl, HF.out, HB.out⟩
end Go.Proofs.YtppelmceojodhaaDoor
