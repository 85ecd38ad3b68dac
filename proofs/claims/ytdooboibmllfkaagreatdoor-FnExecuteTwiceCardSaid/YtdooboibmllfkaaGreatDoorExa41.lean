/- TEXTS ICol3, ICol4, ICol5. -/
import Derived.Test.YtdooboibmllfkaaGreatDoorExa40
import Derived.Lib.ConvBytes
import Derived.Laws.IdiomStrings
namespace Go.Proofs.YtdooboibmllfkaaGreatDoor
set_option maxRecDepth 100000
open Go.RowKit Go.Lib

theorem OwnC.cells {B : Nat} {w : World} {g n cp : Nat} {l : List UInt8} (h : w.ownsRow B 180 1 (.slice (some ⟨g, 0, none⟩) n cp) n (cV l)) : CellsAt w g (cV l) := CellsAt.of_owns h
theorem own_next {B : Nat} {w : World} {g n cp k e : Nat} {c : UInt8} {l l' : List UInt8} (h : w.ownsRow B 180 1 (.slice (some ⟨g, 0, none⟩) n cp) n (cV l)) (hl : l' = (l.set e c).set k 48) (hn : l.length = n) (hke : k ≠ e) (hcp : n ≤ cp) (hm : cp ≤ maxLen) (hB : B ≤ g) (hg : g < w.heap.size) :
    OwnC B ((w.setCell ⟨g, k, none⟩ .nilIface).setCell ⟨g, e, none⟩ (cv c)) (.slice (some ⟨g, 0, none⟩) n cp) l' := by
  have h1 := own_set (own_set h rfl (k := k) .nilIface) rfl (k := e) (cv c)
  have e1 : ((cV l).set k .nilIface).set e (cv c) = cV l' := by
    rw [hl, cV_set, cV_set, List.set_comm _ _ hke]
    rfl
  have e2 : l'.length = n := by rw [hl, List.length_set, List.length_set, hn]
  rw [e1] at h1
  exact ⟨g, cp, by rw [e2], hB, by simpa [World.setCell] using hg, by omega, hm, by rw [e2]; exact h1⟩

theorem app_own {B : Nat} {w : World} {v : Value} {m : Nat} {L : List UInt8} (h : w.ownsRow B 180 1 v (m + 1) (cV L ++ [.nilIface])) (hm : m = L.length) :
    ∃ g cp, v = .slice (some ⟨g, 0, none⟩) (m + 1) cp ∧ B ≤ g ∧ g < w.heap.size ∧ m + 1 ≤ cp ∧ cp ≤ maxLen ∧ w.ownsRow B 180 1 (.slice (some ⟨g, 0, none⟩) (m + 1) cp) (m + 1) (cV (L ++ [48])) := by
  have e1 : cV L ++ [.nilIface] = cV (L ++ [48]) := by unfold cV; rw [List.map_append]; rfl
  have e2 : (L ++ [48]).length = m + 1 := by rw [List.length_append, hm]; rfl
  rw [e1, ← e2] at h
  have hn : v ≠ .slice none 0 0 := by
    rintro rfl
    rcases h.2 with ⟨_, h0⟩ | ⟨g, cap, cur, h1, _⟩
    · omega
    · cases h1
  obtain ⟨g, cp, k1, k2, k3, k4, k5, k6⟩ := ownC_of h hn
  rw [e2] at k1 k4 k6
  rw [k1] at k6
  exact ⟨g, cp, k1, k2, k3, k4, k5, k6⟩
theorem app_cell {B : Nat} {w : World} {g cp m : Nat} {L : List UInt8} (h : w.ownsRow B 180 1 (.slice (some ⟨g, 0, none⟩) (m + 1) cp) (m + 1) (cV (L ++ [48]))) (hm : m = L.length) {j : Nat} (hj : j < m + 1) :
    ∃ v, w.cell? ⟨g, j, none⟩ = some v ∧ w.frozen? ⟨g, j, none⟩ = false := by
  obtain ⟨y, hy⟩ : ∃ y, (L ++ [48])[j]? = some y := ⟨_, List.getElem?_eq_getElem (by rw [List.length_append, ← hm]; exact hj)⟩
  have := CellsAt.of_owns h j _ (cV_get hy)
  exact ⟨_, this.1, this.2⟩
theorem fz_sg {c : UInt8} (hc : sg3 c = true) : ∀ (u : Nat) (l : List UInt8), (∀ x ∈ l, sg3 x = true) → ∀ x ∈ fz c u l, sg3 x = true
  | _, [], _, x, hx => by simp [fz] at hx
  | u, y :: l, h, x, hx => by
    unfold fz at hx
    split at hx
    · rcases List.mem_cons.1 hx with rfl | hx
      · exact hc
      · exact fz_sg hc _ l (fun z hz => h z (List.mem_cons_of_mem _ hz)) x hx
    · rcases List.mem_cons.1 hx with rfl | hx
      · exact h _ (List.mem_cons_self ..)
      · exact fz_sg hc _ l (fun z hz => h z (List.mem_cons_of_mem _ hz)) x hx
theorem cv_nil {x : UInt8} (h : cv x = .nilIface) (h3 : sg3 x = true) : x = 48 := by
  rcases (sg3_iff x).1 h3 with rfl | rfl | rfl | rfl
  · rfl
  · cases h
  · cases h
  · cases h
theorem aAt_sg {c : UInt8} (hc : sg3 c = true) {l : List UInt8} (h : ∀ x ∈ l, sg3 x = true) (i : Nat) : ∀ x ∈ aAt c l i, sg3 x = true := by
  intro x hx
  unfold aAt at hx
  rcases List.mem_append.1 hx with hx | hx
  · unfold cAt at hx
    rcases List.mem_append.1 hx with hx | hx
    · exact cMv_sg hc _ _ (fun y hy => h y (List.mem_of_mem_take hy)) x hx
    · exact fz_sg hc _ _ (fun y hy => h y (List.mem_of_mem_drop hy)) x hx
  · rw [(List.mem_replicate.1 hx).2]; exact hc

set_option maxRecDepth 100000 in
set_option maxHeartbeats 4000000 in
theorem movedC_any (g n cap : Nat) (c : UInt8) (l : List UInt8) (w : World) (hl : l.length = n) (hm : n ≤ 120) (hsg : ∀ x ∈ l, sg3 x = true) (hc3 : sg3 c = true) (hc : c ≠ 48) (hcs : CellsAt w g (cV l)) :
    Calls Tryz.prog 296 #[.slice (some ⟨g, 0, none⟩) n cap, cv c] w fun e w' => ∃ v, e = .returned v ∧ OwnC w.heap.size w' v (mvU c l) ∧ Below w.heap.size w w' := by
  obtain ⟨i0, hi, hz0, hz1, hz2⟩ := info_parts infoC
  have CC := hide (cloneC_any g n cap l w hl (by omega) hcs)
  have CN := hide (fun (x : UInt8) (h : sg3 x = true) (w : World) => numberOf_any x w h)
  have HSG := hide hsg
  have HL := hide hl
  have HC0 := hide hc
  have HC3 := hide hc3
  obtain ⟨B, hB⟩ : ∃ B, w.heap.size = B := ⟨_, rfl⟩
  have HCS : Hid (∀ W, Below B w W → CellsAt W g (cV l)) := fun W hW => hcs.below' hW (by omega)
  rw [hB] at CC ⊢
  have HB0 := hide hB
  clear hsg hl hcs hc hc3 hB
  obtain ⟨vc, hvc⟩ : ∃ vc, vc = cv c := ⟨_, rfl⟩
  rw [← hvc]
  have HVC := hide hvc
  clear hvc
  go_enter Tryz.func296, Tryz.ntmps296
  go_wp2_with fail
  refine CC.out.mono ?_
  rintro e w1 ⟨v, rfl, ho1, hb1⟩
  have HO1 : Hid (OwnC B w1 v (aAt c l 0)) := by rw [aAt_zero]; exact ho1
  have HB1 := hide hb1
  clear ho1 hb1
  go_wp2_with fail
  go_loopw [5, 8, 13] (fun av tv iv wr => ∃ k : Nat, k ≤ n ∧ iv = .int .i64 (k : Int) ∧ Hid (OwnC B wr av (aAt c l k)) ∧ Hid (Below B w wr)) (fun _ _ iv _ => n - (Go.RowKit.intOf iv).toNat)
  case atStart => exact ⟨0, Nat.zero_le _, rfl, HO1, HB1⟩
  case round =>
    obtain ⟨k, hk, rfl, HO, HB⟩ := hrel
    by_cases hlt : k < n
    · obtain ⟨x, hx⟩ : ∃ x, l[k]? = some x := ⟨_, List.getElem?_eq_getElem (by rw [HL.out]; exact hlt)⟩
      have hsx := HSG.out x (List.mem_of_getElem? hx)
      have hcell := (HCS.out wr HB.out k _ (cV_get hx)).1
      have NX := hide (CN.out x hsx)
      have NC := hide (CN.out c HC3.out)
      rw [← HVC.out] at NC
      obtain ⟨vx, hvx⟩ : ∃ vx, vx = cv x := ⟨_, rfl⟩
      rw [← hvx] at hcell NX
      obtain ⟨nx, hnx⟩ : ∃ nx : Int, nx = (x.toNat : Int) - 48 := ⟨_, rfl⟩
      obtain ⟨nc, hnc⟩ : ∃ nc : Int, nc = (c.toNat : Int) - 48 := ⟨_, rfl⟩
      rw [← hnx] at NX
      rw [← hnc] at NC
      have HX := hide hx
      have k0 : (0 : Int) ≤ (k : Int) := by omega
      have k1 : (k : Int) < (n : Int) := by omega
      by_cases hxc : x = c
      · have hne : (nx != nc) = false := by rw [hnx, hnc, hxc]; simp
        have HXC := hide hxc
        clear hx hsx hvx hnx hnc hxc
        obtain ⟨ga, cp, rfl, hga1, hga2, hcp, hcm, hown⟩ := HO.out
        obtain ⟨m, hm2⟩ : ∃ m, m = (aAt c l k).length := ⟨_, rfl⟩
        have hmk : k < m := by have := aAt_ge c l k; rw [HL.out] at this; omega
        have hmz : m ≤ 240 := by have := aAt_le c l k; rw [HL.out] at this; omega
        rw [← hm2] at hcp hown ⊢
        have HMZ := hide hm2
        have HOWN := hide hown
        have HAC := hide (CellsAt.of_owns hown)
        have HG1 := hide hga1
        have HG2 := hide hga2
        have HCPM := hide hcm
        clear hm2 hown hga1 hga2 hcm
        have wk : IntKind.i64.wrap ((k : Int) + 1) = (k : Int) + 1 := by rw [IntKind.wrap_i64]; omega
        go_wp2_with (go_at_call 205; first
          | (have h := NX.out wr; with_reducible (refine h.mono ?_); rintro e w' ⟨rfl, rfl⟩)
          | (have h := NC.out wr; with_reducible (refine h.mono ?_); rintro e w' ⟨rfl, rfl⟩))
        have HMK := hide hmk
        go_loop [8] (fun tv => ∃ e : Nat, tv = .int .i64 (e : Int) ∧ k + 1 ≤ e ∧ e ≤ m ∧ Hid (∀ j, k + 1 ≤ j → j < e → (aAt c l k)[j]? ≠ some 48)) (fun tv => m - (Go.RowKit.intOf tv).toNat)
        case atStart => exact ⟨k + 1, by go_num, Nat.le_refl _, hmk, fun j h1 h2 => by omega⟩
        case round =>
          obtain ⟨e, rfl, he1, he2, HN⟩ := hrel
          by_cases hem : e < m
          · obtain ⟨z, hz⟩ : ∃ z, (aAt c l k)[e]? = some z := ⟨_, List.getElem?_eq_getElem (by rw [← HMZ.out]; exact hem)⟩
            have o1 := (HAC.out e _ (cV_get hz)).1
            have hsz : sg3 z = true := aAt_sg HC3.out HSG.out k z (List.mem_of_getElem? hz)
            have j0 : (0 : Int) ≤ (e : Int) := by omega
            have j1 : (e : Int) < (m : Int) := by omega
            by_cases h48 : z = 48
            · subst h48
              rw [cv_48] at o1
              have q1 := nilC0 wr
              have HNX : Hid (aAt c l (k + 1) = ((aAt c l k).set e c).set k 48) := by
                have h1 := aAt_ball (k := e - (k + 1)) HC0.out (HXC.out ▸ HX.out) (by rw [show k + 1 + (e - (k + 1)) = e by omega, hz]) (fun j hj => HN.out (k + 1 + j) (by omega) (by omega))
                rw [show k + 1 + (e - (k + 1)) = e by omega] at h1
                exact h1
              have f3 := (HAC.out e _ (cV_get hz)).2
              obtain ⟨y, hy⟩ : ∃ y, (aAt c l k)[k]? = some y := ⟨_, List.getElem?_eq_getElem (by rw [← HMZ.out]; omega)⟩
              have f2 := HAC.out k _ (cV_get hy)
              have f4 := f2.1
              have f5 := f2.2
              obtain ⟨vy, hvy⟩ : ∃ vy, vy = cv y := ⟨_, rfl⟩
              rw [← hvy] at f4
              have OWN : Hid (OwnC B ((wr.setCell ⟨ga, k, none⟩ .nilIface).setCell ⟨ga, e, none⟩ vc) (.slice (some ⟨ga, 0, none⟩) m cp) (aAt c l (k + 1))) := by
                rw [HVC.out]
                exact own_next HOWN.out HNX.out HMZ.out.symm (by omega) hcp HCPM.out HG1.out HG2.out
              have i1 : ((e : Int) == (m : Int)) = false := beq_eq_false_iff_ne.2 (by omega)
              have i2 : (k : Int) < (m : Int) := by omega
              have i3 : ¬ k = e := by omega
              have i4 : ¬ e = k := by omega
              have HBN : Hid (Below B w ((wr.setCell ⟨ga, k, none⟩ .nilIface).setCell ⟨ga, e, none⟩ vc)) := (HB.out.setCell (p := ⟨ga, k, none⟩) HG1.out _).setCell (p := ⟨ga, e, none⟩) HG1.out _
              obtain ⟨uc, huc⟩ : ∃ uc, vc = .iface uc (.agg #[]) := by
                rcases cv_form c with h | h
                · exact absurd (cv_nil h HC3.out) HC0.out
                · rw [HVC.out]; exact h
              subst huc
              clear hz hsz f2 hy hvy
              go_wp2
              exact ⟨⟨k + 1, by omega, by go_num, OWN, HBN⟩, by simp [Go.RowKit.intOf]; omega⟩
            · obtain ⟨uz, huz⟩ : ∃ uz, cv z = .iface uz (.agg #[]) := by
                rcases cv_form z with h | h
                · exact absurd (cv_nil h hsz) h48
                · exact h
              rw [huz] at o1
              have q1 := nilC wr uz (.agg #[])
              have HN2 : Hid (∀ j, k + 1 ≤ j → j < e + 1 → (aAt c l k)[j]? ≠ some 48) := by
                intro j h1 h2
                by_cases h : j = e
                · subst h; rw [hz]; simpa using h48
                · exact HN.out j h1 (by omega)
              clear hz hsz huz h48
              go_wp2
              go_round
              case rel => exact ⟨e + 1, by go_num, by omega, by omega, HN2⟩
              case measure => simp [Go.RowKit.intOf]; omega
          · obtain rfl : e = m := by omega
            have HNX : Hid (aAt c l (k + 1) = ((aAt c l k ++ [48]).set e c).set k 48) := by
              have h1 := aAt_out HC0.out (HXC.out ▸ HX.out) (fun j h1 h2 => HN.out j h1 (by rw [HMZ.out]; exact h2))
              have h2 : (aAt c l k ++ [48]).set e c = aAt c l k ++ [c] := by
                rw [HMZ.out, List.set_append_right _ _ (Nat.le_refl _), Nat.sub_self]
                rfl
              rw [h2]
              exact h1
            have i1 : ((e : Int) == (e : Int)) = true := by simp
            have i2 : (k : Int) < ((e + 1 : Nat) : Int) := by omega
            have i5 : (e : Int) < ((e + 1 : Nat) : Int) := by omega
            have i3 : ¬ k = e := by omega
            have i4 : ¬ e = k := by omega
            have j0 : (0 : Int) ≤ (e : Int) := by omega
            have hwz := HB.out.size
            rw [HB0.out] at hwz
            obtain ⟨uc, huc⟩ : ∃ uc, vc = .iface uc (.agg #[]) := by
              rcases cv_form c with h | h
              · exact absurd (cv_nil h HC3.out) HC0.out
              · rw [HVC.out]; exact h
            subst huc
            go_wp2_with (first | (at_builtin; refine wpList_append_own _ rfl _ _ 176 rfl B 180 i0 .nilIface 1 16 Tryz.underlying176 hi hz0 hz1 hz2 rfl (by decide) _ _ _ rfl (HOWN.out.alloc _) ⟨wr.heap.size, 0, none⟩ 1 1 [.nilIface] rfl rfl (cell_one_new _ _ _) (by intro u hu; simp at hu; subst hu; rfl) (by unfold maxLen; omega) (by omega) (by simp; omega) ?_; intro v' w2 hown' hgrow _; obtain ⟨g', cp', rfl, hb1, hb2, hcp', hcm', hown2⟩ := app_own hown' HMZ.out; have f1 := app_cell hown2 HMZ.out (j := k) (by omega); have f2 := app_cell hown2 HMZ.out (j := e) (by omega); obtain ⟨vy, f3, f4⟩ := f1; obtain ⟨vm, f5, f6⟩ := f2; have OWN2 := hide (own_next hown2 HNX.out (by rw [List.length_append, ← HMZ.out]; rfl) (by omega) hcp' hcm' hb1 hb2); have HBN2 := hide (((((HB.out.alloc hwz _).grown hgrow (by simp; omega) (fun b h => (HOWN.out.lt b h).1)).setCell (p := ⟨g', k, none⟩) hb1 .nilIface)).setCell (p := ⟨g', e, none⟩) hb1 (cv c)); clear hown' hgrow hown2 hb1 hb2 hcm') | fail)
            exact ⟨⟨k + 1, by omega, by go_num, by rw [HVC.out]; exact OWN2, by rw [HVC.out]; exact HBN2⟩, by simp [Go.RowKit.intOf]; omega⟩
      · have hne : (nx != nc) = true := by
          have : ¬ nx = nc := fun h => hxc (UInt8.toNat_inj.1 (by omega))
          simpa using this
        have HNX := hide (aAt_other hx hxc)
        clear hx hsx hvx hnx hnc hxc
        go_wp2_with (go_at_call 205; first
          | (have h := NX.out wr; with_reducible (refine h.mono ?_); rintro e w' ⟨rfl, rfl⟩)
          | (have h := NC.out wr; with_reducible (refine h.mono ?_); rintro e w' ⟨rfl, rfl⟩))
        go_roundw
        case rel => exact ⟨k + 1, by omega, by go_num, by rw [HNX.out]; exact HO, HB⟩
        case measure => simp [Go.RowKit.intOf]; omega
    · have hkn : k = n := by omega
      have hf := HO.out
      rw [hkn, ← HL.out] at hf
      have HF := hide (show OwnC B wr _ (mvU c l) from hf)
      clear hf
      clear hkn
      go_wp2
      go_ret
      exact ⟨_, rfl, HF.out, HB.out⟩
end Go.Proofs.YtdooboibmllfkaaGreatDoor

namespace Go.Proofs.YtdooboibmllfkaaGreatDoor
set_option maxRecDepth 100000
open Go.RowKit Go.Lib

theorem own_mono {w : World} {B B' e size n : Nat} {v : Value} {xs : List Value} (h : w.ownsRow B e size v n xs) (hB : B' ≤ B) : w.ownsRow B' e size v n xs :=
  ⟨h.1, h.2.imp (fun h => h) (fun ⟨g, cap, cur, a, b, r⟩ => ⟨g, cap, cur, a, Nat.le_trans hB b, r⟩)⟩
theorem OwnC.mono {B B' : Nat} {w : World} {v : Value} {l : List UInt8} (h : OwnC B w v l) (hB : B' ≤ B) : OwnC B' w v l := by
  obtain ⟨g, cp, h1, h2, h3, h4, h5, h6⟩ := h
  exact ⟨g, cp, h1, Nat.le_trans hB h2, h3, h4, h5, own_mono h6 hB⟩

def MoveSpec (f : FuncId) (c : UInt8) : Prop := ∀ (g n cap : Nat) (l : List UInt8) (w : World), l.length = n → n ≤ 120 → (∀ x ∈ l, sg3 x = true) → CellsAt w g (cV l) →
    Calls Tryz.prog f #[.agg #[], .slice (some ⟨g, 0, none⟩) n cap] w fun e w' => ∃ v, e = .returned v ∧ OwnC w.heap.size w' v (mvU c l) ∧ Below w.heap.size w w'

set_option maxHeartbeats 1000000 in
theorem move1_any (c : UInt8) (hcc : c = 49) : MoveSpec 295 c := by
  intro g n cap l w hl hm hsg hcs
  have hc3 : sg3 c = true := by rw [hcc]; rfl
  have hc : c ≠ 48 := by rw [hcc]; decide
  have C := hide (movedC_any g n cap c l (w.alloc (.cells #[] 214)) hl hm hsg hc3 hc (hcs.alloc _))
  rw [show cv c = .iface 214 (.agg #[]) by rw [hcc]; rfl] at C
  clear hsg hcs hcc hc3 hc
  go_enter Tryz.func295, Tryz.ntmps295
  go_wp2_with (go_at_call 296; refine C.out.mono ?_; rintro e w1 ⟨v, rfl, ho1, hb1⟩)
  go_ret
  exact ⟨_, rfl, ho1.mono (by simp), ((Below.refl _ w).alloc (Nat.le_refl _) _).trans (hb1.mono (by simp))⟩
set_option maxHeartbeats 1000000 in
theorem move2_any (c : UInt8) (hcc : c = 50) : MoveSpec 298 c := by
  intro g n cap l w hl hm hsg hcs
  have hc3 : sg3 c = true := by rw [hcc]; rfl
  have hc : c ≠ 48 := by rw [hcc]; decide
  have C := hide (movedC_any g n cap c l (w.alloc (.cells #[] 215)) hl hm hsg hc3 hc (hcs.alloc _))
  rw [show cv c = .iface 215 (.agg #[]) by rw [hcc]; rfl] at C
  clear hsg hcs hcc hc3 hc
  go_enter Tryz.func298, Tryz.ntmps298
  go_wp2_with (go_at_call 296; refine C.out.mono ?_; rintro e w1 ⟨v, rfl, ho1, hb1⟩)
  go_ret
  exact ⟨_, rfl, ho1.mono (by simp), ((Below.refl _ w).alloc (Nat.le_refl _) _).trans (hb1.mono (by simp))⟩
set_option maxHeartbeats 1000000 in
theorem move3_any (c : UInt8) (hcc : c = 51) : MoveSpec 299 c := by
  intro g n cap l w hl hm hsg hcs
  have hc3 : sg3 c = true := by rw [hcc]; rfl
  have hc : c ≠ 48 := by rw [hcc]; decide
  have C := hide (movedC_any g n cap c l (w.alloc (.cells #[] 216)) hl hm hsg hc3 hc (hcs.alloc _))
  rw [show cv c = .iface 216 (.agg #[]) by rw [hcc]; rfl] at C
  clear hsg hcs hcc hc3 hc
  go_enter Tryz.func299, Tryz.ntmps299
  go_wp2_with (go_at_call 296; refine C.out.mono ?_; rintro e w1 ⟨v, rfl, ho1, hb1⟩)
  go_ret
  exact ⟨_, rfl, ho1.mono (by simp), ((Below.refl _ w).alloc (Nat.le_refl _) _).trans (hb1.mono (by simp))⟩

def HasC (B : Nat) (w : World) (v : Value) (l : List UInt8) : Prop := ∃ g cp, v = .slice (some ⟨g, 0, none⟩) l.length cp ∧ B ≤ g ∧ g < w.heap.size ∧ l.length ≤ cp ∧ cp ≤ maxLen ∧ CellsAt w g (cV l)
theorem HasC.mono {B B' : Nat} {w : World} {v : Value} {l : List UInt8} (h : HasC B w v l) (hB : B' ≤ B) : HasC B' w v l := by
  obtain ⟨g, cp, h1, h2, h3⟩ := h
  exact ⟨g, cp, h1, Nat.le_trans hB h2, h3⟩
theorem OwnC.has {B : Nat} {w : World} {v : Value} {l : List UInt8} (h : OwnC B w v l) : HasC B w v l := by
  obtain ⟨g, cp, h1, h2, h3, h4, h5, h6⟩ := h
  subst h1
  exact ⟨g, cp, rfl, h2, h3, h4, h5, CellsAt.of_owns h6⟩
theorem HasC.below {B : Nat} {w w' : World} {v : Value} {l : List UInt8} (h : HasC B w v l) (hb : Below w.heap.size w w') : HasC B w' v l := by
  obtain ⟨g, cp, h1, h2, h3, h4, h5, h6⟩ := h
  exact ⟨g, cp, h1, h2, Nat.lt_of_lt_of_le h3 hb.size, h4, h5, h6.below hb h3⟩

structure MoveAt (u : TypeId) (f : FuncId) (c : UInt8) : Prop where
  spec : MoveSpec f c
  meth : ∀ W : World, (method 438 u (.agg #[]) "loop.example/boxball/impl.move").run Tryz.prog W = .ok (f, .agg #[]) W
  ent : ∀ args W, (callFunc f args).run Tryz.prog W = .ok (.enter f args) W
  val : cv c = .iface u (.agg #[])
theorem moveAt1 (c : UInt8) (h : c = 49) : MoveAt 214 295 c :=
  ⟨move1_any c h, fun _ => by kernel_rfl, enters_of Tryz.func295 (by kernel_rfl) rfl, by rw [h]; rfl⟩
theorem moveAt2 (c : UInt8) (h : c = 50) : MoveAt 215 298 c :=
  ⟨move2_any c h, fun _ => by kernel_rfl, enters_of Tryz.func298 (by kernel_rfl) rfl, by rw [h]; rfl⟩
theorem moveAt3 (c : UInt8) (h : c = 51) : MoveAt 216 299 c :=
  ⟨move3_any c h, fun _ => by kernel_rfl, enters_of Tryz.func299 (by kernel_rfl) rfl, by rw [h]; rfl⟩
theorem moveAt (c : UInt8) (h3 : sg3 c = true) (hc : c ≠ 48) : ∃ u f, MoveAt u f c := by -- (for 295 and its like)
  rcases (sg3_iff c).1 h3 with h | h | h | h
  · exact absurd h hc
  · exact ⟨_, _, moveAt1 c h⟩
  · exact ⟨_, _, moveAt2 c h⟩
  · exact ⟨_, _, moveAt3 c h⟩

end Go.Proofs.YtdooboibmllfkaaGreatDoor

namespace Go.Proofs.YtdooboibmllfkaaGreatDoor
set_option maxRecDepth 100000
open Go.RowKit Go.Lib

theorem madeU8 (n : Nat) : (madeCells (Value.int .u8 0).cells (n * 1)).toList = bV (List.replicate n 0) := by
  rw [Nat.mul_one]
  show (madeCells #[Value.int .u8 0] n).toList = _
  rw [toList_madeCells_one]
  unfold bV
  rw [List.map_replicate]
  rfl
theorem tl_nz_take {l : List UInt8} {k : Nat} (h : l[k]? = some 48) : tl ((nz l).take (k + 1)) = tl ((nz l).take k) := by
  have hk := (List.getElem?_eq_some_iff.1 h).1
  exact tl_take_pred (nz l) k (by rw [nz_length]; exact hk) (by unfold nz; rw [List.getElem?_map, h]; rfl)
theorem tl_nz_stop {l : List UInt8} {k : Nat} {x : UInt8} (h : l[k]? = some x) (hx : x ≠ 48) : tl ((nz l).take (k + 1)) = k + 1 := by
  have hk := (List.getElem?_eq_some_iff.1 h).1
  exact tl_take_stop (nz l) k (by rw [nz_length]; exact hk) (by unfold nz; rw [List.getElem?_map, h]; simpa using hx)

set_option maxRecDepth 100000 in
set_option maxHeartbeats 1000000 in
theorem trimByte_any (g n cap : Nat) (l : List UInt8) (w : World) (hl : l.length = n) (hn : n ≤ cap) (hm : cap ≤ maxLen) (hc : CellsAt w g (bV l)) :
    Calls Tryz.prog 227 #[.slice (some ⟨g, 0, none⟩) n cap, .int .u8 48] w fun e w' => e = .returned (.slice (some ⟨g, 0, none⟩) (cz l).length cap) ∧ w = w' := by
  unfold maxLen at hm
  rw [cz_length]
  have HL := hide hl
  have HC := hide hc
  clear hl hc
  go_enter Tryz.func227, Tryz.ntmps227
  go_wp2
  go_loop [0] (fun sv => ∃ k : Nat, k ≤ n ∧ sv = .slice (some ⟨g, 0, none⟩) k cap ∧ Hid (tl ((nz l).take k) = tl (nz l))) (fun sv => match sv with | .slice _ k _ => k | _ => 0)
  case atStart => exact ⟨n, Nat.le_refl _, rfl, by rw [List.take_of_length_le (by rw [nz_length, HL.out]; exact Nat.le_refl _)]; rfl⟩
  case round =>
    obtain ⟨k, hk, rfl, HT⟩ := hrel
    by_cases hk0 : k = 0
    · subst hk0
      go_wp2
      go_ret
      exact ⟨ret_slice (by rw [← HT.out]; rfl), rfl⟩
    · obtain ⟨j, rfl⟩ : ∃ j, k = j + 1 := ⟨k - 1, by omega⟩
      obtain ⟨x, hx⟩ : ∃ x, l[j]? = some x := ⟨_, List.getElem?_eq_getElem (by rw [HL.out]; omega)⟩
      have hcell := (HC.out j _ (bV_get hx)).1
      by_cases h48 : x = 48
      · subst h48
        have hT := hide ((tl_nz_take hx).symm.trans HT.out)
        have hb : (((48 : UInt8).toNat : Int) == 48) = true := rfl
        have n1 : ((48 : UInt8).toNat : Int) = 48 := rfl
        rw [n1] at hcell
        clear hx hb n1
        go_wp2
        go_round
        case rel => exact ⟨j, by omega, rfl, hT.out⟩
        case measure => simp
      · have hT := hide ((tl_nz_stop hx h48).symm.trans HT.out)
        have hb : ((x.toNat : Int) == 48) = false := by
          have : ¬ (x.toNat : Int) = 48 := fun h => h48 (UInt8.toNat_inj.1 (by show x.toNat = 48; omega))
          simpa using this
        clear hx h48
        go_wp2
        go_ret
        exact ⟨ret_slice hT.out, rfl⟩

set_option maxRecDepth 100000 in
set_option maxHeartbeats 1000000 in
theorem trimRight_any (g n cap : Nat) (l : List UInt8) (w : World) (hl : l.length = n) (hn : n ≤ cap) (hm : cap ≤ maxLen) (hc : CellsAt w g (bV l)) :
    Calls Tryz.prog 206 #[.slice (some ⟨g, 0, none⟩) n cap, .string ⟨#[48]⟩] w fun e w' => e = .returned (.slice (some ⟨g, 0, none⟩) (cz l).length cap) ∧ w = w' := by
  by_cases h0 : n = 0
  · subst h0
    obtain rfl : l = [] := List.eq_nil_of_length_eq_zero hl
    clear hl hc
    go_enter Tryz.func206, Tryz.ntmps206
    go_wp2
    go_ret
    exact ⟨rfl, rfl⟩
  · have C := hide (trimByte_any g n cap l w hl hn hm hc)
    obtain ⟨t, ht⟩ : ∃ t, t = (cz l).length := ⟨_, rfl⟩
    rw [← ht] at C ⊢
    have hn0 : ((n : Int) == 0) = false := beq_eq_false_iff_ne.2 (by omega)
    clear hl hc ht
    go_enter Tryz.func206, Tryz.ntmps206
    go_wp2_with (go_at_call 227; refine C.out.mono ?_; rintro e w' ⟨rfl, rfl⟩)
    go_ret
    exact ⟨rfl, rfl⟩

set_option maxRecDepth 100000 in
set_option maxHeartbeats 1000000 in
theorem textC_any (g n cap : Nat) (l : List UInt8) (w : World) (hl : l.length = n) (hm : n ≤ 240) (hsg : ∀ x ∈ l, sg3 x = true) (hcs : CellsAt w g (cV l)) :
    Calls Tryz.prog 177 #[.slice (some ⟨g, 0, none⟩) n cap] w fun e w' =>
      e = .returned (.tuple #[.string (if (cz l).length ≤ 120 then ofL (cz l) else ByteArray.empty), .bool (decide ((cz l).length ≤ 120))]) ∧ Below w.heap.size w w' := by
  obtain ⟨i0, hi, hz0, hz1, hz2⟩ := info_parts infoU8
  have CN := hide (fun (x : UInt8) (h : sg3 x = true) (w : World) => numberOf_any x w h)
  have HSG := hide hsg
  have HL := hide hl
  obtain ⟨q, hq⟩ : ∃ q, w.heap.size = q := ⟨_, rfl⟩
  have HCS : Hid (∀ W, Below q w W → CellsAt W g (cV l)) := fun W hW => hcs.below' hW (by omega)
  have HQ := hide hq
  obtain ⟨rs, hrs⟩ : ∃ rs, rs = (if (cz l).length ≤ 120 then ofL (cz l) else ByteArray.empty) := ⟨_, rfl⟩
  obtain ⟨rb, hrb⟩ : ∃ rb, rb = decide ((cz l).length ≤ 120) := ⟨_, rfl⟩
  rw [← hrs, ← hrb]
  have HRS := hide hrs
  have HRB := hide hrb
  clear hsg hl hcs hrs hrb
  go_enter Tryz.func177, Tryz.ntmps177
  go_wp2_with (at_make; refine wpList_make_full _ rfl _ _ 22 rfl w.heap.size 5 i0 (.int .u8 0) 1 Tryz.underlying22 hi hz0 hz1 _ _ _ _ n rfl rfl rfl rfl ?b2 ?b3 ?b4 ?_; rotate_right; intro w1 hown hgrow)
  case b2 => rw [hz2]; omega
  case b3 => unfold maxLen; omega
  case b4 => exact Nat.le_refl _
  rw [madeU8] at hown
  have hb1 : Below w.heap.size w w1 := (Below.refl _ _).grown hgrow (Nat.le_refl _) (fun k e => by cases e)
  have hz : w.heap.size < w1.heap.size := (hown.lt _ rfl).2
  have hc1 := CellsAt.of_owns hown
  rw [hq] at hb1 hz hc1
  have HB1 := hide hb1
  have HC1 := hide hc1
  clear hown hgrow hq hb1 hc1 hi hz0 hz1 hz2
  go_loopw [12] (fun iv wr => ∃ k : Nat, k ≤ n ∧ iv = .int .i64 (k : Int) ∧ Hid (Below q w wr) ∧ q < wr.heap.size ∧ ∃ xs : List UInt8, Hid (xs.length = l.length) ∧ Hid (xs.take k = l.take k) ∧ Hid (CellsAt wr q (bV xs))) (fun iv _ => n - (Go.RowKit.intOf iv).toNat)
  case atStart => exact ⟨0, Nat.zero_le _, rfl, HB1, hz, List.replicate n 0, by show _ = _; rw [List.length_replicate]; exact HL.out.symm, rfl, HC1⟩
  case round =>
    obtain ⟨k, hk, rfl, HB, hzr, xs, HX, HT, HC⟩ := hrel
    by_cases hlt : k < n
    · obtain ⟨x, hx⟩ : ∃ x, l[k]? = some x := ⟨_, List.getElem?_eq_getElem (by rw [HL.out]; exact hlt)⟩
      obtain ⟨y, hy⟩ : ∃ y, xs[k]? = some y := ⟨_, List.getElem?_eq_getElem (by rw [HX.out, HL.out]; exact hlt)⟩
      have hsx := HSG.out x (List.mem_of_getElem? hx)
      have hcell := (HCS.out wr HB.out k _ (cV_get hx)).1
      have NX := hide (CN.out x hsx)
      obtain ⟨o1, o2⟩ := HC.out k _ (bV_get hy)
      obtain ⟨vx, hvx⟩ : ∃ vx, vx = cv x := ⟨_, rfl⟩
      rw [← hvx] at hcell NX
      obtain ⟨nx, hnx⟩ : ∃ nx : Int, nx = (x.toNat : Int) - 48 := ⟨_, rfl⟩
      rw [← hnx] at NX
      have w1 : IntKind.u8.wrap nx = nx := by
        rw [hnx]
        rcases (sg3_iff x).1 hsx with h | h | h | h <;> (rw [h]; rfl)
      have w2 : IntKind.u8.wrap (48 + nx) = (x.toNat : Int) := by
        rw [hnx]
        rcases (sg3_iff x).1 hsx with h | h | h | h <;> (rw [h]; rfl)
      have HN := hide (set_take hx HX.out HT.out)
      have HC2 : Hid (CellsAt (wr.setCell ⟨q, k, none⟩ (.int .u8 (x.toNat : Int))) q (bV (xs.set k x))) := by
        show CellsAt _ _ _
        rw [bV_set]
        exact HC.out.set k (by rw [bV_length, HX.out, HL.out]; exact hlt) _
      have HBS := hide (HB.out.setCell (p := ⟨q, k, none⟩) (Nat.le_refl _) (.int .u8 (x.toNat : Int)))
      have HNX := hide hnx
      have HXL : Hid ((xs.set k x).length = l.length) := by show _ = _; rw [List.length_set]; exact HX.out
      clear hx hy hsx hvx hnx
      go_wp2_with (go_at_call 205; refine (NX.out _).mono ?_; rintro e w' ⟨rfl, rfl⟩)
      go_roundw
      case rel => exact ⟨k + 1, by omega, by go_num, HBS.out, by simpa [World.setCell] using hzr, xs.set k x, HXL, HN, HC2⟩
      case measure => simp [Go.RowKit.intOf]; omega
    · have hxs : xs = l := by
        have := HT.out
        rw [List.take_of_length_le (by rw [HX.out, HL.out]; omega), List.take_of_length_le (by rw [HL.out]; omega)] at this
        exact this
      subst hxs
      have CT := hide (trimRight_any q n n xs wr HL.out (Nat.le_refl _) (by unfold maxLen; omega) HC.out)
      have hzle := cz_le xs
      rw [HL.out] at hzle
      obtain ⟨z, hzz⟩ : ∃ z, z = cz xs := ⟨_, rfl⟩
      have hconv : (convert 22 9 (.slice (some ⟨q, 0, none⟩) z.length n)).run Tryz.prog wr = .ok (.string ⟨z.toArray⟩) wr :=
        run_convert_bytes_back (P := Tryz.prog) wr 22 9 5 ⟨q, 0, none⟩ n z Tryz.underlying22 Tryz.underlying5 Tryz.underlying9 (fun j hj => by
          rw [Addr.add_lit, Nat.zero_add]
          refine (HC.out j _ (bV_get ?_)).1
          obtain ⟨r, hr⟩ := cz_eq xs
          rw [← hzz] at hr
          rw [hr, List.getElem?_append_left hj]
          exact List.getElem?_eq_getElem hj)
      have hof : (⟨z.toArray⟩ : ByteArray) = ofL z := rfl
      rw [hof] at hconv
      rw [← hzz] at CT hzle
      have HRS2 : Hid (rs = if z.length ≤ 120 then ofL z else ByteArray.empty) := by show _ = _; rw [hzz]; exact HRS.out
      have HRB2 : Hid (rb = decide (z.length ≤ 120)) := by show _ = _; rw [hzz]; exact HRB.out
      obtain ⟨t, ht⟩ : ∃ t, t = ofL z := ⟨_, rfl⟩
      rw [← ht] at hconv HRS2
      obtain ⟨m, hm2⟩ : ∃ m, m = z.length := ⟨_, rfl⟩
      rw [← hm2] at hconv CT HRS2 HRB2 hzle
      clear hzz hof ht hm2
      by_cases h120 : m ≤ 120
      · have e1 : rs = t := by rw [HRS2.out, if_pos h120]
        have e2 : rb = true := by rw [HRB2.out]; exact decide_eq_true h120
        subst e1 e2
        go_wp2_with fail
        refine CT.out.mono ?_
        rintro e w' ⟨rfl, rfl⟩
        go_wp2_with fail
        go_ret2
        exact ⟨rfl, by have := HB.out; rw [← HQ.out] at this; exact this⟩
      · have e1 : rs = ⟨#[]⟩ := by rw [HRS2.out, if_neg h120]; rfl
        have e2 : rb = false := by rw [HRB2.out]; exact decide_eq_false h120
        subst e1 e2
        go_wp2_with fail
        refine CT.out.mono ?_
        rintro e w' ⟨rfl, rfl⟩
        go_wp2_with fail
        go_ret2
        exact ⟨rfl, by have := HB.out; rw [← HQ.out] at this; exact this⟩
end Go.Proofs.YtdooboibmllfkaaGreatDoor
