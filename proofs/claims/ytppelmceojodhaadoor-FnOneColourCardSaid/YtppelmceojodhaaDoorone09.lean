/- TEXTS SCol2. -/
import Derived.Test.YtppelmceojodhaaDoorone08
import Derived.Test.YtppelmceojodhaaDoorone03
import Derived.Maps.AppendAt
import Derived.Lib.ConvBytes
import Derived.Laws.IdiomStrings
/- THE WALK of the model's l5Move. -/
namespace Go.Proofs.YtppelmceojodhaaDoor
open Go.RowKit Go.Lib

/-- bytes as cells -/
def bV (l : List UInt8) : List Value := l.map fun b => .int .u8 (b.toNat : Int)
theorem bV_length (l : List UInt8) : (bV l).length = l.length := by simp [bV]
theorem bV_get {l : List UInt8} {j : Nat} {x : UInt8} (h : l[j]? = some x) : (bV l)[j]? = some (.int .u8 (x.toNat : Int)) := by unfold bV; rw [List.getElem?_map, h]; rfl
theorem bV_set (l : List UInt8) (j : Nat) (x : UInt8) : bV (l.set j x) = (bV l).set j (.int .u8 (x.toNat : Int)) := by unfold bV; rw [List.map_set]
theorem bV_one (l : List UInt8) : ∀ u ∈ bV l, u.oneCell' = true := by
  intro u hu
  obtain ⟨b, _, rfl⟩ := List.mem_map.1 hu
  rfl
theorem infoU8 : (Tryd.prog.info? 5).map (fun i => (i.zero, i.size, i.bytes)) = some (some (.int .u8 0), 1, 1) := by kernel_rfl
/-- the ball at an index of a padded row finds a box -/
theorem pad_room {c : UInt8} {l : List UInt8} {i : Nat} (hi : i < l.length) (h : (padN l)[i]? = some c) (hc : c ≠ 48) : ∃ k, i + 1 + k < (padN l).length ∧ (cAt c (padN l) i)[i + 1 + k]? = some 48 := by
  have hz : cLd c ((padN l).take i) 0 < zs ((padN l).drop (i + 1)) := by
    have h1 := cLd_le c ((padN l).take i) 0
    rw [List.length_take] at h1
    have h2 : (padN l).drop (i + 1) = l.drop (i + 1) ++ List.replicate (l.length + 1) 48 := by
      unfold padN
      rw [List.drop_append_of_le_length (by omega)]
    rw [h2, zs_append, zs_rep]
    omega
  obtain ⟨k, hk, e⟩ := fz_find (c := c) _ _ hz
  rw [List.length_drop] at hk
  exact ⟨k, by omega, by rw [cAt_behind h hc]; exact e⟩
/-- behind the row itself no ball moves -/
theorem cAt_end {c : UInt8} (hc : c ≠ 48) (l : List UInt8) : cAt c (padN l) l.length = cMv c (padN l) 0 := by
  have h : ∀ d, l.length + d ≤ (padN l).length → cAt c (padN l) (l.length + d) = cAt c (padN l) l.length := by
    intro d
    induction d with
    | zero => intro _; rfl
    | succ d ih =>
      intro hd
      have e : (padN l)[l.length + d]? = some 48 := by
        unfold padN at hd ⊢
        rw [List.length_append, List.length_replicate] at hd
        rw [List.getElem?_append_right (by omega), List.getElem?_replicate, if_pos (by omega)]
      rw [← ih (by omega)]
      exact cAt_other e (fun h => hc h.symm)
  have e := h ((padN l).length - l.length) (by unfold padN; simp)
  rw [← e, show l.length + ((padN l).length - l.length) = (padN l).length by unfold padN; simp, cAt_all]

set_option maxRecDepth 100000 in
set_option maxHeartbeats 4000000 in
theorem l5Move_any (s : ByteArray) (c : UInt8) (w : World) (hs : s.size ≤ 120) (hc : c ≠ 48) :
    Calls Tryd.prog 31 #[.string s, .int .u8 (c.toNat : Int)] w fun e w' => e = .returned (.string (ofL (mv1 c (lst s)))) ∧ Below w.heap.size w w' := by
  obtain ⟨i0, hi, hz0, hz1, hz2⟩ := info_parts infoU8
  have HM := hide (fun w => l6Many_any ⟨#[48]⟩ (s.size + 1) w (by omega) (by decide))
  have hs1 : s.size + 1 ≤ 1000 := by omega
  go_enter Tryd.func31, Tryd.ntmps31
  go_wp2_with fail
  refine (HM.out w).mono ?_
  rintro e w' ⟨⟨out, rfl, ho⟩, rfl⟩
  have HO := hide ho
  have hos : out.size = s.size + 1 := by have := congrArg List.length ho; rw [rep_length] at this; simpa using this
  have hos2 : out.size ≤ 121 := by omega
  have HX : Hid (lst (s ++ out) = padN (lst s)) := by
    show _ = _
    unfold padN
    rw [lst_size]
    unfold lst
    rw [ByteArray.data_append, Array.toList_append, ho]
    simp [rep]
  clear ho
  have hxs : s.size + out.size = 2 * s.size + 1 := by omega
  have hos3 : s.size + out.size ≤ 300 := by omega
  have HXS := hide hxs
  clear hxs hos
  obtain ⟨x, hx⟩ : ∃ x, x = s ++ out := ⟨_, rfl⟩
  rw [← hx] at HX
  have hconv : ∀ w, (convert 9 22 (.string x)).run Tryd.prog w = .ok (.slice (some ⟨w.heap.size, 0, none⟩) x.size (grownCap w x.size 0 5)) (bytesWorld w 5 x) := fun w => Go.Lib.run_convert_string_bytes w _ _ _ x Tryd.underlying9 Tryd.underlying22 Tryd.underlying5
  have hconv2 : s ++ out = x := hx.symm
  have hxz : x.size = 2 * s.size + 1 := by rw [hx, ByteArray.size_append]; exact HXS.out
  clear hx
  obtain ⟨N, hN⟩ : ∃ N, N = 2 * s.size + 1 := ⟨_, rfl⟩
  rw [← hN] at hxz
  have hNs : s.size < N := by omega
  have hN2 : N ≤ 300 := by omega
  obtain ⟨W0, hW0⟩ : ∃ W0, W0 = bytesWorld w 5 x := ⟨_, rfl⟩
  have hz0' : W0.heap.size = w.heap.size + 1 := by rw [hW0]; exact bytesWorld_size ..
  have hb0 : Below w.heap.size w W0 := by rw [hW0]; exact ⟨rfl, rfl, rfl, by rw [bytesWorld_size]; omega, fun k hk => bytesWorld_at_old w _ x k hk⟩
  have HOLD : Hid (∀ j (y : UInt8), (padN (lst s))[j]? = some y → W0.cell? ⟨w.heap.size, j, none⟩ = some (.int .u8 (y.toNat : Int))) := by
    intro j y hy
    rw [← HX.out] at hy
    have hj : j < x.size := by rw [← lst_size]; exact (List.getElem?_eq_some_iff.1 hy).1
    rw [hW0, bytesWorld_cell w _ x j hj]
    unfold lst at hy
    rw [List.getD_eq_getElem?_getD, hy]
    rfl
  have OWN : Hid ((W0.alloc (.cells #[] 5)).ownsRow W0.heap.size 5 1 (.slice (some ⟨W0.heap.size, 0, none⟩) 0 0) 0 []) := hide (World.ownsRow_lit (base := W0.heap.size) (e := 5) (size := 1) W0 #[] 0 (Nat.le_refl _) (by unfold maxLen; omega) rfl)
  have SRC : Hid (∀ j u, (bV (padN (lst s)))[j]? = some u → (W0.alloc (.cells #[] 5)).cell? ((⟨w.heap.size, 0, none⟩ : Addr).add j) = some u) := by
    intro j u hu
    unfold bV at hu
    rw [List.getElem?_map] at hu
    obtain ⟨y, hy, e⟩ := Option.map_eq_some_iff.1 hu
    rw [Addr.add_lit, Nat.zero_add, World.cell?_alloc_lt W0 _ ⟨w.heap.size, j, none⟩ (show w.heap.size < W0.heap.size by omega), ← e]
    exact HOLD.out j y hy
  have LEN : Hid ((bV (padN (lst s))).length = N * 1) := by
    show _ = _
    rw [bV_length, ← HX.out, lst_size, hxz, Nat.mul_one]
  have HB0 := hide hb0
  have HN := hide hN
  clear hN hb0
  go_wp2_with (first | (at_builtin; refine wpList_append_own_at _ rfl _ _ 22 rfl W0.heap.size 5 i0 (.int .u8 0) 1 1 Tryd.underlying22 hi hz0 hz1 hz2 rfl (by decide) (.slice (some ⟨W0.heap.size, 0, none⟩) 0 0) 0 [] (by rw [hW0]; rfl) (by rw [← hW0]; exact OWN.out) ⟨w.heap.size, 0, none⟩ N (grownCap w N 0 5) (bV (padN (lst s))) rfl LEN.out (by rw [← hW0]; exact SRC.out) (bV_one _) (by unfold maxLen; omega) (by omega) (by rw [← hW0]; simp) ?_; intro v' w1 hown' hgrow _ hat; have HO1 := hide hown'; have HG1 := hide hgrow; clear hown' hgrow hat) | fail)
  obtain ⟨WA, hWA⟩ : ∃ WA, WA = W0.alloc (.cells #[] 5) := ⟨_, rfl⟩
  have hg1 := HG1.out
  rw [← hW0, ← hWA] at hg1
  have hzA : WA.heap.size = W0.heap.size + 1 := by rw [hWA]; simp
  have hb1 : Below W0.heap.size WA w1 := (Below.refl _ _).grown hg1 (by omega) (fun r e => by have e' : some W0.heap.size = some r := e; injection e' with e'; omega)
  have hbA : Below W0.heap.size W0 WA := by rw [hWA]; exact (Below.refl _ _).alloc (Nat.le_refl _) _
  have HOLD1 : Hid (∀ W, Below W0.heap.size w1 W → ∀ j (y : UInt8), (padN (lst s))[j]? = some y → W.cell? ⟨w.heap.size, j, none⟩ = some (.int .u8 (y.toNat : Int))) := by
    intro W hW j y hy
    have h0 : w.heap.size < W0.heap.size := by omega
    exact ((hW.cell (p := ⟨w.heap.size, j, none⟩) h0).trans ((hb1.cell (p := ⟨w.heap.size, j, none⟩) h0).trans (hbA.cell (p := ⟨w.heap.size, j, none⟩) h0))).trans (HOLD.out j y hy)
  have HBW : Hid (Below w.heap.size w w1) := (HB0.out.trans ((hbA.trans hb1).mono (by omega)))
  have ho1 := HO1.out
  rw [Nat.zero_add, List.nil_append] at ho1
  obtain ⟨g, cp, rfl, hgz⟩ : ∃ g cp, v' = .slice (some ⟨g, 0, none⟩) N cp ∧ W0.heap.size ≤ g := by
    rcases ho1.2 with ⟨_, h0⟩ | ⟨g, cp, cur, h1, h2, _⟩
    · omega
    · exact ⟨g, cp, h1, h2⟩
  have hc1 : CellsAt w1 g (bV (padN (lst s))) := CellsAt.of_owns ho1
  have HC1 : Hid (CellsAt w1 g (bV (cAt c (padN (lst s)) 0))) := by show CellsAt _ _ _; rw [cAt_zero]; exact hc1
  have HPL : Hid ((padN (lst s)).length = N) := by show _ = _; rw [← HX.out, lst_size, hxz]
  have hwg : w.heap.size < g := by omega
  have hgn : ¬ (w.heap.size = g) := by omega
  have HGZ := hide hgz
  have HWZ := hide (show w.heap.size ≤ W0.heap.size by omega)
  clear hg1 hb1 hbA hc1 ho1 hWA hW0 hzA hz0' HO1 HG1 OWN SRC LEN HOLD HB0 hi hz0 hz1 hz2 hconv hconv2 hos2 hos3 HM hgz
  go_loopw [7] (fun i wr => ∃ k : Nat, k ≤ s.size ∧ i = .int .i64 (k : Int) ∧ Hid (CellsAt wr g (bV (cAt c (padN (lst s)) k))) ∧ Hid (Below W0.heap.size w1 wr)) (fun i _ => s.size - (Go.RowKit.intOf i).toNat)
  case atStart => exact ⟨0, Nat.zero_le _, rfl, HC1, Below.refl _ _⟩
  case round =>
    obtain ⟨k, hk, rfl, HC, HB⟩ := hrel
    by_cases hlt : k < s.size
    · have hkN : k < N := by omega
      obtain ⟨y, hy⟩ : ∃ y, (padN (lst s))[k]? = some y := ⟨_, List.getElem?_eq_getElem (by rw [HPL.out]; exact hkN)⟩
      have o1 := HOLD1.out wr HB.out k y hy
      have i0 : (0 : Int) ≤ (k : Int) := by omega
      have i1 : (k : Int) < (N : Int) := by omega
      by_cases hyc : y = c
      · subst hyc
        obtain ⟨k0, hk0, he0⟩ := pad_room (by rw [lst_size]; exact hlt) hy hc
        rw [HPL.out] at hk0
        have t1 : ((y.toNat : Int) != (y.toNat : Int)) = false := by simp
        have HY := hide hy
        have HE0 := hide he0
        obtain ⟨E, hE⟩ : ∃ E, E = k + 1 + k0 := ⟨_, rfl⟩
        rw [← hE] at hk0 he0
        have HEE : Hid ((cAt y (padN (lst s)) k)[E]? = some 48) := he0
        have hkE : k + 1 ≤ E := by omega
        clear hy he0 hE HE0
        go_wp2
        go_loop [8] (fun i => ∃ e : Nat, i = .int .i64 (e : Int) ∧ k + 1 ≤ e ∧ e ≤ E ∧ Hid (∀ j, k + 1 ≤ j → j < e → (cAt y (padN (lst s)) k)[j]? ≠ some 48)) (fun i => E - (Go.RowKit.intOf i).toNat)
        case atStart => exact ⟨k + 1, by go_num, Nat.le_refl _, hkE, fun j h1 h2 => by omega⟩
        case round =>
          obtain ⟨e, rfl, he1, he2, HN⟩ := hrel
          obtain ⟨z, hz⟩ : ∃ z, (cAt y (padN (lst s)) k)[e]? = some z := ⟨_, List.getElem?_eq_getElem (by rw [cAt_length, HPL.out]; omega)⟩
          have o2 := (HC.out e _ (bV_get hz)).1
          have j0 : (0 : Int) ≤ (e : Int) := by omega
          have j1 : (e : Int) < (N : Int) := by omega
          by_cases hz48 : z = 48
          · subst hz48
            have hbk := cAt_behind HY.out hc (e - (k + 1))
            rw [show k + 1 + (e - (k + 1)) = e by omega] at hbk
            have hq : (padN (lst s))[e]? = some 48 := by
              have h1 := fz_empty hc _ _ _ (hbk.symm.trans hz)
              rw [List.getElem?_drop, show k + 1 + (e - (k + 1)) = e by omega] at h1
              exact h1
            have o3 := HOLD1.out wr HB.out e 48 hq
            have HNX : Hid (cAt y (padN (lst s)) (k + 1) = ((cAt y (padN (lst s)) k).set e y).set k 48) := by
              have h1 := cAt_ball (k := e - (k + 1)) hc HY.out (by rw [show k + 1 + (e - (k + 1)) = e by omega]; exact hz) (fun j hj => HN.out (k + 1 + j) (by omega) (by omega))
              rw [show k + 1 + (e - (k + 1)) = e by omega] at h1
              exact h1
            have f1 := (HC.out e _ (bV_get hz)).2
            obtain ⟨q0, hq0⟩ : ∃ q, (cAt y (padN (lst s)) k)[k]? = some q := ⟨_, List.getElem?_eq_getElem (by rw [cAt_length, HPL.out]; omega)⟩
            have o4 := (HC.out k _ (bV_get hq0)).1
            have f2 := (HC.out k _ (bV_get hq0)).2
            have n1 : ((48 : UInt8).toNat : Int) = 48 := rfl
            have n2 : ((48 : Int) == (y.toNat : Int)) = false := by
              have : ¬ (48 : Int) = (y.toNat : Int) := fun h => hc (UInt8.toNat_inj.1 (by show y.toNat = 48; omega))
              simpa using this
            have hke : ¬ (k = e) := by omega
            have HC2 : Hid (CellsAt ((wr.setCell ⟨g, e, none⟩ (.int .u8 (y.toNat : Int))).setCell ⟨g, k, none⟩ (.int .u8 48)) g (bV (cAt y (padN (lst s)) (k + 1)))) := by
              show CellsAt _ _ _
              rw [HNX.out, bV_set, bV_set]
              exact (HC.out.set e (by rw [bV_length, cAt_length, HPL.out]; omega) _).set k (by rw [List.length_set, bV_length, cAt_length, HPL.out]; omega) _
            rw [n1] at o2 o3
            clear hbk hq hz hq0 n1
            go_wp2
            exact ⟨⟨k + 1, by omega, by go_num, HC2, (HB.out.setCell (p := ⟨g, e, none⟩) HGZ.out _).setCell (p := ⟨g, k, none⟩) HGZ.out _⟩, by simp [Go.RowKit.intOf]; omega⟩
          · have n1 : ((z.toNat : Int) != 48) = true := by
              have : ¬ (z.toNat : Int) = 48 := fun h => hz48 (UInt8.toNat_inj.1 (by show z.toNat = 48; omega))
              simpa using this
            have heE : e < E := by
              by_cases h : e = E
              · subst h
                have := HEE.out
                rw [hz] at this
                injection this with this
                exact absurd this hz48
              · omega
            have HN2 : Hid (∀ j, k + 1 ≤ j → j < e + 1 → (cAt y (padN (lst s)) k)[j]? ≠ some 48) := by
              intro j h1 h2
              by_cases h : j = e
              · subst h; rw [hz]; simpa using hz48
              · exact HN.out j h1 (by omega)
            clear hz
            go_wp2
            go_round
            case rel => exact ⟨e + 1, by go_num, by omega, by omega, HN2⟩
            case measure => simp [Go.RowKit.intOf]; omega
      · have t1 : ((y.toNat : Int) != (c.toNat : Int)) = true := by
          have : ¬ (y.toNat : Int) = (c.toNat : Int) := fun h => hyc (UInt8.toNat_inj.1 (by omega))
          simpa using this
        have HNX := hide (cAt_other hy hyc)
        clear hy
        go_wp2
        go_roundw
        case rel => exact ⟨k + 1, by omega, by go_num, by rw [HNX.out]; exact HC, HB⟩
        case measure => simp [Go.RowKit.intOf]; omega
    · have hkn : k = s.size := by omega
      have hcf := HC.out
      rw [hkn, ← lst_size, cAt_end hc] at hcf
      obtain ⟨l, hl⟩ : ∃ l, l = cMv c (padN (lst s)) 0 := ⟨_, rfl⟩
      have hll : l.length = N := by rw [hl, cMv_length, HPL.out]
      rw [← hl] at hcf
      have hconv : (convert 22 9 (.slice (some ⟨g, 0, none⟩) l.length cp)).run Tryd.prog wr = .ok (.string ⟨l.toArray⟩) wr :=
        run_convert_bytes_back (P := Tryd.prog) wr 22 9 5 ⟨g, 0, none⟩ cp l Tryd.underlying22 Tryd.underlying5 Tryd.underlying9 (fun j hj => by
          rw [Addr.add_lit, Nat.zero_add]
          exact (hcf j _ (bV_get (List.getElem?_eq_getElem hj))).1)
      rw [hll] at hconv
      have CT := hide (l1TidyC_any (ofL l) wr (by rw [ofL_size, hll]; unfold maxLen; omega))
      have HFIN : Hid (tidyC (ofL l) = ofL (mv1 c (lst s))) := by
        show _ = _
        rw [tidyC_ofL, lst_ofL, hl]
        rfl
      rw [HFIN.out] at CT
      have HBF := hide (HBW.out.trans (HB.out.mono HWZ.out))
      have hof : (⟨l.toArray⟩ : ByteArray) = ofL l := rfl
      rw [hof] at hconv
      obtain ⟨t, ht⟩ : ∃ t, t = ofL l := ⟨_, rfl⟩
      rw [← ht] at hconv CT
      obtain ⟨m, hm⟩ : ∃ m, m = ofL (mv1 c (lst s)) := ⟨_, rfl⟩
      rw [← hm] at CT
      have HMM := hide hm
      clear hcf hl hll ht hm hof
      go_wp2_with fail
      refine CT.out.mono ?_
      rintro e w' ⟨rfl, rfl⟩
      go_wp2_with fail
      go_ret
      exact ⟨by rw [HMM.out]; rfl, HBF.out⟩
end Go.Proofs.YtppelmceojodhaaDoor
