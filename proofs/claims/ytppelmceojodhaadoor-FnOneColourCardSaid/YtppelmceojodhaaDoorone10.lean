/- TEXTS Col5, SCol3. -/
import Derived.Test.YtppelmceojodhaaDoorone07
import Derived.Test.YtppelmceojodhaaDoorone09
/- MOVES BACK, box by box from the last one on. Pure: no walk. -/
namespace Go.Proofs.YtppelmceojodhaaDoor
open Go.RowKit

theorem set_rev (l : List UInt8) (a : Nat) (v : UInt8) (h : a < l.length) : (l.set a v).reverse = l.reverse.set (l.length - 1 - a) v := by
  refine List.ext_getElem? fun j => ?_
  by_cases hj : j < l.length
  · rw [List.getElem?_reverse (by rw [List.length_set]; exact hj), List.length_set, List.getElem?_set, List.getElem?_set, List.length_reverse, List.getElem?_reverse hj]
    by_cases e : a = l.length - 1 - j
    · rw [if_pos e, if_pos h, if_pos (show l.length - 1 - a = j by omega), if_pos (show l.length - 1 - a < l.length by omega)]
    · rw [if_neg e, if_neg (by omega)]
  · rw [List.getElem?_eq_none_iff.2 (by rw [List.length_reverse, List.length_set]; omega), List.getElem?_eq_none_iff.2 (by rw [List.length_set, List.length_reverse]; omega)]
/-- the boxes when so many boxes ahead are left -/
def bAt (c : UInt8) (l : List UInt8) (m : Nat) : List UInt8 := (cAt c l.reverse (l.length - m)).reverse
def bInv (c : UInt8) (l : List UInt8) (m : Nat) : Prop := cLd c (l.reverse.take (l.length - m)) 0 ≤ zs (l.reverse.drop (l.length - m))
theorem bAt_length (c : UInt8) (l : List UInt8) (m : Nat) : (bAt c l m).length = l.length := by unfold bAt; rw [List.length_reverse, cAt_length, List.length_reverse]
theorem bAt_start (c : UInt8) (l : List UInt8) : bAt c l l.length = l := by unfold bAt; rw [Nat.sub_self, cAt_zero, List.reverse_reverse]
theorem bAt_done (c : UInt8) (l : List UInt8) : bAt c l 0 = (cMv c l.reverse 0).reverse := by
  unfold bAt
  have := cAt_all c l.reverse
  rw [List.length_reverse] at this
  rw [Nat.sub_zero, this]
theorem bInv_start (c : UInt8) (l : List UInt8) : bInv c l l.length := by unfold bInv; rw [Nat.sub_self]; exact Nat.zero_le _
theorem bInv_done {c : UInt8} {l : List UInt8} (h : bInv c l 0) : cbOk c l = true := by
  unfold bInv at h
  rw [Nat.sub_zero, List.take_of_length_le (by simp), List.drop_of_length_le (by simp), zs_nil] at h
  unfold cbOk
  simp
  omega
theorem rev_at {l : List UInt8} {m : Nat} {y : UInt8} (h : l[m]? = some y) : l.reverse[l.length - (m + 1)]? = some y ∧ l.length - m = l.length - (m + 1) + 1 ∧ m < l.length := by
  have hm := (List.getElem?_eq_some_iff.1 h).1
  refine ⟨?_, by omega, hm⟩
  rw [List.getElem?_reverse (by omega), show l.length - 1 - (l.length - (m + 1)) = m by omega]
  exact h
theorem bAt_get {c : UInt8} {l : List UInt8} {m j : Nat} (hj : j < l.length) : (bAt c l m)[j]? = (cAt c l.reverse (l.length - m))[l.length - 1 - j]? := by
  unfold bAt
  rw [List.getElem?_reverse (by rw [cAt_length, List.length_reverse]; exact hj), cAt_length, List.length_reverse]
theorem bAt_other {c : UInt8} {l : List UInt8} {m : Nat} {y : UInt8} (h : l[m]? = some y) (hy : y ≠ c) : bAt c l m = bAt c l (m + 1) ∧ (bInv c l (m + 1) → bInv c l m) := by
  obtain ⟨h1, h2, h3⟩ := rev_at h
  refine ⟨?_, ?_⟩
  · unfold bAt
    rw [h2, cAt_other h1 hy]
  · intro hi
    unfold bInv at hi ⊢
    obtain ⟨t1, t2⟩ := take_one h1
    rw [h2, t1, cLd_append]
    rw [t2, zs_cons] at hi
    show (cg c y _).2 ≤ _
    unfold cg
    by_cases h4 : y = 48 ∧ 0 < cLd c (l.reverse.take (l.length - (m + 1))) 0
    · rw [if_neg hy, if_pos h4]
      rw [if_pos h4.1] at hi
      show _ - 1 ≤ _
      omega
    · rw [if_neg hy, if_neg h4]
      show cLd c _ 0 ≤ _
      by_cases h5 : y = 48
      · have : cLd c (l.reverse.take (l.length - (m + 1))) 0 = 0 := by
          by_cases h6 : 0 < cLd c (l.reverse.take (l.length - (m + 1))) 0
          · exact absurd ⟨h5, h6⟩ h4
          · omega
        omega
      · rw [if_neg h5] at hi
        omega
theorem bAt_behind {c : UInt8} {l : List UInt8} {m e : Nat} (hc : c ≠ 48) (h : l[m]? = some c) (he : e < m) : (bAt c l (m + 1))[e]? = (fz c (cLd c (l.reverse.take (l.length - (m + 1))) 0) (l.reverse.drop (l.length - (m + 1) + 1)))[m - 1 - e]? := by
  obtain ⟨h1, h2, h3⟩ := rev_at h
  rw [bAt_get (by omega), show l.length - 1 - e = l.length - (m + 1) + 1 + (m - 1 - e) by omega, cAt_behind h1 hc]
theorem bAt_old {c : UInt8} {l : List UInt8} {m e : Nat} (hc : c ≠ 48) (h : l[m]? = some c) (he : e < m) (hz : (bAt c l (m + 1))[e]? = some 48) : l[e]? = some 48 := by
  obtain ⟨h1, h2, h3⟩ := rev_at h
  rw [bAt_behind hc h he] at hz
  have := fz_empty hc _ _ _ hz
  rw [List.getElem?_drop, List.getElem?_reverse (by omega), show l.length - 1 - (l.length - (m + 1) + 1 + (m - 1 - e)) = e by omega] at this
  exact this
theorem bAt_ball {c : UInt8} {l : List UInt8} {m e : Nat} (hc : c ≠ 48) (h : l[m]? = some c) (he : e < m) (hz : (bAt c l (m + 1))[e]? = some 48) (hb : ∀ j, e < j → j < m → (bAt c l (m + 1))[j]? ≠ some 48) :
    bAt c l m = ((bAt c l (m + 1)).set e c).set m 48 ∧ (bInv c l (m + 1) → bInv c l m) := by
  obtain ⟨h1, h2, h3⟩ := rev_at h
  have hz0 := hz
  rw [bAt_behind hc h he] at hz0
  have hzc : (cAt c l.reverse (l.length - (m + 1)))[l.length - (m + 1) + 1 + (m - 1 - e)]? = some 48 := by rw [cAt_behind h1 hc]; exact hz0
  have hbc : ∀ j, j < m - 1 - e → (cAt c l.reverse (l.length - (m + 1)))[l.length - (m + 1) + 1 + j]? ≠ some 48 := by
    intro j hj
    have := hb (m - 1 - j) (by omega) (by omega)
    rw [bAt_get (by omega), show l.length - 1 - (m - 1 - j) = l.length - (m + 1) + 1 + j by omega] at this
    exact this
  refine ⟨?_, ?_⟩
  · unfold bAt
    rw [h2, cAt_ball hc h1 hzc hbc, set_rev _ _ _ (by rw [List.length_set, cAt_length, List.length_reverse]; omega), set_rev _ _ _ (by rw [cAt_length, List.length_reverse]; omega), List.length_set, cAt_length, List.length_reverse,
      show l.length - 1 - (l.length - (m + 1) + 1 + (m - 1 - e)) = e by omega, show l.length - 1 - (l.length - (m + 1)) = m by omega]
  · intro _
    unfold bInv
    obtain ⟨t1, t2⟩ := take_one h1
    rw [h2, t1, cLd_append]
    have e3 : cLd c [c] (cLd c (l.reverse.take (l.length - (m + 1))) 0) = cLd c (l.reverse.take (l.length - (m + 1))) 0 + 1 := by simp [cLd, cg]
    rw [e3]
    by_cases hle : zs (l.reverse.drop (l.length - (m + 1) + 1)) ≤ cLd c (l.reverse.take (l.length - (m + 1))) 0
    · exact absurd hz0 (fz_none hc _ _ hle _)
    · omega
theorem bAt_fail {c : UInt8} {l : List UInt8} {m : Nat} (hc : c ≠ 48) (h : l[m]? = some c) (hb : ∀ j, j < m → (bAt c l (m + 1))[j]? ≠ some 48) : cbOk c l = false := by
  obtain ⟨h1, h2, h3⟩ := rev_at h
  obtain ⟨t1, t2⟩ := take_one h1
  have hle : zs (l.reverse.drop (l.length - (m + 1) + 1)) ≤ cLd c (l.reverse.take (l.length - (m + 1))) 0 := by
    by_cases hlt : cLd c (l.reverse.take (l.length - (m + 1))) 0 < zs (l.reverse.drop (l.length - (m + 1) + 1))
    · obtain ⟨k, hk, e⟩ := fz_find (c := c) _ _ hlt
      rw [List.length_drop, List.length_reverse] at hk
      have h5 := hb (m - 1 - k) (by omega)
      rw [bAt_behind hc h (by omega), show m - 1 - (m - 1 - k) = k by omega] at h5
      exact absurd e h5
    · omega
  have e2 : l.reverse = l.reverse.take (l.length - (m + 1)) ++ c :: l.reverse.drop (l.length - (m + 1) + 1) := by rw [← t2, List.take_append_drop]
  have hld : cLd c l.reverse 0 ≠ 0 := by
    rw [e2, cLd_append]
    have e3 : (cg c c (cLd c (l.reverse.take (l.length - (m + 1))) 0)).2 = cLd c (l.reverse.take (l.length - (m + 1))) 0 + 1 := by unfold cg; rw [if_pos rfl]
    show cLd c (l.reverse.drop (l.length - (m + 1) + 1)) (cg c c _).2 ≠ 0
    rw [e3]
    have := cLd_ge hc (l.reverse.drop (l.length - (m + 1) + 1)) (cLd c (l.reverse.take (l.length - (m + 1))) 0 + 1)
    omega
  unfold cbOk
  simpa using hld
end Go.Proofs.YtppelmceojodhaaDoor

/- THE WALKS of the model's l5Back, ColourMove, ColourStep, ColourBack. -/
namespace Go.Proofs.YtppelmceojodhaaDoor
open Go.RowKit Go.Lib

/-- what a move back answers -/
def bkV (c : UInt8) (s : ByteArray) : ByteArray := if cbOk c (lst s) then ofL (bk1 c (lst s)) else ByteArray.empty

set_option maxRecDepth 100000 in
set_option maxHeartbeats 4000000 in
theorem l5Back_any (s : ByteArray) (c : UInt8) (w : World) (hs : s.size ≤ 300) (hc : c ≠ 48) :
    Calls Tryd.prog 40 #[.string s, .int .u8 (c.toNat : Int)] w fun e w' => e = .returned (.tuple #[.string (bkV c s), .bool (cbOk c (lst s))]) ∧ Below w.heap.size w w' := by
  obtain ⟨i0, hi, hz0, hz1, hz2⟩ := info_parts infoU8
  have hconv : ∀ w, (convert 9 22 (.string s)).run Tryd.prog w = .ok (.slice (some ⟨w.heap.size, 0, none⟩) s.size (grownCap w s.size 0 5)) (bytesWorld w 5 s) := fun w => Go.Lib.run_convert_string_bytes w _ _ _ s Tryd.underlying9 Tryd.underlying22 Tryd.underlying5
  obtain ⟨N, hN⟩ : ∃ N, N = s.size := ⟨_, rfl⟩
  have HPL : Hid ((lst s).length = N) := by show _ = _; rw [lst_size, hN]
  obtain ⟨W0, hW0⟩ : ∃ W0, W0 = bytesWorld w 5 s := ⟨_, rfl⟩
  have hz0' : W0.heap.size = w.heap.size + 1 := by rw [hW0]; exact bytesWorld_size ..
  have hb0 : Below w.heap.size w W0 := by rw [hW0]; exact ⟨rfl, rfl, rfl, by rw [bytesWorld_size]; omega, fun k hk => bytesWorld_at_old w _ s k hk⟩
  have HOLD : Hid (∀ j (y : UInt8), (lst s)[j]? = some y → W0.cell? ⟨w.heap.size, j, none⟩ = some (.int .u8 (y.toNat : Int))) := by
    intro j y hy
    have hj : j < s.size := by rw [← lst_size]; exact (List.getElem?_eq_some_iff.1 hy).1
    rw [hW0, bytesWorld_cell w _ s j hj]
    unfold lst at hy
    rw [List.getD_eq_getElem?_getD, hy]
    rfl
  have OWN : Hid ((W0.alloc (.cells #[] 5)).ownsRow W0.heap.size 5 1 (.slice (some ⟨W0.heap.size, 0, none⟩) 0 0) 0 []) := hide (World.ownsRow_lit (base := W0.heap.size) (e := 5) (size := 1) W0 #[] 0 (Nat.le_refl _) (by unfold maxLen; omega) rfl)
  have SRC : Hid (∀ j u, (bV (lst s))[j]? = some u → (W0.alloc (.cells #[] 5)).cell? ((⟨w.heap.size, 0, none⟩ : Addr).add j) = some u) := by
    intro j u hu
    unfold bV at hu
    rw [List.getElem?_map] at hu
    obtain ⟨y, hy, e⟩ := Option.map_eq_some_iff.1 hu
    rw [Addr.add_lit, Nat.zero_add, World.cell?_alloc_lt W0 _ ⟨w.heap.size, j, none⟩ (show w.heap.size < W0.heap.size by omega), ← e]
    exact HOLD.out j y hy
  have LEN : Hid ((bV (lst s)).length = N * 1) := by
    show _ = _
    rw [bV_length, HPL.out, Nat.mul_one]
  have HB0 := hide hb0
  have hN2 : N ≤ 300 := by omega
  have hconv' := hconv
  rw [← hN] at hconv'
  have hNs : s.size = N := hN.symm
  clear hb0 hconv hN
  go_enter Tryd.func40, Tryd.ntmps40
  go_wp2_with (first | (at_builtin; refine wpList_append_own_at _ rfl _ _ 22 rfl W0.heap.size 5 i0 (.int .u8 0) 1 1 Tryd.underlying22 hi hz0 hz1 hz2 rfl (by decide) (.slice (some ⟨W0.heap.size, 0, none⟩) 0 0) 0 [] (by rw [hW0]; rfl) (by rw [← hW0]; exact OWN.out) ⟨w.heap.size, 0, none⟩ N (grownCap w N 0 5) (bV (lst s)) rfl LEN.out (by rw [← hW0]; exact SRC.out) (bV_one _) (by unfold maxLen; omega) (by omega) (by rw [← hW0]; simp) ?_; intro v' w1 hown' hgrow _ hat; have HO1 := hide hown'; have HG1 := hide hgrow; have HAT := hide hat; clear hown' hgrow hat) | fail)
  obtain ⟨WA, hWA⟩ : ∃ WA, WA = W0.alloc (.cells #[] 5) := ⟨_, rfl⟩
  have hg1 := HG1.out
  rw [← hW0, ← hWA] at hg1
  have hzA : WA.heap.size = W0.heap.size + 1 := by rw [hWA]; simp
  have hb1 : Below W0.heap.size WA w1 := (Below.refl _ _).grown hg1 (by omega) (fun r e => by have e' : some W0.heap.size = some r := e; injection e' with e'; omega)
  have hbA : Below W0.heap.size W0 WA := by rw [hWA]; exact (Below.refl _ _).alloc (Nat.le_refl _) _
  have HOLD1 : Hid (∀ W, Below W0.heap.size w1 W → ∀ j (y : UInt8), (lst s)[j]? = some y → W.cell? ⟨w.heap.size, j, none⟩ = some (.int .u8 (y.toNat : Int))) := by
    intro W hW j y hy
    have h0 : w.heap.size < W0.heap.size := by omega
    exact ((hW.cell (p := ⟨w.heap.size, j, none⟩) h0).trans ((hb1.cell (p := ⟨w.heap.size, j, none⟩) h0).trans (hbA.cell (p := ⟨w.heap.size, j, none⟩) h0))).trans (HOLD.out j y hy)
  have HBW : Hid (Below w.heap.size w w1) := (HB0.out.trans ((hbA.trans hb1).mono (by omega)))
  have ho1 := HO1.out
  rw [Nat.zero_add, List.nil_append] at ho1
  obtain ⟨g, cp, rfl, hgz⟩ : ∃ g cp, v' = .slice (some ⟨g, 0, none⟩) N cp ∧ W0.heap.size ≤ g := by
    rcases ho1.2 with ⟨h0, _⟩ | ⟨g, cp, cur, h1, h2, _⟩
    · rcases HAT.out with h | h <;> (rw [h0] at h; cases h)
    · exact ⟨g, cp, h1, h2⟩
  have hc1 : CellsAt w1 g (bV (lst s)) := CellsAt.of_owns ho1
  have HC1 : Hid (CellsAt w1 g (bV (bAt c (lst s) N))) := by show CellsAt _ _ _; rw [← HPL.out, bAt_start]; exact hc1
  have HI1 : Hid (bInv c (lst s) N) := by show bInv _ _ _; rw [← HPL.out]; exact bInv_start _ _
  have hwg : w.heap.size < g := by omega
  have hgn : ¬ (w.heap.size = g) := by omega
  have HGZ := hide hgz
  have HWZ := hide (show w.heap.size ≤ W0.heap.size by omega)
  clear hg1 hb1 hbA hc1 ho1 hWA hW0 hzA hz0' HO1 HG1 HAT OWN SRC LEN HOLD HB0 hi hz0 hz1 hz2 hconv' hgz hs hNs
  obtain ⟨l, hl⟩ : ∃ l, l = lst s := ⟨_, rfl⟩
  rw [← hl] at HPL HC1 HI1 HOLD1
  have HL := hide hl
  have HRT : Hid (cbOk c l = true → bkV c s = ofL (bk1 c l) ∧ cbOk c (lst s) = true) := by
    intro hb
    unfold bkV
    rw [← hl, hb]
    exact ⟨rfl, rfl⟩
  have HRF : Hid (cbOk c l = false → bkV c s = ⟨#[]⟩ ∧ cbOk c (lst s) = false) := by
    intro hb
    unfold bkV
    rw [← hl, hb]
    exact ⟨rfl, rfl⟩
  clear hl
  go_loopw [8] (fun i wr => ∃ m : Nat, m ≤ N ∧ i = .int .i64 ((m : Int) - 1) ∧ Hid (CellsAt wr g (bV (bAt c l m))) ∧ Hid (bInv c l m) ∧ Hid (Below W0.heap.size w1 wr)) (fun i _ => (Go.RowKit.intOf i + 1).toNat)
  case atStart => exact ⟨N, Nat.le_refl _, by go_num, HC1, HI1, Below.refl _ _⟩
  case round =>
    obtain ⟨m, hm, rfl, HC, HI, HB⟩ := hrel
    by_cases h0 : m = 0
    · subst h0
      have hok := bInv_done HI.out
      obtain ⟨r1, r2⟩ := HRT.out hok
      have hcf := HC.out
      rw [bAt_done] at hcf
      obtain ⟨q, hq⟩ : ∃ q, q = (cMv c l.reverse 0).reverse := ⟨_, rfl⟩
      have hll : q.length = N := by rw [hq, List.length_reverse, cMv_length, List.length_reverse, HPL.out]
      rw [← hq] at hcf
      have hconv : (convert 22 9 (.slice (some ⟨g, 0, none⟩) q.length cp)).run Tryd.prog wr = .ok (.string ⟨q.toArray⟩) wr :=
        run_convert_bytes_back (P := Tryd.prog) wr 22 9 5 ⟨g, 0, none⟩ cp q Tryd.underlying22 Tryd.underlying5 Tryd.underlying9 (fun j hj => by
          rw [Addr.add_lit, Nat.zero_add]
          exact (hcf j _ (bV_get (List.getElem?_eq_getElem hj))).1)
      rw [hll] at hconv
      have CT := hide (l1TidyC_any (ofL q) wr (by rw [ofL_size, hll]; unfold maxLen; omega))
      have HFIN : Hid (tidyC (ofL q) = ofL (bk1 c l)) := by
        show _ = _
        rw [tidyC_ofL, lst_ofL, hq]
        rfl
      rw [HFIN.out] at CT
      have HBF := hide (HBW.out.trans (HB.out.mono HWZ.out))
      have hof : (⟨q.toArray⟩ : ByteArray) = ofL q := rfl
      rw [hof] at hconv
      obtain ⟨t, ht⟩ : ∃ t, t = ofL q := ⟨_, rfl⟩
      rw [← ht] at hconv CT
      have HR1 := hide r1
      have HR2 := hide r2
      clear hcf hq hll ht hof r1 r2
      go_wp2_with fail
      refine CT.out.mono ?_
      rintro e w' ⟨rfl, rfl⟩
      go_wp2_with fail
      go_ret2
      exact ⟨by rw [HR1.out, HR2.out]; rfl, HBF.out⟩
    · obtain ⟨j, rfl⟩ : ∃ j, m = j + 1 := ⟨m - 1, by omega⟩
      have ej : ((j + 1 : Nat) : Int) - 1 = (j : Int) := by omega
      rw [ej]
      have hjN : j < N := by omega
      obtain ⟨y, hy⟩ : ∃ y, l[j]? = some y := ⟨_, List.getElem?_eq_getElem (by rw [HPL.out]; exact hjN)⟩
      have o1 := HOLD1.out wr HB.out j y hy
      have i0 : (0 : Int) ≤ (j : Int) := by omega
      have i1 : (j : Int) < (N : Int) := by omega
      clear ej h0
      by_cases hyc : y = c
      · subst hyc
        have t1 : ((y.toNat : Int) != (y.toNat : Int)) = false := by simp
        have HY := hide hy
        clear hy
        go_wp2
        go_loop [9] (fun i => ∃ e : Nat, i = .int .i64 ((e : Int) - 1) ∧ e ≤ j ∧ Hid (∀ q, e ≤ q → q < j → (bAt y l (j + 1))[q]? ≠ some 48)) (fun i => (Go.RowKit.intOf i + 1).toNat)
        case atStart => exact ⟨j, by go_num, Nat.le_refl _, fun q h1 h2 => by omega⟩
        case round =>
          obtain ⟨e, rfl, he, HN⟩ := hrel
          by_cases h0 : e = 0
          · subst h0
            obtain ⟨r1, r2⟩ := HRF.out (bAt_fail hc HY.out (fun q hq => HN.out q (Nat.zero_le _) hq))
            have HR1 := hide r1
            have HR2 := hide r2
            have HBF := hide (HBW.out.trans (HB.out.mono HWZ.out))
            clear r1 r2
            go_wp2
            go_ret2
            exact ⟨by rw [HR1.out, HR2.out]; rfl, HBF.out⟩
          · obtain ⟨q, rfl⟩ : ∃ q, e = q + 1 := ⟨e - 1, by omega⟩
            have eq : ((q + 1 : Nat) : Int) - 1 = (q : Int) := by omega
            rw [eq]
            obtain ⟨z, hz⟩ : ∃ z, (bAt y l (j + 1))[q]? = some z := ⟨_, List.getElem?_eq_getElem (by rw [bAt_length, HPL.out]; omega)⟩
            have o2 := (HC.out q _ (bV_get hz)).1
            have j0 : (0 : Int) ≤ (q : Int) := by omega
            have j1 : (q : Int) < (N : Int) := by omega
            clear eq h0
            by_cases hz48 : z = 48
            · subst hz48
              have o3 := HOLD1.out wr HB.out q 48 (bAt_old hc HY.out (by omega) hz)
              obtain ⟨k1, k2⟩ := bAt_ball hc HY.out (show q < j by omega) hz (fun p h1 h2 => HN.out p (by omega) h2)
              have HNX := hide k1
              have HI2 := hide (k2 HI.out)
              have f1 := (HC.out q _ (bV_get hz)).2
              obtain ⟨q0, hq0⟩ : ∃ x, (bAt y l (j + 1))[j]? = some x := ⟨_, List.getElem?_eq_getElem (by rw [bAt_length, HPL.out]; omega)⟩
              have o4 := (HC.out j _ (bV_get hq0)).1
              have f2 := (HC.out j _ (bV_get hq0)).2
              have n1 : ((48 : UInt8).toNat : Int) = 48 := rfl
              have n2 : ((48 : Int) == (y.toNat : Int)) = false := by
                have : ¬ (48 : Int) = (y.toNat : Int) := fun h => hc (UInt8.toNat_inj.1 (by show y.toNat = 48; omega))
                simpa using this
              have hke : ¬ (j = q) := by omega
              have hq1 : q + 1 ≤ j := he
              have HC2 : Hid (CellsAt ((wr.setCell ⟨g, q, none⟩ (.int .u8 (y.toNat : Int))).setCell ⟨g, j, none⟩ (.int .u8 48)) g (bV (bAt y l j))) := by
                show CellsAt _ _ _
                rw [HNX.out, bV_set, bV_set]
                exact (HC.out.set q (by rw [bV_length, bAt_length, HPL.out]; omega) _).set j (by rw [List.length_set, bV_length, bAt_length, HPL.out]; omega) _
              rw [n1] at o2 o3
              clear hz hq0 n1 k1 k2
              go_wp2
              exact ⟨⟨j, by omega, by go_num, HC2, HI2, (HB.out.setCell (p := ⟨g, q, none⟩) HGZ.out _).setCell (p := ⟨g, j, none⟩) HGZ.out _⟩, by simp [Go.RowKit.intOf]⟩
            · have n1 : ((z.toNat : Int) != 48) = true := by
                have : ¬ (z.toNat : Int) = 48 := fun h => hz48 (UInt8.toNat_inj.1 (by show z.toNat = 48; omega))
                simpa using this
              have HN2 : Hid (∀ p, q ≤ p → p < j → (bAt y l (j + 1))[p]? ≠ some 48) := by
                intro p h1 h2
                by_cases h : p = q
                · subst h; rw [hz]; simpa using hz48
                · exact HN.out p (by omega) h2
              clear hz
              go_wp2
              go_round
              case rel => exact ⟨q, by go_num, by omega, HN2⟩
              case measure => simp [Go.RowKit.intOf]
      · have t1 : ((y.toNat : Int) != (c.toNat : Int)) = true := by
          have : ¬ (y.toNat : Int) = (c.toNat : Int) := fun h => hyc (UInt8.toNat_inj.1 (by omega))
          simpa using this
        obtain ⟨k1, k2⟩ := bAt_other hy hyc
        have HNX := hide k1
        have HI2 := hide (k2 HI.out)
        clear hy k1 k2
        go_wp2
        go_roundw
        case rel => exact ⟨j, by omega, by go_num, by rw [HNX.out]; exact HC, HI2, HB⟩
        case measure => simp [Go.RowKit.intOf]
end Go.Proofs.YtppelmceojodhaaDoor
