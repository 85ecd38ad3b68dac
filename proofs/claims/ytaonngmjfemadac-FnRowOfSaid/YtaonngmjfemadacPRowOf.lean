/- THE WALK of the law FnRowOf: a list and its reverse make one row, that has a ball for each number. -/
import Derived.Test.YtaonngmjfemadacRowOf2
import Derived.Test.YtaonngmjfemadacDrawOf
import Derived.Test.YtaonngmjfemadacOfR
import Derived.Test.YtaonngmjfemadacPBalls
import Derived.Test.YtaonngmjfemadacPShift
namespace Go.Proofs.Ytaonngmjfemadac
open Go.RowKit

theorem ofS_facts (l : List Int) (h : ofOk l = true) : vld (ofS l) = true ∧ nballs (bits (ofS l)) = l.length := by
  unfold ofOk at h
  obtain ⟨b, hb⟩ := Option.isSome_iff_exists.1 h
  rw [(ofS_some hb).1, bits_ofBits, nballs_cut, ofR_balls _ _ _ hb]
  refine ⟨vld_ofBits _ ?_, by simp [nballs, none120]⟩
  have := ofR_len _ _ _ hb
  simp only [none120, List.length_replicate] at this
  unfold cut; rw [List.length_take]; omega
theorem drop_back (l : List Int) (j : Nat) (y : Int) (h : l[j]? = some y) : (l.drop j).reverse = (l.drop (j + 1)).reverse ++ [y] := by
  rw [drop_at l j y h, List.reverse_cons]

set_option maxRecDepth 100000 in
set_option maxHeartbeats 2000000 in
theorem walkFnRowOf {w : World} (a : Option Addr) (len cap : Nat) (z : List Int) (hr : IsRow .u8 w a len cap z) :
    Calls Try.prog 8 #[.slice a len cap] w fun e w' => e = .returned (.bool true) ∧ Below w.heap.size w w' := by
  have hcap := hr.le
  have hmax := hr.max
  unfold maxLen at hmax
  by_cases hbig : 1048576 < len
  · go_enter Try.func8, Try.ntmps8
    go_wp2
    go_ret
    exact ⟨rfl, Below.refl _ _⟩
  · have D := hide (DrawRowOf_any a len cap z w (by omega) hcap hr.bytes)
    clear hr
    obtain ⟨i0, hi, hz0, hz1, hz2⟩ := info_parts infoI
    go_enter Try.func8, Try.ntmps8
    go_wp2_with fail
    refine D.out.mono ?_
    rintro e w1 ⟨v, l, rfl, hl8, hi1, hb1⟩
    have HK := hide (show ofOk l = true → _ from ofS_facts l)
    have HR := hide (ofS_reverse l)
    obtain ⟨a3, c3, rfl, h3⟩ := hi1.form
    have C1 := hide (implRowOf_any _ l w1 (by omega) hi1)
    have C0 := hide (fun w2 (h : IntsV w.heap.size w2 (.slice a3 l.length c3) l) => specRowOf_any _ l w2 (by omega) h)
    have HI := hide (fun w2 (h : Below w1.heap.size w1 w2) => hi1.below h (Nat.le_refl _))
    have H3 := hide h3
    clear hi1 h3
    have CR := hide (fun v w2 (h : IntsV 0 w2 v l.reverse) => implRowOf_any v l.reverse w2 (by rw [List.length_reverse]; omega) h)
    rw [HR.out.1, HR.out.2] at CR
    obtain ⟨n, hn⟩ : ∃ n, n = l.length := ⟨_, rfl⟩
    obtain ⟨s, hs⟩ : ∃ s, s = ofS l := ⟨_, rfl⟩
    obtain ⟨q, hq⟩ : ∃ q, q = ofOk l := ⟨_, rfl⟩
    rw [← hs, ← hq, ← hn] at HK
    rw [← hs, ← hq] at CR
    rw [← hs, ← hq, ← hn] at C1
    rw [← hs, ← hq, ← hn] at C0
    rw [← hn] at HI H3 hl8 ⊢
    have HN := hide hn
    clear hn hs hq HR D
    go_wp2_with fail
    refine C1.out.mono ?_
    rintro e w2 ⟨rfl, hb2⟩
    have HI2 := hide (HI.out _ hb2)
    have b2 := hb1.trans (hb2.mono hb1.size)
    go_wp2_with fail
    refine (C0.out _ HI2.out).mono ?_
    rintro e w3 ⟨rfl, hb3⟩
    have b3 := b2.trans (hb3.mono b2.size)
    have b23 := hb2.trans (hb3.mono hb2.size)
    cases q
    · go_wp2_with fail
      go_ret
      exact ⟨rfl, b3⟩
    · obtain ⟨hv, hnb⟩ := HK.out rfl
      have hsz := vld_len s hv
      have RB := hide (fun w => implRowBalls_any s w (by unfold maxLen; omega))
      rw [hv, hnb] at RB
      simp only [if_true] at RB
      have H3' := hide (fun h : 0 < n => by obtain ⟨g, e, hc⟩ := H3.out h; exact (⟨g, e, hc.lt (by simp [← HN.out]; omega), hc.below' b23 (Nat.le_refl _)⟩ : ∃ g, a3 = some ⟨g, 0, none⟩ ∧ g < w1.heap.size ∧ CellsAt w3 g (l.map (.int .i64))))
      obtain ⟨B, hB⟩ : ∃ B, B = w3.heap.size := ⟨_, rfl⟩
      have hw13 : w1.heap.size ≤ B := by rw [hB]; exact b23.size
      have H0 := hide (World.ownsRow_lit (base := B) (e := 3) (size := 1) w3 #[] 0 (by omega) (by unfold maxLen; omega) rfl)
      have HB0 := hide ((Below.refl B w3).alloc (by omega) (.cells #[] 3))
      have HB3 := hide b3
      have hwB : w.heap.size ≤ B := by rw [hB]; exact b3.size
      have HBB := hide hB
      clear HK HI HI2 H3 C1 C0 hb1 hb2 hb3 b2 b3 b23 hv hnb hB
      go_wp2_with fail
      go_loopw [8, 9] (fun v i wr => ∃ k : Nat, k ≤ n ∧ i = .int .i64 ((k : Int) - 1) ∧ Hid (wr.ownsRow B 3 1 v (n - k) (((l.drop k).reverse).map (.int .i64))) ∧ Hid (Below B w3 wr) ∧ B ≤ wr.heap.size) (fun _ i _ => (intOf i + 1).toNat)
      case atStart =>
        refine ⟨n, Nat.le_refl _, by go_num, ?_, HB0.out, by simp [← HBB.out]⟩
        rw [Nat.sub_self, HN.out, List.drop_length]; rw [HBB.out] at H0 ⊢; exact H0.out
      case round =>
        obtain ⟨k, hkn, rfl, HO, HB, hsB⟩ := hrel
        by_cases hk0 : 0 < k
        · obtain ⟨j, rfl⟩ : ∃ j, k = j + 1 := ⟨k - 1, by omega⟩
          obtain ⟨g, rfl, hg, hc⟩ := H3'.out (by omega)
          obtain ⟨y, hy⟩ : ∃ y, l[j]? = some y := ⟨_, List.getElem?_eq_getElem (by rw [← HN.out]; omega)⟩
          have HDB := hide (drop_back l j y hy)
          have cj := ((hc.below HB.out (by omega)) j (.int .i64 y) (by simp [hy])).1
          have H1 := hide (show ∀ x : Int, ∀ u ∈ [Value.int .i64 x], u.oneCell' = true by intro x u hu; simp at hu; subst hu; rfl)
          rw [show ((j + 1 : Nat) : Int) - 1 = (j : Int) by omega]
          have j0 : (0 : Int) ≤ (j : Int) := by omega
          have j1 : (j : Int) < (n : Int) := by omega
          clear hy hc
          go_wp2_with (at_builtin; refine wpList_append_own _ rfl _ _ 27 rfl B 3 i0 (.int .i64 0) 1 8 Try.underlying27 hi hz0 hz1 hz2 rfl (by decide) _ _ _ rfl (HO.out.alloc _) ⟨wr.heap.size, 0, none⟩ 1 1 [.int .i64 y] rfl rfl (cell_one_new _ _ _) (H1.out _) (by unfold maxLen; omega) (by omega) (by simp; omega) ?_; intro v' w4 hown' hgrow _)
          go_roundw
          case rel =>
            refine ⟨j, by omega, by go_num, ?_, ?_, ?_⟩
            · rw [HDB.out, List.map_append, show n - j = n - (j + 1) + 1 by omega]; exact hown'
            · exact (HB.out.alloc hsB _).grown hgrow (by simp; omega) (fun b e => (HO.out.lt b e).1)
            · have := hgrow.size; simp at this; omega
          case measure => simp [intOf]
        · obtain rfl : k = 0 := by omega
          have hown := HO.out
          rw [List.drop_zero, Nat.sub_zero] at hown
          have CR2 := hide (CR.out _ _ ((IntsV.of_owns hown).mono (Nat.zero_le _)))
          clear hown
          go_wp2_with fail
          refine CR2.out.mono ?_
          rintro e w5 ⟨rfl, hb5⟩
          have b5 := (HB3.out.trans (HB.out.mono hwB)).trans (hb5.mono (by omega))
          go_wp2_with (go_at_call 15; refine (RB.out _).mono ?_; rintro e w6 ⟨rfl, hb6⟩)
          go_ret
          exact ⟨rfl, b5.trans (hb6.mono b5.size)⟩
end Go.Proofs.Ytaonngmjfemadac
