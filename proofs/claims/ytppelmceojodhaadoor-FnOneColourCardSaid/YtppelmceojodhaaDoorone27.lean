/- TEXTS ICol7, ICol8, ICol. -/
import Derived.Test.YtppelmceojodhaaDoorone22
import Derived.Test.YtppelmceojodhaaDoorone13
import Derived.Test.YtppelmceojodhaaDoorone14
import Derived.Test.YtppelmceojodhaaDoorone26
/- THE WALKS of the program's ColourCounts and ColourPlain. -/
namespace Go.Proofs.YtppelmceojodhaaDoor
open Go.RowKit Go.Lib

theorem cc_nil (W : World) (u : TypeId) (v : Value) : (binOp .neq 44 (.iface u v) .nilIface).run Tryd.prog W = .ok (.bool true) W := by kernel_rfl
theorem cc_nil0 (W : World) : (binOp .neq 44 .nilIface .nilIface).run Tryd.prog W = .ok (.bool false) W := by kernel_rfl
theorem cv_ball {x : UInt8} (h3 : sg3 x = true) (h : x ≠ 48) : ∃ u, cv x = .iface u (.agg #[]) := by
  rcases (sg3_iff x).1 h3 with e | e | e | e
  · exact absurd e h
  · exact ⟨_, by rw [e]; rfl⟩
  · exact ⟨_, by rw [e]; rfl⟩
  · exact ⟨_, by rw [e]; rfl⟩
/-- a ball counted -/
theorem ccT_ball {l : List UInt8} {k : Nat} {x : UInt8} (h : l[k]? = some x) (h3 : sg3 x = true) (h48 : x ≠ 48) :
    ∃ (j : Nat) (v : Int), (x.toNat : Int) - 48 - 1 = (j : Int) ∧ j < 3 ∧ (ccT (l.take k))[j]? = some v ∧ 0 ≤ v ∧ v ≤ (k : Int) ∧ ccT (l.take (k + 1)) = (ccT (l.take k)).set j (v + 1) := by
  have hb : ∀ d : UInt8, (0 : Int) ≤ ((l.take k).count d : Int) ∧ ((l.take k).count d : Int) ≤ (k : Int) := by
    intro d
    have := List.count_le_length (a := d) (l := l.take k)
    rw [List.length_take] at this
    omega
  rcases (sg3_iff x).1 h3 with e | e | e | e
  · exact absurd e h48
  · rw [e] at h
    exact ⟨0, _, by rw [e]; rfl, by omega, rfl, (hb 49).1, (hb 49).2, ccT_one h⟩
  · rw [e] at h
    exact ⟨1, _, by rw [e]; rfl, by omega, rfl, (hb 50).1, (hb 50).2, ccT_two h⟩
  · rw [e] at h
    exact ⟨2, _, by rw [e]; rfl, by omega, rfl, (hb 51).1, (hb 51).2, ccT_three h⟩

set_option maxRecDepth 100000 in
set_option maxHeartbeats 2000000 in
theorem implColourCounts_any (s : ByteArray) (w : World) (hs : s.size ≤ maxLen) :
    Calls Tryd.prog 10 #[.string s] w fun e w' => ∃ v, e = .returned (.tuple #[v, .bool (cIn s)]) ∧ IntsV w.heap.size w' v (ccL s) ∧ Below w.heap.size w w' := by
  cases h1 : cIn s
  · have CR := hide (fun w => readColours_no s w hs h1)
    have e1 : ccL s = [] := by unfold ccL; rw [h1]; rfl
    rw [e1]
    clear e1 h1 hs
    go_enter Tryd.func10, Tryd.ntmps10
    go_wp2_with (go_at_call 25; refine (CR.out _).mono ?_; rintro e w' ⟨rfl, rfl⟩)
    go_ret2
    exact ⟨_, rfl, .inl ⟨_, _, rfl, rfl⟩, Below.refl _ _⟩
  · have CR := hide (fun w => readColours_yes s w h1)
    obtain ⟨hsg, h120⟩ := (cIn_iff s).1 h1
    obtain ⟨i0, hi, hz0, hz1, hz2⟩ := info_parts infoI64
    have HSG := hide hsg
    have CN := hide (fun (x : UInt8) (h : sg3 x = true) (w : World) => numberOf_any x w h)
    have e1 : ccL s = ccT (lst s) := by unfold ccL; rw [h1]; rfl
    rw [e1]
    clear e1 h1 hs hsg
    go_enter Tryd.func10, Tryd.ntmps10
    go_wp2_with fail
    refine (CR.out _).mono ?_
    rintro e w1 ⟨rfl, hb1, hc1, hz1'⟩
    have HB1 := hide hb1
    have HC1 := hide hc1
    obtain ⟨q, hq⟩ : ∃ q, q = w1.heap.size := ⟨_, rfl⟩
    have hq0 : w.heap.size < q := by rw [hq]; exact hz1'
    have HQ := hide hq
    have HQ0 := hide hq0
    clear hb1 hc1 hz1' hq hq0
    go_wp2_with (at_make; refine wpList_make_full _ rfl _ _ 27 rfl w1.heap.size 3 i0 (.int .i64 0) 1 Tryd.underlying27 hi hz0 hz1 _ _ _ _ 3 rfl rfl rfl rfl ?b2 ?b3 ?b4 ?_; rotate_right; intro w2 hown hgrow; have HO := hide hown; have HG := hide hgrow; clear hown hgrow)
    case b2 => rw [hz2]; decide
    case b3 => unfold maxLen; omega
    case b4 => exact Nat.le_refl _
    have ho := HO.out
    have hgl : w1.heap.size < w2.heap.size := (ho.lt _ rfl).2
    rw [madeI] at ho
    have hc2 := CellsAt.of_owns ho
    have hb2 : Below w1.heap.size w1 w2 := (Below.refl _ _).grown HG.out (Nat.le_refl _) (fun k e => by cases e)
    rw [← HQ.out] at hc2 hb2 hgl ⊢
    have HCI : Hid (CellsAt w2 q ((ccT ((lst s).take 0)).map (.int .i64))) := hc2
    have HCR : Hid (∀ W, Below q w2 W → CellsAt W w.heap.size (cV (lst s))) := by
      intro W hW
      exact (HC1.out.below hb2 HQ0.out).below hW HQ0.out
    have HB2 : Hid (Below w.heap.size w w2) := HB1.out.trans (hb2.mono (Nat.le_of_lt HQ0.out))
    clear ho hi hz0 hz1 hz2 HG HO hc2 hb2
    go_loopw [19] (fun iv wr => ∃ k : Nat, k ≤ s.size ∧ iv = .int .i64 (k : Int) ∧ Hid (CellsAt wr q ((ccT ((lst s).take k)).map (.int .i64))) ∧ Hid (Below q w2 wr)) (fun iv _ => s.size - (Go.RowKit.intOf iv).toNat)
    case atStart => exact ⟨0, Nat.zero_le _, rfl, HCI, Below.refl _ _⟩
    case round =>
      obtain ⟨k, hk, rfl, HC, HB⟩ := hrel
      by_cases hlt : k < s.size
      · have hy := lst_get s k hlt
        obtain ⟨x, hx⟩ : ∃ x, x = s[k] := ⟨_, rfl⟩
        rw [← hx] at hy
        have h3 := HSG.out x (List.mem_of_getElem? hy)
        have hcell := (HCR.out wr HB.out k _ (cV_get hy)).1
        by_cases h48 : x = 48
        · have HNX := hide (ccT_none (l := lst s) (k := k) (by rw [hy, h48]))
          have hcv : cv x = .nilIface := by rw [h48]; rfl
          rw [hcv] at hcell
          have q1 := cc_nil0 wr
          clear h48 hy h3 hx hcv
          go_wp2
          go_roundw
          case rel => exact ⟨k + 1, by omega, by go_num, by rw [HNX.out]; exact HC, HB⟩
          case measure => simp [Go.RowKit.intOf]; omega
        · obtain ⟨u, hu⟩ := cv_ball h3 h48
          have NX := hide (CN.out x h3)
          rw [hu] at NX hcell
          have q1 := cc_nil wr u (.agg #[])
          obtain ⟨j, v, j1, j2, j3, v0, v1, j4⟩ := ccT_ball hy h3 h48
          have HNX := hide j4
          have hc := HC.out j (.int .i64 v) (by rw [List.getElem?_map, j3]; rfl)
          have c1 := hc.1
          have f1 := hc.2
          obtain ⟨nx, hnx⟩ : ∃ nx : Int, nx = (x.toNat : Int) - 48 := ⟨_, rfl⟩
          rw [← hnx] at NX j1
          have HC2 : Hid (CellsAt (wr.setCell ⟨q, j, none⟩ (.int .i64 (v + 1))) q ((ccT ((lst s).take (k + 1))).map (.int .i64))) := by
            show CellsAt _ _ _
            rw [HNX.out, List.map_set]
            exact HC.out.set j (by simp [ccT]; omega) _
          have hnj : nx = (j : Int) + 1 := by omega
          subst hnj
          have w1 : IntKind.i64.wrap ((j : Int) + 1 - 1) = (j : Int) := by rw [IntKind.wrap_i64]; omega
          have i1 : (j : Int) < 3 := by omega
          have HBS := hide (HB.out.setCell (p := ⟨q, j, none⟩) (Nat.le_refl _) (.int .i64 (v + 1)))
          clear h48 hy h3 hx hu j1 j3 j4 hc hnx
          go_wp2_with (go_at_call 32; refine (NX.out _).mono ?_; rintro e w' ⟨rfl, rfl⟩)
          go_roundw
          case rel => exact ⟨k + 1, by omega, by go_num, HC2, HBS⟩
          case measure => simp [Go.RowKit.intOf]; omega
      · have hkn : k = s.size := by omega
        have HE : Hid ((lst s).take k = lst s) := List.take_of_length_le (by rw [lst_size]; omega)
        have hcf := HC.out
        rw [HE.out] at hcf
        have HF : Hid (IntsV w.heap.size wr (.slice (some ⟨q, 0, none⟩) 3 3) (ccT (lst s))) := .inr ⟨q, 3, rfl, Nat.le_refl _, Nat.le_of_lt HQ0.out, Nat.lt_of_lt_of_le hgl HB.out.size, hcf⟩
        have HBF := hide (HB2.out.trans (HB.out.mono (Nat.le_of_lt HQ0.out)))
        clear hcf hkn
        go_wp2
        go_ret2
        exact ⟨_, rfl, HF.out, HBF.out⟩
end Go.Proofs.YtppelmceojodhaaDoor

/- THE WALK of the program's ColourPlain. -/
namespace Go.Proofs.YtppelmceojodhaaDoor
open Go.RowKit

theorem plB_take {c : Int} {l : List UInt8} {xs : List Bool} {k : Nat} {y : UInt8} (hy : l[k]? = some y) (hx : xs.length = l.length) (ht : xs.take k = (plL c l).take k) : (xs.set k (plB c y)).take (k + 1) = (plL c l).take (k + 1) := by
  obtain ⟨hk, e⟩ := List.getElem?_eq_some_iff.1 hy
  have hl : (plL c l).length = l.length := by simp [plL]
  rw [List.take_succ_eq_append_getElem (by simp; omega), List.take_succ_eq_append_getElem (by omega), List.take_set_of_le (Nat.le_refl _), ht]
  simp [plL, e]

end Go.Proofs.YtppelmceojodhaaDoor

/- THE PROGRAM's CHAPTER OF COLOURS: its six functions, each told in the model's words. -/
