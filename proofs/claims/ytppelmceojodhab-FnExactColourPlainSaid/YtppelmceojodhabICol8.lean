/- THE WALK of the program's ColourPlain. -/
import Derived.Test.YtppelmceojodhabICol7
import Derived.Test.YtppelmceojodhabText
namespace Go.Proofs.Ytppelmceojodhab
open Go.RowKit

theorem plB_take {c : Int} {l : List UInt8} {xs : List Bool} {k : Nat} {y : UInt8} (hy : l[k]? = some y) (hx : xs.length = l.length) (ht : xs.take k = (plL c l).take k) : (xs.set k (plB c y)).take (k + 1) = (plL c l).take (k + 1) := by
  obtain ⟨hk, e⟩ := List.getElem?_eq_some_iff.1 hy
  have hl : (plL c l).length = l.length := by simp [plL]
  rw [List.take_succ_eq_append_getElem (by simp; omega), List.take_succ_eq_append_getElem (by omega), List.take_set_of_le (Nat.le_refl _), ht]
  simp [plL, e]

set_option maxRecDepth 100000 in
set_option maxHeartbeats 1000000 in
theorem implColourPlain_any (s : ByteArray) (c : Int) (w : World) (hs : s.size ≤ maxLen) :
    Calls Try.prog 14 #[.string s, .int .i64 c] w fun e w' => e = .returned (.tuple #[.string (cpS s c), .bool (cpOk s c)]) ∧ Below w.heap.size w w' := by
  cases h1 : cIn s
  · have CR := hide (fun w => readColours_no s w hs h1)
    have e1 : cpOk s c = false := by unfold cpOk; rw [h1]; rfl
    have e2 : cpS s c = ⟨#[]⟩ := by unfold cpS; rw [e1]; rfl
    rw [e1, e2]
    clear e1 e2 h1 hs
    go_enter Try.func14, Try.ntmps14
    go_wp2_with (go_at_call 15; refine (CR.out _).mono ?_; rintro e w' ⟨rfl, rfl⟩)
    go_ret2
    exact ⟨rfl, Below.refl _ _⟩
  · have CR := hide (fun w => readColours_yes s w h1)
    cases h2 : c3 c
    · have CO := hide (fun w => colourOf_no c w h2)
      have e1 : cpOk s c = false := by unfold cpOk; rw [h2, h1]; rfl
      have e2 : cpS s c = ⟨#[]⟩ := by unfold cpS; rw [e1]; rfl
      have q0 : ∀ W : World, (binOp .eql 36 .nilIface .nilIface).run Try.prog W = .ok (.bool true) W := fun _ => by kernel_rfl
      rw [e1, e2]
      clear e1 e2 h1 h2 hs
      go_enter Try.func14, Try.ntmps14
      go_wp2_with (first | (go_at_call 15; refine (CR.out _).mono ?_; rintro e w1 ⟨rfl, hb1, _, _⟩; have HB1 := hide hb1; clear hb1) | (go_at_call 19; refine (CO.out _).mono ?_; rintro e w' ⟨rfl, rfl⟩))
      go_ret2
      exact ⟨rfl, HB1.out⟩
    · have CO := hide (fun w => colourOf_c3 c w h2)
      obtain ⟨hsg, h120⟩ := (cIn_iff s).1 h1
      obtain ⟨u, hu⟩ := cv_ball (cCh_ne h2).2 (cCh_ne h2).1
      rw [hu] at CO
      have HSG := hide hsg
      have CN := hide (fun (x : UInt8) (h : sg3 x = true) (w : World) => numberOf_any x w h)
      have e1 : cpOk s c = true := by unfold cpOk; rw [h1, h2]; rfl
      have e2 : cpS s c = ofBits (cut (plL c (lst s))) := by unfold cpS; rw [e1]; rfl
      rw [e1, e2]
      obtain ⟨rs, hrs⟩ : ∃ rs, rs = ofBits (cut (plL c (lst s))) := ⟨_, rfl⟩
      rw [← hrs]
      have HRS := hide hrs
      have q1 : ∀ (W : World), (binOp .eql 36 (.iface u (.agg #[])) .nilIface).run Try.prog W = .ok (.bool false) W := fun _ => by kernel_rfl
      obtain ⟨i0, hi, hz0, hz1, hz2⟩ := info_parts infoB
      clear e1 e2 h1 h2 hs hsg hrs hu
      go_enter Try.func14, Try.ntmps14
      go_wp2_with fail
      refine (CR.out _).mono ?_
      rintro e w1 ⟨rfl, hb1, hc1, hz1'⟩
      have HB1 := hide hb1
      have HC1 := hide hc1
      obtain ⟨q, hq⟩ : ∃ q, q = w1.heap.size := ⟨_, rfl⟩
      have HQ := hide hq
      have HQ0 := hide (show w.heap.size < q by rw [hq]; exact hz1')
      clear hb1 hc1 hz1' hq
      go_wp2_with (first | (go_at_call 19; refine (CO.out _).mono ?_; rintro e w' ⟨rfl, rfl⟩) | (at_make; refine wpList_make_full _ rfl _ _ 42 rfl w1.heap.size 4 i0 (.bool false) 1 Try.underlying42 hi hz0 hz1 _ _ _ _ s.size rfl rfl rfl rfl ?b2 ?b3 ?b4 ?_; rotate_right; intro w2 hown hgrow; have HO := hide hown; have HG := hide hgrow; clear hown hgrow))
      case b2 => rw [hz2]; omega
      case b3 => unfold maxLen; omega
      case b4 => exact Nat.le_refl _
      have ho := HO.out
      have hgl : w1.heap.size < w2.heap.size := (ho.lt _ rfl).2
      rw [madeB] at ho
      have hc2 := CellsAt.of_owns ho
      have hb2 : Below w1.heap.size w1 w2 := (Below.refl _ _).grown HG.out (Nat.le_refl _) (fun k e => by cases e)
      rw [← HQ.out] at hc2 hb2 hgl ⊢
      have HCI := hide hc2
      have HCR : Hid (∀ W, Below q w2 W → CellsAt W w.heap.size (cV (lst s))) := by
        intro W hW
        exact (HC1.out.below hb2 HQ0.out).below hW HQ0.out
      have HB2 : Hid (Below w.heap.size w w2) := HB1.out.trans (hb2.mono (Nat.le_of_lt HQ0.out))
      clear ho hi hz0 hz1 hz2 HG HO hc2 hb2
      go_loopw [28] (fun iv wr => ∃ k : Nat, k ≤ s.size ∧ iv = .int .i64 (k : Int) ∧ Hid (Below q w2 wr) ∧ ∃ xs : List Bool, Hid (xs.length = (lst s).length) ∧ Hid (xs.take k = (plL c (lst s)).take k) ∧ Hid (CellsAt wr q (xs.map .bool))) (fun iv _ => s.size - (intOf iv).toNat)
      case atStart => exact ⟨0, Nat.zero_le _, rfl, Below.refl _ _, List.replicate s.size false, by show _ = _; rw [List.length_replicate, lst_size], rfl, HCI.out⟩
      case round =>
        obtain ⟨k, hk, rfl, HB, xs, HX, HT, HC⟩ := hrel
        by_cases hlt : k < s.size
        · have hy := lst_get s k hlt
          obtain ⟨x, hx⟩ : ∃ x, x = s[k] := ⟨_, rfl⟩
          rw [← hx] at hy
          have h3 := HSG.out x (List.mem_of_getElem? hy)
          have hcell := (HCR.out wr HB.out k _ (cV_get hy)).1
          have NX := hide (CN.out x h3)
          obtain ⟨vx, hvx⟩ : ∃ vx, vx = cv x := ⟨_, rfl⟩
          rw [← hvx] at hcell NX
          obtain ⟨b, hb⟩ : ∃ b, xs[k]? = some b := ⟨_, List.getElem?_eq_getElem (by rw [HX.out, lst_size]; exact hlt)⟩
          obtain ⟨o1, o2⟩ := HC.out k (.bool b) (by rw [List.getElem?_map, hb]; rfl)
          obtain ⟨nx, hnx⟩ : ∃ nx : Int, nx = (x.toNat : Int) - 48 := ⟨_, rfl⟩
          have HN := hide (plB_take hy HX.out HT.out)
          have hpb : plB c x = decide (c ≤ nx) := by unfold plB; rw [hnx]
          rw [hpb] at HN
          rw [← hnx] at NX
          have HC2 : Hid (CellsAt (wr.setCell ⟨q, k, none⟩ (.bool (decide (c ≤ nx)))) q ((xs.set k (decide (c ≤ nx))).map .bool)) := by
            show CellsAt _ _ _
            rw [List.map_set]
            exact HC.out.set k (by rw [List.length_map, HX.out, lst_size]; exact hlt) _
          have HBS := hide (HB.out.setCell (p := ⟨q, k, none⟩) (Nat.le_refl _) (.bool (decide (c ≤ nx))))
          have HXL : Hid ((xs.set k (decide (c ≤ nx))).length = (lst s).length) := by show _ = _; rw [List.length_set]; exact HX.out
          clear hy h3 hx hvx hb hnx hpb
          go_wp2_with (go_at_call 16; refine (NX.out _).mono ?_; rintro e w' ⟨rfl, rfl⟩)
          go_roundw
          case rel => exact ⟨k + 1, by omega, by go_num, HBS, _, HXL, HN, HC2⟩
          case measure => simp [intOf]; omega
        · have hxs : xs = plL c (lst s) := by
            have := HT.out
            rw [List.take_of_length_le (by rw [HX.out, lst_size]; omega), List.take_of_length_le (by simp [plL]; rw [lst_size]; omega)] at this
            exact this
          subst hxs
          have hl : (plL c (lst s)).length = s.size := by simp [plL, lst_size]
          have htl := tl_le (plL c (lst s))
          have CT := hide (text_any q s.size s.size (plL c (lst s)) wr hl HC.out (Nat.le_refl _) (by unfold maxLen; omega) (by omega))
          rw [← HRS.out] at CT
          clear hl htl
          have HZ := hide (HB2.out.trans (HB.out.mono (Nat.le_of_lt HQ0.out)))
          go_wp2_with fail
          refine CT.out.mono ?_
          rintro e w3 ⟨rfl, hb3⟩
          have HZ3 := hide (HZ.out.trans (hb3.mono HZ.out.size))
          clear hb3
          go_wp2_with fail
          go_ret2
          exact ⟨rfl, HZ3.out⟩
end Go.Proofs.Ytppelmceojodhab
