/- THE WALKS of the model's ColourCounts and ColourPlain. -/
import Derived.Test.YtppelmceojodhabSCol4
import Derived.Test.YtppelmceojodhabInts
namespace Go.Proofs.Ytppelmceojodhab
open Go.RowKit Go.Lib

/-- ColourCounts -/
def ccT (l : List UInt8) : List Int := [(l.count 49 : Int), (l.count 50 : Int), (l.count 51 : Int)]
def ccL (s : ByteArray) : List Int := if cIn s then ccT (lst s) else []
theorem ccL_in {s : ByteArray} (h : cIn s = true) : ccL s = ccT (lst s) := by unfold ccL; rw [if_pos h]
theorem ccL_length (s : ByteArray) : (ccL s).length ≤ 3 := by
  unfold ccL
  split
  · exact Nat.le_refl _
  · exact Nat.zero_le _
theorem count_next {l : List UInt8} {k : Nat} {y : UInt8} (h : l[k]? = some y) (d : UInt8) : (l.take (k + 1)).count d = (l.take k).count d + if y = d then 1 else 0 := by
  rw [(take_one h).1, List.count_append, List.count_cons, List.count_nil]
  simp
theorem ccT_none {l : List UInt8} {k : Nat} (h : l[k]? = some 48) : ccT (l.take (k + 1)) = ccT (l.take k) := by
  unfold ccT
  rw [count_next h, count_next h, count_next h]
  rfl
theorem ccT_one {l : List UInt8} {k : Nat} (h : l[k]? = some 49) : ccT (l.take (k + 1)) = (ccT (l.take k)).set 0 (((l.take k).count 49 : Int) + 1) := by
  unfold ccT
  rw [count_next h, count_next h, count_next h]
  rfl
theorem ccT_two {l : List UInt8} {k : Nat} (h : l[k]? = some 50) : ccT (l.take (k + 1)) = (ccT (l.take k)).set 1 (((l.take k).count 50 : Int) + 1) := by
  unfold ccT
  rw [count_next h, count_next h, count_next h]
  rfl
theorem ccT_three {l : List UInt8} {k : Nat} (h : l[k]? = some 51) : ccT (l.take (k + 1)) = (ccT (l.take k)).set 2 (((l.take k).count 51 : Int) + 1) := by
  unfold ccT
  rw [count_next h, count_next h, count_next h]
  rfl
theorem infoI64 : (Try.prog.info? 3).map (fun i => (i.zero, i.size, i.bytes)) = some (some (.int .i64 0), 1, 8) := by kernel_rfl

set_option maxRecDepth 100000 in
set_option maxHeartbeats 2000000 in
theorem specColourCounts_any (s : ByteArray) (w : World) (hs : s.size ≤ maxLen) :
    Calls Try.prog 8 #[.string s] w fun e w' => ∃ v, e = .returned (.tuple #[v, .bool (cIn s)]) ∧ IntsV w.heap.size w' v (ccL s) ∧ Below w.heap.size w w' := by
  have CI := hide (fun w => specColourIn_any s w hs)
  obtain ⟨i0, hi, hz0, hz1, hz2⟩ := info_parts infoI64
  cases h1 : cIn s
  · rw [h1] at CI
    have e1 : ccL s = [] := by unfold ccL; rw [h1]; rfl
    rw [e1]
    clear e1 h1 hs
    go_enter Try.func8, Try.ntmps8
    go_wp2_with (go_at_call 6; refine (CI.out _).mono ?_; rintro e w' ⟨rfl, rfl⟩)
    go_ret2
    exact ⟨_, rfl, .inl ⟨_, _, rfl, rfl⟩, (Below.refl _ w).alloc (Nat.le_refl _) _⟩
  · rw [h1] at CI
    obtain ⟨k1, h120⟩ := (cIn_iff s).1 h1
    have HS := hide k1
    have e1 : ccL s = ccT (lst s) := by unfold ccL; rw [h1]; rfl
    rw [e1]
    clear e1 h1 hs k1
    go_enter Try.func8, Try.ntmps8
    go_wp2_with (first
      | (go_at_call 6; refine (CI.out _).mono ?_; rintro e w' ⟨rfl, rfl⟩)
      | (at_make; refine wpList_make_full _ rfl _ _ 23 rfl w.heap.size 3 i0 (.int .i64 0) 1 Try.underlying23 hi hz0 hz1 _ _ _ _ 3 rfl rfl rfl rfl ?b2 ?b3 ?b4 ?_; rotate_right; intro w1 hown hgrow; have HO := hide hown; have HG := hide hgrow; clear hown hgrow))
    case b2 => rw [hz2]; decide
    case b3 => unfold maxLen; omega
    case b4 => exact Nat.le_refl _
    have ho := HO.out
    have hgl : w.heap.size < w1.heap.size := (ho.lt _ rfl).2
    rw [madeI] at ho
    have HC1 : Hid (CellsAt w1 w.heap.size ((ccT ((lst s).take 0)).map (.int .i64))) := CellsAt.of_owns ho
    have HB1 : Hid (Below w.heap.size w w1) := (Below.refl _ _).grown HG.out (Nat.le_refl _) (fun k e => by cases e)
    clear ho hi hz0 hz1 hz2 HG HO
    go_loopw [5] (fun i wr => ∃ k : Nat, k ≤ s.size ∧ i = .int .i64 (k : Int) ∧ Hid (CellsAt wr w.heap.size ((ccT ((lst s).take k)).map (.int .i64))) ∧ Hid (Below w.heap.size w wr) ∧ w.heap.size < wr.heap.size) (fun i _ => s.size - (intOf i).toNat)
    case atStart => exact ⟨0, Nat.zero_le _, rfl, HC1, HB1, hgl⟩
    case round =>
      obtain ⟨k, hk, rfl, HC, HB, hz⟩ := hrel
      by_cases hlt : k < s.size
      · have hy := lst_get s k hlt
        have h3 := HS.out s[k] (List.mem_of_getElem? hy)
        by_cases h48 : s[k] = 48
        · have hv : (s[k].toNat : Int) = 48 := by rw [h48]; rfl
          have HNX := hide (ccT_none (l := lst s) (k := k) (by rw [hy, h48]))
          have t1 : decide ((48 : Int) < (s[k].toNat : Int)) = false := by rw [hv]; rfl
          clear h48 hy h3
          go_wp2
          go_roundw
          case rel => exact ⟨k + 1, by omega, by go_num, by rw [HNX.out]; exact HC, HB, hz⟩
          case measure => simp [intOf]; omega
        · rcases (sg3_iff _).1 h3 with h | h49 | h49 | h49
          · exact absurd h h48
          · have hv : (s[k].toNat : Int) = 49 := by rw [h49]; rfl
            have HNX := hide (ccT_one (l := lst s) (k := k) (by rw [hy, h49]))
            obtain ⟨v, hvv⟩ : ∃ v : Int, v = (((lst s).take k).count 49 : Int) := ⟨_, rfl⟩
            have hc := HC.out 0 (.int .i64 v) (by rw [hvv]; rfl)
            have c1 := hc.1
            have f1 := hc.2
            have b1 : 0 ≤ v ∧ v ≤ 120 := by
              rw [hvv]
              have := List.count_le_length (a := (49 : UInt8)) (l := (lst s).take k)
              rw [List.length_take] at this
              omega
            rw [← hvv] at HNX
            obtain ⟨v0, v1⟩ := b1
            have HC2 : Hid (CellsAt (wr.setCell ⟨w.heap.size, 0, none⟩ (.int .i64 (v + 1))) w.heap.size ((ccT ((lst s).take (k + 1))).map (.int .i64))) := by
              show CellsAt _ _ _
              rw [HNX.out, List.map_set]
              exact HC.out.set 0 (by simp [ccT]) _
            have t1 : decide ((48 : Int) < (s[k].toNat : Int)) = true := by rw [hv]; rfl
            clear h49 hy hvv hc
            go_wp2
            go_roundw
            case rel => exact ⟨k + 1, by omega, by go_num, HC2, HB.out.setCell (p := ⟨w.heap.size, 0, none⟩) (Nat.le_refl _) _, by simpa [World.setCell] using hz⟩
            case measure => simp [intOf]; omega
          · have hv : (s[k].toNat : Int) = 50 := by rw [h49]; rfl
            have HNX := hide (ccT_two (l := lst s) (k := k) (by rw [hy, h49]))
            obtain ⟨v, hvv⟩ : ∃ v : Int, v = (((lst s).take k).count 50 : Int) := ⟨_, rfl⟩
            have hc := HC.out 1 (.int .i64 v) (by rw [hvv]; rfl)
            have c1 := hc.1
            have f1 := hc.2
            have b1 : 0 ≤ v ∧ v ≤ 120 := by
              rw [hvv]
              have := List.count_le_length (a := (50 : UInt8)) (l := (lst s).take k)
              rw [List.length_take] at this
              omega
            rw [← hvv] at HNX
            obtain ⟨v0, v1⟩ := b1
            have HC2 : Hid (CellsAt (wr.setCell ⟨w.heap.size, 1, none⟩ (.int .i64 (v + 1))) w.heap.size ((ccT ((lst s).take (k + 1))).map (.int .i64))) := by
              show CellsAt _ _ _
              rw [HNX.out, List.map_set]
              exact HC.out.set 1 (by simp [ccT]) _
            have t1 : decide ((48 : Int) < (s[k].toNat : Int)) = true := by rw [hv]; rfl
            clear h49 hy hvv hc
            go_wp2
            go_roundw
            case rel => exact ⟨k + 1, by omega, by go_num, HC2, HB.out.setCell (p := ⟨w.heap.size, 1, none⟩) (Nat.le_refl _) _, by simpa [World.setCell] using hz⟩
            case measure => simp [intOf]; omega
          · have hv : (s[k].toNat : Int) = 51 := by rw [h49]; rfl
            have HNX := hide (ccT_three (l := lst s) (k := k) (by rw [hy, h49]))
            obtain ⟨v, hvv⟩ : ∃ v : Int, v = (((lst s).take k).count 51 : Int) := ⟨_, rfl⟩
            have hc := HC.out 2 (.int .i64 v) (by rw [hvv]; rfl)
            have c1 := hc.1
            have f1 := hc.2
            have b1 : 0 ≤ v ∧ v ≤ 120 := by
              rw [hvv]
              have := List.count_le_length (a := (51 : UInt8)) (l := (lst s).take k)
              rw [List.length_take] at this
              omega
            rw [← hvv] at HNX
            obtain ⟨v0, v1⟩ := b1
            have HC2 : Hid (CellsAt (wr.setCell ⟨w.heap.size, 2, none⟩ (.int .i64 (v + 1))) w.heap.size ((ccT ((lst s).take (k + 1))).map (.int .i64))) := by
              show CellsAt _ _ _
              rw [HNX.out, List.map_set]
              exact HC.out.set 2 (by simp [ccT]) _
            have t1 : decide ((48 : Int) < (s[k].toNat : Int)) = true := by rw [hv]; rfl
            clear h49 hy hvv hc
            go_wp2
            go_roundw
            case rel => exact ⟨k + 1, by omega, by go_num, HC2, HB.out.setCell (p := ⟨w.heap.size, 2, none⟩) (Nat.le_refl _) _, by simpa [World.setCell] using hz⟩
            case measure => simp [intOf]; omega
      · have hkn : k = s.size := by omega
        have HE : Hid ((lst s).take k = lst s) := List.take_of_length_le (by rw [lst_size]; omega)
        have hcf := HC.out
        rw [HE.out] at hcf
        have HF : Hid (IntsV w.heap.size wr (.slice (some ⟨w.heap.size, 0, none⟩) 3 3) (ccT (lst s))) := .inr ⟨w.heap.size, 3, rfl, Nat.le_refl _, Nat.le_refl _, hz, hcf⟩
        clear hcf
        go_wp2
        go_ret2
        exact ⟨_, rfl, HF.out, HB.out⟩
end Go.Proofs.Ytppelmceojodhab
