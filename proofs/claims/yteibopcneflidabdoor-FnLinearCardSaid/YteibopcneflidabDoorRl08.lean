/- TEXTS ReadRow, Levels. -/
import Derived.Test.YteibopcneflidabDoorRl01
import Derived.Test.YteibopcneflidabDoorRl02
/- THE WALKS of readRow and of its method tidy. -/
namespace Go.Proofs.YteibopcneflidabDoor
open Go.RowKit

theorem ret_slice {a : Option Addr} {n m c : Nat} (h : n = m) : Ending.returned (.slice a n c) = .returned (.slice a m c) := by rw [h]

set_option maxHeartbeats 400000 in
theorem tidy_g (x : Option Addr) (g n cap : Nat) (l : List Bool) (w : World) (hx : 0 < n → x = some ⟨g, 0, none⟩) (hl : l.length = n) (hc : CellsAt w g (l.map .bool)) (hn : n ≤ cap) (hm : cap ≤ maxLen) :
    Calls Tryd.prog 34 #[.slice x n cap] w fun e w' => e = .returned (.slice x (tl l) cap) ∧ w = w' := by
  unfold maxLen at hm
  have HL := hide hl
  have HC := hide hc
  clear hl hc
  go_enter Tryd.func34, Tryd.ntmps34
  go_wp2
  go_loop [3] (fun i => ∃ k : Nat, k ≤ n ∧ i = .int .i64 k ∧ Hid (tl (l.take k) = tl l)) (fun i => (intOf i).toNat)
  case atStart => exact ⟨n, Nat.le_refl _, rfl, by rw [List.take_of_length_le (by rw [HL.out]; exact Nat.le_refl _)]; rfl⟩
  case round =>
    obtain ⟨k, hk, rfl, HT⟩ := hrel
    by_cases hk0 : k = 0
    · subst hk0
      go_wp2
      go_ret
      exact ⟨ret_slice (by rw [← HT.out]; rfl), rfl⟩
    · obtain ⟨j, rfl⟩ : ∃ j, k = j + 1 := ⟨k - 1, by omega⟩
      have hj : j < l.length := by rw [HL.out]; omega
      obtain rfl := hx (by omega)
      cases hb : l[j]? with
      | none => rw [List.getElem?_eq_none_iff] at hb; omega
      | some b =>
        have hcell : w.cell? ⟨g, j, none⟩ = some (.bool b) := (HC.out j (.bool b) (by simp [hb])).1
        have HB := hide hb
        have HJ := hide hj
        clear hb hj
        cases b
        · go_wp2
          go_round
          case rel => exact ⟨j, by omega, rfl, (tl_take_pred l j HJ.out HB.out).symm.trans HT.out⟩
          case measure => simp [intOf]
        · go_wp2
          go_ret
          exact ⟨ret_slice (by rw [← HT.out, tl_take_stop l j HJ.out HB.out]), rfl⟩

theorem tidy_any (g n cap : Nat) (l : List Bool) (w : World) (hl : l.length = n) (hc : CellsAt w g (l.map .bool)) (hn : n ≤ cap) (hm : cap ≤ maxLen) :
    Calls Tryd.prog 34 #[.slice (some ⟨g, 0, none⟩) n cap] w fun e w' => e = .returned (.slice (some ⟨g, 0, none⟩) (tl l) cap) ∧ w = w' :=
  tidy_g _ g n cap l w (fun _ => rfl) hl hc hn hm

theorem infoB : (Tryd.prog.info? 4).map (fun i => (i.zero, i.size, i.bytes)) = some (some (.bool false), 1, 1) := by kernel_rfl

theorem vld_len (s : ByteArray) (h : vld s = true) : s.size ≤ 120 := by
  unfold vld at h; simp at h; exact h.2

set_option maxHeartbeats 400000 in
theorem readRow_no (s : ByteArray) (w : World) (hs : s.size ≤ maxLen) (hv : vld s = false) :
    Calls Tryd.prog 26 #[.string s] w fun e w' => e = .returned (.tuple #[.slice none 0 0, .bool false]) ∧ w = w' := by
  go_enter Tryd.func26, Tryd.ntmps26
  go_wp2_with (go_at_call 40; refine (implRowValid_any _ _ hs).mono ?_; rintro e w' ⟨rfl, rfl⟩)
  go_ret2
  exact ⟨rfl, rfl⟩

set_option maxHeartbeats 400000 in
theorem readRow_yes (s : ByteArray) (w : World) (hv : vld s = true) :
    Calls Tryd.prog 26 #[.string s] w fun e w' => e = .returned (.tuple #[.slice (some ⟨w.heap.size, 0, none⟩) (tl (bits s)) s.size, .bool true]) ∧
      Below w.heap.size w w' ∧ CellsAt w' w.heap.size ((bits s).map .bool) ∧ w.heap.size < w'.heap.size := by
  have h120 := vld_len s hv
  have hs : s.size ≤ maxLen := by unfold maxLen; omega
  obtain ⟨i0, hi, hz0, hz1, hz2⟩ := info_parts infoB
  go_enter Tryd.func26, Tryd.ntmps26
  go_wp2_with (first | (go_at_call 40; refine (implRowValid_any _ _ hs).mono ?_; rintro e w' ⟨rfl, rfl⟩) | (at_make; refine wpList_make_full _ rfl _ _ 49 rfl w.heap.size 4 i0 (.bool false) 1 Tryd.underlying49 hi hz0 hz1 _ _ _ _ s.size rfl rfl rfl rfl ?b2 ?b3 ?b4 ?_; rotate_right; intro w1 hown hgrow))
  case b2 => rw [hz2]; omega
  case b3 => exact hs
  case b4 => exact Nat.le_refl _
  rw [madeB] at hown
  have hb1 : Below w.heap.size w w1 := (Below.refl _ _).grown hgrow (Nat.le_refl _) (fun k e => by cases e)
  have hz : w.heap.size < w1.heap.size := (hown.lt _ rfl).2
  have hc1 := CellsAt.of_owns hown
  clear hown hgrow
  obtain ⟨g, hg⟩ : ∃ g, w.heap.size = g := ⟨_, rfl⟩
  rw [hg] at hb1 hz hc1 ⊢
  have HG := hide hg
  clear hg
  go_loopw [14] (fun i wr => ∃ k : Nat, k ≤ s.size ∧ i = .int .i64 k ∧ Below g w wr ∧ g < wr.heap.size ∧ ∃ xs : List Bool, Hid (xs.length = s.size) ∧ Hid (xs.take k = (bits s).take k) ∧ CellsAt wr g (xs.map .bool)) (fun i _ => s.size - (intOf i).toNat)
  case atStart => exact ⟨0, Nat.zero_le _, rfl, hb1, hz, List.replicate s.size false, by simp [Hid], rfl, hc1⟩
  case round =>
    obtain ⟨k, hk, rfl, hbr, hzr, xs, HX, HT, hcr⟩ := hrel
    have HC := hide hcr
    clear hcr hc1 hb1 hz
    by_cases hlt : k < s.size
    · obtain ⟨x, hx⟩ : ∃ x, xs[k]? = some x := ⟨_, List.getElem?_eq_getElem (by rw [HX.out]; omega)⟩
      obtain ⟨hcell, hfr⟩ := HC.out k (.bool x) (by simp [hx])
      have HE := hide hx
      clear hx
      go_wp2
      go_roundw
      case rel =>
        refine ⟨k + 1, by omega, by go_num, hbr.setCell (Nat.le_refl _) _, by simpa [World.setCell] using hzr, xs.set k (s[k] == 49), by simp [Hid, HX.out], ?_, ?_⟩
        · exact bits_step s xs k hlt HX.out HT.out
        · have := HC.out.set k (by simp [HX.out, hlt]) (.bool (s[k] == 49))
          rw [← bit_int, List.map_set]; exact this
      case measure => simp [intOf]; omega
    · have hxs : xs = bits s := by
        have := HT.out
        rw [List.take_of_length_le (by rw [HX.out]; omega), List.take_of_length_le (by rw [length_bits]; omega)] at this
        exact this
      subst hxs
      go_wp2_with (go_at_call 34; refine (tidy_any _ _ _ _ _ HX.out HC.out (Nat.le_refl _) hs).mono ?_; rintro e w' ⟨rfl, rfl⟩)
      go_ret2
      have hg := HG.out
      subst hg
      exact ⟨rfl, hbr, HC.out, hzr⟩
end Go.Proofs.YteibopcneflidabDoor

/- THE WALKS of the levels, of the model and of the program. -/
namespace Go.Proofs.YteibopcneflidabDoor
open Go.RowKit

/-- the number of empty boxes among the first i ones, less that of balls -/
def levAt (l : List Bool) (i : Nat) : Int := (i : Int) - 2 * (nballs (l.take i) : Int)
def lev (l : List Bool) : List Int := (List.range (l.length + 1)).map (levAt l)
theorem levAt_succ (l : List Bool) (k : Nat) (b : Bool) (h : l[k]? = some b) : levAt l (k + 1) = levAt l k + if b then -1 else 1 := by
  unfold levAt; rw [nballs_snoc l k b h]; cases b <;> simp <;> omega
theorem levAt_zero (l : List Bool) : levAt l 0 = 0 := by simp [levAt, nballs]
theorem levAt_bd (l : List Bool) (k : Nat) : -(k : Int) ≤ levAt l k ∧ levAt l k ≤ k := by
  have := nballs_le l k; unfold levAt; omega
theorem lev_length (l : List Bool) : (lev l).length = l.length + 1 := by simp [lev]
theorem lev_getElem (l : List Bool) (k : Nat) (h : k ≤ l.length) : (lev l)[k]? = some (levAt l k) := by simp [lev, show k < l.length + 1 by omega]
theorem lev_take_succ (l : List Bool) (k : Nat) (h : k ≤ l.length) : (lev l).take (k + 1) = (lev l).take k ++ [levAt l k] := by
  have hb : k < (lev l).length := by rw [lev_length]; omega
  have e := lev_getElem l k h
  rw [List.getElem?_eq_getElem hb] at e
  simp only [Option.some.injEq] at e
  rw [List.take_succ_eq_append_getElem hb, e]

theorem infoI : (Tryd.prog.info? 3).map (fun i => (i.zero, i.size, i.bytes)) = some (some (.int .i64 0), 1, 8) := by kernel_rfl

theorem cell_one_new' (w : World) (v : Value) (t : TypeId) : ∀ j u, [v][j]? = some u → (w.alloc (.cells #[v] t)).cell? ((⟨w.heap.size, 0, none⟩ : Addr).add j) = some u := cell_one_new _ _ _

set_option maxHeartbeats 400000 in
theorem l1Levels_any (s : ByteArray) (w : World) (hs : s.size ≤ 120) :
    Calls Tryd.prog 53 #[.string s] w fun e w' => ∃ v, e = .returned v ∧ IntsV w.heap.size w' v (lev (bits s)) ∧ Below w.heap.size w w' := by
  obtain ⟨i0, hi, hz0, hz1, hz2⟩ := info_parts infoI
  obtain ⟨B, hB⟩ : ∃ B, w.heap.size = B := ⟨_, rfl⟩
  have h0 := World.ownsRow_lit (base := B) (e := 3) (size := 1) w #[.int .i64 0] 1 (by omega) (by unfold maxLen; omega) rfl
  have hb0 := (Below.refl B w).alloc (by omega) (.cells #[.int .i64 0] 3)
  rw [hB] at h0 ⊢
  have HB := hide hB
  clear hB
  have H0 := hide h0
  clear h0
  go_enter Tryd.func53, Tryd.ntmps53
  go_wp2
  go_loopw [3, 4, 5] (fun v n i wr => ∃ k : Nat, k ≤ s.size ∧ i = .int .i64 k ∧ n = .int .i64 (levAt (bits s) k) ∧ Hid (wr.ownsRow B 3 1 v (k + 1) (((lev (bits s)).take (k + 1)).map (.int .i64))) ∧ Hid (Below B w wr) ∧ B ≤ wr.heap.size) (fun _ _ i _ => s.size - (intOf i).toNat)
  case atStart =>
    refine ⟨0, Nat.zero_le _, rfl, by rw [levAt_zero], ?_, hb0, by simp [← HB.out]⟩
    rw [lev_take_succ _ _ (Nat.zero_le _), levAt_zero]; rw [HB.out]; exact H0.out
  case round =>
    obtain ⟨k, hk, rfl, rfl, HO, HBW, hsz⟩ := hrel
    have hl := levAt_bd (bits s) k
    by_cases hlt : k < s.size
    · have HG := hide (bits_getElem s k hlt)
      rw [bit_int] at HG
      obtain ⟨m, hm⟩ : ∃ m, m = levAt (bits s) k := ⟨_, rfl⟩
      have HM := hide hm
      rw [← hm] at hl ⊢
      clear hm
      have hone : ∀ x : Int, ∀ u ∈ [Value.int .i64 x], u.oneCell' = true := by intro x u hu; simp at hu; subst hu; rfl
      have H1 := hide hone
      clear hone
      cases hb : ((s[k].toNat : Int) == 49)
      · have HS := hide ((levAt_succ (bits s) k _ HG.out).trans (by rw [hb, ← HM.out]; rfl : _ = m + 1))
        clear HG
        go_wp2_with (at_builtin; refine wpList_append_own _ rfl _ _ 28 rfl B 3 i0 (.int .i64 0) 1 8 Tryd.underlying28 hi hz0 hz1 hz2 rfl (by decide) _ _ _ rfl (HO.out.alloc _) ⟨wr.heap.size, 0, none⟩ 1 1 [.int .i64 (m + 1)] rfl rfl (cell_one_new _ _ _) (H1.out _) (by unfold maxLen; omega) (by omega) (by simp; omega) ?_; intro v' w1 hown' hgrow _)
        go_roundw
        case rel =>
          refine ⟨k + 1, by omega, by go_num, by rw [HS.out], ?_, ?_, ?_⟩
          · rw [lev_take_succ _ _ (by rw [length_bits]; omega), HS.out, List.map_append]; exact hown'
          · exact (HBW.out.alloc hsz _).grown hgrow (by simp; omega) (fun b e => (HO.out.lt b e).1)
          · have := hgrow.size; simp at this; omega
        case measure => simp [intOf]; omega
      · have HS := hide ((levAt_succ (bits s) k _ HG.out).trans (by rw [hb, ← HM.out]; show m + -1 = m + 1 - 2; omega : _ = m + 1 - 2))
        clear HG
        go_wp2_with (at_builtin; refine wpList_append_own _ rfl _ _ 28 rfl B 3 i0 (.int .i64 0) 1 8 Tryd.underlying28 hi hz0 hz1 hz2 rfl (by decide) _ _ _ rfl (HO.out.alloc _) ⟨wr.heap.size, 0, none⟩ 1 1 [.int .i64 (m + 1 - 2)] rfl rfl (cell_one_new _ _ _) (H1.out _) (by unfold maxLen; omega) (by omega) (by simp; omega) ?_; intro v' w1 hown' hgrow _)
        go_roundw
        case rel =>
          refine ⟨k + 1, by omega, by go_num, by rw [HS.out], ?_, ?_, ?_⟩
          · rw [lev_take_succ _ _ (by rw [length_bits]; omega), HS.out, List.map_append]; exact hown'
          · exact (HBW.out.alloc hsz _).grown hgrow (by simp; omega) (fun b e => (HO.out.lt b e).1)
          · have := hgrow.size; simp at this; omega
        case measure => simp [intOf]; omega
    · go_wp2
      go_ret
      refine ⟨_, rfl, IntsV.of_owns (e := 3) (n := k + 1) ?_, HBW.out⟩
      have := HO.out
      rw [List.take_of_length_le (by rw [lev_length, length_bits]; omega)] at this
      exact this

theorem lev_step (l : List Bool) (xs : List Int) (k : Nat) (h : k < l.length) (hx : xs.length = l.length + 1) (ht : xs.take (k + 1) = (lev l).take (k + 1)) (y : Int) (hy : levAt l (k + 1) = y) :
    (xs.set (k + 1) y).take (k + 1 + 1) = (lev l).take (k + 1 + 1) := by
  rw [lev_take_succ l (k + 1) (by omega), List.take_succ_eq_append_getElem (by simp; omega), List.take_set_of_le (Nat.le_refl _), ht, hy]; simp

set_option maxHeartbeats 400000 in
theorem levels_any (g n cap : Nat) (l : List Bool) (w : World) (hl : l.length = n) (hc : CellsAt w g (l.map .bool)) (hn : n ≤ cap) (hm : n ≤ 120) :
    Calls Tryd.prog 59 #[.slice (some ⟨g, 0, none⟩) n cap] w fun e w' => ∃ v, e = .returned v ∧ IntsV w.heap.size w' v (lev l) ∧ Below w.heap.size w w' := by
  obtain ⟨i0, hi, hz0, hz1, hz2⟩ := info_parts infoI
  have HL := hide hl
  have HC := hide hc
  clear hl hc
  go_enter Tryd.func59, Tryd.ntmps59
  go_wp2_with (at_make; refine wpList_make_full _ rfl _ _ 28 rfl w.heap.size 3 i0 (.int .i64 0) 1 Tryd.underlying28 hi hz0 hz1 _ _ _ _ (n + 1) rfl rfl ?b0 ?b1 ?b2 ?b3 ?b4 ?_; rotate_right; intro w1 hown hgrow)
  case b0 => omega
  case b1 => omega
  case b2 => rw [hz2]; omega
  case b3 => unfold maxLen; omega
  case b4 => exact Nat.le_refl _
  rw [madeI] at hown
  have hb1 : Below w.heap.size w w1 := (Below.refl _ _).grown hgrow (Nat.le_refl _) (fun k e => by cases e)
  have hz : w.heap.size < w1.heap.size := (hown.lt _ rfl).2
  have hc1 := CellsAt.of_owns hown
  have HC1 := hide (HC.out.below' hb1 (Nat.le_refl _))
  have HLT := hide (fun h : 0 < (l.map Value.bool).length => HC.out.lt h)
  clear hown hgrow
  obtain ⟨q, hq⟩ : ∃ q, w.heap.size = q := ⟨_, rfl⟩
  rw [hq] at hb1 hz hc1 HLT ⊢
  have HQ := hide hq
  clear hq
  go_loopw [12] (fun i wr => ∃ k : Nat, k ≤ n ∧ i = .int .i64 k ∧ Hid (Below q w wr) ∧ q < wr.heap.size ∧ Hid (CellsAt wr g (l.map .bool)) ∧ ∃ xs : List Int, Hid (xs.length = l.length + 1) ∧ Hid (xs.take (k + 1) = (lev l).take (k + 1)) ∧ Hid (CellsAt wr q (xs.map (.int .i64)))) (fun i _ => n - (intOf i).toNat)
  case atStart =>
    refine ⟨0, Nat.zero_le _, rfl, hb1, hz, HC1, List.replicate (n + 1) 0, by simp [Hid, HL.out], ?_, hc1⟩
    rw [lev_take_succ _ _ (Nat.zero_le _), levAt_zero]; simp [Hid]
  case round =>
    obtain ⟨k, hk, rfl, HBW, hsz, HR, xs, HX, HT, HI⟩ := hrel
    by_cases hlt : k < n
    · obtain ⟨b, hb⟩ : ∃ b, l[k]? = some b := ⟨_, List.getElem?_eq_getElem (by rw [HL.out]; exact hlt)⟩
      have hbl := levAt_bd l k
      have hcr : wr.cell? ⟨g, k, none⟩ = some (.bool b) := (HR.out k (.bool b) (by simp [hb])).1
      have hx0 : xs[k]? = some (levAt l k) := by
        have e := congrArg (fun t => t[k]?) HT.out
        simp only [List.getElem?_take, Nat.lt_succ_self, if_true] at e
        rw [e]; exact lev_getElem l k (by rw [HL.out]; omega)
      obtain ⟨y, hy⟩ : ∃ y, xs[k + 1]? = some y := ⟨_, List.getElem?_eq_getElem (by rw [HX.out, HL.out]; omega)⟩
      have hce := (HI.out k (.int .i64 (levAt l k)) (by simp [hx0])).1
      obtain ⟨hcs, hfs⟩ := HI.out (k + 1) (.int .i64 y) (by simp [hy])
      have HE := hide (levAt_succ l k b hb)
      clear hx0 hy hb
      obtain ⟨m, hm2⟩ : ∃ m, m = levAt l k := ⟨_, rfl⟩
      rw [← hm2] at hbl hce HE
      clear hm2
      cases b
      · go_wp2
        go_roundw
        case rel =>
          refine ⟨k + 1, by omega, by go_num, HBW.out.setCell (Nat.le_refl _) _, by simpa [World.setCell] using hsz, HR.out.far _ ?_ _, xs.set (k + 1) (m + 1), by simp [Hid, HX.out], ?_, ?_⟩
          · have := HLT.out (by simp [HL.out]; omega); simp; omega
          · exact lev_step l xs k (by rw [HL.out]; exact hlt) HX.out HT.out _ HE.out
          · have := HI.out.set (k + 1) (by simp [HX.out, HL.out]; omega) (.int .i64 (m + 1))
            rw [List.map_set]; exact this
        case measure => simp [intOf]; omega
      · go_wp2
        go_roundw
        case rel =>
          refine ⟨k + 1, by omega, by go_num, HBW.out.setCell (Nat.le_refl _) _, by simpa [World.setCell] using hsz, HR.out.far _ ?_ _, xs.set (k + 1) (m - 1), by simp [Hid, HX.out], ?_, ?_⟩
          · have := HLT.out (by simp [HL.out]; omega); simp; omega
          · exact lev_step l xs k (by rw [HL.out]; exact hlt) HX.out HT.out _ HE.out
          · have := HI.out.set (k + 1) (by simp [HX.out, HL.out]; omega) (.int .i64 (m - 1))
            rw [List.map_set]; exact this
        case measure => simp [intOf]; omega
    · obtain rfl : k = n := by omega
      have hxs : xs = lev l := by
        have := HT.out
        rw [List.take_of_length_le (by rw [HX.out, HL.out]; omega), List.take_of_length_le (by rw [lev_length, HL.out]; omega)] at this
        exact this
      subst hxs
      go_wp2
      go_ret
      have hq := HQ.out
      subst hq
      refine ⟨_, rfl, .inr ⟨w.heap.size, k + 1, ?_, by rw [lev_length, HL.out]; omega, Nat.le_refl _, hsz, HI.out⟩, HBW.out⟩
      rw [lev_length, HL.out]; rfl
end Go.Proofs.YteibopcneflidabDoor

/- THE WALKS of RowLevels, of the model and of the program, and of its exact law. -/
namespace Go.Proofs.YteibopcneflidabDoor
open Go.RowKit

/-- a row that is tidy -/
def levOk (s : ByteArray) : Bool := vld s && decide (tl (bits s) = s.size)
def levR (s : ByteArray) : List Int := if levOk s then lev (bits s) else []

theorem tidyS_self (s : ByteArray) (h : tl (bits s) = s.size) : tidyS s = s := by
  unfold tidyS; rw [h]; simp
theorem tidyS_size (s : ByteArray) : (tidyS s).size = tl (bits s) := by
  have := tl_le (bits s)
  rw [length_bits] at this
  unfold tidyS; simp; omega

set_option maxHeartbeats 400000 in
theorem specRowLevels_any (s : ByteArray) (w : World) (hs : s.size ≤ maxLen) :
    Calls Tryd.prog 31 #[.string s] w fun e w' => ∃ v, e = .returned (.tuple #[v, .bool (levOk s)]) ∧ IntsV w.heap.size w' v (levR s) ∧ Below w.heap.size w w' := by
  cases hv : vld s
  · have hk : levOk s = false := by simp [levOk, hv]
    have hr : levR s = [] := by simp [levR, hk]
    rw [hk, hr]
    clear hk hr
    go_enter Tryd.func31, Tryd.ntmps31
    go_wp2_with (go_at_call 52; refine (specRowValid_any _ _ hs).mono ?_; rintro e w' ⟨rfl, rfl⟩)
    go_ret2
    exact ⟨_, rfl, .inl ⟨_, _, rfl, rfl⟩, (Below.refl _ _).alloc (Nat.le_refl _) _⟩
  · have hg := hide (vld_sgn s hv)
    have h120 := vld_le s hv
    by_cases ht : tl (bits s) = s.size
    · have hk : levOk s = true := by simp [levOk, hv, ht]
      have hr : levR s = lev (bits s) := by simp [levR, hk]
      rw [hk, hr]
      have HT := hide (tidyS_self s ht)
      clear hk hr ht
      have c1 := fun w => (l1Tidy_any s w hs hg.out).mono (R' := fun e w' => e = .returned (.string s) ∧ w = w') (by rintro e w' ⟨rfl, h⟩; rw [HT.out]; exact ⟨rfl, h⟩)
      have C1 := hide c1
      clear c1
      go_enter Tryd.func31, Tryd.ntmps31
      go_wp2_with (first | (go_at_call 52; refine (specRowValid_any _ _ hs).mono ?_; rintro e w' ⟨rfl, rfl⟩) | (go_at_call 25; refine (C1.out _).mono ?_; rintro e w' ⟨rfl, rfl⟩) | (go_at_call 53; refine (l1Levels_any _ _ h120).mono ?_; rintro e w' ⟨v, rfl, hi, hb⟩))
      go_ret2
      exact ⟨_, rfl, hi, hb⟩
    · have hk : levOk s = false := by simp [levOk, ht]
      have hr : levR s = [] := by simp [levR, hk]
      rw [hk, hr]
      have HS := tidyS_size s
      have hne : ((tidyS s).toList == s.toList) = false := by
        rw [ByteArray.toList_eq, ByteArray.toList_eq]
        exact beq_eq_false_iff_ne.2 (fun e => ht (by rw [← HS]; have := congrArg List.length e; simpa using this))
      clear hk hr HS
      go_enter Tryd.func31, Tryd.ntmps31
      go_wp2_with (first | (go_at_call 52; refine (specRowValid_any _ _ hs).mono ?_; rintro e w' ⟨rfl, rfl⟩) | (go_at_call 25; refine (l1Tidy_any _ _ hs hg.out).mono ?_; rintro e w' ⟨rfl, rfl⟩))
      go_ret2
      exact ⟨_, rfl, .inl ⟨_, _, rfl, rfl⟩, (Below.refl _ _).alloc (Nat.le_refl _) _⟩

set_option maxHeartbeats 400000 in
theorem implRowLevels_any (s : ByteArray) (w : World) (hs : s.size ≤ maxLen) :
    Calls Tryd.prog 41 #[.string s] w fun e w' => ∃ v, e = .returned (.tuple #[v, .bool (levOk s)]) ∧ IntsV w.heap.size w' v (levR s) ∧ Below w.heap.size w w' := by
  have hs' := hs
  unfold maxLen at hs'
  cases hv : vld s
  · have hk : levOk s = false := by simp [levOk, hv]
    have hr : levR s = [] := by simp [levR, hk]
    rw [hk, hr]
    clear hk hr
    go_enter Tryd.func41, Tryd.ntmps41
    go_wp2_with (go_at_call 26; refine (readRow_no _ _ hs hv).mono ?_; rintro e w' ⟨rfl, rfl⟩)
    go_ret2
    exact ⟨_, rfl, .inl ⟨_, _, rfl, rfl⟩, Below.refl _ _⟩
  · have h120 := vld_le s hv
    have hle := tl_le (bits s)
    rw [length_bits] at hle
    by_cases ht : tl (bits s) = s.size
    · have hk : levOk s = true := by simp [levOk, hv, ht]
      have hr : levR s = lev (bits s) := by simp [levR, hk]
      rw [hk, hr]
      have c1 := fun w => readRow_yes s w hv
      rw [ht] at c1
      have C1 := hide c1
      clear c1 hk hr ht hle
      go_enter Tryd.func41, Tryd.ntmps41
      go_wp2_with (first | (go_at_call 26; refine (C1.out _).mono ?_; rintro e w1 ⟨rfl, hb1, hc1, hz1⟩) | (go_at_call 59; refine (levels_any _ _ _ (bits s) _ (length_bits s) hc1 (Nat.le_refl _) h120).mono ?_; rintro e w2 ⟨v, rfl, hi, hb⟩))
      go_ret2
      exact ⟨_, rfl, hi.mono hb1.size, hb1.trans (hb.mono hb1.size)⟩
    · have hk : levOk s = false := by simp [levOk, ht]
      have hr : levR s = [] := by simp [levR, hk]
      rw [hk, hr]
      obtain ⟨t, hte⟩ : ∃ t, t = tl (bits s) := ⟨_, rfl⟩
      have c1 := fun w => readRow_yes s w hv
      rw [← hte] at c1 hle ht
      have C1 := hide c1
      have hne : ((t : Int) != (s.size : Int)) = true := by simp; omega
      clear c1 hk hr ht hte
      go_enter Tryd.func41, Tryd.ntmps41
      go_wp2_with (go_at_call 26; refine (C1.out _).mono ?_; rintro e w1 ⟨rfl, hb1, hc1, hz1⟩)
      go_ret2
      exact ⟨_, rfl, .inl ⟨_, _, rfl, rfl⟩, hb1⟩

theorem levR_len (s : ByteArray) : (levR s).length ≤ 121 := by
  unfold levR
  cases h : levOk s
  · simp
  · have : vld s = true := by unfold levOk at h; simp at h; exact h.1
    have := vld_le s this
    simp [lev_length, length_bits]; omega

end Go.Proofs.YteibopcneflidabDoor
