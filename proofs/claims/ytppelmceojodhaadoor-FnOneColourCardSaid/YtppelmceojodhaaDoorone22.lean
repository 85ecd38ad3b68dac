/- TEXTS ICol1. -/
import Derived.Test.YtppelmceojodhaaDoorone21
import Derived.Test.YtppelmceojodhaaDoorone11
/- THE WALKS of the program's ColourIn, numberOf, colourOf and readColours. -/
namespace Go.Proofs.YtppelmceojodhaaDoor
open Go.RowKit Go.Lib

/-- a box of the program: what a sign stands for -/
def cv (x : UInt8) : Value :=
  if x = 49 then .iface 67 (.agg #[]) else if x = 50 then .iface 68 (.agg #[]) else if x = 51 then .iface 69 (.agg #[]) else .nilIface
theorem cv_48 : cv 48 = .nilIface := rfl
theorem cv_49 : cv 49 = .iface 67 (.agg #[]) := rfl
theorem cv_50 : cv 50 = .iface 68 (.agg #[]) := rfl
theorem cv_51 : cv 51 = .iface 69 (.agg #[]) := rfl
def cV (l : List UInt8) : List Value := l.map cv
theorem cV_length (l : List UInt8) : (cV l).length = l.length := by simp [cV]
theorem cV_get {l : List UInt8} {j : Nat} {x : UInt8} (h : l[j]? = some x) : (cV l)[j]? = some (cv x) := by unfold cV; rw [List.getElem?_map, h]; rfl
theorem cV_set (l : List UInt8) (j : Nat) (x : UInt8) : cV (l.set j x) = (cV l).set j (cv x) := by unfold cV; rw [List.map_set]
theorem cv_one (x : UInt8) : (cv x).oneCell' = true := by
  unfold cv
  split
  · rfl
  · split
    · rfl
    · split <;> rfl
theorem cV_one (l : List UInt8) : ∀ u ∈ cV l, u.oneCell' = true := by
  intro u hu
  obtain ⟨b, _, rfl⟩ := List.mem_map.1 hu
  exact cv_one b
theorem madeC (n : Nat) : (madeCells (Value.nilIface).cells (n * 1)).toList = cV (List.replicate n 48) := by
  rw [Nat.mul_one]
  show (madeCells #[Value.nilIface] n).toList = _
  rw [toList_madeCells_one]
  unfold cV
  rw [List.map_replicate]
  rfl
theorem cv_form (x : UInt8) : cv x = .nilIface ∨ ∃ u, cv x = .iface u (.agg #[]) := by
  unfold cv
  split
  · exact .inr ⟨_, rfl⟩
  · split
    · exact .inr ⟨_, rfl⟩
    · split
      · exact .inr ⟨_, rfl⟩
      · exact .inl rfl
theorem infoC : (Tryd.prog.info? 44).map (fun i => (i.zero, i.size, i.bytes)) = some (some .nilIface, 1, 16) := by kernel_rfl

/-! ### the type switch -/
theorem is1 (W : World) (v : Value) : (Instr.typeAssert (.iface 67 v) 44 67 true).run Tryd.prog W = .ok (.tuple #[v, .bool true]) W := by kernel_rfl
theorem is2 (W : World) (v : Value) : (Instr.typeAssert (.iface 68 v) 44 68 true).run Tryd.prog W = .ok (.tuple #[v, .bool true]) W := by kernel_rfl
theorem is3 (W : World) (v : Value) : (Instr.typeAssert (.iface 69 v) 44 69 true).run Tryd.prog W = .ok (.tuple #[v, .bool true]) W := by kernel_rfl
theorem no21 (W : World) (v : Value) : (Instr.typeAssert (.iface 68 v) 44 67 true).run Tryd.prog W = .ok (.tuple #[.agg #[], .bool false]) W := by kernel_rfl
theorem no31 (W : World) (v : Value) : (Instr.typeAssert (.iface 69 v) 44 67 true).run Tryd.prog W = .ok (.tuple #[.agg #[], .bool false]) W := by kernel_rfl
theorem no32 (W : World) (v : Value) : (Instr.typeAssert (.iface 69 v) 44 68 true).run Tryd.prog W = .ok (.tuple #[.agg #[], .bool false]) W := by kernel_rfl
theorem no01 (W : World) : (Instr.typeAssert .nilIface 44 67 true).run Tryd.prog W = .ok (.tuple #[.agg #[], .bool false]) W := by kernel_rfl
theorem no02 (W : World) : (Instr.typeAssert .nilIface 44 68 true).run Tryd.prog W = .ok (.tuple #[.agg #[], .bool false]) W := by kernel_rfl
theorem no03 (W : World) : (Instr.typeAssert .nilIface 44 69 true).run Tryd.prog W = .ok (.tuple #[.agg #[], .bool false]) W := by kernel_rfl

theorem numberOf_49 (w : World) : Calls Tryd.prog 32 #[cv 49] w fun e w' => e = .returned (.int .i64 1) ∧ w = w' := by
  rw [cv_49]
  have h1 := is1 w (.agg #[])
  go_enter Tryd.func32, Tryd.ntmps32
  go_wp2
  go_ret
  exact ⟨rfl, rfl⟩
theorem numberOf_50 (w : World) : Calls Tryd.prog 32 #[cv 50] w fun e w' => e = .returned (.int .i64 2) ∧ w = w' := by
  rw [cv_50]
  have h1 := no21 w (.agg #[])
  have h2 := is2 w (.agg #[])
  go_enter Tryd.func32, Tryd.ntmps32
  go_wp2
  go_ret
  exact ⟨rfl, rfl⟩
theorem numberOf_51 (w : World) : Calls Tryd.prog 32 #[cv 51] w fun e w' => e = .returned (.int .i64 3) ∧ w = w' := by
  rw [cv_51]
  have h1 := no31 w (.agg #[])
  have h2 := no32 w (.agg #[])
  have h3 := is3 w (.agg #[])
  go_enter Tryd.func32, Tryd.ntmps32
  go_wp2
  go_ret
  exact ⟨rfl, rfl⟩
theorem numberOf_48 (w : World) : Calls Tryd.prog 32 #[cv 48] w fun e w' => e = .returned (.int .i64 0) ∧ w = w' := by
  rw [cv_48]
  have h1 := no01 w
  have h2 := no02 w
  have h3 := no03 w
  go_enter Tryd.func32, Tryd.ntmps32
  go_wp2
  go_ret
  exact ⟨rfl, rfl⟩
theorem numberOf_any (x : UInt8) (w : World) (h : sg3 x = true) : Calls Tryd.prog 32 #[cv x] w fun e w' => e = .returned (.int .i64 ((x.toNat : Int) - 48)) ∧ w = w' := by
  rcases (sg3_iff x).1 h with rfl | rfl | rfl | rfl
  · exact numberOf_48 w
  · exact numberOf_49 w
  · exact numberOf_50 w
  · exact numberOf_51 w

theorem colourOf_0 (n : Int) (w : World) (h1 : n ≠ 1) (h2 : n ≠ 2) (h3 : n ≠ 3) : Calls Tryd.prog 26 #[.int .i64 n] w fun e w' => e = .returned .nilIface ∧ w = w' := by
  go_enter Tryd.func26, Tryd.ntmps26
  go_wp2
  go_ret
  exact ⟨rfl, rfl⟩
theorem colourOf_1 (w : World) : Calls Tryd.prog 26 #[.int .i64 1] w fun e w' => e = .returned (cv 49) ∧ w = w' := by
  go_enter Tryd.func26, Tryd.ntmps26
  go_wp2
  go_ret
  exact ⟨rfl, rfl⟩
theorem colourOf_2 (w : World) : Calls Tryd.prog 26 #[.int .i64 2] w fun e w' => e = .returned (cv 50) ∧ w = w' := by
  go_enter Tryd.func26, Tryd.ntmps26
  go_wp2
  go_ret
  exact ⟨rfl, rfl⟩
theorem colourOf_3 (w : World) : Calls Tryd.prog 26 #[.int .i64 3] w fun e w' => e = .returned (cv 51) ∧ w = w' := by
  go_enter Tryd.func26, Tryd.ntmps26
  go_wp2
  go_ret
  exact ⟨rfl, rfl⟩
theorem colourOf_sg (x : UInt8) (w : World) (h : sg3 x = true) : Calls Tryd.prog 26 #[.int .i64 ((x.toNat : Int) - 48)] w fun e w' => e = .returned (cv x) ∧ w = w' := by
  rcases (sg3_iff x).1 h with rfl | rfl | rfl | rfl
  · exact colourOf_0 0 w (by decide) (by decide) (by decide)
  · exact colourOf_1 w
  · exact colourOf_2 w
  · exact colourOf_3 w
theorem colourOf_c3 (c : Int) (w : World) (h : c3 c = true) : Calls Tryd.prog 26 #[.int .i64 c] w fun e w' => e = .returned (cv (cCh c)) ∧ w = w' := by
  rcases c3_cases h with rfl | rfl | rfl
  · exact colourOf_1 w
  · exact colourOf_2 w
  · exact colourOf_3 w
theorem colourOf_no (c : Int) (w : World) (h : c3 c = false) : Calls Tryd.prog 26 #[.int .i64 c] w fun e w' => e = .returned .nilIface ∧ w = w' := by
  refine colourOf_0 c w ?_ ?_ ?_ <;> (rintro rfl; cases h)

set_option maxHeartbeats 400000 in
theorem implColourIn_same (s : ByteArray) (w : World) (hs : s.size ≤ maxLen) :
    Calls Tryd.prog 43 #[.string s] w fun e w' => e = .returned (.bool (cIn s)) ∧ w = w' := by
  unfold maxLen at hs
  by_cases h120 : 120 < s.size
  · have HF : Hid (cIn s = false) := by
      show _ = _
      cases h : cIn s
      · rfl
      · have := ((cIn_iff s).1 h).2; omega
    go_enter Tryd.func43, Tryd.ntmps43
    go_wp2
    go_ret
    exact ⟨ret_bool HF.out.symm, rfl⟩
  go_enter Tryd.func43, Tryd.ntmps43
  go_wp2
  go_loop [9] (fun i => ∃ k : Nat, k ≤ s.size ∧ i = .int .i64 k ∧ Hid (∀ j (h : j < s.size), j < k → sg3 s[j] = true)) (fun i => s.size - (Go.RowKit.intOf i).toNat)
  case atStart => exact ⟨0, Nat.zero_le _, rfl, fun j _ h => by omega⟩
  case round =>
    obtain ⟨k, hk, rfl, HA⟩ := hrel
    by_cases hlt : k < s.size
    · by_cases hc : 48 ≤ (s[k].toNat : Int) ∧ (s[k].toNat : Int) ≤ 51
      · have HN : Hid (∀ j (h : j < s.size), j < k + 1 → sg3 s[j] = true) := by
          intro j h hj
          by_cases e : j = k
          · subst e; exact (sg3_int _).2 hc
          · exact HA.out j h (by omega)
        have h1 : decide ((s[k].toNat : Int) < 48) = false := by simp; omega
        have h2 : decide ((51 : Int) < (s[k].toNat : Int)) = false := by simp; omega
        clear hc
        go_wp2
        go_round
        case rel => exact ⟨k + 1, by omega, by go_num, HN.out⟩
        case measure => simp [Go.RowKit.intOf]; omega
      · have HC := hide (cIn_bad s k hlt hc)
        by_cases h3 : (s[k].toNat : Int) < 48
        · have h1 : decide ((s[k].toNat : Int) < 48) = true := by simpa using h3
          clear hc
          go_wp2
          go_ret
          exact ⟨ret_bool HC.out.symm, rfl⟩
        · have h1 : decide ((s[k].toNat : Int) < 48) = false := by simpa using h3
          have h4 : (51 : Int) < (s[k].toNat : Int) := by omega
          have h2 : decide ((51 : Int) < (s[k].toNat : Int)) = true := by simpa using h4
          clear hc
          go_wp2
          go_ret
          exact ⟨ret_bool HC.out.symm, rfl⟩
    · have HE : Hid (cIn s = true) := by
        show _ = _
        rw [cIn_good s (fun j h => HA.out j h (by omega))]
        simp; omega
      go_wp2
      go_ret
      exact ⟨ret_bool HE.out.symm, rfl⟩

theorem implColourIn_any (s : ByteArray) (w : World) (hs : s.size ≤ maxLen) :
    Calls Tryd.prog 43 #[.string s] w fun e w' => e = .returned (.bool (cIn s)) ∧ Below w.heap.size w w' :=
  (implColourIn_same s w hs).mono (by rintro e w' ⟨h, rfl⟩; exact ⟨h, Below.refl _ _⟩)

theorem readColours_no (s : ByteArray) (w : World) (hs : s.size ≤ maxLen) (hv : cIn s = false) :
    Calls Tryd.prog 25 #[.string s] w fun e w' => e = .returned (.tuple #[.slice none 0 0, .bool false]) ∧ w = w' := by
  have C := hide (fun w => implColourIn_same s w hs)
  rw [hv] at C
  clear hv
  go_enter Tryd.func25, Tryd.ntmps25
  go_wp2_with (go_at_call 43; refine (C.out _).mono ?_; rintro e w' ⟨rfl, rfl⟩)
  go_ret2
  exact ⟨rfl, rfl⟩

theorem set_take {l xs : List UInt8} {k : Nat} {y : UInt8} (hy : l[k]? = some y) (hx : xs.length = l.length) (ht : xs.take k = l.take k) : (xs.set k y).take (k + 1) = l.take (k + 1) := by
  obtain ⟨hk, e⟩ := List.getElem?_eq_some_iff.1 hy
  rw [List.take_succ_eq_append_getElem (by simp; omega), List.take_succ_eq_append_getElem hk, List.take_set_of_le (Nat.le_refl _), ht, e]
  simp

set_option maxRecDepth 100000 in
set_option maxHeartbeats 1000000 in
theorem readColours_yes (s : ByteArray) (w : World) (hv : cIn s = true) :
    Calls Tryd.prog 25 #[.string s] w fun e w' => e = .returned (.tuple #[.slice (some ⟨w.heap.size, 0, none⟩) s.size s.size, .bool true]) ∧
      Below w.heap.size w w' ∧ CellsAt w' w.heap.size (cV (lst s)) ∧ w.heap.size < w'.heap.size := by
  obtain ⟨hsg, h120⟩ := (cIn_iff s).1 hv
  have hs : s.size ≤ maxLen := by unfold maxLen; omega
  have HS := hide hsg
  clear hsg
  have C := hide (fun w => implColourIn_same s w hs)
  rw [hv] at C
  clear hv
  obtain ⟨i0, hi, hz0, hz1, hz2⟩ := info_parts infoC
  go_enter Tryd.func25, Tryd.ntmps25
  go_wp2_with (first | (go_at_call 43; refine (C.out _).mono ?_; rintro e w' ⟨rfl, rfl⟩) | (at_make; refine wpList_make_full _ rfl _ _ 40 rfl w.heap.size 44 i0 .nilIface 1 Tryd.underlying40 hi hz0 hz1 _ _ _ _ s.size rfl rfl rfl rfl ?b2 ?b3 ?b4 ?_; rotate_right; intro w1 hown hgrow))
  case b2 => rw [hz2]; omega
  case b3 => exact hs
  case b4 => exact Nat.le_refl _
  rw [madeC] at hown
  have hb1 : Below w.heap.size w w1 := (Below.refl _ _).grown hgrow (Nat.le_refl _) (fun k e => by cases e)
  have hz : w.heap.size < w1.heap.size := (hown.lt _ rfl).2
  have hc1 := CellsAt.of_owns hown
  clear hown hgrow hi hz0 hz1 hz2
  obtain ⟨g, hg⟩ : ∃ g, w.heap.size = g := ⟨_, rfl⟩
  rw [hg] at hb1 hz hc1 ⊢
  have HG := hide hg
  clear hg
  go_loopw [14] (fun i wr => ∃ k : Nat, k ≤ s.size ∧ i = .int .i64 k ∧ Below g w wr ∧ g < wr.heap.size ∧ ∃ xs : List UInt8, Hid (xs.length = (lst s).length) ∧ Hid (xs.take k = (lst s).take k) ∧ CellsAt wr g (cV xs)) (fun i _ => s.size - (Go.RowKit.intOf i).toNat)
  case atStart => exact ⟨0, Nat.zero_le _, rfl, hb1, hz, List.replicate s.size 48, by simp [Hid, lst_size], rfl, hc1⟩
  case round =>
    obtain ⟨k, hk, rfl, hbr, hzr, xs, HX, HT, hcr⟩ := hrel
    have HC := hide hcr
    clear hcr hc1 hb1 hz
    by_cases hlt : k < s.size
    · obtain ⟨x, hx⟩ : ∃ x, xs[k]? = some x := ⟨_, List.getElem?_eq_getElem (by rw [HX.out, lst_size]; omega)⟩
      obtain ⟨hcell, hfr⟩ := HC.out k _ (cV_get hx)
      have hy := lst_get s k hlt
      have h3 := HS.out s[k] (List.mem_of_getElem? hy)
      obtain ⟨v, hv⟩ : ∃ v : Int, v = (s[k].toNat : Int) - 48 := ⟨_, rfl⟩
      have CO : Hid (∀ w, Calls Tryd.prog 26 #[.int .i64 v] w fun e w' => e = .returned (cv s[k]) ∧ w = w') := by
        intro w
        rw [hv]
        exact colourOf_sg _ w h3
      have hw : IntKind.u8.wrap ((s[k].toNat : Int) - 48) = v := by
        rw [hv]
        rcases (sg3_iff _).1 h3 with h | h | h | h <;> (rw [h]; rfl)
      have hvv : IntKind.i64.wrap v = v := by
        rw [hv]
        rcases (sg3_iff _).1 h3 with h | h | h | h <;> (rw [h]; rfl)
      have HN := hide (set_take hy HX.out HT.out)
      have HC2 : Hid (CellsAt (wr.setCell ⟨g, k, none⟩ (cv s[k])) g (cV (xs.set k s[k]))) := by
        show CellsAt _ _ _
        rw [cV_set]
        exact HC.out.set k (by rw [cV_length, HX.out, lst_size]; exact hlt) _
      have HV := hide hv
      have HFORM := cv_form s[k]
      clear hx hy h3 hv
      rcases HFORM with hf | ⟨u, hf⟩
      · rw [hf] at CO HC2
        clear hf
        go_wp2_with (go_at_call 26; refine (CO.out _).mono ?_; rintro e w' ⟨rfl, rfl⟩)
        go_roundw
        case rel => exact ⟨k + 1, by omega, by go_num, hbr.setCell (Nat.le_refl _) _, by simpa [World.setCell] using hzr, xs.set k s[k], by simp [Hid, HX.out], HN.out, HC2.out⟩
        case measure => simp [Go.RowKit.intOf]; omega
      · rw [hf] at CO HC2
        clear hf
        go_wp2_with (go_at_call 26; refine (CO.out _).mono ?_; rintro e w' ⟨rfl, rfl⟩)
        go_roundw
        case rel => exact ⟨k + 1, by omega, by go_num, hbr.setCell (Nat.le_refl _) _, by simpa [World.setCell] using hzr, xs.set k s[k], by simp [Hid, HX.out], HN.out, HC2.out⟩
        case measure => simp [Go.RowKit.intOf]; omega
    · have hxs : xs = lst s := by
        have := HT.out
        rw [List.take_of_length_le (by rw [HX.out, lst_size]; omega), List.take_of_length_le (by rw [lst_size]; omega)] at this
        exact this
      subst hxs
      go_wp2
      go_ret2
      have hg := HG.out
      subst hg
      exact ⟨rfl, hbr, HC.out, hzr⟩
end Go.Proofs.YtppelmceojodhaaDoor
