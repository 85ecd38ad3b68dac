/- TEXTS RowHigh, Rig7, RigC, Parts. -/
import Derived.Test.YteibopcneflidabGreatDoorRo07
import Derived.Test.YteibopcneflidabGreatDoorRo06
import Derived.Test.YteibopcneflidabGreatDoorRo01
import Derived.Test.YteibopcneflidabGreatDoorRo02
/- THE WALKS of RowHigh, of the model and of the program, and of its exact law. -/
namespace Go.Proofs.YteibopcneflidabGreatDoor
open Go.RowKit

def nn (x : Int) : Bool := decide (0 ≤ x)
def highB (s : ByteArray) : Bool := levOk s && (levR s).all nn
theorem all_snoc (l : List Int) (k : Nat) (x : Int) (h : l[k]? = some x) : (l.take (k + 1)).all nn = ((l.take k).all nn && nn x) := by
  obtain ⟨hk, he⟩ := List.getElem?_eq_some_iff.1 h
  rw [List.take_succ_eq_append_getElem hk, List.all_append, he]; simp

theorem nn_min (x y : Int) : nn (if y < x then y else x) = (nn x && nn y) := by
  unfold nn; rw [Bool.eq_iff_iff]; simp; split <;> omega

set_option maxHeartbeats 400000 in
theorem specRowHigh_any (s : ByteArray) (w : World) (hs : s.size ≤ maxLen) :
    Calls Tryz.prog 17 #[.string s] w fun e w' => e = .returned (.bool (highB s)) ∧ Below w.heap.size w w' := by
  have hlen := levR_len s
  have C1 := hide (fun w => specRowLevels_any s w hs)
  obtain ⟨l, hl⟩ : ∃ l, l = levR s := ⟨_, rfl⟩
  obtain ⟨b, hb⟩ : ∃ b, b = levOk s := ⟨_, rfl⟩
  have HR : Hid (highB s = (b && l.all nn)) := by unfold highB; rw [hl, hb]; exact rfl
  rw [← hl, ← hb] at C1
  rw [← hl] at hlen
  clear hl hb hs
  go_enter Tryz.func17, Tryz.ntmps17
  go_wp2_with fail
  refine (C1.out _).mono ?_
  rintro e w1 ⟨v, rfl, hi, hb1⟩
  rcases hi with ⟨a, cap, rfl, rfl⟩ | ⟨g, cap, rfl, hcap, hlo, hlt, hc⟩
  · go_wp2_with fail
    go_loopw [4, 5] (fun o i wr => o = .bool b ∧ i = .int .i64 0 ∧ Hid (w1 = wr)) (fun _ _ _ => 0)
    case atStart => exact ⟨rfl, rfl, rfl⟩
    case round =>
      obtain ⟨rfl, rfl, HQ⟩ := hrel
      go_wp2
      go_ret
      have hw := HQ.out
      subst hw
      exact ⟨ret_bool (by rw [HR.out]; simp), hb1⟩
  · obtain ⟨n, hn⟩ : ∃ n, n = l.length := ⟨_, rfl⟩
    have HN := hide hn
    have HC := hide hc
    have HB := hide hb1
    rw [← hn] at hlen
    clear hn hc hb1 hlo hlt hcap
    go_wp2_with fail
    rw [← HN.out]
    go_loopw [4, 5] (fun o i wr => ∃ (k : Nat) (x : Bool), k ≤ n ∧ i = .int .i64 k ∧ o = .bool x ∧ Hid (x = (b && (l.take k).all nn)) ∧ Hid (w1 = wr)) (fun _ i _ => n - (intOf i).toNat)
    case atStart => exact ⟨0, b, Nat.zero_le _, rfl, rfl, by simp [Hid], rfl⟩
    case round =>
      obtain ⟨k, x, hk, rfl, rfl, HX, HQ⟩ := hrel
      by_cases hltk : k < n
      · obtain ⟨y, hy⟩ : ∃ y, l[k]? = some y := ⟨_, List.getElem?_eq_getElem (by rw [← HN.out]; exact hltk)⟩
        have hw := HQ.out
        subst hw
        have hcell := (HC.out k (.int .i64 y) (by simp [hy])).1
        have HA := hide (all_snoc l k y hy)
        clear hy
        cases x
        · go_wp2
          go_roundw
          case rel => exact ⟨k + 1, false, by omega, by go_num, rfl, by rw [HA.out, ← Bool.and_assoc, ← HX.out]; rfl, True.intro⟩
          case measure => simp [intOf]; omega
        · by_cases hy0 : 0 ≤ y
          · have HY := hide (show nn y = true by simp [nn, hy0])
            go_wp2
            go_roundw
            case rel => exact ⟨k + 1, true, by omega, by go_num, rfl, by rw [HA.out, ← Bool.and_assoc, ← HX.out, HY.out]; rfl, True.intro⟩
            case measure => simp [intOf]; omega
          · have HY := hide (show nn y = false by simp [nn]; omega)
            go_wp2
            go_roundw
            case rel => exact ⟨k + 1, false, by omega, by go_num, rfl, by rw [HA.out, ← Bool.and_assoc, ← HX.out, HY.out]; rfl, True.intro⟩
            case measure => simp [intOf]; omega
      · go_wp2
        go_ret
        have hw := HQ.out
        subst hw
        exact ⟨ret_bool (by rw [HR.out, HX.out, List.take_of_length_le (by rw [← HN.out]; omega)]), HB.out⟩

/-- slices.Min of a slice that is not empty: not less than 0 just where no number is -/
theorem min_any (g cap : Nat) (l : List Int) (w : World) (hl : 0 < l.length) (hm : l.length ≤ 1000) (hc : CellsAt w g (l.map (.int .i64))) :
    Calls Tryz.prog 59 #[.slice (some ⟨g, 0, none⟩) l.length cap] w fun e w' => ∃ m : Int, e = .returned (.int .i64 m) ∧ nn m = l.all nn ∧ w = w' := by
  obtain ⟨n, hn⟩ : ∃ n, n = l.length := ⟨_, rfl⟩
  have HN := hide hn
  have HC := hide hc
  rw [← hn] at hl hm ⊢
  obtain ⟨y0, hy0⟩ : ∃ y, l[0]? = some y := ⟨_, List.getElem?_eq_getElem (by rw [← HN.out]; exact hl)⟩
  have hcell0 := (HC.out 0 (.int .i64 y0) (by simp [hy0])).1
  have HA0 := hide (all_snoc l 0 y0 hy0)
  clear hn hc hy0
  go_enter Tryz.func59, Tryz.ntmps59
  go_wp2
  go_loop [3, 4] (fun m i => ∃ (k : Nat) (x : Int), 1 ≤ k ∧ k ≤ n ∧ i = .int .i64 k ∧ m = .int .i64 x ∧ Hid (nn x = (l.take k).all nn)) (fun _ i => n - (intOf i).toNat)
  case atStart => exact ⟨1, y0, by omega, by omega, rfl, rfl, by rw [HA0.out]; simp [Hid]⟩
  case round =>
    obtain ⟨k, x, hk1, hk, rfl, rfl, HX⟩ := hrel
    by_cases hltk : k < n
    · obtain ⟨y, hy⟩ : ∃ y, l[k]? = some y := ⟨_, List.getElem?_eq_getElem (by rw [← HN.out]; exact hltk)⟩
      have hcell := (HC.out k (.int .i64 y) (by simp [hy])).1
      have HA := hide (all_snoc l k y hy)
      clear hy
      go_wp2
      go_round
      case rel => exact ⟨k + 1, if y < x then y else x, by omega, by omega, by go_num, rfl, by rw [HA.out, ← HX.out]; exact nn_min x y⟩
      case measure => simp [intOf]; omega
    · go_wp2
      go_ret
      exact ⟨x, rfl, by rw [HX.out, List.take_of_length_le (by rw [← HN.out]; omega)], rfl⟩

set_option maxHeartbeats 400000 in
theorem implRowHigh_any (s : ByteArray) (w : World) (hs : s.size ≤ maxLen) :
    Calls Tryz.prog 34 #[.string s] w fun e w' => e = .returned (.bool (highB s)) ∧ Below w.heap.size w w' := by
  have hlen := levR_len s
  have hpos : levOk s = true → 0 < (levR s).length := by
    intro h; simp [levR, h, lev_length]
  have C1 := hide (fun w => implRowLevels_any s w hs)
  obtain ⟨l, hl⟩ : ∃ l, l = levR s := ⟨_, rfl⟩
  obtain ⟨b, hb⟩ : ∃ b, b = levOk s := ⟨_, rfl⟩
  have HR : Hid (highB s = (b && l.all nn)) := by unfold highB; rw [hl, hb]; exact rfl
  rw [← hl, ← hb] at C1
  rw [← hl] at hlen
  rw [← hl, ← hb] at hpos
  clear hl hb hs
  cases b
  · clear hpos
    go_enter Tryz.func34, Tryz.ntmps34
    go_wp2_with (go_at_call 58; refine (C1.out _).mono ?_; rintro e w1 ⟨v, rfl, hi, hb1⟩)
    go_ret
    exact ⟨ret_bool (by rw [HR.out]; rfl), hb1⟩
  · have hq := hpos rfl
    clear hpos
    go_enter Tryz.func34, Tryz.ntmps34
    go_wp2_with fail
    refine (C1.out _).mono ?_
    rintro e w1 ⟨v, rfl, hi, hb1⟩
    rcases hi with ⟨a, cap, rfl, rfl⟩ | ⟨g, cap, rfl, hcap, hlo, hlt, hc⟩
    · simp at hq
    · go_wp2_with fail
      refine (min_any _ _ l _ hq (by omega) hc).mono ?_
      rintro e w2 ⟨m, rfl, hm, rfl⟩
      have HM := hide hm
      clear hm
      go_wp2_with fail
      go_ret
      exact ⟨ret_bool (by rw [HR.out, ← HM.out]; rfl), hb1⟩

end Go.Proofs.YteibopcneflidabGreatDoor

/- WHAT THE MODEL ANSWERS OF ROWS AND RIGGED PARTITIONS: the facts behind the promises of chapter 4. Pure: no walk. -/
namespace Go.Proofs.YteibopcneflidabGreatDoor
open Go.RowKit

/-- the reversed row of a text -/
def rvB (s : ByteArray) : List Bool := (bits s).reverse
/-- RigOf -/
def rgOf (s : ByteArray) : List (Int × Int) := if highB s then kRc (rvB s) else []
/-- levels of a row and balances of its beginnings -/
theorem kBal_levAt (l : List Bool) : ∀ k, k ≤ l.length → kBal (l.take k).reverse = levAt l k
  | 0, _ => by rw [levAt_zero]; rfl
  | k + 1, h => by
    have ih := kBal_levAt l k (by omega)
    have hk : k < l.length := by omega
    rw [List.take_succ_eq_append_getElem hk, List.reverse_append, levAt_succ l k l[k] (List.getElem?_eq_getElem hk), ← ih]
    rfl
theorem kHi_lev (l : List Bool) : ∀ k, k ≤ l.length → (kHi (l.take k).reverse ↔ ∀ j, j ≤ k → 0 ≤ levAt l j)
  | 0, _ => ⟨fun _ j hj => by rw [Nat.le_zero.1 hj, levAt_zero]; exact Int.le_refl _, fun _ => trivial⟩
  | k + 1, h => by
    have ih := kHi_lev l k (by omega)
    have hb := kBal_levAt l (k + 1) h
    have hk : k < l.length := by omega
    rw [List.take_succ_eq_append_getElem hk, List.reverse_append] at hb ⊢
    have e : kHi ([l[k]].reverse ++ (l.take k).reverse) ↔ (kHi (l.take k).reverse ∧ 0 ≤ kBal ([l[k]].reverse ++ (l.take k).reverse)) := Iff.rfl
    rw [e, ih, hb]
    exact ⟨fun g j hj => by
      by_cases hjk : j ≤ k
      · exact g.1 j hjk
      · rw [show j = k + 1 by omega]; exact g.2, fun g => ⟨fun j hj => g j (by omega), g _ (Nat.le_refl _)⟩⟩
theorem kHi_all (l : List Bool) : kHi l.reverse ↔ (lev l).all nn = true := by
  have h := kHi_lev l l.length (Nat.le_refl _)
  rw [List.take_length] at h
  rw [h, List.all_eq_true]
  unfold lev
  constructor
  · intro g x hx
    obtain ⟨j, hj, rfl⟩ := List.mem_map.1 hx
    have := g j (by have := List.mem_range.1 hj; omega)
    unfold nn
    simpa using this
  · intro g j hj
    have := g _ (List.mem_map.2 ⟨j, List.mem_range.2 (by omega), rfl⟩)
    unfold nn at this
    simpa using this
theorem highB_iff (s : ByteArray) : highB s = true ↔ levOk s = true ∧ kHi (rvB s) := by
  unfold highB rvB
  rw [Bool.and_eq_true, kHi_all]
  refine ⟨fun h => ⟨h.1, by have := h.2; unfold levR at this; rw [h.1] at this; exact this⟩, fun h => ⟨h.1, by unfold levR; rw [h.1]; exact h.2⟩⟩
end Go.Proofs.YteibopcneflidabGreatDoor

/- THE PARTS OF A HIGH ROW ARE A RIGGED PARTITION. Pure: no walk. -/
namespace Go.Proofs.YteibopcneflidabGreatDoor
open Go.RowKit

theorem rvB_length (s : ByteArray) : (rvB s).length = s.size := by unfold rvB; rw [List.length_reverse, length_bits]
theorem levOk_iff (s : ByteArray) : levOk s = true ↔ vld s = true ∧ tl (bits s) = s.size := by unfold levOk; simp
theorem mem_sizes {l : List (Int × Int)} (h : ∀ a ∈ l, 1 ≤ a.1) : (l.length : Int) ≤ pSizes l ∧ ∀ a ∈ l, a.1 ≤ pSizes l := by
  induction l with
  | nil => exact ⟨Int.le_refl _, fun a ha => by cases ha⟩
  | cons x l ih =>
    obtain ⟨i1, i2⟩ := ih (fun a ha => h a (List.mem_cons_of_mem _ ha))
    have hx := h x (List.mem_cons_self ..)
    have e : pSizes (x :: l) = x.1 + pSizes l := by unfold pSizes; simp
    rw [e]
    refine ⟨by simp; omega, fun a ha => ?_⟩
    rcases List.mem_cons.1 ha with rfl | ha
    · omega
    · have := i2 a ha; omega
theorem rc_in {p : List Bool} (h : kHi p) (hl : p.length ≤ 120) : rgFits (kRc p) p.length = true ∧ ∀ a ∈ kRc p, a.2 ≤ 120 := by
  have hp := (kInv_of p h).part
  have hb := kHi_bal h
  rw [kBal_rc] at hb
  obtain ⟨m1, m2⟩ := mem_sizes (fun a ha => (hp a ha).1)
  have hr : ∀ a ∈ kRc p, a.2 ≤ 120 := fun a ha => by
    have h1 := (hp a ha).2.2
    have h2 := room_le (kRc p) p.length a.1 (by have := (hp a ha).1; omega) (fun a ha => (hp a ha).1)
    omega
  refine ⟨(rgFits_iff _ _).2 ⟨(rgIn_iff _).2 ⟨fun a ha => ?_, kRc_sorted p, by omega⟩, by omega, fun a ha => (hp a ha).2.2⟩, hr⟩
  have := hp a ha
  have := m2 a ha
  have := hr a ha
  omega
theorem rc_next {l : List Bool} {k : Nat} {b : Bool} (h : l[k]? = some b) : (l.take (k + 1)).reverse = b :: (l.take k).reverse := by
  obtain ⟨hk, e⟩ := List.getElem?_eq_some_iff.1 h
  rw [List.take_succ_eq_append_getElem hk, List.reverse_append, e]
  rfl
theorem kHi_take {l : List Bool} (h : kHi l.reverse) (k : Nat) (hk : k ≤ l.length) : kHi (l.take k).reverse := by
  rw [kHi_lev l k hk]
  have := (kHi_lev l l.length (Nat.le_refl _)).1 (by rw [List.take_length]; exact h)
  exact fun j hj => this j (by omega)
end Go.Proofs.YteibopcneflidabGreatDoor

/- LISTS OF PARTS, slices of structs of two numbers; THE WALKS of the model's helpers over them. -/
namespace Go.Proofs.YteibopcneflidabGreatDoor
open Go.RowKit

/-- a part as a value; parts as cells -/
def pV (a : Int × Int) : Value := .agg #[.int .i64 a.1, .int .i64 a.2]
def encZ (l : List (Int × Int)) : List Value := l.flatMap fun a => [.int .i64 a.1, .int .i64 a.2]
theorem encZ_snoc (l : List (Int × Int)) (a : Int × Int) : encZ (l ++ [a]) = encZ l ++ [.int .i64 a.1, .int .i64 a.2] := by unfold encZ; rw [List.flatMap_append]; rfl
theorem encZ_length (l : List (Int × Int)) : (encZ l).length = l.length * 2 := by
  induction l with
  | nil => rfl
  | cons p l ih => show (encZ l).length + 1 + 1 = _; rw [ih, List.length_cons]; omega
theorem encZ_get : ∀ (l : List (Int × Int)) (j : Nat) (a : Int × Int), l[j]? = some a → (encZ l)[j * 2]? = some (.int .i64 a.1) ∧ (encZ l)[j * 2 + 1]? = some (.int .i64 a.2) := by
  intro l
  induction l with
  | nil => intro j p h; simp at h
  | cons x l ih =>
    intro j p h
    have e : encZ (x :: l) = .int .i64 x.1 :: .int .i64 x.2 :: encZ l := rfl
    cases j with
    | zero => simp at h; subst h; exact ⟨rfl, rfl⟩
    | succ j =>
      obtain ⟨h1, h2⟩ := ih j p (by simpa using h)
      rw [e, show (j + 1) * 2 = j * 2 + 1 + 1 by omega]
      exact ⟨by simpa using h1, by simpa using h2⟩
def PartsV (lo : Nat) (w : World) (v : Value) (l : List (Int × Int)) : Prop :=
  (∃ a cap, v = .slice a 0 cap ∧ l = []) ∨ (∃ g cap, v = .slice (some ⟨g, 0, none⟩) l.length cap ∧ l.length ≤ cap ∧ lo ≤ g ∧ g < w.heap.size ∧ CellsAt w g (encZ l))
theorem PartsV.below {lo : Nat} {w w' : World} {v : Value} {l : List (Int × Int)} (h : PartsV lo w v l) {B : Nat} (hb : Below B w w') (hB : w.heap.size ≤ B) : PartsV lo w' v l := by
  rcases h with h | ⟨g, cap, rfl, h1, h2, h3, h4⟩
  · exact .inl h
  · exact .inr ⟨g, cap, rfl, h1, h2, Nat.lt_of_lt_of_le h3 hb.size, h4.below hb (by omega)⟩
theorem PartsV.form {lo : Nat} {w : World} {v : Value} {l : List (Int × Int)} {n : Nat} (h : PartsV lo w v l) (hn : l.length = n) : ∃ a c, v = .slice a n c ∧ (0 < n → ∃ g, a = some ⟨g, 0, none⟩ ∧ g < w.heap.size ∧ CellsAt w g (encZ l)) := by
  subst hn
  rcases h with ⟨a, c, rfl, rfl⟩ | ⟨g, c, rfl, _, _, h3, hc⟩
  · exact ⟨a, c, rfl, fun h => by simp at h⟩
  · exact ⟨_, c, rfl, fun _ => ⟨g, rfl, h3, hc⟩⟩
/-- numbers of a part are ints -/
def I64 (x : Int) : Prop := -9223372036854775808 ≤ x ∧ x ≤ 9223372036854775807

set_option maxRecDepth 100000 in
set_option maxHeartbeats 400000 in
theorem specLess_any (a b : Int × Int) (w : World) :
    Calls Tryz.prog 39 #[pV a, pV b] w fun e w' => e = .returned (.bool (pLess a b)) ∧ Below w.heap.size w w' := by
  unfold pLess pV
  obtain ⟨a1, a2⟩ := a
  obtain ⟨b1, b2⟩ := b
  by_cases h1 : a1 < b1
  · have d1 : decide (a1 < b1) = true := by simpa using h1
    go_enter Tryz.func39, Tryz.ntmps39
    go_wp2
    go_ret
    exact ⟨by simp [h1], ((Below.refl _ w).alloc (Nat.le_refl _) _).alloc (by simp) _⟩
  · have d1 : decide (a1 < b1) = false := by simpa using h1
    by_cases h2 : a1 = b1
    · subst h2
      have d2 : ((a1 : Int) == a1) = true := by simp
      go_enter Tryz.func39, Tryz.ntmps39
      go_wp2
      go_ret
      exact ⟨by simp, ((Below.refl _ w).alloc (Nat.le_refl _) _).alloc (by simp) _⟩
    · have d2 : ((a1 : Int) == b1) = false := beq_eq_false_iff_ne.2 h2
      go_enter Tryz.func39, Tryz.ntmps39
      go_wp2
      go_ret
      exact ⟨by simp, ((Below.refl _ w).alloc (Nat.le_refl _) _).alloc (by simp) _⟩
theorem room_take (l : List (Int × Int)) (n j : Int) (k : Nat) (a : Int × Int) (h : l[k]? = some a) : pRoom (l.take (k + 1)) n j = pRoom (l.take k) n j - 2 * min j a.1 := by
  unfold pRoom
  rw [List.take_add_one, h, List.map_append, List.sum_append]
  simp
  omega
theorem room_bd (l : List (Int × Int)) (n j : Int) (hj : 0 ≤ j ∧ j ≤ 1000) (h : ∀ a ∈ l, 0 ≤ a.1) : pRoom l n j ≤ n ∧ n - 2000 * (l.length : Int) ≤ pRoom l n j := by
  induction l with
  | nil => exact ⟨by show n - 2 * 0 ≤ n; omega, by show n - 2000 * 0 ≤ n - 2 * 0; omega⟩
  | cons x l ih =>
    have := ih (fun a ha => h a (List.mem_cons_of_mem _ ha))
    have hx := h x (List.mem_cons_self ..)
    rw [room_cons, List.length_cons]
    omega

set_option maxRecDepth 100000 in
set_option maxHeartbeats 1000000 in
theorem specRoom_any (l : List (Int × Int)) (v : Value) (m j : Int) (w : World) (lo : Nat) (hP : PartsV lo w v l) (hl : l.length ≤ 1000) (h0 : ∀ a ∈ l, 0 ≤ a.1 ∧ a.1 ≤ 1000) (hj : 0 ≤ j ∧ j ≤ 1000) (hm : -1000 ≤ m ∧ m ≤ 1000) :
    Calls Tryz.prog 20 #[v, .int .i64 m, .int .i64 j] w fun e w' => e = .returned (.int .i64 (pRoom l m j)) ∧ w' = w := by
  obtain ⟨n, hn⟩ : ∃ n, l.length = n := ⟨_, rfl⟩
  obtain ⟨a, c, rfl, hf⟩ := hP.form hn
  have HN := hide hn
  have HF := hide hf
  have H0 := hide h0
  rw [hn] at hl
  obtain ⟨j0, j1⟩ := hj
  obtain ⟨m0, m1⟩ := hm
  clear hP hn hf h0
  go_enter Tryz.func20, Tryz.ntmps20
  go_wp2
  go_loop [7, 8] (fun t i => ∃ k : Nat, k ≤ n ∧ i = .int .i64 (k : Int) ∧ t = .int .i64 (pRoom (l.take k) m j)) (fun _ i => n - (intOf i).toNat)
  case atStart => exact ⟨0, Nat.zero_le _, rfl, by unfold pRoom; simp⟩
  case round =>
    obtain ⟨k, hk, rfl, rfl⟩ := hrel
    obtain ⟨b0, b1⟩ := room_bd (l.take k) m j ⟨j0, j1⟩ (fun a ha => (H0.out a (List.mem_of_mem_take ha)).1)
    rw [List.length_take, HN.out, Nat.min_eq_left hk] at b1
    by_cases hlt : k < n
    · obtain ⟨q, rfl, hq0, hq⟩ := HF.out (by omega)
      obtain ⟨x, hx⟩ : ∃ x, l[k]? = some x := ⟨_, List.getElem?_eq_getElem (by rw [HN.out]; exact hlt)⟩
      obtain ⟨g1, g2⟩ := encZ_get l k x hx
      have c1 : w.cell? ⟨q, k * 2, none⟩ = some (.int .i64 x.1) := (hq _ _ g1).1
      have HT := hide (room_take l m j k x hx)
      obtain ⟨x0, x1⟩ := H0.out x (List.mem_of_getElem? hx)
      obtain ⟨y, hy⟩ : ∃ y, y = x.1 := ⟨_, rfl⟩
      obtain ⟨t, ht⟩ : ∃ t, t = pRoom (l.take k) m j := ⟨_, rfl⟩
      rw [← hy] at c1 HT x0 x1
      rw [← ht] at HT b0 b1 ⊢
      clear hx g1 g2 hq hy ht
      have i0 : (0 : Int) ≤ (k : Int) := by omega
      have i1 : (k : Int) < (n : Int) := by omega
      go_wp2
      go_round
      case rel =>
        have e : (if y < j then y else j) = min j y := by split <;> omega
        exact ⟨k + 1, by omega, by go_num, by first | rw [HT.out, e] | rw [HT.out]⟩
      case measure => simp [intOf]; omega
    · have hkn : n = k := by omega
      subst hkn
      rw [List.take_of_length_le (by rw [HN.out]; omega)] at b0 b1 ⊢
      go_wp2
      go_ret
      exact ⟨rfl, rfl⟩

/-- the index of the first part (or the last one) that is looked for, or -1 -/
def fIx (f : Int × Int → Bool) (g : Bool) (l : List (Int × Int)) : Nat → Int
  | 0 => -1
  | k + 1 => match l[k]? with
    | some a => if f a && (decide (fIx f g l k < 0) || !g) then (k : Int) else fIx f g l k
    | none => fIx f g l k
theorem fIx_bd (f : Int × Int → Bool) (g : Bool) (l : List (Int × Int)) : ∀ k, -1 ≤ fIx f g l k ∧ fIx f g l k < k
  | 0 => ⟨Int.le_refl _, by show (-1 : Int) < 0; omega⟩
  | k + 1 => by
    have := fIx_bd f g l k
    unfold fIx
    split
    · split <;> omega
    · omega
theorem fIx_at (f : Int × Int → Bool) (g : Bool) (l : List (Int × Int)) (k : Nat) (a : Int × Int) (h : l[k]? = some a) : fIx f g l (k + 1) = if f a && (decide (fIx f g l k < 0) || !g) then (k : Int) else fIx f g l k := by
  show (match l[k]? with | some a => _ | none => _) = _
  rw [h]

theorem fIx_true (f : Int × Int → Bool) (l : List (Int × Int)) : ∀ k, k ≤ l.length → (fIx f true l k = -1 ∧ (l.take k).find? f = none) ∨ ∃ (j : Nat) (a : Int × Int), j < k ∧ fIx f true l k = (j : Int) ∧ l[j]? = some a ∧ (l.take k).find? f = some a
  | 0, _ => .inl ⟨rfl, rfl⟩
  | k + 1, h => by
    obtain ⟨x, hx⟩ : ∃ x, l[k]? = some x := ⟨_, List.getElem?_eq_getElem (by omega)⟩
    have e := fIx_at f true l k x hx
    have et : (l.take (k + 1)).find? f = ((l.take k).find? f).or (if f x then some x else none) := by
      rw [List.take_add_one, hx, List.find?_append]
      congr 1
      show [x].find? f = _
      rw [List.find?_cons]
      cases f x <;> rfl
    rcases fIx_true f l k (by omega) with ⟨e1, e2⟩ | ⟨j, a, hj, e1, e2, e3⟩
    · rw [e1] at e
      cases hf : f x
      · exact .inl ⟨by rw [e, hf]; rfl, by rw [et, e2, hf]; rfl⟩
      · exact .inr ⟨k, x, by omega, by rw [e, hf]; rfl, hx, by rw [et, e2, hf]; rfl⟩
    · refine .inr ⟨j, a, by omega, ?_, e2, by rw [et, e3]; rfl⟩
      rw [e, e1, decide_eq_false (by omega)]
      simp
theorem fIx_false (f : Int × Int → Bool) (l : List (Int × Int)) : ∀ k, k ≤ l.length → (fIx f false l k = -1 ∧ (l.take k).reverse.find? f = none) ∨ ∃ (j : Nat) (a : Int × Int), j < k ∧ fIx f false l k = (j : Int) ∧ l[j]? = some a ∧ (l.take k).reverse.find? f = some a
  | 0, _ => .inl ⟨rfl, rfl⟩
  | k + 1, h => by
    obtain ⟨x, hx⟩ : ∃ x, l[k]? = some x := ⟨_, List.getElem?_eq_getElem (by omega)⟩
    have e := fIx_at f false l k x hx
    have et : (l.take (k + 1)).reverse.find? f = if f x then some x else (l.take k).reverse.find? f := by
      rw [List.take_add_one, hx, List.reverse_append]
      show (x :: (l.take k).reverse).find? f = _
      rw [List.find?_cons]
      cases f x <;> rfl
    cases hf : f x
    · rw [hf] at e et
      rcases fIx_false f l k (by omega) with ⟨e1, e2⟩ | ⟨j, a, hj, e1, e2, e3⟩
      · exact .inl ⟨by rw [e, e1]; rfl, by rw [et, e2]; rfl⟩
      · exact .inr ⟨j, a, by omega, by rw [e, e1]; rfl, e2, by rw [et, e3]; rfl⟩
    · exact .inr ⟨k, x, by omega, by rw [e, hf]; simp, hx, by rw [et, hf]; rfl⟩
theorem eraseIdx_perm : ∀ (l : List (Int × Int)) (j : Nat) (a : Int × Int), l[j]? = some a → (a :: l.eraseIdx j).Perm l
  | [], j, a, h => by simp at h
  | x :: l, 0, a, h => by simp at h; subst h; exact List.Perm.refl _
  | x :: l, j + 1, a, h => by
    have ih := eraseIdx_perm l j a (by simpa using h)
    exact (List.Perm.swap x a _).trans (List.Perm.cons x ih)
theorem eraseIdx_erase {l : List (Int × Int)} (hl : pSorted l) {j : Nat} {a : Int × Int} (h : l[j]? = some a) : l.eraseIdx j = l.erase a := by
  refine pSorted_eq _ _ (List.Pairwise.sublist (List.eraseIdx_sublist ..) hl) (erase_sorted _ hl) ?_
  exact (List.perm_cons _).1 ((eraseIdx_perm l j a h).trans (List.perm_cons_erase (List.mem_of_getElem? h)))

set_option maxRecDepth 100000 in
set_option maxHeartbeats 2000000 in
theorem specFull_any (l : List (Int × Int)) (v : Value) (m : Int) (g : Bool) (w : World) (lo : Nat) (hP : PartsV lo w v l) (hl : l.length ≤ 1000) (h0 : ∀ a ∈ l, 0 ≤ a.1 ∧ a.1 ≤ 1000) (hm : -1000 ≤ m ∧ m ≤ 1000) :
    Calls Tryz.prog 18 #[v, .int .i64 m, .bool g] w fun e w' => e = .returned (.int .i64 (fIx (pFull l m) g l l.length)) ∧ Quiet w w' := by
  have R := hide (fun (j : Int) (hj : 0 ≤ j ∧ j ≤ 1000) (w' : World) (hP : PartsV lo w' v l) => specRoom_any l v m j w' lo hP hl h0 hj hm)
  have HP := hide hP
  obtain ⟨n, hn⟩ : ∃ n, l.length = n := ⟨_, rfl⟩
  obtain ⟨a, c, rfl, hf⟩ := hP.form hn
  have HN := hide hn
  have HF := hide hf
  have H0 := hide h0
  rw [hn] at hl ⊢
  obtain ⟨m0, m1⟩ := hm
  clear hP hn hf h0
  go_enter Tryz.func18, Tryz.ntmps18
  go_wp2
  go_loopw [7, 8] (fun t i wr => ∃ k : Nat, k ≤ n ∧ i = .int .i64 (k : Int) ∧ t = .int .i64 (fIx (pFull l m) g l k) ∧ Hid (Quiet w wr)) (fun _ i _ => n - (intOf i).toNat)
  case atStart => exact ⟨0, Nat.zero_le _, rfl, rfl, Quiet.refl _⟩
  case round =>
    obtain ⟨k, hk, rfl, rfl, HQ⟩ := hrel
    obtain ⟨b0, b1⟩ := fIx_bd (pFull l m) g l k
    by_cases hlt : k < n
    · obtain ⟨q, rfl, hq0, hq⟩ := HF.out (by omega)
      obtain ⟨x, hx⟩ : ∃ x, l[k]? = some x := ⟨_, List.getElem?_eq_getElem (by rw [HN.out]; exact hlt)⟩
      obtain ⟨g1, g2⟩ := encZ_get l k x hx
      have c1 : wr.cell? ⟨q, k * 2, none⟩ = some (.int .i64 x.1) := ((HQ.out.cells hq) _ _ g1).1
      have c2 : wr.cell? ⟨q, k * 2 + 1, none⟩ = some (.int .i64 x.2) := ((HQ.out.cells hq) _ _ g2).1
      have HT := hide (fIx_at (pFull l m) g l k x hx)
      have hx1 := H0.out x (List.mem_of_getElem? hx)
      have C := hide (fun (w' : World) (h : Quiet w w') => R.out x.1 hx1 w' (HP.out.below (h.2 w.heap.size) (Nat.le_refl _)))
      have hff : pFull l m x = decide (x.2 = pRoom l m x.1) := rfl
      obtain ⟨y, hy⟩ : ∃ y, y = x.1 := ⟨_, rfl⟩
      obtain ⟨z, hz⟩ : ∃ z, z = x.2 := ⟨_, rfl⟩
      obtain ⟨r, hr⟩ : ∃ r, r = pRoom l m x.1 := ⟨_, rfl⟩
      obtain ⟨t, ht⟩ : ∃ t, t = fIx (pFull l m) g l k := ⟨_, rfl⟩
      rw [← hr] at C hff
      rw [← hy] at c1 C
      rw [← hz] at c2 hff
      rw [← ht, hff] at HT
      rw [← ht] at b0 b1 ⊢
      have CC := hide (fun N => C.out (wr.drewN N) (HQ.out.trans (Quiet.drewN N)))
      clear hx g1 g2 hq hy hz hr ht hff C hx1
      have i0 : (0 : Int) ≤ (k : Int) := by omega
      have i1 : (k : Int) < (n : Int) := by omega
      by_cases hzr : z = r
      · subst hzr
        have hzz : ((z : Int) == z) = true := by simp
        by_cases ht0 : t < 0
        · have d1 : decide (t < 0) = true := by simpa using ht0
          go_wp2
          go_quiet ((go_at_call 20; exact Calls.quiet_of_same (CC.out _)))
          go_wp2
          go_roundw
          case rel => exact ⟨k + 1, by omega, by go_num, by rw [HT.out]; simp [ht0], HQ.out.trans (Quiet.drewN _)⟩
          case measure => simp [intOf]; omega
        · have d1 : decide (t < 0) = false := by simpa using ht0
          cases g
          · go_wp2
            go_quiet ((go_at_call 20; exact Calls.quiet_of_same (CC.out _)))
            go_wp2
            go_roundw
            case rel => exact ⟨k + 1, by omega, by go_num, by rw [HT.out]; simp, HQ.out.trans (Quiet.drewN _)⟩
            case measure => simp [intOf]; omega
          · go_wp2
            go_quiet ((go_at_call 20; exact Calls.quiet_of_same (CC.out _)))
            go_wp2
            go_roundw
            case rel => exact ⟨k + 1, by omega, by go_num, by rw [HT.out]; simp; omega, HQ.out.trans (Quiet.drewN _)⟩
            case measure => simp [intOf]; omega
      · have hzz : ((z : Int) == r) = false := beq_eq_false_iff_ne.2 hzr
        go_wp2
        go_quiet ((go_at_call 20; exact Calls.quiet_of_same (CC.out _)))
        go_wp2
        go_roundw
        case rel => exact ⟨k + 1, by omega, by go_num, by rw [HT.out]; simp [hzr], HQ.out.trans (Quiet.drewN _)⟩
        case measure => simp [intOf]; omega
    · have hkn : n = k := by omega
      subst hkn
      go_wp2
      go_ret
      exact ⟨rfl, HQ.out⟩
end Go.Proofs.YteibopcneflidabGreatDoor
