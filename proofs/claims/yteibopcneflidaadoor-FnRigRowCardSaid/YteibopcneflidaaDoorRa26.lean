/- TEXTS Rig8, Parts. -/
import Derived.Test.YteibopcneflidaaDoorRa08
import Derived.Test.YteibopcneflidaaDoorRa21
import Derived.Test.YteibopcneflidaaDoorRa19
import Derived.Test.YteibopcneflidaaDoorRa18
import Derived.Test.YteibopcneflidaaDoorRa25
import Derived.Test.YteibopcneflidaaDoorRa04
import Derived.Test.YteibopcneflidaaDoorRa05
import Derived.Test.YteibopcneflidaaDoorRa06
/- WHAT IS TRUE OF RIGGED PARTITIONS AND TEXTS: the facts behind the promises 30 to 33. Pure: no walk. -/
namespace Go.Proofs.YteibopcneflidaaDoor
open Go.RowKit

/-- RigRow -/
def rgRow (l : List (Int × Int)) (n : Int) : ByteArray := if rgFits l n then ofBits (cut (kRow n.toNat l).reverse) else ByteArray.empty

theorem high_parts {s : ByteArray} (h : highB s = true) : vld s = true ∧ tl (bits s) = s.size ∧ kHi (rvB s) ∧ s.size ≤ 120 ∧ rgOf s = kRc (rvB s) := by
  obtain ⟨h1, h2⟩ := (highB_iff s).1 h
  obtain ⟨h3, h4⟩ := (levOk_iff s).1 h1
  exact ⟨h3, h4, h2, vld_le s h3, by unfold rgOf; rw [h, if_pos rfl]⟩
/-- P30 -/
theorem rigOf_facts {s : ByteArray} (h : highB s = true) : rgFits (rgOf s) s.size = true ∧ rgRow (rgOf s) s.size = s ∧ (rgOf s).map (fun a => a.1) = shR s := by
  obtain ⟨h1, h2, h3, h4, h5⟩ := high_parts h
  have hf := (rc_in h3 (by rw [rvB_length]; exact h4)).1
  rw [rvB_length] at hf
  rw [h5]
  refine ⟨hf, ?_, ?_⟩
  · unfold rgRow
    rw [hf, if_pos rfl]
    have e := kRow_rc (rvB s) h3
    rw [rvB_length] at e
    rw [Int.toNat_natCast, e]
    unfold rvB
    rw [List.reverse_reverse, ← tidy_ofBits h1, tidyS_self s h2]
  · rw [kShape _ h3]
    unfold rvB shR
    rw [List.reverse_reverse, h1, if_pos rfl]
    rfl
theorem left_none {l : List (Int × Int)} {n : Int} (h : rgFits l n = true) : kLeft n.toNat l = [] := by
  have hp := rgFits_p h
  have hn := ((rgFits_iff l n).1 h).2.1
  have := (kRow_back n.toNat l (by rw [Int.toNat_of_nonneg hn.1]; exact hp)).2.1
  exact this
/-- P31 -/
theorem rigOf_step {s : ByteArray} {K : Int} (h : highB s = true) (hk : stOk s K = true) (hK : 0 ≤ K) :
    highB (stS s K) = true ∧ rgOf (stS s K) = (rgOf s).map (rgAdd K) ∧ rgIn (rgOf s) = true ∧ rgIn ((rgOf s).map (rgAdd K)) = true := by
  obtain ⟨h1, h2, h3, h4, h5⟩ := high_parts h
  have hv := vld_stS hk
  have hb := bx_stS hk
  have hl : kHi (bits s).reverse := h3
  obtain ⟨e1, e2⟩ := kStep hl hb
  have htl : tl (bits (stS s K)) = (stS s K).size := by
    have e : bits (stS s K) = cut (stp K.toNat (bits s)) := bits_stS hk
    rw [← length_bits, e, tl_cut, cut_length]
  have hh : highB (stS s K) = true := (highB_iff _).2 ⟨(levOk_iff _).2 ⟨hv, htl⟩, e2⟩
  obtain ⟨i1, i2⟩ := rc_in h3 (by rw [rvB_length]; exact h4)
  have hin := ((rgFits_iff _ _).1 i1).1
  have hadd : (kRc (bits s).reverse).map (fl4 K.toNat) = (kRc (bits s).reverse).map (rgAdd K) := List.map_congr_left (fun a _ => by
    unfold fl4 rgAdd
    rw [Int.toNat_of_nonneg hK])
  refine ⟨hh, ?_, by rw [h5]; exact hin, ?_⟩
  · rw [(high_parts hh).2.2.2.2, h5]
    unfold rvB
    rw [e1, hadd]
  · rw [h5]
    obtain ⟨g1, g2, g3⟩ := (rgIn_iff _).1 hin
    refine (rgIn_iff _).2 ⟨fun b hb => ?_, add_sorted K g2, by rw [List.length_map]; exact g3⟩
    obtain ⟨a, ha, rfl⟩ := List.mem_map.1 hb
    have := g1 a ha
    have := i2 a ha
    show 1 ≤ a.1 ∧ a.1 ≤ 60 ∧ 0 ≤ a.2 + min a.1 K ∧ a.2 + min a.1 K ≤ 1000
    omega
/-- P32, P33 -/
theorem rigRow_facts {l : List (Int × Int)} {n : Int} (h : rgFits l n = true) : highB (rgRow l n) = true ∧ rgOf (rgRow l n) = l ∧ ((rgRow l n).size : Int) ≤ n := by
  have hp := rgFits_p h
  have hn := ((rgFits_iff l n).1 h).2.1
  obtain ⟨r1, _, r3⟩ := kRow_back n.toNat l (by rw [Int.toNat_of_nonneg hn.1]; exact hp)
  have e0 : rgRow l n = ofBits (cut (kRow n.toNat l).reverse) := by unfold rgRow; rw [h, if_pos rfl]
  have hb : bits (rgRow l n) = cut (kRow n.toNat l).reverse := by rw [e0, bits_ofBits]
  have hlen : (cut (kRow n.toNat l).reverse).length ≤ n.toNat := by
    rw [cut_length]
    have := tl_le (kRow n.toNat l).reverse
    rw [List.length_reverse, kRow_length] at this
    exact this
  have hsz : (rgRow l n).size ≤ n.toNat := by rw [← length_bits, hb]; exact hlen
  have hv : vld (rgRow l n) = true := by rw [e0]; exact vld_ofBits _ (by omega)
  obtain ⟨x1, x2⟩ := kRc_ext (l := (cut (kRow n.toNat l).reverse)) (m := (kRow n.toNat l).reverse) (bx_fun_cut _)
  rw [List.reverse_reverse] at x1 x2
  have hh : highB (rgRow l n) = true := (highB_iff _).2 ⟨(levOk_iff _).2 ⟨hv, by rw [← length_bits, hb, tl_cut, cut_length]⟩, by unfold rvB; rw [hb]; exact x2.2 r3⟩
  refine ⟨hh, ?_, by omega⟩
  rw [(high_parts hh).2.2.2.2]
  unfold rvB
  rw [hb, x1, r1]
end Go.Proofs.YteibopcneflidaaDoor

/- LISTS OF PARTS, slices of structs of two numbers; THE WALKS of the model's helpers over them. -/
namespace Go.Proofs.YteibopcneflidaaDoor
open Go.RowKit

/-- a part as a value; parts as cells -/
def pV (a : Int × Int) : Value := .agg #[.int .i64 a.1, .int .i64 a.2]
def encZ (l : List (Int × Int)) : List Value := l.flatMap fun a => [.int .i64 a.1, .int .i64 a.2]
theorem encZ_snoc (l : List (Int × Int)) (a : Int × Int) : encZ (l ++ [a]) = encZ l ++ [.int .i64 a.1, .int .i64 a.2] := by unfold encZ; rw [List.flatMap_append]; rfl
theorem encZ_length (l : List (Int × Int)) : (encZ l).length = l.length * 2 := by
  induction l with
  | nil => rfl
  | cons p l ih => show (encZ l).length + 1 + 1 = _; rw [ih, List.length_cons]; omega
theorem encZ_get : ∀ (l : List (Int × Int)) (j : Nat) (a : Int × Int), l[j]? = some a → (encZ l)[j * 2]? = some (.int .i64 a.1) ∧ (encZ l)[j * 2 + 1]? = some (.int .i64 a.2) := by
  intro l
  induction l with
  | nil => intro j p h; simp at h
  | cons x l ih =>
    intro j p h
    have e : encZ (x :: l) = .int .i64 x.1 :: .int .i64 x.2 :: encZ l := rfl
    cases j with
    | zero => simp at h; subst h; exact ⟨rfl, rfl⟩
    | succ j =>
      obtain ⟨h1, h2⟩ := ih j p (by simpa using h)
      rw [e, show (j + 1) * 2 = j * 2 + 1 + 1 by omega]
      exact ⟨by simpa using h1, by simpa using h2⟩
def PartsV (lo : Nat) (w : World) (v : Value) (l : List (Int × Int)) : Prop :=
  (∃ a cap, v = .slice a 0 cap ∧ l = []) ∨ (∃ g cap, v = .slice (some ⟨g, 0, none⟩) l.length cap ∧ l.length ≤ cap ∧ lo ≤ g ∧ g < w.heap.size ∧ CellsAt w g (encZ l))
theorem PartsV.below {lo : Nat} {w w' : World} {v : Value} {l : List (Int × Int)} (h : PartsV lo w v l) {B : Nat} (hb : Below B w w') (hB : w.heap.size ≤ B) : PartsV lo w' v l := by
  rcases h with h | ⟨g, cap, rfl, h1, h2, h3, h4⟩
  · exact .inl h
  · exact .inr ⟨g, cap, rfl, h1, h2, Nat.lt_of_lt_of_le h3 hb.size, h4.below hb (by omega)⟩
theorem PartsV.form {lo : Nat} {w : World} {v : Value} {l : List (Int × Int)} {n : Nat} (h : PartsV lo w v l) (hn : l.length = n) : ∃ a c, v = .slice a n c ∧ (0 < n → ∃ g, a = some ⟨g, 0, none⟩ ∧ g < w.heap.size ∧ CellsAt w g (encZ l)) := by
  subst hn
  rcases h with ⟨a, c, rfl, rfl⟩ | ⟨g, c, rfl, _, _, h3, hc⟩
  · exact ⟨a, c, rfl, fun h => by simp at h⟩
  · exact ⟨_, c, rfl, fun _ => ⟨g, rfl, h3, hc⟩⟩
/-- numbers of a part are ints -/
def I64 (x : Int) : Prop := -9223372036854775808 ≤ x ∧ x ≤ 9223372036854775807

set_option maxRecDepth 100000 in
set_option maxHeartbeats 400000 in
theorem specLess_any (a b : Int × Int) (w : World) :
    Calls Tryd.prog 53 #[pV a, pV b] w fun e w' => e = .returned (.bool (pLess a b)) ∧ Below w.heap.size w w' := by
  unfold pLess pV
  obtain ⟨a1, a2⟩ := a
  obtain ⟨b1, b2⟩ := b
  by_cases h1 : a1 < b1
  · have d1 : decide (a1 < b1) = true := by simpa using h1
    go_enter Tryd.func53, Tryd.ntmps53
    go_wp2
    go_ret
    exact ⟨by simp [h1], ((Below.refl _ w).alloc (Nat.le_refl _) _).alloc (by simp) _⟩
  · have d1 : decide (a1 < b1) = false := by simpa using h1
    by_cases h2 : a1 = b1
    · subst h2
      have d2 : ((a1 : Int) == a1) = true := by simp
      go_enter Tryd.func53, Tryd.ntmps53
      go_wp2
      go_ret
      exact ⟨by simp, ((Below.refl _ w).alloc (Nat.le_refl _) _).alloc (by simp) _⟩
    · have d2 : ((a1 : Int) == b1) = false := beq_eq_false_iff_ne.2 h2
      go_enter Tryd.func53, Tryd.ntmps53
      go_wp2
      go_ret
      exact ⟨by simp, ((Below.refl _ w).alloc (Nat.le_refl _) _).alloc (by simp) _⟩
theorem room_take (l : List (Int × Int)) (n j : Int) (k : Nat) (a : Int × Int) (h : l[k]? = some a) : pRoom (l.take (k + 1)) n j = pRoom (l.take k) n j - 2 * min j a.1 := by
  unfold pRoom
  rw [List.take_add_one, h, List.map_append, List.sum_append]
  simp
  omega
theorem room_bd (l : List (Int × Int)) (n j : Int) (hj : 0 ≤ j ∧ j ≤ 1000) (h : ∀ a ∈ l, 0 ≤ a.1) : pRoom l n j ≤ n ∧ n - 2000 * (l.length : Int) ≤ pRoom l n j := by
  induction l with
  | nil => exact ⟨by show n - 2 * 0 ≤ n; omega, by show n - 2000 * 0 ≤ n - 2 * 0; omega⟩
  | cons x l ih =>
    have := ih (fun a ha => h a (List.mem_cons_of_mem _ ha))
    have hx := h x (List.mem_cons_self ..)
    rw [room_cons, List.length_cons]
    omega

set_option maxRecDepth 100000 in
set_option maxHeartbeats 1000000 in
theorem specRoom_any (l : List (Int × Int)) (v : Value) (m j : Int) (w : World) (lo : Nat) (hP : PartsV lo w v l) (hl : l.length ≤ 1000) (h0 : ∀ a ∈ l, 0 ≤ a.1 ∧ a.1 ≤ 1000) (hj : 0 ≤ j ∧ j ≤ 1000) (hm : -1000 ≤ m ∧ m ≤ 1000) :
    Calls Tryd.prog 43 #[v, .int .i64 m, .int .i64 j] w fun e w' => e = .returned (.int .i64 (pRoom l m j)) ∧ w' = w := by
  obtain ⟨n, hn⟩ : ∃ n, l.length = n := ⟨_, rfl⟩
  obtain ⟨a, c, rfl, hf⟩ := hP.form hn
  have HN := hide hn
  have HF := hide hf
  have H0 := hide h0
  rw [hn] at hl
  obtain ⟨j0, j1⟩ := hj
  obtain ⟨m0, m1⟩ := hm
  clear hP hn hf h0
  go_enter Tryd.func43, Tryd.ntmps43
  go_wp2
  go_loop [7, 8] (fun t i => ∃ k : Nat, k ≤ n ∧ i = .int .i64 (k : Int) ∧ t = .int .i64 (pRoom (l.take k) m j)) (fun _ i => n - (intOf i).toNat)
  case atStart => exact ⟨0, Nat.zero_le _, rfl, by unfold pRoom; simp⟩
  case round =>
    obtain ⟨k, hk, rfl, rfl⟩ := hrel
    obtain ⟨b0, b1⟩ := room_bd (l.take k) m j ⟨j0, j1⟩ (fun a ha => (H0.out a (List.mem_of_mem_take ha)).1)
    rw [List.length_take, HN.out, Nat.min_eq_left hk] at b1
    by_cases hlt : k < n
    · obtain ⟨q, rfl, hq0, hq⟩ := HF.out (by omega)
      obtain ⟨x, hx⟩ : ∃ x, l[k]? = some x := ⟨_, List.getElem?_eq_getElem (by rw [HN.out]; exact hlt)⟩
      obtain ⟨g1, g2⟩ := encZ_get l k x hx
      have c1 : w.cell? ⟨q, k * 2, none⟩ = some (.int .i64 x.1) := (hq _ _ g1).1
      have HT := hide (room_take l m j k x hx)
      obtain ⟨x0, x1⟩ := H0.out x (List.mem_of_getElem? hx)
      obtain ⟨y, hy⟩ : ∃ y, y = x.1 := ⟨_, rfl⟩
      obtain ⟨t, ht⟩ : ∃ t, t = pRoom (l.take k) m j := ⟨_, rfl⟩
      rw [← hy] at c1 HT x0 x1
      rw [← ht] at HT b0 b1 ⊢
      clear hx g1 g2 hq hy ht
      have i0 : (0 : Int) ≤ (k : Int) := by omega
      have i1 : (k : Int) < (n : Int) := by omega
      go_wp2
      go_round
      case rel =>
        have e : (if y < j then y else j) = min j y := by split <;> omega
        exact ⟨k + 1, by omega, by go_num, by first | rw [HT.out, e] | rw [HT.out]⟩
      case measure => simp [intOf]; omega
    · have hkn : n = k := by omega
      subst hkn
      rw [List.take_of_length_le (by rw [HN.out]; omega)] at b0 b1 ⊢
      go_wp2
      go_ret
      exact ⟨rfl, rfl⟩

/-- the index of the first part (or the last one) that is looked for, or -1 -/
def fIx (f : Int × Int → Bool) (g : Bool) (l : List (Int × Int)) : Nat → Int
  | 0 => -1
  | k + 1 => match l[k]? with
    | some a => if f a && (decide (fIx f g l k < 0) || !g) then (k : Int) else fIx f g l k
    | none => fIx f g l k
theorem fIx_bd (f : Int × Int → Bool) (g : Bool) (l : List (Int × Int)) : ∀ k, -1 ≤ fIx f g l k ∧ fIx f g l k < k
  | 0 => ⟨Int.le_refl _, by show (-1 : Int) < 0; omega⟩
  | k + 1 => by
    have := fIx_bd f g l k
    unfold fIx
    split
    · split <;> omega
    · omega
theorem fIx_at (f : Int × Int → Bool) (g : Bool) (l : List (Int × Int)) (k : Nat) (a : Int × Int) (h : l[k]? = some a) : fIx f g l (k + 1) = if f a && (decide (fIx f g l k < 0) || !g) then (k : Int) else fIx f g l k := by
  show (match l[k]? with | some a => _ | none => _) = _
  rw [h]

theorem fIx_true (f : Int × Int → Bool) (l : List (Int × Int)) : ∀ k, k ≤ l.length → (fIx f true l k = -1 ∧ (l.take k).find? f = none) ∨ ∃ (j : Nat) (a : Int × Int), j < k ∧ fIx f true l k = (j : Int) ∧ l[j]? = some a ∧ (l.take k).find? f = some a
  | 0, _ => .inl ⟨rfl, rfl⟩
  | k + 1, h => by
    obtain ⟨x, hx⟩ : ∃ x, l[k]? = some x := ⟨_, List.getElem?_eq_getElem (by omega)⟩
    have e := fIx_at f true l k x hx
    have et : (l.take (k + 1)).find? f = ((l.take k).find? f).or (if f x then some x else none) := by
      rw [List.take_add_one, hx, List.find?_append]
      congr 1
      show [x].find? f = _
      rw [List.find?_cons]
      cases f x <;> rfl
    rcases fIx_true f l k (by omega) with ⟨e1, e2⟩ | ⟨j, a, hj, e1, e2, e3⟩
    · rw [e1] at e
      cases hf : f x
      · exact .inl ⟨by rw [e, hf]; rfl, by rw [et, e2, hf]; rfl⟩
      · exact .inr ⟨k, x, by omega, by rw [e, hf]; rfl, hx, by rw [et, e2, hf]; rfl⟩
    · refine .inr ⟨j, a, by omega, ?_, e2, by rw [et, e3]; rfl⟩
      rw [e, e1, decide_eq_false (by omega)]
      simp
theorem fIx_false (f : Int × Int → Bool) (l : List (Int × Int)) : ∀ k, k ≤ l.length → (fIx f false l k = -1 ∧ (l.take k).reverse.find? f = none) ∨ ∃ (j : Nat) (a : Int × Int), j < k ∧ fIx f false l k = (j : Int) ∧ l[j]? = some a ∧ (l.take k).reverse.find? f = some a
  | 0, _ => .inl ⟨rfl, rfl⟩
  | k + 1, h => by
    obtain ⟨x, hx⟩ : ∃ x, l[k]? = some x := ⟨_, List.getElem?_eq_getElem (by omega)⟩
    have e := fIx_at f false l k x hx
    have et : (l.take (k + 1)).reverse.find? f = if f x then some x else (l.take k).reverse.find? f := by
      rw [List.take_add_one, hx, List.reverse_append]
      show (x :: (l.take k).reverse).find? f = _
      rw [List.find?_cons]
      cases f x <;> rfl
    cases hf : f x
    · rw [hf] at e et
      rcases fIx_false f l k (by omega) with ⟨e1, e2⟩ | ⟨j, a, hj, e1, e2, e3⟩
      · exact .inl ⟨by rw [e, e1]; rfl, by rw [et, e2]; rfl⟩
      · exact .inr ⟨j, a, by omega, by rw [e, e1]; rfl, e2, by rw [et, e3]; rfl⟩
    · exact .inr ⟨k, x, by omega, by rw [e, hf]; simp, hx, by rw [et, hf]; rfl⟩
theorem eraseIdx_perm : ∀ (l : List (Int × Int)) (j : Nat) (a : Int × Int), l[j]? = some a → (a :: l.eraseIdx j).Perm l
  | [], j, a, h => by simp at h
  | x :: l, 0, a, h => by simp at h; subst h; exact List.Perm.refl _
  | x :: l, j + 1, a, h => by
    have ih := eraseIdx_perm l j a (by simpa using h)
    exact (List.Perm.swap x a _).trans (List.Perm.cons x ih)
theorem eraseIdx_erase {l : List (Int × Int)} (hl : pSorted l) {j : Nat} {a : Int × Int} (h : l[j]? = some a) : l.eraseIdx j = l.erase a := by
  refine pSorted_eq _ _ (List.Pairwise.sublist (List.eraseIdx_sublist ..) hl) (erase_sorted _ hl) ?_
  exact (List.perm_cons _).1 ((eraseIdx_perm l j a h).trans (List.perm_cons_erase (List.mem_of_getElem? h)))

set_option maxRecDepth 100000 in
set_option maxHeartbeats 2000000 in
theorem specFull_any (l : List (Int × Int)) (v : Value) (m : Int) (g : Bool) (w : World) (lo : Nat) (hP : PartsV lo w v l) (hl : l.length ≤ 1000) (h0 : ∀ a ∈ l, 0 ≤ a.1 ∧ a.1 ≤ 1000) (hm : -1000 ≤ m ∧ m ≤ 1000) :
    Calls Tryd.prog 41 #[v, .int .i64 m, .bool g] w fun e w' => e = .returned (.int .i64 (fIx (pFull l m) g l l.length)) ∧ Quiet w w' := by
  have R := hide (fun (j : Int) (hj : 0 ≤ j ∧ j ≤ 1000) (w' : World) (hP : PartsV lo w' v l) => specRoom_any l v m j w' lo hP hl h0 hj hm)
  have HP := hide hP
  obtain ⟨n, hn⟩ : ∃ n, l.length = n := ⟨_, rfl⟩
  obtain ⟨a, c, rfl, hf⟩ := hP.form hn
  have HN := hide hn
  have HF := hide hf
  have H0 := hide h0
  rw [hn] at hl ⊢
  obtain ⟨m0, m1⟩ := hm
  clear hP hn hf h0
  go_enter Tryd.func41, Tryd.ntmps41
  go_wp2
  go_loopw [7, 8] (fun t i wr => ∃ k : Nat, k ≤ n ∧ i = .int .i64 (k : Int) ∧ t = .int .i64 (fIx (pFull l m) g l k) ∧ Hid (Quiet w wr)) (fun _ i _ => n - (intOf i).toNat)
  case atStart => exact ⟨0, Nat.zero_le _, rfl, rfl, Quiet.refl _⟩
  case round =>
    obtain ⟨k, hk, rfl, rfl, HQ⟩ := hrel
    obtain ⟨b0, b1⟩ := fIx_bd (pFull l m) g l k
    by_cases hlt : k < n
    · obtain ⟨q, rfl, hq0, hq⟩ := HF.out (by omega)
      obtain ⟨x, hx⟩ : ∃ x, l[k]? = some x := ⟨_, List.getElem?_eq_getElem (by rw [HN.out]; exact hlt)⟩
      obtain ⟨g1, g2⟩ := encZ_get l k x hx
      have c1 : wr.cell? ⟨q, k * 2, none⟩ = some (.int .i64 x.1) := ((HQ.out.cells hq) _ _ g1).1
      have c2 : wr.cell? ⟨q, k * 2 + 1, none⟩ = some (.int .i64 x.2) := ((HQ.out.cells hq) _ _ g2).1
      have HT := hide (fIx_at (pFull l m) g l k x hx)
      have hx1 := H0.out x (List.mem_of_getElem? hx)
      have C := hide (fun (w' : World) (h : Quiet w w') => R.out x.1 hx1 w' (HP.out.below (h.2 w.heap.size) (Nat.le_refl _)))
      have hff : pFull l m x = decide (x.2 = pRoom l m x.1) := rfl
      obtain ⟨y, hy⟩ : ∃ y, y = x.1 := ⟨_, rfl⟩
      obtain ⟨z, hz⟩ : ∃ z, z = x.2 := ⟨_, rfl⟩
      obtain ⟨r, hr⟩ : ∃ r, r = pRoom l m x.1 := ⟨_, rfl⟩
      obtain ⟨t, ht⟩ : ∃ t, t = fIx (pFull l m) g l k := ⟨_, rfl⟩
      rw [← hr] at C hff
      rw [← hy] at c1 C
      rw [← hz] at c2 hff
      rw [← ht, hff] at HT
      rw [← ht] at b0 b1 ⊢
      have CC := hide (fun N => C.out (wr.drewN N) (HQ.out.trans (Quiet.drewN N)))
      clear hx g1 g2 hq hy hz hr ht hff C hx1
      have i0 : (0 : Int) ≤ (k : Int) := by omega
      have i1 : (k : Int) < (n : Int) := by omega
      by_cases hzr : z = r
      · subst hzr
        have hzz : ((z : Int) == z) = true := by simp
        by_cases ht0 : t < 0
        · have d1 : decide (t < 0) = true := by simpa using ht0
          go_wp2
          go_quiet ((go_at_call 43; exact Calls.quiet_of_same (CC.out _)))
          go_wp2
          go_roundw
          case rel => exact ⟨k + 1, by omega, by go_num, by rw [HT.out]; simp [ht0], HQ.out.trans (Quiet.drewN _)⟩
          case measure => simp [intOf]; omega
        · have d1 : decide (t < 0) = false := by simpa using ht0
          cases g
          · go_wp2
            go_quiet ((go_at_call 43; exact Calls.quiet_of_same (CC.out _)))
            go_wp2
            go_roundw
            case rel => exact ⟨k + 1, by omega, by go_num, by rw [HT.out]; simp, HQ.out.trans (Quiet.drewN _)⟩
            case measure => simp [intOf]; omega
          · go_wp2
            go_quiet ((go_at_call 43; exact Calls.quiet_of_same (CC.out _)))
            go_wp2
            go_roundw
            case rel => exact ⟨k + 1, by omega, by go_num, by rw [HT.out]; simp; omega, HQ.out.trans (Quiet.drewN _)⟩
            case measure => simp [intOf]; omega
      · have hzz : ((z : Int) == r) = false := beq_eq_false_iff_ne.2 hzr
        go_wp2
        go_quiet ((go_at_call 43; exact Calls.quiet_of_same (CC.out _)))
        go_wp2
        go_roundw
        case rel => exact ⟨k + 1, by omega, by go_num, by rw [HT.out]; simp [hzr], HQ.out.trans (Quiet.drewN _)⟩
        case measure => simp [intOf]; omega
    · have hkn : n = k := by omega
      subst hkn
      go_wp2
      go_ret
      exact ⟨rfl, HQ.out⟩
end Go.Proofs.YteibopcneflidaaDoor
