/- TEXTS Parts, Seg, Rig9, CmpA, Cmp4. -/
import Derived.Test.YtdooboibmllfkabGreatDoorExb12
import Derived.Test.YtdooboibmllfkabGreatDoorExb02
import Derived.Deep.RegionLaw
import Derived.Laws.CopyOwn
import Derived.Laws.CopyRow
import Derived.Lib.AppendZerosOnto
import Derived.Lib.AppendZeros
import Derived.Test.YtdooboibmllfkabGreatDoorChecked
import Derived.Test.YtdooboibmllfkabGreatDoorExb01
import Derived.Deep.RegionWith
import Derived.Shelf.SlSortCmp.QuietGrown
namespace Go.Proofs.YtdooboibmllfkabGreatDoor
set_option maxRecDepth 100000
open Go.RowKit

def pV (a : Int × Int) : Value := .agg #[.int .i64 a.1, .int .i64 a.2]
def encZ (l : List (Int × Int)) : List Value := l.flatMap fun a => [.int .i64 a.1, .int .i64 a.2]
theorem encZ_snoc (l : List (Int × Int)) (a : Int × Int) : encZ (l ++ [a]) = encZ l ++ [.int .i64 a.1, .int .i64 a.2] := by unfold encZ; rw [List.flatMap_append]; rfl
theorem encZ_length (l : List (Int × Int)) : (encZ l).length = l.length * 2 := by
  induction l with
  | nil => rfl
  | cons p l ih => show (encZ l).length + 1 + 1 = _; rw [ih, List.length_cons]; omega
theorem encZ_get : ∀ (l : List (Int × Int)) (j : Nat) (a : Int × Int), l[j]? = some a → (encZ l)[j * 2]? = some (.int .i64 a.1) ∧ (encZ l)[j * 2 + 1]? = some (.int .i64 a.2) := by
  intro l
  induction l with
  | nil => intro j p h; simp at h
  | cons x l ih =>
    intro j p h
    have e : encZ (x :: l) = .int .i64 x.1 :: .int .i64 x.2 :: encZ l := rfl
    cases j with
    | zero => simp at h; subst h; exact ⟨rfl, rfl⟩
    | succ j =>
      obtain ⟨h1, h2⟩ := ih j p (by simpa using h)
      rw [e, show (j + 1) * 2 = j * 2 + 1 + 1 by omega]
      exact ⟨by simpa using h1, by simpa using h2⟩
def PartsV (lo : Nat) (w : World) (v : Value) (l : List (Int × Int)) : Prop :=
  (∃ a cap, v = .slice a 0 cap ∧ l = []) ∨ (∃ g cap, v = .slice (some ⟨g, 0, none⟩) l.length cap ∧ l.length ≤ cap ∧ lo ≤ g ∧ g < w.heap.size ∧ CellsAt w g (encZ l))
theorem PartsV.below {lo : Nat} {w w' : World} {v : Value} {l : List (Int × Int)} (h : PartsV lo w v l) {B : Nat} (hb : Below B w w') (hB : w.heap.size ≤ B) : PartsV lo w' v l := by
  rcases h with h | ⟨g, cap, rfl, h1, h2, h3, h4⟩
  · exact .inl h
  · exact .inr ⟨g, cap, rfl, h1, h2, Nat.lt_of_lt_of_le h3 hb.size, h4.below hb (by omega)⟩
theorem PartsV.form {lo : Nat} {w : World} {v : Value} {l : List (Int × Int)} {n : Nat} (h : PartsV lo w v l) (hn : l.length = n) : ∃ a c, v = .slice a n c ∧ (0 < n → ∃ g, a = some ⟨g, 0, none⟩ ∧ g < w.heap.size ∧ CellsAt w g (encZ l)) := by
  subst hn
  rcases h with ⟨a, c, rfl, rfl⟩ | ⟨g, c, rfl, _, _, h3, hc⟩
  · exact ⟨a, c, rfl, fun h => by simp at h⟩
  · exact ⟨_, c, rfl, fun _ => ⟨g, rfl, h3, hc⟩⟩
theorem room_take (l : List (Int × Int)) (n j : Int) (k : Nat) (a : Int × Int) (h : l[k]? = some a) : pRoom (l.take (k + 1)) n j = pRoom (l.take k) n j - 2 * min j a.1 := by
  unfold pRoom
  rw [List.take_add_one, h, List.map_append, List.sum_append]
  simp
  omega
theorem room_bd (l : List (Int × Int)) (n j : Int) (hj : 0 ≤ j ∧ j ≤ 1000) (h : ∀ a ∈ l, 0 ≤ a.1) : pRoom l n j ≤ n ∧ n - 2000 * (l.length : Int) ≤ pRoom l n j := by
  induction l with
  | nil => exact ⟨by show n - 2 * 0 ≤ n; omega, by show n - 2000 * 0 ≤ n - 2 * 0; omega⟩
  | cons x l ih =>
    have := ih (fun a ha => h a (List.mem_cons_of_mem _ ha))
    have hx := h x (List.mem_cons_self ..)
    rw [room_cons, List.length_cons]
    omega

set_option maxRecDepth 100000 in
set_option maxHeartbeats 1000000 in
theorem specRoom_any (l : List (Int × Int)) (v : Value) (m j : Int) (w : World) (lo : Nat) (hP : PartsV lo w v l) (hl : l.length ≤ 1000) (h0 : ∀ a ∈ l, 0 ≤ a.1 ∧ a.1 ≤ 1000) (hj : 0 ≤ j ∧ j ≤ 1000) (hm : -1000 ≤ m ∧ m ≤ 1000) :
    Calls Tryz.prog 117 #[v, .int .i64 m, .int .i64 j] w fun e w' => e = .returned (.int .i64 (pRoom l m j)) ∧ w' = w := by
  obtain ⟨n, hn⟩ : ∃ n, l.length = n := ⟨_, rfl⟩
  obtain ⟨a, c, rfl, hf⟩ := hP.form hn
  have HN := hide hn
  have HF := hide hf
  have H0 := hide h0
  rw [hn] at hl
  obtain ⟨j0, j1⟩ := hj
  obtain ⟨m0, m1⟩ := hm
  clear hP hn hf h0
  go_enter Tryz.func117, Tryz.ntmps117
  go_wp2
  go_loop [7, 8] (fun t i => ∃ k : Nat, k ≤ n ∧ i = .int .i64 (k : Int) ∧ t = .int .i64 (pRoom (l.take k) m j)) (fun _ i => n - (Go.RowKit.intOf i).toNat)
  case atStart => exact ⟨0, Nat.zero_le _, rfl, by unfold pRoom; simp⟩
  case round =>
    obtain ⟨k, hk, rfl, rfl⟩ := hrel
    obtain ⟨b0, b1⟩ := room_bd (l.take k) m j ⟨j0, j1⟩ (fun a ha => (H0.out a (List.mem_of_mem_take ha)).1)
    rw [List.length_take, HN.out, Nat.min_eq_left hk] at b1
    by_cases hlt : k < n
    · obtain ⟨q, rfl, hq0, hq⟩ := HF.out (by omega)
      obtain ⟨x, hx⟩ : ∃ x, l[k]? = some x := ⟨_, List.getElem?_eq_getElem (by rw [HN.out]; exact hlt)⟩
      obtain ⟨g1, g2⟩ := encZ_get l k x hx
      have c1 : w.cell? ⟨q, k * 2, none⟩ = some (.int .i64 x.1) := (hq _ _ g1).1
      have HT := hide (room_take l m j k x hx)
      obtain ⟨x0, x1⟩ := H0.out x (List.mem_of_getElem? hx)
      obtain ⟨y, hy⟩ : ∃ y, y = x.1 := ⟨_, rfl⟩
      obtain ⟨t, ht⟩ : ∃ t, t = pRoom (l.take k) m j := ⟨_, rfl⟩
      rw [← hy] at c1 HT x0 x1
      rw [← ht] at HT b0 b1 ⊢
      clear hx g1 g2 hq hy ht
      have i0 : (0 : Int) ≤ (k : Int) := by omega
      have i1 : (k : Int) < (n : Int) := by omega
      go_wp2
      go_round
      case rel =>
        have e : (if y < j then y else j) = min j y := by split <;> omega
        exact ⟨k + 1, by omega, by go_num, by first | rw [HT.out, e] | rw [HT.out]⟩
      case measure => simp [Go.RowKit.intOf]; omega
    · have hkn : n = k := by omega
      subst hkn
      rw [List.take_of_length_le (by rw [HN.out]; omega)] at b0 b1 ⊢
      go_wp2
      go_ret
      exact ⟨rfl, rfl⟩

def fIx (f : Int × Int → Bool) (g : Bool) (l : List (Int × Int)) : Nat → Int
  | 0 => -1
  | k + 1 => match l[k]? with
    | some a => if f a && (decide (fIx f g l k < 0) || !g) then (k : Int) else fIx f g l k
    | none => fIx f g l k
theorem fIx_bd (f : Int × Int → Bool) (g : Bool) (l : List (Int × Int)) : ∀ k, -1 ≤ fIx f g l k ∧ fIx f g l k < k
  | 0 => ⟨Int.le_refl _, by show (-1 : Int) < 0; omega⟩
  | k + 1 => by
    have := fIx_bd f g l k
    unfold fIx
    split
    · split <;> omega
    · omega
theorem fIx_at (f : Int × Int → Bool) (g : Bool) (l : List (Int × Int)) (k : Nat) (a : Int × Int) (h : l[k]? = some a) : fIx f g l (k + 1) = if f a && (decide (fIx f g l k < 0) || !g) then (k : Int) else fIx f g l k := by
  show (match l[k]? with | some a => _ | none => _) = _
  rw [h]

theorem fIx_true (f : Int × Int → Bool) (l : List (Int × Int)) : ∀ k, k ≤ l.length → (fIx f true l k = -1 ∧ (l.take k).find? f = none) ∨ ∃ (j : Nat) (a : Int × Int), j < k ∧ fIx f true l k = (j : Int) ∧ l[j]? = some a ∧ (l.take k).find? f = some a
  | 0, _ => .inl ⟨rfl, rfl⟩
  | k + 1, h => by
    obtain ⟨x, hx⟩ : ∃ x, l[k]? = some x := ⟨_, List.getElem?_eq_getElem (by omega)⟩
    have e := fIx_at f true l k x hx
    have et : (l.take (k + 1)).find? f = ((l.take k).find? f).or (if f x then some x else none) := by
      rw [List.take_add_one, hx, List.find?_append]
      congr 1
      show [x].find? f = _
      rw [List.find?_cons]
      cases f x <;> rfl
    rcases fIx_true f l k (by omega) with ⟨e1, e2⟩ | ⟨j, a, hj, e1, e2, e3⟩
    · rw [e1] at e
      cases hf : f x
      · exact .inl ⟨by rw [e, hf]; rfl, by rw [et, e2, hf]; rfl⟩
      · exact .inr ⟨k, x, by omega, by rw [e, hf]; rfl, hx, by rw [et, e2, hf]; rfl⟩
    · refine .inr ⟨j, a, by omega, ?_, e2, by rw [et, e3]; rfl⟩
      rw [e, e1, decide_eq_false (by omega)]
      simp
theorem eraseIdx_perm : ∀ (l : List (Int × Int)) (j : Nat) (a : Int × Int), l[j]? = some a → (a :: l.eraseIdx j).Perm l
  | [], j, a, h => by simp at h
  | x :: l, 0, a, h => by simp at h; subst h; exact List.Perm.refl _
  | x :: l, j + 1, a, h => by
    have ih := eraseIdx_perm l j a (by simpa using h)
    exact (List.Perm.swap x a _).trans (List.Perm.cons x ih)
theorem eraseIdx_erase {l : List (Int × Int)} (hl : pSorted l) {j : Nat} {a : Int × Int} (h : l[j]? = some a) : l.eraseIdx j = l.erase a := by
  refine pSorted_eq _ _ (List.Pairwise.sublist (List.eraseIdx_sublist ..) hl) (erase_sorted _ hl) ?_
  exact (List.perm_cons _).1 ((eraseIdx_perm l j a h).trans (List.perm_cons_erase (List.mem_of_getElem? h)))

set_option maxRecDepth 100000 in
set_option maxHeartbeats 2000000 in
theorem specFull_any (l : List (Int × Int)) (v : Value) (m : Int) (g : Bool) (w : World) (lo : Nat) (hP : PartsV lo w v l) (hl : l.length ≤ 1000) (h0 : ∀ a ∈ l, 0 ≤ a.1 ∧ a.1 ≤ 1000) (hm : -1000 ≤ m ∧ m ≤ 1000) :
    Calls Tryz.prog 115 #[v, .int .i64 m, .bool g] w fun e w' => e = .returned (.int .i64 (fIx (pFull l m) g l l.length)) ∧ Quiet w w' := by
  have R := hide (fun (j : Int) (hj : 0 ≤ j ∧ j ≤ 1000) (w' : World) (hP : PartsV lo w' v l) => specRoom_any l v m j w' lo hP hl h0 hj hm)
  have HP := hide hP
  obtain ⟨n, hn⟩ : ∃ n, l.length = n := ⟨_, rfl⟩
  obtain ⟨a, c, rfl, hf⟩ := hP.form hn
  have HN := hide hn
  have HF := hide hf
  have H0 := hide h0
  rw [hn] at hl ⊢
  obtain ⟨m0, m1⟩ := hm
  clear hP hn hf h0
  go_enter Tryz.func115, Tryz.ntmps115
  go_wp2
  go_loopw [7, 8] (fun t i wr => ∃ k : Nat, k ≤ n ∧ i = .int .i64 (k : Int) ∧ t = .int .i64 (fIx (pFull l m) g l k) ∧ Hid (Quiet w wr)) (fun _ i _ => n - (Go.RowKit.intOf i).toNat)
  case atStart => exact ⟨0, Nat.zero_le _, rfl, rfl, Quiet.refl _⟩
  case round =>
    obtain ⟨k, hk, rfl, rfl, HQ⟩ := hrel
    obtain ⟨b0, b1⟩ := fIx_bd (pFull l m) g l k
    by_cases hlt : k < n
    · obtain ⟨q, rfl, hq0, hq⟩ := HF.out (by omega)
      obtain ⟨x, hx⟩ : ∃ x, l[k]? = some x := ⟨_, List.getElem?_eq_getElem (by rw [HN.out]; exact hlt)⟩
      obtain ⟨g1, g2⟩ := encZ_get l k x hx
      have c1 : wr.cell? ⟨q, k * 2, none⟩ = some (.int .i64 x.1) := ((HQ.out.cells hq) _ _ g1).1
      have c2 : wr.cell? ⟨q, k * 2 + 1, none⟩ = some (.int .i64 x.2) := ((HQ.out.cells hq) _ _ g2).1
      have HT := hide (fIx_at (pFull l m) g l k x hx)
      have hx1 := H0.out x (List.mem_of_getElem? hx)
      have C := hide (fun (w' : World) (h : Quiet w w') => R.out x.1 hx1 w' (HP.out.below (h.2 w.heap.size) (Nat.le_refl _)))
      have hff : pFull l m x = decide (x.2 = pRoom l m x.1) := rfl
      obtain ⟨y, hy⟩ : ∃ y, y = x.1 := ⟨_, rfl⟩
      obtain ⟨z, hz⟩ : ∃ z, z = x.2 := ⟨_, rfl⟩
      obtain ⟨r, hr⟩ : ∃ r, r = pRoom l m x.1 := ⟨_, rfl⟩
      obtain ⟨t, ht⟩ : ∃ t, t = fIx (pFull l m) g l k := ⟨_, rfl⟩
      rw [← hr] at C hff
      rw [← hy] at c1 C
      rw [← hz] at c2 hff
      rw [← ht, hff] at HT
      rw [← ht] at b0 b1 ⊢
      have CC := hide (fun N => C.out (wr.drewN N) (HQ.out.trans (Quiet.drewN N)))
      clear hx g1 g2 hq hy hz hr ht hff C hx1
      have i0 : (0 : Int) ≤ (k : Int) := by omega
      have i1 : (k : Int) < (n : Int) := by omega
      by_cases hzr : z = r
      · subst hzr
        have hzz : ((z : Int) == z) = true := by simp
        by_cases ht0 : t < 0
        · have d1 : decide (t < 0) = true := by simpa using ht0
          go_wp2
          go_quiet ((go_at_call 117; exact Calls.quiet_of_same (CC.out _)))
          go_wp2
          go_roundw
          case rel => exact ⟨k + 1, by omega, by go_num, by rw [HT.out]; simp [ht0], HQ.out.trans (Quiet.drewN _)⟩
          case measure => simp [Go.RowKit.intOf]; omega
        · have d1 : decide (t < 0) = false := by simpa using ht0
          cases g
          · go_wp2
            go_quiet ((go_at_call 117; exact Calls.quiet_of_same (CC.out _)))
            go_wp2
            go_roundw
            case rel => exact ⟨k + 1, by omega, by go_num, by rw [HT.out]; simp, HQ.out.trans (Quiet.drewN _)⟩
            case measure => simp [Go.RowKit.intOf]; omega
          · go_wp2
            go_quiet ((go_at_call 117; exact Calls.quiet_of_same (CC.out _)))
            go_wp2
            go_roundw
            case rel => exact ⟨k + 1, by omega, by go_num, by rw [HT.out]; simp; omega, HQ.out.trans (Quiet.drewN _)⟩
            case measure => simp [Go.RowKit.intOf]; omega
      · have hzz : ((z : Int) == r) = false := beq_eq_false_iff_ne.2 hzr
        go_wp2
        go_quiet ((go_at_call 117; exact Calls.quiet_of_same (CC.out _)))
        go_wp2
        go_roundw
        case rel => exact ⟨k + 1, by omega, by go_num, by rw [HT.out]; simp [hzr], HQ.out.trans (Quiet.drewN _)⟩
        case measure => simp [Go.RowKit.intOf]; omega
    · have hkn : n = k := by omega
      subst hkn
      go_wp2
      go_ret
      exact ⟨rfl, HQ.out⟩
end Go.Proofs.YtdooboibmllfkabGreatDoor

namespace Go.Proofs.YtdooboibmllfkabGreatDoor
set_option maxRecDepth 100000
open Go.RowKit

theorem infoP : (Tryz.prog.info? 132).map (fun i => (i.zero, i.size, i.bytes)) = some (some (.agg #[.int .i64 0, .int .i64 0]), 2, 16) := by kernel_rfl
theorem encZ_one (l : List (Int × Int)) : ∀ u ∈ encZ l, u.oneCell' = true := by
  intro u hu
  unfold encZ at hu
  obtain ⟨a, _, ha⟩ := List.mem_flatMap.1 hu
  simp at ha
  rcases ha with rfl | rfl <;> rfl
theorem encZ_app (l m : List (Int × Int)) : encZ (l ++ m) = encZ l ++ encZ m := by unfold encZ; rw [List.flatMap_append]
theorem encZ_cons (a : Int × Int) (l : List (Int × Int)) : encZ (a :: l) = .int .i64 a.1 :: .int .i64 a.2 :: encZ l := rfl
theorem encZ_take (l : List (Int × Int)) (k : Nat) : encZ (l.take k) = (encZ l).take (k * 2) := by
  by_cases hk : k ≤ l.length
  · have e := encZ_app (l.take k) (l.drop k)
    rw [List.take_append_drop] at e
    rw [e, List.take_left' (by rw [encZ_length, List.length_take, Nat.min_eq_left hk])]
  · rw [List.take_of_length_le (by omega), List.take_of_length_le (by rw [encZ_length]; omega)]
theorem encZ_drop (l : List (Int × Int)) (k : Nat) : encZ (l.drop k) = (encZ l).drop (k * 2) := by
  by_cases hk : k ≤ l.length
  · have e := encZ_app (l.take k) (l.drop k)
    rw [List.take_append_drop] at e
    rw [e, List.drop_left' (by rw [encZ_length, List.length_take, Nat.min_eq_left hk])]
  · rw [List.drop_of_length_le (by omega), List.drop_of_length_le (by rw [encZ_length]; omega)]; rfl
theorem PartsV.of_owns {w : World} {base e n : Nat} {v : Value} {l : List (Int × Int)} (h : w.ownsRow base e 2 v n (encZ l)) : PartsV base w v l := by
  have hl : l.length = n := by have := h.1; rw [encZ_length] at this; omega
  have hlt := h.lt
  rcases h.2 with ⟨rfl, rfl⟩ | ⟨g, cap, cur, rfl, hb, hg, hnc, hcm, hcs, htake⟩
  · exact .inl ⟨_, _, rfl, List.eq_nil_of_length_eq_zero hl⟩
  · refine .inr ⟨g, cap, by rw [hl], by omega, hb, (hlt g rfl).2, ?_⟩
    intro j u hu
    have hj : j < n * 2 := by have := h.1; have := (List.getElem?_eq_some_iff.1 hu).1; omega
    exact ⟨by rw [h.cellAt j hj]; exact hu, h.frozenAt j⟩
theorem owns_far {w w' : World} {b e n s : Nat} {v : Value} {xs : List Value} (h : w.ownsRow b e s v n xs) (hk : ∀ g, v.ownBlock = some g → w'.heap[g]? = w.heap[g]?) : w'.ownsRow b e s v n xs := by
  refine ⟨h.1, ?_⟩
  rcases h.2 with h2 | ⟨g, cap, cur, rfl, hb, hg, h3⟩
  · exact .inl h2
  · exact .inr ⟨g, cap, cur, rfl, hb, (hk g rfl).trans hg, h3⟩
theorem owns_below2 {w w' : World} {B b e n s : Nat} {v : Value} {xs : List Value} (h : w.ownsRow b e s v n xs) (hb : Below B w w') (hB : w.heap.size ≤ B) : w'.ownsRow b e s v n xs :=
  owns_far h (fun g hg => hb.block g (by have := (h.lt g hg).2; omega))
theorem owns_lo {w : World} {b b' e n s : Nat} {v : Value} {xs : List Value} (h : w.ownsRow b e s v n xs) (hb : b' ≤ b) : w.ownsRow b' e s v n xs := by
  refine ⟨h.1, ?_⟩
  rcases h.2 with h2 | ⟨g, cap, cur, rfl, h1, h3⟩
  · exact .inl h2
  · exact .inr ⟨g, cap, cur, rfl, by omega, h3⟩
theorem owns_take {w : World} {b e n k : Nat} {a : Option Addr} {c : Nat} {l : List (Int × Int)} (h : w.ownsRow b e 2 (.slice a n c) n (encZ l)) (hk : k ≤ n) (hn : 0 < n) : w.ownsRow b e 2 (.slice a k c) k (encZ (l.take k)) := by
  have hl : l.length = n := by have := h.1; rw [encZ_length] at this; omega
  rcases h.2 with ⟨h1, h2⟩ | ⟨g, cap, cur, h1, hb, hg, h3, h4, h5, h6⟩
  · omega
  · injection h1 with h1 _ h2
    subst h1 h2
    refine ⟨by rw [encZ_length, List.length_take]; omega, .inr ⟨g, c, cur, rfl, hb, hg, by omega, h4, h5, ?_⟩⟩
    rw [encZ_take, ← h6, List.take_take, Nat.min_eq_left (by omega)]

theorem run_copy_rowK {P : Program} (k : Nat) (w : World) (dT sT ty elem : TypeId) (g o dLen dCap : Nat) (a : Addr) (sLen sCap : Nat) (cur : Array Value) (t : TypeId) (cs : List Value)
    (hu : P.underlying dT = some (.slice elem)) (hs : (P.info? elem).map (·.size) = some k)
    (hg : w.heap[g]? = some (.cells cur t (0, 0))) (hn : cs.length = Nat.min sLen dLen * k)
    (hsrc : ∀ j v, cs[j]? = some v → w.cell? (a.add j) = some v) (hfit : o + cs.length ≤ cur.size) (h1 : ∀ v ∈ cs, v.oneCell' = true) :
    (Builtin.copy_ #[dT, sT] ty #[.slice (some ⟨g, o, none⟩) dLen dCap, .slice (some a) sLen sCap]).run P w =
      .ok (goInt (Nat.min sLen dLen)) (w.setRow g (cur.toList.take o ++ cs ++ cur.toList.drop (o + cs.length)).toArray) := by
  have hl := run_loadCells_list (P := P) w a cs hsrc
  have hst := run_storeCells_at P g o t cs 0 cur w hg (by simpa using hfit) h1
  simp only [Nat.add_zero] at hst
  cases hq : P.info? elem with
  | none => simp [hq] at hs
  | some i =>
    have hi : i.size = k := by simpa [hq] using hs
    simp [Builtin.copy_, run_underlying hu, Builtin.lenOf, Builtin.firstCells, sizeOf, typeInfo, hq, hi, ← hn, hl, hst]
theorem run_clear_rowK {P : Program} (w : World) (t e ty : TypeId) (z : Value) (ht : P.underlying t = some (.slice e)) (hv : ∀ w, (zeroValue e).run P w = .ok z w) (h1 : ∀ u ∈ z.cells.toList, u.oneCell' = true) (g o n c : Nat) (cur : Array Value) (tt : TypeId) (hn : 0 < n)
    (hg : w.heap[g]? = some (.cells cur tt (0, 0))) (hfit : o + n * z.cells.size ≤ cur.size) (hzs : 0 < z.cells.size) :
    (Builtin.clear_ #[t] ty #[.slice (some ⟨g, o, none⟩) n c]).run P w = .ok (.tuple #[]) (w.setRow g (cur.toList.take o ++ (Builtin.zeroCells z.cells n).toList ++ cur.toList.drop (o + n * z.cells.size)).toArray) := by
  have hlen : (Builtin.zeroCells z.cells n).toList.length = n * z.cells.size := by rw [Array.length_toList, size_zeroCells]
  have hst := run_storeCells_at P g o tt (Builtin.zeroCells z.cells n).toList 0 cur w hg (by rw [hlen]; simpa using hfit) (by
    intro u hu
    unfold Builtin.zeroCells at hu
    simp only [Array.toList_map, List.mem_map] at hu
    obtain ⟨j, _, rfl⟩ := hu
    have hj : j % z.cells.size < z.cells.size := Nat.mod_lt _ hzs
    rw [getElem!_pos z.cells (j % z.cells.size) hj]
    exact h1 _ (Array.getElem_mem_toList hj))
  rw [hlen] at hst
  simp only [Nat.add_zero] at hst
  obtain ⟨m, rfl⟩ : ∃ m, n = m + 1 := ⟨n - 1, by omega⟩
  simp [Builtin.clear_, run_underlying ht, hv, hst]

theorem wpList_copy_eq {P : Program} (w : World) {ops : Array Oper} {rest : List Oper} {o : Oper} {a : Act} {Q : Exit → Act → World → Prop} (hgd : o.guard = none) (d s : Operand) (t t' : TypeId)
    (ho : o.op = .call { callee := .builtin .copy, args := #[d, s], argTypes := #[t, t'] }) (v u : Value) (hd : a.eval d = v) (hs : a.eval s = u) {v' : Value} {w' : World}
    (hr : (Builtin.copy_ #[t, t'] o.type #[v, u]).run P w = .ok v' w') (h : wpList P ops Q rest (a.put o.dst v') w') : wpList P ops Q (o :: rest) a w := by
  refine wpList_plain hgd fun K hK => ?_
  unfold Oper.wp execOp
  simp only [ho, resolve, invoke, builtin, Sem.run_bind, Sem.run_pure, Result.andThen_ok, List.map_toArray, List.map_cons, List.map_nil, hd, hs, hr]
  exact hK _ _ h
theorem step_copy_eq {P : Program} {ops : Array Oper} {o : Oper} {a : Act} {w : World} {K : Act → World → Prop} {Q : Exit → Act → World → Prop} {E : Prop} (hgd : o.guard = none) (d s : Operand) (t t' : TypeId)
    (ho : o.op = .call { callee := .builtin .copy, args := #[d, s], argTypes := #[t, t'] }) (v u : Value) (hd : a.eval d = v) (hs : a.eval s = u) {v' : Value} {w' : World}
    (hr : (Builtin.copy_ #[t, t'] o.type #[v, u]).run P w = .ok v' w') (h : K (a.put o.dst v') w') : if Region.wanted o (yielded ops a.tmps) = true then Oper.wp P o a w K Q else E := by
  have hw : Region.wanted o (yielded ops a.tmps) = true := by simp [Region.wanted, hgd]
  rw [if_pos hw]
  unfold Oper.wp execOp
  simp only [ho, resolve, invoke, builtin, Sem.run_bind, Sem.run_pure, Result.andThen_ok, List.map_toArray, List.map_cons, List.map_nil, hd, hs, hr]
  exact h
theorem wpList_clear_eq {P : Program} (w : World) {ops : Array Oper} {rest : List Oper} {o : Oper} {a : Act} {Q : Exit → Act → World → Prop} (hgd : o.guard = none) (s : Operand) (t : TypeId)
    (ho : o.op = .call { callee := .builtin .clear, args := #[s], argTypes := #[t] }) (u : Value) (hs : a.eval s = u) {v' : Value} {w' : World}
    (hr : (Builtin.clear_ #[t] o.type #[u]).run P w = .ok v' w') (h : wpList P ops Q rest (a.put o.dst v') w') : wpList P ops Q (o :: rest) a w := by
  refine wpList_plain hgd fun K hK => ?_
  unfold Oper.wp execOp
  simp only [ho, resolve, invoke, builtin, Sem.run_bind, Sem.run_pure, Result.andThen_ok, List.map_toArray, List.map_cons, List.map_nil, hs, hr]
  exact hK _ _ h

structure Only (r : Nat) (row : Option Nat) (w w' : World) : Prop where
  os : w'.os = w.os
  tape : w'.tape = w.tape
  output : w'.output = w.output
  size : w.heap.size ≤ w'.heap.size
  block : ∀ k, k < w.heap.size → k ≠ r → some k ≠ row → w'.heap[k]? = w.heap[k]?
theorem Only.refl (r : Nat) (row : Option Nat) (w : World) : Only r row w w := ⟨rfl, rfl, rfl, Nat.le_refl _, fun _ _ _ _ => rfl⟩
theorem Only.below {r : Nat} {row : Option Nat} {w w' : World} {lo : Nat} (h : Only r row w w') (h1 : lo ≤ r) (h2 : ∀ g, row = some g → lo ≤ g) (h3 : lo ≤ w.heap.size) : Below lo w w' :=
  ⟨h.os, h.tape, h.output, h.size, fun k hk => h.block k (by omega) (by omega) (fun e => by have := h2 k e.symm; omega)⟩
theorem Only.of_below {w w' : World} (r : Nat) (row : Option Nat) (h : Below w.heap.size w w') : Only r row w w' := ⟨h.os, h.tape, h.output, h.size, fun k hk _ _ => h.block k hk⟩
theorem Only.of_grown {w w' : World} (r : Nat) {row : Option Nat} (h : w.grownBy w' row) : Only r row w w' := ⟨h.os, h.tape, h.output, h.size, fun k hk _ hne => h.block k hk hne⟩
theorem Only.setCell {w : World} (r j : Nat) (row : Option Nat) (u : Value) : Only r row w (w.setCell ⟨r, j, none⟩ u) :=
  ⟨rfl, rfl, rfl, by simp [World.setCell], fun k _ hr _ => Below.heap_setCell _ _ _ _ hr⟩
theorem Only.trans {r : Nat} {row row' : Option Nat} {a b c : World} (h : Only r row a b) (k : Only r row' b c) (hr : row' = row ∨ ∃ g, row' = some g ∧ a.heap.size ≤ g) : Only r row a c := by
  refine ⟨k.os.trans h.os, k.tape.trans h.tape, k.output.trans h.output, Nat.le_trans h.size k.size, fun i hi h1 h2 => ?_⟩
  refine (k.block i (Nat.lt_of_lt_of_le hi h.size) h1 ?_).trans (h.block i hi h1 h2)
  rcases hr with rfl | ⟨g, rfl, hg⟩
  · exact h2
  · intro e; injection e with e; omega
theorem Only.cells {r g : Nat} {row : Option Nat} {w w' : World} {l : List Value} (h : Only r row w w') (hc : CellsAt w g l) (h1 : g ≠ r) (h2 : some g ≠ row) : CellsAt w' g l := by
  intro j v hv
  obtain ⟨a, b⟩ := hc j v hv
  have hlt : g < w.heap.size := World.block_lt_of_cell? w _ a
  have e := h.block g hlt h1 h2
  exact ⟨(World.cell?_of_block (a := ⟨g, j, none⟩) e).trans a, (World.frozen?_of_block (a := ⟨g, j, none⟩) e).trans b⟩
def RowNext (w : World) (v v' : Value) : Prop := v'.ownBlock = v.ownBlock ∨ ∃ g, v'.ownBlock = some g ∧ w.heap.size ≤ g
theorem RowNext.refl (w : World) (v : Value) : RowNext w v v := .inl rfl
theorem RowNext.trans {w w' : World} {a b c : Value} (h : RowNext w a b) (k : RowNext w' b c) (hs : w.heap.size ≤ w'.heap.size) : RowNext w a c := by
  rcases k with e | ⟨g, e, hg⟩
  · rcases h with e' | ⟨g', e', hg'⟩
    · exact .inl (e.trans e')
    · exact .inr ⟨g', e.trans e', hg'⟩
  · exact .inr ⟨g, e, by omega⟩
theorem RowNext.only {r : Nat} {a b c : World} {v v' : Value} (h : Only r v.ownBlock a b) (n : RowNext a v v') (k : Only r v'.ownBlock b c) : Only r v.ownBlock a c := h.trans k n
end Go.Proofs.YtdooboibmllfkabGreatDoor

namespace Go.Proofs.YtdooboibmllfkabGreatDoor
set_option maxRecDepth 100000
open Go.RowKit

theorem put_at : ∀ (l : List (Int × Int)) (a : Int × Int) (k : Nat), k ≤ l.length → (∀ (j : Nat) (x : Int × Int), j < k → l[j]? = some x → pLess x a = false) → (∀ x, l[k]? = some x → pLess x a = true) → l.take k ++ [a] ++ l.drop k = pPut l a
  | [], a, k, hk, _, _ => by
    have : k = 0 := by simpa using hk
    subst this
    rfl
  | y :: l, a, 0, _, _, h2 => by
    have := h2 y rfl
    rw [pPut_cons, if_pos this]
    rfl
  | y :: l, a, k + 1, hk, h1, h2 => by
    have h0 := h1 0 y (Nat.succ_pos _) rfl
    have ih := put_at l a k (by simpa using hk) (fun j x hj hx => h1 (j + 1) x (by omega) (by simpa using hx)) (fun x hx => h2 x (by simpa using hx))
    rw [pPut_cons, h0, if_neg (by simp), ← ih]
    rfl
theorem ins_at {l : List (Int × Int)} {a : Int × Int} {k : Nat} (hs : pSorted l) (h1 : ∀ (j : Nat) (x : Int × Int), j < k → l[j]? = some x → pLess a x = true) (h2 : ∀ (j : Nat) (x : Int × Int), k ≤ j → l[j]? = some x → pLess a x = false) : l.take k ++ a :: l.drop k = pPut l a := by
  have hsp : pSorted (l.take k ++ l.drop k) := by rw [List.take_append_drop]; exact hs
  obtain ⟨s1, s2, s3⟩ := List.pairwise_append.1 hsp
  have m1 : ∀ x ∈ l.take k, pLess a x = true := by
    intro x hx
    obtain ⟨j, hj⟩ := List.mem_iff_getElem?.1 hx
    have hjk : j < k := by
      have := (List.getElem?_eq_some_iff.1 hj).1
      rw [List.length_take] at this
      omega
    rw [List.getElem?_take_of_lt hjk] at hj
    exact h1 j x hjk hj
  have m2 : ∀ x ∈ l.drop k, pLess a x = false := by
    intro x hx
    obtain ⟨j, hj⟩ := List.mem_iff_getElem?.1 hx
    rw [List.getElem?_drop] at hj
    exact h2 (k + j) x (by omega) hj
  refine pSorted_eq _ _ ?_ (pPut_sorted l a hs) ?_
  · refine List.pairwise_append.2 ⟨s1, List.pairwise_cons.2 ⟨m2, s2⟩, fun x hx y hy => ?_⟩
    rcases List.mem_cons.1 hy with rfl | hy
    · have := (pLess_iff _ _).1 (m1 x hx)
      rw [pLess_false]
      omega
    · exact s3 x hx y hy
  · have p1 := List.perm_middle (a := a) (l₁ := l.take k) (l₂ := l.drop k)
    rw [List.take_append_drop] at p1
    exact p1.trans (pPut_perm l a).symm
theorem take_put {l : List (Int × Int)} (hs : pSorted l) {k : Nat} {x : Int × Int} (hx : l[k]? = some x) : pPut (l.take k) x = l.take (k + 1) := by
  have e : l.take (k + 1) = l.take k ++ [x] := by rw [List.take_add_one, hx]; rfl
  rw [e]
  refine put_last ?_
  rw [← e]
  exact List.Pairwise.sublist (List.take_sublist ..) hs
end Go.Proofs.YtdooboibmllfkabGreatDoor

namespace Go.Proofs.YtdooboibmllfkabGreatDoor
set_option maxRecDepth 100000
open Go.RowKit

def cmpI (a b : Int) : Int := if a < b then -1 else if b < a then 1 else 0

set_option maxRecDepth 100000 in
theorem isNaN_any (x : Int) (w : World) : Calls Tryz.prog 178 #[.int .i64 x] w fun e w' => e = .returned (.bool false) ∧ w = w' := by
  have hb : ((x : Int) != x) = false := by simp
  go_enter Tryz.func178, Tryz.ntmps178
  go_wp2
  go_ret
  exact ⟨rfl, rfl⟩

set_option maxRecDepth 100000 in
theorem compare_any (a b : Int) (w : World) : Calls Tryz.prog 155 #[.int .i64 a, .int .i64 b] w fun e w' => e = .returned (.int .i64 (cmpI a b)) ∧ w = w' := by
  unfold cmpI
  by_cases h1 : a < b
  · rw [if_pos h1]
    go_enter Tryz.func155, Tryz.ntmps155
    go_wp2_with (go_at_call 178; refine (isNaN_any _ _).mono ?_; rintro e w' ⟨rfl, rfl⟩)
    go_ret
    exact ⟨rfl, rfl⟩
  · rw [if_neg h1]
    by_cases h2 : b < a
    · rw [if_pos h2]
      go_enter Tryz.func155, Tryz.ntmps155
      go_wp2_with (go_at_call 178; refine (isNaN_any _ _).mono ?_; rintro e w' ⟨rfl, rfl⟩)
      go_ret
      exact ⟨rfl, rfl⟩
    · rw [if_neg h2]
      go_enter Tryz.func155, Tryz.ntmps155
      go_wp2_with (go_at_call 178; refine (isNaN_any _ _).mono ?_; rintro e w' ⟨rfl, rfl⟩)
      go_ret
      exact ⟨rfl, rfl⟩

theorem falling_any (a b : Int) (w : World) : Calls Tryz.prog 167 #[.int .i64 a, .int .i64 b] w fun e w' => e = .returned (.int .i64 (cmpI b a)) ∧ w = w' := by
  have C := hide (fun w => compare_any b a w)
  obtain ⟨x, hx⟩ : ∃ x, x = cmpI b a := ⟨_, rfl⟩
  rw [← hx] at C ⊢
  clear hx
  go_enter Tryz.func167, Tryz.ntmps167
  go_wp2_with (go_at_call 155; refine (C.out _).mono ?_; rintro e w' ⟨rfl, rfl⟩)
  go_ret
  exact ⟨rfl, rfl⟩
end Go.Proofs.YtdooboibmllfkabGreatDoor

namespace Go.Proofs.YtdooboibmllfkabGreatDoor
set_option maxRecDepth 100000
open Go.RowKit Go.Sort Go.Shelf

def Grw (w w' : World) : Prop := ∃ (q : Nat) (os : Array Obj), w' = grow (w.drewN q) os
theorem Grw.refl (w : World) : Grw w w := ⟨0, #[], by rw [grow_empty]; rfl⟩
theorem Grw.trans {a b c : World} (h : Grw a b) (k : Grw b c) : Grw a c := by
  obtain ⟨n, os, rfl⟩ := h
  obtain ⟨q, os', rfl⟩ := k
  exact ⟨n + q, os ++ os', by show grow (grow ((a.drewN n).drewN q) os) os' = _; rw [grow_grow, World.drewN_drewN]⟩
theorem Grw.alloc (w : World) (o : Obj) : Grw w (w.alloc o) := ⟨0, #[o], by rw [alloc_eq_grow]; rfl⟩
theorem Grw.drew (w : World) : Grw w w.drew := ⟨1, #[], by rw [grow_empty]; rfl⟩
theorem Grw.mk (w : World) (q : Nat) (os : Array Obj) : Grw w (grow (w.drewN q) os) := ⟨q, os, rfl⟩
theorem Grw.below {w w' : World} (h : Grw w w') : Below w.heap.size w w' := by
  obtain ⟨q, os, rfl⟩ := h
  refine ⟨rfl, rfl, rfl, ?_, fun k hk => ?_⟩
  · show w.heap.size ≤ (w.heap ++ os).size
    rw [Array.size_append]; omega
  · show (w.heap ++ os)[k]? = _
    rw [Array.getElem?_append_left hk]
theorem Grw.size {w w' : World} (h : Grw w w') : w.heap.size ≤ w'.heap.size := h.below.size
theorem Grw.cells {w w' : World} (h : Grw w w') {g : Nat} {l : List Value} (hc : CellsAt w g l) : CellsAt w' g l := hc.below' h.below (Nat.le_refl _)

set_option maxRecDepth 100000 in
set_option maxHeartbeats 400000 in
theorem specLess_grw (a b : Int × Int) (w : World) :
    Calls Tryz.prog 147 #[pV a, pV b] w fun e w' => e = .returned (.bool (pLess a b)) ∧ Grw w w' := by
  unfold pLess pV
  obtain ⟨a1, a2⟩ := a
  obtain ⟨b1, b2⟩ := b
  by_cases h1 : a1 < b1
  · have d1 : decide (a1 < b1) = true := by simpa using h1
    go_enter Tryz.func147, Tryz.ntmps147
    go_wp2
    go_ret
    exact ⟨by simp [h1], (Grw.alloc w _).trans (Grw.alloc _ _)⟩
  · have d1 : decide (a1 < b1) = false := by simpa using h1
    by_cases h2 : a1 = b1
    · subst h2
      have d2 : ((a1 : Int) == a1) = true := by simp
      go_enter Tryz.func147, Tryz.ntmps147
      go_wp2
      go_ret
      exact ⟨by simp, (Grw.alloc w _).trans (Grw.alloc _ _)⟩
    · have d2 : ((a1 : Int) == b1) = false := beq_eq_false_iff_ne.2 h2
      go_enter Tryz.func147, Tryz.ntmps147
      go_wp2
      go_ret
      exact ⟨by simp, (Grw.alloc w _).trans (Grw.alloc _ _)⟩

def cpP (a b : Int × Int) : Int := if cmpI b.1 a.1 = 0 then cmpI b.2 a.2 else cmpI b.1 a.1
theorem cmpI_lt (x y : Int) : cmpI x y < 0 ↔ x < y := by
  unfold cmpI
  by_cases h1 : x < y
  · simp [h1]
  · by_cases h2 : y < x
    · rw [if_neg h1, if_pos h2]; omega
    · rw [if_neg h1, if_neg h2]; omega
theorem cmpI_eq (x y : Int) : cmpI x y = 0 ↔ x = y := by
  unfold cmpI
  by_cases h1 : x < y
  · rw [if_pos h1]; omega
  · by_cases h2 : y < x
    · rw [if_neg h1, if_pos h2]; omega
    · rw [if_neg h1, if_neg h2]; omega
theorem cpP_lt (a b : Int × Int) : decide (cpP a b < 0) = pLess b a := by
  unfold cpP pLess
  by_cases h : b.1 = a.1
  · rw [if_pos ((cmpI_eq _ _).2 h)]
    have : decide (cmpI b.2 a.2 < 0) = decide (b.2 < a.2) := decide_eq_decide.2 (cmpI_lt _ _)
    rw [this]
    simp [h]
  · rw [if_neg (fun e => h ((cmpI_eq _ _).1 e))]
    have : decide (cmpI b.1 a.1 < 0) = decide (b.1 < a.1) := decide_eq_decide.2 (cmpI_lt _ _)
    rw [this]
    simp [h]

set_option maxHeartbeats 400000 in
theorem or_any (x y r : Int) (hr : (if x = 0 then y else x) = r) (b c : Nat) (w : World) (h0 : w.cell? ⟨b, 0, none⟩ = some (.int .i64 x)) (h1 : w.cell? ⟨b, 1, none⟩ = some (.int .i64 y)) :
    Calls Tryz.prog 238 #[.slice (some ⟨b, 0, none⟩) 2 c] w fun e w' => e = .returned (.int .i64 r) ∧ w' = w := by
  subst hr
  by_cases hx : x = 0
  · subst hx
    by_cases hy : y = 0
    · subst hy
      go_enter Tryz.func238, Tryz.ntmps238
      go_wp2
      refine wp_loop_rounds 3 ?_
      rw [rounds_succ]
      go_wp2
      rw [rounds_succ]
      go_wp2
      rw [rounds_succ]
      go_wp2
      go_ret
      exact ⟨rfl, rfl⟩
    · have hb : ((y : Int) != 0) = true := by simpa using hy
      go_enter Tryz.func238, Tryz.ntmps238
      go_wp2
      refine wp_loop_rounds 2 ?_
      rw [rounds_succ]
      go_wp2
      rw [rounds_succ]
      go_wp2
      go_ret
      exact ⟨rfl, rfl⟩
  · have hb : ((x : Int) != 0) = true := by simpa using hx
    rw [if_neg hx]
    go_enter Tryz.func238, Tryz.ntmps238
    go_wp2
    refine wp_loop_rounds 1 ?_
    rw [rounds_succ]
    go_wp2
    go_ret
    exact ⟨rfl, rfl⟩
end Go.Proofs.YtdooboibmllfkabGreatDoor
