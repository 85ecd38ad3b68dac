/- TEXTS Col1, RowBalls. -/
import Derived.Test.Ytkdhifofdghbbabexc01
import Derived.Test.Ytkdhifofdghbbabexc04
/- MOVES OF A COLOUR: a carrier with room for all balls of one colour; balls of other colours stand in its way for nobody. Pure: nothing of the program is named here. -/
namespace Go.Proofs.Ytkdhifofdghbbab
open Go.RowKit

/-- a box and a load: what is left in the box, and the load behind it -/
def cg (c x : UInt8) (u : Nat) : UInt8 × Nat := if x = c then (48, u + 1) else if x = 48 ∧ 0 < u then (c, u - 1) else (x, u)
def cMv (c : UInt8) : List UInt8 → Nat → List UInt8
  | [], _ => []
  | x :: l, u => (cg c x u).1 :: cMv c l (cg c x u).2
def cLd (c : UInt8) : List UInt8 → Nat → Nat
  | [], u => u
  | x :: l, u => cLd c l (cg c x u).2
theorem cMv_length (c : UInt8) : ∀ (l : List UInt8) (u : Nat), (cMv c l u).length = l.length
  | [], _ => rfl
  | x :: l, u => by show (cMv c l _).length + 1 = l.length + 1; rw [cMv_length c l]
theorem cMv_append (c : UInt8) : ∀ (l m : List UInt8) (u : Nat), cMv c (l ++ m) u = cMv c l u ++ cMv c m (cLd c l u)
  | [], _, _ => rfl
  | x :: l, m, u => by show _ :: cMv c (l ++ m) _ = _ :: (cMv c l _ ++ cMv c m _); rw [cMv_append c l m]; rfl
theorem cLd_append (c : UInt8) : ∀ (l m : List UInt8) (u : Nat), cLd c (l ++ m) u = cLd c m (cLd c l u)
  | [], _, _ => rfl
  | _ :: l, m, _ => cLd_append c l m _
theorem cg_back {c : UInt8} (hc : c ≠ 48) (x : UInt8) (u : Nat) : cg c (cg c x u).1 (cg c x u).2 = (x, u) := by
  unfold cg
  by_cases h1 : x = c
  · subst h1
    have : ¬ (48 : UInt8) = x := fun h => hc h.symm
    simp [this]
  · by_cases h2 : x = 48 ∧ 0 < u
    · obtain ⟨rfl, h3⟩ := h2
      simp [h1, h3]
      omega
    · simp only [h1, if_false, h2]
/-- a move is done back by a move from the other end -/
theorem cBack {c : UInt8} (hc : c ≠ 48) : ∀ (l : List UInt8) (u : Nat), cMv c (cMv c l u).reverse (cLd c l u) = l.reverse ∧ cLd c (cMv c l u).reverse (cLd c l u) = u
  | [], _ => ⟨rfl, rfl⟩
  | x :: l, u => by
    obtain ⟨h1, h2⟩ := cBack hc l (cg c x u).2
    have hb := cg_back hc x u
    have e1 : cMv c (x :: l) u = (cg c x u).1 :: cMv c l (cg c x u).2 := rfl
    have e2 : cLd c (x :: l) u = cLd c l (cg c x u).2 := rfl
    rw [e1, e2, List.reverse_cons, cMv_append, cLd_append, h1, h2, List.reverse_cons]
    refine ⟨?_, ?_⟩
    · show l.reverse ++ [(cg c (cg c x u).1 (cg c x u).2).1] = _
      rw [hb]
    · show (cg c (cg c x u).1 (cg c x u).2).2 = u
      rw [hb]
/-- empty boxes -/
def zs (l : List UInt8) : Nat := l.count 48
theorem zs_cons (x : UInt8) (l : List UInt8) : zs (x :: l) = zs l + if x = 48 then 1 else 0 := by
  unfold zs
  rw [List.count_cons]
  simp
theorem zs_nil : zs [] = 0 := rfl
theorem cLd_le (c : UInt8) : ∀ (l : List UInt8) (u : Nat), cLd c l u ≤ u + l.length
  | [], _ => Nat.le_refl _
  | x :: l, u => by
    have := cLd_le c l (cg c x u).2
    have h : (cg c x u).2 ≤ u + 1 := by unfold cg; split <;> (try split) <;> simp <;> omega
    show cLd c l _ ≤ u + (l.length + 1)
    omega
theorem cLd_ge {c : UInt8} (hc : c ≠ 48) : ∀ (l : List UInt8) (u : Nat), u ≤ cLd c l u + zs l
  | [], _ => Nat.le_add_right ..
  | x :: l, u => by
    have := cLd_ge hc l (cg c x u).2
    have h : u ≤ (cg c x u).2 + if x = 48 then 1 else 0 := by
      unfold cg
      by_cases h1 : x = c
      · subst h1; simp [hc]
      · by_cases h2 : x = 48 ∧ 0 < u
        · obtain ⟨rfl, h3⟩ := h2; simp [h1, h3]; omega
        · simp only [h1, if_false, h2]; omega
    rw [zs_cons]
    show u ≤ cLd c l _ + (zs l + _)
    omega
/-- the first u empty boxes filled -/
def fz (c : UInt8) : Nat → List UInt8 → List UInt8
  | _, [] => []
  | u, x :: l => if x = 48 ∧ 0 < u then c :: fz c (u - 1) l else x :: fz c u l
theorem fz_pos {c x : UInt8} {u : Nat} {l : List UInt8} (h : x = 48 ∧ 0 < u) : fz c u (x :: l) = c :: fz c (u - 1) l := by rw [fz, if_pos h]
theorem fz_neg {c x : UInt8} {u : Nat} {l : List UInt8} (h : ¬ (x = 48 ∧ 0 < u)) : fz c u (x :: l) = x :: fz c u l := by rw [fz, if_neg h]
theorem fz_length (c : UInt8) : ∀ (u : Nat) (l : List UInt8), (fz c u l).length = l.length
  | _, [] => rfl
  | u, x :: l => by unfold fz; split <;> simp [fz_length c]
theorem fz_zero (c : UInt8) : ∀ l : List UInt8, fz c 0 l = l
  | [] => rfl
  | x :: l => by unfold fz; simp [fz_zero c l]
theorem fz_empty {c : UInt8} (hc : c ≠ 48) : ∀ (u : Nat) (l : List UInt8) (j : Nat), (fz c u l)[j]? = some 48 → l[j]? = some 48
  | _, [], j, h => by simp [fz] at h
  | u, x :: l, 0, h => by
    unfold fz at h
    split at h
    · simp at h; exact absurd h hc
    · simpa using h
  | u, x :: l, j + 1, h => by
    unfold fz at h
    split at h <;> exact fz_empty hc _ l j (by simpa using h)
theorem fz_other {c : UInt8} : ∀ (u : Nat) (l : List UInt8) (j : Nat) (x : UInt8), l[j]? = some x → x ≠ 48 → (fz c u l)[j]? = some x
  | _, [], j, x, h, _ => by simp at h
  | u, y :: l, 0, x, h, hx => by
    have e : y = x := by simpa using h
    subst e
    unfold fz
    simp [hx]
  | u, y :: l, j + 1, x, h, hx => by
    unfold fz
    split <;> simpa using fz_other _ l j x (by simpa using h) hx
theorem fz_find {c : UInt8} : ∀ (u : Nat) (l : List UInt8), u < zs l → ∃ k, k < l.length ∧ (fz c u l)[k]? = some 48
  | u, [], h => by rw [zs_nil] at h; omega
  | u, x :: l, h => by
    rw [zs_cons] at h
    unfold fz
    by_cases h1 : x = 48
    · subst h1
      by_cases h2 : 0 < u
      · obtain ⟨k, hk, e⟩ := fz_find (c := c) (u - 1) l (by simp at h; omega)
        exact ⟨k + 1, by simp; omega, by simp [h2, e]⟩
      · exact ⟨0, by simp, by simp [h2]⟩
    · obtain ⟨k, hk, e⟩ := fz_find (c := c) u l (by simp [h1] at h; omega)
      exact ⟨k + 1, by simp; omega, by simp [h1, e]⟩
theorem fz_none {c : UInt8} (hc : c ≠ 48) : ∀ (u : Nat) (l : List UInt8), zs l ≤ u → ∀ j : Nat, (fz c u l)[j]? ≠ some 48
  | _, [], _, j => by simp [fz]
  | u, x :: l, h, j => by
    rw [zs_cons] at h
    unfold fz
    by_cases h1 : x = 48
    · subst h1
      have h2 : 0 < u := by simp at h; omega
      have := fz_none hc (u - 1) l (by simp at h; omega)
      cases j with
      | zero => simp [h2, hc]
      | succ j => simpa [h2] using this j
    · have := fz_none hc u l (by simp [h1] at h; omega)
      cases j with
      | zero => simp [h1]
      | succ j => simpa [h1] using this j
/-- one box more is filled: the first one that is empty still -/
theorem fz_more {c : UInt8} (hc : c ≠ 48) : ∀ (u : Nat) (l : List UInt8) (k : Nat), (fz c u l)[k]? = some 48 → (∀ j, j < k → (fz c u l)[j]? ≠ some 48) → fz c (u + 1) l = (fz c u l).set k c
  | _, [], k, h, _ => by simp [fz] at h
  | u, x :: l, k, h, hb => by
    unfold fz at h hb ⊢
    by_cases h1 : x = 48
    · subst h1
      by_cases h2 : 0 < u
      · simp only [h2, and_self, if_true, true_and] at h hb ⊢
        cases k with
        | zero => simp at h; exact absurd h hc
        | succ k =>
          have ih := fz_more hc (u - 1) l k (by simpa using h) (fun j hj => by simpa using hb (j + 1) (by omega))
          have e : u + 1 - 1 = u - 1 + 1 := by omega
          simp [e, ih]
      · have hu : u = 0 := by omega
        subst hu
        cases k with
        | zero => simp
        | succ k => exact absurd (hb 0 (by omega)) (by simp)
    · simp only [h1, false_and, if_false] at h hb ⊢
      cases k with
      | zero => simp at h; exact absurd h h1
      | succ k =>
        have ih := fz_more hc u l k (by simpa using h) (fun j hj => by simpa using hb (j + 1) (by omega))
        simp [ih]
/-- the boxes when the balls ahead of an index have moved -/
def cAt (c : UInt8) (l : List UInt8) (i : Nat) : List UInt8 := cMv c (l.take i) 0 ++ fz c (cLd c (l.take i) 0) (l.drop i)
theorem cAt_zero (c : UInt8) (l : List UInt8) : cAt c l 0 = l := by unfold cAt; simp [cMv, cLd, fz_zero]
theorem cAt_all (c : UInt8) (l : List UInt8) : cAt c l l.length = cMv c l 0 := by unfold cAt; simp [fz]
theorem cAt_length (c : UInt8) (l : List UInt8) (i : Nat) : (cAt c l i).length = l.length := by
  unfold cAt
  rw [List.length_append, cMv_length, fz_length, ← List.length_append, List.take_append_drop]
theorem take_one {l : List UInt8} {i : Nat} {x : UInt8} (h : l[i]? = some x) : l.take (i + 1) = l.take i ++ [x] ∧ l.drop i = x :: l.drop (i + 1) := by
  obtain ⟨hi, e⟩ := List.getElem?_eq_some_iff.1 h
  exact ⟨by rw [List.take_succ_eq_append_getElem hi, e], by rw [List.drop_eq_getElem_cons hi, e]⟩
theorem cAt_other {c : UInt8} {l : List UInt8} {i : Nat} {x : UInt8} (h : l[i]? = some x) (hx : x ≠ c) : cAt c l (i + 1) = cAt c l i := by
  obtain ⟨h1, h2⟩ := take_one h
  unfold cAt
  rw [h1, h2, cMv_append, cLd_append, List.append_assoc]
  congr 1
  show (cg c x _).1 :: fz c (cg c x _).2 _ = fz c _ (x :: _)
  by_cases h3 : x = 48 ∧ 0 < cLd c (l.take i) 0
  · rw [fz_pos h3]
    unfold cg
    rw [if_neg hx, if_pos h3]
  · rw [fz_neg h3]
    unfold cg
    rw [if_neg hx, if_neg h3]
/-- what stands behind the ball at an index -/
theorem cAt_behind {c : UInt8} {l : List UInt8} {i : Nat} (h : l[i]? = some c) (hc : c ≠ 48) (k : Nat) : (cAt c l i)[i + 1 + k]? = (fz c (cLd c (l.take i) 0) (l.drop (i + 1)))[k]? := by
  obtain ⟨h1, h2⟩ := take_one h
  obtain ⟨hi, _⟩ := List.getElem?_eq_some_iff.1 h
  unfold cAt
  rw [h2]
  have e : fz c (cLd c (l.take i) 0) (c :: l.drop (i + 1)) = c :: fz c (cLd c (l.take i) 0) (l.drop (i + 1)) := by
    rw [fz]; simp [hc]
  rw [e, List.getElem?_append_right (by rw [cMv_length, List.length_take]; omega), cMv_length, List.length_take, Nat.min_eq_left (by omega), show i + 1 + k - i = k + 1 by omega]
  simp
theorem set_behind (A B : List UInt8) (y v : UInt8) (k : Nat) : (A ++ y :: B).set (A.length + 1 + k) v = A ++ y :: B.set k v := by
  induction A with
  | nil =>
    show (y :: B).set (0 + 1 + k) v = _
    rw [show 0 + 1 + k = k + 1 by omega]
    rfl
  | cons a A ih =>
    rw [show (a :: A).length + 1 + k = (A.length + 1 + k) + 1 by simp; omega]
    show a :: (A ++ y :: B).set (A.length + 1 + k) v = _
    rw [ih]
    rfl
theorem set_at (A B : List UInt8) (y v : UInt8) : (A ++ y :: B).set A.length v = A ++ v :: B := by
  induction A with
  | nil => rfl
  | cons a A ih =>
    show a :: (A ++ y :: B).set A.length v = _
    rw [ih]
    rfl
theorem cAt_ball {c : UInt8} {l : List UInt8} {i k : Nat} (hc : c ≠ 48) (h : l[i]? = some c) (hk : (cAt c l i)[i + 1 + k]? = some 48) (hb : ∀ j, j < k → (cAt c l i)[i + 1 + j]? ≠ some 48) :
    cAt c l (i + 1) = ((cAt c l i).set (i + 1 + k) c).set i 48 := by
  obtain ⟨h1, h2⟩ := take_one h
  obtain ⟨hi, _⟩ := List.getElem?_eq_some_iff.1 h
  rw [cAt_behind h hc] at hk
  have hm := fz_more hc (cLd c (l.take i) 0) (l.drop (i + 1)) k hk (fun j hj => by rw [← cAt_behind h hc]; exact hb j hj)
  have hll : (cMv c (l.take i) 0).length = i := by rw [cMv_length, List.length_take]; omega
  have e : fz c (cLd c (l.take i) 0) (c :: l.drop (i + 1)) = c :: fz c (cLd c (l.take i) 0) (l.drop (i + 1)) := by
    rw [fz]; simp [hc]
  unfold cAt
  rw [h1, cMv_append, cLd_append, h2, e, List.append_assoc]
  have e2 : cMv c [c] (cLd c (l.take i) 0) = [48] := by simp [cMv, cg]
  have e3 : cLd c [c] (cLd c (l.take i) 0) = cLd c (l.take i) 0 + 1 := by simp [cLd, cg]
  rw [e2, e3, hm]
  generalize cMv c (l.take i) 0 = A at hll ⊢
  generalize fz c (cLd c (l.take i) 0) (l.drop (i + 1)) = B
  subst hll
  rw [set_behind, set_at]
  rfl
end Go.Proofs.Ytkdhifofdghbbab

/- THE WALKS of RowBalls, of the program, and of its exact law. -/
namespace Go.Proofs.Ytkdhifofdghbbab
open Go.RowKit

theorem CellsAt.take {w : World} {g : Nat} {l : List Value} (h : CellsAt w g l) (k : Nat) : CellsAt w g (l.take k) := by
  intro j v hv
  rw [List.getElem?_take] at hv
  split at hv
  · exact h j v hv
  · cases hv
/-- a row up to its last ball -/
def cut (l : List Bool) : List Bool := l.take (tl l)
theorem cut_length (l : List Bool) : (cut l).length = tl l := by unfold cut; rw [List.length_take]; exact Nat.min_eq_left (tl_le l)
theorem cut_map (l : List Bool) : (cut l).map Value.bool = (l.map Value.bool).take (tl l) := by unfold cut; rw [List.map_take]
theorem cut_eq (l : List Bool) : ∃ n, l = cut l ++ List.replicate n false := by
  have h : ∀ m : List Bool, ∃ n, m.reverse = cut m.reverse ++ List.replicate n false := by
    intro m
    induction m with
    | nil => exact ⟨0, rfl⟩
    | cons b m ih =>
      obtain ⟨n, hn⟩ := ih
      rw [List.reverse_cons]
      cases b
      · refine ⟨n + 1, ?_⟩
        have e : cut (m.reverse ++ [false]) = cut m.reverse := by
          unfold cut
          rw [tl_snoc]
          exact List.take_append_of_le_length (tl_le _)
        rw [e, List.replicate_succ', ← List.append_assoc, ← hn]
      · refine ⟨0, ?_⟩
        unfold cut
        rw [tl_snoc, List.take_of_length_le (by simp)]
        simp
  have := h l.reverse
  rwa [List.reverse_reverse] at this
theorem nballs_cut (l : List Bool) : nballs (cut l) = nballs l := by
  obtain ⟨n, hn⟩ := cut_eq l
  have h2 : nballs l = nballs (cut l ++ List.replicate n false) := congrArg nballs hn
  rw [h2]
  unfold nballs
  rw [List.count_append, List.count_replicate]; simp

end Go.Proofs.Ytkdhifofdghbbab
