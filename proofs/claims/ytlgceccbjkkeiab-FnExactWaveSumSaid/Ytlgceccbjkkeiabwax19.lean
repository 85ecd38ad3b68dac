/- TEXTS Col1, Col2, Col3. -/
import Derived.Test.Ytlgceccbjkkeiabwax01
import Derived.Test.Ytlgceccbjkkeiabwax03
/- MOVES OF A COLOUR: a carrier with room for all balls of one colour; balls of other colours stand in its way for nobody. Pure: nothing of the program is named here. -/
namespace Go.Proofs.Ytlgceccbjkkeiab
open Go.RowKit

/-- a box and a load: what is left in the box, and the load behind it -/
def cg (c x : UInt8) (u : Nat) : UInt8 × Nat := if x = c then (48, u + 1) else if x = 48 ∧ 0 < u then (c, u - 1) else (x, u)
def cMv (c : UInt8) : List UInt8 → Nat → List UInt8
  | [], _ => []
  | x :: l, u => (cg c x u).1 :: cMv c l (cg c x u).2
def cLd (c : UInt8) : List UInt8 → Nat → Nat
  | [], u => u
  | x :: l, u => cLd c l (cg c x u).2
theorem cMv_length (c : UInt8) : ∀ (l : List UInt8) (u : Nat), (cMv c l u).length = l.length
  | [], _ => rfl
  | x :: l, u => by show (cMv c l _).length + 1 = l.length + 1; rw [cMv_length c l]
theorem cMv_append (c : UInt8) : ∀ (l m : List UInt8) (u : Nat), cMv c (l ++ m) u = cMv c l u ++ cMv c m (cLd c l u)
  | [], _, _ => rfl
  | x :: l, m, u => by show _ :: cMv c (l ++ m) _ = _ :: (cMv c l _ ++ cMv c m _); rw [cMv_append c l m]; rfl
theorem cLd_append (c : UInt8) : ∀ (l m : List UInt8) (u : Nat), cLd c (l ++ m) u = cLd c m (cLd c l u)
  | [], _, _ => rfl
  | _ :: l, m, _ => cLd_append c l m _
theorem cg_back {c : UInt8} (hc : c ≠ 48) (x : UInt8) (u : Nat) : cg c (cg c x u).1 (cg c x u).2 = (x, u) := by
  unfold cg
  by_cases h1 : x = c
  · subst h1
    have : ¬ (48 : UInt8) = x := fun h => hc h.symm
    simp [this]
  · by_cases h2 : x = 48 ∧ 0 < u
    · obtain ⟨rfl, h3⟩ := h2
      simp [h1, h3]
      omega
    · simp only [h1, if_false, h2]
/-- a move is done back by a move from the other end -/
theorem cBack {c : UInt8} (hc : c ≠ 48) : ∀ (l : List UInt8) (u : Nat), cMv c (cMv c l u).reverse (cLd c l u) = l.reverse ∧ cLd c (cMv c l u).reverse (cLd c l u) = u
  | [], _ => ⟨rfl, rfl⟩
  | x :: l, u => by
    obtain ⟨h1, h2⟩ := cBack hc l (cg c x u).2
    have hb := cg_back hc x u
    have e1 : cMv c (x :: l) u = (cg c x u).1 :: cMv c l (cg c x u).2 := rfl
    have e2 : cLd c (x :: l) u = cLd c l (cg c x u).2 := rfl
    rw [e1, e2, List.reverse_cons, cMv_append, cLd_append, h1, h2, List.reverse_cons]
    refine ⟨?_, ?_⟩
    · show l.reverse ++ [(cg c (cg c x u).1 (cg c x u).2).1] = _
      rw [hb]
    · show (cg c (cg c x u).1 (cg c x u).2).2 = u
      rw [hb]
/-- empty boxes -/
def zs (l : List UInt8) : Nat := l.count 48
theorem zs_cons (x : UInt8) (l : List UInt8) : zs (x :: l) = zs l + if x = 48 then 1 else 0 := by
  unfold zs
  rw [List.count_cons]
  simp
theorem zs_nil : zs [] = 0 := rfl
theorem cLd_le (c : UInt8) : ∀ (l : List UInt8) (u : Nat), cLd c l u ≤ u + l.length
  | [], _ => Nat.le_refl _
  | x :: l, u => by
    have := cLd_le c l (cg c x u).2
    have h : (cg c x u).2 ≤ u + 1 := by unfold cg; split <;> (try split) <;> simp <;> omega
    show cLd c l _ ≤ u + (l.length + 1)
    omega
theorem cLd_ge {c : UInt8} (hc : c ≠ 48) : ∀ (l : List UInt8) (u : Nat), u ≤ cLd c l u + zs l
  | [], _ => Nat.le_add_right ..
  | x :: l, u => by
    have := cLd_ge hc l (cg c x u).2
    have h : u ≤ (cg c x u).2 + if x = 48 then 1 else 0 := by
      unfold cg
      by_cases h1 : x = c
      · subst h1; simp [hc]
      · by_cases h2 : x = 48 ∧ 0 < u
        · obtain ⟨rfl, h3⟩ := h2; simp [h1, h3]; omega
        · simp only [h1, if_false, h2]; omega
    rw [zs_cons]
    show u ≤ cLd c l _ + (zs l + _)
    omega
/-- the first u empty boxes filled -/
def fz (c : UInt8) : Nat → List UInt8 → List UInt8
  | _, [] => []
  | u, x :: l => if x = 48 ∧ 0 < u then c :: fz c (u - 1) l else x :: fz c u l
theorem fz_pos {c x : UInt8} {u : Nat} {l : List UInt8} (h : x = 48 ∧ 0 < u) : fz c u (x :: l) = c :: fz c (u - 1) l := by rw [fz, if_pos h]
theorem fz_neg {c x : UInt8} {u : Nat} {l : List UInt8} (h : ¬ (x = 48 ∧ 0 < u)) : fz c u (x :: l) = x :: fz c u l := by rw [fz, if_neg h]
theorem fz_length (c : UInt8) : ∀ (u : Nat) (l : List UInt8), (fz c u l).length = l.length
  | _, [] => rfl
  | u, x :: l => by unfold fz; split <;> simp [fz_length c]
theorem fz_zero (c : UInt8) : ∀ l : List UInt8, fz c 0 l = l
  | [] => rfl
  | x :: l => by unfold fz; simp [fz_zero c l]
theorem fz_empty {c : UInt8} (hc : c ≠ 48) : ∀ (u : Nat) (l : List UInt8) (j : Nat), (fz c u l)[j]? = some 48 → l[j]? = some 48
  | _, [], j, h => by simp [fz] at h
  | u, x :: l, 0, h => by
    unfold fz at h
    split at h
    · simp at h; exact absurd h hc
    · simpa using h
  | u, x :: l, j + 1, h => by
    unfold fz at h
    split at h <;> exact fz_empty hc _ l j (by simpa using h)
theorem fz_other {c : UInt8} : ∀ (u : Nat) (l : List UInt8) (j : Nat) (x : UInt8), l[j]? = some x → x ≠ 48 → (fz c u l)[j]? = some x
  | _, [], j, x, h, _ => by simp at h
  | u, y :: l, 0, x, h, hx => by
    have e : y = x := by simpa using h
    subst e
    unfold fz
    simp [hx]
  | u, y :: l, j + 1, x, h, hx => by
    unfold fz
    split <;> simpa using fz_other _ l j x (by simpa using h) hx
theorem fz_find {c : UInt8} : ∀ (u : Nat) (l : List UInt8), u < zs l → ∃ k, k < l.length ∧ (fz c u l)[k]? = some 48
  | u, [], h => by rw [zs_nil] at h; omega
  | u, x :: l, h => by
    rw [zs_cons] at h
    unfold fz
    by_cases h1 : x = 48
    · subst h1
      by_cases h2 : 0 < u
      · obtain ⟨k, hk, e⟩ := fz_find (c := c) (u - 1) l (by simp at h; omega)
        exact ⟨k + 1, by simp; omega, by simp [h2, e]⟩
      · exact ⟨0, by simp, by simp [h2]⟩
    · obtain ⟨k, hk, e⟩ := fz_find (c := c) u l (by simp [h1] at h; omega)
      exact ⟨k + 1, by simp; omega, by simp [h1, e]⟩
theorem fz_none {c : UInt8} (hc : c ≠ 48) : ∀ (u : Nat) (l : List UInt8), zs l ≤ u → ∀ j : Nat, (fz c u l)[j]? ≠ some 48
  | _, [], _, j => by simp [fz]
  | u, x :: l, h, j => by
    rw [zs_cons] at h
    unfold fz
    by_cases h1 : x = 48
    · subst h1
      have h2 : 0 < u := by simp at h; omega
      have := fz_none hc (u - 1) l (by simp at h; omega)
      cases j with
      | zero => simp [h2, hc]
      | succ j => simpa [h2] using this j
    · have := fz_none hc u l (by simp [h1] at h; omega)
      cases j with
      | zero => simp [h1]
      | succ j => simpa [h1] using this j
/-- one box more is filled: the first one that is empty still -/
theorem fz_more {c : UInt8} (hc : c ≠ 48) : ∀ (u : Nat) (l : List UInt8) (k : Nat), (fz c u l)[k]? = some 48 → (∀ j, j < k → (fz c u l)[j]? ≠ some 48) → fz c (u + 1) l = (fz c u l).set k c
  | _, [], k, h, _ => by simp [fz] at h
  | u, x :: l, k, h, hb => by
    unfold fz at h hb ⊢
    by_cases h1 : x = 48
    · subst h1
      by_cases h2 : 0 < u
      · simp only [h2, and_self, if_true, true_and] at h hb ⊢
        cases k with
        | zero => simp at h; exact absurd h hc
        | succ k =>
          have ih := fz_more hc (u - 1) l k (by simpa using h) (fun j hj => by simpa using hb (j + 1) (by omega))
          have e : u + 1 - 1 = u - 1 + 1 := by omega
          simp [e, ih]
      · have hu : u = 0 := by omega
        subst hu
        cases k with
        | zero => simp
        | succ k => exact absurd (hb 0 (by omega)) (by simp)
    · simp only [h1, false_and, if_false] at h hb ⊢
      cases k with
      | zero => simp at h; exact absurd h h1
      | succ k =>
        have ih := fz_more hc u l k (by simpa using h) (fun j hj => by simpa using hb (j + 1) (by omega))
        simp [ih]
/-- the boxes when the balls ahead of an index have moved -/
def cAt (c : UInt8) (l : List UInt8) (i : Nat) : List UInt8 := cMv c (l.take i) 0 ++ fz c (cLd c (l.take i) 0) (l.drop i)
theorem cAt_zero (c : UInt8) (l : List UInt8) : cAt c l 0 = l := by unfold cAt; simp [cMv, cLd, fz_zero]
theorem cAt_all (c : UInt8) (l : List UInt8) : cAt c l l.length = cMv c l 0 := by unfold cAt; simp [fz]
theorem cAt_length (c : UInt8) (l : List UInt8) (i : Nat) : (cAt c l i).length = l.length := by
  unfold cAt
  rw [List.length_append, cMv_length, fz_length, ← List.length_append, List.take_append_drop]
theorem take_one {l : List UInt8} {i : Nat} {x : UInt8} (h : l[i]? = some x) : l.take (i + 1) = l.take i ++ [x] ∧ l.drop i = x :: l.drop (i + 1) := by
  obtain ⟨hi, e⟩ := List.getElem?_eq_some_iff.1 h
  exact ⟨by rw [List.take_succ_eq_append_getElem hi, e], by rw [List.drop_eq_getElem_cons hi, e]⟩
theorem cAt_other {c : UInt8} {l : List UInt8} {i : Nat} {x : UInt8} (h : l[i]? = some x) (hx : x ≠ c) : cAt c l (i + 1) = cAt c l i := by
  obtain ⟨h1, h2⟩ := take_one h
  unfold cAt
  rw [h1, h2, cMv_append, cLd_append, List.append_assoc]
  congr 1
  show (cg c x _).1 :: fz c (cg c x _).2 _ = fz c _ (x :: _)
  by_cases h3 : x = 48 ∧ 0 < cLd c (l.take i) 0
  · rw [fz_pos h3]
    unfold cg
    rw [if_neg hx, if_pos h3]
  · rw [fz_neg h3]
    unfold cg
    rw [if_neg hx, if_neg h3]
/-- what stands behind the ball at an index -/
theorem cAt_behind {c : UInt8} {l : List UInt8} {i : Nat} (h : l[i]? = some c) (hc : c ≠ 48) (k : Nat) : (cAt c l i)[i + 1 + k]? = (fz c (cLd c (l.take i) 0) (l.drop (i + 1)))[k]? := by
  obtain ⟨h1, h2⟩ := take_one h
  obtain ⟨hi, _⟩ := List.getElem?_eq_some_iff.1 h
  unfold cAt
  rw [h2]
  have e : fz c (cLd c (l.take i) 0) (c :: l.drop (i + 1)) = c :: fz c (cLd c (l.take i) 0) (l.drop (i + 1)) := by
    rw [fz]; simp [hc]
  rw [e, List.getElem?_append_right (by rw [cMv_length, List.length_take]; omega), cMv_length, List.length_take, Nat.min_eq_left (by omega), show i + 1 + k - i = k + 1 by omega]
  simp
theorem set_behind (A B : List UInt8) (y v : UInt8) (k : Nat) : (A ++ y :: B).set (A.length + 1 + k) v = A ++ y :: B.set k v := by
  induction A with
  | nil =>
    show (y :: B).set (0 + 1 + k) v = _
    rw [show 0 + 1 + k = k + 1 by omega]
    rfl
  | cons a A ih =>
    rw [show (a :: A).length + 1 + k = (A.length + 1 + k) + 1 by simp; omega]
    show a :: (A ++ y :: B).set (A.length + 1 + k) v = _
    rw [ih]
    rfl
theorem set_at (A B : List UInt8) (y v : UInt8) : (A ++ y :: B).set A.length v = A ++ v :: B := by
  induction A with
  | nil => rfl
  | cons a A ih =>
    show a :: (A ++ y :: B).set A.length v = _
    rw [ih]
    rfl
theorem cAt_ball {c : UInt8} {l : List UInt8} {i k : Nat} (hc : c ≠ 48) (h : l[i]? = some c) (hk : (cAt c l i)[i + 1 + k]? = some 48) (hb : ∀ j, j < k → (cAt c l i)[i + 1 + j]? ≠ some 48) :
    cAt c l (i + 1) = ((cAt c l i).set (i + 1 + k) c).set i 48 := by
  obtain ⟨h1, h2⟩ := take_one h
  obtain ⟨hi, _⟩ := List.getElem?_eq_some_iff.1 h
  rw [cAt_behind h hc] at hk
  have hm := fz_more hc (cLd c (l.take i) 0) (l.drop (i + 1)) k hk (fun j hj => by rw [← cAt_behind h hc]; exact hb j hj)
  have hll : (cMv c (l.take i) 0).length = i := by rw [cMv_length, List.length_take]; omega
  have e : fz c (cLd c (l.take i) 0) (c :: l.drop (i + 1)) = c :: fz c (cLd c (l.take i) 0) (l.drop (i + 1)) := by
    rw [fz]; simp [hc]
  unfold cAt
  rw [h1, cMv_append, cLd_append, h2, e, List.append_assoc]
  have e2 : cMv c [c] (cLd c (l.take i) 0) = [48] := by simp [cMv, cg]
  have e3 : cLd c [c] (cLd c (l.take i) 0) = cLd c (l.take i) 0 + 1 := by simp [cLd, cg]
  rw [e2, e3, hm]
  generalize cMv c (l.take i) 0 = A at hll ⊢
  generalize fz c (cLd c (l.take i) 0) (l.drop (i + 1)) = B
  subst hll
  rw [set_behind, set_at]
  rfl
end Go.Proofs.Ytlgceccbjkkeiab

/- WHAT MOVES OF COLOURS SAY OF ROWS. Pure: nothing of the program is named here. -/
namespace Go.Proofs.Ytlgceccbjkkeiab
open Go.RowKit

/-- the boxes with balls of whatever colour -/
def nz (l : List UInt8) : List Bool := l.map (fun x => !(x == 48))
/-- a row up to its last ball -/
def cz (l : List UInt8) : List UInt8 := l.take (tl (nz l))
theorem nz_length (l : List UInt8) : (nz l).length = l.length := by simp [nz]
theorem cz_length (l : List UInt8) : (cz l).length = tl (nz l) := by
  unfold cz
  rw [List.length_take]
  have := tl_le (nz l)
  rw [nz_length] at this
  exact Nat.min_eq_left this
theorem cz_eq (l : List UInt8) : ∃ n, l = cz l ++ List.replicate n 48 := by
  have h : ∀ m : List UInt8, ∃ n, m.reverse = cz m.reverse ++ List.replicate n 48 := by
    intro m
    induction m with
    | nil => exact ⟨0, rfl⟩
    | cons b m ih =>
      obtain ⟨n, hn⟩ := ih
      rw [List.reverse_cons]
      by_cases hb : b = 48
      · subst hb
        refine ⟨n + 1, ?_⟩
        have e : cz (m.reverse ++ [48]) = cz m.reverse := by
          unfold cz
          have e1 : nz (m.reverse ++ [48]) = nz m.reverse ++ [false] := by simp [nz]
          rw [e1, tl_snoc]
          have := tl_le (nz m.reverse)
          rw [nz_length] at this
          exact List.take_append_of_le_length (by simpa using this)
        rw [e, List.replicate_succ', ← List.append_assoc, ← hn]
      · refine ⟨0, ?_⟩
        have e1 : nz (m.reverse ++ [b]) = nz m.reverse ++ [true] := by simp [nz, hb]
        unfold cz
        rw [e1, tl_snoc, nz_length, if_pos rfl, List.take_of_length_le (by simp)]
        simp
  have := h l.reverse
  rwa [List.reverse_reverse] at this
theorem cz_pad (l : List UInt8) (n : Nat) : cz (l ++ List.replicate n 48) = cz l := by
  induction n with
  | zero => simp
  | succ n ih =>
    rw [List.replicate_succ', ← List.append_assoc]
    have e1 : nz (l ++ List.replicate n 48 ++ [48]) = nz (l ++ List.replicate n 48) ++ [false] := by simp [nz]
    have h : tl (nz (l ++ List.replicate n 48)) ≤ (l ++ List.replicate n 48).length := by
      have := tl_le (nz (l ++ List.replicate n 48)); rwa [nz_length] at this
    rw [← ih]
    unfold cz
    rw [e1, tl_snoc]
    simp only [Bool.false_eq_true, if_false]
    exact List.take_append_of_le_length h
theorem cz_cz (l : List UInt8) : cz (cz l) = cz l := by
  obtain ⟨n, hn⟩ := cz_eq l
  have h := cz_pad (cz l) n
  rw [← hn] at h
  exact h.symm
/-- empty boxes with no load stay as they are -/
theorem cMv_rep {c : UInt8} (hc : c ≠ 48) : ∀ n : Nat, cMv c (List.replicate n 48) 0 = List.replicate n 48 ∧ cLd c (List.replicate n 48) 0 = 0
  | 0 => ⟨rfl, rfl⟩
  | n + 1 => by
    obtain ⟨h1, h2⟩ := cMv_rep hc n
    have e : cg c 48 0 = (48, 0) := by unfold cg; rw [if_neg (fun h => hc h.symm)]; simp
    rw [List.replicate_succ]
    show (cg c 48 0).1 :: cMv c (List.replicate n 48) (cg c 48 0).2 = _ ∧ cLd c (List.replicate n 48) (cg c 48 0).2 = 0
    rw [e]
    exact ⟨by rw [h1], h2⟩
theorem zs_rep (n : Nat) : zs (List.replicate n 48) = n := by unfold zs; simp
theorem zs_append (l m : List UInt8) : zs (l ++ m) = zs l + zs m := by unfold zs; exact List.count_append
theorem cg_48 {c : UInt8} (hc : c ≠ 48) (u : Nat) : (cg c 48 u).2 = u - 1 := by
  unfold cg
  rw [if_neg (fun h => hc h.symm)]
  by_cases h : (48 : UInt8) = 48 ∧ 0 < u
  · rw [if_pos h]
  · rw [if_neg h]
    have : ¬ 0 < u := fun h2 => h ⟨rfl, h2⟩
    show u = u - 1
    omega
/-- enough empty boxes behind: no ball is left over -/
theorem cLd_pad {c : UInt8} (hc : c ≠ 48) : ∀ (n u : Nat), cLd c (List.replicate n 48) u = u - n
  | 0, _ => rfl
  | n + 1, u => by
    rw [List.replicate_succ]
    show cLd c (List.replicate n 48) (cg c 48 u).2 = _
    rw [cLd_pad hc n, cg_48 hc]
    omega
/-- a move of a colour, with empty boxes behind -/
def padN (l : List UInt8) : List UInt8 := l ++ List.replicate (l.length + 1) 48
def mv1 (c : UInt8) (l : List UInt8) : List UInt8 := cz (cMv c (padN l) 0)
theorem pad_load {c : UInt8} (hc : c ≠ 48) (l : List UInt8) : cLd c (padN l) 0 = 0 := by
  unfold padN
  rw [cLd_append, cLd_pad hc]
  have := cLd_le c l 0
  omega
/-- a move back; it fails where a ball is left over -/
def bk1 (c : UInt8) (l : List UInt8) : List UInt8 := cz (cMv c l.reverse 0).reverse
def cbOk (c : UInt8) (l : List UInt8) : Bool := decide (cLd c l.reverse 0 = 0)
theorem mv_back {c : UInt8} (hc : c ≠ 48) (l : List UInt8) : cbOk c (mv1 c l) = true ∧ bk1 c (mv1 c l) = cz l := by
  obtain ⟨n, hn⟩ := cz_eq (cMv c (padN l) 0)
  obtain ⟨h1, h2⟩ := cBack hc (padN l) 0
  rw [pad_load hc, hn, List.reverse_append, List.reverse_replicate] at h1 h2
  rw [cMv_append, (cMv_rep hc n).1, (cMv_rep hc n).2] at h1
  rw [cLd_append, (cMv_rep hc n).2] at h2
  refine ⟨by unfold cbOk mv1; simpa using h2, ?_⟩
  unfold bk1 mv1
  have e : padN l = (cMv c (cz (cMv c (padN l) 0)).reverse 0).reverse ++ List.replicate n 48 := by
    have := congrArg List.reverse h1
    rw [List.reverse_reverse, List.reverse_append, List.reverse_replicate] at this
    exact this.symm
  have e2 := cz_pad ((cMv c (cz (cMv c (padN l) 0)).reverse 0).reverse) n
  rw [← e] at e2
  rw [← e2]
  exact cz_pad l _
theorem back_mv {c : UInt8} (hc : c ≠ 48) (l : List UInt8) (h : cbOk c l = true) : mv1 c (bk1 c l) = cz l := by
  have h0 : cLd c l.reverse 0 = 0 := by unfold cbOk at h; simpa using h
  obtain ⟨h1, h2⟩ := cBack hc l.reverse 0
  rw [h0] at h1 h2
  rw [List.reverse_reverse] at h1
  obtain ⟨n, hn⟩ := cz_eq (cMv c l.reverse 0).reverse
  -- l is the move of a row with n empty boxes more
  have e1 : cMv c (bk1 c l ++ List.replicate n 48) 0 = l := by unfold bk1; rw [← hn]; exact h1
  have e2 : cLd c (bk1 c l ++ List.replicate n 48) 0 = 0 := by unfold bk1; rw [← hn]; exact h2
  unfold mv1
  by_cases hle : n ≤ (bk1 c l).length + 1
  · have e3 : padN (bk1 c l) = (bk1 c l ++ List.replicate n 48) ++ List.replicate ((bk1 c l).length + 1 - n) 48 := by
      unfold padN
      rw [List.append_assoc, List.replicate_append_replicate]
      congr 2
      omega
    rw [e3, cMv_append, e1, e2, (cMv_rep hc _).1]
    exact cz_pad l _
  · have e3 : bk1 c l ++ List.replicate n 48 = padN (bk1 c l) ++ List.replicate (n - ((bk1 c l).length + 1)) 48 := by
      unfold padN
      rw [List.append_assoc, List.replicate_append_replicate]
      congr 2
      omega
    rw [e3, cMv_append, pad_load hc, (cMv_rep hc _).1] at e1
    have h3 := cz_pad (cMv c (padN (bk1 c l)) 0) (n - ((bk1 c l).length + 1))
    rw [e1] at h3
    exact h3.symm
/-- counts -/
theorem cg_count {c : UInt8} (d x : UInt8) (u : Nat) (hd : d ≠ 48) : (if (cg c x u).1 = d then 1 else 0) + (if d = c then (cg c x u).2 else 0) = (if x = d then 1 else 0) + (if d = c then u else 0) := by
  have h0 : ¬ (48 : UInt8) = d := fun h => hd h.symm
  by_cases h1 : x = c
  · have e : cg c x u = (48, u + 1) := by unfold cg; rw [if_pos h1]
    rw [e, if_neg h0]
    by_cases h2 : d = c
    · rw [if_pos h2, if_pos (h1.trans h2.symm), if_pos h2]; show 0 + (u + 1) = 1 + u; omega
    · rw [if_neg h2, if_neg (fun h => h2 (h.symm.trans h1)), if_neg h2]
  · by_cases h2 : x = 48 ∧ 0 < u
    · have e : cg c x u = (c, u - 1) := by unfold cg; rw [if_neg h1, if_pos h2]
      have h3 : ¬ x = d := fun h => hd (h.symm.trans h2.1)
      rw [e, if_neg h3]
      by_cases h4 : d = c
      · rw [if_pos h4.symm, if_pos h4, if_pos h4]; show 1 + (u - 1) = 0 + u; omega
      · rw [if_neg (fun h => h4 h.symm), if_neg h4, if_neg h4]
    · have e : cg c x u = (x, u) := by unfold cg; rw [if_neg h1, if_neg h2]
      rw [e]
theorem cMv_count {c : UInt8} {d : UInt8} (hd : d ≠ 48) : ∀ (l : List UInt8) (u : Nat), (cMv c l u).count d + (if d = c then cLd c l u else 0) = l.count d + (if d = c then u else 0)
  | [], u => by simp [cMv, cLd]
  | x :: l, u => by
    have ih := cMv_count (c := c) hd l (cg c x u).2
    have hg := cg_count (c := c) d x u hd
    show ((cg c x u).1 :: cMv c l _).count d + (if d = c then cLd c l _ else 0) = _
    rw [List.count_cons, List.count_cons]
    simp only [beq_iff_eq]
    omega
theorem cz_count {d : UInt8} (hd : d ≠ 48) (l : List UInt8) : (cz l).count d = l.count d := by
  obtain ⟨n, hn⟩ := cz_eq l
  conv => rhs; rw [hn, List.count_append, List.count_replicate]
  have : ¬ (48 : UInt8) = d := fun h => hd h.symm
  simp [this]
theorem mv_count {c : UInt8} (hc : c ≠ 48) {d : UInt8} (hd : d ≠ 48) (l : List UInt8) : (mv1 c l).count d = l.count d := by
  unfold mv1
  rw [cz_count hd]
  have h := cMv_count (c := c) hd (padN l) 0
  rw [pad_load hc] at h
  have e : (padN l).count d = l.count d := by
    unfold padN
    have : ¬ (48 : UInt8) = d := fun h => hd h.symm
    rw [List.count_append, List.count_replicate]
    simp [this]
  simp only [ite_self, Nat.add_zero] at h
  omega
/-- balls of other colours stay in their boxes -/
theorem cMv_other {c : UInt8} {x : UInt8} (hx : x ≠ 48) (hxc : x ≠ c) : ∀ (l : List UInt8) (u j : Nat), l[j]? = some x → (cMv c l u)[j]? = some x
  | [], _, _, h => by simp at h
  | y :: l, u, 0, h => by
    have e : y = x := by simpa using h
    subst e
    show ((cg c y u).1 :: _)[0]? = _
    unfold cg
    simp [hxc, hx]
  | y :: l, u, j + 1, h => by
    show ((cg c y u).1 :: cMv c l _)[j + 1]? = _
    simpa using cMv_other hx hxc l _ j (by simpa using h)
theorem cz_get {l : List UInt8} {j : Nat} {x : UInt8} (hx : x ≠ 48) (h : l[j]? = some x) : (cz l)[j]? = some x := by
  obtain ⟨n, hn⟩ := cz_eq l
  rw [hn] at h
  by_cases hj : j < (cz l).length
  · rw [List.getElem?_append_left hj] at h; exact h
  · rw [List.getElem?_append_right (by omega), List.getElem?_replicate] at h
    split at h
    · injection h with h; exact absurd h.symm hx
    · cases h
theorem mv_other {c x : UInt8} (hx : x ≠ 48) (hxc : x ≠ c) {l : List UInt8} {j : Nat} (h : l[j]? = some x) : (mv1 c l)[j]? = some x := by
  refine cz_get hx (cMv_other hx hxc _ _ _ ?_)
  unfold padN
  rw [List.getElem?_append_left (List.getElem?_eq_some_iff.1 h).1]
  exact h
end Go.Proofs.Ytlgceccbjkkeiab

/- WHAT IS TRUE OF COLOURED ROWS: the facts behind the promises of chapter 5. Pure: no walk. -/
namespace Go.Proofs.Ytlgceccbjkkeiab
open Go.RowKit

/-- signs of coloured rows -/
def sg3 (x : UInt8) : Bool := x == 48 || x == 49 || x == 50 || x == 51
theorem sg3_iff (x : UInt8) : sg3 x = true ↔ x = 48 ∨ x = 49 ∨ x = 50 ∨ x = 51 := by
  unfold sg3
  simp [or_assoc]
def lst (s : ByteArray) : List UInt8 := s.data.toList
def ofL (l : List UInt8) : ByteArray := ⟨l.toArray⟩
theorem lst_ofL (l : List UInt8) : lst (ofL l) = l := by simp [lst, ofL]
theorem ofL_lst (s : ByteArray) : ofL (lst s) = s := by simp [lst, ofL]
theorem lst_size (s : ByteArray) : (lst s).length = s.size := by simp [lst]
theorem ofL_size (l : List UInt8) : (ofL l).size = l.length := by
  have := lst_size (ofL l)
  rw [lst_ofL] at this
  exact this.symm
/-- ColourIn -/
def cIn (s : ByteArray) : Bool := (lst s).all sg3 && decide (s.size ≤ 120)
theorem cIn_iff (s : ByteArray) : cIn s = true ↔ (∀ x ∈ lst s, sg3 x = true) ∧ s.size ≤ 120 := by
  unfold cIn
  simp
/-- a move, that of three colours; back -/
def mvO (c : UInt8) (l : List UInt8) : Option (List UInt8) := if (mv1 c l).length ≤ 120 then some (mv1 c l) else none
def bkO (c : UInt8) (l : List UInt8) : Option (List UInt8) := if cbOk c l then some (bk1 c l) else none
def stepL (l : List UInt8) : Option (List UInt8) := (mvO 49 l).bind fun a => (mvO 50 a).bind fun b => mvO 51 b
def backL (l : List UInt8) : Option (List UInt8) := (bkO 51 l).bind fun a => (bkO 50 a).bind fun b => bkO 49 b
theorem mvO_some {c : UInt8} {l r : List UInt8} (h : mvO c l = some r) : r = mv1 c l ∧ r.length ≤ 120 := by
  unfold mvO at h
  split at h
  · injection h with h; rw [← h]; exact ⟨rfl, by assumption⟩
  · cases h
theorem bkO_some {c : UInt8} {l r : List UInt8} (h : bkO c l = some r) : r = bk1 c l ∧ cbOk c l = true := by
  unfold bkO at h
  split at h
  · injection h with h; exact ⟨h.symm, by assumption⟩
  · cases h
theorem bind3 {a b : Option (List UInt8)} {f : List UInt8 → Option (List UInt8)} {r : List UInt8} (h : a.bind f = some r) (_ : b = a) : ∃ x, a = some x ∧ f x = some r := by
  cases a with
  | none => cases h
  | some x => exact ⟨x, rfl, h⟩
theorem stepL_some {l r : List UInt8} (h : stepL l = some r) : r = mv1 51 (mv1 50 (mv1 49 l)) ∧ (mv1 49 l).length ≤ 120 ∧ (mv1 50 (mv1 49 l)).length ≤ 120 ∧ r.length ≤ 120 := by
  obtain ⟨a, ha, h⟩ := bind3 h rfl
  obtain ⟨b, hb, h⟩ := bind3 h rfl
  obtain ⟨a1, a2⟩ := mvO_some ha
  obtain ⟨b1, b2⟩ := mvO_some hb
  obtain ⟨r1, r2⟩ := mvO_some h
  rw [a1] at b1 a2
  rw [b1] at r1 b2
  exact ⟨r1, a2, b2, r2⟩
theorem backL_some {l r : List UInt8} (h : backL l = some r) : r = bk1 49 (bk1 50 (bk1 51 l)) ∧ cbOk 51 l = true ∧ cbOk 50 (bk1 51 l) = true ∧ cbOk 49 (bk1 50 (bk1 51 l)) = true := by
  obtain ⟨a, ha, h⟩ := bind3 h rfl
  obtain ⟨b, hb, h⟩ := bind3 h rfl
  obtain ⟨a1, a2⟩ := bkO_some ha
  obtain ⟨b1, b2⟩ := bkO_some hb
  obtain ⟨r1, r2⟩ := bkO_some h
  rw [a1] at b1 b2
  rw [b1] at r1 r2
  exact ⟨r1, a2, b2, r2⟩
theorem n49 : (49 : UInt8) ≠ 48 := by decide
theorem n50 : (50 : UInt8) ≠ 48 := by decide
theorem n51 : (51 : UInt8) ≠ 48 := by decide
theorem cz_mv (c : UInt8) (l : List UInt8) : cz (mv1 c l) = mv1 c l := cz_cz _
theorem cz_bk (c : UInt8) (l : List UInt8) : cz (bk1 c l) = bk1 c l := cz_cz _
theorem cz_le (l : List UInt8) : (cz l).length ≤ l.length := by unfold cz; rw [List.length_take]; exact Nat.min_le_right ..
theorem bk1_le (c : UInt8) (l : List UInt8) : (bk1 c l).length ≤ l.length := by
  unfold bk1
  have := cz_le (cMv c l.reverse 0).reverse
  rw [List.length_reverse, cMv_length, List.length_reverse] at this
  exact this
theorem bkO_ok {c : UInt8} {l m : List UInt8} (h : cbOk c l = true) (e : bk1 c l = m) : bkO c l = some m := by unfold bkO; rw [if_pos h, e]
theorem mvO_ok {c : UInt8} {l m : List UInt8} (e : mv1 c l = m) (h : m.length ≤ 120) : mvO c l = some m := by unfold mvO; rw [e, if_pos h]
theorem bind_of {a : Option (List UInt8)} {x : List UInt8} {f : List UInt8 → Option (List UInt8)} (h : a = some x) : a.bind f = f x := by rw [h]; rfl
/-- P39 -/
theorem step_done_back {l r : List UInt8} (h : stepL l = some r) : backL r = some (cz l) := by
  obtain ⟨hr, _⟩ := stepL_some h
  have e1 := mv_back n51 (mv1 50 (mv1 49 l))
  have e2 := mv_back n50 (mv1 49 l)
  have e3 := mv_back n49 l
  rw [cz_mv] at e1 e2
  rw [← hr] at e1
  exact (bind_of (bkO_ok e1.1 e1.2)).trans ((bind_of (bkO_ok e2.1 e2.2)).trans (bkO_ok e3.1 e3.2))
theorem step_count {l r : List UInt8} (h : stepL l = some r) {d : UInt8} (hd : d ≠ 48) : r.count d = l.count d := by
  obtain ⟨hr, _⟩ := stepL_some h
  rw [hr, mv_count n51 hd, mv_count n50 hd, mv_count n49 hd]
/-- P41 -/
theorem back_done_step {l r : List UInt8} (h : backL l = some r) (hl : l.length ≤ 120) : stepL r = some (cz l) := by
  obtain ⟨hr, k1, k2, k3⟩ := backL_some h
  have e1 := back_mv n49 _ k3
  have e2 := back_mv n50 _ k2
  have e3 := back_mv n51 _ k1
  rw [cz_bk] at e1 e2
  rw [← hr] at e1
  have l1 := bk1_le 51 l
  have l2 := bk1_le 50 (bk1 51 l)
  have l3 := cz_le l
  exact (bind_of (mvO_ok e1 (Nat.le_trans l2 (Nat.le_trans l1 hl)))).trans ((bind_of (mvO_ok e2 (Nat.le_trans l1 hl))).trans (mvO_ok e3 (Nat.le_trans l3 hl)))
/-- signs stay signs -/
theorem cMv_sg {c : UInt8} (hc : sg3 c = true) : ∀ (l : List UInt8) (u : Nat), (∀ x ∈ l, sg3 x = true) → ∀ x ∈ cMv c l u, sg3 x = true
  | [], _, _, x, hx => by cases hx
  | y :: l, u, h, x, hx => by
    rcases List.mem_cons.1 hx with rfl | hx
    · unfold cg
      split
      · rfl
      · split
        · exact hc
        · exact h y (List.mem_cons_self ..)
    · exact cMv_sg hc l _ (fun z hz => h z (List.mem_cons_of_mem _ hz)) x hx
theorem cz_sg {l : List UInt8} (h : ∀ x ∈ l, sg3 x = true) : ∀ x ∈ cz l, sg3 x = true := fun x hx => h x (List.mem_of_mem_take hx)
theorem mv_sg {c : UInt8} (hc : sg3 c = true) {l : List UInt8} (h : ∀ x ∈ l, sg3 x = true) : ∀ x ∈ mv1 c l, sg3 x = true :=
  cz_sg (cMv_sg hc _ _ (fun x hx => by
    rcases List.mem_append.1 hx with hx | hx
    · exact h x hx
    · rw [(List.mem_replicate.1 hx).2]; rfl))
theorem bk_sg {c : UInt8} (hc : sg3 c = true) {l : List UInt8} (h : ∀ x ∈ l, sg3 x = true) : ∀ x ∈ bk1 c l, sg3 x = true :=
  cz_sg (fun x hx => cMv_sg hc _ _ (fun y hy => h y (List.mem_reverse.1 hy)) x (List.mem_reverse.1 hx))

/-! ### rows of one colour -/
def chC (c : UInt8) (l : List Bool) : List UInt8 := l.map fun b => if b then c else 48
theorem chC_length (c : UInt8) (l : List Bool) : (chC c l).length = l.length := by simp [chC]
theorem nz_chC {c : UInt8} (hc : c ≠ 48) (l : List Bool) : nz (chC c l) = l := by
  unfold nz chC
  rw [List.map_map]
  have : l.map ((fun x => !(x == 48)) ∘ fun b => if b = true then c else 48) = l.map id := List.map_congr_left (fun b _ => by cases b <;> simp [hc])
  rw [this, List.map_id]
theorem cz_chC {c : UInt8} (hc : c ≠ 48) (l : List Bool) : cz (chC c l) = chC c (cut l) := by
  unfold cz cut
  rw [nz_chC hc]
  unfold chC
  rw [List.map_take]
/-- a carrier of another colour goes by -/
theorem cMv_by {c d : UInt8} (hdc : c ≠ d) (hd : d ≠ 48) : ∀ l : List Bool, cMv d (chC c l) 0 = chC c l ∧ cLd d (chC c l) 0 = 0
  | [] => ⟨rfl, rfl⟩
  | b :: l => by
    obtain ⟨h1, h2⟩ := cMv_by hdc hd l
    have e : cg d (if b then c else 48) 0 = (if b then c else 48, 0) := by
      unfold cg
      have : ¬ (48 : UInt8) = d := fun h => hd h.symm
      cases b <;> simp [hdc, this]
    show (cg d (if b then c else 48) 0).1 :: cMv d (chC c l) _ = (if b then c else 48) :: chC c l ∧ cLd d (chC c l) _ = 0
    rw [e]
    exact ⟨by rw [h1], h2⟩
theorem mv_by {c d : UInt8} (hdc : c ≠ d) (hd : d ≠ 48) (l : List Bool) : mv1 d (chC c l) = cz (chC c l) := by
  unfold mv1 padN
  rw [cMv_append, (cMv_by hdc hd l).1, (cMv_by hdc hd l).2, (cMv_rep hd _).1]
  exact cz_pad _ _
end Go.Proofs.Ytlgceccbjkkeiab
