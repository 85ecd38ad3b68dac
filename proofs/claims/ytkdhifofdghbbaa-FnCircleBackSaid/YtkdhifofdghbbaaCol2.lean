/- WHAT MOVES OF COLOURS SAY OF ROWS. Pure: nothing of the program is named here. -/
import Derived.Test.YtkdhifofdghbbaaCol1
import Derived.Test.YtkdhifofdghbbaaRowBalls
namespace Go.Proofs.Ytkdhifofdghbbaa
open Go.RowKit

/-- the boxes with balls of whatever colour -/
def nz (l : List UInt8) : List Bool := l.map (fun x => !(x == 48))
/-- a row up to its last ball -/
def cz (l : List UInt8) : List UInt8 := l.take (tl (nz l))
theorem nz_length (l : List UInt8) : (nz l).length = l.length := by simp [nz]
theorem cz_length (l : List UInt8) : (cz l).length = tl (nz l) := by
  unfold cz
  rw [List.length_take]
  have := tl_le (nz l)
  rw [nz_length] at this
  exact Nat.min_eq_left this
theorem cz_eq (l : List UInt8) : ∃ n, l = cz l ++ List.replicate n 48 := by
  have h : ∀ m : List UInt8, ∃ n, m.reverse = cz m.reverse ++ List.replicate n 48 := by
    intro m
    induction m with
    | nil => exact ⟨0, rfl⟩
    | cons b m ih =>
      obtain ⟨n, hn⟩ := ih
      rw [List.reverse_cons]
      by_cases hb : b = 48
      · subst hb
        refine ⟨n + 1, ?_⟩
        have e : cz (m.reverse ++ [48]) = cz m.reverse := by
          unfold cz
          have e1 : nz (m.reverse ++ [48]) = nz m.reverse ++ [false] := by simp [nz]
          rw [e1, tl_snoc]
          have := tl_le (nz m.reverse)
          rw [nz_length] at this
          exact List.take_append_of_le_length (by simpa using this)
        rw [e, List.replicate_succ', ← List.append_assoc, ← hn]
      · refine ⟨0, ?_⟩
        have e1 : nz (m.reverse ++ [b]) = nz m.reverse ++ [true] := by simp [nz, hb]
        unfold cz
        rw [e1, tl_snoc, nz_length, if_pos rfl, List.take_of_length_le (by simp)]
        simp
  have := h l.reverse
  rwa [List.reverse_reverse] at this
theorem cz_pad (l : List UInt8) (n : Nat) : cz (l ++ List.replicate n 48) = cz l := by
  induction n with
  | zero => simp
  | succ n ih =>
    rw [List.replicate_succ', ← List.append_assoc]
    have e1 : nz (l ++ List.replicate n 48 ++ [48]) = nz (l ++ List.replicate n 48) ++ [false] := by simp [nz]
    have h : tl (nz (l ++ List.replicate n 48)) ≤ (l ++ List.replicate n 48).length := by
      have := tl_le (nz (l ++ List.replicate n 48)); rwa [nz_length] at this
    rw [← ih]
    unfold cz
    rw [e1, tl_snoc]
    simp only [Bool.false_eq_true, if_false]
    exact List.take_append_of_le_length h
theorem cz_cz (l : List UInt8) : cz (cz l) = cz l := by
  obtain ⟨n, hn⟩ := cz_eq l
  have h := cz_pad (cz l) n
  rw [← hn] at h
  exact h.symm
/-- empty boxes with no load stay as they are -/
theorem cMv_rep {c : UInt8} (hc : c ≠ 48) : ∀ n : Nat, cMv c (List.replicate n 48) 0 = List.replicate n 48 ∧ cLd c (List.replicate n 48) 0 = 0
  | 0 => ⟨rfl, rfl⟩
  | n + 1 => by
    obtain ⟨h1, h2⟩ := cMv_rep hc n
    have e : cg c 48 0 = (48, 0) := by unfold cg; rw [if_neg (fun h => hc h.symm)]; simp
    rw [List.replicate_succ]
    show (cg c 48 0).1 :: cMv c (List.replicate n 48) (cg c 48 0).2 = _ ∧ cLd c (List.replicate n 48) (cg c 48 0).2 = 0
    rw [e]
    exact ⟨by rw [h1], h2⟩
theorem zs_rep (n : Nat) : zs (List.replicate n 48) = n := by unfold zs; simp
theorem zs_append (l m : List UInt8) : zs (l ++ m) = zs l + zs m := by unfold zs; exact List.count_append
theorem cg_48 {c : UInt8} (hc : c ≠ 48) (u : Nat) : (cg c 48 u).2 = u - 1 := by
  unfold cg
  rw [if_neg (fun h => hc h.symm)]
  by_cases h : (48 : UInt8) = 48 ∧ 0 < u
  · rw [if_pos h]
  · rw [if_neg h]
    have : ¬ 0 < u := fun h2 => h ⟨rfl, h2⟩
    show u = u - 1
    omega
/-- enough empty boxes behind: no ball is left over -/
theorem cLd_pad {c : UInt8} (hc : c ≠ 48) : ∀ (n u : Nat), cLd c (List.replicate n 48) u = u - n
  | 0, _ => rfl
  | n + 1, u => by
    rw [List.replicate_succ]
    show cLd c (List.replicate n 48) (cg c 48 u).2 = _
    rw [cLd_pad hc n, cg_48 hc]
    omega
/-- a move of a colour, with empty boxes behind -/
def padN (l : List UInt8) : List UInt8 := l ++ List.replicate (l.length + 1) 48
def mv1 (c : UInt8) (l : List UInt8) : List UInt8 := cz (cMv c (padN l) 0)
theorem pad_load {c : UInt8} (hc : c ≠ 48) (l : List UInt8) : cLd c (padN l) 0 = 0 := by
  unfold padN
  rw [cLd_append, cLd_pad hc]
  have := cLd_le c l 0
  omega
/-- a move back; it fails where a ball is left over -/
def bk1 (c : UInt8) (l : List UInt8) : List UInt8 := cz (cMv c l.reverse 0).reverse
def cbOk (c : UInt8) (l : List UInt8) : Bool := decide (cLd c l.reverse 0 = 0)
theorem mv_back {c : UInt8} (hc : c ≠ 48) (l : List UInt8) : cbOk c (mv1 c l) = true ∧ bk1 c (mv1 c l) = cz l := by
  obtain ⟨n, hn⟩ := cz_eq (cMv c (padN l) 0)
  obtain ⟨h1, h2⟩ := cBack hc (padN l) 0
  rw [pad_load hc, hn, List.reverse_append, List.reverse_replicate] at h1 h2
  rw [cMv_append, (cMv_rep hc n).1, (cMv_rep hc n).2] at h1
  rw [cLd_append, (cMv_rep hc n).2] at h2
  refine ⟨by unfold cbOk mv1; simpa using h2, ?_⟩
  unfold bk1 mv1
  have e : padN l = (cMv c (cz (cMv c (padN l) 0)).reverse 0).reverse ++ List.replicate n 48 := by
    have := congrArg List.reverse h1
    rw [List.reverse_reverse, List.reverse_append, List.reverse_replicate] at this
    exact this.symm
  have e2 := cz_pad ((cMv c (cz (cMv c (padN l) 0)).reverse 0).reverse) n
  rw [← e] at e2
  rw [← e2]
  exact cz_pad l _
theorem back_mv {c : UInt8} (hc : c ≠ 48) (l : List UInt8) (h : cbOk c l = true) : mv1 c (bk1 c l) = cz l := by
  have h0 : cLd c l.reverse 0 = 0 := by unfold cbOk at h; simpa using h
  obtain ⟨h1, h2⟩ := cBack hc l.reverse 0
  rw [h0] at h1 h2
  rw [List.reverse_reverse] at h1
  obtain ⟨n, hn⟩ := cz_eq (cMv c l.reverse 0).reverse
  -- l is the move of a row with n empty boxes more
  have e1 : cMv c (bk1 c l ++ List.replicate n 48) 0 = l := by unfold bk1; rw [← hn]; exact h1
  have e2 : cLd c (bk1 c l ++ List.replicate n 48) 0 = 0 := by unfold bk1; rw [← hn]; exact h2
  unfold mv1
  by_cases hle : n ≤ (bk1 c l).length + 1
  · have e3 : padN (bk1 c l) = (bk1 c l ++ List.replicate n 48) ++ List.replicate ((bk1 c l).length + 1 - n) 48 := by
      unfold padN
      rw [List.append_assoc, List.replicate_append_replicate]
      congr 2
      omega
    rw [e3, cMv_append, e1, e2, (cMv_rep hc _).1]
    exact cz_pad l _
  · have e3 : bk1 c l ++ List.replicate n 48 = padN (bk1 c l) ++ List.replicate (n - ((bk1 c l).length + 1)) 48 := by
      unfold padN
      rw [List.append_assoc, List.replicate_append_replicate]
      congr 2
      omega
    rw [e3, cMv_append, pad_load hc, (cMv_rep hc _).1] at e1
    have h3 := cz_pad (cMv c (padN (bk1 c l)) 0) (n - ((bk1 c l).length + 1))
    rw [e1] at h3
    exact h3.symm
/-- counts -/
theorem cg_count {c : UInt8} (d x : UInt8) (u : Nat) (hd : d ≠ 48) : (if (cg c x u).1 = d then 1 else 0) + (if d = c then (cg c x u).2 else 0) = (if x = d then 1 else 0) + (if d = c then u else 0) := by
  have h0 : ¬ (48 : UInt8) = d := fun h => hd h.symm
  by_cases h1 : x = c
  · have e : cg c x u = (48, u + 1) := by unfold cg; rw [if_pos h1]
    rw [e, if_neg h0]
    by_cases h2 : d = c
    · rw [if_pos h2, if_pos (h1.trans h2.symm), if_pos h2]; show 0 + (u + 1) = 1 + u; omega
    · rw [if_neg h2, if_neg (fun h => h2 (h.symm.trans h1)), if_neg h2]
  · by_cases h2 : x = 48 ∧ 0 < u
    · have e : cg c x u = (c, u - 1) := by unfold cg; rw [if_neg h1, if_pos h2]
      have h3 : ¬ x = d := fun h => hd (h.symm.trans h2.1)
      rw [e, if_neg h3]
      by_cases h4 : d = c
      · rw [if_pos h4.symm, if_pos h4, if_pos h4]; show 1 + (u - 1) = 0 + u; omega
      · rw [if_neg (fun h => h4 h.symm), if_neg h4, if_neg h4]
    · have e : cg c x u = (x, u) := by unfold cg; rw [if_neg h1, if_neg h2]
      rw [e]
theorem cMv_count {c : UInt8} {d : UInt8} (hd : d ≠ 48) : ∀ (l : List UInt8) (u : Nat), (cMv c l u).count d + (if d = c then cLd c l u else 0) = l.count d + (if d = c then u else 0)
  | [], u => by simp [cMv, cLd]
  | x :: l, u => by
    have ih := cMv_count (c := c) hd l (cg c x u).2
    have hg := cg_count (c := c) d x u hd
    show ((cg c x u).1 :: cMv c l _).count d + (if d = c then cLd c l _ else 0) = _
    rw [List.count_cons, List.count_cons]
    simp only [beq_iff_eq]
    omega
theorem cz_count {d : UInt8} (hd : d ≠ 48) (l : List UInt8) : (cz l).count d = l.count d := by
  obtain ⟨n, hn⟩ := cz_eq l
  conv => rhs; rw [hn, List.count_append, List.count_replicate]
  have : ¬ (48 : UInt8) = d := fun h => hd h.symm
  simp [this]
theorem mv_count {c : UInt8} (hc : c ≠ 48) {d : UInt8} (hd : d ≠ 48) (l : List UInt8) : (mv1 c l).count d = l.count d := by
  unfold mv1
  rw [cz_count hd]
  have h := cMv_count (c := c) hd (padN l) 0
  rw [pad_load hc] at h
  have e : (padN l).count d = l.count d := by
    unfold padN
    have : ¬ (48 : UInt8) = d := fun h => hd h.symm
    rw [List.count_append, List.count_replicate]
    simp [this]
  simp only [ite_self, Nat.add_zero] at h
  omega
/-- balls of other colours stay in their boxes -/
theorem cMv_other {c : UInt8} {x : UInt8} (hx : x ≠ 48) (hxc : x ≠ c) : ∀ (l : List UInt8) (u j : Nat), l[j]? = some x → (cMv c l u)[j]? = some x
  | [], _, _, h => by simp at h
  | y :: l, u, 0, h => by
    have e : y = x := by simpa using h
    subst e
    show ((cg c y u).1 :: _)[0]? = _
    unfold cg
    simp [hxc, hx]
  | y :: l, u, j + 1, h => by
    show ((cg c y u).1 :: cMv c l _)[j + 1]? = _
    simpa using cMv_other hx hxc l _ j (by simpa using h)
theorem cz_get {l : List UInt8} {j : Nat} {x : UInt8} (hx : x ≠ 48) (h : l[j]? = some x) : (cz l)[j]? = some x := by
  obtain ⟨n, hn⟩ := cz_eq l
  rw [hn] at h
  by_cases hj : j < (cz l).length
  · rw [List.getElem?_append_left hj] at h; exact h
  · rw [List.getElem?_append_right (by omega), List.getElem?_replicate] at h
    split at h
    · injection h with h; exact absurd h.symm hx
    · cases h
theorem mv_other {c x : UInt8} (hx : x ≠ 48) (hxc : x ≠ c) {l : List UInt8} {j : Nat} (h : l[j]? = some x) : (mv1 c l)[j]? = some x := by
  refine cz_get hx (cMv_other hx hxc _ _ _ ?_)
  unfold padN
  rw [List.getElem?_append_left (List.getElem?_eq_some_iff.1 h).1]
  exact h
end Go.Proofs.Ytkdhifofdghbbaa
