/- TEXTS Col7. -/
import Derived.Test.YtppelmceojodhaaDoorone10
/- MOVES WITH BOXES PUT BEHIND for balls that find none; moves back that are not cut. Pure: no walk. -/
namespace Go.Proofs.YtppelmceojodhaaDoor
open Go.RowKit

/-- the boxes when the balls ahead of an index have moved, and those that were put behind -/
def aAt (c : UInt8) (l : List UInt8) (i : Nat) : List UInt8 := cAt c l i ++ List.replicate (cLd c (l.take i) 0 - zs (l.drop i)) c
theorem aAt_zero (c : UInt8) (l : List UInt8) : aAt c l 0 = l := by unfold aAt; rw [cAt_zero]; simp [cLd]
theorem aAt_all (c : UInt8) (l : List UInt8) : aAt c l l.length = cMv c l 0 ++ List.replicate (cLd c l 0) c := by
  unfold aAt
  rw [cAt_all, List.take_of_length_le (Nat.le_refl _), List.drop_of_length_le (Nat.le_refl _), zs_nil, Nat.sub_zero]
theorem aAt_length (c : UInt8) (l : List UInt8) (i : Nat) : (aAt c l i).length = l.length + (cLd c (l.take i) 0 - zs (l.drop i)) := by
  unfold aAt
  rw [List.length_append, cAt_length, List.length_replicate]
theorem aAt_le (c : UInt8) (l : List UInt8) (i : Nat) : (aAt c l i).length ≤ l.length + i := by
  rw [aAt_length]
  have := cLd_le c (l.take i) 0
  rw [List.length_take] at this
  omega
theorem aAt_ge (c : UInt8) (l : List UInt8) (i : Nat) : l.length ≤ (aAt c l i).length := by rw [aAt_length]; omega
theorem aAt_other {c : UInt8} {l : List UInt8} {i : Nat} {x : UInt8} (h : l[i]? = some x) (hx : x ≠ c) : aAt c l (i + 1) = aAt c l i := by
  obtain ⟨h1, h2⟩ := take_one h
  unfold aAt
  rw [cAt_other h hx, h1, cLd_append, h2, zs_cons]
  congr 2
  show (cg c x (cLd c (l.take i) 0)).2 - zs (l.drop (i + 1)) = _
  generalize cLd c (l.take i) 0 = u
  unfold cg
  rw [if_neg hx]
  by_cases h4 : x = 48 ∧ 0 < u
  · rw [if_pos h4, if_pos h4.1]
    show u - 1 - _ = _
    omega
  · rw [if_neg h4]
    show u - _ = _
    by_cases h5 : x = 48
    · have : u = 0 := by
        by_cases h6 : 0 < u
        · exact absurd ⟨h5, h6⟩ h4
        · omega
      rw [if_pos h5]
      omega
    · rw [if_neg h5]
      rfl
/-- what is known of the boxes behind the ball at an index -/
theorem aAt_in {c : UInt8} {l : List UInt8} {i : Nat} (h : l[i]? = some c) (hc : c ≠ 48) {k : Nat} (hk : (aAt c l i)[i + 1 + k]? = some 48) : (cAt c l i)[i + 1 + k]? = some 48 ∧ cLd c (l.take i) 0 < zs (l.drop (i + 1)) ∧ i + 1 + k < l.length := by
  have hlt : i + 1 + k < l.length := by
    by_cases hl : i + 1 + k < l.length
    · exact hl
    · unfold aAt at hk
      rw [List.getElem?_append_right (by rw [cAt_length]; omega), List.getElem?_replicate] at hk
      split at hk
      · injection hk with hk; exact absurd hk hc
      · cases hk
  have h2 : (cAt c l i)[i + 1 + k]? = some 48 := by
    unfold aAt at hk
    rw [List.getElem?_append_left (by rw [cAt_length]; omega)] at hk
    exact hk
  refine ⟨h2, ?_, hlt⟩
  rw [cAt_behind h hc] at h2
  by_cases hle : zs (l.drop (i + 1)) ≤ cLd c (l.take i) 0
  · exact absurd h2 (fz_none hc _ _ hle _)
  · omega
theorem ld_ball {c : UInt8} {l : List UInt8} {i : Nat} (h : l[i]? = some c) (hc : c ≠ 48) : cLd c (l.take (i + 1)) 0 = cLd c (l.take i) 0 + 1 ∧ zs (l.drop i) = zs (l.drop (i + 1)) := by
  obtain ⟨h1, h2⟩ := take_one h
  rw [h1, cLd_append, h2, zs_cons, if_neg hc]
  refine ⟨?_, rfl⟩
  show (cg c c _).2 = _
  unfold cg
  rw [if_pos rfl]
theorem aAt_ball {c : UInt8} {l : List UInt8} {i k : Nat} (hc : c ≠ 48) (h : l[i]? = some c) (hk : (aAt c l i)[i + 1 + k]? = some 48) (hb : ∀ j, j < k → (aAt c l i)[i + 1 + j]? ≠ some 48) :
    aAt c l (i + 1) = ((aAt c l i).set (i + 1 + k) c).set i 48 := by
  obtain ⟨k1, k2, k3⟩ := aAt_in h hc hk
  have hb2 : ∀ j, j < k → (cAt c l i)[i + 1 + j]? ≠ some 48 := by
    intro j hj e
    refine hb j hj ?_
    unfold aAt
    rw [List.getElem?_append_left (by rw [cAt_length]; omega)]
    exact e
  obtain ⟨l1, l2⟩ := ld_ball h hc
  unfold aAt
  rw [cAt_ball hc h k1 hb2, l1, l2, show cLd c (l.take i) 0 + 1 - zs (l.drop (i + 1)) = 0 by omega, show cLd c (l.take i) 0 - zs (l.drop (i + 1)) = 0 by omega]
  simp
/-- a full row of boxes is filled no further -/
theorem fz_full {c : UInt8} : ∀ (u v : Nat) (l : List UInt8), zs l ≤ u → zs l ≤ v → fz c u l = fz c v l
  | _, _, [], _, _ => by simp [fz]
  | u, v, x :: l, h1, h2 => by
    rw [zs_cons] at h1 h2
    by_cases h : x = 48
    · rw [if_pos h] at h1 h2
      rw [fz_pos ⟨h, by omega⟩, fz_pos ⟨h, by omega⟩, fz_full (u - 1) (v - 1) l (by omega) (by omega)]
    · rw [if_neg h] at h1 h2
      rw [fz_neg (fun e => h e.1), fz_neg (fun e => h e.1), fz_full u v l (by omega) (by omega)]
theorem aAt_out {c : UInt8} {l : List UInt8} {i : Nat} (hc : c ≠ 48) (h : l[i]? = some c) (hb : ∀ j, i + 1 ≤ j → j < (aAt c l i).length → (aAt c l i)[j]? ≠ some 48) :
    aAt c l (i + 1) = ((aAt c l i) ++ [c]).set i 48 := by
  obtain ⟨h1, h2⟩ := take_one h
  obtain ⟨hi, _⟩ := List.getElem?_eq_some_iff.1 h
  obtain ⟨l1, l2⟩ := ld_ball h hc
  have hle : zs (l.drop (i + 1)) ≤ cLd c (l.take i) 0 := by
    by_cases hlt : cLd c (l.take i) 0 < zs (l.drop (i + 1))
    · obtain ⟨k, hk, e⟩ := fz_find (c := c) _ _ hlt
      rw [List.length_drop] at hk
      rw [← cAt_behind h hc] at e
      have := aAt_ge c l i
      refine absurd ?_ (hb (i + 1 + k) (by omega) (by omega))
      unfold aAt
      rw [List.getElem?_append_left (by rw [cAt_length]; omega)]
      exact e
    · omega
  have hset : cAt c l (i + 1) = (cAt c l i).set i 48 := by
    have hll : (cMv c (l.take i) 0).length = i := by rw [cMv_length, List.length_take]; omega
    unfold cAt
    rw [h1, cMv_append, cLd_append, h2, fz_neg (fun e => hc e.1), List.append_assoc]
    have e2 : cMv c [c] (cLd c (l.take i) 0) = [48] := by simp [cMv, cg]
    have e3 : cLd c [c] (cLd c (l.take i) 0) = cLd c (l.take i) 0 + 1 := by simp [cLd, cg]
    rw [e2, e3, fz_full (cLd c (l.take i) 0 + 1) (cLd c (l.take i) 0) _ (by omega) hle]
    generalize cMv c (l.take i) 0 = A at hll ⊢
    generalize fz c (cLd c (l.take i) 0) (l.drop (i + 1)) = B
    subst hll
    rw [set_at]
    rfl
  unfold aAt
  rw [hset, l1, l2, show cLd c (l.take i) 0 + 1 - zs (l.drop (i + 1)) = (cLd c (l.take i) 0 - zs (l.drop (i + 1))) + 1 by omega, List.replicate_succ', ← List.append_assoc, List.append_assoc, List.append_assoc, List.set_append_left _ _ (by rw [cAt_length]; exact hi)]
/-- what is left of the load fills the boxes behind -/
theorem cMv_fill {c : UInt8} (hc : c ≠ 48) : ∀ (m u : Nat), u ≤ m → cMv c (List.replicate m 48) u = List.replicate u c ++ List.replicate (m - u) 48
  | m, 0, _ => by rw [(cMv_rep hc m).1]; simp
  | 0, u + 1, h => by omega
  | m + 1, u + 1, h => by
    have e : cg c 48 (u + 1) = (c, u) := by
      unfold cg
      rw [if_neg (fun h => hc h.symm), if_pos ⟨rfl, by omega⟩]
      rfl
    rw [List.replicate_succ]
    show (cg c 48 (u + 1)).1 :: cMv c (List.replicate m 48) (cg c 48 (u + 1)).2 = _
    rw [e]
    show c :: cMv c (List.replicate m 48) u = _
    rw [cMv_fill hc m u (by omega), List.replicate_succ, show m + 1 - (u + 1) = m - u by omega]
    rfl
/-- a move, with boxes put behind, and as it is told -/
def mvU (c : UInt8) (l : List UInt8) : List UInt8 := aAt c l l.length
theorem mvU_cz {c : UInt8} (hc : c ≠ 48) (l : List UInt8) : cz (mvU c l) = mv1 c l := by
  unfold mvU mv1 padN
  have hle := cLd_le c l 0
  rw [aAt_all, cMv_append, cMv_fill hc _ _ (by omega), ← List.append_assoc, cz_pad]
theorem mvU_len (c : UInt8) (l : List UInt8) : (mvU c l).length = l.length + cLd c l 0 := by
  unfold mvU
  rw [aAt_all, List.length_append, cMv_length, List.length_replicate]
theorem mvU_le (c : UInt8) (l : List UInt8) : (mvU c l).length ≤ 2 * l.length := by
  have := cLd_le c l 0
  rw [mvU_len]
  omega
theorem mvU_sg {c : UInt8} (hc : sg3 c = true) {l : List UInt8} (h : ∀ x ∈ l, sg3 x = true) : ∀ x ∈ mvU c l, sg3 x = true := by
  intro x hx
  unfold mvU at hx
  rw [aAt_all] at hx
  rcases List.mem_append.1 hx with hx | hx
  · exact cMv_sg hc l 0 h x hx
  · rw [(List.mem_replicate.1 hx).2]; exact hc
/-- a move back, not cut -/
def bkU (c : UInt8) (l : List UInt8) : List UInt8 := (cMv c l.reverse 0).reverse
theorem bkU_len (c : UInt8) (l : List UInt8) : (bkU c l).length = l.length := by unfold bkU; rw [List.length_reverse, cMv_length, List.length_reverse]
theorem bkU_sg {c : UInt8} (hc : sg3 c = true) {l : List UInt8} (h : ∀ x ∈ l, sg3 x = true) : ∀ x ∈ bkU c l, sg3 x = true :=
  fun x hx => cMv_sg hc _ _ (fun y hy => h y (List.mem_reverse.1 hy)) x (List.mem_reverse.1 hx)
/-- the program's move back: a move of the turned row that needs no more boxes -/
theorem bkU_ok {c : UInt8} {l : List UInt8} (h : cbOk c l = true) : (mvU c l.reverse).length = l.length ∧ (mvU c l.reverse).reverse = bkU c l := by
  have h0 : cLd c l.reverse 0 = 0 := by unfold cbOk at h; simpa using h
  refine ⟨by rw [mvU_len, h0, List.length_reverse, Nat.add_zero], ?_⟩
  unfold mvU bkU
  rw [aAt_all, h0, List.replicate_zero, List.append_nil]
theorem bkU_no {c : UInt8} {l : List UInt8} (h : cbOk c l = false) : l.length < (mvU c l.reverse).length := by
  have h0 : cLd c l.reverse 0 ≠ 0 := by unfold cbOk at h; simpa using h
  rw [mvU_len, List.length_reverse]
  omega
theorem bkU_pad {c : UInt8} (hc : c ≠ 48) (l : List UInt8) (n : Nat) : bkU c (l ++ List.replicate n 48) = bkU c l ++ List.replicate n 48 ∧ cbOk c (l ++ List.replicate n 48) = cbOk c l := by
  unfold bkU cbOk
  rw [List.reverse_append, List.reverse_replicate, cMv_append, cLd_append, (cMv_rep hc n).1, (cMv_rep hc n).2, List.reverse_append, List.reverse_replicate]
  exact ⟨rfl, rfl⟩
theorem bkU_cz {c : UInt8} (hc : c ≠ 48) (l : List UInt8) : bk1 c (cz l) = bk1 c l ∧ cbOk c (cz l) = cbOk c l := by
  obtain ⟨n, hn⟩ := cz_eq l
  have h := bkU_pad hc (cz l) n
  rw [← hn] at h
  refine ⟨?_, h.2.symm⟩
  show cz (bkU c (cz l)) = cz (bkU c l)
  rw [h.1, cz_pad]
def bkUO (c : UInt8) (l : List UInt8) : Option (List UInt8) := if cbOk c l then some (bkU c l) else none
/-- what a step back answers, in terms of moves that are not cut -/
theorem backL_none1 {l : List UInt8} (h : cbOk 51 l = false) : backL l = none := by
  have : bkO 51 l = none := by unfold bkO; rw [h]; rfl
  unfold backL
  rw [this]
  rfl
theorem backL_none2 {l : List UInt8} (h1 : cbOk 51 l = true) (h : cbOk 50 (bkU 51 l) = false) : backL l = none := by
  have e1 : bkO 51 l = some (bk1 51 l) := bkO_ok h1 rfl
  have h2 : cbOk 50 (bk1 51 l) = false := by
    show cbOk 50 (cz (bkU 51 l)) = false
    rw [(bkU_cz n50 _).2]
    exact h
  have e2 : bkO 50 (bk1 51 l) = none := by unfold bkO; rw [h2]; rfl
  exact (bind_of e1).trans (by rw [e2]; rfl)
theorem bk_two {l : List UInt8} : bk1 50 (bk1 51 l) = cz (bkU 50 (bkU 51 l)) := (bkU_cz n50 (bkU 51 l)).1
theorem backL_none3 {l : List UInt8} (h1 : cbOk 51 l = true) (h2 : cbOk 50 (bkU 51 l) = true) (h : cbOk 49 (bkU 50 (bkU 51 l)) = false) : backL l = none := by
  have e1 : bkO 51 l = some (bk1 51 l) := bkO_ok h1 rfl
  have k2 : cbOk 50 (bk1 51 l) = true := by
    show cbOk 50 (cz (bkU 51 l)) = true
    rw [(bkU_cz n50 _).2]
    exact h2
  have e2 : bkO 50 (bk1 51 l) = some (bk1 50 (bk1 51 l)) := bkO_ok k2 rfl
  have k3 : cbOk 49 (bk1 50 (bk1 51 l)) = false := by
    rw [bk_two, (bkU_cz n49 _).2]
    exact h
  have e3 : bkO 49 (bk1 50 (bk1 51 l)) = none := by unfold bkO; rw [k3]; rfl
  exact (bind_of e1).trans ((bind_of e2).trans e3)
theorem backL_yes {l : List UInt8} (h1 : cbOk 51 l = true) (h2 : cbOk 50 (bkU 51 l) = true) (h3 : cbOk 49 (bkU 50 (bkU 51 l)) = true) : backL l = some (cz (bkU 49 (bkU 50 (bkU 51 l)))) := by
  have e1 : bkO 51 l = some (bk1 51 l) := bkO_ok h1 rfl
  have k2 : cbOk 50 (bk1 51 l) = true := by
    show cbOk 50 (cz (bkU 51 l)) = true
    rw [(bkU_cz n50 _).2]
    exact h2
  have e2 : bkO 50 (bk1 51 l) = some (bk1 50 (bk1 51 l)) := bkO_ok k2 rfl
  have k3 : cbOk 49 (bk1 50 (bk1 51 l)) = true := by
    rw [bk_two, (bkU_cz n49 _).2]
    exact h3
  have e3 : bkO 49 (bk1 50 (bk1 51 l)) = some (cz (bkU 49 (bkU 50 (bkU 51 l)))) := bkO_ok k3 (by rw [bk_two, (bkU_cz n49 _).1]; rfl)
  exact (bind_of e1).trans ((bind_of e2).trans e3)
/-- the empty boxes at the end, as they are cut by bytes -/
theorem cz_drop (l : List UInt8) : (l.reverse.dropWhile (fun x => x == 48)).reverse = cz l := by
  obtain ⟨n, hn⟩ := cz_eq l
  have h : ∀ m : List UInt8, (m.reverse.dropWhile (fun x => x == 48)).reverse = cz m := by
    intro m
    have hm : ∀ r : List UInt8, (r.dropWhile (fun x => x == 48)).reverse = cz r.reverse := by
      intro r
      induction r with
      | nil => rfl
      | cons b r ih =>
        rw [List.reverse_cons]
        by_cases hb : b = 48
        · subst hb
          rw [List.dropWhile_cons_of_pos (by rfl), ih]
          exact (cz_pad r.reverse 1).symm
        · rw [List.dropWhile_cons_of_neg (by simpa using hb), List.reverse_cons]
          have e1 : nz (r.reverse ++ [b]) = nz r.reverse ++ [true] := by simp [nz, hb]
          unfold cz
          rw [e1, tl_snoc, nz_length, if_pos rfl, List.take_of_length_le (by simp)]
    have := hm m.reverse
    rwa [List.reverse_reverse] at this
  exact h l
end Go.Proofs.YtppelmceojodhaaDoor
