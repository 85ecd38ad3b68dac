/- TEXTS SCol2, Col5. -/
import Derived.Test.Ytkdhifofdghbbaarot05
import Derived.Test.Ytkdhifofdghbbaarot02
import Derived.Maps.AppendAt
import Derived.Lib.ConvBytes
import Derived.Laws.IdiomStrings
/- THE WALK of the model's l5Move. -/
namespace Go.Proofs.Ytkdhifofdghbbaa
open Go.RowKit Go.Lib

/-- bytes as cells -/
def bV (l : List UInt8) : List Value := l.map fun b => .int .u8 (b.toNat : Int)
theorem bV_length (l : List UInt8) : (bV l).length = l.length := by simp [bV]
theorem bV_get {l : List UInt8} {j : Nat} {x : UInt8} (h : l[j]? = some x) : (bV l)[j]? = some (.int .u8 (x.toNat : Int)) := by unfold bV; rw [List.getElem?_map, h]; rfl
theorem bV_set (l : List UInt8) (j : Nat) (x : UInt8) : bV (l.set j x) = (bV l).set j (.int .u8 (x.toNat : Int)) := by unfold bV; rw [List.map_set]
theorem bV_one (l : List UInt8) : ∀ u ∈ bV l, u.oneCell' = true := by
  intro u hu
  obtain ⟨b, _, rfl⟩ := List.mem_map.1 hu
  rfl
theorem infoU8 : (Try.prog.info? 5).map (fun i => (i.zero, i.size, i.bytes)) = some (some (.int .u8 0), 1, 1) := by kernel_rfl
/-- the ball at an index of a padded row finds a box -/
theorem pad_room {c : UInt8} {l : List UInt8} {i : Nat} (hi : i < l.length) (h : (padN l)[i]? = some c) (hc : c ≠ 48) : ∃ k, i + 1 + k < (padN l).length ∧ (cAt c (padN l) i)[i + 1 + k]? = some 48 := by
  have hz : cLd c ((padN l).take i) 0 < zs ((padN l).drop (i + 1)) := by
    have h1 := cLd_le c ((padN l).take i) 0
    rw [List.length_take] at h1
    have h2 : (padN l).drop (i + 1) = l.drop (i + 1) ++ List.replicate (l.length + 1) 48 := by
      unfold padN
      rw [List.drop_append_of_le_length (by omega)]
    rw [h2, zs_append, zs_rep]
    omega
  obtain ⟨k, hk, e⟩ := fz_find (c := c) _ _ hz
  rw [List.length_drop] at hk
  exact ⟨k, by omega, by rw [cAt_behind h hc]; exact e⟩
/-- behind the row itself no ball moves -/
theorem cAt_end {c : UInt8} (hc : c ≠ 48) (l : List UInt8) : cAt c (padN l) l.length = cMv c (padN l) 0 := by
  have h : ∀ d, l.length + d ≤ (padN l).length → cAt c (padN l) (l.length + d) = cAt c (padN l) l.length := by
    intro d
    induction d with
    | zero => intro _; rfl
    | succ d ih =>
      intro hd
      have e : (padN l)[l.length + d]? = some 48 := by
        unfold padN at hd ⊢
        rw [List.length_append, List.length_replicate] at hd
        rw [List.getElem?_append_right (by omega), List.getElem?_replicate, if_pos (by omega)]
      rw [← ih (by omega)]
      exact cAt_other e (fun h => hc h.symm)
  have e := h ((padN l).length - l.length) (by unfold padN; simp)
  rw [← e, show l.length + ((padN l).length - l.length) = (padN l).length by unfold padN; simp, cAt_all]

end Go.Proofs.Ytkdhifofdghbbaa

/- MOVES BACK, box by box from the last one on. Pure: no walk. -/
namespace Go.Proofs.Ytkdhifofdghbbaa
open Go.RowKit

theorem set_rev (l : List UInt8) (a : Nat) (v : UInt8) (h : a < l.length) : (l.set a v).reverse = l.reverse.set (l.length - 1 - a) v := by
  refine List.ext_getElem? fun j => ?_
  by_cases hj : j < l.length
  · rw [List.getElem?_reverse (by rw [List.length_set]; exact hj), List.length_set, List.getElem?_set, List.getElem?_set, List.length_reverse, List.getElem?_reverse hj]
    by_cases e : a = l.length - 1 - j
    · rw [if_pos e, if_pos h, if_pos (show l.length - 1 - a = j by omega), if_pos (show l.length - 1 - a < l.length by omega)]
    · rw [if_neg e, if_neg (by omega)]
  · rw [List.getElem?_eq_none_iff.2 (by rw [List.length_reverse, List.length_set]; omega), List.getElem?_eq_none_iff.2 (by rw [List.length_set, List.length_reverse]; omega)]
/-- the boxes when so many boxes ahead are left -/
def bAt (c : UInt8) (l : List UInt8) (m : Nat) : List UInt8 := (cAt c l.reverse (l.length - m)).reverse
def bInv (c : UInt8) (l : List UInt8) (m : Nat) : Prop := cLd c (l.reverse.take (l.length - m)) 0 ≤ zs (l.reverse.drop (l.length - m))
theorem bAt_length (c : UInt8) (l : List UInt8) (m : Nat) : (bAt c l m).length = l.length := by unfold bAt; rw [List.length_reverse, cAt_length, List.length_reverse]
theorem bAt_start (c : UInt8) (l : List UInt8) : bAt c l l.length = l := by unfold bAt; rw [Nat.sub_self, cAt_zero, List.reverse_reverse]
theorem bAt_done (c : UInt8) (l : List UInt8) : bAt c l 0 = (cMv c l.reverse 0).reverse := by
  unfold bAt
  have := cAt_all c l.reverse
  rw [List.length_reverse] at this
  rw [Nat.sub_zero, this]
theorem bInv_start (c : UInt8) (l : List UInt8) : bInv c l l.length := by unfold bInv; rw [Nat.sub_self]; exact Nat.zero_le _
theorem bInv_done {c : UInt8} {l : List UInt8} (h : bInv c l 0) : cbOk c l = true := by
  unfold bInv at h
  rw [Nat.sub_zero, List.take_of_length_le (by simp), List.drop_of_length_le (by simp), zs_nil] at h
  unfold cbOk
  simp
  omega
theorem rev_at {l : List UInt8} {m : Nat} {y : UInt8} (h : l[m]? = some y) : l.reverse[l.length - (m + 1)]? = some y ∧ l.length - m = l.length - (m + 1) + 1 ∧ m < l.length := by
  have hm := (List.getElem?_eq_some_iff.1 h).1
  refine ⟨?_, by omega, hm⟩
  rw [List.getElem?_reverse (by omega), show l.length - 1 - (l.length - (m + 1)) = m by omega]
  exact h
theorem bAt_get {c : UInt8} {l : List UInt8} {m j : Nat} (hj : j < l.length) : (bAt c l m)[j]? = (cAt c l.reverse (l.length - m))[l.length - 1 - j]? := by
  unfold bAt
  rw [List.getElem?_reverse (by rw [cAt_length, List.length_reverse]; exact hj), cAt_length, List.length_reverse]
theorem bAt_other {c : UInt8} {l : List UInt8} {m : Nat} {y : UInt8} (h : l[m]? = some y) (hy : y ≠ c) : bAt c l m = bAt c l (m + 1) ∧ (bInv c l (m + 1) → bInv c l m) := by
  obtain ⟨h1, h2, h3⟩ := rev_at h
  refine ⟨?_, ?_⟩
  · unfold bAt
    rw [h2, cAt_other h1 hy]
  · intro hi
    unfold bInv at hi ⊢
    obtain ⟨t1, t2⟩ := take_one h1
    rw [h2, t1, cLd_append]
    rw [t2, zs_cons] at hi
    show (cg c y _).2 ≤ _
    unfold cg
    by_cases h4 : y = 48 ∧ 0 < cLd c (l.reverse.take (l.length - (m + 1))) 0
    · rw [if_neg hy, if_pos h4]
      rw [if_pos h4.1] at hi
      show _ - 1 ≤ _
      omega
    · rw [if_neg hy, if_neg h4]
      show cLd c _ 0 ≤ _
      by_cases h5 : y = 48
      · have : cLd c (l.reverse.take (l.length - (m + 1))) 0 = 0 := by
          by_cases h6 : 0 < cLd c (l.reverse.take (l.length - (m + 1))) 0
          · exact absurd ⟨h5, h6⟩ h4
          · omega
        omega
      · rw [if_neg h5] at hi
        omega
theorem bAt_behind {c : UInt8} {l : List UInt8} {m e : Nat} (hc : c ≠ 48) (h : l[m]? = some c) (he : e < m) : (bAt c l (m + 1))[e]? = (fz c (cLd c (l.reverse.take (l.length - (m + 1))) 0) (l.reverse.drop (l.length - (m + 1) + 1)))[m - 1 - e]? := by
  obtain ⟨h1, h2, h3⟩ := rev_at h
  rw [bAt_get (by omega), show l.length - 1 - e = l.length - (m + 1) + 1 + (m - 1 - e) by omega, cAt_behind h1 hc]
theorem bAt_old {c : UInt8} {l : List UInt8} {m e : Nat} (hc : c ≠ 48) (h : l[m]? = some c) (he : e < m) (hz : (bAt c l (m + 1))[e]? = some 48) : l[e]? = some 48 := by
  obtain ⟨h1, h2, h3⟩ := rev_at h
  rw [bAt_behind hc h he] at hz
  have := fz_empty hc _ _ _ hz
  rw [List.getElem?_drop, List.getElem?_reverse (by omega), show l.length - 1 - (l.length - (m + 1) + 1 + (m - 1 - e)) = e by omega] at this
  exact this
theorem bAt_ball {c : UInt8} {l : List UInt8} {m e : Nat} (hc : c ≠ 48) (h : l[m]? = some c) (he : e < m) (hz : (bAt c l (m + 1))[e]? = some 48) (hb : ∀ j, e < j → j < m → (bAt c l (m + 1))[j]? ≠ some 48) :
    bAt c l m = ((bAt c l (m + 1)).set e c).set m 48 ∧ (bInv c l (m + 1) → bInv c l m) := by
  obtain ⟨h1, h2, h3⟩ := rev_at h
  have hz0 := hz
  rw [bAt_behind hc h he] at hz0
  have hzc : (cAt c l.reverse (l.length - (m + 1)))[l.length - (m + 1) + 1 + (m - 1 - e)]? = some 48 := by rw [cAt_behind h1 hc]; exact hz0
  have hbc : ∀ j, j < m - 1 - e → (cAt c l.reverse (l.length - (m + 1)))[l.length - (m + 1) + 1 + j]? ≠ some 48 := by
    intro j hj
    have := hb (m - 1 - j) (by omega) (by omega)
    rw [bAt_get (by omega), show l.length - 1 - (m - 1 - j) = l.length - (m + 1) + 1 + j by omega] at this
    exact this
  refine ⟨?_, ?_⟩
  · unfold bAt
    rw [h2, cAt_ball hc h1 hzc hbc, set_rev _ _ _ (by rw [List.length_set, cAt_length, List.length_reverse]; omega), set_rev _ _ _ (by rw [cAt_length, List.length_reverse]; omega), List.length_set, cAt_length, List.length_reverse,
      show l.length - 1 - (l.length - (m + 1) + 1 + (m - 1 - e)) = e by omega, show l.length - 1 - (l.length - (m + 1)) = m by omega]
  · intro _
    unfold bInv
    obtain ⟨t1, t2⟩ := take_one h1
    rw [h2, t1, cLd_append]
    have e3 : cLd c [c] (cLd c (l.reverse.take (l.length - (m + 1))) 0) = cLd c (l.reverse.take (l.length - (m + 1))) 0 + 1 := by simp [cLd, cg]
    rw [e3]
    by_cases hle : zs (l.reverse.drop (l.length - (m + 1) + 1)) ≤ cLd c (l.reverse.take (l.length - (m + 1))) 0
    · exact absurd hz0 (fz_none hc _ _ hle _)
    · omega
theorem bAt_fail {c : UInt8} {l : List UInt8} {m : Nat} (hc : c ≠ 48) (h : l[m]? = some c) (hb : ∀ j, j < m → (bAt c l (m + 1))[j]? ≠ some 48) : cbOk c l = false := by
  obtain ⟨h1, h2, h3⟩ := rev_at h
  obtain ⟨t1, t2⟩ := take_one h1
  have hle : zs (l.reverse.drop (l.length - (m + 1) + 1)) ≤ cLd c (l.reverse.take (l.length - (m + 1))) 0 := by
    by_cases hlt : cLd c (l.reverse.take (l.length - (m + 1))) 0 < zs (l.reverse.drop (l.length - (m + 1) + 1))
    · obtain ⟨k, hk, e⟩ := fz_find (c := c) _ _ hlt
      rw [List.length_drop, List.length_reverse] at hk
      have h5 := hb (m - 1 - k) (by omega)
      rw [bAt_behind hc h (by omega), show m - 1 - (m - 1 - k) = k by omega] at h5
      exact absurd e h5
    · omega
  have e2 : l.reverse = l.reverse.take (l.length - (m + 1)) ++ c :: l.reverse.drop (l.length - (m + 1) + 1) := by rw [← t2, List.take_append_drop]
  have hld : cLd c l.reverse 0 ≠ 0 := by
    rw [e2, cLd_append]
    have e3 : (cg c c (cLd c (l.reverse.take (l.length - (m + 1))) 0)).2 = cLd c (l.reverse.take (l.length - (m + 1))) 0 + 1 := by unfold cg; rw [if_pos rfl]
    show cLd c (l.reverse.drop (l.length - (m + 1) + 1)) (cg c c _).2 ≠ 0
    rw [e3]
    have := cLd_ge hc (l.reverse.drop (l.length - (m + 1) + 1)) (cLd c (l.reverse.take (l.length - (m + 1))) 0 + 1)
    omega
  unfold cbOk
  simpa using hld
end Go.Proofs.Ytkdhifofdghbbaa
