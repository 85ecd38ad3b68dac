/- THE WALK of the model's l5Move. -/
import Derived.Test.YtkdhifofdghbbaaSCol
import Derived.Test.YtkdhifofdghbbaaDraw
import Derived.Maps.AppendAt
import Derived.Lib.ConvBytes
import Derived.Laws.IdiomStrings
namespace Go.Proofs.Ytkdhifofdghbbaa
open Go.RowKit Go.Lib

/-- bytes as cells -/
def bV (l : List UInt8) : List Value := l.map fun b => .int .u8 (b.toNat : Int)
theorem bV_length (l : List UInt8) : (bV l).length = l.length := by simp [bV]
theorem bV_get {l : List UInt8} {j : Nat} {x : UInt8} (h : l[j]? = some x) : (bV l)[j]? = some (.int .u8 (x.toNat : Int)) := by unfold bV; rw [List.getElem?_map, h]; rfl
theorem bV_set (l : List UInt8) (j : Nat) (x : UInt8) : bV (l.set j x) = (bV l).set j (.int .u8 (x.toNat : Int)) := by unfold bV; rw [List.map_set]
theorem bV_one (l : List UInt8) : ∀ u ∈ bV l, u.oneCell' = true := by
  intro u hu
  obtain ⟨b, _, rfl⟩ := List.mem_map.1 hu
  rfl
theorem infoU8 : (Try.prog.info? 5).map (fun i => (i.zero, i.size, i.bytes)) = some (some (.int .u8 0), 1, 1) := by kernel_rfl
/-- the ball at an index of a padded row finds a box -/
theorem pad_room {c : UInt8} {l : List UInt8} {i : Nat} (hi : i < l.length) (h : (padN l)[i]? = some c) (hc : c ≠ 48) : ∃ k, i + 1 + k < (padN l).length ∧ (cAt c (padN l) i)[i + 1 + k]? = some 48 := by
  have hz : cLd c ((padN l).take i) 0 < zs ((padN l).drop (i + 1)) := by
    have h1 := cLd_le c ((padN l).take i) 0
    rw [List.length_take] at h1
    have h2 : (padN l).drop (i + 1) = l.drop (i + 1) ++ List.replicate (l.length + 1) 48 := by
      unfold padN
      rw [List.drop_append_of_le_length (by omega)]
    rw [h2, zs_append, zs_rep]
    omega
  obtain ⟨k, hk, e⟩ := fz_find (c := c) _ _ hz
  rw [List.length_drop] at hk
  exact ⟨k, by omega, by rw [cAt_behind h hc]; exact e⟩
/-- behind the row itself no ball moves -/
theorem cAt_end {c : UInt8} (hc : c ≠ 48) (l : List UInt8) : cAt c (padN l) l.length = cMv c (padN l) 0 := by
  have h : ∀ d, l.length + d ≤ (padN l).length → cAt c (padN l) (l.length + d) = cAt c (padN l) l.length := by
    intro d
    induction d with
    | zero => intro _; rfl
    | succ d ih =>
      intro hd
      have e : (padN l)[l.length + d]? = some 48 := by
        unfold padN at hd ⊢
        rw [List.length_append, List.length_replicate] at hd
        rw [List.getElem?_append_right (by omega), List.getElem?_replicate, if_pos (by omega)]
      rw [← ih (by omega)]
      exact cAt_other e (fun h => hc h.symm)
  have e := h ((padN l).length - l.length) (by unfold padN; simp)
  rw [← e, show l.length + ((padN l).length - l.length) = (padN l).length by unfold padN; simp, cAt_all]

end Go.Proofs.Ytkdhifofdghbbaa
