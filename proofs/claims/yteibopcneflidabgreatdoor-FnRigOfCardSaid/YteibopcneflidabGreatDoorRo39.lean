/- TEXTS SRigRow. -/
import Derived.Test.YteibopcneflidabGreatDoorRo37
import Derived.Test.YteibopcneflidabGreatDoorRo38
import Derived.Test.YteibopcneflidabGreatDoorRo11
import Derived.Test.YteibopcneflidabGreatDoorRo25
/- THE WALK of the model's RigRow. -/
namespace Go.Proofs.YteibopcneflidabGreatDoor
open Go.RowKit Go.Sort Go.Shelf

theorem PartsV.lo {lo lo' : Nat} {w : World} {v : Value} {l : List (Int × Int)} (h : PartsV lo w v l) (hl : lo' ≤ lo) : PartsV lo' w v l := by
  rcases h with h | ⟨g, c, rfl, h1, h2, h3, h4⟩
  · exact .inl h
  · exact .inr ⟨g, c, rfl, h1, by omega, h3, h4⟩
theorem chars_cons (b : Bool) (l : List Bool) : chars (b :: l) = (if b then 49 else 48) :: chars l := rfl
theorem put_ahead {x lit : ByteArray} {A : List Bool} {b : Bool} (hl : lit.data.toList = [if b then 49 else 48]) (h : x.data.toList = chars A.reverse) : (lit ++ x).data.toList = chars (A ++ [b]).reverse := by
  rw [ByteArray.data_append, Array.toList_append, hl, h, List.reverse_append]; rfl
theorem kRow_succ (m : Nat) (l : List (Int × Int)) : kRow (m + 1) l = (l.reverse.find? (pFull l ((m : Int) + 1))).isSome :: kRow m (pBack l ((m : Int) + 1)) := rfl
/-- what a loop of RigRow knows: the boxes behind are done, the rest fits in the boxes ahead -/
structure RowInv (N : Nat) (l : List (Int × Int)) (m : Nat) (lm : List (Int × Int)) (A : List Bool) : Prop where
  row : kRow N l = A ++ kRow m lm
  len : A.length + m = N
  fits : pFits lm (m : Int)
theorem RowInv.start {N : Nat} {l : List (Int × Int)} (h : pFits l (N : Int)) : RowInv N l N l [] := ⟨rfl, by simp, h⟩
theorem RowInv.none {N m : Nat} {l lm : List (Int × Int)} {A : List Bool} (h : RowInv N l (m + 1) lm A) (hf : lm.reverse.find? (pFull lm ((m : Int) + 1)) = none) : RowInv N l m lm (A ++ [false]) := by
  have e := h.row
  rw [kRow_succ, hf, pBack_none hf] at e
  refine ⟨by rw [e]; simp, by have := h.len; simp; omega, fits_none (by have := h.fits; rwa [Int.natCast_succ] at this) hf⟩
theorem RowInv.some {N m : Nat} {l lm : List (Int × Int)} {A : List Bool} {a : Int × Int} (h : RowInv N l (m + 1) lm A) (hf : lm.reverse.find? (pFull lm ((m : Int) + 1)) = some a) : RowInv N l m (pBack lm ((m : Int) + 1)) (A ++ [true]) := by
  have e := h.row
  rw [kRow_succ, hf] at e
  refine ⟨by rw [e]; simp, by have := h.len; simp; omega, (step_of_back (by have := h.fits; rwa [Int.natCast_succ] at this) hf).1⟩
theorem RowInv.stop {N : Nat} {l lm : List (Int × Int)} {A : List Bool} (h : RowInv N l 0 lm A) : lm = [] ∧ A = kRow N l := by
  have e := h.row
  have e0 : kRow 0 lm = [] := rfl
  rw [e0, List.append_nil] at e
  refine ⟨?_, e.symm⟩
  have := (kRow_back 0 lm h.fits).2.1
  exact this
/-- numbers of what fits -/
theorem pFits.bd {l : List (Int × Int)} {m : Nat} (h : pFits l (m : Int)) (hm : m ≤ 120) : l.length ≤ 60 ∧ (∀ a ∈ l, 1 ≤ a.1 ∧ a.1 ≤ 60 ∧ 0 ≤ a.2 ∧ a.2 ≤ 120) := by
  have hs := fits_sizes h (by omega)
  obtain ⟨m1, m2⟩ := mem_sizes (fun a ha => (h.part a ha).1)
  refine ⟨by omega, fun a ha => ?_⟩
  obtain ⟨h1, h2, h3⟩ := h.part a ha
  have := m2 a ha
  have := room_le l (m : Int) a.1 (by omega) (fun a ha => (h.part a ha).1)
  omega

end Go.Proofs.YteibopcneflidabGreatDoor
