/- TEXTS Shape3, CmpA, CmpI. -/
import Derived.Test.Ytkdhifofdghbbabexc34
import Derived.Test.YtkdhifofdghbbabChecked
import Derived.Test.Ytkdhifofdghbbabexc01
/- THE WALK of the model's ShapeEnergy. -/
namespace Go.Proofs.Ytkdhifofdghbbab
open Go.RowKit

/-- a size in its range -/
def szOk (x : Int) : Bool := decide (1 ≤ x) && decide (x ≤ 200)
/-- what ShapeEnergy answers -/
def enOk (l : List Int) (room : Int) : Bool := roomOk room && decide (l.length ≤ 100) && l.all szOk
def enSum (l : List Int) (room : Int) : Int := (l.map fun x => min x room).sum
def enN (l : List Int) (room : Int) : Int := if enOk l room then enSum l room else 0

theorem enSum_take (l : List Int) (room x : Int) (k : Nat) (h : l[k]? = some x) : enSum (l.take (k + 1)) room = enSum (l.take k) room + min x room := by
  obtain ⟨hk, e⟩ := List.getElem?_eq_some_iff.1 h
  unfold enSum
  rw [List.take_succ_eq_append_getElem hk, List.map_append, List.sum_append, e]; simp
theorem enSum_bd (l : List Int) (room : Int) (hr : roomOk room = true) (hl : l.all szOk = true) : 0 ≤ enSum l room ∧ enSum l room ≤ 200 * (l.length : Int) := by
  unfold roomOk at hr
  simp at hr
  induction l with
  | nil => exact ⟨Int.le_refl _, by simp [enSum]⟩
  | cons x t ih =>
    rw [List.all_cons, Bool.and_eq_true] at hl
    obtain ⟨i1, i2⟩ := ih hl.2
    have h1 := hl.1
    unfold szOk at h1
    simp at h1
    have e : enSum (x :: t) room = min x room + enSum t room := by unfold enSum; simp
    rw [e, List.length_cons]
    omega
theorem all_take_succ (l : List Int) (p : Int → Bool) (k : Nat) (x : Int) (h : l[k]? = some x) : (l.take (k + 1)).all p = ((l.take k).all p && p x) := by
  obtain ⟨hk, e⟩ := List.getElem?_eq_some_iff.1 h
  rw [List.take_succ_eq_append_getElem hk, List.all_append, e]; simp

end Go.Proofs.Ytkdhifofdghbbab

/- THE WALK of the model's ShapeTime. -/
namespace Go.Proofs.Ytkdhifofdghbbab
open Go.RowKit

/-- from a text on, with n steps behind: how many steps until it is apart -/
def tmF : Nat → ByteArray → Nat → Int × Bool
  | 0, _, _ => (0, false)
  | f + 1, s, n => if apOk s then ((n : Int), true) else if stOk s 200 then tmF f (stS s 200) (n + 1) else (0, false)
/-- what ShapeTime answers -/
def tmR (s : ByteArray) : Int × Bool := if vld s then tmF 61 s 0 else (0, false)

end Go.Proofs.Ytkdhifofdghbbab

/- THE WALKS of cmp.Compare at ints, falling. -/
namespace Go.Proofs.Ytkdhifofdghbbab
open Go.RowKit

def cmpI (a b : Int) : Int := if a < b then -1 else if b < a then 1 else 0

set_option maxRecDepth 100000 in
theorem isNaN_any (x : Int) (w : World) : Calls Try.prog 55 #[.int .i64 x] w fun e w' => e = .returned (.bool false) ∧ w = w' := by
  have hb : ((x : Int) != x) = false := by simp
  go_enter Try.func55, Try.ntmps55
  go_wp2
  go_ret
  exact ⟨rfl, rfl⟩

set_option maxRecDepth 100000 in
theorem compare_any (a b : Int) (w : World) : Calls Try.prog 47 #[.int .i64 a, .int .i64 b] w fun e w' => e = .returned (.int .i64 (cmpI a b)) ∧ w = w' := by
  unfold cmpI
  by_cases h1 : a < b
  · rw [if_pos h1]
    go_enter Try.func47, Try.ntmps47
    go_wp2_with (go_at_call 55; refine (isNaN_any _ _).mono ?_; rintro e w' ⟨rfl, rfl⟩)
    go_ret
    exact ⟨rfl, rfl⟩
  · rw [if_neg h1]
    by_cases h2 : b < a
    · rw [if_pos h2]
      go_enter Try.func47, Try.ntmps47
      go_wp2_with (go_at_call 55; refine (isNaN_any _ _).mono ?_; rintro e w' ⟨rfl, rfl⟩)
      go_ret
      exact ⟨rfl, rfl⟩
    · rw [if_neg h2]
      go_enter Try.func47, Try.ntmps47
      go_wp2_with (go_at_call 55; refine (isNaN_any _ _).mono ?_; rintro e w' ⟨rfl, rfl⟩)
      go_ret
      exact ⟨rfl, rfl⟩

theorem falling_any (a b : Int) (w : World) : Calls Try.prog 36 #[.int .i64 a, .int .i64 b] w fun e w' => e = .returned (.int .i64 (cmpI b a)) ∧ w = w' := by
  have C := hide (fun w => compare_any b a w)
  obtain ⟨x, hx⟩ : ∃ x, x = cmpI b a := ⟨_, rfl⟩
  rw [← hx] at C ⊢
  clear hx
  go_enter Try.func36, Try.ntmps36
  go_wp2_with (go_at_call 47; refine (C.out _).mono ?_; rintro e w' ⟨rfl, rfl⟩)
  go_ret
  exact ⟨rfl, rfl⟩
end Go.Proofs.Ytkdhifofdghbbab

/- THE WALKS of allWithin, and the program's ShapeEnergy. -/
namespace Go.Proofs.Ytkdhifofdghbbab
open Go.RowKit

/-- from 1 to a greatest one -/
def inR (g x : Int) : Bool := decide (1 ≤ x) && decide (x ≤ g)

/-- which index IndexFunc gives: not less than 0 just if some number is out of the range -/
def outI (g : Int) (l : List Int) (r : Int) : Prop := decide (0 ≤ r) = !(l.all (inR g))

theorem inR_sz : ∀ l : List Int, l.all (inR 200) = l.all szOk := fun _ => rfl

end Go.Proofs.Ytkdhifofdghbbab
