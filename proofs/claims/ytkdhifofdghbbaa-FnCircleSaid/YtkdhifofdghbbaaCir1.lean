/- CIRCLES. Pure: no walk. The load of a carrier that goes round; turns; rotations; back. -/
import Derived.Test.YtkdhifofdghbbaaCells
namespace Go.Proofs.Ytkdhifofdghbbaa

def lstp (c : Nat) (x : Bool) : Nat := if x then c + 1 else c - 1
/-- the load behind a list -/
def lend (c : Nat) : List Bool → Nat
  | [] => c
  | x :: l => lend (lstp c x) l
/-- what a carrier with a load leaves -/
def tn (c : Nat) : List Bool → List Bool
  | [] => []
  | x :: l => (!x && decide (0 < c)) :: tn (lstp c x) l
/-- balls less empty boxes -/
def drf : List Bool → Int
  | [] => 0
  | x :: l => (if x then 1 else -1) + drf l
def cturn (l : List Bool) : List Bool := tn (lend 0 l) l

theorem lend_max : ∀ (l : List Bool) (c : Nat), ((lend c l : Nat) : Int) = max ((c : Int) + drf l) (lend 0 l : Nat)
  | [], c => by simp only [lend, drf]; omega
  | x :: l, c => by
    have h1 := lend_max l (lstp c x)
    have h2 := lend_max l (lstp 0 x)
    have h0 := lend_max l 0
    simp only [lend, drf]
    rw [h1, h2]
    cases x
    · simp only [lstp]; simp at *; omega
    · simp only [lstp]; simp at *; omega
theorem lend_app (c : Nat) (a b : List Bool) : lend c (a ++ b) = lend (lend c a) b := by
  induction a generalizing c with
  | nil => rfl
  | cons x a ih => exact ih _
theorem tn_app (c : Nat) (a b : List Bool) : tn c (a ++ b) = tn c a ++ tn (lend c a) b := by
  induction a generalizing c with
  | nil => rfl
  | cons x a ih => simp only [List.cons_append, tn, lend, ih]
theorem drf_app (a b : List Bool) : drf (a ++ b) = drf a + drf b := by
  induction a with
  | nil => simp [drf]
  | cons x a ih => simp only [List.cons_append, drf, ih]; omega
theorem tn_length (c : Nat) (l : List Bool) : (tn c l).length = l.length := by
  induction l generalizing c with
  | nil => rfl
  | cons x l ih => simp only [tn, List.length_cons, ih]
theorem lend_stays {l : List Bool} (h : drf l < 0) : lend (lend 0 l) l = lend 0 l := by
  have := lend_max l (lend 0 l)
  omega
theorem lend_one {l : List Bool} (h : drf l < 0) {c : Nat} (hc : lend c l = c) : c = lend 0 l := by
  have := lend_max l c
  omega
/-- loads and balls -/
theorem tn_drf (c : Nat) (l : List Bool) : (c : Int) * 2 + drf l = (lend c l : Nat) * 2 + drf (tn c l) := by
  induction l generalizing c with
  | nil => simp only [lend, tn, drf]
  | cons x l ih =>
    have h := ih (lstp c x)
    simp only [lend, tn, drf]
    cases x
    · cases c with
      | zero => simp only [lstp] at h ⊢; simp at h ⊢; omega
      | succ k =>
        have e : lstp (k + 1) false = k := by simp [lstp]
        rw [e] at h ⊢
        have e2 : (!false && decide (0 < k + 1)) = true := by simp
        rw [e2]
        simp only [if_true, Bool.false_eq_true, if_false]
        omega
    · have e : lstp c true = c + 1 := by simp [lstp]
      rw [e] at h ⊢
      have e2 : (!true && decide (0 < c)) = false := by simp
      rw [e2]
      simp only [if_true, Bool.false_eq_true, if_false]
      omega
theorem cturn_drf {l : List Bool} (h : drf l < 0) : drf (cturn l) = drf l := by
  have := tn_drf (lend 0 l) l
  rw [lend_stays h] at this
  unfold cturn
  omega
theorem cturn_length (l : List Bool) : (cturn l).length = l.length := tn_length _ _
/-- none in the same box -/
theorem tn_apart : ∀ (l : List Bool) (c j : Nat), l[j]? = some true → (tn c l)[j]? = some false
  | [], _, j, h => by simp at h
  | x :: l, c, 0, h => by
    have hx : x = true := by simpa using h
    subst hx
    simp [tn]
  | x :: l, c, j + 1, h => by
    have := tn_apart l (lstp c x) j (by simpa using h)
    simpa [tn] using this
/-- a turned rotation -/
theorem cturn_rot {a b : List Bool} (h : drf (a ++ b) < 0) : ∃ a' b', cturn (a ++ b) = a' ++ b' ∧ cturn (b ++ a) = b' ++ a' ∧ a'.length = a.length := by
  have hd : drf (b ++ a) < 0 := by rw [drf_app] at h ⊢; omega
  have hs := lend_stays h
  rw [lend_app _ a b] at hs
  have hc : lend (lend (lend 0 (a ++ b)) a) (b ++ a) = lend (lend 0 (a ++ b)) a := by rw [lend_app, hs]
  have hc' := lend_one hd hc
  refine ⟨tn (lend 0 (a ++ b)) a, tn (lend (lend 0 (a ++ b)) a) b, tn_app _ _ _, ?_, tn_length _ _⟩
  unfold cturn
  rw [← hc', tn_app, hs]
/-- the carrier that goes the other way -/
theorem tn_back : ∀ (l : List Bool) (c : Nat), lend (lend c l) (tn c l).reverse = c ∧ tn (lend c l) (tn c l).reverse = l.reverse
  | [], c => ⟨rfl, rfl⟩
  | x :: l, c => by
    obtain ⟨h1, h2⟩ := tn_back l (lstp c x)
    have e : (tn c (x :: l)).reverse = (tn (lstp c x) l).reverse ++ [!x && decide (0 < c)] := by simp only [tn, List.reverse_cons]
    have e2 : lend c (x :: l) = lend (lstp c x) l := rfl
    rw [e, e2, lend_app, tn_app, h1, h2, List.reverse_cons]
    cases x
    · by_cases h : 0 < c
      · refine ⟨?_, ?_⟩
        · simp [lend, lstp, h]; omega
        · simp [tn, lstp, h]
      · refine ⟨?_, ?_⟩
        · simp [lend, lstp, h]; omega
        · simp [tn, lstp, h]; omega
    · refine ⟨?_, ?_⟩
      · simp [lend, lstp]
      · simp [tn, lstp]
theorem drf_rev (l : List Bool) : drf l.reverse = drf l := by
  induction l with
  | nil => rfl
  | cons x l ih => rw [List.reverse_cons, drf_app, ih]; simp only [drf]; omega
/-- P44: the turn of the turn, read the other way -/
theorem cturn_back {l : List Bool} (h : drf l < 0) : cturn (cturn l).reverse = l.reverse := by
  obtain ⟨h1, h2⟩ := tn_back l (lend 0 l)
  rw [lend_stays h] at h1 h2
  have hd : drf (cturn l).reverse < 0 := by rw [drf_rev, cturn_drf h]; exact h
  have hc := lend_one hd (c := lend 0 l) h1
  show tn (lend 0 (cturn l).reverse) (cturn l).reverse = l.reverse
  rw [← hc]
  exact h2
/-- P45 -/
theorem cback_turn {l : List Bool} (h : drf l < 0) : cturn (cturn l.reverse).reverse = l := by
  have := cturn_back (l := l.reverse) (by rw [drf_rev]; exact h)
  rwa [List.reverse_reverse] at this
theorem cturn_inj {a b : List Bool} (ha : drf a < 0) (hb : drf b < 0) (h : cturn a = cturn b) : a = b := by
  have h1 := cturn_back ha
  have h2 := cturn_back hb
  rw [h, h2] at h1
  exact (List.reverse_inj.1 h1).symm
end Go.Proofs.Ytkdhifofdghbbaa
