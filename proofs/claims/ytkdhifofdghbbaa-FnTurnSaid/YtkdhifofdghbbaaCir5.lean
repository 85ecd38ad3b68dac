/- CIRCLES. Pure: no walk. Which boxes are paired in a round, and what lies there behind a turn. -/
import Derived.Test.YtkdhifofdghbbaaCir4
namespace Go.Proofs.Ytkdhifofdghbbaa

/-- a list's members at the marks -/
def sel {α : Type} : List Bool → List α → List α
  | m :: ms, x :: l => if m then x :: sel ms l else sel ms l
  | _, _ => []
def m10 (p : Bool) : List Bool → Bool → List Bool
  | [], _ => []
  | x :: l, q => (if x then hd l q else !p) :: m10 x l q
def m01 (p : Bool) : List Bool → Bool → List Bool
  | [], _ => []
  | x :: l, q => (if x then p else !(hd l q)) :: m01 x l q
theorem k10_sel : ∀ (l : List Bool) (p q : Bool), k10 p l q = sel (m10 p l q) l
  | [], _, _ => rfl
  | x :: l, p, q => by simp only [k10, m10, sel, k10_sel l x q]
theorem k01_sel : ∀ (l : List Bool) (p q : Bool), k01 p l q = sel (m01 p l q) l
  | [], _, _ => rfl
  | x :: l, p, q => by simp only [k01, m01, sel, k01_sel l x q]
theorem m10_length : ∀ (l : List Bool) (p q : Bool), (m10 p l q).length = l.length
  | [], _, _ => rfl
  | x :: l, p, q => by simp only [m10, List.length_cons, m10_length l x q]
/-- the marks of a turn are those of the row; where there is none, the turn has the other sign -/
theorem tn_m10 : ∀ (l : List Bool) (c : Nat) (p p' q : Bool), (0 < c → p' = !p) → (c = 0 → p = false) →
    m01 p' (tn c l) (!q && decide (0 < lend c l)) = m10 p l q
  | [], _, _, _, _, _, _ => rfl
  | x :: l, c, p, p', q, h1, h2 => by
    have e2 : hd (tn (lstp c x) l) (!q && decide (0 < lend (lstp c x) l)) = (!(hd l q) && decide (0 < lstp c x)) := by
      cases l <;> rfl
    have ih := tn_m10 l (lstp c x) x (!x && decide (0 < c)) q (by cases x <;> simp [lstp] <;> omega) (by cases x <;> simp [lstp])
    show (if (!x && decide (0 < c)) then p' else !(hd (tn (lstp c x) l) (!q && decide (0 < lend (lstp c x) l)))) :: m01 (!x && decide (0 < c)) (tn (lstp c x) l) (!q && decide (0 < lend (lstp c x) l)) = (if x then hd l q else !p) :: m10 x l q
    rw [e2, ih]
    congr 1
    cases x
    · by_cases h : 0 < c
      · rw [h1 h]; simp [h]
      · have h0 : c = 0 := by omega
        subst h0
        rw [h2 rfl]; simp [lstp]
    · simp [lstp]
theorem tn_other : ∀ (l : List Bool) (c : Nat) (p q : Bool) (j : Nat) (x : Bool), (c = 0 → p = false) → (m10 p l q)[j]? = some false → l[j]? = some x → (tn c l)[j]? = some (!x)
  | [], _, _, _, j, x, _, _, h => by simp at h
  | y :: l, c, p, q, 0, x, h2, hm, h => by
    have hx : y = x := by simpa using h
    subst hx
    cases y
    · have hp : p = true := by simpa [m10] using hm
      have hc : 0 < c := Nat.pos_of_ne_zero (fun e => by have := h2 e; rw [hp] at this; exact absurd this (by simp))
      simp [tn, hc]
    · simp [tn]
  | y :: l, c, p, q, j + 1, x, h2, hm, h => by
    have := tn_other l (lstp c y) y q j x (by cases y <;> simp [lstp]) (by simpa [m10] using hm) (by simpa using h)
    simpa [tn] using this
/-- the marks round the circle -/
def cm (l : List Bool) : List Bool := m10 (ls false l) l (hd l false)
theorem cm_length (l : List Bool) : (cm l).length = l.length := m10_length _ _ _
theorem c10_sel (l : List Bool) : c10 l = sel (cm l) l := k10_sel _ _ _
/-- what is known of the load at the start -/
theorem start_inv {l : List Bool} (h : drf l < 0) : (0 < lend 0 l → ls false (cturn l) = !(ls false l)) ∧ (lend 0 l = 0 → ls false l = false) := by
  have hne : l ≠ [] := by intro e; subst e; simp [drf] at h
  have hs := lend_stays h
  have k := ls_inv l (lend 0 l) false true hne (fun _ => rfl) (fun _ => rfl)
  rw [hs] at k
  have ht : tn (lend 0 l) l ≠ [] := by intro e; have := congrArg List.length e; rw [tn_length] at this; exact hne (List.eq_nil_of_length_eq_zero (by simpa using this))
  rw [ls_cons true false ht] at k
  exact k
theorem cturn_sel {l : List Bool} (h : drf l < 0) : cturn (c10 l) = sel (cm l) (cturn l) := by
  have hne : l ≠ [] := by intro e; subst e; simp [drf] at h
  obtain ⟨j1, j2⟩ := start_inv h
  have hs := lend_stays h
  rw [← c01_turn h]
  unfold c01 cm
  rw [k01_sel]
  have k := tn_m10 l (lend 0 l) (ls false l) (ls false (cturn l)) (hd l false) j1 j2
  rw [hs] at k
  have e : hd (cturn l) false = (!(hd l false) && decide (0 < lend 0 l)) := hd_tn _ _ _ hne
  rw [e]
  unfold cturn at k ⊢
  rw [k]
theorem cturn_other {l : List Bool} (h : drf l < 0) {j : Nat} {x : Bool} (hm : (cm l)[j]? = some false) (hx : l[j]? = some x) : (cturn l)[j]? = some (!x) :=
  tn_other l _ _ _ j x (start_inv h).2 hm hx
theorem cturn_still {l : List Bool} (h : nballs l = 0) : cturn l = l :=
  cturn_none l (fun x hx => by
    cases x
    · rfl
    · unfold nballs at h
      exact absurd hx (List.count_eq_zero.1 h))
end Go.Proofs.Ytkdhifofdghbbaa
