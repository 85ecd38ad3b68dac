/- CIRCLES. Pure: no walk. Neighbours are taken out; the rounds of a circle and of its turn. -/
import Derived.Test.YtkdhifofdghbbaaCir1
namespace Go.Proofs.Ytkdhifofdghbbaa

def hd (l : List Bool) (q : Bool) : Bool := l.head?.getD q
def ls (p : Bool) : List Bool → Bool
  | [] => p
  | x :: l => ls x l
/-- without neighbours of a ball and an empty box behind it; p, q: the signs ahead and behind -/
def k10 (p : Bool) : List Bool → Bool → List Bool
  | [], _ => []
  | x :: l, q => if (if x then hd l q else !p) then x :: k10 x l q else k10 x l q
/-- without neighbours of an empty box and a ball behind it -/
def k01 (p : Bool) : List Bool → Bool → List Bool
  | [], _ => []
  | x :: l, q => if (if x then p else !(hd l q)) then x :: k01 x l q else k01 x l q
/-- one sign for each two neighbours that are the same -/
def aj (p : Bool) : List Bool → List Bool
  | [] => []
  | x :: l => if p = x then x :: aj x l else aj x l
def one (b : Bool) (x : Bool) : List Bool := if b then [x] else []

theorem k10_aj : ∀ (l : List Bool) (p q : Bool), one (p && hd l q) true ++ k10 p l q = aj p l ++ one (ls p l && q) true
  | [], p, q => by simp [hd, k10, aj, ls]
  | x :: l, p, q => by
    have ih := k10_aj l x q
    have e : hd (x :: l) q = x := rfl
    rw [e]
    simp only [k10, aj, ls]
    obtain ⟨h, hh⟩ : ∃ h, h = hd l q := ⟨_, rfl⟩
    rw [← hh] at ih ⊢
    cases x <;> cases p <;> cases h <;> simp [one] at ih ⊢ <;> simpa using ih
theorem k01_aj : ∀ (l : List Bool) (p q : Bool), one (!p && !(hd l q)) false ++ k01 p l q = aj p l ++ one (!(ls p l) && !q) false
  | [], p, q => by simp [hd, k01, aj, ls]
  | x :: l, p, q => by
    have ih := k01_aj l x q
    have e : hd (x :: l) q = x := rfl
    rw [e]
    simp only [k01, aj, ls]
    obtain ⟨h, hh⟩ : ∃ h, h = hd l q := ⟨_, rfl⟩
    rw [← hh] at ih ⊢
    cases x <;> cases p <;> cases h <;> simp [one] at ih ⊢ <;> simpa using ih

/-- round the circle -/
def c10 (l : List Bool) : List Bool := k10 (ls false l) l (hd l false)
def c01 (l : List Bool) : List Bool := k01 (ls false l) l (hd l false)
def caj (l : List Bool) : List Bool := aj (ls false l) l
/-- rotations -/
def Rot (l l' : List Bool) : Prop := ∃ a b, l = a ++ b ∧ l' = b ++ a
theorem Rot.refl (l : List Bool) : Rot l l := ⟨l, [], by simp, by simp⟩
theorem Rot.length {l l' : List Bool} (h : Rot l l') : l.length = l'.length := by
  obtain ⟨a, b, rfl, rfl⟩ := h
  simp; omega
theorem ls_app (p : Bool) (a b : List Bool) : ls p (a ++ b) = ls (ls p a) b := by
  induction a generalizing p with
  | nil => rfl
  | cons x a ih => exact ih _
theorem ls_cons (p p' : Bool) {l : List Bool} (h : l ≠ []) : ls p l = ls p' l := by
  cases l with
  | nil => exact absurd rfl h
  | cons x l => rfl
theorem aj_app (p : Bool) (a b : List Bool) : aj p (a ++ b) = aj p a ++ aj (ls p a) b := by
  induction a generalizing p with
  | nil => rfl
  | cons x a ih =>
    simp only [List.cons_append, aj, ls, ih]
    split <;> rfl
theorem caj_rot {l l' : List Bool} (h : Rot l l') : Rot (caj l) (caj l') := by
  obtain ⟨a, b, rfl, rfl⟩ := h
  by_cases ha : a = []
  · subst ha; simp; exact Rot.refl _
  · by_cases hb : b = []
    · subst hb; simp; exact Rot.refl _
    · unfold caj
      rw [aj_app, aj_app, ls_app, ls_app]
      refine ⟨_, _, rfl, ?_⟩
      rw [ls_cons (ls false b) (ls (ls false a) b) ha, ls_cons (ls (ls (ls false a) b) a) (ls false a) hb]
theorem rot_of {x : Bool} {k a : List Bool} (h : x :: k = a ++ [x]) : Rot k a := by
  cases a with
  | nil => cases k with
    | nil => exact Rot.refl _
    | cons y k => simp at h
  | cons y a =>
    simp at h
    obtain ⟨rfl, rfl⟩ := h
    exact ⟨a, [x], rfl, rfl⟩
theorem c10_rot (l : List Bool) : Rot (c10 l) (caj l) := by
  have h := k10_aj l (ls false l) (hd l false)
  have e : ls (ls false l) l = ls false l := by cases l <;> rfl
  rw [e] at h
  have e2 : hd l (hd l false) = hd l false := by cases l <;> rfl
  rw [e2] at h
  unfold c10 caj
  cases hb : (ls false l && hd l false)
  · rw [hb] at h
    simp [one] at h
    rw [h]
    exact Rot.refl _
  · rw [hb] at h
    simp only [one, if_true, List.cons_append, List.nil_append] at h
    exact rot_of h
theorem c01_rot (l : List Bool) : Rot (c01 l) (caj l) := by
  have h := k01_aj l (ls false l) (hd l false)
  have e : ls (ls false l) l = ls false l := by cases l <;> rfl
  rw [e] at h
  have e2 : hd l (hd l false) = hd l false := by cases l <;> rfl
  rw [e2] at h
  unfold c01 caj
  cases hb : (!(ls false l) && !(hd l false))
  · rw [hb] at h
    simp [one] at h
    rw [h]
    exact Rot.refl _
  · rw [hb] at h
    simp only [one, if_true, List.cons_append, List.nil_append] at h
    exact rot_of h

/-- the numbers of pairs, round for round -/
def cnt10 : Nat → List Bool → List Nat
  | 0, _ => []
  | f + 1, l => if (c10 l).length = l.length then [] else (l.length - (c10 l).length) / 2 :: cnt10 f (c10 l)
def cnt01 : Nat → List Bool → List Nat
  | 0, _ => []
  | f + 1, l => if (c01 l).length = l.length then [] else (l.length - (c01 l).length) / 2 :: cnt01 f (c01 l)
def cntaj : Nat → List Bool → List Nat
  | 0, _ => []
  | f + 1, l => if (caj l).length = l.length then [] else (l.length - (caj l).length) / 2 :: cntaj f (caj l)
theorem cntaj_rot : ∀ (f : Nat) {l l' : List Bool}, Rot l l' → cntaj f l = cntaj f l'
  | 0, _, _, _ => rfl
  | f + 1, l, l', h => by
    simp only [cntaj]
    rw [h.length, (caj_rot h).length, cntaj_rot f (caj_rot h)]
theorem cnt10_aj : ∀ (f : Nat) (l : List Bool), cnt10 f l = cntaj f l
  | 0, _ => rfl
  | f + 1, l => by
    simp only [cnt10, cntaj]
    rw [(c10_rot l).length, cnt10_aj f, cntaj_rot f (c10_rot l)]
theorem cnt01_aj : ∀ (f : Nat) (l : List Bool), cnt01 f l = cntaj f l
  | 0, _ => rfl
  | f + 1, l => by
    simp only [cnt01, cntaj]
    rw [(c01_rot l).length, cnt01_aj f, cntaj_rot f (c01_rot l)]
/-- P46: a rotated circle has the same rounds -/
theorem cnt10_rot (f : Nat) {l l' : List Bool} (h : Rot l l') : cnt10 f l = cnt10 f l' := by
  rw [cnt10_aj, cnt10_aj, cntaj_rot f h]
end Go.Proofs.Ytkdhifofdghbbaa
