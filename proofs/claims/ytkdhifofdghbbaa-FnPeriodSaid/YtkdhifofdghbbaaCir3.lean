/- CIRCLES. Pure: no walk. A turn keeps the rounds; periods. -/
import Derived.Test.YtkdhifofdghbbaaCir2
namespace Go.Proofs.Ytkdhifofdghbbaa

/-- the load when a pair is half gone -/
def hf (c : Nat) (p h : Bool) : Nat := if p && !h then c - 1 else c
theorem tn_k10 : ∀ (l : List Bool) (c : Nat) (p p' q : Bool), (0 < c → p' = !p) → (c = 0 → p = false) →
    tn (hf c p (hd l q)) (k10 p l q) = k01 p' (tn c l) (!q && decide (0 < lend c l)) ∧ lend (hf c p (hd l q)) (k10 p l q) = hf (lend c l) (ls p l) q
  | [], c, p, p', q, _, _ => ⟨rfl, rfl⟩
  | x :: l, c, p, p', q, h1, h2 => by
    have hx : hd (x :: l) q = x := rfl
    obtain ⟨h, hh⟩ : ∃ h, h = hd l q := ⟨_, rfl⟩
    cases x
    · cases c with
      | zero =>
        have hp := h2 rfl
        subst hp
        have ih := tn_k10 l 0 false false q (fun h => absurd h (by omega)) (fun _ => rfl)
        have e1 : hf 0 false (hd l q) = 0 := by simp [hf]
        have e2 : hd (tn 0 l) (!q && decide (0 < lend 0 l)) = (!(hd l q) && decide (0 < (0 : Nat)) || (decide (l = []) && !q && decide (0 < lend 0 l))) := by
          cases l with
          | nil => simp [hd, tn, lend]
          | cons y l => simp [hd, tn]
        have e3 : hd (tn 0 l) (!q && decide (0 < lend 0 l)) = false := by
          rw [e2]
          cases l with
          | nil => simp [lend]
          | cons y l => simp
        rw [e1] at ih
        obtain ⟨i1, i2⟩ := ih
        have e4 : lstp 0 false = 0 := rfl
        simp only [hx, k10, tn, lend, ls, k01, e4]
        simp only [hf, e3] at *
        simp [tn, lend, e4, i1]
        simpa using i2
      | succ k =>
        have hp' : p' = !p := h1 (by omega)
        subst hp'
        have ih := tn_k10 l k false true q (fun _ => rfl) (fun _ => rfl)
        have e1 : hf k false (hd l q) = k := by simp [hf]
        rw [e1] at ih
        obtain ⟨i1, i2⟩ := ih
        have e4 : lstp (k + 1) false = k := by simp [lstp]
        simp only [hx, k10, tn, lend, ls, k01, e4]
        cases p
        · simp [hf, tn, lend, e4]
          exact ⟨i1, by simpa [hf] using i2⟩
        · simp [hf]
          exact ⟨i1, by simpa [hf] using i2⟩
    · have ih := tn_k10 l (c + 1) true false q (fun _ => rfl) (fun h => absurd h (by omega))
      obtain ⟨i1, i2⟩ := ih
      have e4 : lstp c true = c + 1 := by simp [lstp]
      have e0 : hf c p true = c := by simp [hf]
      have e2 : hd (tn (c + 1) l) (!q && decide (0 < lend (c + 1) l)) = !(hd l q) := by
        cases l with
        | nil => simp [hd, tn, lend]
        | cons y l => simp [hd, tn]
      simp only [hx, k10, tn, lend, ls, k01, e4, e0]
      have e5 : (!true && decide (0 < c)) = false := by simp
      rw [e5, e2]
      rw [← hh] at i1 i2 ⊢
      cases h
      · have e6 : hf (c + 1) true false = c := by simp [hf]
        rw [e6] at i1 i2
        simp
        exact ⟨i1, i2⟩
      · have e6 : hf (c + 1) true true = c + 1 := by simp [hf]
        rw [e6] at i1 i2
        simp [tn, lend, e4]
        exact ⟨i1, i2⟩
/-- what is known of a load behind a sign -/
theorem ls_inv : ∀ (l : List Bool) (c : Nat) (p p' : Bool), l ≠ [] → (c = 0 → p = false) → (0 < c → p' = !p) →
    (0 < lend c l → ls p' (tn c l) = !(ls p l)) ∧ (lend c l = 0 → ls p l = false)
  | [], _, _, _, h, _, _ => absurd rfl h
  | [x], c, p, p', _, h0, h1 => by
    cases x
    · by_cases h : 0 < c
      · simp [lend, ls, tn, lstp, h]
      · simp [lend, ls, tn, lstp, h]; omega
    · simp [lend, ls, tn, lstp]
  | x :: y :: l, c, p, p', _, h0, h1 => by
    have := ls_inv (y :: l) (lstp c x) x (!x && decide (0 < c)) (by simp)
      (by cases x <;> simp [lstp]) (by cases x <;> simp [lstp] <;> omega)
    exact this
def bi (b : Bool) : Int := if b then 1 else 0
theorem k10_drf : ∀ (l : List Bool) (p q : Bool), drf (k10 p l q) + bi (ls p l && !q) = drf l + bi (p && !(hd l q))
  | [], p, q => by simp [k10, ls, hd, drf]
  | x :: l, p, q => by
    have ih := k10_drf l x q
    have hx : hd (x :: l) q = x := rfl
    have e : ls p (x :: l) = ls x l := rfl
    rw [hx, e]
    simp only [k10, drf]
    obtain ⟨h, hh⟩ : ∃ h, h = hd l q := ⟨_, rfl⟩
    rw [← hh] at ih ⊢
    obtain ⟨t, ht⟩ : ∃ t : Int, t = bi (ls x l && !q) := ⟨_, rfl⟩
    rw [← ht] at ih ⊢
    cases x <;> cases p <;> cases h <;> simp [drf, bi] at ih ⊢ <;> omega
theorem c10_drf (l : List Bool) : drf (c10 l) = drf l := by
  have h := k10_drf l (ls false l) (hd l false)
  have e : ls (ls false l) l = ls false l := by cases l <;> rfl
  have e2 : hd l (hd l false) = hd l false := by cases l <;> rfl
  rw [e, e2] at h
  unfold c10
  omega
theorem hd_tn (c : Nat) {l : List Bool} (q q' : Bool) (h : l ≠ []) : hd (tn c l) q' = (!(hd l q) && decide (0 < c)) := by
  cases l with
  | nil => exact absurd rfl h
  | cons x l => rfl
/-- a turn and the rounds -/
theorem c01_turn {l : List Bool} (h : drf l < 0) : c01 (cturn l) = cturn (c10 l) := by
  have hne : l ≠ [] := by intro e; subst e; simp [drf] at h
  have hs := lend_stays h
  obtain ⟨c, hc⟩ : ∃ c, c = lend 0 l := ⟨_, rfl⟩
  rw [← hc] at hs
  -- what is known at the end, whatever the start
  have hi : ∀ p p', (c = 0 → p = false) → (0 < c → p' = !p) → (0 < c → ls p' (tn c l) = !(ls p l)) ∧ (c = 0 → ls p l = false) := by
    intro p p' h0 h1
    have := ls_inv l c p p' hne h0 h1
    rwa [hs] at this
  obtain ⟨j1, j2⟩ := hi false true (fun _ => rfl) (fun _ => rfl)
  have ht : tn c l ≠ [] := by intro e; have := congrArg List.length e; rw [tn_length] at this; exact hne (List.eq_nil_of_length_eq_zero (by simpa using this))
  have hls : ls true (tn c l) = ls false (tn c l) := ls_cons _ _ ht
  rw [hls] at j1
  have k := tn_k10 l c (ls false l) (ls false (tn c l)) (hd l false) j1 j2
  have e : ls (ls false l) l = ls false l := by cases l <;> rfl
  have e2 : hd l (hd l false) = hd l false := by cases l <;> rfl
  rw [e, e2, hs] at k
  obtain ⟨k1, k2⟩ := k
  have hd2 : drf (c10 l) < 0 := by rw [c10_drf]; exact h
  have k3 := lend_one hd2 (c := hf c (ls false l) (hd l false)) k2
  unfold cturn
  rw [← k3, ← hc]
  unfold c01
  rw [hd_tn c false false hne]
  exact k1.symm
/-- P47: the turn has the same rounds -/
theorem cnt_turn : ∀ (f : Nat) {l : List Bool}, drf l < 0 → cnt01 f (cturn l) = cnt10 f l
  | 0, _, _ => rfl
  | f + 1, l, h => by
    simp only [cnt01, cnt10]
    rw [c01_turn h, cturn_length, cturn_length, cnt_turn f (l := c10 l) (by rw [c10_drf]; exact h)]
theorem rounds_turn (f : Nat) {l : List Bool} (h : drf l < 0) : cnt10 f (cturn l) = cnt10 f l := by
  rw [← cnt_turn f h, cnt10_aj, cnt01_aj]

/-- turned n times -/
def cturns : Nat → List Bool → List Bool
  | 0, l => l
  | n + 1, l => cturns n (cturn l)
theorem cturns_drf : ∀ (n : Nat) {l : List Bool}, drf l < 0 → drf (cturns n l) = drf l
  | 0, _, _ => rfl
  | n + 1, l, h => by
    show drf (cturns n (cturn l)) = drf l
    rw [cturns_drf n (l := cturn l) (by rw [cturn_drf h]; exact h), cturn_drf h]
theorem cturns_comm : ∀ (n : Nat) (l : List Bool), cturns n (cturn l) = cturn (cturns n l)
  | 0, _ => rfl
  | n + 1, l => cturns_comm n (cturn l)
/-- P48: the turn comes back when the circle does -/
theorem period_turn {l : List Bool} (h : drf l < 0) (n : Nat) : cturns n (cturn l) = cturn l ↔ cturns n l = l := by
  rw [cturns_comm]
  constructor
  · intro e
    exact cturn_inj (by rw [cturns_drf n h]; exact h) h e
  · intro e
    rw [e]
theorem period_one {l : List Bool} (h : cturn l = l) : ∀ x ∈ l, x = false := by
  intro x hx
  cases x
  · rfl
  · obtain ⟨j, hj⟩ := List.mem_iff_getElem?.1 hx
    have := tn_apart l (lend 0 l) j hj
    have e : (cturn l)[j]? = some false := this
    rw [h, hj] at e
    exact absurd e (by simp)
theorem cturn_none : ∀ (l : List Bool), (∀ x ∈ l, x = false) → cturn l = l := by
  have g : ∀ (l : List Bool), (∀ x ∈ l, x = false) → lend 0 l = 0 ∧ tn 0 l = l := by
    intro l
    induction l with
    | nil => intro _; exact ⟨rfl, rfl⟩
    | cons x l ih =>
      intro h
      have hx := h x (by simp)
      subst hx
      obtain ⟨i1, i2⟩ := ih (fun y hy => h y (by simp [hy]))
      exact ⟨i1, by simp only [tn, lstp]; simp; exact i2⟩
  intro l h
  unfold cturn
  rw [(g l h).1]
  exact (g l h).2
end Go.Proofs.Ytkdhifofdghbbaa
