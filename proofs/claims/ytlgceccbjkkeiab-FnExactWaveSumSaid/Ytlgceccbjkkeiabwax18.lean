/- TEXTS Cir3, Cir4, Cir5. -/
import Derived.Test.Ytlgceccbjkkeiabwax17
import Derived.Test.Ytlgceccbjkkeiabwax15
import Derived.Test.Ytlgceccbjkkeiabwax03
/- CIRCLES. Pure: no walk. A turn keeps the rounds; periods. -/
namespace Go.Proofs.Ytlgceccbjkkeiab

/-- the load when a pair is half gone -/
def hf (c : Nat) (p h : Bool) : Nat := if p && !h then c - 1 else c
theorem tn_k10 : ∀ (l : List Bool) (c : Nat) (p p' q : Bool), (0 < c → p' = !p) → (c = 0 → p = false) →
    tn (hf c p (hd l q)) (k10 p l q) = k01 p' (tn c l) (!q && decide (0 < lend c l)) ∧ lend (hf c p (hd l q)) (k10 p l q) = hf (lend c l) (ls p l) q
  | [], c, p, p', q, _, _ => ⟨rfl, rfl⟩
  | x :: l, c, p, p', q, h1, h2 => by
    have hx : hd (x :: l) q = x := rfl
    obtain ⟨h, hh⟩ : ∃ h, h = hd l q := ⟨_, rfl⟩
    cases x
    · cases c with
      | zero =>
        have hp := h2 rfl
        subst hp
        have ih := tn_k10 l 0 false false q (fun h => absurd h (by omega)) (fun _ => rfl)
        have e1 : hf 0 false (hd l q) = 0 := by simp [hf]
        have e2 : hd (tn 0 l) (!q && decide (0 < lend 0 l)) = (!(hd l q) && decide (0 < (0 : Nat)) || (decide (l = []) && !q && decide (0 < lend 0 l))) := by
          cases l with
          | nil => simp [hd, tn, lend]
          | cons y l => simp [hd, tn]
        have e3 : hd (tn 0 l) (!q && decide (0 < lend 0 l)) = false := by
          rw [e2]
          cases l with
          | nil => simp [lend]
          | cons y l => simp
        rw [e1] at ih
        obtain ⟨i1, i2⟩ := ih
        have e4 : lstp 0 false = 0 := rfl
        simp only [hx, k10, tn, lend, ls, k01, e4]
        simp only [hf, e3] at *
        simp [tn, lend, e4, i1]
        simpa using i2
      | succ k =>
        have hp' : p' = !p := h1 (by omega)
        subst hp'
        have ih := tn_k10 l k false true q (fun _ => rfl) (fun _ => rfl)
        have e1 : hf k false (hd l q) = k := by simp [hf]
        rw [e1] at ih
        obtain ⟨i1, i2⟩ := ih
        have e4 : lstp (k + 1) false = k := by simp [lstp]
        simp only [hx, k10, tn, lend, ls, k01, e4]
        cases p
        · simp [hf, tn, lend, e4]
          exact ⟨i1, by simpa [hf] using i2⟩
        · simp [hf]
          exact ⟨i1, by simpa [hf] using i2⟩
    · have ih := tn_k10 l (c + 1) true false q (fun _ => rfl) (fun h => absurd h (by omega))
      obtain ⟨i1, i2⟩ := ih
      have e4 : lstp c true = c + 1 := by simp [lstp]
      have e0 : hf c p true = c := by simp [hf]
      have e2 : hd (tn (c + 1) l) (!q && decide (0 < lend (c + 1) l)) = !(hd l q) := by
        cases l with
        | nil => simp [hd, tn, lend]
        | cons y l => simp [hd, tn]
      simp only [hx, k10, tn, lend, ls, k01, e4, e0]
      have e5 : (!true && decide (0 < c)) = false := by simp
      rw [e5, e2]
      rw [← hh] at i1 i2 ⊢
      cases h
      · have e6 : hf (c + 1) true false = c := by simp [hf]
        rw [e6] at i1 i2
        simp
        exact ⟨i1, i2⟩
      · have e6 : hf (c + 1) true true = c + 1 := by simp [hf]
        rw [e6] at i1 i2
        simp [tn, lend, e4]
        exact ⟨i1, i2⟩
/-- what is known of a load behind a sign -/
theorem ls_inv : ∀ (l : List Bool) (c : Nat) (p p' : Bool), l ≠ [] → (c = 0 → p = false) → (0 < c → p' = !p) →
    (0 < lend c l → ls p' (tn c l) = !(ls p l)) ∧ (lend c l = 0 → ls p l = false)
  | [], _, _, _, h, _, _ => absurd rfl h
  | [x], c, p, p', _, h0, h1 => by
    cases x
    · by_cases h : 0 < c
      · simp [lend, ls, tn, lstp, h]
      · simp [lend, ls, tn, lstp, h]; omega
    · simp [lend, ls, tn, lstp]
  | x :: y :: l, c, p, p', _, h0, h1 => by
    have := ls_inv (y :: l) (lstp c x) x (!x && decide (0 < c)) (by simp)
      (by cases x <;> simp [lstp]) (by cases x <;> simp [lstp] <;> omega)
    exact this
def bi (b : Bool) : Int := if b then 1 else 0
theorem k10_drf : ∀ (l : List Bool) (p q : Bool), drf (k10 p l q) + bi (ls p l && !q) = drf l + bi (p && !(hd l q))
  | [], p, q => by simp [k10, ls, hd, drf]
  | x :: l, p, q => by
    have ih := k10_drf l x q
    have hx : hd (x :: l) q = x := rfl
    have e : ls p (x :: l) = ls x l := rfl
    rw [hx, e]
    simp only [k10, drf]
    obtain ⟨h, hh⟩ : ∃ h, h = hd l q := ⟨_, rfl⟩
    rw [← hh] at ih ⊢
    obtain ⟨t, ht⟩ : ∃ t : Int, t = bi (ls x l && !q) := ⟨_, rfl⟩
    rw [← ht] at ih ⊢
    cases x <;> cases p <;> cases h <;> simp [drf, bi] at ih ⊢ <;> omega
theorem c10_drf (l : List Bool) : drf (c10 l) = drf l := by
  have h := k10_drf l (ls false l) (hd l false)
  have e : ls (ls false l) l = ls false l := by cases l <;> rfl
  have e2 : hd l (hd l false) = hd l false := by cases l <;> rfl
  rw [e, e2] at h
  unfold c10
  omega
theorem hd_tn (c : Nat) {l : List Bool} (q q' : Bool) (h : l ≠ []) : hd (tn c l) q' = (!(hd l q) && decide (0 < c)) := by
  cases l with
  | nil => exact absurd rfl h
  | cons x l => rfl
/-- a turn and the rounds -/
theorem c01_turn {l : List Bool} (h : drf l < 0) : c01 (cturn l) = cturn (c10 l) := by
  have hne : l ≠ [] := by intro e; subst e; simp [drf] at h
  have hs := lend_stays h
  obtain ⟨c, hc⟩ : ∃ c, c = lend 0 l := ⟨_, rfl⟩
  rw [← hc] at hs
  -- what is known at the end, whatever the start
  have hi : ∀ p p', (c = 0 → p = false) → (0 < c → p' = !p) → (0 < c → ls p' (tn c l) = !(ls p l)) ∧ (c = 0 → ls p l = false) := by
    intro p p' h0 h1
    have := ls_inv l c p p' hne h0 h1
    rwa [hs] at this
  obtain ⟨j1, j2⟩ := hi false true (fun _ => rfl) (fun _ => rfl)
  have ht : tn c l ≠ [] := by intro e; have := congrArg List.length e; rw [tn_length] at this; exact hne (List.eq_nil_of_length_eq_zero (by simpa using this))
  have hls : ls true (tn c l) = ls false (tn c l) := ls_cons _ _ ht
  rw [hls] at j1
  have k := tn_k10 l c (ls false l) (ls false (tn c l)) (hd l false) j1 j2
  have e : ls (ls false l) l = ls false l := by cases l <;> rfl
  have e2 : hd l (hd l false) = hd l false := by cases l <;> rfl
  rw [e, e2, hs] at k
  obtain ⟨k1, k2⟩ := k
  have hd2 : drf (c10 l) < 0 := by rw [c10_drf]; exact h
  have k3 := lend_one hd2 (c := hf c (ls false l) (hd l false)) k2
  unfold cturn
  rw [← k3, ← hc]
  unfold c01
  rw [hd_tn c false false hne]
  exact k1.symm
/-- P47: the turn has the same rounds -/
theorem cnt_turn : ∀ (f : Nat) {l : List Bool}, drf l < 0 → cnt01 f (cturn l) = cnt10 f l
  | 0, _, _ => rfl
  | f + 1, l, h => by
    simp only [cnt01, cnt10]
    rw [c01_turn h, cturn_length, cturn_length, cnt_turn f (l := c10 l) (by rw [c10_drf]; exact h)]
theorem rounds_turn (f : Nat) {l : List Bool} (h : drf l < 0) : cnt10 f (cturn l) = cnt10 f l := by
  rw [← cnt_turn f h, cnt10_aj, cnt01_aj]

/-- turned n times -/
def cturns : Nat → List Bool → List Bool
  | 0, l => l
  | n + 1, l => cturns n (cturn l)
theorem cturns_drf : ∀ (n : Nat) {l : List Bool}, drf l < 0 → drf (cturns n l) = drf l
  | 0, _, _ => rfl
  | n + 1, l, h => by
    show drf (cturns n (cturn l)) = drf l
    rw [cturns_drf n (l := cturn l) (by rw [cturn_drf h]; exact h), cturn_drf h]
theorem cturns_comm : ∀ (n : Nat) (l : List Bool), cturns n (cturn l) = cturn (cturns n l)
  | 0, _ => rfl
  | n + 1, l => cturns_comm n (cturn l)
/-- P48: the turn comes back when the circle does -/
theorem period_turn {l : List Bool} (h : drf l < 0) (n : Nat) : cturns n (cturn l) = cturn l ↔ cturns n l = l := by
  rw [cturns_comm]
  constructor
  · intro e
    exact cturn_inj (by rw [cturns_drf n h]; exact h) h e
  · intro e
    rw [e]
theorem period_one {l : List Bool} (h : cturn l = l) : ∀ x ∈ l, x = false := by
  intro x hx
  cases x
  · rfl
  · obtain ⟨j, hj⟩ := List.mem_iff_getElem?.1 hx
    have := tn_apart l (lend 0 l) j hj
    have e : (cturn l)[j]? = some false := this
    rw [h, hj] at e
    exact absurd e (by simp)
theorem cturn_none : ∀ (l : List Bool), (∀ x ∈ l, x = false) → cturn l = l := by
  have g : ∀ (l : List Bool), (∀ x ∈ l, x = false) → lend 0 l = 0 ∧ tn 0 l = l := by
    intro l
    induction l with
    | nil => intro _; exact ⟨rfl, rfl⟩
    | cons x l ih =>
      intro h
      have hx := h x (by simp)
      subst hx
      obtain ⟨i1, i2⟩ := ih (fun y hy => h y (by simp [hy]))
      exact ⟨i1, by simp only [tn, lstp]; simp; exact i2⟩
  intro l h
  unfold cturn
  rw [(g l h).1]
  exact (g l h).2
end Go.Proofs.Ytlgceccbjkkeiab

/- CIRCLES. Pure: no walk. The rounds fall, and add up to the balls. -/
namespace Go.Proofs.Ytlgceccbjkkeiab

theorem drf_balls (l : List Bool) : drf l = 2 * (nballs l : Int) - (l.length : Int) := by
  induction l with
  | nil => rfl
  | cons x l ih =>
    simp only [drf, ih]
    have e : nballs (x :: l) = nballs l + if x then 1 else 0 := by
      unfold nballs
      rw [List.count_cons]
      cases x <;> rfl
    rw [e, List.length_cons]
    cases x <;> simp <;> omega
theorem aj_le : ∀ (l : List Bool) (p : Bool), (aj p l).length ≤ l.length
  | [], _ => Nat.le_refl _
  | x :: l, p => by
    have := aj_le l x
    simp only [aj]
    split
    · simp; exact this
    · simp; omega
theorem aj_full : ∀ (l : List Bool) (p : Bool), (aj p l).length = l.length → ∀ x ∈ l, x = p
  | [], _, _ => by simp
  | x :: l, p, h => by
    have hl := aj_le l x
    simp only [aj] at h
    by_cases hp : p = x
    · subst hp
      rw [if_pos rfl] at h
      have ih := aj_full l p (by simpa using h)
      intro y hy
      rcases List.mem_cons.1 hy with rfl | hy
      · rfl
      · exact ih y hy
    · rw [if_neg hp] at h
      simp at h
      omega
theorem nballs_all {l : List Bool} {p : Bool} (h : ∀ x ∈ l, x = p) : nballs l = if p then l.length else 0 := by
  unfold nballs
  cases p
  · rw [if_neg (by simp), List.count_eq_zero]
    intro hm
    exact absurd (h true hm) (by simp)
  · rw [if_pos rfl]
    exact List.count_eq_length.2 (fun b hb => (h b hb).symm)
theorem c10_le (l : List Bool) : (c10 l).length ≤ l.length := by
  rw [(c10_rot l).length]
  exact aj_le _ _
/-- no neighbours: no balls -/
theorem c10_none {l : List Bool} (h : drf l < 0) (he : (c10 l).length = l.length) : nballs l = 0 := by
  rw [(c10_rot l).length] at he
  have := nballs_all (aj_full l (ls false l) he)
  rw [drf_balls] at h
  cases hp : ls false l
  · rw [hp] at this; simpa using this
  · rw [hp, if_pos rfl] at this; omega
theorem c10_balls (l : List Bool) : 2 * (nballs l - nballs (c10 l)) = l.length - (c10 l).length ∧ nballs (c10 l) ≤ nballs l := by
  have h1 := c10_drf l
  have h2 := c10_le l
  rw [drf_balls, drf_balls] at h1
  omega
theorem cnt10_sum : ∀ (f : Nat) {l : List Bool}, drf l < 0 → nballs l ≤ f → (cnt10 f l).sum = nballs l
  | 0, l, _, hf => by
    have : nballs l = 0 := by omega
    rw [this]; rfl
  | f + 1, l, h, hf => by
    simp only [cnt10]
    by_cases he : (c10 l).length = l.length
    · rw [if_pos he, c10_none h he]; rfl
    · rw [if_neg he]
      have hb := c10_balls l
      have hl := c10_le l
      have ih := cnt10_sum f (l := c10 l) (by rw [c10_drf]; exact h) (by omega)
      rw [List.sum_cons, ih]
      omega
/-- how often the sign changes -/
def chg (p : Bool) : List Bool → Nat
  | [] => 0
  | x :: l => (if p = x then 0 else 1) + chg x l
theorem chg_aj (p : Bool) (l : List Bool) : l.length = chg p l + (aj p l).length := by
  induction l generalizing p with
  | nil => rfl
  | cons x l ih =>
    have := ih x
    simp only [chg, aj, List.length_cons]
    split
    · simp; omega
    · omega
theorem chg_le : ∀ (l : List Bool) (p q : Bool), chg q (aj p l) ≤ chg p l + if q = p then 0 else 1
  | [], _, _ => by simp [aj, chg]
  | x :: l, p, q => by
    simp only [aj, chg]
    by_cases hp : p = x
    · subst hp
      rw [if_pos rfl, if_pos rfl]
      have := chg_le l p p
      rw [if_pos rfl] at this
      simp only [chg]
      omega
    · rw [if_neg hp, if_neg hp]
      have := chg_le l x q
      cases x <;> cases p <;> cases q <;> simp at hp this ⊢ <;> omega
theorem chg_even : ∀ (l : List Bool) (p : Bool), chg p l % 2 = (p ^^ ls p l).toNat
  | [], p => by simp [chg, ls]
  | x :: l, p => by
    have h := chg_even l x
    have e : ls p (x :: l) = ls x l := rfl
    rw [e]
    simp only [chg]
    obtain ⟨y, hy⟩ : ∃ y, y = ls x l := ⟨_, rfl⟩
    rw [← hy] at h ⊢
    cases x <;> cases p <;> cases y <;> simp at h ⊢ <;> omega
theorem chg_cyc (l : List Bool) : chg (ls false (caj l)) (caj l) ≤ chg (ls false l) l := by
  obtain ⟨p, hp⟩ : ∃ p, p = ls false l := ⟨_, rfl⟩
  obtain ⟨q, hq⟩ : ∃ q, q = ls false (caj l) := ⟨_, rfl⟩
  unfold caj at *
  rw [← hp] at hq ⊢
  rw [← hq]
  have h1 := chg_le l p q
  have h2 := chg_le l p p
  rw [if_pos rfl] at h2
  by_cases e : q = p
  · rw [if_pos e] at h1; exact h1
  · rw [if_neg e] at h1
    by_cases hn : aj p l = []
    · rw [hn]; exact Nat.zero_le _
    · have o1 := chg_even (aj p l) q
      have o2 := chg_even l p
      have e1 : ls q (aj p l) = q := by rw [ls_cons q false hn, ← hq]
      have e2 : ls p l = p := by
        cases l with
        | nil => exact absurd rfl hn
        | cons x l => rw [ls_cons p false (by simp), ← hp]
      rw [e1, Bool.xor_self] at o1
      rw [e2, Bool.xor_self] at o2
      simp at o1 o2
      omega
theorem cntaj_le : ∀ (f : Nat) (l : List Bool), ∀ x ∈ cntaj f l, x ≤ chg (ls false l) l / 2
  | 0, _, x, h => by simp [cntaj] at h
  | f + 1, l, x, h => by
    have hc := chg_aj (ls false l) l
    have e : (caj l).length = (aj (ls false l) l).length := rfl
    simp only [cntaj] at h
    split at h
    · simp at h
    · rcases List.mem_cons.1 h with rfl | h
      · rw [e]; omega
      · have := cntaj_le f (caj l) x h
        have := chg_cyc l
        omega
theorem cntaj_falls : ∀ (f : Nat) (l : List Bool), Falls (cntaj f l)
  | 0, _ => fun k => by simp [cntaj]
  | f + 1, l => by
    have ih := cntaj_falls f (caj l)
    intro k
    simp only [cntaj]
    split
    · simp
    · cases k with
      | succ k => simpa using ih k
      | zero =>
        simp only [List.getElem?_cons_succ, List.getElem?_cons_zero, Option.getD_some]
        cases hk : (cntaj f (caj l))[0]? with
        | none => exact Nat.zero_le _
        | some x =>
          have := cntaj_le f (caj l) x (List.mem_of_getElem? hk)
          have h1 := chg_cyc l
          have h2 := chg_aj (ls false l) l
          have e : (caj l).length = (aj (ls false l) l).length := rfl
          simp only [Option.getD_some]
          rw [e]
          omega
/-- the shape of a circle: as many as the balls -/
theorem cshape_sum {l : List Bool} (h : drf l < 0) : (shp (cnt10 (nballs l) l)).sum = nballs l := by
  rw [shp_sum (by rw [cnt10_aj]; exact cntaj_falls _ _), cnt10_sum _ h (Nat.le_refl _)]
end Go.Proofs.Ytlgceccbjkkeiab

/- CIRCLES. Pure: no walk. Which boxes are paired in a round, and what lies there behind a turn. -/
namespace Go.Proofs.Ytlgceccbjkkeiab

/-- a list's members at the marks -/
def sel {α : Type} : List Bool → List α → List α
  | m :: ms, x :: l => if m then x :: sel ms l else sel ms l
  | _, _ => []
def m10 (p : Bool) : List Bool → Bool → List Bool
  | [], _ => []
  | x :: l, q => (if x then hd l q else !p) :: m10 x l q
def m01 (p : Bool) : List Bool → Bool → List Bool
  | [], _ => []
  | x :: l, q => (if x then p else !(hd l q)) :: m01 x l q
theorem k10_sel : ∀ (l : List Bool) (p q : Bool), k10 p l q = sel (m10 p l q) l
  | [], _, _ => rfl
  | x :: l, p, q => by simp only [k10, m10, sel, k10_sel l x q]
theorem k01_sel : ∀ (l : List Bool) (p q : Bool), k01 p l q = sel (m01 p l q) l
  | [], _, _ => rfl
  | x :: l, p, q => by simp only [k01, m01, sel, k01_sel l x q]
theorem m10_length : ∀ (l : List Bool) (p q : Bool), (m10 p l q).length = l.length
  | [], _, _ => rfl
  | x :: l, p, q => by simp only [m10, List.length_cons, m10_length l x q]
/-- the marks of a turn are those of the row; where there is none, the turn has the other sign -/
theorem tn_m10 : ∀ (l : List Bool) (c : Nat) (p p' q : Bool), (0 < c → p' = !p) → (c = 0 → p = false) →
    m01 p' (tn c l) (!q && decide (0 < lend c l)) = m10 p l q
  | [], _, _, _, _, _, _ => rfl
  | x :: l, c, p, p', q, h1, h2 => by
    have e2 : hd (tn (lstp c x) l) (!q && decide (0 < lend (lstp c x) l)) = (!(hd l q) && decide (0 < lstp c x)) := by
      cases l <;> rfl
    have ih := tn_m10 l (lstp c x) x (!x && decide (0 < c)) q (by cases x <;> simp [lstp] <;> omega) (by cases x <;> simp [lstp])
    show (if (!x && decide (0 < c)) then p' else !(hd (tn (lstp c x) l) (!q && decide (0 < lend (lstp c x) l)))) :: m01 (!x && decide (0 < c)) (tn (lstp c x) l) (!q && decide (0 < lend (lstp c x) l)) = (if x then hd l q else !p) :: m10 x l q
    rw [e2, ih]
    congr 1
    cases x
    · by_cases h : 0 < c
      · rw [h1 h]; simp [h]
      · have h0 : c = 0 := by omega
        subst h0
        rw [h2 rfl]; simp [lstp]
    · simp [lstp]
theorem tn_other : ∀ (l : List Bool) (c : Nat) (p q : Bool) (j : Nat) (x : Bool), (c = 0 → p = false) → (m10 p l q)[j]? = some false → l[j]? = some x → (tn c l)[j]? = some (!x)
  | [], _, _, _, j, x, _, _, h => by simp at h
  | y :: l, c, p, q, 0, x, h2, hm, h => by
    have hx : y = x := by simpa using h
    subst hx
    cases y
    · have hp : p = true := by simpa [m10] using hm
      have hc : 0 < c := Nat.pos_of_ne_zero (fun e => by have := h2 e; rw [hp] at this; exact absurd this (by simp))
      simp [tn, hc]
    · simp [tn]
  | y :: l, c, p, q, j + 1, x, h2, hm, h => by
    have := tn_other l (lstp c y) y q j x (by cases y <;> simp [lstp]) (by simpa [m10] using hm) (by simpa using h)
    simpa [tn] using this
/-- the marks round the circle -/
def cm (l : List Bool) : List Bool := m10 (ls false l) l (hd l false)
theorem cm_length (l : List Bool) : (cm l).length = l.length := m10_length _ _ _
theorem c10_sel (l : List Bool) : c10 l = sel (cm l) l := k10_sel _ _ _
/-- what is known of the load at the start -/
theorem start_inv {l : List Bool} (h : drf l < 0) : (0 < lend 0 l → ls false (cturn l) = !(ls false l)) ∧ (lend 0 l = 0 → ls false l = false) := by
  have hne : l ≠ [] := by intro e; subst e; simp [drf] at h
  have hs := lend_stays h
  have k := ls_inv l (lend 0 l) false true hne (fun _ => rfl) (fun _ => rfl)
  rw [hs] at k
  have ht : tn (lend 0 l) l ≠ [] := by intro e; have := congrArg List.length e; rw [tn_length] at this; exact hne (List.eq_nil_of_length_eq_zero (by simpa using this))
  rw [ls_cons true false ht] at k
  exact k
theorem cturn_sel {l : List Bool} (h : drf l < 0) : cturn (c10 l) = sel (cm l) (cturn l) := by
  have hne : l ≠ [] := by intro e; subst e; simp [drf] at h
  obtain ⟨j1, j2⟩ := start_inv h
  have hs := lend_stays h
  rw [← c01_turn h]
  unfold c01 cm
  rw [k01_sel]
  have k := tn_m10 l (lend 0 l) (ls false l) (ls false (cturn l)) (hd l false) j1 j2
  rw [hs] at k
  have e : hd (cturn l) false = (!(hd l false) && decide (0 < lend 0 l)) := hd_tn _ _ _ hne
  rw [e]
  unfold cturn at k ⊢
  rw [k]
theorem cturn_other {l : List Bool} (h : drf l < 0) {j : Nat} {x : Bool} (hm : (cm l)[j]? = some false) (hx : l[j]? = some x) : (cturn l)[j]? = some (!x) :=
  tn_other l _ _ _ j x (start_inv h).2 hm hx
theorem cturn_still {l : List Bool} (h : nballs l = 0) : cturn l = l :=
  cturn_none l (fun x hx => by
    cases x
    · rfl
    · unfold nballs at h
      exact absurd hx (List.count_eq_zero.1 h))
end Go.Proofs.Ytlgceccbjkkeiab
