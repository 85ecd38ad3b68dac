/- CIRCLES. Pure: no walk. The rounds fall, and add up to the balls. -/
import Derived.Test.YtkdhifofdghbbaaCir3
import Derived.Test.YtkdhifofdghbbaaShp
import Derived.Test.YtkdhifofdghbbaaBalls
namespace Go.Proofs.Ytkdhifofdghbbaa

theorem drf_balls (l : List Bool) : drf l = 2 * (nballs l : Int) - (l.length : Int) := by
  induction l with
  | nil => rfl
  | cons x l ih =>
    simp only [drf, ih]
    have e : nballs (x :: l) = nballs l + if x then 1 else 0 := by
      unfold nballs
      rw [List.count_cons]
      cases x <;> rfl
    rw [e, List.length_cons]
    cases x <;> simp <;> omega
theorem aj_le : ∀ (l : List Bool) (p : Bool), (aj p l).length ≤ l.length
  | [], _ => Nat.le_refl _
  | x :: l, p => by
    have := aj_le l x
    simp only [aj]
    split
    · simp; exact this
    · simp; omega
theorem aj_full : ∀ (l : List Bool) (p : Bool), (aj p l).length = l.length → ∀ x ∈ l, x = p
  | [], _, _ => by simp
  | x :: l, p, h => by
    have hl := aj_le l x
    simp only [aj] at h
    by_cases hp : p = x
    · subst hp
      rw [if_pos rfl] at h
      have ih := aj_full l p (by simpa using h)
      intro y hy
      rcases List.mem_cons.1 hy with rfl | hy
      · rfl
      · exact ih y hy
    · rw [if_neg hp] at h
      simp at h
      omega
theorem nballs_all {l : List Bool} {p : Bool} (h : ∀ x ∈ l, x = p) : nballs l = if p then l.length else 0 := by
  unfold nballs
  cases p
  · rw [if_neg (by simp), List.count_eq_zero]
    intro hm
    exact absurd (h true hm) (by simp)
  · rw [if_pos rfl]
    exact List.count_eq_length.2 (fun b hb => (h b hb).symm)
theorem c10_le (l : List Bool) : (c10 l).length ≤ l.length := by
  rw [(c10_rot l).length]
  exact aj_le _ _
/-- no neighbours: no balls -/
theorem c10_none {l : List Bool} (h : drf l < 0) (he : (c10 l).length = l.length) : nballs l = 0 := by
  rw [(c10_rot l).length] at he
  have := nballs_all (aj_full l (ls false l) he)
  rw [drf_balls] at h
  cases hp : ls false l
  · rw [hp] at this; simpa using this
  · rw [hp, if_pos rfl] at this; omega
theorem c10_balls (l : List Bool) : 2 * (nballs l - nballs (c10 l)) = l.length - (c10 l).length ∧ nballs (c10 l) ≤ nballs l := by
  have h1 := c10_drf l
  have h2 := c10_le l
  rw [drf_balls, drf_balls] at h1
  omega
theorem cnt10_sum : ∀ (f : Nat) {l : List Bool}, drf l < 0 → nballs l ≤ f → (cnt10 f l).sum = nballs l
  | 0, l, _, hf => by
    have : nballs l = 0 := by omega
    rw [this]; rfl
  | f + 1, l, h, hf => by
    simp only [cnt10]
    by_cases he : (c10 l).length = l.length
    · rw [if_pos he, c10_none h he]; rfl
    · rw [if_neg he]
      have hb := c10_balls l
      have hl := c10_le l
      have ih := cnt10_sum f (l := c10 l) (by rw [c10_drf]; exact h) (by omega)
      rw [List.sum_cons, ih]
      omega
/-- how often the sign changes -/
def chg (p : Bool) : List Bool → Nat
  | [] => 0
  | x :: l => (if p = x then 0 else 1) + chg x l
theorem chg_aj (p : Bool) (l : List Bool) : l.length = chg p l + (aj p l).length := by
  induction l generalizing p with
  | nil => rfl
  | cons x l ih =>
    have := ih x
    simp only [chg, aj, List.length_cons]
    split
    · simp; omega
    · omega
theorem chg_le : ∀ (l : List Bool) (p q : Bool), chg q (aj p l) ≤ chg p l + if q = p then 0 else 1
  | [], _, _ => by simp [aj, chg]
  | x :: l, p, q => by
    simp only [aj, chg]
    by_cases hp : p = x
    · subst hp
      rw [if_pos rfl, if_pos rfl]
      have := chg_le l p p
      rw [if_pos rfl] at this
      simp only [chg]
      omega
    · rw [if_neg hp, if_neg hp]
      have := chg_le l x q
      cases x <;> cases p <;> cases q <;> simp at hp this ⊢ <;> omega
theorem chg_even : ∀ (l : List Bool) (p : Bool), chg p l % 2 = (p ^^ ls p l).toNat
  | [], p => by simp [chg, ls]
  | x :: l, p => by
    have h := chg_even l x
    have e : ls p (x :: l) = ls x l := rfl
    rw [e]
    simp only [chg]
    obtain ⟨y, hy⟩ : ∃ y, y = ls x l := ⟨_, rfl⟩
    rw [← hy] at h ⊢
    cases x <;> cases p <;> cases y <;> simp at h ⊢ <;> omega
theorem chg_cyc (l : List Bool) : chg (ls false (caj l)) (caj l) ≤ chg (ls false l) l := by
  obtain ⟨p, hp⟩ : ∃ p, p = ls false l := ⟨_, rfl⟩
  obtain ⟨q, hq⟩ : ∃ q, q = ls false (caj l) := ⟨_, rfl⟩
  unfold caj at *
  rw [← hp] at hq ⊢
  rw [← hq]
  have h1 := chg_le l p q
  have h2 := chg_le l p p
  rw [if_pos rfl] at h2
  by_cases e : q = p
  · rw [if_pos e] at h1; exact h1
  · rw [if_neg e] at h1
    by_cases hn : aj p l = []
    · rw [hn]; exact Nat.zero_le _
    · have o1 := chg_even (aj p l) q
      have o2 := chg_even l p
      have e1 : ls q (aj p l) = q := by rw [ls_cons q false hn, ← hq]
      have e2 : ls p l = p := by
        cases l with
        | nil => exact absurd rfl hn
        | cons x l => rw [ls_cons p false (by simp), ← hp]
      rw [e1, Bool.xor_self] at o1
      rw [e2, Bool.xor_self] at o2
      simp at o1 o2
      omega
theorem cntaj_le : ∀ (f : Nat) (l : List Bool), ∀ x ∈ cntaj f l, x ≤ chg (ls false l) l / 2
  | 0, _, x, h => by simp [cntaj] at h
  | f + 1, l, x, h => by
    have hc := chg_aj (ls false l) l
    have e : (caj l).length = (aj (ls false l) l).length := rfl
    simp only [cntaj] at h
    split at h
    · simp at h
    · rcases List.mem_cons.1 h with rfl | h
      · rw [e]; omega
      · have := cntaj_le f (caj l) x h
        have := chg_cyc l
        omega
theorem cntaj_falls : ∀ (f : Nat) (l : List Bool), Falls (cntaj f l)
  | 0, _ => fun k => by simp [cntaj]
  | f + 1, l => by
    have ih := cntaj_falls f (caj l)
    intro k
    simp only [cntaj]
    split
    · simp
    · cases k with
      | succ k => simpa using ih k
      | zero =>
        simp only [List.getElem?_cons_succ, List.getElem?_cons_zero, Option.getD_some]
        cases hk : (cntaj f (caj l))[0]? with
        | none => exact Nat.zero_le _
        | some x =>
          have := cntaj_le f (caj l) x (List.mem_of_getElem? hk)
          have h1 := chg_cyc l
          have h2 := chg_aj (ls false l) l
          have e : (caj l).length = (aj (ls false l) l).length := rfl
          simp only [Option.getD_some]
          rw [e]
          omega
/-- the shape of a circle: as many as the balls -/
theorem cshape_sum {l : List Bool} (h : drf l < 0) : (shp (cnt10 (nballs l) l)).sum = nballs l := by
  rw [shp_sum (by rw [cnt10_aj]; exact cntaj_falls _ _), cnt10_sum _ h (Nat.le_refl _)]
end Go.Proofs.Ytkdhifofdghbbaa
