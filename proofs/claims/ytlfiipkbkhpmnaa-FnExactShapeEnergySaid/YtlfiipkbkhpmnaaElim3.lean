/- RUNS AND GAPS: a row as blocks of balls and empty boxes; rows that are apart. Pure: nothing of the program is named here. -/
import Derived.Test.YtlfiipkbkhpmnaaElim2
namespace Go.Proofs.Ytlfiipkbkhpmnaa

/-- runs of balls, each with the empty boxes behind it -/
def wb : List (Nat × Nat) → List Bool
  | [] => []
  | p :: ps => List.replicate p.1 true ++ (List.replicate p.2 false ++ wb ps)
theorem el_gap (g : Nat) (t : List Bool) : el (List.replicate g false ++ t) = List.replicate g false ++ el t ∧ np (List.replicate g false ++ t) = np t := by
  induction g with
  | zero => exact ⟨rfl, rfl⟩
  | succ g ih =>
    rw [List.replicate_succ, List.cons_append]
    cases h : List.replicate g false ++ t with
    | nil =>
      rw [h] at ih
      have ht : t = [] := (List.append_eq_nil_iff.1 h).2
      subst ht
      rw [List.append_nil] at h
      rw [h]; exact ⟨rfl, rfl⟩
    | cons b u =>
      rw [h] at ih
      rw [el_none, np_none, ih.1, ih.2]
      exact ⟨rfl, rfl⟩
theorem el_run (r : Nat) (t : List Bool) : el (List.replicate (r + 1) true ++ false :: t) = List.replicate r true ++ el t ∧ np (List.replicate (r + 1) true ++ false :: t) = np t + 1 := by
  induction r with
  | zero => exact ⟨rfl, rfl⟩
  | succ r ih =>
    have e : List.replicate (r + 1 + 1) true ++ false :: t = true :: true :: (List.replicate r true ++ false :: t) := by rw [List.replicate_succ, List.replicate_succ]; rfl
    have e2 : List.replicate (r + 1) true ++ false :: t = true :: (List.replicate r true ++ false :: t) := by rw [List.replicate_succ]; rfl
    rw [e2] at ih
    rw [e, el_two, np_two, ih.1, ih.2, List.replicate_succ]
    exact ⟨rfl, rfl⟩
/-- a block behind one round -/
def shr (p : Nat × Nat) : Nat × Nat := if p.1 = 0 then p else (p.1 - 1, p.2 - 1)
theorem el_wb (ps : List (Nat × Nat)) (h : ∀ p ∈ ps, p.1 ≤ p.2) : el (wb ps) = wb (ps.map shr) ∧ np (wb ps) = ps.countP (fun p => decide (0 < p.1)) := by
  induction ps with
  | nil => exact ⟨rfl, rfl⟩
  | cons p ps ih =>
    obtain ⟨i1, i2⟩ := ih fun q hq => h q (List.mem_cons_of_mem _ hq)
    have hp := h p (List.mem_cons_self ..)
    obtain ⟨r, g⟩ := p
    simp only at hp
    cases r with
    | zero =>
      obtain ⟨e1, e2⟩ := el_gap g (wb ps)
      have e : wb ((0, g) :: ps) = List.replicate g false ++ wb ps := rfl
      rw [e, e1, e2, i1, i2, List.countP_cons_of_neg (by simp)]
      exact ⟨rfl, rfl⟩
    | succ r =>
      obtain ⟨k, rfl⟩ : ∃ k, g = k + 1 := ⟨g - 1, by omega⟩
      have e : wb ((r + 1, k + 1) :: ps) = List.replicate (r + 1) true ++ false :: (List.replicate k false ++ wb ps) := by
        show List.replicate (r + 1) true ++ (List.replicate (k + 1) false ++ wb ps) = _
        rw [List.replicate_succ (n := k)]; rfl
      obtain ⟨e1, e2⟩ := el_run r (List.replicate k false ++ wb ps)
      obtain ⟨e3, e4⟩ := el_gap k (wb ps)
      rw [e, e1, e2, e3, e4, i1, i2, List.countP_cons_of_pos (by simp)]
      exact ⟨rfl, rfl⟩
theorem wb_still (ps : List (Nat × Nat)) (h : ∀ p ∈ ps, p.1 ≤ p.2) (K : Nat) : fl K 0 (wb ps) = 0 := by
  have app : ∀ (a b : List Bool) (u : Nat), fl K u (a ++ b) = fl K (fl K u a) b := by
    intro a
    induction a with
    | nil => intro b u; rfl
    | cons c a ih => intro b u; show fl K (nx K c u) (a ++ b) = _; rw [ih]; rfl
  have f1 : ∀ n u, fl K u (List.replicate n true) ≤ u + n := by
    intro n
    induction n with
    | zero => intro u; exact Nat.le_refl _
    | succ n ih =>
      intro u
      rw [List.replicate_succ]
      show fl K (nx K true u) _ ≤ _
      have h1 := ih (nx K true u)
      have h2 := (nx_bd K true u).1
      omega
  have f2 : ∀ n u, fl K u (List.replicate n false) = u - n := by
    intro n
    induction n with
    | zero => intro u; rfl
    | succ n ih => intro u; rw [List.replicate_succ, fl_none, ih]; omega
  induction ps with
  | nil => rfl
  | cons p ps ih =>
    have hp := h p (List.mem_cons_self ..)
    show fl K 0 (List.replicate p.1 true ++ (List.replicate p.2 false ++ wb ps)) = 0
    rw [app, app, f2]
    have := f1 p.1 0
    rw [show fl K 0 (List.replicate p.1 true) - p.2 = 0 by omega]
    exact ih fun q hq => h q (List.mem_cons_of_mem _ hq)
theorem gap_still {l : List Bool} (g : Nat) (h : Still l) : Still (List.replicate g false ++ l) := by
  intro K
  induction g with
  | zero => exact h K
  | succ g ih => rw [List.replicate_succ, List.cons_append, fl_none]; exact ih
theorem nballs_wb (ps : List (Nat × Nat)) : nballs (wb ps) = (ps.map (·.1)).sum := by
  induction ps with
  | nil => rfl
  | cons p ps ih =>
    unfold nballs at ih ⊢
    show List.count true (List.replicate p.1 true ++ (List.replicate p.2 false ++ wb ps)) = _
    rw [List.count_append, List.count_append, ih, List.map_cons, List.sum_cons, List.count_replicate, List.count_replicate]
    simp
theorem nballs_gap (g : Nat) (l : List Bool) : nballs (List.replicate g false ++ l) = nballs l := by unfold nballs; rw [List.count_append, List.count_replicate]; simp
theorem mem_le_sum : ∀ (l : List Nat) (x : Nat), x ∈ l → x ≤ l.sum := by
  intro l
  induction l with
  | nil => intro x h; cases h
  | cons y l ih =>
    intro x h
    rw [List.sum_cons]
    rcases List.mem_cons.1 h with rfl | h
    · omega
    · have := ih x h; omega
/-- the rounds of such a row: how many runs are longer -/
theorem rds_wb (k : Nat) : ∀ (g : Nat) (ps : List (Nat × Nat)) (n : Nat), (∀ p ∈ ps, p.1 ≤ p.2) → (ps.map (·.1)).sum ≤ n →
    (rds n (List.replicate g false ++ wb ps))[k]?.getD 0 = ps.countP (fun p => decide (k < p.1)) := by
  induction k with
  | zero =>
    intro g ps n h hn
    have hb : nballs (List.replicate g false ++ wb ps) = (ps.map (·.1)).sum := by rw [nballs_gap, nballs_wb]
    obtain ⟨e1, e2⟩ := el_wb ps h
    by_cases h0 : nballs (List.replicate g false ++ wb ps) = 0
    · rw [rds_nil h0]
      have h1 := el_balls (List.replicate g false ++ wb ps)
      rw [(el_gap g (wb ps)).2, e2] at h1
      show 0 = _; omega
    · obtain ⟨m, rfl⟩ : ∃ m, n = m + 1 := ⟨n - 1, by omega⟩
      rw [rds_cons h0]
      show np _ = _
      rw [(el_gap g (wb ps)).2, e2]
  | succ k ih =>
    intro g ps n h hn
    have hb : nballs (List.replicate g false ++ wb ps) = (ps.map (·.1)).sum := by rw [nballs_gap, nballs_wb]
    obtain ⟨e1, e2⟩ := el_wb ps h
    have hs : ∀ p ∈ ps.map shr, p.1 ≤ p.2 := by
      intro p hp
      obtain ⟨q, hq, rfl⟩ := List.mem_map.1 hp
      have := h q hq
      unfold shr
      split
      · exact this
      · show q.1 - 1 ≤ q.2 - 1; omega
    have hc : (ps.map shr).countP (fun p => decide (k < p.1)) = ps.countP (fun p => decide (k + 1 < p.1)) := by
      rw [List.countP_map]
      apply List.countP_congr
      intro p _
      show decide (k < (shr p).1) = true ↔ _
      unfold shr
      split
      · simp; omega
      · simp; omega
    by_cases h0 : nballs (List.replicate g false ++ wb ps) = 0
    · rw [rds_nil h0]
      rw [hb] at h0
      have : ∀ p ∈ ps, p.1 = 0 := by
        intro p hp
        have := mem_le_sum _ _ (List.mem_map_of_mem (f := fun q : Nat × Nat => q.1) hp)
        omega
      have hz : ps.countP (fun p => decide (k + 1 < p.1)) = 0 := by
        rw [List.countP_eq_zero]; intro p hp; rw [this p hp]; simp
      rw [hz]; rfl
    · obtain ⟨m, rfl⟩ : ∃ m, n = m + 1 := ⟨n - 1, by omega⟩
      rw [rds_cons h0]
      show (rds m (el (List.replicate g false ++ wb ps)))[k]?.getD 0 = _
      have hl := el_balls (List.replicate g false ++ wb ps)
      have hst : Still (List.replicate g false ++ wb ps) := gap_still g (wb_still ps h)
      have hp := np_ball hst h0
      rw [(el_gap g (wb ps)).1, e1] at hl ⊢
      rw [nballs_gap, nballs_gap, nballs_wb, nballs_wb] at hl
      rw [ih g (ps.map shr) m hs (by omega), hc]
end Go.Proofs.Ytlfiipkbkhpmnaa
