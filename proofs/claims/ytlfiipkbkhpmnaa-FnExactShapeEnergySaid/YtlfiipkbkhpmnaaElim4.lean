/- RUNS AND GAPS as the model counts them; rows that are apart: their sizes, their steps. Pure: nothing of the program is named here. -/
import Derived.Test.YtlfiipkbkhpmnaaElim3
namespace Go.Proofs.Ytlfiipkbkhpmnaa

/-- runs and gaps of what is left, behind some runs R and gaps G, with n balls of a run and gap empty boxes just passed -/
def rrF : List Bool → List Nat → List Nat → Nat → Nat → List Nat × List Nat
  | [], R, G, n, _ => (if n = 0 then R else R ++ [n], G)
  | b :: t, R, G, n, gap => if b then rrF t R (if n = 0 ∧ R ≠ [] then G ++ [gap] else G) (n + 1) 0 else rrF t (if n = 0 then R else R ++ [n]) G 0 (gap + 1)
def rr (l : List Bool) : List Nat × List Nat := rrF l [] [] 0 0
/-- runs of balls, each but the last one with an empty box behind it -/
def good : List (Nat × Nat) → Prop
  | [] => True
  | p :: ps => 1 ≤ p.1 ∧ (ps ≠ [] → 1 ≤ p.2) ∧ good ps
theorem rrF_false (t : List Bool) (R G : List Nat) (n gap : Nat) : rrF (false :: t) R G n gap = rrF t (if n = 0 then R else R ++ [n]) G 0 (gap + 1) := rfl
theorem rrF_true (t : List Bool) (R G : List Nat) (n gap : Nat) : rrF (true :: t) R G n gap = rrF t R (if n = 0 ∧ R ≠ [] then G ++ [gap] else G) (n + 1) 0 := rfl
theorem rrF_gap (g : Nat) (t : List Bool) (R G : List Nat) (gap : Nat) : rrF (List.replicate g false ++ t) R G 0 gap = rrF t R G 0 (gap + g) := by
  induction g generalizing gap with
  | zero => rfl
  | succ g ih => rw [List.replicate_succ, List.cons_append, rrF_false, if_pos rfl, ih, show gap + 1 + g = gap + (g + 1) by omega]
theorem rrF_run (r : Nat) (t : List Bool) (R G : List Nat) (n : Nat) (hn : 1 ≤ n) (gap : Nat) (hg : gap = 0) : rrF (List.replicate r true ++ t) R G n gap = rrF t R G (n + r) 0 := by
  subst hg
  induction r generalizing n with
  | zero => rfl
  | succ r ih =>
    rw [List.replicate_succ, List.cons_append, rrF_true, if_neg (by omega), ih (n + 1) (by omega), show n + 1 + r = n + (r + 1) by omega]
theorem rrF_wb : ∀ (ps : List (Nat × Nat)) (R G : List Nat) (gap : Nat), good ps →
    rrF (wb ps) R G 0 gap = (R ++ ps.map (·.1), if ps = [] then G else G ++ ((if R = [] then [] else [gap]) ++ (ps.map (·.2)).dropLast)) := by
  intro ps
  induction ps with
  | nil => intro R G gap _; show (if 0 = 0 then R else R ++ [0], G) = _; simp
  | cons p ps ih =>
    intro R G gap ⟨h1, h2, h3⟩
    obtain ⟨r, h⟩ := p
    simp only at h1 h2
    obtain ⟨k, rfl⟩ : ∃ k, r = k + 1 := ⟨r - 1, by omega⟩
    have e : wb ((k + 1, h) :: ps) = true :: (List.replicate k true ++ (List.replicate h false ++ wb ps)) := by
      show List.replicate (k + 1) true ++ _ = _; rw [List.replicate_succ]; rfl
    rw [e, rrF_true, rrF_run k _ _ _ (0 + 1) (by omega) 0 rfl, show 0 + 1 + k = k + 1 by omega]
    obtain ⟨G2, hG2⟩ : ∃ G2, G2 = (if 0 = 0 ∧ R ≠ [] then G ++ [gap] else G) := ⟨_, rfl⟩
    rw [← hG2]
    have eG : G2 = G ++ (if R = [] then [] else [gap]) := by
      rw [hG2]
      by_cases hR : R = []
      · simp [hR]
      · simp [hR]
    cases h with
    | zero =>
      have hps : ps = [] := by
        cases ps with
        | nil => rfl
        | cons q qs => have := h2 (by simp); omega
      subst hps
      show (if k + 1 = 0 then R else R ++ [k + 1], G2) = _
      rw [if_neg (by omega), eG]
      simp
    | succ h =>
      rw [List.replicate_succ, List.cons_append, rrF_false, if_neg (by omega), rrF_gap, ih _ _ _ h3, eG]
      cases ps with
      | nil => simp
      | cons q qs => simp [show 0 + 1 + h = h + 1 by omega]
/-- every row is such blocks -/
theorem blocks (l : List Bool) : ∃ g ps, good ps ∧ l = List.replicate g false ++ wb ps := by
  induction l with
  | nil => exact ⟨0, [], trivial, rfl⟩
  | cons b t ih =>
    obtain ⟨g, ps, hg, rfl⟩ := ih
    cases b
    · exact ⟨g + 1, ps, hg, by rw [List.replicate_succ]; rfl⟩
    · cases g with
      | zero =>
        cases ps with
        | nil => exact ⟨0, [(1, 0)], ⟨Nat.le_refl _, fun h => absurd rfl h, trivial⟩, rfl⟩
        | cons p ps =>
          obtain ⟨r, h⟩ := p
          obtain ⟨h1, h2, h3⟩ := hg
          refine ⟨0, (r + 1, h) :: ps, ⟨by show 1 ≤ r + 1; omega, h2, h3⟩, ?_⟩
          show true :: (List.replicate r true ++ _) = List.replicate (r + 1) true ++ _
          rw [List.replicate_succ]; rfl
      | succ g => exact ⟨0, (1, g + 1) :: ps, ⟨Nat.le_refl _, fun _ => by show 1 ≤ g + 1; omega, hg⟩, rfl⟩
theorem rr_blocks {g : Nat} {ps : List (Nat × Nat)} (h : good ps) : rr (List.replicate g false ++ wb ps) = (ps.map (·.1), (ps.map (·.2)).dropLast) := by
  unfold rr
  rw [rrF_gap, rrF_wb ps [] [] _ h]
  cases ps with
  | nil => rfl
  | cons p ps => simp
/-- empty boxes behind change nothing -/
theorem rrF_pad (z : Nat) : ∀ (l : List Bool) (R G : List Nat) (n gap : Nat), rrF (l ++ List.replicate z false) R G n gap = rrF l R G n gap := by
  intro l
  induction l with
  | nil =>
    intro R G n gap
    cases z with
    | zero => rfl
    | succ z =>
      rw [List.nil_append, List.replicate_succ, rrF_false]
      have h := rrF_gap z [] (if n = 0 then R else R ++ [n]) G (gap + 1)
      rw [List.append_nil] at h
      rw [h]
      show (if 0 = 0 then _ else _, G) = (if n = 0 then R else R ++ [n], G)
      rw [if_pos rfl]
  | cons b t ih =>
    intro R G n gap
    cases b
    · rw [List.cons_append, rrF_false, rrF_false, ih]
    · rw [List.cons_append, rrF_true, rrF_true, ih]
theorem rr_ext {l m : List Bool} (h : bx l = bx m) : rr l = rr m := by
  have e : ∀ l : List Bool, rr l = rr (cut l) := by
    intro l
    obtain ⟨n, hn⟩ := cut_eq l
    have : rr l = rr (cut l ++ List.replicate n false) := by rw [← hn]
    rw [this]; exact rrF_pad n (cut l) [] [] 0 0
  have hc : cut l = cut m := cut_ext (fun i => by rw [h])
  rw [e l, e m, hc]

/-- runs do not fall, and behind each but the last one are enough empty boxes -/
def apB (R G : List Nat) : Bool := (List.range G.length).all fun i => decide (R.getD i 0 ≤ R.getD (i + 1) 0) && decide (R.getD i 0 ≤ G.getD i 0)
def apart : List (Nat × Nat) → Prop
  | [] => True
  | [_] => True
  | p :: q :: ps => p.1 ≤ q.1 ∧ p.1 ≤ p.2 ∧ apart (q :: ps)
theorem apB_iff (ps : List (Nat × Nat)) : apB (ps.map (·.1)) (ps.map (·.2)).dropLast = true ↔ apart ps := by
  induction ps with
  | nil => simp [apB, apart]
  | cons p ps ih =>
    cases ps with
    | nil => simp [apB, apart]
    | cons q qs =>
      have e : apB ((p :: q :: qs).map (·.1)) ((p :: q :: qs).map (·.2)).dropLast = ((decide (p.1 ≤ q.1) && decide (p.1 ≤ p.2)) && apB ((q :: qs).map (·.1)) ((q :: qs).map (·.2)).dropLast) := by
        unfold apB
        have hl : ((p :: q :: qs).map (fun x => x.2)).dropLast = p.2 :: ((q :: qs).map (fun x => x.2)).dropLast := by simp
        rw [hl, List.length_cons, List.range_succ_eq_map, List.all_cons, List.all_map]
        rfl
      rw [e, Bool.and_eq_true, ih]
      simp [apart, and_assoc]

theorem lk_runs : ∀ (ps : List (Nat × Nat)), good ps → lk 1 0 (wb ps) = ps.length := by
  have ones : ∀ r t, lk 1 1 (List.replicate r true ++ t) = lk 1 1 t := by
    intro r
    induction r with
    | zero => intro t; rfl
    | succ r ih => intro t; rw [List.replicate_succ, List.cons_append, lk_full 1 1 _ (by omega), ih]
  have zeros : ∀ h t, lk 1 0 (List.replicate h false ++ t) = lk 1 0 t := by
    intro h
    induction h with
    | zero => intro t; rfl
    | succ h ih => intro t; rw [List.replicate_succ, List.cons_append, lk_none]; exact ih t
  intro ps
  induction ps with
  | nil => intro _; rfl
  | cons p ps ih =>
    intro ⟨h1, h2, h3⟩
    obtain ⟨r, h⟩ := p
    simp only at h1 h2
    obtain ⟨k, rfl⟩ : ∃ k, r = k + 1 := ⟨r - 1, by omega⟩
    have e : wb ((k + 1, h) :: ps) = true :: (List.replicate k true ++ (List.replicate h false ++ wb ps)) := by
      show List.replicate (k + 1) true ++ _ = _; rw [List.replicate_succ]; rfl
    rw [e, lk_take 1 0 _ (by omega), ones]
    cases h with
    | zero =>
      have hps : ps = [] := by
        cases ps with
        | nil => rfl
        | cons q qs => have := h2 (by simp); omega
      subst hps; rfl
    | succ h =>
      rw [List.replicate_succ, List.cons_append, lk_none, zeros, ih h3, List.length_cons]; omega
/-- P23: as many runs as the energy for the room 1 -/
theorem runs_energy (l : List Bool) : (rr l).1.length = tk 1 (bx l) l.length ∧ (rr l).1.sum = nballs l ∧ ∀ x ∈ (rr l).1, 1 ≤ x := by
  obtain ⟨g, ps, hg, rfl⟩ := blocks l
  rw [rr_blocks hg]
  refine ⟨?_, ?_, ?_⟩
  · rw [← (lk_row 1 _).1]
    have : ∀ g, lk 1 0 (List.replicate g false ++ wb ps) = lk 1 0 (wb ps) := by
      intro g
      induction g with
      | zero => rfl
      | succ g ih => rw [List.replicate_succ, List.cons_append, lk_none]; exact ih
    rw [this, lk_runs ps hg, List.length_map]
  · rw [nballs_gap, nballs_wb]
  · intro x hx
    obtain ⟨p, hp, rfl⟩ := List.mem_map.1 hx
    clear hx
    induction ps with
    | nil => cases hp
    | cons q qs ih =>
      rcases List.mem_cons.1 hp with rfl | hp
      · exact hg.1
      · exact ih hg.2.2 hp

/-- rounds and sizes tell each other -/
theorem count_falls {D : List Nat} (h : Falls D) (j k : Nat) (hk : k < D.length) : k < D.countP (fun x => decide (j < x)) ↔ j < D.getD k 0 := by
  induction D generalizing k with
  | nil => simp at hk
  | cons x t ih =>
    by_cases hx : j < x
    · rw [List.countP_cons_of_pos (by simpa using hx)]
      cases k with
      | zero => simp [hx]
      | succ k =>
        have := ih h.tail k (by simpa using hk)
        show k + 1 < _ + 1 ↔ j < t.getD k 0
        omega
    · have z : t.countP (fun x => decide (j < x)) = 0 := by
        rw [List.countP_eq_zero]; intro y hy; have := h.le y hy; simp; omega
      rw [List.countP_cons_of_neg (by simpa using hx), z]
      have : (x :: t).getD k 0 ≤ x := by
        cases k with
        | zero => exact Nat.le_refl _
        | succ k =>
          have hk2 : k < t.length := by simpa using hk
          show t.getD k 0 ≤ x
          rw [List.getD_eq_getElem?_getD, List.getElem?_eq_getElem hk2]
          exact h.le _ (List.getElem_mem hk2)
      omega
theorem countP_range (r : List Nat) (p : Nat → Bool) : r.countP p = (List.range r.length).countP (fun j => p (r.getD j 0)) := by
  induction r with
  | nil => rfl
  | cons x t ih =>
    rw [List.length_cons, List.range_succ_eq_map, List.countP_cons, List.countP_cons, List.countP_map, ih]
    rfl
theorem count_lt (M v : Nat) : (List.range M).countP (fun j => decide (j < v)) = min M v := by
  induction M with
  | zero => simp
  | succ M ih =>
    rw [List.range_succ, List.countP_append, ih]
    by_cases h : M < v
    · simp [h]; omega
    · simp [h]; omega
theorem shp_conj {r D : List Nat} (hD : Falls D) (h1 : ∀ x ∈ D, 1 ≤ x) (hr : ∀ j, r.getD j 0 = D.countP (fun x => decide (j < x))) : shp r = D := by
  have hlen : r.headD 0 = D.length := by
    have h0 := hr 0
    have e : D.countP (fun x => decide (0 < x)) = D.length := by
      rw [List.countP_eq_length]; intro x hx; have := h1 x hx; simp; omega
    rw [e] at h0
    rw [← h0]
    cases r <;> rfl
  apply List.ext_getElem?
  intro k
  by_cases hk : k < D.length
  · rw [shp_get r k (by omega), List.getElem?_eq_getElem hk]
    congr 1
    have hv : D.getD k 0 = D[k] := by rw [List.getD_eq_getElem?_getD, List.getElem?_eq_getElem hk]; rfl
    rw [countP_range]
    have e : (List.range r.length).countP (fun j => decide (k < r.getD j 0)) = (List.range r.length).countP (fun j => decide (j < D[k])) := by
      apply List.countP_congr
      intro j _
      rw [hr j, decide_eq_true_iff, decide_eq_true_iff, count_falls hD j k hk, hv]
    rw [e, count_lt]
    apply Nat.min_eq_right
    rcases Nat.lt_or_ge r.length D[k] with h | h
    · have h2 := (count_falls hD r.length k hk).2 (by rw [hv]; exact h)
      rw [← hr] at h2
      have : r.getD r.length 0 = 0 := by rw [List.getD_eq_getElem?_getD, List.getElem?_eq_none_iff.2 (Nat.le_refl _)]; rfl
      omega
    · exact h
  · rw [List.getElem?_eq_none_iff.2 (by rw [shp_length]; omega), List.getElem?_eq_none_iff.2 (by omega)]
end Go.Proofs.Ytlfiipkbkhpmnaa
