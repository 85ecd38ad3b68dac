/- THE RUNS OF A ROW, AS PAIRS OF INDEXES. Pure: nothing of the program is walked here. -/
import Derived.Test.YtlfiipkbkhpmnaaElim4
import Derived.Test.YtlfiipkbkhpmnaaBalls
namespace Go.Proofs.Ytlfiipkbkhpmnaa

/-- one more ball, at an index -/
def stepR (R : List (Nat × Nat)) (i : Nat) : List (Nat × Nat) :=
  match R.getLast? with
  | some p => if p.2 = i then R.dropLast ++ [(p.1, p.2 + 1)] else R ++ [(i, i + 1)]
  | none => R ++ [(i, i + 1)]
def rsP (ps : List Nat) : List (Nat × Nat) := ps.foldl stepR []
theorem rsP_snoc (ps : List Nat) (i : Nat) : rsP (ps ++ [i]) = stepR (rsP ps) i := by unfold rsP; rw [List.foldl_append]; rfl
theorem stepR_new {R : List (Nat × Nat)} {i : Nat} (h : ∀ p, R.getLast? = some p → p.2 ≠ i) : stepR R i = R ++ [(i, i + 1)] := by
  unfold stepR
  cases hl : R.getLast? with
  | none => rfl
  | some p => show (if p.2 = i then _ else _) = _; rw [if_neg (h p hl)]
theorem stepR_more (R : List (Nat × Nat)) (a i : Nat) : stepR (R ++ [(a, i)]) i = R ++ [(a, i + 1)] := by
  unfold stepR
  rw [List.getLast?_concat]
  show (if i = i then _ else _) = _
  rw [if_pos rfl, List.dropLast_concat]
/-- box by box -/
def runsF : List Bool → Nat → List (Nat × Nat) → List (Nat × Nat)
  | [], _, R => R
  | b :: t, i, R => runsF t (i + 1) (if b then stepR R i else R)
theorem runsF_app : ∀ (a b : List Bool) (i : Nat) (R : List (Nat × Nat)), runsF (a ++ b) i R = runsF b (i + a.length) (runsF a i R) := by
  intro a
  induction a with
  | nil => intro b i R; rfl
  | cons x a ih => intro b i R; show runsF (a ++ b) (i + 1) _ = _; rw [ih, List.length_cons, show i + 1 + a.length = i + (a.length + 1) by omega]; rfl
theorem runsF_pos (bs : List Bool) : ∀ k, k ≤ bs.length → rsP (posU bs k) = runsF (bs.take k) 0 [] := by
  intro k
  induction k with
  | zero => intro _; simp [posU, rsP, runsF]
  | succ k ih =>
    intro hk
    have e : bs[k]? = some bs[k] := List.getElem?_eq_getElem (by omega)
    have ih := ih (by omega)
    rw [posU_succ, List.take_succ_eq_append_getElem (by omega), runsF_app, ← ih, List.length_take, Nat.min_eq_left (by omega), e]
    cases bs[k]
    · rfl
    · show rsP (posU bs k ++ [k]) = stepR (rsP (posU bs k)) (0 + k)
      rw [rsP_snoc, Nat.zero_add]
theorem rsP_pos (bs : List Bool) : rsP (pos bs) = runsF bs 0 [] := by
  unfold pos
  rw [runsF_pos bs _ (Nat.le_refl _), List.take_of_length_le (Nat.le_refl _)]
theorem runsF_gap (g i : Nat) (R : List (Nat × Nat)) : runsF (List.replicate g false) i R = R := by
  induction g generalizing i with
  | zero => rfl
  | succ g ih => rw [List.replicate_succ]; exact ih (i + 1)
theorem runsF_more (r a i : Nat) (R : List (Nat × Nat)) : runsF (List.replicate r true) i (R ++ [(a, i)]) = R ++ [(a, i + r)] := by
  induction r generalizing i with
  | zero => rfl
  | succ r ih =>
    rw [List.replicate_succ]
    show runsF _ (i + 1) (stepR _ i) = _
    rw [stepR_more, ih, show i + 1 + r = i + (r + 1) by omega]
theorem runsF_run (r i : Nat) (R : List (Nat × Nat)) (h : ∀ p, R.getLast? = some p → p.2 ≠ i) (hr : 1 ≤ r) : runsF (List.replicate r true) i R = R ++ [(i, i + r)] := by
  obtain ⟨q, rfl⟩ : ∃ q, r = q + 1 := ⟨r - 1, by omega⟩
  rw [List.replicate_succ]
  show runsF _ (i + 1) (stepR R i) = _
  rw [stepR_new h, runsF_more, show i + 1 + q = i + (q + 1) by omega]
/-- where the runs of blocks lie -/
def posR : List (Nat × Nat) → Nat → List (Nat × Nat)
  | [], _ => []
  | p :: ps, i => (i, i + p.1) :: posR ps (i + p.1 + p.2)
theorem runsF_wb : ∀ (ps : List (Nat × Nat)) (i : Nat) (R : List (Nat × Nat)), good ps → (∀ p, R.getLast? = some p → p.2 ≠ i) → runsF (wb ps) i R = R ++ posR ps i := by
  intro ps
  induction ps with
  | nil => intro i R _ _; exact (List.append_nil R).symm
  | cons p ps ih =>
    intro i R hg hR
    obtain ⟨h1, h2, h3⟩ := hg
    show runsF (List.replicate p.1 true ++ (List.replicate p.2 false ++ wb ps)) i R = _
    rw [runsF_app, runsF_app, runsF_run _ _ _ hR h1, runsF_gap, List.length_replicate, List.length_replicate]
    cases ps with
    | nil => rfl
    | cons q qs =>
      rw [ih _ _ h3 (fun x hx => by rw [List.getLast?_concat] at hx; injection hx with hx; rw [← hx]; have := h2 (by simp); show i + p.1 ≠ _; omega), List.append_assoc]
      rfl
/-- the empty boxes between runs -/
def gapsP : List (Nat × Nat) → List Nat
  | p :: q :: r => (q.1 - p.2) :: gapsP (q :: r)
  | _ => []
theorem posR_sizes : ∀ (ps : List (Nat × Nat)) (i : Nat), (posR ps i).map (fun p => p.2 - p.1) = ps.map (·.1) := by
  intro ps
  induction ps with
  | nil => intro i; rfl
  | cons p ps ih => intro i; show (i + p.1 - i) :: _ = p.1 :: _; rw [ih, show i + p.1 - i = p.1 by omega]
theorem posR_gaps : ∀ (ps : List (Nat × Nat)) (i : Nat), gapsP (posR ps i) = (ps.map (·.2)).dropLast := by
  intro ps
  induction ps with
  | nil => intro i; rfl
  | cons p ps ih =>
    intro i
    cases ps with
    | nil => rfl
    | cons q qs =>
      show (i + p.1 + p.2 - (i + p.1)) :: gapsP (posR (q :: qs) (i + p.1 + p.2)) = p.2 :: _
      rw [ih, show i + p.1 + p.2 - (i + p.1) = p.2 by omega]; rfl
/-- runs lie one behind the other -/
def lineP : List (Nat × Nat) → Prop
  | p :: q :: r => p.1 ≤ p.2 ∧ p.2 ≤ q.1 ∧ lineP (q :: r)
  | [p] => p.1 ≤ p.2
  | [] => True
theorem posR_line : ∀ (ps : List (Nat × Nat)) (i : Nat), lineP (posR ps i) := by
  intro ps
  induction ps with
  | nil => intro i; exact True.intro
  | cons p ps ih =>
    intro i
    cases ps with
    | nil => show i ≤ i + p.1; omega
    | cons q qs =>
      refine ⟨?_, ?_, ih (i + p.1 + p.2)⟩
      · show i ≤ i + p.1; omega
      · show i + p.1 ≤ i + p.1 + p.2; omega
theorem lineP_get : ∀ (R : List (Nat × Nat)) (j : Nat) (p q : Nat × Nat), lineP R → R[j]? = some p → R[j + 1]? = some q → p.1 ≤ p.2 ∧ p.2 ≤ q.1 ∧ q.1 ≤ q.2 := by
  intro R
  induction R with
  | nil => intro j p q _ h; simp at h
  | cons x t ih =>
    intro j p q hl hp hq
    cases t with
    | nil => simp at hq
    | cons y r =>
      obtain ⟨h1, h2, h3⟩ := hl
      cases j with
      | zero =>
        simp at hp hq
        subst hp; subst hq
        refine ⟨h1, h2, ?_⟩
        cases r with
        | nil => exact h3
        | cons z r => exact h3.1
      | succ j => exact ih j p q h3 (by simpa using hp) (by simpa using hq)
theorem gapsP_get : ∀ (R : List (Nat × Nat)) (j : Nat) (p q : Nat × Nat), R[j]? = some p → R[j + 1]? = some q → (gapsP R)[j]? = some (q.1 - p.2) := by
  intro R
  induction R with
  | nil => intro j p q h; simp at h
  | cons x t ih =>
    intro j p q hp hq
    cases t with
    | nil => simp at hq
    | cons y r =>
      cases j with
      | zero => simp at hp hq; subst hp; subst hq; rfl
      | succ j => show (gapsP (y :: r))[j]? = _; exact ih j p q (by simpa using hp) (by simpa using hq)
theorem gapsP_length : ∀ R : List (Nat × Nat), (gapsP R).length = R.length - 1 := by
  intro R
  induction R with
  | nil => rfl
  | cons x t ih =>
    cases t with
    | nil => rfl
    | cons y r => show (gapsP (y :: r)).length + 1 = _; rw [ih]; simp
/-- what the program's runs say of the model's -/
theorem rsP_rr (bs : List Bool) : (rsP (pos bs)).map (fun p => p.2 - p.1) = (rr bs).1 ∧ gapsP (rsP (pos bs)) = (rr bs).2 ∧ lineP (rsP (pos bs)) := by
  obtain ⟨g, ps, hg, rfl⟩ := blocks bs
  rw [rsP_pos, runsF_app, runsF_gap, runsF_wb ps _ [] hg (fun p h => by simp at h), List.nil_append, rr_blocks hg]
  exact ⟨posR_sizes _ _, posR_gaps _ _, posR_line _ _⟩
/-- two next runs are as they are to be -/
def okP (R : List (Nat × Nat)) (j : Nat) : Prop := ∀ p q, R[j]? = some p → R[j + 1]? = some q → p.2 - p.1 ≤ q.2 - q.1 ∧ p.2 - p.1 ≤ q.1 - p.2
theorem apB_pairs (R : List (Nat × Nat)) (h : ∀ j, j + 1 < R.length → okP R j) : apB (R.map fun p => p.2 - p.1) (gapsP R) = true := by
  unfold apB
  rw [List.all_eq_true]
  intro j hj
  rw [List.mem_range, gapsP_length] at hj
  obtain ⟨p, hp⟩ : ∃ p, R[j]? = some p := ⟨_, List.getElem?_eq_getElem (by omega)⟩
  obtain ⟨q, hq⟩ : ∃ q, R[j + 1]? = some q := ⟨_, List.getElem?_eq_getElem (by omega)⟩
  obtain ⟨h1, h2⟩ := h j (by omega) p q hp hq
  have hgp := gapsP_get R j p q hp hq
  simp only [List.getD_eq_getElem?_getD, List.getElem?_map, hp, hq, hgp, Option.map_some, Option.getD_some, Bool.and_eq_true, decide_eq_true_eq]
  exact ⟨h1, h2⟩
theorem apB_unpaired (R : List (Nat × Nat)) (j : Nat) (p q : Nat × Nat) (hp : R[j]? = some p) (hq : R[j + 1]? = some q) (h : ¬ (p.2 - p.1 ≤ q.2 - q.1 ∧ p.2 - p.1 ≤ q.1 - p.2)) : apB (R.map fun p => p.2 - p.1) (gapsP R) = false := by
  unfold apB
  rw [List.all_eq_false]
  have hl := (List.getElem?_eq_some_iff.1 hq).1
  refine ⟨j, by rw [List.mem_range, gapsP_length]; omega, ?_⟩
  have hgp := gapsP_get R j p q hp hq
  simp only [List.getD_eq_getElem?_getD, List.getElem?_map, hp, hq, hgp, Option.map_some, Option.getD_some, Bool.and_eq_true, decide_eq_true_eq]
  exact h
/-- pairs as cells -/
def enc2 (R : List (Nat × Nat)) : List Value := R.flatMap fun p => [.int .i64 (p.1 : Int), .int .i64 (p.2 : Int)]
theorem enc2_snoc (R : List (Nat × Nat)) (a b : Nat) : enc2 (R ++ [(a, b)]) = enc2 R ++ [.int .i64 (a : Int), .int .i64 (b : Int)] := by unfold enc2; rw [List.flatMap_append]; rfl
theorem enc2_length (R : List (Nat × Nat)) : (enc2 R).length = R.length * 2 := by
  induction R with
  | nil => rfl
  | cons p R ih => show (enc2 R).length + 1 + 1 = _; rw [ih, List.length_cons]; omega
theorem enc2_get : ∀ (R : List (Nat × Nat)) (j : Nat) (p : Nat × Nat), R[j]? = some p → (enc2 R)[j * 2]? = some (.int .i64 (p.1 : Int)) ∧ (enc2 R)[j * 2 + 1]? = some (.int .i64 (p.2 : Int)) := by
  intro R
  induction R with
  | nil => intro j p h; simp at h
  | cons x R ih =>
    intro j p h
    have e : enc2 (x :: R) = .int .i64 (x.1 : Int) :: .int .i64 (x.2 : Int) :: enc2 R := rfl
    cases j with
    | zero => simp at h; subst h; exact ⟨rfl, rfl⟩
    | succ j =>
      obtain ⟨h1, h2⟩ := ih j p (by simpa using h)
      rw [e, show (j + 1) * 2 = j * 2 + 1 + 1 by omega]
      exact ⟨by simpa using h1, by simpa using h2⟩
theorem enc2_set (R : List (Nat × Nat)) (a b b' : Nat) : (enc2 (R ++ [(a, b)])).set (R.length * 2 + 1) (.int .i64 (b' : Int)) = enc2 (R ++ [(a, b')]) := by
  rw [enc2_snoc, enc2_snoc, List.set_append_right _ _ (by rw [enc2_length]; omega), enc2_length, show R.length * 2 + 1 - R.length * 2 = 1 by omega]; rfl
theorem stepR_bd (R : List (Nat × Nat)) (i : Nat) : (stepR R i).length ≤ R.length + 1 := by
  unfold stepR
  cases R.getLast? with
  | none => simp
  | some p =>
    show (if p.2 = i then _ else _ : List (Nat × Nat)).length ≤ _
    by_cases h : p.2 = i
    · rw [if_pos h]; simp
    · rw [if_neg h]; simp
theorem rsP_bd (ps : List Nat) : (rsP ps).length ≤ ps.length := by
  have h : ∀ (ps : List Nat) (R : List (Nat × Nat)), (ps.foldl stepR R).length ≤ R.length + ps.length := by
    intro ps
    induction ps with
    | nil => intro R; simp
    | cons i ps ih => intro R; rw [List.foldl_cons]; have := ih (stepR R i); have := stepR_bd R i; rw [List.length_cons]; omega
  have := h ps []
  unfold rsP; simpa using this
end Go.Proofs.Ytlfiipkbkhpmnaa
