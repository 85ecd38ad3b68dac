/- TEXTS Elim5. -/
import Derived.Test.Ytlgceccbjkkeiabwax16
import Derived.Test.Ytlgceccbjkkeiabwax27
/- ROWS THAT ARE APART: their sizes are their runs; a step with great room keeps the runs. Pure: nothing of the program is named here. -/
namespace Go.Proofs.Ytlgceccbjkkeiab

/-- more empty boxes behind the last run -/
def bump : List (Nat × Nat) → Nat → List (Nat × Nat)
  | [], _ => []
  | [p], z => [(p.1, p.2 + z)]
  | p :: q :: ps, z => p :: bump (q :: ps) z
theorem wb_bump (z : Nat) : ∀ ps : List (Nat × Nat), ps ≠ [] → wb (bump ps z) = wb ps ++ List.replicate z false := by
  intro ps
  induction ps with
  | nil => intro h; exact absurd rfl h
  | cons p ps ih =>
    intro _
    cases ps with
    | nil =>
      show List.replicate p.1 true ++ (List.replicate (p.2 + z) false ++ []) = (List.replicate p.1 true ++ (List.replicate p.2 false ++ [])) ++ List.replicate z false
      rw [List.append_nil, List.append_nil, List.append_assoc, List.replicate_append_replicate]
    | cons q qs =>
      show List.replicate p.1 true ++ (List.replicate p.2 false ++ wb (bump (q :: qs) z)) = (List.replicate p.1 true ++ (List.replicate p.2 false ++ wb (q :: qs))) ++ List.replicate z false
      rw [ih (by simp)]; simp
theorem bump_fst (z : Nat) : ∀ ps : List (Nat × Nat), (bump ps z).map (·.1) = ps.map (·.1) := by
  intro ps
  induction ps with
  | nil => rfl
  | cons p ps ih =>
    cases ps with
    | nil => rfl
    | cons q qs =>
      show p.1 :: (bump (q :: qs) z).map (·.1) = _
      rw [ih]; rfl
theorem bump_good (z : Nat) : ∀ ps : List (Nat × Nat), good ps → good (bump ps z) := by
  intro ps
  induction ps with
  | nil => intro h; exact h
  | cons p ps ih =>
    intro ⟨h1, h2, h3⟩
    cases ps with
    | nil => exact ⟨h1, fun h => absurd rfl h, trivial⟩
    | cons q qs => exact ⟨h1, fun _ => h2 (by simp), ih h3⟩
theorem bump_le (z : Nat) : ∀ ps : List (Nat × Nat), apart ps → (∀ p ∈ ps, p.1 ≤ z) → (∀ p ∈ bump ps z, p.1 ≤ p.2) ∧ apart (bump ps z) := by
  intro ps
  induction ps with
  | nil => intro _ _; exact ⟨fun p hp => (by cases hp), trivial⟩
  | cons p ps ih =>
    intro ha hz
    cases ps with
    | nil =>
      refine ⟨fun q hq => ?_, trivial⟩
      have e : q = (p.1, p.2 + z) := by simpa [bump] using hq
      subst e
      have := hz p (List.mem_cons_self ..)
      show p.1 ≤ p.2 + z; omega
    | cons q qs =>
      obtain ⟨a1, a2, a3⟩ := ha
      obtain ⟨i1, i2⟩ := ih a3 fun x hx => hz x (List.mem_cons_of_mem _ hx)
      have e : bump (p :: q :: qs) z = p :: bump (q :: qs) z := rfl
      rw [e]
      refine ⟨fun x hx => ?_, ?_⟩
      · rcases List.mem_cons.1 hx with rfl | hx
        · exact a2
        · exact i1 x hx
      · cases hb : bump (q :: qs) z with
        | nil => trivial
        | cons y ys =>
          rw [hb] at i2
          refine ⟨?_, a2, i2⟩
          have := congrArg (List.map (·.1)) hb
          rw [bump_fst] at this
          simp at this
          omega
theorem Falls.snoc {A : List Nat} {x : Nat} (h : Falls A) (hx : ∀ y ∈ A, x ≤ y) : Falls (A ++ [x]) := by
  intro k
  rcases Nat.lt_or_ge (k + 1) A.length with h1 | h1
  · rw [List.getElem?_append_left h1, List.getElem?_append_left (by omega)]; exact h k
  · rcases Nat.lt_or_ge k A.length with h2 | h2
    · have e : k + 1 = A.length := by omega
      rw [List.getElem?_append_right (by omega), List.getElem?_append_left h2, e, Nat.sub_self, List.getElem?_eq_getElem h2]
      exact hx _ (List.getElem_mem h2)
    · rw [List.getElem?_append_right (by omega)]
      have : ([x] : List Nat)[k + 1 - A.length]? = none := by rw [List.getElem?_eq_none_iff]; simp; omega
      rw [this]; exact Nat.zero_le _
theorem apart_first : ∀ (ps : List (Nat × Nat)) (p : Nat × Nat), apart (p :: ps) → ∀ q ∈ ps, p.1 ≤ q.1 := by
  intro ps
  induction ps with
  | nil => intro p _ q hq; cases hq
  | cons r rs ih =>
    intro p ⟨h1, _, h3⟩ q hq
    rcases List.mem_cons.1 hq with rfl | hq
    · exact h1
    · exact Nat.le_trans h1 (ih r h3 q hq)
theorem apart_tail {p : Nat × Nat} {ps : List (Nat × Nat)} (h : apart (p :: ps)) : apart ps := by
  cases ps with
  | nil => trivial
  | cons q qs => exact h.2.2
theorem apart_falls : ∀ ps : List (Nat × Nat), apart ps → Falls (ps.map (·.1)).reverse := by
  intro ps
  induction ps with
  | nil => intro _ k; exact Nat.le_refl _
  | cons p ps ih =>
    intro h
    rw [List.map_cons, List.reverse_cons]
    refine (ih (apart_tail h)).snoc fun y hy => ?_
    obtain ⟨q, hq, rfl⟩ := List.mem_map.1 (List.mem_reverse.1 hy)
    exact apart_first ps p h q hq
theorem good_pos : ∀ ps : List (Nat × Nat), good ps → ∀ x ∈ ps.map (·.1), 1 ≤ x := by
  intro ps
  induction ps with
  | nil => intro _ x hx; cases hx
  | cons p ps ih =>
    intro ⟨h1, _, h3⟩ x hx
    rcases List.mem_cons.1 hx with rfl | hx
    · exact h1
    · exact ih h3 x hx
/-- a row that is apart, padded, as blocks -/
theorem apart_blocks {l : List Bool} (h : apB (rr l).1 (rr l).2 = true) (hb : nballs l ≠ 0) : ∃ g ps, good ps ∧ apart ps ∧ ps ≠ [] ∧ (∀ p ∈ ps, p.1 ≤ p.2) ∧ pad l = List.replicate g false ++ wb ps ∧ (rr l).1 = ps.map (·.1) := by
  obtain ⟨g, ps, hg, rfl⟩ := blocks l
  rw [rr_blocks hg] at h ⊢
  rw [apB_iff] at h
  have hne : ps ≠ [] := by
    intro e; subst e
    apply hb
    rw [nballs_gap]; rfl
  have hz : ∀ p ∈ ps, p.1 ≤ nballs (List.replicate g false ++ wb ps) := by
    intro p hp
    rw [nballs_gap, nballs_wb]
    exact mem_le_sum _ _ (List.mem_map_of_mem (f := fun q : Nat × Nat => q.1) hp)
  obtain ⟨h1, h2⟩ := bump_le (nballs (List.replicate g false ++ wb ps)) ps h hz
  refine ⟨g, bump ps (nballs (List.replicate g false ++ wb ps)), bump_good _ _ hg, h2, ?_, h1, ?_, (bump_fst _ _).symm⟩
  · intro e
    have := congrArg (List.map (·.1)) e
    rw [bump_fst] at this
    exact hne (by simpa using this)
  · unfold pad
    rw [wb_bump _ ps hne, List.append_assoc]
theorem rr_none {l : List Bool} (hb : nballs l = 0) : (rr l).1 = [] := by
  obtain ⟨h1, h2, h3⟩ := runs_energy l
  cases hr : (rr l).1 with
  | nil => rfl
  | cons x t =>
    have a := h3 x (by rw [hr]; exact List.mem_cons_self ..)
    rw [hr, List.sum_cons, hb] at h2
    omega
/-- P24: the sizes of a row that is apart are its runs -/
theorem apart_shape {l : List Bool} (h : apB (rr l).1 (rr l).2 = true) : shB3 l = (rr l).1.reverse := by
  by_cases hb : nballs l = 0
  · rw [rr_none hb]
    unfold shB3 rdB
    rw [hb]; rfl
  · obtain ⟨g, ps, hg, ha, _, hle, hp, hr⟩ := apart_blocks h hb
    rw [hr]
    unfold shB3
    apply shp_conj (apart_falls ps ha)
    · intro x hx
      exact good_pos ps hg x (List.mem_reverse.1 hx)
    · intro j
      have hn : nballs l = (ps.map (·.1)).sum := by rw [← nballs_pad, hp, nballs_gap, nballs_wb]
      unfold rdB
      rw [List.getD_eq_getElem?_getD, hp, rds_wb j g ps _ hle (by omega), List.countP_reverse, List.countP_map]
      rfl

/-- what a carrier leaves of a list -/
def so (K : Nat) : Nat → List Bool → List Bool
  | _, [] => []
  | u, b :: t => ot K b u :: so K (nx K b u) t
theorem so_app (K : Nat) : ∀ (a b : List Bool) (u : Nat), so K u (a ++ b) = so K u a ++ so K (fl K u a) b := by
  intro a
  induction a with
  | nil => intro b u; rfl
  | cons c a ih => intro b u; show ot K c u :: so K (nx K c u) (a ++ b) = _; rw [ih]; rfl
theorem so_length (K : Nat) : ∀ (l : List Bool) (u : Nat), (so K u l).length = l.length := by
  intro l
  induction l with
  | nil => intro u; rfl
  | cons b t ih => intro u; show (so K _ t).length + 1 = _; rw [ih]; rfl
theorem so_at (K : Nat) : ∀ (r p : List Bool) (i : Nat), i < r.length → (so K (ld K (bx (p ++ r)) p.length) r)[i]? = some (tr K (bx (p ++ r)) (p.length + i)) := by
  intro r
  induction r with
  | nil => intro p i hi; simp at hi
  | cons b r ih =>
    intro p i hi
    have hb : bx (p ++ b :: r) p.length = b := by unfold bx; rw [List.getElem?_append_right (Nat.le_refl _)]; simp
    cases i with
    | zero =>
      show some (ot K b _) = _
      unfold tr
      rw [Nat.add_zero, hb]
    | succ i =>
      have h := ih (p ++ [b]) i (by simpa using hi)
      have e : p ++ [b] ++ r = p ++ b :: r := by simp
      rw [e, show (p ++ [b]).length = p.length + 1 by simp, ld_succ, hb] at h
      show (so K (nx K b _) r)[i]? = _
      rw [h, show p.length + 1 + i = p.length + (i + 1) by omega]
theorem bx_so {K : Nat} {l : List Bool} (h : fl K 0 l = 0) (i : Nat) : bx (so K 0 l) i = tr K (bx l) i := by
  by_cases hi : i < l.length
  · have := so_at K l [] i hi
    simp only [List.nil_append, List.length_nil, Nat.zero_add] at this
    exact bx_some _ _ _ this
  · rw [bx_out _ _ (by rw [so_length]; omega)]
    rw [(lk_row K l).2] at h
    have h1 := ld_tail (K := K) (f := bx l) (n := l.length) (fun j hj => bx_out l j hj) (i - l.length)
    rw [show l.length + (i - l.length) = i by omega, h] at h1
    unfold tr
    rw [h1, bx_out l i (by omega)]; simp [ot]
theorem so_gap (K g : Nat) : so K 0 (List.replicate g false) = List.replicate g false ∧ fl K 0 (List.replicate g false) = 0 := by
  induction g with
  | zero => exact ⟨rfl, rfl⟩
  | succ g ih =>
    rw [List.replicate_succ]
    refine ⟨?_, by rw [fl_none]; exact ih.2⟩
    show ot K false 0 :: so K (nx K false 0) (List.replicate g false) = _
    rw [show nx K false 0 = 0 from rfl, ih.1]; rfl
theorem so_run (K : Nat) : ∀ (r u : Nat), u + r ≤ K → so K u (List.replicate r true) = List.replicate r false ∧ fl K u (List.replicate r true) = u + r := by
  intro r
  induction r with
  | zero => intro u _; exact ⟨rfl, rfl⟩
  | succ r ih =>
    intro u hu
    obtain ⟨i1, i2⟩ := ih (u + 1) (by omega)
    rw [List.replicate_succ, List.replicate_succ]
    have hn : nx K true u = u + 1 := by unfold nx; rw [if_pos rfl, if_pos (by omega)]
    refine ⟨?_, by rw [fl_take K u _ (by omega), i2]; omega⟩
    show ot K true u :: so K (nx K true u) _ = _
    rw [hn, i1]
    unfold ot
    simp; omega
theorem so_put (K : Nat) : ∀ (h u : Nat), u ≤ h → so K u (List.replicate h false) = List.replicate u true ++ List.replicate (h - u) false ∧ fl K u (List.replicate h false) = 0 := by
  intro h
  induction h with
  | zero => intro u hu; obtain rfl : u = 0 := by omega
            exact ⟨rfl, rfl⟩
  | succ h ih =>
    intro u hu
    cases u with
    | zero => exact so_gap K (h + 1)
    | succ u =>
      obtain ⟨i1, i2⟩ := ih u (by omega)
      rw [List.replicate_succ]
      refine ⟨?_, by rw [fl_none]; exact i2⟩
      show ot K false (u + 1) :: so K (nx K false (u + 1)) _ = _
      rw [show nx K false (u + 1) = u from rfl, i1, show h + 1 - (u + 1) = h - u by omega, List.replicate_succ (n := u)]
      rfl
/-- the blocks behind a step -/
def nb : List (Nat × Nat) → List (Nat × Nat)
  | [] => []
  | [p] => [(p.1, p.2 - p.1)]
  | p :: q :: ps => (p.1, p.2 - p.1 + q.1) :: nb (q :: ps)
theorem so_wb (K : Nat) : ∀ (ps : List (Nat × Nat)) (p : Nat × Nat), (∀ q ∈ p :: ps, q.1 ≤ q.2 ∧ q.1 ≤ K) → so K 0 (wb (p :: ps)) = List.replicate p.1 false ++ wb (nb (p :: ps)) := by
  intro ps
  induction ps with
  | nil =>
    intro p h
    obtain ⟨h1, h2⟩ := h p (List.mem_cons_self ..)
    have e : wb [p] = List.replicate p.1 true ++ List.replicate p.2 false := by show _ ++ (_ ++ []) = _; rw [List.append_nil]
    obtain ⟨a1, a2⟩ := so_run K p.1 0 (by omega)
    obtain ⟨b1, b2⟩ := so_put K p.2 p.1 h1
    rw [e, so_app, a1, a2, Nat.zero_add, b1]
    show _ = _ ++ (List.replicate p.1 true ++ (List.replicate (p.2 - p.1) false ++ []))
    rw [List.append_nil]
  | cons q qs ih =>
    intro p h
    obtain ⟨h1, h2⟩ := h p (List.mem_cons_self ..)
    have i := ih q fun x hx => h x (List.mem_cons_of_mem _ hx)
    have e : wb (p :: q :: qs) = List.replicate p.1 true ++ (List.replicate p.2 false ++ wb (q :: qs)) := rfl
    obtain ⟨a1, a2⟩ := so_run K p.1 0 (by omega)
    obtain ⟨b1, b2⟩ := so_put K p.2 p.1 h1
    rw [e, so_app, so_app, a1, a2, Nat.zero_add, b1, b2, i]
    show _ = _ ++ (List.replicate p.1 true ++ (List.replicate (p.2 - p.1 + q.1) false ++ wb (nb (q :: qs))))
    rw [← List.replicate_append_replicate]; simp only [List.append_assoc]
theorem nb_fst : ∀ ps : List (Nat × Nat), (nb ps).map (·.1) = ps.map (·.1) := by
  intro ps
  induction ps with
  | nil => rfl
  | cons p ps ih =>
    cases ps with
    | nil => rfl
    | cons q qs => show p.1 :: (nb (q :: qs)).map (·.1) = _; rw [ih]; rfl
theorem nb_good : ∀ ps : List (Nat × Nat), good ps → apart ps → good (nb ps) ∧ apart (nb ps) := by
  intro ps
  induction ps with
  | nil => intro _ _; exact ⟨trivial, trivial⟩
  | cons p ps ih =>
    intro ⟨h1, h2, h3⟩ ha
    cases ps with
    | nil => exact ⟨⟨h1, fun h => absurd rfl h, trivial⟩, trivial⟩
    | cons q qs =>
      obtain ⟨a1, a2, a3⟩ := ha
      obtain ⟨i1, i2⟩ := ih h3 a3
      have e : nb (p :: q :: qs) = (p.1, p.2 - p.1 + q.1) :: nb (q :: qs) := rfl
      rw [e]
      have hq := h3.1
      refine ⟨⟨h1, fun _ => by show 1 ≤ p.2 - p.1 + q.1; omega, i1⟩, ?_⟩
      cases hb : nb (q :: qs) with
      | nil => trivial
      | cons y ys =>
        rw [hb] at i2
        have := congrArg (List.map (·.1)) hb
        rw [nb_fst] at this
        simp at this
        exact ⟨by show p.1 ≤ y.1; omega, by show p.1 ≤ p.2 - p.1 + q.1; omega, i2⟩
/-- P24: a step with room for all keeps the runs of a row that is apart, and it stays so -/
theorem apart_step {l m : List Bool} {K : Nat} (h : apB (rr l).1 (rr l).2 = true) (hK : nballs l ≤ K) (hm : bx m = tr K (bx l)) : (rr m).1 = (rr l).1 ∧ apB (rr m).1 (rr m).2 = true := by
  by_cases hb : nballs l = 0
  · have hz : ∀ i, bx l i = false := by
      intro i
      cases hi : bx l i with
      | false => rfl
      | true =>
        exfalso
        have h1 := nballs_cn l (l.length + i + 1) (by omega)
        have h2 := (cn_add (bx l) (i + 1) l.length).2
        have h3 : cn (bx l) (i + 1) = cn (bx l) i + 1 := by show cn (bx l) i + _ = _; rw [hi]; rfl
        rw [show i + 1 + l.length = l.length + i + 1 by omega] at h2
        omega
    have e : bx m = bx l := by
      rw [hm]
      funext i
      have : ld K (bx l) i = 0 := by
        have h1 := ld_le_cn K (bx l) i
        have h2 := nballs_cn l (l.length + i) (by omega)
        have h3 := (cn_add (bx l) i l.length).2
        rw [show i + l.length = l.length + i by omega] at h3
        omega
      unfold tr; rw [this, hz i]; simp [ot]
    rw [rr_ext e]; exact ⟨rfl, h⟩
  · obtain ⟨g, ps, hg, ha, hne, hle, hp, hr⟩ := apart_blocks h hb
    have hst := pad_still l K
    have hn : nballs l = (ps.map (·.1)).sum := by rw [← nballs_pad, hp, nballs_gap, nballs_wb]
    obtain ⟨p, qs, rfl⟩ : ∃ p qs, ps = p :: qs := by
      cases ps with
      | nil => exact absurd rfl hne
      | cons p qs => exact ⟨p, qs, rfl⟩
    have hso : so K 0 (pad l) = List.replicate (g + p.1) false ++ wb (nb (p :: qs)) := by
      rw [hp, so_app, (so_gap K g).1, (so_gap K g).2, so_wb K qs p, ← List.append_assoc, List.replicate_append_replicate]
      intro q hq
      refine ⟨hle q hq, ?_⟩
      have := mem_le_sum _ _ (List.mem_map_of_mem (f := fun q : Nat × Nat => q.1) hq)
      omega
    obtain ⟨n1, n2⟩ := nb_good (p :: qs) hg ha
    have e : bx m = bx (List.replicate (g + p.1) false ++ wb (nb (p :: qs))) := by
      rw [hm, ← hso, ← bx_pad l]
      funext i
      exact (bx_so hst i).symm
    rw [rr_ext e, rr_blocks n1, hr, apB_iff]
    exact ⟨nb_fst _, n2⟩
end Go.Proofs.Ytlgceccbjkkeiab

/- ROWS OF SIZES: the least ones first; they are apart. Pure: nothing of the program is named here. -/
namespace Go.Proofs.Ytlgceccbjkkeiab

/-- where a number is put into the first k numbers of a list: behind the last one of them that is not greater -/
def insK (x : Int) (l : List Int) : Nat → Nat
  | 0 => 0
  | k + 1 => if x < l.getD k 0 then insK x l k else k + 1
def ins (x : Int) (l : List Int) : List Int := l.take (insK x l l.length) ++ [x] ++ l.drop (insK x l l.length)
/-- the numbers of a list, put in one by one -/
def isr (l : List Int) : List Int := l.foldl (fun a x => ins x a) []
/-- numbers that do not fall -/
def Rise (l : List Int) : Prop := l.Pairwise (· ≤ ·)
theorem insK_le (x : Int) (l : List Int) : ∀ k, insK x l k ≤ k := by
  intro k
  induction k with
  | zero => exact Nat.le_refl _
  | succ k ih => unfold insK; split <;> omega
theorem insK_behind (x : Int) (l : List Int) : ∀ k, ∀ j, insK x l k ≤ j → j < k → x < l.getD j 0 := by
  intro k
  induction k with
  | zero => intro j _ h; omega
  | succ k ih =>
    intro j h1 h2
    unfold insK at h1
    split at h1
    · by_cases hj : j = k
      · subst hj; assumption
      · exact ih j h1 (by omega)
    · omega
theorem insK_ahead (x : Int) (l : List Int) : ∀ k, 0 < insK x l k → l.getD (insK x l k - 1) 0 ≤ x := by
  intro k
  induction k with
  | zero => intro h; unfold insK at h; omega
  | succ k ih =>
    intro h
    unfold insK at h ⊢
    split
    · rename_i hc; rw [if_pos hc] at h; exact ih h
    · rename_i hc; show l.getD (k + 1 - 1) 0 ≤ x; rw [Nat.add_sub_cancel]; omega
theorem ins_length (x : Int) (l : List Int) : (ins x l).length = l.length + 1 := by
  have := insK_le x l l.length
  unfold ins
  simp only [List.length_append, List.length_take, List.length_drop, List.length_cons, List.length_nil]
  omega
theorem ins_sum (x : Int) (l : List Int) : (ins x l).sum = l.sum + x := by
  unfold ins
  have := congrArg List.sum (List.take_append_drop (insK x l l.length) l)
  rw [List.sum_append] at this
  rw [List.sum_append, List.sum_append]
  simp only [List.sum_cons, List.sum_nil]
  omega
theorem ins_mem (x y : Int) (l : List Int) : y ∈ ins x l ↔ y = x ∨ y ∈ l := by
  have : y ∈ l ↔ y ∈ l.take (insK x l l.length) ∨ y ∈ l.drop (insK x l l.length) := by rw [← List.mem_append, List.take_append_drop]
  rw [this]
  unfold ins
  simp only [List.mem_append, List.mem_cons, List.not_mem_nil, or_false]
  constructor
  · rintro ((h | h) | h)
    · exact .inr (.inl h)
    · exact .inl h
    · exact .inr (.inr h)
  · rintro (h | h | h)
    · exact .inl (.inr h)
    · exact .inl (.inl h)
    · exact .inr h
theorem ins_rise {x : Int} {l : List Int} (h : Rise l) : Rise (ins x l) := by
  unfold Rise at *
  have hk := insK_le x l l.length
  have hp := h
  rw [← List.take_append_drop (insK x l l.length) l, List.pairwise_append] at hp
  obtain ⟨h1, h2, h3⟩ := hp
  have hfar : ∀ y ∈ l.drop (insK x l l.length), x ≤ y := by
    intro y hy
    obtain ⟨i, hi, rfl⟩ := List.getElem_of_mem hy
    rw [List.length_drop] at hi
    have := insK_behind x l l.length (insK x l l.length + i) (by omega) (by omega)
    rw [List.getD_eq_getElem?_getD, List.getElem?_eq_getElem (by omega)] at this
    rw [List.getElem_drop]
    simp only [Option.getD_some] at this
    omega
  have hnear : ∀ y ∈ l.take (insK x l l.length), y ≤ x := by
    intro y hy
    obtain ⟨i, hi, rfl⟩ := List.getElem_of_mem hy
    rw [List.length_take] at hi
    rw [List.getElem_take]
    have ha := insK_ahead x l l.length (by omega)
    rw [List.getD_eq_getElem?_getD, List.getElem?_eq_getElem (by omega)] at ha
    simp only [Option.getD_some] at ha
    by_cases e : i = insK x l l.length - 1
    · subst e; exact ha
    · have := (List.pairwise_iff_getElem.1 h) i (insK x l l.length - 1) (by omega) (by omega) (by omega)
      omega
  unfold ins
  rw [List.append_assoc, List.pairwise_append]
  refine ⟨h1, ?_, ?_⟩
  · rw [List.singleton_append, List.pairwise_cons]; exact ⟨hfar, h2⟩
  · intro a ha b hb
    rw [List.singleton_append, List.mem_cons] at hb
    rcases hb with rfl | hb
    · exact hnear a ha
    · exact h3 a ha b hb
theorem isr_snoc (l : List Int) (x : Int) : isr (l ++ [x]) = ins x (isr l) := by unfold isr; rw [List.foldl_append]; rfl
theorem foldl_ins : ∀ (l a : List Int), Rise a → Rise (l.foldl (fun a x => ins x a) a) ∧ (l.foldl (fun a x => ins x a) a).length = a.length + l.length ∧ (l.foldl (fun a x => ins x a) a).sum = a.sum + l.sum ∧ ∀ y, y ∈ l.foldl (fun a x => ins x a) a ↔ y ∈ a ∨ y ∈ l := by
  intro l
  induction l with
  | nil => intro a h; exact ⟨h, by simp, by simp, by simp⟩
  | cons x t ih =>
    intro a h
    obtain ⟨i1, i2, i3, i4⟩ := ih (ins x a) (ins_rise h)
    rw [List.foldl_cons]
    refine ⟨i1, ?_, ?_, ?_⟩
    · rw [i2, ins_length, List.length_cons]; omega
    · rw [i3, ins_sum, List.sum_cons]; omega
    · intro y; rw [i4, ins_mem, List.mem_cons]; constructor
      · rintro ((h | h) | h)
        · exact .inr (.inl h)
        · exact .inl h
        · exact .inr (.inr h)
      · rintro (h | h | h)
        · exact .inl (.inr h)
        · exact .inl (.inl h)
        · exact .inr h
theorem isr_facts (l : List Int) : Rise (isr l) ∧ (isr l).length = l.length ∧ (isr l).sum = l.sum ∧ ∀ y, y ∈ isr l ↔ y ∈ l := by
  obtain ⟨h1, h2, h3, h4⟩ := foldl_ins l [] List.Pairwise.nil
  exact ⟨h1, by simpa [isr] using h2, by simpa [isr] using h3, by intro y; have := h4 y; simpa [isr] using this⟩

/-- the runs of sizes, each with as many empty boxes behind it -/
def szP (l : List Int) : List (Nat × Nat) := l.map fun x => (x.toNat, x.toNat)
def szB (l : List Int) : List Bool := wb (szP l)
theorem wb_app : ∀ a b : List (Nat × Nat), wb (a ++ b) = wb a ++ wb b := by
  intro a b
  induction a with
  | nil => rfl
  | cons p t ih => rw [List.cons_append]; show List.replicate p.1 true ++ (List.replicate p.2 false ++ wb (t ++ b)) = List.replicate p.1 true ++ (List.replicate p.2 false ++ wb t) ++ wb b; rw [ih]; simp
theorem szB_snoc (l : List Int) (x : Int) : szB (l ++ [x]) = szB l ++ (List.replicate x.toNat true ++ List.replicate x.toNat false) := by
  unfold szB szP
  rw [List.map_append, wb_app]
  show _ ++ (List.replicate x.toNat true ++ (List.replicate x.toNat false ++ [])) = _
  rw [List.append_nil]
theorem szB_length : ∀ l : List Int, (∀ x ∈ l, x ≤ 20) → (szB l).length ≤ 40 * l.length := by
  intro l
  induction l with
  | nil => intro _; exact Nat.le_refl _
  | cons x t ih =>
    intro h
    have := ih (fun y hy => h y (List.mem_cons_of_mem _ hy))
    have hx := h x (List.mem_cons_self ..)
    show (List.replicate x.toNat true ++ (List.replicate x.toNat false ++ szB t)).length ≤ _
    rw [List.length_append, List.length_append, List.length_replicate, List.length_replicate, List.length_cons]
    omega
theorem szP_good : ∀ l : List Int, (∀ x ∈ l, 1 ≤ x) → good (szP l) := by
  intro l
  induction l with
  | nil => intro _; trivial
  | cons x t ih =>
    intro h
    have hx := h x (List.mem_cons_self ..)
    exact ⟨(by omega : 1 ≤ x.toNat), fun _ => (by omega : 1 ≤ x.toNat), ih (fun y hy => h y (List.mem_cons_of_mem _ hy))⟩
theorem szP_apart : ∀ l : List Int, Rise l → apart (szP l) := by
  intro l
  induction l with
  | nil => intro _; trivial
  | cons x t ih =>
    intro h
    unfold Rise at *
    rw [List.pairwise_cons] at h
    cases t with
    | nil => trivial
    | cons y u =>
      have := h.1 y (List.mem_cons_self ..)
      exact ⟨(by omega : x.toNat ≤ y.toNat), Nat.le_refl _, ih h.2⟩
/-- runs of sizes that do not fall are apart, and are the sizes -/
theorem sz_rr {l : List Int} {m : List Bool} (h1 : ∀ x ∈ l, 1 ≤ x) (hr : Rise l) (hm : bx m = bx (szB l)) : (rr m).1 = l.map Int.toNat ∧ apB (rr m).1 (rr m).2 = true := by
  rw [rr_ext hm]
  have := rr_blocks (g := 0) (szP_good l h1)
  rw [show List.replicate 0 false ++ wb (szP l) = szB l from rfl] at this
  rw [this]
  exact ⟨by unfold szP; rw [List.map_map]; rfl, (apB_iff _).2 (szP_apart l hr)⟩

end Go.Proofs.Ytlgceccbjkkeiab

/- LISTS IN ORDER, MADE OF THEIR NUMBERS AND HOW OFTEN EACH STANDS. Pure: nothing of the program is named here. -/
namespace Go.Proofs.Ytlgceccbjkkeiab

/-- two lists in order with the same numbers are one -/
theorem order_one {r : Int → Int → Prop} (ha : ∀ a b, r a b → r b a → a = b) : ∀ A B : List Int, A.Pairwise r → B.Pairwise r → A.Perm B → A = B := by
  intro A
  induction A with
  | nil => intro B _ _ hp; exact (List.nil_perm.1 hp).symm
  | cons a A ih =>
    intro B hA hB hp
    cases B with
    | nil => exact absurd hp.symm (by simp)
    | cons b B =>
      have e : a = b := by
        by_cases e : a = b
        · exact e
        · have h1 : a ∈ b :: B := hp.mem_iff.1 (List.mem_cons_self ..)
          have h2 : b ∈ a :: A := hp.mem_iff.2 (List.mem_cons_self ..)
          rw [List.mem_cons] at h1 h2
          rcases h1 with h1 | h1
          · exact h1
          · rcases h2 with h2 | h2
            · exact h2.symm
            · exact ha a b ((List.pairwise_cons.1 hA).1 b h2) ((List.pairwise_cons.1 hB).1 a h1)
      subst e
      rw [ih B (List.pairwise_cons.1 hA).2 (List.pairwise_cons.1 hB).2 ((List.perm_cons a).1 hp)]

/-- each number of a list as often as it stands -/
def manyL (c : Int → Nat) (ks : List Int) : List Int := ks.flatMap fun x => List.replicate (c x) x
theorem manyL_snoc (c : Int → Nat) (ks : List Int) (x : Int) : manyL c (ks ++ [x]) = manyL c ks ++ List.replicate (c x) x := by
  unfold manyL; rw [List.flatMap_append]; simp
theorem manyL_count (c : Int → Nat) (y : Int) : ∀ ks : List Int, ks.Nodup → (manyL c ks).count y = if y ∈ ks then c y else 0 := by
  intro ks
  induction ks with
  | nil => intro _; rfl
  | cons k ks ih =>
    intro h
    rw [List.nodup_cons] at h
    have e : manyL c (k :: ks) = List.replicate (c k) k ++ manyL c ks := by unfold manyL; rw [List.flatMap_cons]
    rw [e, List.count_append, ih h.2, List.count_replicate]
    by_cases e1 : k = y
    · subst e1
      simp [h.1]
    · have e2 : ¬ y = k := fun h => e1 h.symm
      simp [e1, e2]
theorem manyL_order {r : Int → Int → Prop} (hr : ∀ a, r a a) (c : Int → Nat) : ∀ ks : List Int, ks.Pairwise r → (manyL c ks).Pairwise r := by
  intro ks
  induction ks with
  | nil => intro _; exact List.Pairwise.nil
  | cons k ks ih =>
    intro h
    rw [List.pairwise_cons] at h
    have e : manyL c (k :: ks) = List.replicate (c k) k ++ manyL c ks := by unfold manyL; rw [List.flatMap_cons]
    rw [e, List.pairwise_append]
    refine ⟨List.pairwise_replicate.2 (.inr (hr k)), ih h.2, ?_⟩
    intro a ha b hb
    rw [List.mem_replicate] at ha
    unfold manyL at hb
    rw [List.mem_flatMap] at hb
    obtain ⟨x, hx, hb⟩ := hb
    rw [List.mem_replicate] at hb
    rw [ha.2, hb.2]
    exact h.1 x hx
/-- a list in order is each of its numbers, in order, as often as it stands -/
theorem manyL_all {r : Int → Int → Prop} (hr : ∀ a, r a a) (ha : ∀ a b, r a b → r b a → a = b) {L ks : List Int} (hL : L.Pairwise r) (hk : ks.Pairwise r) (hn : ks.Nodup) (hm : ∀ x, x ∈ ks ↔ x ∈ L) :
    manyL (fun x => L.count x) ks = L := by
  refine order_one ha _ _ (manyL_order hr _ ks hk) hL ?_
  rw [List.perm_iff_count]
  intro y
  rw [manyL_count _ y ks hn]
  by_cases h : y ∈ ks
  · rw [if_pos h]
  · rw [if_neg h, List.count_eq_zero_of_not_mem (fun h2 => h ((hm y).2 h2))]
/-- all numbers of the keys lie ahead: how long it may become -/
theorem manyL_le (c : Int → Nat) : ∀ a b : List Int, (manyL c a).length ≤ (manyL c (a ++ b)).length := by
  intro a b
  unfold manyL
  rw [List.flatMap_append, List.length_append]; omega
theorem ins_perm (x : Int) (l : List Int) : (ins x l).Perm (x :: l) := by
  unfold ins
  have h : (l.take (insK x l l.length) ++ l.drop (insK x l l.length)) = l := List.take_append_drop _ _
  have p : (l.take (insK x l l.length) ++ [x] ++ l.drop (insK x l l.length)).Perm (x :: (l.take (insK x l l.length) ++ l.drop (insK x l l.length))) := by
    rw [List.append_assoc]
    exact List.perm_middle
  rwa [h] at p
theorem isr_perm (l : List Int) : (isr l).Perm l := by
  have h : ∀ (l a : List Int), (l.foldl (fun a x => ins x a) a).Perm (a ++ l) := by
    intro l
    induction l with
    | nil => intro a; simp
    | cons x t ih =>
      intro a
      rw [List.foldl_cons]
      refine (ih (ins x a)).trans ?_
      refine ((ins_perm x a).append_right t).trans ?_
      exact List.perm_middle.symm
  simpa [isr] using h l []
end Go.Proofs.Ytlgceccbjkkeiab
