/- NEIGHBOURS TAKEN OUT: a word without its pairs '10'; the rounds are the steps of the energies. Pure: nothing of the program is named here. -/
import Derived.Test.YtlfiipkbkhpmnaaStep1
namespace Go.Proofs.Ytlfiipkbkhpmnaa

/-- the boxes without all pairs of a ball and an empty box behind it -/
def el : List Bool → List Bool
  | [] => []
  | [b] => [b]
  | a :: b :: t => if a && !b then el t else a :: el (b :: t)
/-- the number of these pairs -/
def np : List Bool → Nat
  | [] => 0
  | [_] => 0
  | a :: b :: t => if a && !b then np t + 1 else np (b :: t)
/-- how often a carrier with a load takes a ball of a list; its load behind it -/
def lk (K : Nat) : Nat → List Bool → Nat
  | _, [] => 0
  | u, b :: t => (if b && decide (u < K) then 1 else 0) + lk K (nx K b u) t
def fl (K : Nat) : Nat → List Bool → Nat
  | u, [] => u
  | u, b :: t => fl K (nx K b u) t

theorem el_pair (t : List Bool) : el (true :: false :: t) = el t := rfl
theorem el_two (t : List Bool) : el (true :: true :: t) = true :: el (true :: t) := rfl
theorem el_none (b : Bool) (t : List Bool) : el (false :: b :: t) = false :: el (b :: t) := rfl
theorem np_pair (t : List Bool) : np (true :: false :: t) = np t + 1 := rfl
theorem np_two (t : List Bool) : np (true :: true :: t) = np (true :: t) := rfl
theorem np_none (b : Bool) (t : List Bool) : np (false :: b :: t) = np (b :: t) := rfl

/-- by cases on the first two boxes -/
theorem el_induct (P : List Bool → Prop) (h0 : P []) (h1 : ∀ b, P [b]) (hp : ∀ t, P t → P (true :: false :: t)) (ht : ∀ t, P (true :: t) → P (true :: true :: t)) (hf : ∀ b t, P (b :: t) → P (false :: b :: t)) : ∀ l, P l := by
  have all : ∀ n, ∀ l : List Bool, l.length ≤ n → P l := by
    intro n
    induction n with
    | zero =>
      intro l hl
      have : l = [] := List.eq_nil_of_length_eq_zero (by omega)
      subst this; exact h0
    | succ n ih =>
      intro l hl
      match l with
      | [] => exact h0
      | [b] => exact h1 b
      | true :: false :: t => exact hp t (ih t (by simp at hl; omega))
      | true :: true :: t => exact ht t (ih _ (by simp at hl ⊢; omega))
      | false :: b :: t => exact hf b t (ih _ (by simp at hl ⊢; omega))
  exact fun l => all l.length l (Nat.le_refl _)

theorem el_length (l : List Bool) : l.length = (el l).length + 2 * np l := by
  refine el_induct (fun l => l.length = (el l).length + 2 * np l) rfl (fun b => rfl) ?_ ?_ ?_ l
  · intro t h; rw [el_pair, np_pair]; simp only [List.length_cons]; omega
  · intro t h; rw [el_two, np_two]; simp only [List.length_cons] at h ⊢; omega
  · intro b t h; rw [el_none, np_none]; simp only [List.length_cons] at h ⊢; omega
theorem el_balls (l : List Bool) : nballs l = nballs (el l) + np l := by
  refine el_induct (fun l => nballs l = nballs (el l) + np l) rfl (fun b => rfl) ?_ ?_ ?_ l
  · intro t h; rw [el_pair, np_pair]; unfold nballs at h ⊢; simp only [List.count_cons_self]; rw [List.count_cons_of_ne (show false ≠ true by decide)]; omega
  · intro t h; rw [el_two, np_two]; unfold nballs at h ⊢; simp only [List.count_cons_self] at h ⊢; omega
  · intro b t h; rw [el_none, np_none]; unfold nballs at h ⊢; rw [List.count_cons_of_ne (show false ≠ true by decide), List.count_cons_of_ne (show false ≠ true by decide)]; exact h
theorem lk_none (K u : Nat) (t : List Bool) : lk K u (false :: t) = lk K (u - 1) t := by show (if false && _ then 1 else 0) + lk K (nx K false u) t = _; simp [nx]
theorem lk_take (K u : Nat) (t : List Bool) (h : u < K) : lk K u (true :: t) = 1 + lk K (u + 1) t := by show (if true && _ then 1 else 0) + lk K (nx K true u) t = _; simp [nx, h]
theorem lk_full (K u : Nat) (t : List Bool) (h : ¬ u < K) : lk K u (true :: t) = lk K u t := by show (if true && _ then 1 else 0) + lk K (nx K true u) t = _; simp [nx, h]
theorem fl_none (K u : Nat) (t : List Bool) : fl K u (false :: t) = fl K (u - 1) t := by show fl K (nx K false u) t = _; simp [nx]
theorem fl_take (K u : Nat) (t : List Bool) (h : u < K) : fl K u (true :: t) = fl K (u + 1) t := by show fl K (nx K true u) t = _; simp [nx, h]
theorem fl_full (K u : Nat) (t : List Bool) (h : ¬ u < K) : fl K u (true :: t) = fl K u t := by show fl K (nx K true u) t = _; simp [nx, h]
theorem fl_one_two (t : List Bool) : fl 1 0 (true :: true :: t) = fl 1 0 (true :: t) := by rw [fl_take 1 0 _ (by omega), fl_full 1 1 _ (by omega), fl_take 1 0 _ (by omega)]
theorem fl_one_pair (t : List Bool) : fl 1 0 (true :: false :: t) = fl 1 0 t := by rw [fl_take 1 0 _ (by omega), fl_none]

/-- a carrier with room for one more: what it takes beside the carrier with room 1 -/
theorem lk_el (K : Nat) (l : List Bool) : fl 1 0 l = 0 → ∀ u, u ≤ K → lk (K + 1) u l = lk 1 0 l + lk K u (el l) ∧ fl (K + 1) u l = fl K u (el l) := by
  refine el_induct (fun l => fl 1 0 l = 0 → ∀ u, u ≤ K → lk (K + 1) u l = lk 1 0 l + lk K u (el l) ∧ fl (K + 1) u l = fl K u (el l)) ?_ ?_ ?_ ?_ ?_ l
  · intro _ u _; exact ⟨rfl, rfl⟩
  · intro b h u hu
    cases b
    · show lk (K + 1) u [false] = lk 1 0 [false] + lk K u [false] ∧ fl (K + 1) u [false] = fl K u [false]
      rw [lk_none, lk_none, lk_none, fl_none, fl_none]
      exact ⟨rfl, rfl⟩
    · rw [fl_take 1 0 _ (by omega)] at h; cases h
  · intro t ih h u hu
    rw [fl_one_pair] at h
    obtain ⟨h1, h2⟩ := ih h u hu
    rw [el_pair, lk_take (K + 1) u _ (by omega), lk_none, lk_take 1 0 _ (by omega), lk_none, fl_take (K + 1) u _ (by omega), fl_none]
    simp only [Nat.add_sub_cancel]
    exact ⟨by rw [h1]; omega, h2⟩
  · intro t ih h u hu
    rw [fl_one_two] at h
    rw [el_two]
    by_cases hk : u < K
    · obtain ⟨h1, h2⟩ := ih h (u + 1) (by omega)
      have e1 : lk 1 0 (true :: true :: t) = lk 1 0 (true :: t) := by rw [lk_take 1 0 _ (by omega), lk_full 1 1 _ (by omega), lk_take 1 0 _ (by omega)]
      rw [lk_take (K + 1) u _ (by omega), fl_take (K + 1) u _ (by omega), e1, lk_take K u _ hk, fl_take K u _ hk]
      exact ⟨by omega, h2⟩
    · obtain rfl : u = K := by omega
      obtain ⟨h1, h2⟩ := ih h u (Nat.le_refl _)
      have e1 : lk 1 0 (true :: true :: t) = lk 1 0 (true :: t) := by rw [lk_take 1 0 _ (by omega), lk_full 1 1 _ (by omega), lk_take 1 0 _ (by omega)]
      have e2 : lk (u + 1) u (true :: true :: t) = lk (u + 1) u (true :: t) := by rw [lk_take (u + 1) u _ (by omega), lk_full (u + 1) (u + 1) _ (by omega), lk_take (u + 1) u _ (by omega)]
      have e3 : fl (u + 1) u (true :: true :: t) = fl (u + 1) u (true :: t) := by rw [fl_take (u + 1) u _ (by omega), fl_full (u + 1) (u + 1) _ (by omega), fl_take (u + 1) u _ (by omega)]
      rw [e1, e2, e3, lk_full u u _ (by omega), fl_full u u _ (by omega)]
      exact ⟨h1, h2⟩
  · intro b t ih h u hu
    rw [fl_none] at h
    obtain ⟨h1, h2⟩ := ih h (u - 1) (by omega)
    rw [el_none, lk_none, lk_none, lk_none, fl_none, fl_none]
    exact ⟨h1, h2⟩
theorem np_lk (l : List Bool) : fl 1 0 l = 0 → np l = lk 1 0 l := by
  refine el_induct (fun l => fl 1 0 l = 0 → np l = lk 1 0 l) ?_ ?_ ?_ ?_ ?_ l
  · intro _; rfl
  · intro b h
    cases b
    · rfl
    · rw [fl_take 1 0 _ (by omega)] at h; cases h
  · intro t ih h
    rw [fl_one_pair] at h
    rw [np_pair, lk_take 1 0 _ (by omega), lk_none, ih h]; simp only [Nat.add_sub_cancel]; omega
  · intro t ih h
    rw [fl_one_two] at h
    rw [np_two, lk_take 1 0 _ (by omega), lk_full 1 1 _ (by omega), ih h, lk_take 1 0 _ (by omega)]
  · intro b t ih h
    rw [fl_none] at h
    rw [np_none, lk_none]; exact ih h

/-- the list and the row -/
theorem lk_row (K : Nat) (l : List Bool) : lk K 0 l = tk K (bx l) l.length ∧ fl K 0 l = ld K (bx l) l.length := by
  have all : ∀ (r p : List Bool), lk K (ld K (bx (p ++ r)) p.length) r + tk K (bx (p ++ r)) p.length = tk K (bx (p ++ r)) (p ++ r).length ∧ fl K (ld K (bx (p ++ r)) p.length) r = ld K (bx (p ++ r)) (p ++ r).length := by
    intro r
    induction r with
    | nil => intro p; rw [List.append_nil]; exact ⟨by show 0 + _ = _; omega, rfl⟩
    | cons b r ih =>
      intro p
      have h := ih (p ++ [b])
      have e : p ++ [b] ++ r = p ++ b :: r := by simp
      rw [e] at h
      have hb : bx (p ++ b :: r) p.length = b := by unfold bx; rw [List.getElem?_append_right (Nat.le_refl _)]; simp
      have e2 : (p ++ [b]).length = p.length + 1 := by simp
      rw [e2, ld_succ, hb] at h
      have e3 : tk K (bx (p ++ b :: r)) (p.length + 1) = tk K (bx (p ++ b :: r)) p.length + if b && decide (ld K (bx (p ++ b :: r)) p.length < K) then 1 else 0 := by
        show tk K _ _ + _ = _; rw [hb]
      rw [e3] at h
      refine ⟨?_, h.2⟩
      rw [← h.1]
      show (if b && decide (ld K (bx (p ++ b :: r)) p.length < K) then 1 else 0) + lk K (nx K b (ld K (bx (p ++ b :: r)) p.length)) r + _ = _
      omega
  have h := all l []
  simp only [List.nil_append, List.length_nil] at h
  exact ⟨h.1, h.2⟩

/-- no carrier has a ball behind the list -/
def Still (l : List Bool) : Prop := ∀ K, fl K 0 l = 0
theorem Still.el {l : List Bool} (h : Still l) : Still (el l) := fun K => by rw [← (lk_el K l (h 1) 0 (Nat.zero_le _)).2]; exact h (K + 1)
theorem lk_zero (u : Nat) (l : List Bool) : lk 0 u l = 0 := by
  induction l generalizing u with
  | nil => rfl
  | cons b t ih => show (if b && decide (u < 0) then 1 else 0) + _ = _; rw [ih]; simp
theorem lk_pos (l : List Bool) (u : Nat) (h : lk 1 u l = 0) (hu : u = 0) : nballs l = 0 := by
  subst hu
  induction l with
  | nil => rfl
  | cons b t ih =>
    cases b
    · rw [lk_none] at h; unfold nballs at ih ⊢; rw [List.count_cons_of_ne (show false ≠ true by decide)]; exact ih h
    · rw [lk_take 1 0 _ (by omega)] at h; omega
theorem lk_balls (K u : Nat) (l : List Bool) : lk K u l ≤ nballs l := by
  induction l generalizing u with
  | nil => exact Nat.le_refl _
  | cons b t ih =>
    cases b
    · rw [lk_none]; unfold nballs at ih ⊢; rw [List.count_cons_of_ne (show false ≠ true by decide)]; exact ih _
    · unfold nballs at ih ⊢
      rw [List.count_cons_self]
      by_cases hu : u < K
      · rw [lk_take K u _ hu]; have := ih (u + 1); omega
      · rw [lk_full K u _ hu]; have := ih u; omega

/-- the rounds: how many pairs each takes out -/
def rds : Nat → List Bool → List Nat
  | 0, _ => []
  | n + 1, l => if nballs l = 0 then [] else np l :: rds n (el l)
theorem np_ball {l : List Bool} (h : Still l) (hb : nballs l ≠ 0) : 1 ≤ np l := by
  rw [np_lk l (h 1)]
  rcases Nat.eq_zero_or_pos (lk 1 0 l) with h0 | h0
  · exact absurd (lk_pos l 0 h0 rfl) hb
  · exact h0
/-- with balls enough, the rounds do not ask how many may come -/
theorem rds_more {l : List Bool} (h : Still l) : ∀ n m, nballs l ≤ n → nballs l ≤ m → rds n l = rds m l := by
  intro n
  induction n generalizing l with
  | zero =>
    intro m h1 h2
    have h0 : nballs l = 0 := by omega
    cases m with
    | zero => rfl
    | succ m => show [] = if nballs l = 0 then [] else _; rw [if_pos h0]
  | succ n ih =>
    intro m h1 h2
    cases m with
    | zero =>
      have h0 : nballs l = 0 := by omega
      show (if nballs l = 0 then [] else _) = []; rw [if_pos h0]
    | succ m =>
      show (if nballs l = 0 then [] else np l :: rds n (el l)) = (if nballs l = 0 then [] else np l :: rds m (el l))
      by_cases h0 : nballs l = 0
      · rw [if_pos h0, if_pos h0]
      · rw [if_neg h0, if_neg h0]
        have e := el_balls l
        have p := np_ball h h0
        rw [ih h.el m (by omega) (by omega)]
/-- rows with the same energies have the same rounds -/
theorem rds_same {l m : List Bool} (hl : Still l) (hm : Still m) (h : ∀ K, lk K 0 l = lk K 0 m) : ∀ n, rds n l = rds n m := by
  intro n
  induction n generalizing l m with
  | zero => rfl
  | succ n ih =>
    show (if nballs l = 0 then [] else np l :: rds n (el l)) = (if nballs m = 0 then [] else np m :: rds n (el m))
    have e1 := h 1
    have z : nballs l = 0 ↔ nballs m = 0 := by
      constructor
      · intro h0; exact lk_pos m 0 (by rw [← e1]; have := lk_balls 1 0 l; omega) rfl
      · intro h0; exact lk_pos l 0 (by rw [e1]; have := lk_balls 1 0 m; omega) rfl
    by_cases h0 : nballs l = 0
    · rw [if_pos h0, if_pos (z.1 h0)]
    · rw [if_neg h0, if_neg (fun e => h0 (z.2 e)), np_lk l (hl 1), np_lk m (hm 1), e1, ih hl.el hm.el ?_]
      intro K
      have a := (lk_el K l (hl 1) 0 (Nat.zero_le _)).1
      have b := (lk_el K m (hm 1) 0 (Nat.zero_le _)).1
      rw [h (K + 1)] at a
      omega
/-- the first rounds add up to the energies -/
theorem rds_sum {l : List Bool} (hl : Still l) : ∀ n K, nballs l ≤ n → ((rds n l).take K).sum = lk K 0 l := by
  intro n K
  induction K generalizing l n with
  | zero => intro _; rw [lk_zero]; rfl
  | succ K ih =>
    intro hn
    have a := (lk_el K l (hl 1) 0 (Nat.zero_le _)).1
    by_cases h0 : nballs l = 0
    · have := lk_balls (K + 1) 0 l
      have e : rds n l = [] := by
        cases n with
        | zero => rfl
        | succ n => show (if nballs l = 0 then [] else _) = []; rw [if_pos h0]
      rw [e]; show 0 = _; omega
    · obtain ⟨k, rfl⟩ : ∃ k, n = k + 1 := ⟨n - 1, by omega⟩
      have e : rds (k + 1) l = np l :: rds k (el l) := by show (if nballs l = 0 then [] else _) = _; rw [if_neg h0]
      have b := el_balls l
      have p := np_ball hl h0
      rw [e, List.take_succ_cons, List.sum_cons, ih hl.el k (by omega), a, np_lk l (hl 1)]
end Go.Proofs.Ytlfiipkbkhpmnaa
