/- SHAPES: the sizes out of the rounds; blocks of balls and empty boxes; the rows of texts. Pure: nothing of the program is named here. -/
import Derived.Test.YtlfiipkbkhpmnaaElim
import Derived.Test.YtlfiipkbkhpmnaaSFacts
namespace Go.Proofs.Ytlfiipkbkhpmnaa

theorem rds_nil {l : List Bool} (h : nballs l = 0) (n : Nat) : rds n l = [] := by
  cases n with
  | zero => rfl
  | succ n => show (if nballs l = 0 then [] else _) = []; rw [if_pos h]
theorem rds_cons {l : List Bool} (h : nballs l ≠ 0) (n : Nat) : rds (n + 1) l = np l :: rds n (el l) := by show (if nballs l = 0 then [] else _) = _; rw [if_neg h]
theorem rds_get {l : List Bool} (hl : Still l) (k : Nat) : ∀ n, nballs l ≤ n → (rds n l)[k]?.getD 0 = lk (k + 1) 0 l - lk k 0 l := by
  induction k generalizing l with
  | zero =>
    intro n hn
    rw [lk_zero]
    by_cases h0 : nballs l = 0
    · rw [rds_nil h0]; have := lk_balls (0 + 1) 0 l; show 0 = _; omega
    · obtain ⟨m, rfl⟩ : ∃ m, n = m + 1 := ⟨n - 1, by omega⟩
      rw [rds_cons h0]
      show np l = _
      rw [np_lk l (hl 1)]; rfl
  | succ k ih =>
    intro n hn
    by_cases h0 : nballs l = 0
    · rw [rds_nil h0]; have := lk_balls (k + 1 + 1) 0 l; show 0 = _; omega
    · obtain ⟨m, rfl⟩ : ∃ m, n = m + 1 := ⟨n - 1, by omega⟩
      rw [rds_cons h0]
      have e := el_balls l
      have p := np_ball hl h0
      show (rds m (el l))[k]?.getD 0 = _
      rw [ih hl.el m (by omega)]
      have a := (lk_el (k + 1) l (hl 1) 0 (Nat.zero_le _)).1
      have b := (lk_el k l (hl 1) 0 (Nat.zero_le _)).1
      omega
theorem rds_pos {l : List Bool} (hl : Still l) : ∀ n, ∀ x ∈ rds n l, 1 ≤ x := by
  intro n
  induction n generalizing l with
  | zero => intro x hx; cases hx
  | succ n ih =>
    intro x hx
    by_cases h0 : nballs l = 0
    · rw [rds_nil h0] at hx; cases hx
    · rw [rds_cons h0] at hx
      rcases List.mem_cons.1 hx with rfl | hx
      · exact np_ball hl h0
      · exact ih hl.el x hx
theorem rds_total {l : List Bool} (hl : Still l) : ∀ n, nballs l ≤ n → (rds n l).sum = nballs l := by
  intro n
  induction n generalizing l with
  | zero => intro h; show 0 = _; omega
  | succ n ih =>
    intro hn
    by_cases h0 : nballs l = 0
    · rw [rds_nil h0, h0]; rfl
    · have e := el_balls l
      have p := np_ball hl h0
      rw [rds_cons h0, List.sum_cons, ih hl.el (by omega)]; omega
theorem rds_len (l : List Bool) : ∀ n, (rds n l).length ≤ n := by
  intro n
  induction n generalizing l with
  | zero => exact Nat.le_refl _
  | succ n ih =>
    by_cases h0 : nballs l = 0
    · rw [rds_nil h0]; exact Nat.zero_le _
    · rw [rds_cons h0, List.length_cons]; have := ih (el l); omega

/-- numbers that do not rise -/
def Falls (r : List Nat) : Prop := ∀ k, r[k + 1]?.getD 0 ≤ r[k]?.getD 0
theorem Falls.tail {x : Nat} {t : List Nat} (h : Falls (x :: t)) : Falls t := fun k => h (k + 1)
theorem Falls.le {x : Nat} {t : List Nat} (h : Falls (x :: t)) : ∀ y ∈ t, y ≤ x := by
  induction t generalizing x with
  | nil => intro y hy; cases hy
  | cons z t ih =>
    intro y hy
    have h0 : z ≤ x := h 0
    rcases List.mem_cons.1 hy with rfl | hy
    · exact h0
    · exact Nat.le_trans (ih h.tail y hy) h0
theorem rds_falls {l : List Bool} (hl : Still l) (n : Nat) (hn : nballs l ≤ n) : Falls (rds n l) := by
  intro k
  rw [rds_get hl (k + 1) n hn, rds_get hl k n hn]
  rw [(lk_row (k + 1 + 1) l).1, (lk_row (k + 1) l).1, (lk_row k l).1]
  obtain ⟨_, _, _, _, h5, h6⟩ := three k (bx l) l.length
  have h5' : tk (k + 2) (bx l) l.length + tk k (bx l) l.length ≤ 2 * tk (k + 1) (bx l) l.length := by omega
  show tk (k + 2) (bx l) l.length - _ ≤ _
  omega

/-- the sizes: how many rounds took out at least so many -/
def shp (r : List Nat) : List Nat := (List.range (r.headD 0)).map fun k => r.countP (fun x => decide (k < x))
theorem shp_length (r : List Nat) : (shp r).length = r.headD 0 := by simp [shp]
theorem shp_get (r : List Nat) (k : Nat) (h : k < r.headD 0) : (shp r)[k]? = some (r.countP (fun x => decide (k < x))) := by unfold shp; rw [List.getElem?_map, List.getElem?_range h]; rfl
theorem countP_take {r : List Nat} (h : Falls r) (k K : Nat) : (r.take K).countP (fun x => decide (k < x)) = min (r.countP (fun x => decide (k < x))) K := by
  induction r generalizing K with
  | nil => simp
  | cons x t ih =>
    cases K with
    | zero => simp
    | succ K =>
      rw [List.take_succ_cons]
      by_cases hx : k < x
      · rw [List.countP_cons_of_pos (by simpa using hx), List.countP_cons_of_pos (by simpa using hx), ih h.tail K]; omega
      · have z : ∀ s : List Nat, (∀ y ∈ s, y ≤ x) → s.countP (fun x => decide (k < x)) = 0 := by
          intro s hs
          rw [List.countP_eq_zero]
          intro y hy
          have := hs y hy
          simp; omega
        rw [List.countP_cons_of_neg (by simpa using hx), List.countP_cons_of_neg (by simpa using hx), z t h.le, z (t.take K) (fun y hy => h.le y (List.mem_of_mem_take hy))]; simp
theorem sum_count (s : List Nat) (m : Nat) : ((List.range m).map fun k => s.countP (fun x => decide (k < x))).sum = (s.map fun x => min x m).sum := by
  induction s with
  | nil =>
    have : ∀ m, ((List.range m).map fun _ => 0).sum = 0 := by
      intro m
      induction m with
      | zero => rfl
      | succ m ih => rw [List.range_succ, List.map_append, List.sum_append, ih]; rfl
    simpa using this m
  | cons x s ih =>
    have e : ∀ m, ((List.range m).map fun k => (x :: s).countP (fun x => decide (k < x))).sum = min x m + ((List.range m).map fun k => s.countP (fun x => decide (k < x))).sum := by
      intro m
      induction m with
      | zero => simp
      | succ m ih2 =>
        rw [List.range_succ, List.map_append, List.sum_append, ih2, List.map_append, List.sum_append]
        simp only [List.map_cons, List.map_nil, List.sum_cons, List.sum_nil]
        by_cases hx : m < x
        · rw [List.countP_cons_of_pos (by simpa using hx)]; omega
        · rw [List.countP_cons_of_neg (by simpa using hx)]; omega
    rw [e, ih]; simp
theorem headD_le {r : List Nat} (h : Falls r) : ∀ y ∈ r, y ≤ r.headD 0 := by
  cases r with
  | nil => intro y hy; cases hy
  | cons x t =>
    intro y hy
    rcases List.mem_cons.1 hy with rfl | hy
    · exact Nat.le_refl _
    · exact h.le y hy
/-- the energy of the sizes is the sum of the first rounds -/
theorem shp_min {r : List Nat} (h : Falls r) (K : Nat) : ((shp r).map fun x => min x K).sum = (r.take K).sum := by
  unfold shp
  rw [List.map_map]
  have e : ((List.range (r.headD 0)).map ((fun x => min x K) ∘ fun k => r.countP (fun x => decide (k < x)))) = (List.range (r.headD 0)).map fun k => (r.take K).countP (fun x => decide (k < x)) := by
    apply List.map_congr_left
    intro k _
    exact (countP_take h k K).symm
  rw [e, sum_count]
  congr 1
  have : (r.take K).map (fun x => min x (r.headD 0)) = (r.take K).map id := by
    apply List.map_congr_left
    intro x hx
    exact Nat.min_eq_left (headD_le h x (List.mem_of_mem_take hx))
  rw [this, List.map_id]
theorem shp_sum {r : List Nat} (h : Falls r) : (shp r).sum = r.sum := by
  have e := shp_min h r.length
  rw [List.take_of_length_le (Nat.le_refl _)] at e
  rw [← e]
  congr 1
  have : (shp r).map (fun x => min x r.length) = (shp r).map id := by
    apply List.map_congr_left
    intro x hx
    unfold shp at hx
    obtain ⟨k, _, rfl⟩ := List.mem_map.1 hx
    exact Nat.min_eq_left List.countP_le_length
  rw [this, List.map_id]
theorem shp_pos {r : List Nat} (h : Falls r) : ∀ x ∈ shp r, 1 ≤ x := by
  intro x hx
  unfold shp at hx
  obtain ⟨k, hk, rfl⟩ := List.mem_map.1 hx
  rw [List.mem_range] at hk
  cases r with
  | nil => simp at hk
  | cons y t => rw [List.countP_cons_of_pos (by simpa using hk)]; omega
theorem shp_falls (r : List Nat) : Falls (shp r) := by
  intro k
  by_cases hk : k + 1 < r.headD 0
  · rw [shp_get r (k + 1) hk, shp_get r k (by omega)]
    simp only [Option.getD_some]
    apply List.countP_mono_left
    intro x _ hx
    simp at hx ⊢; omega
  · rw [List.getElem?_eq_none_iff.2 (by rw [shp_length]; omega)]
    exact Nat.zero_le _

/-- a row with empty boxes behind it for all its balls -/
def pad (l : List Bool) : List Bool := l ++ List.replicate (nballs l) false
theorem bx_pad (l : List Bool) : bx (pad l) = bx l := by
  funext i
  unfold pad bx
  by_cases h : i < l.length
  · rw [List.getElem?_append_left h]
  · rw [List.getElem?_append_right (by omega), List.getElem?_eq_none_iff.2 (show l.length ≤ i by omega), List.getElem?_replicate]; split <;> rfl
theorem pad_length (l : List Bool) : (pad l).length = l.length + nballs l := by simp [pad]
theorem nballs_pad (l : List Bool) : nballs (pad l) = nballs l := by unfold pad nballs; simp [List.count_replicate]
theorem pad_still (l : List Bool) : Still (pad l) := by
  intro K
  rw [(lk_row K (pad l)).2, bx_pad, pad_length, ld_tail (fun i hi => bx_out l i hi)]
  have h1 := ld_le_cn K (bx l) l.length
  have h2 := nballs_cn l l.length (Nat.le_refl _)
  omega
theorem lk_pad (K : Nat) (l : List Bool) : lk K 0 (pad l) = tk K (bx l) l.length := by
  rw [(lk_row K (pad l)).1, bx_pad, pad_length, tk_tail (fun i hi => bx_out l i hi)]
/-- the rounds and the sizes of a row -/
def rdB (l : List Bool) : List Nat := rds (nballs l) (pad l)
def shB3 (l : List Bool) : List Nat := shp (rdB l)
theorem rdB_falls (l : List Bool) : Falls (rdB l) := rds_falls (pad_still l) _ (by rw [nballs_pad]; exact Nat.le_refl _)
theorem rdB_sum (l : List Bool) (K : Nat) : ((rdB l).take K).sum = tk K (bx l) l.length := by
  unfold rdB; rw [rds_sum (pad_still l) _ K (by rw [nballs_pad]; exact Nat.le_refl _), lk_pad]
theorem rdB_total (l : List Bool) : (rdB l).sum = nballs l := by
  unfold rdB; rw [rds_total (pad_still l) _ (by rw [nballs_pad]; exact Nat.le_refl _), nballs_pad]
/-- rows with the same energies have the same rounds -/
theorem rdB_same {l m : List Bool} (h : ∀ K, tk K (bx l) l.length = tk K (bx m) m.length) (hb : nballs l = nballs m) : rdB l = rdB m := by
  unfold rdB
  rw [← hb]
  exact rds_same (pad_still l) (pad_still m) (fun K => by rw [lk_pad, lk_pad]; exact h K) _
theorem rdB_ext {l m : List Bool} (h : bx l = bx m) : rdB l = rdB m := by
  apply rdB_same
  · intro K
    have a := tk_tail (K := K) (f := bx l) (n := l.length) (fun i hi => bx_out l i hi) m.length
    have b := tk_tail (K := K) (f := bx m) (n := m.length) (fun i hi => bx_out m i hi) l.length
    rw [h] at a
    rw [h, ← a, ← b, Nat.add_comm]
  · rw [nballs_cn l (l.length + m.length) (by omega), nballs_cn m (l.length + m.length) (by omega), h]
/-- P19: a step keeps the rounds -/
theorem rdB_step {K : Nat} (hK : 1 ≤ K) (l m : List Bool) (h : bx m = tr K (bx l)) : rdB m = rdB l := by
  have big : ∀ (p : List Bool) (L N : Nat), p.length ≤ N → tk L (bx p) p.length = tk L (bx p) N := by
    intro p L N hN
    have := tk_tail (K := L) (f := bx p) (n := p.length) (fun i hi => bx_out p i hi) (N - p.length)
    rw [show p.length + (N - p.length) = N by omega] at this
    exact this.symm
  apply rdB_same
  · intro L
    rw [big m L (2 * l.length + m.length) (by omega), big l L (2 * l.length + m.length) (by omega), h]
    rcases Nat.eq_zero_or_pos L with h0 | h0
    · subst h0
      have z : ∀ (f : Nat → Bool) (i : Nat), tk 0 f i = 0 := by
        intro f i
        induction i with
        | zero => rfl
        | succ i ih => show tk 0 f i + _ = 0; rw [ih]; simp
      rw [z, z]
    · exact tk_kept L K (bx l) h0 hK _ (ld_end (fun i hi => bx_out l i hi) _ (by omega))
  · rw [nballs_cn m (2 * l.length + m.length) (by omega), nballs_cn l (2 * l.length + m.length) (by omega), h]
    have := cn_tr K (bx l) (2 * l.length + m.length)
    rw [ld_end (fun i hi => bx_out l i hi) _ (by omega)] at this
    exact this
end Go.Proofs.Ytlfiipkbkhpmnaa
