/- TEXTS Shp. -/
import Derived.Test.Ytlgceccbjkkeiabwax01
/- NUMBERS THAT DO NOT RISE, and the sizes of rounds. Pure: no walk. -/
namespace Go.Proofs.Ytlgceccbjkkeiab

/-- numbers that do not rise -/
def Falls (r : List Nat) : Prop := ∀ k, r[k + 1]?.getD 0 ≤ r[k]?.getD 0
theorem Falls.tail {x : Nat} {t : List Nat} (h : Falls (x :: t)) : Falls t := fun k => h (k + 1)
theorem Falls.le {x : Nat} {t : List Nat} (h : Falls (x :: t)) : ∀ y ∈ t, y ≤ x := by
  induction t generalizing x with
  | nil => intro y hy; cases hy
  | cons z t ih =>
    intro y hy
    have h0 : z ≤ x := h 0
    rcases List.mem_cons.1 hy with rfl | hy
    · exact h0
    · exact Nat.le_trans (ih h.tail y hy) h0
/-- the sizes: how many rounds took out at least so many -/
def shp (r : List Nat) : List Nat := (List.range (r.headD 0)).map fun k => r.countP (fun x => decide (k < x))
theorem shp_length (r : List Nat) : (shp r).length = r.headD 0 := by simp [shp]
theorem shp_get (r : List Nat) (k : Nat) (h : k < r.headD 0) : (shp r)[k]? = some (r.countP (fun x => decide (k < x))) := by unfold shp; rw [List.getElem?_map, List.getElem?_range h]; rfl
theorem countP_take {r : List Nat} (h : Falls r) (k K : Nat) : (r.take K).countP (fun x => decide (k < x)) = min (r.countP (fun x => decide (k < x))) K := by
  induction r generalizing K with
  | nil => simp
  | cons x t ih =>
    cases K with
    | zero => simp
    | succ K =>
      rw [List.take_succ_cons]
      by_cases hx : k < x
      · rw [List.countP_cons_of_pos (by simpa using hx), List.countP_cons_of_pos (by simpa using hx), ih h.tail K]; omega
      · have z : ∀ s : List Nat, (∀ y ∈ s, y ≤ x) → s.countP (fun x => decide (k < x)) = 0 := by
          intro s hs
          rw [List.countP_eq_zero]
          intro y hy
          have := hs y hy
          simp; omega
        rw [List.countP_cons_of_neg (by simpa using hx), List.countP_cons_of_neg (by simpa using hx), z t h.le, z (t.take K) (fun y hy => h.le y (List.mem_of_mem_take hy))]; simp
theorem sum_count (s : List Nat) (m : Nat) : ((List.range m).map fun k => s.countP (fun x => decide (k < x))).sum = (s.map fun x => min x m).sum := by
  induction s with
  | nil =>
    have : ∀ m, ((List.range m).map fun _ => 0).sum = 0 := by
      intro m
      induction m with
      | zero => rfl
      | succ m ih => rw [List.range_succ, List.map_append, List.sum_append, ih]; rfl
    simpa using this m
  | cons x s ih =>
    have e : ∀ m, ((List.range m).map fun k => (x :: s).countP (fun x => decide (k < x))).sum = min x m + ((List.range m).map fun k => s.countP (fun x => decide (k < x))).sum := by
      intro m
      induction m with
      | zero => simp
      | succ m ih2 =>
        rw [List.range_succ, List.map_append, List.sum_append, ih2, List.map_append, List.sum_append]
        simp only [List.map_cons, List.map_nil, List.sum_cons, List.sum_nil]
        by_cases hx : m < x
        · rw [List.countP_cons_of_pos (by simpa using hx)]; omega
        · rw [List.countP_cons_of_neg (by simpa using hx)]; omega
    rw [e, ih]; simp
theorem headD_le {r : List Nat} (h : Falls r) : ∀ y ∈ r, y ≤ r.headD 0 := by
  cases r with
  | nil => intro y hy; cases hy
  | cons x t =>
    intro y hy
    rcases List.mem_cons.1 hy with rfl | hy
    · exact Nat.le_refl _
    · exact h.le y hy
/-- the energy of the sizes is the sum of the first rounds -/
theorem shp_min {r : List Nat} (h : Falls r) (K : Nat) : ((shp r).map fun x => min x K).sum = (r.take K).sum := by
  unfold shp
  rw [List.map_map]
  have e : ((List.range (r.headD 0)).map ((fun x => min x K) ∘ fun k => r.countP (fun x => decide (k < x)))) = (List.range (r.headD 0)).map fun k => (r.take K).countP (fun x => decide (k < x)) := by
    apply List.map_congr_left
    intro k _
    exact (countP_take h k K).symm
  rw [e, sum_count]
  congr 1
  have : (r.take K).map (fun x => min x (r.headD 0)) = (r.take K).map id := by
    apply List.map_congr_left
    intro x hx
    exact Nat.min_eq_left (headD_le h x (List.mem_of_mem_take hx))
  rw [this, List.map_id]
theorem shp_sum {r : List Nat} (h : Falls r) : (shp r).sum = r.sum := by
  have e := shp_min h r.length
  rw [List.take_of_length_le (Nat.le_refl _)] at e
  rw [← e]
  congr 1
  have : (shp r).map (fun x => min x r.length) = (shp r).map id := by
    apply List.map_congr_left
    intro x hx
    unfold shp at hx
    obtain ⟨k, _, rfl⟩ := List.mem_map.1 hx
    exact Nat.min_eq_left List.countP_le_length
  rw [this, List.map_id]
theorem shp_pos {r : List Nat} (h : Falls r) : ∀ x ∈ shp r, 1 ≤ x := by
  intro x hx
  unfold shp at hx
  obtain ⟨k, hk, rfl⟩ := List.mem_map.1 hx
  rw [List.mem_range] at hk
  cases r with
  | nil => simp at hk
  | cons y t => rw [List.countP_cons_of_pos (by simpa using hk)]; omega
theorem shp_falls (r : List Nat) : Falls (shp r) := by
  intro k
  by_cases hk : k + 1 < r.headD 0
  · rw [shp_get r (k + 1) hk, shp_get r k (by omega)]
    simp only [Option.getD_some]
    apply List.countP_mono_left
    intro x _ hx
    simp at hx ⊢; omega
  · rw [List.getElem?_eq_none_iff.2 (by rw [shp_length]; omega)]
    exact Nat.zero_le _
theorem shp_take_succ (r : List Nat) (m : Nat) (h : m < r.headD 0) : (shp r).take (m + 1) = (shp r).take m ++ [r.countP (fun x => decide (m < x))] := by
  have hl := shp_length r
  have e := shp_get r m h
  rw [List.getElem?_eq_getElem (by omega)] at e
  simp only [Option.some.injEq] at e
  rw [List.take_succ_eq_append_getElem (by omega), e]
theorem count_take_succ (r : List Nat) (m k x : Nat) (h : r[k]? = some x) : (r.take (k + 1)).countP (fun x => decide (m < x)) = (r.take k).countP (fun x => decide (m < x)) + if m < x then 1 else 0 := by
  obtain ⟨hk, e⟩ := List.getElem?_eq_some_iff.1 h
  rw [List.take_succ_eq_append_getElem hk, List.countP_append, e]
  by_cases hx : m < x
  · simp [hx]
  · simp [hx]
end Go.Proofs.Ytlgceccbjkkeiab
