/- TEXTS Shp, Elim, Great1. -/
import Derived.Test.YtdooboibmllfkabGreatDoorExb01
import Derived.Test.YtdooboibmllfkabGreatDoorExb06
import Derived.Test.YtdooboibmllfkabGreatDoorExb08
namespace Go.Proofs.YtdooboibmllfkabGreatDoor
set_option maxRecDepth 100000

def Falls (r : List Nat) : Prop := ∀ k, r[k + 1]?.getD 0 ≤ r[k]?.getD 0
theorem Falls.tail {x : Nat} {t : List Nat} (h : Falls (x :: t)) : Falls t := fun k => h (k + 1)
theorem Falls.le {x : Nat} {t : List Nat} (h : Falls (x :: t)) : ∀ y ∈ t, y ≤ x := by
  induction t generalizing x with
  | nil => intro y hy; cases hy
  | cons z t ih =>
    intro y hy
    have h0 : z ≤ x := h 0
    rcases List.mem_cons.1 hy with rfl | hy
    · exact h0
    · exact Nat.le_trans (ih h.tail y hy) h0
def shp (r : List Nat) : List Nat := (List.range (r.headD 0)).map fun k => r.countP (fun x => decide (k < x))
theorem shp_length (r : List Nat) : (shp r).length = r.headD 0 := by simp [shp]
theorem shp_get (r : List Nat) (k : Nat) (h : k < r.headD 0) : (shp r)[k]? = some (r.countP (fun x => decide (k < x))) := by unfold shp; rw [List.getElem?_map, List.getElem?_range h]; rfl
theorem countP_take {r : List Nat} (h : Falls r) (k K : Nat) : (r.take K).countP (fun x => decide (k < x)) = min (r.countP (fun x => decide (k < x))) K := by
  induction r generalizing K with
  | nil => simp
  | cons x t ih =>
    cases K with
    | zero => simp
    | succ K =>
      rw [List.take_succ_cons]
      by_cases hx : k < x
      · rw [List.countP_cons_of_pos (by simpa using hx), List.countP_cons_of_pos (by simpa using hx), ih h.tail K]; omega
      · have z : ∀ s : List Nat, (∀ y ∈ s, y ≤ x) → s.countP (fun x => decide (k < x)) = 0 := by
          intro s hs
          rw [List.countP_eq_zero]
          intro y hy
          have := hs y hy
          simp; omega
        rw [List.countP_cons_of_neg (by simpa using hx), List.countP_cons_of_neg (by simpa using hx), z t h.le, z (t.take K) (fun y hy => h.le y (List.mem_of_mem_take hy))]; simp
theorem sum_count (s : List Nat) (m : Nat) : ((List.range m).map fun k => s.countP (fun x => decide (k < x))).sum = (s.map fun x => min x m).sum := by
  induction s with
  | nil =>
    have : ∀ m, ((List.range m).map fun _ => 0).sum = 0 := by
      intro m
      induction m with
      | zero => rfl
      | succ m ih => rw [List.range_succ, List.map_append, List.sum_append, ih]; rfl
    simpa using this m
  | cons x s ih =>
    have e : ∀ m, ((List.range m).map fun k => (x :: s).countP (fun x => decide (k < x))).sum = min x m + ((List.range m).map fun k => s.countP (fun x => decide (k < x))).sum := by
      intro m
      induction m with
      | zero => simp
      | succ m ih2 =>
        rw [List.range_succ, List.map_append, List.sum_append, ih2, List.map_append, List.sum_append]
        simp only [List.map_cons, List.map_nil, List.sum_cons, List.sum_nil]
        by_cases hx : m < x
        · rw [List.countP_cons_of_pos (by simpa using hx)]; omega
        · rw [List.countP_cons_of_neg (by simpa using hx)]; omega
    rw [e, ih]; simp
theorem headD_le {r : List Nat} (h : Falls r) : ∀ y ∈ r, y ≤ r.headD 0 := by
  cases r with
  | nil => intro y hy; cases hy
  | cons x t =>
    intro y hy
    rcases List.mem_cons.1 hy with rfl | hy
    · exact Nat.le_refl _
    · exact h.le y hy
theorem shp_min {r : List Nat} (h : Falls r) (K : Nat) : ((shp r).map fun x => min x K).sum = (r.take K).sum := by
  unfold shp
  rw [List.map_map]
  have e : ((List.range (r.headD 0)).map ((fun x => min x K) ∘ fun k => r.countP (fun x => decide (k < x)))) = (List.range (r.headD 0)).map fun k => (r.take K).countP (fun x => decide (k < x)) := by
    apply List.map_congr_left
    intro k _
    exact (countP_take h k K).symm
  rw [e, sum_count]
  congr 1
  have : (r.take K).map (fun x => min x (r.headD 0)) = (r.take K).map id := by
    apply List.map_congr_left
    intro x hx
    exact Nat.min_eq_left (headD_le h x (List.mem_of_mem_take hx))
  rw [this, List.map_id]
theorem shp_sum {r : List Nat} (h : Falls r) : (shp r).sum = r.sum := by
  have e := shp_min h r.length
  rw [List.take_of_length_le (Nat.le_refl _)] at e
  rw [← e]
  congr 1
  have : (shp r).map (fun x => min x r.length) = (shp r).map id := by
    apply List.map_congr_left
    intro x hx
    unfold shp at hx
    obtain ⟨k, _, rfl⟩ := List.mem_map.1 hx
    exact Nat.min_eq_left List.countP_le_length
  rw [this, List.map_id]
theorem shp_pos {r : List Nat} (h : Falls r) : ∀ x ∈ shp r, 1 ≤ x := by
  intro x hx
  unfold shp at hx
  obtain ⟨k, hk, rfl⟩ := List.mem_map.1 hx
  rw [List.mem_range] at hk
  cases r with
  | nil => simp at hk
  | cons y t => rw [List.countP_cons_of_pos (by simpa using hk)]; omega
theorem shp_falls (r : List Nat) : Falls (shp r) := by
  intro k
  by_cases hk : k + 1 < r.headD 0
  · rw [shp_get r (k + 1) hk, shp_get r k (by omega)]
    simp only [Option.getD_some]
    apply List.countP_mono_left
    intro x _ hx
    simp at hx ⊢; omega
  · rw [List.getElem?_eq_none_iff.2 (by rw [shp_length]; omega)]
    exact Nat.zero_le _
theorem shp_take_succ (r : List Nat) (m : Nat) (h : m < r.headD 0) : (shp r).take (m + 1) = (shp r).take m ++ [r.countP (fun x => decide (m < x))] := by
  have hl := shp_length r
  have e := shp_get r m h
  rw [List.getElem?_eq_getElem (by omega)] at e
  simp only [Option.some.injEq] at e
  rw [List.take_succ_eq_append_getElem (by omega), e]
theorem count_take_succ (r : List Nat) (m k x : Nat) (h : r[k]? = some x) : (r.take (k + 1)).countP (fun x => decide (m < x)) = (r.take k).countP (fun x => decide (m < x)) + if m < x then 1 else 0 := by
  obtain ⟨hk, e⟩ := List.getElem?_eq_some_iff.1 h
  rw [List.take_succ_eq_append_getElem hk, List.countP_append, e]
  by_cases hx : m < x
  · simp [hx]
  · simp [hx]
end Go.Proofs.YtdooboibmllfkabGreatDoor

namespace Go.Proofs.YtdooboibmllfkabGreatDoor
set_option maxRecDepth 100000

def el : List Bool → List Bool
  | [] => []
  | [b] => [b]
  | a :: b :: t => if a && !b then el t else a :: el (b :: t)
def np : List Bool → Nat
  | [] => 0
  | [_] => 0
  | a :: b :: t => if a && !b then np t + 1 else np (b :: t)
def lk (K : Nat) : Nat → List Bool → Nat
  | _, [] => 0
  | u, b :: t => (if b && decide (u < K) then 1 else 0) + lk K (nx K b u) t
def fl (K : Nat) : Nat → List Bool → Nat
  | u, [] => u
  | u, b :: t => fl K (nx K b u) t

theorem el_pair (t : List Bool) : el (true :: false :: t) = el t := rfl
theorem el_two (t : List Bool) : el (true :: true :: t) = true :: el (true :: t) := rfl
theorem el_none (b : Bool) (t : List Bool) : el (false :: b :: t) = false :: el (b :: t) := rfl
theorem np_pair (t : List Bool) : np (true :: false :: t) = np t + 1 := rfl
theorem np_two (t : List Bool) : np (true :: true :: t) = np (true :: t) := rfl
theorem np_none (b : Bool) (t : List Bool) : np (false :: b :: t) = np (b :: t) := rfl

theorem el_induct (P : List Bool → Prop) (h0 : P []) (h1 : ∀ b, P [b]) (hp : ∀ t, P t → P (true :: false :: t)) (ht : ∀ t, P (true :: t) → P (true :: true :: t)) (hf : ∀ b t, P (b :: t) → P (false :: b :: t)) : ∀ l, P l := by
  have all : ∀ n, ∀ l : List Bool, l.length ≤ n → P l := by
    intro n
    induction n with
    | zero =>
      intro l hl
      have : l = [] := List.eq_nil_of_length_eq_zero (by omega)
      subst this; exact h0
    | succ n ih =>
      intro l hl
      match l with
      | [] => exact h0
      | [b] => exact h1 b
      | true :: false :: t => exact hp t (ih t (by simp at hl; omega))
      | true :: true :: t => exact ht t (ih _ (by simp at hl ⊢; omega))
      | false :: b :: t => exact hf b t (ih _ (by simp at hl ⊢; omega))
  exact fun l => all l.length l (Nat.le_refl _)

theorem el_length (l : List Bool) : l.length = (el l).length + 2 * np l := by
  refine el_induct (fun l => l.length = (el l).length + 2 * np l) rfl (fun b => rfl) ?_ ?_ ?_ l
  · intro t h; rw [el_pair, np_pair]; simp only [List.length_cons]; omega
  · intro t h; rw [el_two, np_two]; simp only [List.length_cons] at h ⊢; omega
  · intro b t h; rw [el_none, np_none]; simp only [List.length_cons] at h ⊢; omega
theorem el_balls (l : List Bool) : nballs l = nballs (el l) + np l := by
  refine el_induct (fun l => nballs l = nballs (el l) + np l) rfl (fun b => rfl) ?_ ?_ ?_ l
  · intro t h; rw [el_pair, np_pair]; unfold nballs at h ⊢; simp only [List.count_cons_self]; rw [List.count_cons_of_ne (show false ≠ true by decide)]; omega
  · intro t h; rw [el_two, np_two]; unfold nballs at h ⊢; simp only [List.count_cons_self] at h ⊢; omega
  · intro b t h; rw [el_none, np_none]; unfold nballs at h ⊢; rw [List.count_cons_of_ne (show false ≠ true by decide), List.count_cons_of_ne (show false ≠ true by decide)]; exact h
theorem lk_none (K u : Nat) (t : List Bool) : lk K u (false :: t) = lk K (u - 1) t := by show (if false && _ then 1 else 0) + lk K (nx K false u) t = _; simp [nx]
theorem lk_take (K u : Nat) (t : List Bool) (h : u < K) : lk K u (true :: t) = 1 + lk K (u + 1) t := by show (if true && _ then 1 else 0) + lk K (nx K true u) t = _; simp [nx, h]
theorem lk_full (K u : Nat) (t : List Bool) (h : ¬ u < K) : lk K u (true :: t) = lk K u t := by show (if true && _ then 1 else 0) + lk K (nx K true u) t = _; simp [nx, h]
theorem fl_none (K u : Nat) (t : List Bool) : fl K u (false :: t) = fl K (u - 1) t := by show fl K (nx K false u) t = _; simp [nx]
theorem fl_take (K u : Nat) (t : List Bool) (h : u < K) : fl K u (true :: t) = fl K (u + 1) t := by show fl K (nx K true u) t = _; simp [nx, h]
theorem fl_full (K u : Nat) (t : List Bool) (h : ¬ u < K) : fl K u (true :: t) = fl K u t := by show fl K (nx K true u) t = _; simp [nx, h]
theorem fl_one_two (t : List Bool) : fl 1 0 (true :: true :: t) = fl 1 0 (true :: t) := by rw [fl_take 1 0 _ (by omega), fl_full 1 1 _ (by omega), fl_take 1 0 _ (by omega)]
theorem fl_one_pair (t : List Bool) : fl 1 0 (true :: false :: t) = fl 1 0 t := by rw [fl_take 1 0 _ (by omega), fl_none]

theorem lk_el (K : Nat) (l : List Bool) : fl 1 0 l = 0 → ∀ u, u ≤ K → lk (K + 1) u l = lk 1 0 l + lk K u (el l) ∧ fl (K + 1) u l = fl K u (el l) := by
  refine el_induct (fun l => fl 1 0 l = 0 → ∀ u, u ≤ K → lk (K + 1) u l = lk 1 0 l + lk K u (el l) ∧ fl (K + 1) u l = fl K u (el l)) ?_ ?_ ?_ ?_ ?_ l
  · intro _ u _; exact ⟨rfl, rfl⟩
  · intro b h u hu
    cases b
    · show lk (K + 1) u [false] = lk 1 0 [false] + lk K u [false] ∧ fl (K + 1) u [false] = fl K u [false]
      rw [lk_none, lk_none, lk_none, fl_none, fl_none]
      exact ⟨rfl, rfl⟩
    · rw [fl_take 1 0 _ (by omega)] at h; cases h
  · intro t ih h u hu
    rw [fl_one_pair] at h
    obtain ⟨h1, h2⟩ := ih h u hu
    rw [el_pair, lk_take (K + 1) u _ (by omega), lk_none, lk_take 1 0 _ (by omega), lk_none, fl_take (K + 1) u _ (by omega), fl_none]
    simp only [Nat.add_sub_cancel]
    exact ⟨by rw [h1]; omega, h2⟩
  · intro t ih h u hu
    rw [fl_one_two] at h
    rw [el_two]
    by_cases hk : u < K
    · obtain ⟨h1, h2⟩ := ih h (u + 1) (by omega)
      have e1 : lk 1 0 (true :: true :: t) = lk 1 0 (true :: t) := by rw [lk_take 1 0 _ (by omega), lk_full 1 1 _ (by omega), lk_take 1 0 _ (by omega)]
      rw [lk_take (K + 1) u _ (by omega), fl_take (K + 1) u _ (by omega), e1, lk_take K u _ hk, fl_take K u _ hk]
      exact ⟨by omega, h2⟩
    · obtain rfl : u = K := by omega
      obtain ⟨h1, h2⟩ := ih h u (Nat.le_refl _)
      have e1 : lk 1 0 (true :: true :: t) = lk 1 0 (true :: t) := by rw [lk_take 1 0 _ (by omega), lk_full 1 1 _ (by omega), lk_take 1 0 _ (by omega)]
      have e2 : lk (u + 1) u (true :: true :: t) = lk (u + 1) u (true :: t) := by rw [lk_take (u + 1) u _ (by omega), lk_full (u + 1) (u + 1) _ (by omega), lk_take (u + 1) u _ (by omega)]
      have e3 : fl (u + 1) u (true :: true :: t) = fl (u + 1) u (true :: t) := by rw [fl_take (u + 1) u _ (by omega), fl_full (u + 1) (u + 1) _ (by omega), fl_take (u + 1) u _ (by omega)]
      rw [e1, e2, e3, lk_full u u _ (by omega), fl_full u u _ (by omega)]
      exact ⟨h1, h2⟩
  · intro b t ih h u hu
    rw [fl_none] at h
    obtain ⟨h1, h2⟩ := ih h (u - 1) (by omega)
    rw [el_none, lk_none, lk_none, lk_none, fl_none, fl_none]
    exact ⟨h1, h2⟩
theorem np_lk (l : List Bool) : fl 1 0 l = 0 → np l = lk 1 0 l := by
  refine el_induct (fun l => fl 1 0 l = 0 → np l = lk 1 0 l) ?_ ?_ ?_ ?_ ?_ l
  · intro _; rfl
  · intro b h
    cases b
    · rfl
    · rw [fl_take 1 0 _ (by omega)] at h; cases h
  · intro t ih h
    rw [fl_one_pair] at h
    rw [np_pair, lk_take 1 0 _ (by omega), lk_none, ih h]; simp only [Nat.add_sub_cancel]; omega
  · intro t ih h
    rw [fl_one_two] at h
    rw [np_two, lk_take 1 0 _ (by omega), lk_full 1 1 _ (by omega), ih h, lk_take 1 0 _ (by omega)]
  · intro b t ih h
    rw [fl_none] at h
    rw [np_none, lk_none]; exact ih h

theorem lk_row (K : Nat) (l : List Bool) : lk K 0 l = tk K (bx l) l.length ∧ fl K 0 l = ld K (bx l) l.length := by
  have all : ∀ (r p : List Bool), lk K (ld K (bx (p ++ r)) p.length) r + tk K (bx (p ++ r)) p.length = tk K (bx (p ++ r)) (p ++ r).length ∧ fl K (ld K (bx (p ++ r)) p.length) r = ld K (bx (p ++ r)) (p ++ r).length := by
    intro r
    induction r with
    | nil => intro p; rw [List.append_nil]; exact ⟨by show 0 + _ = _; omega, rfl⟩
    | cons b r ih =>
      intro p
      have h := ih (p ++ [b])
      have e : p ++ [b] ++ r = p ++ b :: r := by simp
      rw [e] at h
      have hb : bx (p ++ b :: r) p.length = b := by unfold bx; rw [List.getElem?_append_right (Nat.le_refl _)]; simp
      have e2 : (p ++ [b]).length = p.length + 1 := by simp
      rw [e2, ld_succ, hb] at h
      have e3 : tk K (bx (p ++ b :: r)) (p.length + 1) = tk K (bx (p ++ b :: r)) p.length + if b && decide (ld K (bx (p ++ b :: r)) p.length < K) then 1 else 0 := by
        show tk K _ _ + _ = _; rw [hb]
      rw [e3] at h
      refine ⟨?_, h.2⟩
      rw [← h.1]
      show (if b && decide (ld K (bx (p ++ b :: r)) p.length < K) then 1 else 0) + lk K (nx K b (ld K (bx (p ++ b :: r)) p.length)) r + _ = _
      omega
  have h := all l []
  simp only [List.nil_append, List.length_nil] at h
  exact ⟨h.1, h.2⟩

def Still (l : List Bool) : Prop := ∀ K, fl K 0 l = 0
theorem Still.el {l : List Bool} (h : Still l) : Still (el l) := fun K => by rw [← (lk_el K l (h 1) 0 (Nat.zero_le _)).2]; exact h (K + 1)
theorem lk_zero (u : Nat) (l : List Bool) : lk 0 u l = 0 := by
  induction l generalizing u with
  | nil => rfl
  | cons b t ih => show (if b && decide (u < 0) then 1 else 0) + _ = _; rw [ih]; simp
theorem lk_pos (l : List Bool) (u : Nat) (h : lk 1 u l = 0) (hu : u = 0) : nballs l = 0 := by
  subst hu
  induction l with
  | nil => rfl
  | cons b t ih =>
    cases b
    · rw [lk_none] at h; unfold nballs at ih ⊢; rw [List.count_cons_of_ne (show false ≠ true by decide)]; exact ih h
    · rw [lk_take 1 0 _ (by omega)] at h; omega
theorem lk_balls (K u : Nat) (l : List Bool) : lk K u l ≤ nballs l := by
  induction l generalizing u with
  | nil => exact Nat.le_refl _
  | cons b t ih =>
    cases b
    · rw [lk_none]; unfold nballs at ih ⊢; rw [List.count_cons_of_ne (show false ≠ true by decide)]; exact ih _
    · unfold nballs at ih ⊢
      rw [List.count_cons_self]
      by_cases hu : u < K
      · rw [lk_take K u _ hu]; have := ih (u + 1); omega
      · rw [lk_full K u _ hu]; have := ih u; omega

def rds : Nat → List Bool → List Nat
  | 0, _ => []
  | n + 1, l => if nballs l = 0 then [] else np l :: rds n (el l)
theorem np_ball {l : List Bool} (h : Still l) (hb : nballs l ≠ 0) : 1 ≤ np l := by
  rw [np_lk l (h 1)]
  rcases Nat.eq_zero_or_pos (lk 1 0 l) with h0 | h0
  · exact absurd (lk_pos l 0 h0 rfl) hb
  · exact h0
theorem rds_more {l : List Bool} (h : Still l) : ∀ n m, nballs l ≤ n → nballs l ≤ m → rds n l = rds m l := by
  intro n
  induction n generalizing l with
  | zero =>
    intro m h1 h2
    have h0 : nballs l = 0 := by omega
    cases m with
    | zero => rfl
    | succ m => show [] = if nballs l = 0 then [] else _; rw [if_pos h0]
  | succ n ih =>
    intro m h1 h2
    cases m with
    | zero =>
      have h0 : nballs l = 0 := by omega
      show (if nballs l = 0 then [] else _) = []; rw [if_pos h0]
    | succ m =>
      show (if nballs l = 0 then [] else np l :: rds n (el l)) = (if nballs l = 0 then [] else np l :: rds m (el l))
      by_cases h0 : nballs l = 0
      · rw [if_pos h0, if_pos h0]
      · rw [if_neg h0, if_neg h0]
        have e := el_balls l
        have p := np_ball h h0
        rw [ih h.el m (by omega) (by omega)]
theorem rds_same {l m : List Bool} (hl : Still l) (hm : Still m) (h : ∀ K, lk K 0 l = lk K 0 m) : ∀ n, rds n l = rds n m := by
  intro n
  induction n generalizing l m with
  | zero => rfl
  | succ n ih =>
    show (if nballs l = 0 then [] else np l :: rds n (el l)) = (if nballs m = 0 then [] else np m :: rds n (el m))
    have e1 := h 1
    have z : nballs l = 0 ↔ nballs m = 0 := by
      constructor
      · intro h0; exact lk_pos m 0 (by rw [← e1]; have := lk_balls 1 0 l; omega) rfl
      · intro h0; exact lk_pos l 0 (by rw [e1]; have := lk_balls 1 0 m; omega) rfl
    by_cases h0 : nballs l = 0
    · rw [if_pos h0, if_pos (z.1 h0)]
    · rw [if_neg h0, if_neg (fun e => h0 (z.2 e)), np_lk l (hl 1), np_lk m (hm 1), e1, ih hl.el hm.el ?_]
      intro K
      have a := (lk_el K l (hl 1) 0 (Nat.zero_le _)).1
      have b := (lk_el K m (hm 1) 0 (Nat.zero_le _)).1
      rw [h (K + 1)] at a
      omega
end Go.Proofs.YtdooboibmllfkabGreatDoor

namespace Go.Proofs.YtdooboibmllfkabGreatDoor
set_option maxRecDepth 100000

theorem rds_nil {l : List Bool} (h : nballs l = 0) (n : Nat) : rds n l = [] := by
  cases n with
  | zero => rfl
  | succ n => show (if nballs l = 0 then [] else _) = []; rw [if_pos h]
theorem rds_cons {l : List Bool} (h : nballs l ≠ 0) (n : Nat) : rds (n + 1) l = np l :: rds n (el l) := by show (if nballs l = 0 then [] else _) = _; rw [if_neg h]
theorem rds_get {l : List Bool} (hl : Still l) (k : Nat) : ∀ n, nballs l ≤ n → (rds n l)[k]?.getD 0 = lk (k + 1) 0 l - lk k 0 l := by
  induction k generalizing l with
  | zero =>
    intro n hn
    rw [lk_zero]
    by_cases h0 : nballs l = 0
    · rw [rds_nil h0]; have := lk_balls (0 + 1) 0 l; show 0 = _; omega
    · obtain ⟨m, rfl⟩ : ∃ m, n = m + 1 := ⟨n - 1, by omega⟩
      rw [rds_cons h0]
      show np l = _
      rw [np_lk l (hl 1)]; rfl
  | succ k ih =>
    intro n hn
    by_cases h0 : nballs l = 0
    · rw [rds_nil h0]; have := lk_balls (k + 1 + 1) 0 l; show 0 = _; omega
    · obtain ⟨m, rfl⟩ : ∃ m, n = m + 1 := ⟨n - 1, by omega⟩
      rw [rds_cons h0]
      have e := el_balls l
      have p := np_ball hl h0
      show (rds m (el l))[k]?.getD 0 = _
      rw [ih hl.el m (by omega)]
      have a := (lk_el (k + 1) l (hl 1) 0 (Nat.zero_le _)).1
      have b := (lk_el k l (hl 1) 0 (Nat.zero_le _)).1
      omega
theorem rds_total {l : List Bool} (hl : Still l) : ∀ n, nballs l ≤ n → (rds n l).sum = nballs l := by
  intro n
  induction n generalizing l with
  | zero => intro h; show 0 = _; omega
  | succ n ih =>
    intro hn
    by_cases h0 : nballs l = 0
    · rw [rds_nil h0, h0]; rfl
    · have e := el_balls l
      have p := np_ball hl h0
      rw [rds_cons h0, List.sum_cons, ih hl.el (by omega)]; omega
theorem rds_len (l : List Bool) : ∀ n, (rds n l).length ≤ n := by
  intro n
  induction n generalizing l with
  | zero => exact Nat.le_refl _
  | succ n ih =>
    by_cases h0 : nballs l = 0
    · rw [rds_nil h0]; exact Nat.zero_le _
    · rw [rds_cons h0, List.length_cons]; have := ih (el l); omega

theorem rds_falls {l : List Bool} (hl : Still l) (n : Nat) (hn : nballs l ≤ n) : Falls (rds n l) := by
  intro k
  rw [rds_get hl (k + 1) n hn, rds_get hl k n hn]
  rw [(lk_row (k + 1 + 1) l).1, (lk_row (k + 1) l).1, (lk_row k l).1]
  obtain ⟨_, _, _, _, h5, h6⟩ := three k (bx l) l.length
  have h5' : tk (k + 2) (bx l) l.length + tk k (bx l) l.length ≤ 2 * tk (k + 1) (bx l) l.length := by omega
  show tk (k + 2) (bx l) l.length - _ ≤ _
  omega

def pad (l : List Bool) : List Bool := l ++ List.replicate (nballs l) false
theorem bx_pad (l : List Bool) : bx (pad l) = bx l := by
  funext i
  unfold pad bx
  by_cases h : i < l.length
  · rw [List.getElem?_append_left h]
  · rw [List.getElem?_append_right (by omega), List.getElem?_eq_none_iff.2 (show l.length ≤ i by omega), List.getElem?_replicate]; split <;> rfl
theorem pad_length (l : List Bool) : (pad l).length = l.length + nballs l := by simp [pad]
theorem nballs_pad (l : List Bool) : nballs (pad l) = nballs l := by unfold pad nballs; simp [List.count_replicate]
theorem pad_still (l : List Bool) : Still (pad l) := by
  intro K
  rw [(lk_row K (pad l)).2, bx_pad, pad_length, ld_tail (fun i hi => bx_out l i hi)]
  have h1 := ld_le_cn K (bx l) l.length
  have h2 := nballs_cn l l.length (Nat.le_refl _)
  omega
theorem lk_pad (K : Nat) (l : List Bool) : lk K 0 (pad l) = tk K (bx l) l.length := by
  rw [(lk_row K (pad l)).1, bx_pad, pad_length, tk_tail (fun i hi => bx_out l i hi)]
def rdB (l : List Bool) : List Nat := rds (nballs l) (pad l)
def shB3 (l : List Bool) : List Nat := shp (rdB l)
theorem rdB_falls (l : List Bool) : Falls (rdB l) := rds_falls (pad_still l) _ (by rw [nballs_pad]; exact Nat.le_refl _)
theorem rdB_total (l : List Bool) : (rdB l).sum = nballs l := by
  unfold rdB; rw [rds_total (pad_still l) _ (by rw [nballs_pad]; exact Nat.le_refl _), nballs_pad]
theorem rdB_same {l m : List Bool} (h : ∀ K, tk K (bx l) l.length = tk K (bx m) m.length) (hb : nballs l = nballs m) : rdB l = rdB m := by
  unfold rdB
  rw [← hb]
  exact rds_same (pad_still l) (pad_still m) (fun K => by rw [lk_pad, lk_pad]; exact h K) _
theorem rdB_ext {l m : List Bool} (h : bx l = bx m) : rdB l = rdB m := by
  apply rdB_same
  · intro K
    have a := tk_tail (K := K) (f := bx l) (n := l.length) (fun i hi => bx_out l i hi) m.length
    have b := tk_tail (K := K) (f := bx m) (n := m.length) (fun i hi => bx_out m i hi) l.length
    rw [h] at a
    rw [h, ← a, ← b, Nat.add_comm]
  · rw [nballs_cn l (l.length + m.length) (by omega), nballs_cn m (l.length + m.length) (by omega), h]
end Go.Proofs.YtdooboibmllfkabGreatDoor

namespace Go.Proofs.YtdooboibmllfkabGreatDoor
set_option maxRecDepth 100000

def wb : List (Nat × Nat) → List Bool
  | [] => []
  | p :: ps => List.replicate p.1 true ++ (List.replicate p.2 false ++ wb ps)
theorem nballs_wb (ps : List (Nat × Nat)) : nballs (wb ps) = (ps.map (·.1)).sum := by
  induction ps with
  | nil => rfl
  | cons p ps ih =>
    unfold nballs at ih ⊢
    show List.count true (List.replicate p.1 true ++ (List.replicate p.2 false ++ wb ps)) = _
    rw [List.count_append, List.count_append, ih, List.map_cons, List.sum_cons, List.count_replicate, List.count_replicate]
    simp
theorem nballs_gap (g : Nat) (l : List Bool) : nballs (List.replicate g false ++ l) = nballs l := by unfold nballs; rw [List.count_append, List.count_replicate]; simp
theorem mem_le_sum : ∀ (l : List Nat) (x : Nat), x ∈ l → x ≤ l.sum := by
  intro l
  induction l with
  | nil => intro x h; cases h
  | cons y l ih =>
    intro x h
    rw [List.sum_cons]
    rcases List.mem_cons.1 h with rfl | h
    · omega
    · have := ih x h; omega
end Go.Proofs.YtdooboibmllfkabGreatDoor

namespace Go.Proofs.YtdooboibmllfkabGreatDoor
set_option maxRecDepth 100000

def rrF : List Bool → List Nat → List Nat → Nat → Nat → List Nat × List Nat
  | [], R, G, n, _ => (if n = 0 then R else R ++ [n], G)
  | b :: t, R, G, n, gap => if b then rrF t R (if n = 0 ∧ R ≠ [] then G ++ [gap] else G) (n + 1) 0 else rrF t (if n = 0 then R else R ++ [n]) G 0 (gap + 1)
def rr (l : List Bool) : List Nat × List Nat := rrF l [] [] 0 0
def good : List (Nat × Nat) → Prop
  | [] => True
  | p :: ps => 1 ≤ p.1 ∧ (ps ≠ [] → 1 ≤ p.2) ∧ good ps
theorem rrF_false (t : List Bool) (R G : List Nat) (n gap : Nat) : rrF (false :: t) R G n gap = rrF t (if n = 0 then R else R ++ [n]) G 0 (gap + 1) := rfl
theorem rrF_true (t : List Bool) (R G : List Nat) (n gap : Nat) : rrF (true :: t) R G n gap = rrF t R (if n = 0 ∧ R ≠ [] then G ++ [gap] else G) (n + 1) 0 := rfl
theorem rrF_gap (g : Nat) (t : List Bool) (R G : List Nat) (gap : Nat) : rrF (List.replicate g false ++ t) R G 0 gap = rrF t R G 0 (gap + g) := by
  induction g generalizing gap with
  | zero => rfl
  | succ g ih => rw [List.replicate_succ, List.cons_append, rrF_false, if_pos rfl, ih, show gap + 1 + g = gap + (g + 1) by omega]
theorem rrF_run (r : Nat) (t : List Bool) (R G : List Nat) (n : Nat) (hn : 1 ≤ n) (gap : Nat) (hg : gap = 0) : rrF (List.replicate r true ++ t) R G n gap = rrF t R G (n + r) 0 := by
  subst hg
  induction r generalizing n with
  | zero => rfl
  | succ r ih =>
    rw [List.replicate_succ, List.cons_append, rrF_true, if_neg (by omega), ih (n + 1) (by omega), show n + 1 + r = n + (r + 1) by omega]
theorem rrF_wb : ∀ (ps : List (Nat × Nat)) (R G : List Nat) (gap : Nat), good ps →
    rrF (wb ps) R G 0 gap = (R ++ ps.map (·.1), if ps = [] then G else G ++ ((if R = [] then [] else [gap]) ++ (ps.map (·.2)).dropLast)) := by
  intro ps
  induction ps with
  | nil => intro R G gap _; show (if 0 = 0 then R else R ++ [0], G) = _; simp
  | cons p ps ih =>
    intro R G gap ⟨h1, h2, h3⟩
    obtain ⟨r, h⟩ := p
    simp only at h1 h2
    obtain ⟨k, rfl⟩ : ∃ k, r = k + 1 := ⟨r - 1, by omega⟩
    have e : wb ((k + 1, h) :: ps) = true :: (List.replicate k true ++ (List.replicate h false ++ wb ps)) := by
      show List.replicate (k + 1) true ++ _ = _; rw [List.replicate_succ]; rfl
    rw [e, rrF_true, rrF_run k _ _ _ (0 + 1) (by omega) 0 rfl, show 0 + 1 + k = k + 1 by omega]
    obtain ⟨G2, hG2⟩ : ∃ G2, G2 = (if 0 = 0 ∧ R ≠ [] then G ++ [gap] else G) := ⟨_, rfl⟩
    rw [← hG2]
    have eG : G2 = G ++ (if R = [] then [] else [gap]) := by
      rw [hG2]
      by_cases hR : R = []
      · simp [hR]
      · simp [hR]
    cases h with
    | zero =>
      have hps : ps = [] := by
        cases ps with
        | nil => rfl
        | cons q qs => have := h2 (by simp); omega
      subst hps
      show (if k + 1 = 0 then R else R ++ [k + 1], G2) = _
      rw [if_neg (by omega), eG]
      simp
    | succ h =>
      rw [List.replicate_succ, List.cons_append, rrF_false, if_neg (by omega), rrF_gap, ih _ _ _ h3, eG]
      cases ps with
      | nil => simp
      | cons q qs => simp [show 0 + 1 + h = h + 1 by omega]
theorem blocks (l : List Bool) : ∃ g ps, good ps ∧ l = List.replicate g false ++ wb ps := by
  induction l with
  | nil => exact ⟨0, [], trivial, rfl⟩
  | cons b t ih =>
    obtain ⟨g, ps, hg, rfl⟩ := ih
    cases b
    · exact ⟨g + 1, ps, hg, by rw [List.replicate_succ]; rfl⟩
    · cases g with
      | zero =>
        cases ps with
        | nil => exact ⟨0, [(1, 0)], ⟨Nat.le_refl _, fun h => absurd rfl h, trivial⟩, rfl⟩
        | cons p ps =>
          obtain ⟨r, h⟩ := p
          obtain ⟨h1, h2, h3⟩ := hg
          refine ⟨0, (r + 1, h) :: ps, ⟨by show 1 ≤ r + 1; omega, h2, h3⟩, ?_⟩
          show true :: (List.replicate r true ++ _) = List.replicate (r + 1) true ++ _
          rw [List.replicate_succ]; rfl
      | succ g => exact ⟨0, (1, g + 1) :: ps, ⟨Nat.le_refl _, fun _ => by show 1 ≤ g + 1; omega, hg⟩, rfl⟩
theorem rr_blocks {g : Nat} {ps : List (Nat × Nat)} (h : good ps) : rr (List.replicate g false ++ wb ps) = (ps.map (·.1), (ps.map (·.2)).dropLast) := by
  unfold rr
  rw [rrF_gap, rrF_wb ps [] [] _ h]
  cases ps with
  | nil => rfl
  | cons p ps => simp
theorem rrF_pad (z : Nat) : ∀ (l : List Bool) (R G : List Nat) (n gap : Nat), rrF (l ++ List.replicate z false) R G n gap = rrF l R G n gap := by
  intro l
  induction l with
  | nil =>
    intro R G n gap
    cases z with
    | zero => rfl
    | succ z =>
      rw [List.nil_append, List.replicate_succ, rrF_false]
      have h := rrF_gap z [] (if n = 0 then R else R ++ [n]) G (gap + 1)
      rw [List.append_nil] at h
      rw [h]
      show (if 0 = 0 then _ else _, G) = (if n = 0 then R else R ++ [n], G)
      rw [if_pos rfl]
  | cons b t ih =>
    intro R G n gap
    cases b
    · rw [List.cons_append, rrF_false, rrF_false, ih]
    · rw [List.cons_append, rrF_true, rrF_true, ih]
theorem rr_ext {l m : List Bool} (h : bx l = bx m) : rr l = rr m := by
  have e : ∀ l : List Bool, rr l = rr (cut l) := by
    intro l
    obtain ⟨n, hn⟩ := cut_eq l
    have : rr l = rr (cut l ++ List.replicate n false) := by rw [← hn]
    rw [this]; exact rrF_pad n (cut l) [] [] 0 0
  have hc : cut l = cut m := cut_ext (fun i => by rw [h])
  rw [e l, e m, hc]

def apB (R G : List Nat) : Bool := (List.range G.length).all fun i => decide (R.getD i 0 ≤ R.getD (i + 1) 0) && decide (R.getD i 0 ≤ G.getD i 0)
def apart : List (Nat × Nat) → Prop
  | [] => True
  | [_] => True
  | p :: q :: ps => p.1 ≤ q.1 ∧ p.1 ≤ p.2 ∧ apart (q :: ps)
theorem lk_runs : ∀ (ps : List (Nat × Nat)), good ps → lk 1 0 (wb ps) = ps.length := by
  have ones : ∀ r t, lk 1 1 (List.replicate r true ++ t) = lk 1 1 t := by
    intro r
    induction r with
    | zero => intro t; rfl
    | succ r ih => intro t; rw [List.replicate_succ, List.cons_append, lk_full 1 1 _ (by omega), ih]
  have zeros : ∀ h t, lk 1 0 (List.replicate h false ++ t) = lk 1 0 t := by
    intro h
    induction h with
    | zero => intro t; rfl
    | succ h ih => intro t; rw [List.replicate_succ, List.cons_append, lk_none]; exact ih t
  intro ps
  induction ps with
  | nil => intro _; rfl
  | cons p ps ih =>
    intro ⟨h1, h2, h3⟩
    obtain ⟨r, h⟩ := p
    simp only at h1 h2
    obtain ⟨k, rfl⟩ : ∃ k, r = k + 1 := ⟨r - 1, by omega⟩
    have e : wb ((k + 1, h) :: ps) = true :: (List.replicate k true ++ (List.replicate h false ++ wb ps)) := by
      show List.replicate (k + 1) true ++ _ = _; rw [List.replicate_succ]; rfl
    rw [e, lk_take 1 0 _ (by omega), ones]
    cases h with
    | zero =>
      have hps : ps = [] := by
        cases ps with
        | nil => rfl
        | cons q qs => have := h2 (by simp); omega
      subst hps; rfl
    | succ h =>
      rw [List.replicate_succ, List.cons_append, lk_none, zeros, ih h3, List.length_cons]; omega
theorem runs_energy (l : List Bool) : (rr l).1.length = tk 1 (bx l) l.length ∧ (rr l).1.sum = nballs l ∧ ∀ x ∈ (rr l).1, 1 ≤ x := by
  obtain ⟨g, ps, hg, rfl⟩ := blocks l
  rw [rr_blocks hg]
  refine ⟨?_, ?_, ?_⟩
  · rw [← (lk_row 1 _).1]
    have : ∀ g, lk 1 0 (List.replicate g false ++ wb ps) = lk 1 0 (wb ps) := by
      intro g
      induction g with
      | zero => rfl
      | succ g ih => rw [List.replicate_succ, List.cons_append, lk_none]; exact ih
    rw [this, lk_runs ps hg, List.length_map]
  · rw [nballs_gap, nballs_wb]
  · intro x hx
    obtain ⟨p, hp, rfl⟩ := List.mem_map.1 hx
    clear hx
    induction ps with
    | nil => cases hp
    | cons q qs ih =>
      rcases List.mem_cons.1 hp with rfl | hp
      · exact hg.1
      · exact ih hg.2.2 hp

end Go.Proofs.YtdooboibmllfkabGreatDoor

namespace Go.Proofs.YtdooboibmllfkabGreatDoor
set_option maxRecDepth 100000
open Go.RowKit

def gl (f : Nat → Bool) (i : Nat) : Nat → Nat
  | 0 => 0
  | j + 1 => if f j then (if j < i then gl f i j + 1 else gl f i j) else gl f i j - 1
def up (g : Nat → Bool) (k j : Nat) : Bool := if j = k then true else g j

def fc (N : Nat) (g : Nat → Bool) : List Bool := (List.range N).map g
end Go.Proofs.YtdooboibmllfkabGreatDoor
