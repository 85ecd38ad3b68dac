/- TEXTS Cir10. -/
import Derived.Test.YtdooboibmllfkaaGreatDoorExa13
namespace Go.Proofs.YtdooboibmllfkaaGreatDoor
set_option maxRecDepth 100000

def prl : List Bool → Bool → List Bool
  | [], _ => []
  | x :: l, q => (x && !(hd l q)) :: prl l q
theorem prl_length : ∀ (l : List Bool) (q : Bool), (prl l q).length = l.length
  | [], _ => rfl
  | x :: l, q => by show (prl l q).length + 1 = _; rw [prl_length l q]; rfl
theorem hd_get (l : List Bool) (q : Bool) : hd l q = (l[0]?).getD q := by unfold hd; rw [List.head?_eq_getElem?]
theorem prl_get : ∀ (l : List Bool) (q : Bool) (j : Nat) (x : Bool), l[j]? = some x → (prl l q)[j]? = some (x && !((l[j + 1]?).getD q))
  | [], _, j, x, h => by simp at h
  | y :: l, q, 0, x, h => by
    have e : y = x := by simpa using h
    subst e
    show some (y && !(hd l q)) = _
    rw [hd_get]
    rfl
  | y :: l, q, j + 1, x, h => by
    have := prl_get l q j x (by simpa using h)
    simpa [prl] using this
theorem k10_count : ∀ (l : List Bool) (p q : Bool), nballs (k10 p l q) + (prl l q).count true = nballs l
  | [], _, _ => rfl
  | x :: l, p, q => by
    have ih := k10_count l x q
    unfold nballs at ih ⊢
    cases x <;> cases p <;> cases hh : hd l q <;> simp [k10, prl, hh] <;> omega
theorem m10_get : ∀ (l : List Bool) (p q : Bool) (j : Nat) (x : Bool), l[j]? = some x → (m10 p l q)[j]? = some (if x then (l[j + 1]?).getD q else !(if j = 0 then p else l.getD (j - 1) false))
  | [], _, _, j, x, h => by simp at h
  | y :: l, p, q, 0, x, h => by
    have e : y = x := by simpa using h
    subst e
    show some (if y then hd l q else !p) = _
    rw [hd_get]
    rfl
  | y :: l, p, q, j + 1, x, h => by
    have h2 : (m10 p (y :: l) q)[j + 1]? = (m10 y l q)[j]? := rfl
    rw [h2, m10_get l y q j x (by simpa using h)]
    congr 1
    cases j with
    | zero => cases x <;> simp
    | succ j => cases x <;> simp
theorem ls_get : ∀ (l : List Bool) (p : Bool), l ≠ [] → ls p l = l.getD (l.length - 1) false
  | [], _, h => absurd rfl h
  | [x], p, _ => rfl
  | x :: y :: l, p, _ => by
    have := ls_get (y :: l) x (by simp)
    show ls x (y :: l) = _
    rw [this]
    simp
def pq (l : List Bool) : List Bool := prl l (hd l false)
theorem pq_length (l : List Bool) : (pq l).length = l.length := prl_length _ _
theorem cyc_get {l : List Bool} {j : Nat} (hj : j < l.length) : (l[j + 1]?).getD (hd l false) = l.getD ((j + 1) % l.length) false := by
  by_cases h : j + 1 < l.length
  · rw [Nat.mod_eq_of_lt h, List.getElem?_eq_getElem h, List.getD_eq_getElem?_getD, List.getElem?_eq_getElem h]
    rfl
  · have e : j + 1 = l.length := by omega
    rw [e, Nat.mod_self, List.getElem?_eq_none_iff.2 (by omega), hd_get, List.getD_eq_getElem?_getD]
    rfl
theorem getD_someC {α : Type} {l : List α} {j : Nat} {d : α} (hj : j < l.length) : l[j]? = some (l.getD j d) := by
  rw [List.getD_eq_getElem?_getD, List.getElem?_eq_getElem hj]
  rfl
theorem pq_get {l : List Bool} {j : Nat} (hj : j < l.length) : (pq l)[j]? = some (l.getD j false && !(l.getD ((j + 1) % l.length) false)) := by
  unfold pq
  rw [prl_get l _ j _ (getD_someC (d := false) hj), cyc_get hj]
theorem cm_get {l : List Bool} {j : Nat} (hj : j < l.length) : (cm l)[j]? = some (if l.getD j false then l.getD ((j + 1) % l.length) false else !(l.getD (if j = 0 then l.length - 1 else j - 1) false)) := by
  unfold cm
  rw [m10_get l _ _ j _ (getD_someC (d := false) hj), cyc_get hj]
  congr 1
  have hne : l ≠ [] := by intro e; rw [e] at hj; simp at hj
  rw [ls_get l false hne]
  by_cases h0 : j = 0
  · rw [if_pos h0, if_pos h0]
  · rw [if_neg h0, if_neg h0]
theorem cm_false {l : List Bool} {j : Nat} (hj : j < l.length) : (cm l)[j]? = some false ↔ ∃ i, i < l.length ∧ (pq l)[i]? = some true ∧ (j = i ∨ j = (i + 1) % l.length) := by
  rw [cm_get hj]
  constructor
  · intro h
    have h' := Option.some.inj h
    cases hx : l.getD j false
    · rw [hx] at h'
      simp only [Bool.false_eq_true, if_false] at h'
      by_cases h0 : j = 0
      · rw [if_pos h0] at h'
        refine ⟨l.length - 1, by omega, ?_, .inr (by rw [show l.length - 1 + 1 = l.length by omega, Nat.mod_self]; exact h0)⟩
        rw [pq_get (by omega), show l.length - 1 + 1 = l.length by omega, Nat.mod_self]
        rw [h0] at hx
        rw [hx]
        cases hy : l.getD (l.length - 1) false
        · rw [hy] at h'; cases h'
        · rfl
      · rw [if_neg h0] at h'
        refine ⟨j - 1, by omega, ?_, .inr (by rw [show j - 1 + 1 = j by omega, Nat.mod_eq_of_lt hj])⟩
        rw [pq_get (by omega), show j - 1 + 1 = j by omega, Nat.mod_eq_of_lt hj, hx]
        cases hy : l.getD (j - 1) false
        · rw [hy] at h'; cases h'
        · rfl
    · rw [hx] at h'
      simp only [if_true] at h'
      exact ⟨j, hj, by rw [pq_get hj, hx, h']; rfl, .inl rfl⟩
  · rintro ⟨i, hi, hp, h⟩
    rw [pq_get hi] at hp
    have hp' := Option.some.inj hp
    rw [Bool.and_eq_true, Bool.not_eq_true'] at hp'
    obtain ⟨p1, p2⟩ := hp'
    rcases h with rfl | rfl
    · rw [p1, p2]; rfl
    · rw [p2]
      simp only [Bool.false_eq_true, if_false]
      congr 1
      by_cases h : i + 1 < l.length
      · rw [Nat.mod_eq_of_lt h, if_neg (by omega), show i + 1 - 1 = i by omega, p1]
        rfl
      · have e : i + 1 = l.length := by omega
        rw [e, Nat.mod_self, if_pos rfl, show l.length - 1 = i by omega, p1]
        rfl
theorem cm_some {l : List Bool} {j : Nat} (hj : j < l.length) : ∃ b, (cm l)[j]? = some b := ⟨_, cm_get hj⟩

def Prt (l : List Bool) (left : List Nat) (i : Nat) (ps : List Int) : Prop :=
  ps.length = l.length ∧ ∀ k x, ps[k]? = some x → (0 ≤ x ↔ (k ∉ left ∨ ∃ j i', left[j]? = some k ∧ i' < i ∧ (pq (sgs l left))[i']? = some true ∧ (j = i' ∨ j = (i' + 1) % left.length)))
theorem sgs_length (l : List Bool) (left : List Nat) : (sgs l left).length = left.length := by simp [sgs]
theorem sgs_get {l : List Bool} {left : List Nat} {j a : Nat} (h : left[j]? = some a) : (sgs l left).getD j false = l.getD a false := by
  unfold sgs
  rw [List.getD_eq_getElem?_getD, List.getElem?_map, h]
  rfl
theorem pq_at {l : List Bool} {left : List Nat} {i a b : Nat} (ha : left[i]? = some a) (hb : left[(i + 1) % left.length]? = some b) : (pq (sgs l left))[i]? = some (l.getD a false && !(l.getD b false)) := by
  have hi : i < (sgs l left).length := by rw [sgs_length]; exact (List.getElem?_eq_some_iff.1 ha).1
  rw [pq_get hi, sgs_length, sgs_get ha, sgs_get hb]
theorem prt_no {l : List Bool} {left : List Nat} {i : Nat} {ps : List Int} (h : Prt l left i ps) (hp : (pq (sgs l left))[i]? = some false) : Prt l left (i + 1) ps := by
  refine ⟨h.1, fun k x hx => ?_⟩
  rw [h.2 k x hx]
  constructor
  · rintro (h1 | ⟨j, i', h1, h2, h3⟩)
    · exact .inl h1
    · exact .inr ⟨j, i', h1, by omega, h3⟩
  · rintro (h1 | ⟨j, i', h1, h2, h3, h4⟩)
    · exact .inl h1
    · by_cases e : i' = i
      · subst e; rw [hp] at h3; cases h3
      · exact .inr ⟨j, i', h1, by omega, h3, h4⟩
theorem prt_yes {l : List Bool} {left : List Nat} {i a b : Nat} {ps : List Int} (h : Prt l left i ps) (ha : left[i]? = some a) (hb : left[(i + 1) % left.length]? = some b)
    (hp : (pq (sgs l left))[i]? = some true) {u v : Int} (hu : 0 ≤ u) (hv : 0 ≤ v) : Prt l left (i + 1) ((ps.set a u).set b v) := by
  refine ⟨by rw [List.length_set, List.length_set]; exact h.1, fun k x hx => ?_⟩
  rw [List.getElem?_set, List.getElem?_set, List.length_set] at hx
  by_cases e1 : b = k
  · subst e1
    rw [if_pos rfl] at hx
    have hx2 : x = v := by split at hx <;> simp_all
    subst hx2
    exact ⟨fun _ => .inr ⟨_, i, hb, by omega, hp, .inr rfl⟩, fun _ => hv⟩
  · rw [if_neg e1] at hx
    by_cases e2 : a = k
    · subst e2
      rw [if_pos rfl] at hx
      have hx2 : x = u := by split at hx <;> simp_all
      subst hx2
      exact ⟨fun _ => .inr ⟨_, i, ha, by omega, hp, .inl rfl⟩, fun _ => hu⟩
    · rw [if_neg e2] at hx
      rw [h.2 k x hx]
      constructor
      · rintro (h1 | ⟨j, i', h1, h2, h3⟩)
        · exact .inl h1
        · exact .inr ⟨j, i', h1, by omega, h3⟩
      · rintro (h1 | ⟨j, i', h1, h2, h3, h4⟩)
        · exact .inl h1
        · by_cases e : i' = i
          · subst e
            rcases h4 with rfl | rfl
            · rw [ha] at h1; exact absurd (Option.some.inj h1) e2
            · rw [hb] at h1; exact absurd (Option.some.inj h1) e1
          · exact .inr ⟨j, i', h1, by omega, h3, h4⟩
theorem nodup_get {left : List Nat} (hn : left.Nodup) {j j' k : Nat} (h : left[j]? = some k) (h' : left[j']? = some k) : j = j' := by
  obtain ⟨h1, e1⟩ := List.getElem?_eq_some_iff.1 h
  obtain ⟨h2, e2⟩ := List.getElem?_eq_some_iff.1 h'
  exact (List.getElem_inj hn).1 (e1.trans e2.symm)
theorem prt_mark {l : List Bool} {left : List Nat} {ps : List Int} (h : Prt l left left.length ps) (hn : left.Nodup) {i k : Nat} {x : Int} (hk : left[i]? = some k) (hx : ps[k]? = some x) : (cm (sgs l left))[i]? = some (decide (x < 0)) := by
  have hi : i < (sgs l left).length := by rw [sgs_length]; exact (List.getElem?_eq_some_iff.1 hk).1
  have hf := cm_false hi
  rw [sgs_length] at hf
  have h2 := h.2 k x hx
  have hm : k ∈ left := List.mem_of_getElem? hk
  by_cases hx0 : 0 ≤ x
  · rw [decide_eq_false (by omega), hf]
    rcases h2.1 hx0 with h3 | ⟨j, i', h3, h4, h5, h6⟩
    · exact absurd hm h3
    · have e := nodup_get hn h3 hk
      subst e
      exact ⟨i', h4, h5, h6⟩
  · rw [decide_eq_true (by omega)]
    obtain ⟨b, hb⟩ := cm_some hi
    cases b
    · obtain ⟨i', h4, h5, h6⟩ := hf.1 hb
      exact absurd (h2.2 (.inr ⟨i, i', hk, h4, h5, h6⟩)) hx0
    · exact hb
theorem sel_snoc {α : Type} : ∀ (m : List Bool) (l : List α) (b : Bool) (x : α), m.length = l.length → sel (m ++ [b]) (l ++ [x]) = sel m l ++ if b then [x] else []
  | [], [], b, x, _ => by cases b <;> rfl
  | [], _ :: _, _, _, h => by simp at h
  | _ :: _, [], _, _, h => by simp at h
  | c :: m, y :: l, b, x, h => by
    have ih := sel_snoc m l b x (by simpa using h)
    cases c
    · simpa [sel] using ih
    · simpa [sel] using ih
theorem sel_take {α : Type} {m : List Bool} {l : List α} (h : m.length = l.length) {i : Nat} {b : Bool} {x : α} (hb : m[i]? = some b) (hx : l[i]? = some x) :
    sel (m.take (i + 1)) (l.take (i + 1)) = sel (m.take i) (l.take i) ++ if b then [x] else [] := by
  obtain ⟨h1, e1⟩ := List.getElem?_eq_some_iff.1 hb
  obtain ⟨h2, e2⟩ := List.getElem?_eq_some_iff.1 hx
  rw [List.take_succ_eq_append_getElem h1, List.take_succ_eq_append_getElem h2, e1, e2]
  exact sel_snoc _ _ _ _ (by rw [List.length_take, List.length_take, h])
theorem sel_sub {α : Type} : ∀ (m : List Bool) (l : List α), (sel m l).Sublist l
  | [], l => by simp [sel]
  | _ :: _, [] => by simp [sel]
  | b :: m, x :: l => by
    have ih := sel_sub m l
    cases b
    · exact ih.cons x
    · exact ih.cons_cons x
theorem sel_le {α : Type} (m : List Bool) (l : List α) (i : Nat) : (sel (m.take i) (l.take i)).length ≤ i := by
  have := (sel_sub (m.take i) (l.take i)).length_le
  rw [List.length_take] at this
  omega
theorem sel_nodup {m : List Bool} {left : List Nat} (hn : left.Nodup) (hl : m.length = left.length) {j k : Nat} (hk : left[j]? = some k) : k ∈ sel m left ↔ m[j]? = some true := by
  constructor
  · intro h
    have : ∀ (m : List Bool) (left : List Nat), k ∈ sel m left → ∃ j : Nat, m[j]? = some true ∧ left[j]? = some k := by
      intro m
      induction m with
      | nil => intro left h; simp [sel] at h
      | cons b m ih =>
        intro left h
        cases left with
        | nil => simp [sel] at h
        | cons y left =>
          cases b
          · obtain ⟨j, h1, h2⟩ := ih left (by simpa [sel] using h)
            exact ⟨j + 1, h1, h2⟩
          · rcases List.mem_cons.1 (by simpa [sel] using h) with rfl | h
            · exact ⟨0, rfl, rfl⟩
            · obtain ⟨j, h1, h2⟩ := ih left h
              exact ⟨j + 1, h1, h2⟩
    obtain ⟨j', h1, h2⟩ := this m left h
    rw [nodup_get hn hk h2]
    exact h1
  · intro h
    by_cases hm : k ∈ sel m left
    · exact hm
    · obtain ⟨j', h1, h2⟩ := sel_out m left k hl (List.mem_of_getElem? hk) hm
      rw [nodup_get hn h2 hk, h] at h1
      cases h1
theorem prt_next {l : List Bool} {left : List Nat} {ps : List Int} (h : Prt l left left.length ps) (hn : left.Nodup) : Prt l (nxt l left) 0 ps := by
  refine ⟨h.1, fun k x hx => ?_⟩
  have e : (k ∉ nxt l left ∨ ∃ j i', (nxt l left)[j]? = some k ∧ i' < 0 ∧ (pq (sgs l (nxt l left)))[i']? = some true ∧ (j = i' ∨ j = (i' + 1) % (nxt l left).length)) ↔ k ∉ nxt l left :=
    ⟨fun h => h.resolve_right (fun ⟨_, i', _, h0, _⟩ => absurd h0 (Nat.not_lt_zero i')), .inl⟩
  rw [e]
  by_cases hm : k ∈ left
  · obtain ⟨j, hj⟩ := List.getElem?_of_mem hm
    have hmk := prt_mark h hn hj hx
    have hs := sel_nodup (m := cm (sgs l left)) hn (by rw [cm_length, sgs_length]) hj
    unfold nxt
    rw [hs, hmk]
    simp
  · constructor
    · intro _ hc
      exact hm (sel_mem _ _ k hc)
    · intro _
      exact (h.2 k x hx).2 (.inl hm)
theorem nxt_nodup {l : List Bool} {left : List Nat} (hn : left.Nodup) : (nxt l left).Nodup := hn.sublist (sel_sub _ _)
theorem pq_count (x : List Bool) : nballs (c10 x) + (pq x).count true = nballs x := k10_count x _ _
theorem pq_len (x : List Bool) : 2 * (pq x).count true = x.length - (c10 x).length := by
  have h1 := c10_balls x
  have h2 := pq_count x
  omega
theorem pq_step {x : List Bool} {i : Nat} {b : Bool} (h : (pq x)[i]? = some b) : ((pq x).take (i + 1)).count true = ((pq x).take i).count true + if b then 1 else 0 := by
  obtain ⟨h1, e1⟩ := List.getElem?_eq_some_iff.1 h
  rw [List.take_succ_eq_append_getElem h1, e1, List.count_append, List.count_singleton]
  cases b <;> rfl
theorem cnt_end (f : Nat) {x : List Bool} (h : (pq x).count true = 0) : (c10 x).length = x.length ∧ cnt10 f x = [] := by
  have h1 := pq_len x
  have h2 := c10_le x
  have e : (c10 x).length = x.length := by omega
  refine ⟨e, ?_⟩
  cases f with
  | zero => rfl
  | succ f => simp only [cnt10]; rw [if_pos e]
theorem cnt_more {f : Nat} {l : List Bool} {left : List Nat} (h : (pq (sgs l left)).count true ≠ 0) (hf : nballs (sgs l left) ≤ f) :
    ∃ f', nballs (sgs l (nxt l left)) ≤ f' ∧ cnt10 f (sgs l left) = (pq (sgs l left)).count true :: cnt10 f' (sgs l (nxt l left)) := by
  have h1 := pq_count (sgs l left)
  have h2 := pq_len (sgs l left)
  have h3 := c10_le (sgs l left)
  obtain ⟨f', rfl⟩ : ∃ f', f = f' + 1 := ⟨f - 1, by omega⟩
  refine ⟨f', by rw [nxt_signs]; omega, ?_⟩
  rw [cnt_step f' (by omega)]
  congr 1
  omega
theorem nxt_less {l : List Bool} {left : List Nat} (h : (pq (sgs l left)).count true ≠ 0) : (nxt l left).length < left.length := by
  have e : (nxt l left).length = (c10 (sgs l left)).length := by rw [← nxt_signs, sgs_length]
  have h2 := pq_len (sgs l left)
  have h3 := c10_le (sgs l left)
  rw [sgs_length] at h2 h3
  omega
end Go.Proofs.YtdooboibmllfkaaGreatDoor
