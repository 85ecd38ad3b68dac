/- THE ROW OF A RIGGED PARTITION: done back from the last box it leads back, both ways. Pure: nothing of the program is named here. -/
import Derived.Test.YteibopcneflidaaDoorRig3
namespace Go.Proofs.YteibopcneflidaaDoor

def pSorted (l : List (Int × Int)) : Prop := l.Pairwise (fun x y => pLess x y = false)
theorem pLess_iff (a b : Int × Int) : pLess a b = true ↔ a.1 < b.1 ∨ (a.1 = b.1 ∧ a.2 < b.2) := by unfold pLess; simp
theorem pLess_false (a b : Int × Int) : pLess a b = false ↔ ¬ (a.1 < b.1 ∨ (a.1 = b.1 ∧ a.2 < b.2)) := by rw [← pLess_iff]; simp
theorem pPut_sorted (l : List (Int × Int)) (a : Int × Int) (h : pSorted l) : pSorted (pPut l a) := by
  induction l with
  | nil => exact List.pairwise_singleton _ _
  | cons x l ih =>
    obtain ⟨h1, h2⟩ := List.pairwise_cons.1 h
    rw [pPut_cons]
    split
    · next hc =>
      refine List.pairwise_cons.2 ⟨fun y hy => ?_, h⟩
      rcases List.mem_cons.1 hy with rfl | hy
      · have := (pLess_iff _ _).1 hc
        rw [pLess_false]
        omega
      · have e1 := (pLess_iff _ _).1 hc
        have e2 := (pLess_false _ _).1 (h1 y hy)
        rw [pLess_false]
        omega
    · next hc =>
      refine List.pairwise_cons.2 ⟨fun y hy => ?_, ih h2⟩
      rcases (pPut_mem _ _ _).1 hy with rfl | hy
      · simpa using hc
      · exact h1 y hy
theorem pPut_perm (l : List (Int × Int)) (a : Int × Int) : (pPut l a).Perm (a :: l) := by
  induction l with
  | nil => exact List.Perm.refl _
  | cons x l ih =>
    rw [pPut_cons]
    split
    · exact List.Perm.refl _
    · exact (List.Perm.cons x ih).trans (List.Perm.swap a x l)
theorem pSorted_eq : ∀ (l m : List (Int × Int)), pSorted l → pSorted m → l.Perm m → l = m
  | [], m, _, _, hp => (List.nil_perm.1 hp).symm
  | x :: l, [], _, _, hp => by have := hp.length_eq; simp at this
  | x :: l, y :: m, hl, hm, hp => by
    obtain ⟨l1, l2⟩ := List.pairwise_cons.1 hl
    obtain ⟨m1, m2⟩ := List.pairwise_cons.1 hm
    have e : x = y := by
      have hx : x ∈ y :: m := hp.mem_iff.1 (List.mem_cons_self ..)
      have hy : y ∈ x :: l := hp.mem_iff.2 (List.mem_cons_self ..)
      rcases List.mem_cons.1 hx with h | h
      · exact h
      rcases List.mem_cons.1 hy with h' | h'
      · exact h'.symm
      have a1 := (pLess_false _ _).1 (m1 x h)
      have a2 := (pLess_false _ _).1 (l1 y h')
      exact Prod.ext (by omega) (by omega)
    subst e
    rw [pSorted_eq l m l2 m2 (List.perm_cons x |>.1 hp)]
theorem put_erase {l : List (Int × Int)} {a : Int × Int} (hl : pSorted l) (ha : a ∈ l) : pPut (l.erase a) a = l :=
  pSorted_eq _ _ (pPut_sorted _ _ (List.Pairwise.sublist (List.erase_sublist ..) hl)) hl ((pPut_perm _ _).trans (List.perm_cons_erase ha).symm)
theorem erase_put {l : List (Int × Int)} {a : Int × Int} (hl : pSorted l) : (pPut l a).erase a = l :=
  pSorted_eq _ _ (List.Pairwise.sublist (List.erase_sublist ..) (pPut_sorted l a hl)) hl (by
    have := (pPut_perm l a).erase a
    rwa [List.erase_cons_head] at this)
theorem sum_perm {l m : List (Int × Int)} (h : l.Perm m) (f : Int × Int → Int) : (l.map f).sum = (m.map f).sum := by
  induction h with
  | nil => rfl
  | cons x _ ih => simp only [List.map_cons, List.sum_cons]; rw [ih]
  | swap x y l => simp only [List.map_cons, List.sum_cons]; omega
  | trans _ _ a b => rw [a, b]
theorem room_perm {l m : List (Int × Int)} (h : l.Perm m) (n j : Int) : pRoom l n j = pRoom m n j := by unfold pRoom; rw [sum_perm h]
theorem room_cons (a : Int × Int) (l : List (Int × Int)) (n j : Int) : pRoom (a :: l) n j = pRoom l n j - 2 * min j a.1 := by unfold pRoom; simp only [List.map_cons, List.sum_cons]; omega
theorem room_put (a : Int × Int) (l : List (Int × Int)) (n j : Int) : pRoom (pPut l a) n j = pRoom l n j - 2 * min j a.1 := by rw [room_perm (pPut_perm l a), room_cons]
theorem room_erase {a : Int × Int} {l : List (Int × Int)} (h : a ∈ l) (n j : Int) : pRoom (l.erase a) n j = pRoom l n j + 2 * min j a.1 := by
  have := room_perm (List.perm_cons_erase h) n j
  rw [room_cons] at this
  omega

/-- the first of a sorted list, if the parts that are looked for have no greater size and one of a size has one rigging -/
theorem find_first {l : List (Int × Int)} {f : Int × Int → Bool} {a : Int × Int} (hl : pSorted l) (ha : a ∈ l) (hf : f a = true)
    (h : ∀ b ∈ l, f b = true → b.1 ≤ a.1 ∧ (b.1 = a.1 → b.2 = a.2)) : l.find? f = some a := by
  induction l with
  | nil => cases ha
  | cons x l ih =>
    obtain ⟨h1, h2⟩ := List.pairwise_cons.1 hl
    rw [List.find?_cons]
    cases hx : f x
    · rcases List.mem_cons.1 ha with rfl | ha
      · rw [hf] at hx; cases hx
      · exact ih h2 ha (fun b hb => h b (List.mem_cons_of_mem _ hb))
    · rcases List.mem_cons.1 ha with rfl | ha
      · rfl
      · obtain ⟨k1, k2⟩ := h x (List.mem_cons_self ..) hx
        have k3 := (pLess_false _ _).1 (h1 a ha)
        have e1 : x.1 = a.1 := by omega
        exact congrArg some (Prod.ext e1 (k2 e1))
theorem find_last {l : List (Int × Int)} {f : Int × Int → Bool} {a : Int × Int} (hl : pSorted l) (ha : a ∈ l) (hf : f a = true)
    (h : ∀ b ∈ l, f b = true → a.1 ≤ b.1 ∧ (b.1 = a.1 → b.2 = a.2)) : l.reverse.find? f = some a := by
  induction l with
  | nil => cases ha
  | cons x l ih =>
    obtain ⟨h1, h2⟩ := List.pairwise_cons.1 hl
    rw [List.reverse_cons, List.find?_append]
    by_cases hm : a ∈ l
    · rw [ih h2 hm (fun b hb => h b (List.mem_cons_of_mem _ hb))]; rfl
    · rcases List.mem_cons.1 ha with rfl | ha
      · cases hr : l.reverse.find? f with
        | none => simp [hf]
        | some b =>
          have hb : b ∈ l := List.mem_reverse.1 (List.mem_of_find?_eq_some hr)
          have hfb := List.find?_some hr
          obtain ⟨k1, k2⟩ := h b (List.mem_cons_of_mem _ hb) hfb
          have k3 := (pLess_false _ _).1 (h1 b hb)
          have e1 : b.1 = a.1 := by omega
          have e2 : b = a := Prod.ext e1 (k2 e1)
          rw [e2]
          rfl
      · exact absurd ha hm
/-- of the parts that are looked for, the first one of a sorted list has the greatest size -/
theorem first_max {l : List (Int × Int)} {f : Int × Int → Bool} {a : Int × Int} (hl : pSorted l) (h : l.find? f = some a) : ∀ b ∈ l, f b = true → b.1 ≤ a.1 := by
  induction l with
  | nil => intro b hb; cases hb
  | cons x l ih =>
    obtain ⟨h1, h2⟩ := List.pairwise_cons.1 hl
    rw [List.find?_cons] at h
    intro b hb hf
    cases hx : f x
    · rw [hx] at h
      rcases List.mem_cons.1 hb with rfl | hb
      · rw [hf] at hx; cases hx
      · exact ih h2 h b hb hf
    · rw [hx] at h
      cases h
      rcases List.mem_cons.1 hb with rfl | hb
      · exact Int.le_refl _
      · have := (pLess_false _ _).1 (h1 b hb)
        omega
theorem last_min {l : List (Int × Int)} {f : Int × Int → Bool} {a : Int × Int} (hl : pSorted l) (h : l.reverse.find? f = some a) : ∀ b ∈ l, f b = true → a.1 ≤ b.1 := by
  induction l with
  | nil => intro b hb; cases hb
  | cons x l ih =>
    obtain ⟨h1, h2⟩ := List.pairwise_cons.1 hl
    rw [List.reverse_cons, List.find?_append] at h
    intro b hb hf
    cases hr : l.reverse.find? f with
    | some c =>
      rw [hr] at h
      cases h
      rcases List.mem_cons.1 hb with rfl | hb
      · have := (pLess_false _ _).1 (h1 a (List.mem_reverse.1 (List.mem_of_find?_eq_some hr)))
        omega
      · exact ih h2 hr b hb hf
    | none =>
      rw [hr] at h
      have hx : x = a := by
        simp at h
        exact h.2
      subst hx
      rcases List.mem_cons.1 hb with rfl | hb
      · exact Int.le_refl _
      · have := List.find?_eq_none.1 hr b (List.mem_reverse.2 hb)
        exact absurd hf this
end Go.Proofs.YteibopcneflidaaDoor
