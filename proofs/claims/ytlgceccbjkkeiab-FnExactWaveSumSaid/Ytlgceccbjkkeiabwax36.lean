/- TEXTS Rig4, Rig5. -/
import Derived.Test.Ytlgceccbjkkeiabwax35
/- THE ROW OF A RIGGED PARTITION: done back from the last box it leads back, both ways. Pure: nothing of the program is named here. -/
namespace Go.Proofs.Ytlgceccbjkkeiab

def pSorted (l : List (Int × Int)) : Prop := l.Pairwise (fun x y => pLess x y = false)
theorem pLess_iff (a b : Int × Int) : pLess a b = true ↔ a.1 < b.1 ∨ (a.1 = b.1 ∧ a.2 < b.2) := by unfold pLess; simp
theorem pLess_false (a b : Int × Int) : pLess a b = false ↔ ¬ (a.1 < b.1 ∨ (a.1 = b.1 ∧ a.2 < b.2)) := by rw [← pLess_iff]; simp
theorem pPut_sorted (l : List (Int × Int)) (a : Int × Int) (h : pSorted l) : pSorted (pPut l a) := by
  induction l with
  | nil => exact List.pairwise_singleton _ _
  | cons x l ih =>
    obtain ⟨h1, h2⟩ := List.pairwise_cons.1 h
    rw [pPut_cons]
    split
    · next hc =>
      refine List.pairwise_cons.2 ⟨fun y hy => ?_, h⟩
      rcases List.mem_cons.1 hy with rfl | hy
      · have := (pLess_iff _ _).1 hc
        rw [pLess_false]
        omega
      · have e1 := (pLess_iff _ _).1 hc
        have e2 := (pLess_false _ _).1 (h1 y hy)
        rw [pLess_false]
        omega
    · next hc =>
      refine List.pairwise_cons.2 ⟨fun y hy => ?_, ih h2⟩
      rcases (pPut_mem _ _ _).1 hy with rfl | hy
      · simpa using hc
      · exact h1 y hy
theorem pPut_perm (l : List (Int × Int)) (a : Int × Int) : (pPut l a).Perm (a :: l) := by
  induction l with
  | nil => exact List.Perm.refl _
  | cons x l ih =>
    rw [pPut_cons]
    split
    · exact List.Perm.refl _
    · exact (List.Perm.cons x ih).trans (List.Perm.swap a x l)
theorem pSorted_eq : ∀ (l m : List (Int × Int)), pSorted l → pSorted m → l.Perm m → l = m
  | [], m, _, _, hp => (List.nil_perm.1 hp).symm
  | x :: l, [], _, _, hp => by have := hp.length_eq; simp at this
  | x :: l, y :: m, hl, hm, hp => by
    obtain ⟨l1, l2⟩ := List.pairwise_cons.1 hl
    obtain ⟨m1, m2⟩ := List.pairwise_cons.1 hm
    have e : x = y := by
      have hx : x ∈ y :: m := hp.mem_iff.1 (List.mem_cons_self ..)
      have hy : y ∈ x :: l := hp.mem_iff.2 (List.mem_cons_self ..)
      rcases List.mem_cons.1 hx with h | h
      · exact h
      rcases List.mem_cons.1 hy with h' | h'
      · exact h'.symm
      have a1 := (pLess_false _ _).1 (m1 x h)
      have a2 := (pLess_false _ _).1 (l1 y h')
      exact Prod.ext (by omega) (by omega)
    subst e
    rw [pSorted_eq l m l2 m2 (List.perm_cons x |>.1 hp)]
theorem put_erase {l : List (Int × Int)} {a : Int × Int} (hl : pSorted l) (ha : a ∈ l) : pPut (l.erase a) a = l :=
  pSorted_eq _ _ (pPut_sorted _ _ (List.Pairwise.sublist (List.erase_sublist ..) hl)) hl ((pPut_perm _ _).trans (List.perm_cons_erase ha).symm)
theorem erase_put {l : List (Int × Int)} {a : Int × Int} (hl : pSorted l) : (pPut l a).erase a = l :=
  pSorted_eq _ _ (List.Pairwise.sublist (List.erase_sublist ..) (pPut_sorted l a hl)) hl (by
    have := (pPut_perm l a).erase a
    rwa [List.erase_cons_head] at this)
theorem sum_perm {l m : List (Int × Int)} (h : l.Perm m) (f : Int × Int → Int) : (l.map f).sum = (m.map f).sum := by
  induction h with
  | nil => rfl
  | cons x _ ih => simp only [List.map_cons, List.sum_cons]; rw [ih]
  | swap x y l => simp only [List.map_cons, List.sum_cons]; omega
  | trans _ _ a b => rw [a, b]
theorem room_perm {l m : List (Int × Int)} (h : l.Perm m) (n j : Int) : pRoom l n j = pRoom m n j := by unfold pRoom; rw [sum_perm h]
theorem room_cons (a : Int × Int) (l : List (Int × Int)) (n j : Int) : pRoom (a :: l) n j = pRoom l n j - 2 * min j a.1 := by unfold pRoom; simp only [List.map_cons, List.sum_cons]; omega
theorem room_put (a : Int × Int) (l : List (Int × Int)) (n j : Int) : pRoom (pPut l a) n j = pRoom l n j - 2 * min j a.1 := by rw [room_perm (pPut_perm l a), room_cons]
theorem room_erase {a : Int × Int} {l : List (Int × Int)} (h : a ∈ l) (n j : Int) : pRoom (l.erase a) n j = pRoom l n j + 2 * min j a.1 := by
  have := room_perm (List.perm_cons_erase h) n j
  rw [room_cons] at this
  omega

/-- the first of a sorted list, if the parts that are looked for have no greater size and one of a size has one rigging -/
theorem find_first {l : List (Int × Int)} {f : Int × Int → Bool} {a : Int × Int} (hl : pSorted l) (ha : a ∈ l) (hf : f a = true)
    (h : ∀ b ∈ l, f b = true → b.1 ≤ a.1 ∧ (b.1 = a.1 → b.2 = a.2)) : l.find? f = some a := by
  induction l with
  | nil => cases ha
  | cons x l ih =>
    obtain ⟨h1, h2⟩ := List.pairwise_cons.1 hl
    rw [List.find?_cons]
    cases hx : f x
    · rcases List.mem_cons.1 ha with rfl | ha
      · rw [hf] at hx; cases hx
      · exact ih h2 ha (fun b hb => h b (List.mem_cons_of_mem _ hb))
    · rcases List.mem_cons.1 ha with rfl | ha
      · rfl
      · obtain ⟨k1, k2⟩ := h x (List.mem_cons_self ..) hx
        have k3 := (pLess_false _ _).1 (h1 a ha)
        have e1 : x.1 = a.1 := by omega
        exact congrArg some (Prod.ext e1 (k2 e1))
theorem find_last {l : List (Int × Int)} {f : Int × Int → Bool} {a : Int × Int} (hl : pSorted l) (ha : a ∈ l) (hf : f a = true)
    (h : ∀ b ∈ l, f b = true → a.1 ≤ b.1 ∧ (b.1 = a.1 → b.2 = a.2)) : l.reverse.find? f = some a := by
  induction l with
  | nil => cases ha
  | cons x l ih =>
    obtain ⟨h1, h2⟩ := List.pairwise_cons.1 hl
    rw [List.reverse_cons, List.find?_append]
    by_cases hm : a ∈ l
    · rw [ih h2 hm (fun b hb => h b (List.mem_cons_of_mem _ hb))]; rfl
    · rcases List.mem_cons.1 ha with rfl | ha
      · cases hr : l.reverse.find? f with
        | none => simp [hf]
        | some b =>
          have hb : b ∈ l := List.mem_reverse.1 (List.mem_of_find?_eq_some hr)
          have hfb := List.find?_some hr
          obtain ⟨k1, k2⟩ := h b (List.mem_cons_of_mem _ hb) hfb
          have k3 := (pLess_false _ _).1 (h1 b hb)
          have e1 : b.1 = a.1 := by omega
          have e2 : b = a := Prod.ext e1 (k2 e1)
          rw [e2]
          rfl
      · exact absurd ha hm
/-- of the parts that are looked for, the first one of a sorted list has the greatest size -/
theorem first_max {l : List (Int × Int)} {f : Int × Int → Bool} {a : Int × Int} (hl : pSorted l) (h : l.find? f = some a) : ∀ b ∈ l, f b = true → b.1 ≤ a.1 := by
  induction l with
  | nil => intro b hb; cases hb
  | cons x l ih =>
    obtain ⟨h1, h2⟩ := List.pairwise_cons.1 hl
    rw [List.find?_cons] at h
    intro b hb hf
    cases hx : f x
    · rw [hx] at h
      rcases List.mem_cons.1 hb with rfl | hb
      · rw [hf] at hx; cases hx
      · exact ih h2 h b hb hf
    · rw [hx] at h
      cases h
      rcases List.mem_cons.1 hb with rfl | hb
      · exact Int.le_refl _
      · have := (pLess_false _ _).1 (h1 b hb)
        omega
theorem last_min {l : List (Int × Int)} {f : Int × Int → Bool} {a : Int × Int} (hl : pSorted l) (h : l.reverse.find? f = some a) : ∀ b ∈ l, f b = true → a.1 ≤ b.1 := by
  induction l with
  | nil => intro b hb; cases hb
  | cons x l ih =>
    obtain ⟨h1, h2⟩ := List.pairwise_cons.1 hl
    rw [List.reverse_cons, List.find?_append] at h
    intro b hb hf
    cases hr : l.reverse.find? f with
    | some c =>
      rw [hr] at h
      cases h
      rcases List.mem_cons.1 hb with rfl | hb
      · have := (pLess_false _ _).1 (h1 a (List.mem_reverse.1 (List.mem_of_find?_eq_some hr)))
        omega
      · exact ih h2 hr b hb hf
    | none =>
      rw [hr] at h
      have hx : x = a := by
        simp at h
        exact h.2
      subst hx
      rcases List.mem_cons.1 hb with rfl | hb
      · exact Int.le_refl _
      · have := List.find?_eq_none.1 hr b (List.mem_reverse.2 hb)
        exact absurd hf this
end Go.Proofs.Ytlgceccbjkkeiab

/- THE ROW OF A RIGGED PARTITION leads back to it, and the rigged partition of a high row to the row. Pure: nothing of the program is named here. -/
namespace Go.Proofs.Ytlgceccbjkkeiab

structure pFits (l : List (Int × Int)) (n : Int) : Prop where
  sorted : pSorted l
  part : ∀ a ∈ l, 1 ≤ a.1 ∧ 0 ≤ a.2 ∧ a.2 ≤ pRoom l n a.1
def pBack (l : List (Int × Int)) (n : Int) : List (Int × Int) :=
  match l.reverse.find? (pFull l n) with
  | none => l
  | some a => if a.1 = 1 then l.erase a else pPut (l.erase a) (a.1 - 1, pRoom (l.erase a) (n - 1) (a.1 - 1) - 2 * (a.1 - 1))
theorem pBack_none {l : List (Int × Int)} {n : Int} (h : l.reverse.find? (pFull l n) = none) : pBack l n = l := by unfold pBack; rw [h]
theorem pBack_one {l : List (Int × Int)} {n : Int} {a : Int × Int} (h : l.reverse.find? (pFull l n) = some a) (h1 : a.1 = 1) : pBack l n = l.erase a := by unfold pBack; rw [h]; exact if_pos h1
theorem pBack_more {l : List (Int × Int)} {n : Int} {a : Int × Int} (h : l.reverse.find? (pFull l n) = some a) (h1 : a.1 ≠ 1) : pBack l n = pPut (l.erase a) (a.1 - 1, pRoom (l.erase a) (n - 1) (a.1 - 1) - 2 * (a.1 - 1)) := by unfold pBack; rw [h]; exact if_neg h1
theorem pFull_iff (l : List (Int × Int)) (n : Int) (a : Int × Int) : pFull l n a = true ↔ a.2 = pRoom l n a.1 := by unfold pFull; simp
theorem erase_sorted {l : List (Int × Int)} (a : Int × Int) (h : pSorted l) : pSorted (l.erase a) := List.Pairwise.sublist (List.erase_sublist ..) h
theorem pStep_sorted {l : List (Int × Int)} (n : Int) (h : pSorted l) : pSorted (pStep l n) := by
  cases hf : l.find? (pFull l n) with
  | none => rw [pStep_none hf]; exact pPut_sorted _ _ h
  | some a => rw [pStep_some hf]; exact pPut_sorted _ _ (erase_sorted a h)
theorem kRc_sorted : ∀ p : List Bool, pSorted (kRc p)
  | [] => List.Pairwise.nil
  | false :: p => kRc_sorted p
  | true :: p => pStep_sorted _ (kRc_sorted p)
/-- a step is done back -/
theorem back_of_step {l : List (Int × Int)} {n : Int} (hs : pSorted l) (h : ∀ a ∈ l, 1 ≤ a.1 ∧ a.2 ≤ pRoom l n a.1) :
    (pStep l n).reverse.find? (pFull (pStep l n) (n + 1)) ≠ none ∧ pBack (pStep l n) (n + 1) = l := by
  cases hf : l.find? (pFull l n) with
  | none =>
    rw [pStep_none hf]
    unfold pNew
    obtain ⟨c, hc⟩ : ∃ c : Int × Int, c = (1, pRoom l (n + 1) 1 - 2 * 1) := ⟨_, rfl⟩
    rw [← hc]
    have c1 : c.1 = 1 := by rw [hc]
    have c2 : c.2 = pRoom l (n + 1) 1 - 2 * 1 := by rw [hc]
    have hl : (pPut l c).reverse.find? (pFull (pPut l c) (n + 1)) = some c := by
      refine find_last (pPut_sorted _ _ hs) ((pPut_mem _ _ _).2 (.inl rfl)) ?_ ?_
      · rw [pFull_iff, room_put, c1, c2]
        omega
      · intro b hb hfb
        rcases (pPut_mem _ _ _).1 hb with rfl | hb
        · exact ⟨Int.le_refl _, fun _ => rfl⟩
        · rw [pFull_iff, room_put, c1] at hfb
          have := (h b hb).1
          refine ⟨by omega, fun e => ?_⟩
          rw [e, c1] at hfb
          omega
    refine ⟨by rw [hl]; simp, ?_⟩
    rw [pBack_one hl c1, erase_put hs]
  | some a =>
    have ha := List.mem_of_find?_eq_some hf
    have hfa := (pFull_iff _ _ _).1 (List.find?_some hf)
    have hmax := first_max hs hf
    have ha1 := (h a ha).1
    rw [pStep_some hf]
    unfold pNew
    obtain ⟨c, hc⟩ : ∃ c : Int × Int, c = (a.1 + 1, pRoom (l.erase a) (n + 1) (a.1 + 1) - 2 * (a.1 + 1)) := ⟨_, rfl⟩
    rw [← hc]
    have c1 : c.1 = a.1 + 1 := by rw [hc]
    have c2 : c.2 = pRoom (l.erase a) (n + 1) (a.1 + 1) - 2 * (a.1 + 1) := by rw [hc]
    have hs2 := erase_sorted a hs
    have hl : (pPut (l.erase a) c).reverse.find? (pFull (pPut (l.erase a) c) (n + 1)) = some c := by
      refine find_last (pPut_sorted _ _ hs2) ((pPut_mem _ _ _).2 (.inl rfl)) ?_ ?_
      · rw [pFull_iff, room_put, c1, c2]
        omega
      · intro b hb hfb
        rcases (pPut_mem _ _ _).1 hb with rfl | hb
        · exact ⟨Int.le_refl _, fun _ => rfl⟩
        · rw [pFull_iff, room_put, c1] at hfb
          have hbl := List.mem_of_mem_erase hb
          have hb2 := (h b hbl).2
          refine ⟨?_, fun e => ?_⟩
          · refine Classical.byContradiction (fun hlt => ?_)
            rw [room_erase ha, room_add] at hfb
            omega
          · rw [e, c1] at hfb
            omega
    refine ⟨by rw [hl]; simp, ?_⟩
    rw [pBack_more hl (by omega), erase_put hs2, c1]
    have e : ((a.1 + 1 - 1 : Int), pRoom (l.erase a) (n + 1 - 1) (a.1 + 1 - 1) - 2 * (a.1 + 1 - 1)) = a := by
      refine Prod.ext (by show a.1 + 1 - 1 = a.1; omega) ?_
      show pRoom (l.erase a) (n + 1 - 1) (a.1 + 1 - 1) - 2 * (a.1 + 1 - 1) = a.2
      rw [Int.add_sub_cancel, Int.add_sub_cancel, room_erase ha]
      omega
    rw [e, put_erase hs ha]
theorem room_mono (l : List (Int × Int)) (n j k : Int) (h : j ≤ k) : pRoom l n k ≤ pRoom l n j := by
  have : (l.map (fun a => min j a.1)).sum ≤ (l.map (fun a => min k a.1)).sum := by
    induction l with
    | nil => exact Int.le_refl _
    | cons x l ih => simp only [List.map_cons, List.sum_cons]; omega
  unfold pRoom
  omega
theorem find_rev {α : Type} {l : List α} {f : α → Bool} : l.reverse.find? f = none ↔ l.find? f = none := by
  rw [List.find?_eq_none, List.find?_eq_none]
  exact ⟨fun h x hx => h x (List.mem_reverse.2 hx), fun h x hx => h x (List.mem_reverse.1 hx)⟩
theorem fits_none {l : List (Int × Int)} {n : Int} (h : pFits l (n + 1)) (hf : l.reverse.find? (pFull l (n + 1)) = none) : pFits l n := by
  refine ⟨h.sorted, fun a ha => ?_⟩
  obtain ⟨a1, a2, a3⟩ := h.part a ha
  have hn := List.find?_eq_none.1 (find_rev.1 hf) a ha
  rw [pFull_iff, room_add] at hn
  rw [room_add] at a3
  exact ⟨a1, a2, by omega⟩
/-- what is done back leads forward again -/
theorem step_of_back {l : List (Int × Int)} {n : Int} {a : Int × Int} (h : pFits l (n + 1)) (hf : l.reverse.find? (pFull l (n + 1)) = some a) :
    pFits (pBack l (n + 1)) n ∧ pStep (pBack l (n + 1)) n = l := by
  have ha : a ∈ l := List.mem_reverse.1 (List.mem_of_find?_eq_some hf)
  have hfa := (pFull_iff _ _ _).1 (List.find?_some hf)
  have hmin := last_min h.sorted hf
  obtain ⟨a1, a2, a3⟩ := h.part a ha
  have hs := erase_sorted a h.sorted
  by_cases h1 : a.1 = 1
  · have hroom : ∀ b ∈ l.erase a, 1 ≤ b.1 ∧ 0 ≤ b.2 ∧ b.2 < pRoom (l.erase a) n b.1 := fun b hb => by
      obtain ⟨b1, b2, b3⟩ := h.part b (List.mem_of_mem_erase hb)
      rw [room_erase ha]
      rw [room_add] at b3
      exact ⟨b1, b2, by omega⟩
    rw [pBack_one hf h1]
    refine ⟨⟨hs, fun b hb => ?_⟩, ?_⟩
    · obtain ⟨b1, b2, b3⟩ := hroom b hb
      exact ⟨b1, b2, by omega⟩
    · have hno : (l.erase a).find? (pFull (l.erase a) n) = none := List.find?_eq_none.2 (fun b hb => by
        rw [pFull_iff]
        have := (hroom b hb).2.2
        omega)
      rw [pStep_none hno]
      unfold pNew
      have e : ((1 : Int), pRoom (l.erase a) (n + 1) 1 - 2 * 1) = a := by
        refine Prod.ext h1.symm ?_
        show pRoom (l.erase a) (n + 1) 1 - 2 * 1 = a.2
        rw [room_erase ha]
        rw [h1] at hfa ⊢
        omega
      rw [e, put_erase h.sorted ha]
  · rw [pBack_more hf h1, Int.add_sub_cancel]
    obtain ⟨c, hc⟩ : ∃ c : Int × Int, c = (a.1 - 1, pRoom (l.erase a) n (a.1 - 1) - 2 * (a.1 - 1)) := ⟨_, rfl⟩
    rw [← hc]
    have c1 : c.1 = a.1 - 1 := by rw [hc]
    have c2 : c.2 = pRoom (l.erase a) n (a.1 - 1) - 2 * (a.1 - 1) := by rw [hc]
    have hc2 : c.2 = pRoom l (n + 1) (a.1 - 1) - 1 := by rw [c2, room_erase ha, room_add]; omega
    have hm := room_mono (l.erase a) (n + 1) (a.1 - 1) a.1 (by omega)
    rw [room_erase ha, room_erase ha] at hm
    have hroom : ∀ j, pRoom (pPut (l.erase a) c) n j = pRoom l (n + 1) j - 1 + 2 * min j a.1 - 2 * min j (a.1 - 1) := fun j => by
      rw [room_put, room_erase ha, room_add, c1]
      omega
    have hb : ∀ b ∈ l.erase a, 1 ≤ b.1 ∧ 0 ≤ b.2 ∧ b.2 ≤ pRoom (pPut (l.erase a) c) n b.1 ∧ (a.1 ≤ b.1 → b.2 < pRoom (pPut (l.erase a) c) n b.1) := fun b hb => by
      have hbl := List.mem_of_mem_erase hb
      obtain ⟨b1, b2, b3⟩ := h.part b hbl
      have hmb := hmin b hbl
      rw [pFull_iff] at hmb
      rw [hroom]
      refine ⟨b1, b2, ?_, fun _ => by omega⟩
      by_cases hk : a.1 ≤ b.1
      · omega
      · have : b.2 ≠ pRoom l (n + 1) b.1 := fun e => hk (hmb e)
        omega
    refine ⟨⟨pPut_sorted _ _ hs, fun b hbm => ?_⟩, ?_⟩
    · rcases (pPut_mem _ _ _).1 hbm with rfl | hbm
      · rw [hroom, c1, hc2]
        omega
      · obtain ⟨b1, b2, b3, _⟩ := hb b hbm
        exact ⟨b1, b2, b3⟩
    · have hfi : (pPut (l.erase a) c).find? (pFull (pPut (l.erase a) c) n) = some c := by
        refine find_first (pPut_sorted _ _ hs) ((pPut_mem _ _ _).2 (.inl rfl)) ?_ ?_
        · rw [pFull_iff, hroom, c1, hc2]
          omega
        · intro b hbm hfb
          rcases (pPut_mem _ _ _).1 hbm with rfl | hbm
          · exact ⟨Int.le_refl _, fun _ => rfl⟩
          · obtain ⟨b1, b2, b3, b4⟩ := hb b hbm
            rw [pFull_iff] at hfb
            refine ⟨?_, fun e => ?_⟩
            · refine Classical.byContradiction (fun hlt => ?_)
              have := b4 (by omega)
              omega
            · rw [hfb, e, hroom, c1, hc2]
              omega
      rw [pStep_some hfi, erase_put hs]
      unfold pNew
      have e : (c.1 + 1, pRoom (l.erase a) (n + 1) (c.1 + 1) - 2 * (c.1 + 1)) = a := by
        refine Prod.ext (by show c.1 + 1 = a.1; omega) ?_
        show pRoom (l.erase a) (n + 1) (c.1 + 1) - 2 * (c.1 + 1) = a.2
        rw [c1, Int.sub_add_cancel, room_erase ha]
        omega
      rw [e, put_erase h.sorted ha]
/-- the row of a list of parts in n boxes, read from its last sign; and the parts that are left over -/
def kRow : Nat → List (Int × Int) → List Bool
  | 0, _ => []
  | n + 1, l => (l.reverse.find? (pFull l ((n : Int) + 1))).isSome :: kRow n (pBack l ((n : Int) + 1))
def kLeft : Nat → List (Int × Int) → List (Int × Int)
  | 0, l => l
  | n + 1, l => kLeft n (pBack l ((n : Int) + 1))
theorem kRow_length : ∀ (n : Nat) (l : List (Int × Int)), (kRow n l).length = n
  | 0, _ => rfl
  | n + 1, l => by show (kRow n _).length + 1 = n + 1; rw [kRow_length n]
theorem kRow_rc : ∀ p : List Bool, kHi p → kRow p.length (kRc p) = p
  | [], _ => rfl
  | false :: r, h => by
    have hl := find_rev.2 ((kInv_of _ h).low (by simp))
    have e : ((false :: r).length : Int) = (r.length : Int) + 1 := by simp
    rw [e] at hl
    show (_ :: kRow r.length (pBack (kRc (false :: r)) ((r.length : Int) + 1)) : List Bool) = _
    rw [pBack_none hl, hl]
    exact congrArg _ (kRow_rc r h.1)
  | true :: r, h => by
    have hi := kInv_of r h.1
    obtain ⟨b1, b2⟩ := back_of_step (n := (r.length : Int)) (kRc_sorted r) (fun a ha => ⟨(hi.part a ha).1, (hi.part a ha).2.2⟩)
    show (((kRc (true :: r)).reverse.find? (pFull (kRc (true :: r)) ((r.length : Int) + 1))).isSome :: kRow r.length (pBack (kRc (true :: r)) ((r.length : Int) + 1)) : List Bool) = _
    rw [kRc_true, b2, kRow_rc r h.1]
    congr 1
    cases hk : (pStep (kRc r) (r.length : Int)).reverse.find? (pFull (pStep (kRc r) (r.length : Int)) ((r.length : Int) + 1)) with
    | none => exact absurd hk b1
    | some a => rfl
def pSizes (l : List (Int × Int)) : Int := (l.map (fun a => a.1)).sum
theorem sizes_put (l : List (Int × Int)) (a : Int × Int) : pSizes (pPut l a) = pSizes l + a.1 := by
  unfold pSizes
  rw [sum_perm (pPut_perm l a)]
  simp only [List.map_cons, List.sum_cons]
  omega
theorem sizes_erase {l : List (Int × Int)} {a : Int × Int} (h : a ∈ l) : pSizes (l.erase a) = pSizes l - a.1 := by
  unfold pSizes
  have := sum_perm (List.perm_cons_erase h) (fun a => a.1)
  simp only [List.map_cons, List.sum_cons] at this
  omega
theorem sizes_step (l : List (Int × Int)) (n : Int) : pSizes (pStep l n) = pSizes l + 1 := by
  cases hf : l.find? (pFull l n) with
  | none => rw [pStep_none hf]; exact sizes_put _ _
  | some a =>
    rw [pStep_some hf]
    unfold pNew
    rw [sizes_put, sizes_erase (List.mem_of_find?_eq_some hf)]
    omega
theorem kBal_rc : ∀ p : List Bool, kBal p = (p.length : Int) - 2 * pSizes (kRc p)
  | [] => rfl
  | false :: p => by
    have := kBal_rc p
    rw [kBal_cons, this]
    show _ = _ - 2 * pSizes (kRc p)
    simp
    omega
  | true :: p => by
    have := kBal_rc p
    rw [kBal_cons, this, kRc_true, sizes_step]
    simp
    omega
theorem fits_sizes {l : List (Int × Int)} {n : Int} (h : pFits l n) (hn : 0 ≤ n) : 0 ≤ n - 2 * pSizes l := by
  cases l with
  | nil => show 0 ≤ n - 2 * 0; omega
  | cons x l =>
    obtain ⟨x1, x2, x3⟩ := h.part x (List.mem_cons_self ..)
    have hs := (List.pairwise_cons.1 h.sorted).1
    have : (x :: l).map (fun a => min x.1 a.1) = (x :: l).map (fun a => a.1) := List.map_congr_left (fun a ha => by
      rcases List.mem_cons.1 ha with rfl | ha
      · omega
      · have := (pLess_false _ _).1 (hs a ha)
        omega)
    unfold pRoom at x3
    rw [this] at x3
    unfold pSizes
    omega
theorem room_le (l : List (Int × Int)) (n j : Int) (hj : 0 ≤ j) (h : ∀ a ∈ l, 1 ≤ a.1) : pRoom l n j ≤ n := by
  have := room_mono l n 0 j hj
  rw [room0 l n h] at this
  exact this
theorem kRow_back : ∀ (n : Nat) (l : List (Int × Int)), pFits l (n : Int) → kRc (kRow n l) = l ∧ kLeft n l = [] ∧ kHi (kRow n l)
  | 0, l, h => by
    have : l = [] := by
      cases l with
      | nil => rfl
      | cons x l =>
        obtain ⟨x1, x2, x3⟩ := h.part x (List.mem_cons_self ..)
        have := room_le l ((0 : Nat) : Int) x.1 (by omega) (fun a ha => (h.part a (List.mem_cons_of_mem _ ha)).1)
        rw [room_cons] at x3
        omega
    rw [this]
    exact ⟨rfl, rfl, trivial⟩
  | n + 1, l, h => by
    have h' : pFits l ((n : Int) + 1) := h
    have key : kRc (kRow (n + 1) l) = l ∧ kLeft (n + 1) l = [] ∧ kHi (kRow n (pBack l ((n : Int) + 1))) := by
      cases hf : l.reverse.find? (pFull l ((n : Int) + 1)) with
      | none =>
        obtain ⟨i1, i2, i3⟩ := kRow_back n l (fits_none h' hf)
        have e := pBack_none hf
        have er : kRow (n + 1) l = false :: kRow n l := by show _ :: kRow n _ = _; rw [hf, e]; rfl
        rw [er, e]
        exact ⟨i1, by show kLeft n (pBack l _) = _; rw [e]; exact i2, i3⟩
      | some a =>
        obtain ⟨s1, s2⟩ := step_of_back h' hf
        obtain ⟨i1, i2, i3⟩ := kRow_back n _ s1
        have er : kRow (n + 1) l = true :: kRow n (pBack l ((n : Int) + 1)) := by show _ :: kRow n _ = _; rw [hf]; rfl
        refine ⟨?_, i2, i3⟩
        rw [er, kRc_true, i1, kRow_length, s2]
    refine ⟨key.1, key.2.1, key.2.2, ?_⟩
    show 0 ≤ kBal (kRow (n + 1) l)
    rw [kBal_rc, key.1, kRow_length]
    exact fits_sizes h (by omega)
end Go.Proofs.Ytlgceccbjkkeiab
