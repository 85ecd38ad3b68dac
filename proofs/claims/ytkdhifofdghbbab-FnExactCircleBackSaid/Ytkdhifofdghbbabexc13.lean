/- TEXTS Lnk3. -/
import Derived.Test.Ytkdhifofdghbbabexc07
/- LINKED CIRCLES. Pure: no walk. A pair is taken out of the links. -/
namespace Go.Proofs.Ytkdhifofdghbbab

/-- another one is left: no box is its own neighbour -/
theorem lk_ne {H A : Nat → Nat} {L : List Nat} (h : Lk H A L) (hn : L.Nodup) {e z : Nat} (he : e ∈ L) (hz : z ∈ L) (hez : z ≠ e) : A e ≠ e := by
  intro hA
  obtain ⟨k, hk⟩ := List.getElem?_of_mem he
  obtain ⟨i, hi⟩ := List.getElem?_of_mem hz
  have h1 := lk_lt hk
  have h2 := lk_lt hi
  have hik : i ≠ k := by
    intro e
    subst e
    rw [hi] at hk
    exact hez (Option.some.inj hk)
  obtain ⟨p, hp⟩ : ∃ p, p = if k = 0 then L.length - 1 else k - 1 := ⟨_, rfl⟩
  have hpl : p < L.length := by rw [hp]; split <;> omega
  have hc : cy L.length p = k := by unfold cy; rw [hp]; split <;> split <;> omega
  obtain ⟨x, hx⟩ := lk_get hpl
  have e1 : A e = x := (h p x e hx (by rw [hc]; exact hk)).2
  have e2 := nodup_get hn hk (by rw [← hA, e1]; exact hx)
  rw [hp] at e2
  split at e2 <;> omega
theorem flt_take {ps : List (Nat × Nat)} {i : Nat} {p : Nat × Nat} (h : ps[i]? = some p) : flt (ps.take (i + 1)) = (flt (ps.take i) ++ [p.1]) ++ [p.2] := by
  obtain ⟨hi, he⟩ := List.getElem?_eq_some_iff.1 h
  rw [List.take_succ_eq_append_getElem hi, flt_snoc, he]
theorem flt_sub {ps : List (Nat × Nat)} {i a : Nat} (h : a ∈ flt (ps.take i)) : a ∈ flt ps := by
  rw [flt_mem] at h ⊢
  obtain ⟨p, hp, e⟩ := h
  exact ⟨p, List.mem_of_mem_take hp, e⟩
/-- the boxes of a round's pairs that are not yet taken out -/
def rest (L es : List Nat) : List Nat := L.filter fun a => !(es.contains a)
theorem rest_mem {L es : List Nat} {a : Nat} : a ∈ rest L es ↔ a ∈ L ∧ a ∉ es := by unfold rest; rw [List.mem_filter]; simp
theorem rest_nodup {L es : List Nat} (h : L.Nodup) : (rest L es).Nodup := h.sublist List.filter_sublist
theorem rp_pair {l : List Bool} {L : List Nat} {H0 A0 H A : Nat → Nat} {Q : List (List (Nat × Nat))} (h : RP l L H0 A0 Q) {i : Nat} {p : Nat × Nat} (hp : (prs l H0 (lbs l L))[i]? = some p)
    (hk : Lk H A (rest L (flt ((prs l H0 (lbs l L)).take i)))) :
    (p.1 < l.length ∧ A p.1 < l.length ∧ H p.1 < l.length ∧ A p.1 ≠ p.1) ∧
    (p.2 < l.length ∧ upd A (H p.1) (A p.1) p.2 < l.length ∧ upd H (A p.1) (H p.1) p.2 < l.length ∧ upd A (H p.1) (A p.1) p.2 ≠ p.2) ∧
    Lk (upd (upd H (A p.1) (H p.1)) (upd A (H p.1) (A p.1) p.2) (upd H (A p.1) (H p.1) p.2)) (upd (upd A (H p.1) (A p.1)) (upd H (A p.1) (H p.1) p.2) (upd A (H p.1) (A p.1) p.2))
      (rest L (flt ((prs l H0 (lbs l L)).take (i + 1)))) := by
  obtain ⟨h1, h2, h3, h4, h5, h6⟩ := lk_fresh h.lk h.nd hp
  obtain ⟨z, hz, hzf⟩ := h.stay
  have hpm := List.mem_of_getElem? hp
  have hz1 : z ≠ p.1 := fun e => hzf (flt_mem.2 ⟨p, hpm, .inl e⟩)
  have hz2 : z ≠ p.2 := fun e => hzf (flt_mem.2 ⟨p, hpm, .inr e⟩)
  have hz3 : z ∉ flt ((prs l H0 (lbs l L)).take i) := fun e => hzf (flt_sub e)
  have hz4 : z ∉ flt ((prs l H0 (lbs l L)).take i) ++ [p.1] := by
    rw [List.mem_append, List.mem_singleton]
    rintro (e | e)
    · exact hz3 e
    · exact hz1 e
  have hlt : ∀ es a, a ∈ rest L es → a < l.length := fun es a ha => h.stg.2.1 a (rest_mem.1 ha).1
  have m1 : p.1 ∈ rest L (flt ((prs l H0 (lbs l L)).take i)) := rest_mem.2 ⟨h1, h3⟩
  have hk2 : Lk (upd H (A p.1) (H p.1)) (upd A (H p.1) (A p.1)) (rest L (flt ((prs l H0 (lbs l L)).take i) ++ [p.1])) := lnk_take h.nd hk h1 h3 hz hz3 hz1
  have m2 : p.2 ∈ rest L (flt ((prs l H0 (lbs l L)).take i) ++ [p.1]) := rest_mem.2 ⟨h2, h4⟩
  refine ⟨⟨hlt _ _ m1, hlt _ _ (hk.ahead m1).1, hlt _ _ (hk.behind m1).1, lk_ne hk (rest_nodup h.nd) m1 (rest_mem.2 ⟨hz, hz3⟩) hz1⟩,
    ⟨hlt _ _ m2, hlt _ _ (hk2.ahead m2).1, hlt _ _ (hk2.behind m2).1, lk_ne hk2 (rest_nodup h.nd) m2 (rest_mem.2 ⟨hz, hz4⟩) hz2⟩, ?_⟩
  rw [flt_take hp]
  exact lnk_take h.nd hk2 h2 h4 hz hz4 hz2
theorem rest_nil (L : List Nat) : rest L [] = L := by unfold rest; simp
theorem rest_end {l : List Bool} {H A : Nat → Nat} {L : List Nat} (h : Lk H A L) : rest L (flt (prs l H (lbs l L))) = nxt l L := lk_end h
/-- the balls that are left and the pairs -/
theorem prs_uns (l : List Bool) (H : Nat → Nat) (bs : List Nat) : (prs l H bs).length + (uns l H bs).length = bs.length := by
  unfold prs uns
  rw [List.length_map]
  induction bs with
  | nil => rfl
  | cons b bs ih =>
    rw [List.filter_cons, List.filter_cons]
    cases h : bl l (H b) <;> simp <;> omega
theorem rp_fewer {l : List Bool} {L : List Nat} {H A : Nat → Nat} {Q : List (List (Nat × Nat))} (h : RP l L H A Q) (hl : lbs l L ≠ []) : (lbs l (nxt l L)).length < (lbs l L).length := by
  have h1 := prs_uns l H (lbs l L)
  have h2 := lk_count (l := l) h.lk
  have h3 := h.some hl
  rw [lk_uns h.lk] at h1
  omega
/-- pairs as cells -/
theorem prs_take {l : List Bool} {H : Nat → Nat} {bs : List Nat} {k b : Nat} (hb : bs[k]? = some b) : prs l H (bs.take (k + 1)) = prs l H (bs.take k) ++ (if bl l (H b) then [] else [(b, H b)]) ∧ uns l H (bs.take (k + 1)) = uns l H (bs.take k) ++ (if bl l (H b) then [b] else []) := by
  obtain ⟨hi, he⟩ := List.getElem?_eq_some_iff.1 hb
  rw [List.take_succ_eq_append_getElem hi, he]
  exact ⟨prs_snoc _ _ _ _, uns_snoc _ _ _ _⟩
end Go.Proofs.Ytkdhifofdghbbab
