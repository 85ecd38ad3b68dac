/- TEXTS Lnk2, L6In. -/
import Derived.Test.Ytkdhifofdghbbabexc06
import Derived.Test.YtkdhifofdghbbabChecked
import Derived.Test.Ytkdhifofdghbbabexc01
/- LINKED CIRCLES. Pure: no walk. The rounds, one behind the other; what lies in the boxes when all pairs are exchanged. -/
namespace Go.Proofs.Ytkdhifofdghbbab

theorem lbs_count (l : List Bool) (L : List Nat) : nballs (sgs l L) = (lbs l L).length := by
  unfold nballs lbs sgs
  induction L with
  | nil => rfl
  | cons a L ih =>
    rw [List.map_cons, List.count_cons, ih]
    have e : l.getD a false = bl l a := rfl
    rw [e]
    cases h : bl l a
    · rw [List.filter_cons_of_neg (by rw [h]; simp)]; simp
    · rw [List.filter_cons_of_pos h]; simp
/-- a pair of a round is not yet taken out -/
theorem lk_fresh {H A : Nat → Nat} {l : List Bool} {L : List Nat} (h : Lk H A L) (hn : L.Nodup) {i : Nat} {p : Nat × Nat} (hp : (prs l H (lbs l L))[i]? = some p) :
    p.1 ∈ L ∧ p.2 ∈ L ∧ p.1 ∉ flt ((prs l H (lbs l L)).take i) ∧ p.2 ∉ flt ((prs l H (lbs l L)).take i) ++ [p.1] ∧ bl l p.1 = true ∧ bl l p.2 = false := by
  have hm := prs_mem.1 (List.mem_of_getElem? hp)
  obtain ⟨h1, h2, h3⟩ := hm
  obtain ⟨h4, h5⟩ := lbs_mem.1 h1
  have h6 : bl l p.2 = false := by rw [h3]; exact h2
  have hnd : ((prs l H (lbs l L)).map Prod.fst).Nodup := by
    unfold prs
    rw [List.map_map]
    have e : (Prod.fst ∘ fun b : Nat => (b, H b)) = id := rfl
    rw [e, List.map_id]
    exact (hn.sublist List.filter_sublist).sublist List.filter_sublist
  have key : ∀ q, q ∈ (prs l H (lbs l L)).take i → p.1 ≠ q.1 := by
    intro q hq e
    obtain ⟨j, hj⟩ := List.getElem?_of_mem hq
    have hji := lk_lt' hj
    rw [List.length_take] at hji
    rw [List.getElem?_take, if_pos (by omega)] at hj
    have a1 : ((prs l H (lbs l L)).map Prod.fst)[i]? = some p.1 := by rw [List.getElem?_map, hp]; rfl
    have a2 : ((prs l H (lbs l L)).map Prod.fst)[j]? = some p.1 := by rw [List.getElem?_map, hj, e]; rfl
    have := nodup_get hnd a1 a2
    omega
  refine ⟨h4, by rw [h3]; exact (h.behind h4).1, ?_, ?_, h5, h6⟩
  · rw [flt_mem]
    rintro ⟨q, hq, he⟩
    rcases he with he | he
    · exact key q hq he
    · obtain ⟨q1, q2, q3⟩ := prs_mem.1 (List.mem_of_mem_take hq)
      rw [he, q3, q2] at h5
      cases h5
  · rw [List.mem_append, flt_mem]
    rintro (⟨q, hq, he⟩ | he)
    · obtain ⟨q1, q2, q3⟩ := prs_mem.1 (List.mem_of_mem_take hq)
      obtain ⟨q4, q5⟩ := lbs_mem.1 q1
      rcases he with he | he
      · rw [he, q5] at h6; cases h6
      · refine key q hq ?_
        rw [← (h.behind h4).2, ← (h.behind q4).2, ← h3, ← q3, he]
    · rw [List.mem_singleton] at he
      rw [he, h5] at h6
      cases h6
where lk_lt' {α : Type} {L : List α} {j : Nat} {a : α} (h : L[j]? = some a) : j < L.length := (List.getElem?_eq_some_iff.1 h).1

/-- a pair is exchanged; some; the rounds' -/
def exc (l : List Bool) (p : Nat × Nat) : List Bool := (l.set p.1 false).set p.2 true
def exa (l : List Bool) (ps : List (Nat × Nat)) : List Bool := ps.foldl exc l
def exr (l : List Bool) (Q : List (List (Nat × Nat))) : List Bool := Q.foldl exa l
theorem exc_length (l : List Bool) (p : Nat × Nat) : (exc l p).length = l.length := by unfold exc; rw [List.length_set, List.length_set]
theorem exa_length : ∀ (ps : List (Nat × Nat)) (l : List Bool), (exa l ps).length = l.length
  | [], _ => rfl
  | p :: ps, l => by show (exa (exc l p) ps).length = _; rw [exa_length ps, exc_length]
theorem exr_length : ∀ (Q : List (List (Nat × Nat))) (l : List Bool), (exr l Q).length = l.length
  | [], _ => rfl
  | p :: ps, l => by show (exr (exa l p) ps).length = _; rw [exr_length ps, exa_length]
theorem exa_snoc (l : List Bool) (ps : List (Nat × Nat)) (p : Nat × Nat) : exa l (ps ++ [p]) = exc (exa l ps) p := by unfold exa; rw [List.foldl_append]; rfl
theorem exr_snoc (l : List Bool) (Q : List (List (Nat × Nat))) (ps : List (Nat × Nat)) : exr l (Q ++ [ps]) = exa (exr l Q) ps := by unfold exr; rw [List.foldl_append]; rfl
theorem exa_app (l : List Bool) (a b : List (Nat × Nat)) : exa l (a ++ b) = exa (exa l a) b := by unfold exa; rw [List.foldl_append]
theorem exr_flat : ∀ (Q : List (List (Nat × Nat))) (l : List Bool), exr l Q = exa l Q.flatten
  | [], _ => rfl
  | ps :: Q, l => by show exr (exa l ps) Q = _; rw [exr_flat Q, List.flatten_cons, exa_app]
theorem exc_get (l : List Bool) (p : Nat × Nat) (i : Nat) (hi : i < l.length) : (exc l p).getD i false = if i = p.2 then true else if i = p.1 then false else l.getD i false := by
  unfold exc
  rw [List.getD_eq_getElem?_getD, List.getD_eq_getElem?_getD, List.getElem?_set, List.getElem?_set, List.length_set]
  by_cases h1 : i = p.2
  · rw [if_pos h1, if_pos h1.symm, if_pos (by omega)]; rfl
  · rw [if_neg h1, if_neg (fun e => h1 e.symm)]
    by_cases h2 : i = p.1
    · rw [if_pos h2, if_pos h2.symm, if_pos (by omega)]; rfl
    · rw [if_neg h2, if_neg (fun e => h2 e.symm)]
theorem exa_get : ∀ (ps : List (Nat × Nat)) (l : List Bool) (i : Nat), i < l.length → (∀ p ∈ ps, ∀ q ∈ ps, p.1 ≠ q.2) →
    ((∃ p ∈ ps, i = p.2) → (exa l ps).getD i false = true) ∧ ((∃ p ∈ ps, i = p.1) → (exa l ps).getD i false = false) ∧ (i ∉ flt ps → (exa l ps).getD i false = l.getD i false)
  | [], l, i, _, _ => ⟨fun ⟨_, h, _⟩ => by simp at h, fun ⟨_, h, _⟩ => by simp at h, fun _ => rfl⟩
  | p :: ps, l, i, hi, hd => by
    obtain ⟨h1, h2, h3⟩ := exa_get ps (exc l p) i (by rw [exc_length]; exact hi) (fun a ha b hb => hd a (List.mem_cons_of_mem _ ha) b (List.mem_cons_of_mem _ hb))
    have he := exc_get l p i hi
    have e : exa l (p :: ps) = exa (exc l p) ps := rfl
    rw [e]
    refine ⟨?_, ?_, ?_⟩
    · rintro ⟨q, hq, hi2⟩
      rcases List.mem_cons.1 hq with rfl | hq
      · by_cases hs : ∃ p ∈ ps, i = p.2
        · exact h1 hs
        · have hn : i ∉ flt ps := by
            rw [flt_mem]
            rintro ⟨r, hr, hx⟩
            rcases hx with hx | hx
            · exact hd r (List.mem_cons_of_mem _ hr) q (List.mem_cons_self ..) (by rw [← hx, hi2])
            · exact hs ⟨r, hr, hx⟩
          rw [h3 hn, he, if_pos hi2]
      · exact h1 ⟨q, hq, hi2⟩
    · rintro ⟨q, hq, hi2⟩
      rcases List.mem_cons.1 hq with rfl | hq
      · by_cases hs : ∃ p ∈ ps, i = p.1
        · exact h2 hs
        · have hn : i ∉ flt ps := by
            rw [flt_mem]
            rintro ⟨r, hr, hx⟩
            rcases hx with hx | hx
            · exact hs ⟨r, hr, hx⟩
            · exact hd q (List.mem_cons_self ..) r (List.mem_cons_of_mem _ hr) (by rw [← hi2, hx])
          rw [h3 hn, he, if_neg (fun e => hd q (List.mem_cons_self ..) q (List.mem_cons_self ..) (by rw [← hi2, ← e])), if_pos hi2]
      · exact h2 ⟨q, hq, hi2⟩
    · intro hn
      have hn2 : i ∉ flt ps := fun h => hn (by
        rw [flt_mem] at h ⊢
        obtain ⟨r, hr, hx⟩ := h
        exact ⟨r, List.mem_cons_of_mem _ hr, hx⟩)
      rw [h3 hn2, he, if_neg (fun e => hn (flt_mem.2 ⟨p, List.mem_cons_self .., .inr e⟩)), if_neg (fun e => hn (flt_mem.2 ⟨p, List.mem_cons_self .., .inl e⟩))]

/-- what holds behind some rounds -/
structure RP (l : List Bool) (L : List Nat) (H A : Nat → Nat) (Q : List (List (Nat × Nat))) : Prop where
  stg : Stg l L
  nd : L.Nodup
  lk : Lk H A L
  mem : ∀ ps ∈ Q, ∀ p ∈ ps, p.1 < l.length ∧ p.2 < l.length ∧ bl l p.1 = true ∧ bl l p.2 = false
  out : ∀ i, i < l.length → (i ∉ L ↔ ∃ ps ∈ Q, i ∈ flt ps)
  cnt : ∃ f, nballs (sgs l L) ≤ f ∧ Q.map List.length ++ cnt10 f (sgs l L) = cnt10 (nballs l) l
theorem RP.start {l : List Bool} (hd : drf l < 0) {H A : Nat → Nat} (h : Lk H A (List.range l.length)) : RP l (List.range l.length) H A [] where
  stg := stg_start hd
  nd := List.nodup_range
  lk := h
  mem := fun _ h => by simp at h
  out := fun i hi => by simp [hi]
  cnt := ⟨nballs l, by rw [sgs_all]; exact Nat.le_refl _, by rw [sgs_all]; rfl⟩
theorem RP.some {l : List Bool} {L : List Nat} {H A : Nat → Nat} {Q : List (List (Nat × Nat))} (h : RP l L H A Q) (hl : lbs l L ≠ []) : (pq (sgs l L)).count true ≠ 0 := by
  intro e
  have e2 := (cnt_end 0 e).1
  have e3 := c10_none h.stg.1 e2
  rw [lbs_count] at e3
  exact hl (List.eq_nil_of_length_eq_zero e3)
/-- a box that stays -/
theorem RP.stay {l : List Bool} {L : List Nat} {H A : Nat → Nat} {Q : List (List (Nat × Nat))} (h : RP l L H A Q) : ∃ z ∈ L, z ∉ flt (prs l H (lbs l L)) := by
  have hs := stg_step h.stg
  have hne : nxt l L ≠ [] := by
    intro e
    have := hs.1
    rw [e] at this
    exact absurd this (by simp [sgs, drf])
  obtain ⟨z, hz⟩ := List.exists_mem_of_ne_nil _ hne
  have hz2 := hz
  rw [← (lk_end h.lk)] at hz2
  obtain ⟨h1, h2⟩ := List.mem_filter.1 hz2
  exact ⟨z, h1, by simpa using h2⟩
theorem RP.next {l : List Bool} {L : List Nat} {H A H' A' : Nat → Nat} {Q : List (List (Nat × Nat))} (h : RP l L H A Q) (hl : lbs l L ≠ []) (hk : Lk H' A' (nxt l L)) :
    RP l (nxt l L) H' A' (Q ++ [prs l H (lbs l L)]) where
  stg := stg_step h.stg
  nd := nxt_nodup h.nd
  lk := hk
  mem := by
    intro ps hps p hp
    rcases List.mem_append.1 hps with hq | hq
    · exact h.mem ps hq p hp
    · rw [List.mem_singleton] at hq
      subst hq
      obtain ⟨i, hi⟩ := List.getElem?_of_mem hp
      obtain ⟨h1, h2, _, _, h5, h6⟩ := lk_fresh h.lk h.nd hi
      exact ⟨h.stg.2.1 _ h1, h.stg.2.1 _ h2, h5, h6⟩
  out := by
    intro i hi
    rw [← (lk_end h.lk)]
    have ho := h.out i hi
    constructor
    · intro hn
      by_cases hm : i ∈ L
      · refine ⟨prs l H (lbs l L), by simp, ?_⟩
        by_cases hf : i ∈ flt (prs l H (lbs l L))
        · exact hf
        · exact absurd (List.mem_filter.2 ⟨hm, by simpa using hf⟩) hn
      · obtain ⟨ps, h1, h2⟩ := ho.1 hm
        exact ⟨ps, List.mem_append_left _ h1, h2⟩
    · rintro ⟨ps, h1, h2⟩ hm
      obtain ⟨m1, m2⟩ := List.mem_filter.1 hm
      rcases List.mem_append.1 h1 with hq | hq
      · exact ho.2 ⟨ps, hq, h2⟩ m1
      · rw [List.mem_singleton] at hq
        subst hq
        simp at m2
        exact m2 h2
  cnt := by
    obtain ⟨f, h1, h2⟩ := h.cnt
    obtain ⟨f', h3, h4⟩ := cnt_more (h.some hl) h1
    refine ⟨f', h3, ?_⟩
    rw [h4] at h2
    rw [← h2, List.map_append, List.append_assoc, List.map_cons, List.map_nil, (lk_count h.lk)]
    rfl
/-- at the end: all exchanged is the turn; the numbers -/
theorem RP.done {l : List Bool} {L : List Nat} {H A : Nat → Nat} {Q : List (List (Nat × Nat))} (h : RP l L H A Q) (hl : lbs l L = []) :
    exr l Q = cturn l ∧ Q.map List.length = cnt10 (nballs l) l := by
  have hb : nballs (sgs l L) = 0 := by rw [lbs_count, hl]; rfl
  have hc : (pq (sgs l L)).count true = 0 := by have := pq_count (sgs l L); omega
  constructor
  · have hlen : (exr l Q).length = (cturn l).length := by rw [exr_length, cturn_length]
    have hdis : ∀ p ∈ Q.flatten, ∀ q ∈ Q.flatten, p.1 ≠ q.2 := by
      intro p hp q hq e
      obtain ⟨a, ha, hp⟩ := List.mem_flatten.1 hp
      obtain ⟨b, hb, hq⟩ := List.mem_flatten.1 hq
      have h1 := (h.mem a ha p hp).2.2.1
      have h2 := (h.mem b hb q hq).2.2.2
      rw [e, h2] at h1
      cases h1
    refine List.ext_getElem? fun i => ?_
    by_cases hi : i < l.length
    · have g1 := getD_someC (l := exr l Q) (j := i) (d := false) (by rw [exr_length]; exact hi)
      have g2 := getD_someC (l := cturn l) (j := i) (d := false) (by rw [cturn_length]; exact hi)
      rw [g1, g2]
      congr 1
      rw [exr_flat]
      obtain ⟨x1, x2, x3⟩ := exa_get Q.flatten l i hi hdis
      have hs := stg_end h.stg (cnt_end 0 hc).1 i hi
      rw [hs]
      have hfl : i ∈ flt Q.flatten ↔ ∃ ps ∈ Q, i ∈ flt ps := by
        rw [flt_mem]
        constructor
        · rintro ⟨p, hp, hx⟩
          obtain ⟨a, ha, hp⟩ := List.mem_flatten.1 hp
          exact ⟨a, ha, flt_mem.2 ⟨p, hp, hx⟩⟩
        · rintro ⟨a, ha, hx⟩
          obtain ⟨p, hp, hx⟩ := flt_mem.1 hx
          exact ⟨p, List.mem_flatten.2 ⟨a, ha, hp⟩, hx⟩
      by_cases hm : i ∈ L
      · have hn : i ∉ flt Q.flatten := fun hf => (h.out i hi).2 (hfl.1 hf) hm
        rw [x3 hn]
        have hz : bl l i = false := by
          cases hx : bl l i
          · rfl
          · have : i ∈ lbs l L := lbs_mem.2 ⟨hm, hx⟩
            rw [hl] at this
            simp at this
        have hz' : l.getD i false = false := hz
        rw [hz']
        simp [hm]
      · have hf := hfl.2 ((h.out i hi).1 hm)
        obtain ⟨p, hp, hx⟩ := flt_mem.1 hf
        obtain ⟨a, ha, hp'⟩ := List.mem_flatten.1 hp
        obtain ⟨_, _, b1, b2⟩ := h.mem a ha p hp'
        rcases hx with rfl | rfl
        · rw [x2 ⟨p, hp, rfl⟩]
          have b1' : l.getD p.1 false = true := b1
          rw [b1']
          simp
        · rw [x1 ⟨p, hp, rfl⟩]
          have b2' : l.getD p.2 false = false := b2
          rw [b2']
          simp [hm]
    · rw [List.getElem?_eq_none_iff.2 (by rw [exr_length]; omega), List.getElem?_eq_none_iff.2 (by rw [cturn_length]; omega)]
  · obtain ⟨f, h1, h2⟩ := h.cnt
    rw [(cnt_end f hc).2, List.append_nil] at h2
    exact h2
/-- how many rounds, and how many pairs -/
theorem RP.small {l : List Bool} {L : List Nat} {H A : Nat → Nat} {Q : List (List (Nat × Nat))} (h : RP l L H A Q) : L.length ≤ l.length := by
  have hs : L.Subset (List.range l.length) := fun i hi => List.mem_range.2 (h.stg.2.1 i hi)
  have := h.nd.length_le_of_subset hs
  rwa [List.length_range] at this

/-- the links that are laid first: behind k boxes -/
def lnH (n : Nat) : Nat → Nat := fun i => if i + 1 = n then 0 else i + 1
def lnA (n : Nat) : Nat → Nat := fun i => if i = 0 then n - 1 else i - 1
theorem lk_start {n : Nat} {H A : Nat → Nat} (hH : ∀ i, i < n → H i = lnH n i) (hA : ∀ i, i < n → A i = lnA n i) : Lk H A (List.range n) := by
  intro j a b ha hb
  have hj := lk_lt ha
  have hc := lk_lt hb
  rw [List.length_range] at hj hc hb
  rw [List.getElem?_range hj] at ha
  rw [List.getElem?_range (by simpa using hc)] at hb
  injection ha with ha
  injection hb with hb
  have hb' := hb.symm
  clear hb hc
  subst ha hb'
  refine ⟨by rw [hH _ hj]; rfl, ?_⟩
  rw [hA _ (cy_lt hj)]
  unfold lnA cy
  split <;> split <;> simp_all <;> omega
end Go.Proofs.Ytkdhifofdghbbab

/- THE WALK of the model's l6In. -/
namespace Go.Proofs.Ytkdhifofdghbbab
open Go.RowKit

theorem l6In_any (n low high : Int) (b : Bool) (w : World) (hb : (decide (low ≤ n) && decide (n ≤ high)) = b) :
    Calls Try.prog 25 #[.int .i64 n, .int .i64 low, .int .i64 high] w fun e w' => e = .returned (.bool b) ∧ w = w' := by
  by_cases h1 : low ≤ n
  · by_cases h2 : n ≤ high
    · obtain rfl : true = b := by rw [← hb]; simp [h1, h2]
      clear hb
      go_enter Try.func25, Try.ntmps25
      go_wp2
      go_ret
      exact ⟨rfl, rfl⟩
    · obtain rfl : false = b := by rw [← hb]; simp [h2]
      clear hb
      go_enter Try.func25, Try.ntmps25
      go_wp2
      go_ret
      exact ⟨rfl, rfl⟩
  · obtain rfl : false = b := by rw [← hb]; simp [h1]
    clear hb
    go_enter Try.func25, Try.ntmps25
    go_wp2
    go_ret
    exact ⟨rfl, rfl⟩
end Go.Proofs.Ytkdhifofdghbbab
