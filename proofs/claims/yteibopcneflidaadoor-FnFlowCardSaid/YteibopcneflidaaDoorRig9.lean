/- RIGGED PARTITIONS, part by part: what a loop over a list finds out; where a part is put. Pure: no walk. -/
import Derived.Test.YteibopcneflidaaDoorRigA
namespace Go.Proofs.YteibopcneflidaaDoor
open Go.RowKit

theorem rgSorted_adj : ∀ l : List (Int × Int), rgSorted l = true ↔ ∀ (i : Nat) (x y : Int × Int), l[i]? = some x → l[i + 1]? = some y → pLess x y = false
  | [] => ⟨fun _ i x y h => by simp at h, fun _ => rfl⟩
  | [z] => ⟨fun _ i x y _ h => by simp at h, fun _ => rfl⟩
  | z :: u :: l => by
    have ih := rgSorted_adj (u :: l)
    have e : rgSorted (z :: u :: l) = (!pLess z u && rgSorted (u :: l)) := rfl
    rw [e, Bool.and_eq_true, ih]
    constructor
    · rintro ⟨h1, h2⟩ i x y hx hy
      cases i with
      | zero =>
        simp at hx hy
        subst hx hy
        simpa using h1
      | succ i => exact h2 i x y (by simpa using hx) (by simpa using hy)
    · intro h
      exact ⟨by rw [h 0 z u rfl rfl]; rfl, fun i x y hx hy => h (i + 1) x y (by simpa using hx) (by simpa using hy)⟩
theorem rgIn_bad_part {l : List (Int × Int)} {x : Int × Int} (h : x ∈ l) (hx : rgPart x = false) : rgIn l = false := by
  unfold rgIn
  have : l.all rgPart = false := by rw [List.all_eq_false]; exact ⟨x, h, by simp [hx]⟩
  rw [this]; rfl
theorem rgIn_bad_less {l : List (Int × Int)} {i : Nat} {x y : Int × Int} (hx : l[i]? = some x) (hy : l[i + 1]? = some y) (h : pLess x y = true) : rgIn l = false := by
  unfold rgIn
  have : rgSorted l = false := by
    cases hs : rgSorted l
    · rfl
    · have := (rgSorted_adj l).1 hs i x y hx hy
      rw [h] at this; cases this
  rw [this]; simp
theorem rgIn_len {l : List (Int × Int)} (h : 60 < l.length) : rgIn l = false := by
  unfold rgIn
  have : decide (l.length ≤ 60) = false := by simpa using h
  rw [this]; simp
/-- what the model's loop has seen of a list -/
def rgSeen (l : List (Int × Int)) (k : Nat) : Prop := ∀ (j : Nat) (x : Int × Int), j < k → l[j]? = some x → rgPart x = true ∧ ∀ (i : Nat) (y : Int × Int), j = i + 1 → l[i]? = some y → pLess y x = false
theorem rgSeen_zero (l : List (Int × Int)) : rgSeen l 0 := fun j _ h => by omega
theorem rgSeen_succ {l : List (Int × Int)} {k : Nat} {x : Int × Int} (h : rgSeen l k) (hx : l[k]? = some x) (h1 : rgPart x = true) (h2 : ∀ (i : Nat) (y : Int × Int), k = i + 1 → l[i]? = some y → pLess y x = false) : rgSeen l (k + 1) := by
  intro j z hj hz
  by_cases e : j = k
  · subst e
    rw [hx] at hz
    injection hz with hz
    subst hz
    exact ⟨h1, h2⟩
  · exact h j z (by omega) hz
theorem rgSeen_all {l : List (Int × Int)} (h : rgSeen l l.length) : rgIn l = decide (l.length ≤ 60) := by
  unfold rgIn
  have h1 : l.all rgPart = true := by
    rw [List.all_eq_true]
    intro x hx
    obtain ⟨j, hj⟩ := List.mem_iff_getElem?.1 hx
    exact (h j x (List.getElem?_eq_some_iff.1 hj).1 hj).1
  have h2 : rgSorted l = true := (rgSorted_adj l).2 (fun i x y hx hy => (h (i + 1) y (List.getElem?_eq_some_iff.1 hy).1 hy).2 i x rfl hx)
  rw [h1, h2]; rfl
theorem rgIn_of {l : List (Int × Int)} (h1 : ∀ x ∈ l, rgPart x = true) (h2 : l.length ≤ 60) : rgIn l = rgSorted l := by
  unfold rgIn
  rw [List.all_eq_true.2 h1, decide_eq_true h2]
  cases rgSorted l <;> rfl

/-- where the model puts a part -/
theorem put_at : ∀ (l : List (Int × Int)) (a : Int × Int) (k : Nat), k ≤ l.length → (∀ (j : Nat) (x : Int × Int), j < k → l[j]? = some x → pLess x a = false) → (∀ x, l[k]? = some x → pLess x a = true) → l.take k ++ [a] ++ l.drop k = pPut l a
  | [], a, k, hk, _, _ => by
    have : k = 0 := by simpa using hk
    subst this
    rfl
  | y :: l, a, 0, _, _, h2 => by
    have := h2 y rfl
    rw [pPut_cons, if_pos this]
    rfl
  | y :: l, a, k + 1, hk, h1, h2 => by
    have h0 := h1 0 y (Nat.succ_pos _) rfl
    have ih := put_at l a k (by simpa using hk) (fun j x hj hx => h1 (j + 1) x (by omega) (by simpa using hx)) (fun x hx => h2 x (by simpa using hx))
    rw [pPut_cons, h0, if_neg (by simp), ← ih]
    rfl
/-- where the program puts a part: ahead of those that are equal to it -/
theorem ins_at {l : List (Int × Int)} {a : Int × Int} {k : Nat} (hs : pSorted l) (h1 : ∀ (j : Nat) (x : Int × Int), j < k → l[j]? = some x → pLess a x = true) (h2 : ∀ (j : Nat) (x : Int × Int), k ≤ j → l[j]? = some x → pLess a x = false) : l.take k ++ a :: l.drop k = pPut l a := by
  have hsp : pSorted (l.take k ++ l.drop k) := by rw [List.take_append_drop]; exact hs
  obtain ⟨s1, s2, s3⟩ := List.pairwise_append.1 hsp
  have m1 : ∀ x ∈ l.take k, pLess a x = true := by
    intro x hx
    obtain ⟨j, hj⟩ := List.mem_iff_getElem?.1 hx
    have hjk : j < k := by
      have := (List.getElem?_eq_some_iff.1 hj).1
      rw [List.length_take] at this
      omega
    rw [List.getElem?_take_of_lt hjk] at hj
    exact h1 j x hjk hj
  have m2 : ∀ x ∈ l.drop k, pLess a x = false := by
    intro x hx
    obtain ⟨j, hj⟩ := List.mem_iff_getElem?.1 hx
    rw [List.getElem?_drop] at hj
    exact h2 (k + j) x (by omega) hj
  refine pSorted_eq _ _ ?_ (pPut_sorted l a hs) ?_
  · refine List.pairwise_append.2 ⟨s1, List.pairwise_cons.2 ⟨m2, s2⟩, fun x hx y hy => ?_⟩
    rcases List.mem_cons.1 hy with rfl | hy
    · have := (pLess_iff _ _).1 (m1 x hx)
      rw [pLess_false]
      omega
    · exact s3 x hx y hy
  · have p1 := List.perm_middle (a := a) (l₁ := l.take k) (l₂ := l.drop k)
    rw [List.take_append_drop] at p1
    exact p1.trans (pPut_perm l a).symm
theorem take_put {l : List (Int × Int)} (hs : pSorted l) {k : Nat} {x : Int × Int} (hx : l[k]? = some x) : pPut (l.take k) x = l.take (k + 1) := by
  have e : l.take (k + 1) = l.take k ++ [x] := by rw [List.take_add_one, hx]; rfl
  rw [e]
  refine put_last ?_
  rw [← e]
  exact List.Pairwise.sublist (List.take_sublist ..) hs
/-- the program's room of a flow, and of riggings -/
theorem rgAdd_in {l : List (Int × Int)} {K : Int} (h : rgIn l = true) (hK : 1 ≤ K) : ∀ a ∈ l.map (rgAdd K), 1 ≤ a.1 ∧ a.1 ≤ 60 ∧ 0 ≤ a.2 ∧ a.2 ≤ 1060 := by
  obtain ⟨h1, _, _⟩ := (rgIn_iff l).1 h
  intro a ha
  obtain ⟨b, hb, rfl⟩ := List.mem_map.1 ha
  have := h1 b hb
  show 1 ≤ b.1 ∧ b.1 ≤ 60 ∧ 0 ≤ b.2 + min b.1 K ∧ b.2 + min b.1 K ≤ 1060
  omega
/-- a room in its range -/
def rmOk (K : Int) : Bool := decide (1 ≤ K) && decide (K ≤ 200)
/-- RigFlow -/
def rgFlowOk (l : List (Int × Int)) (K : Int) : Bool := rgIn l && rmOk K && rgIn (l.map (rgAdd K))
def rgFlow (l : List (Int × Int)) (K : Int) : List (Int × Int) := if rgFlowOk l K then l.map (rgAdd K) else []
/-- RigRoom -/
def szOne (j : Int) : Bool := decide (1 ≤ j) && decide (j ≤ 60)
def rgRoomOk (l : List (Int × Int)) (n j : Int) : Bool := rgIn l && rgBox n && szOne j
def rgRoom (l : List (Int × Int)) (n j : Int) : Int := if rgRoomOk l n j then pRoom l n j else 0
/-- RigSizes -/
def rgSizes (l : List (Int × Int)) : List Int := if rgIn l then l.map (fun a => a.1) else []
end Go.Proofs.YteibopcneflidaaDoor
