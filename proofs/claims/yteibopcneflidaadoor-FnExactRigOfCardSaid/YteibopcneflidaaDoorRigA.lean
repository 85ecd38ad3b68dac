/- RIGGED PARTITIONS: what is one, what fits, what a flow adds. Pure: no walk. -/
import Derived.Test.YteibopcneflidaaDoorRig5
namespace Go.Proofs.YteibopcneflidaaDoor
open Go.RowKit

/-- each part stands behind none that is less -/
def rgSorted : List (Int × Int) → Bool
  | [] => true
  | [_] => true
  | x :: y :: l => !pLess x y && rgSorted (y :: l)
def rgPart (a : Int × Int) : Bool := decide (1 ≤ a.1) && decide (a.1 ≤ 60) && (decide (0 ≤ a.2) && decide (a.2 ≤ 1000))
/-- RigIn -/
def rgIn (l : List (Int × Int)) : Bool := l.all rgPart && rgSorted l && decide (l.length ≤ 60)
def rgBox (n : Int) : Bool := decide (0 ≤ n) && decide (n ≤ 120)
/-- RigFits -/
def rgFits (l : List (Int × Int)) (n : Int) : Bool := rgIn l && rgBox n && l.all (fun a => decide (a.2 ≤ pRoom l n a.1))
/-- RigFlow -/
def rgAdd (K : Int) (a : Int × Int) : Int × Int := (a.1, a.2 + min a.1 K)
theorem rgSorted_iff : ∀ l : List (Int × Int), rgSorted l = true ↔ pSorted l
  | [] => ⟨fun _ => List.Pairwise.nil, fun _ => rfl⟩
  | [x] => ⟨fun _ => List.pairwise_singleton _ _, fun _ => rfl⟩
  | x :: y :: l => by
    have ih := rgSorted_iff (y :: l)
    constructor
    · intro h
      have h' : (!pLess x y && rgSorted (y :: l)) = true := h
      rw [Bool.and_eq_true] at h'
      have hs := ih.1 h'.2
      have h1 : pLess x y = false := by simpa using h'.1
      refine List.pairwise_cons.2 ⟨fun z hz => ?_, hs⟩
      rcases List.mem_cons.1 hz with rfl | hz
      · exact h1
      · have a1 := (pLess_false _ _).1 h1
        have a2 := (pLess_false _ _).1 ((List.pairwise_cons.1 hs).1 z hz)
        rw [pLess_false]
        omega
    · intro h
      obtain ⟨h1, h2⟩ := List.pairwise_cons.1 h
      show (!pLess x y && rgSorted (y :: l)) = true
      rw [h1 y (List.mem_cons_self ..), ih.2 h2]
      rfl
theorem rgPart_iff (a : Int × Int) : rgPart a = true ↔ 1 ≤ a.1 ∧ a.1 ≤ 60 ∧ 0 ≤ a.2 ∧ a.2 ≤ 1000 := by unfold rgPart; simp; omega
theorem rgIn_iff (l : List (Int × Int)) : rgIn l = true ↔ (∀ a ∈ l, 1 ≤ a.1 ∧ a.1 ≤ 60 ∧ 0 ≤ a.2 ∧ a.2 ≤ 1000) ∧ pSorted l ∧ l.length ≤ 60 := by
  unfold rgIn
  rw [Bool.and_eq_true, Bool.and_eq_true, List.all_eq_true, rgSorted_iff, decide_eq_true_iff, and_assoc]
  exact and_congr (forall_congr' fun a => forall_congr' fun _ => rgPart_iff a) Iff.rfl
theorem rgBox_iff (n : Int) : rgBox n = true ↔ 0 ≤ n ∧ n ≤ 120 := by unfold rgBox; simp
theorem rgFits_iff (l : List (Int × Int)) (n : Int) : rgFits l n = true ↔ rgIn l = true ∧ (0 ≤ n ∧ n ≤ 120) ∧ ∀ a ∈ l, a.2 ≤ pRoom l n a.1 := by
  unfold rgFits
  rw [Bool.and_eq_true, Bool.and_eq_true, rgBox_iff, List.all_eq_true, and_assoc]
  exact and_congr Iff.rfl (and_congr Iff.rfl (forall_congr' fun a => forall_congr' fun _ => decide_eq_true_iff))
theorem rgFits_p {l : List (Int × Int)} {n : Int} (h : rgFits l n = true) : pFits l n := by
  obtain ⟨h1, h2, h3⟩ := (rgFits_iff l n).1 h
  obtain ⟨g1, g2, _⟩ := (rgIn_iff l).1 h1
  exact ⟨g2, fun a ha => ⟨(g1 a ha).1, (g1 a ha).2.2.1, h3 a ha⟩⟩
/-- P27 -/
theorem rgIn_last {l : List (Int × Int)} (h : rgIn l = true) (k : Nat) : rgIn (l.take k) = true := by
  obtain ⟨h1, h2, h3⟩ := (rgIn_iff l).1 h
  refine (rgIn_iff _).2 ⟨fun a ha => h1 a (List.mem_of_mem_take ha), List.Pairwise.sublist (List.take_sublist ..) h2, ?_⟩
  rw [List.length_take]
  omega
/-- P28 -/
theorem room_steps (l : List (Int × Int)) (n j : Int) : pRoom l n (j + 1) ≤ pRoom l n j ∧ pRoom l n (j + 1) - pRoom l n (j + 2) ≤ pRoom l n j - pRoom l n (j + 1) := by
  refine ⟨room_mono l n _ _ (by omega), ?_⟩
  have : 2 * (l.map (fun a => min (j + 1) a.1)).sum ≥ (l.map (fun a => min j a.1)).sum + (l.map (fun a => min (j + 2) a.1)).sum := by
    induction l with
    | nil => exact Int.le_refl _
    | cons x l ih => simp only [List.map_cons, List.sum_cons]; omega
  unfold pRoom
  omega
/-- P29 -/
theorem fits_more {l : List (Int × Int)} {n : Int} (h : rgFits l n = true) (hn : n < 120) : rgFits l (n + 1) = true := by
  obtain ⟨h1, h2, h3⟩ := (rgFits_iff l n).1 h
  refine (rgFits_iff _ _).2 ⟨h1, by omega, fun a ha => ?_⟩
  have := h3 a ha
  rw [room_add]
  omega
/-- the flow keeps the order -/
theorem add_sorted {l : List (Int × Int)} (K : Int) (h : pSorted l) : pSorted (l.map (rgAdd K)) := by
  refine List.pairwise_map.2 (h.imp (fun {x y} hxy => ?_))
  have := (pLess_false _ _).1 hxy
  rw [pLess_false]
  unfold rgAdd
  show ¬ (x.1 < y.1 ∨ x.1 = y.1 ∧ x.2 + min x.1 K < y.2 + min y.1 K)
  omega
/-- parts put into a list in falling order stand at its end -/
theorem put_last {l : List (Int × Int)} {a : Int × Int} (h : pSorted (l ++ [a])) : pPut l a = l ++ [a] := by
  have : ∀ x ∈ l, pLess x a = false := fun x hx => (List.pairwise_append.1 h).2.2 x hx a (List.mem_singleton.2 rfl)
  have e := put_low l [] a this
  rw [List.append_nil] at e
  exact e
/-- P34 -/
theorem add_swap (l : List (Int × Int)) (J K : Int) : (l.map (rgAdd K)).map (rgAdd J) = (l.map (rgAdd J)).map (rgAdd K) := by
  rw [List.map_map, List.map_map]
  refine List.map_congr_left (fun a _ => ?_)
  show ((a.1, a.2 + min a.1 K + min a.1 J) : Int × Int) = (a.1, a.2 + min a.1 J + min a.1 K)
  congr 1
  omega
theorem add_sizes (l : List (Int × Int)) (K : Int) : (l.map (rgAdd K)).map (fun a => a.1) = l.map (fun a => a.1) := by
  rw [List.map_map]
  rfl
end Go.Proofs.YteibopcneflidaaDoor
