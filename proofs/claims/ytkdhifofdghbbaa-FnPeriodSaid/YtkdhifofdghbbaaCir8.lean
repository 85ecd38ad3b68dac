/- CIRCLES AS TEXTS: what the model answers, and the facts of promises 43 to 48. Pure: no walk. -/
import Derived.Test.YtkdhifofdghbbaaCir7
import Derived.Test.YtkdhifofdghbbaaSCir
namespace Go.Proofs.Ytkdhifofdghbbaa
open Go.RowKit

def ofB (l : List Bool) : ByteArray := ofL (chC 49 l)
theorem bits_ofB (l : List Bool) : bits (ofB l) = l := by
  unfold ofB ofL bits chC
  simp only [List.map_map]
  have : l.map ((fun x : UInt8 => x == 49) ∘ fun b => if b = true then (49 : UInt8) else 48) = l.map id := List.map_congr_left (fun b _ => by cases b <;> rfl)
  rw [this, List.map_id]
theorem ofB_size (l : List Bool) : (ofB l).size = l.length := by rw [← length_bits, bits_ofB]
theorem vld_ofB {l : List Bool} (h : l.length ≤ 120) : vld (ofB l) = true := by
  unfold vld
  rw [Bool.and_eq_true]
  refine ⟨?_, by rw [ofB_size]; simpa using h⟩
  unfold allSgn
  rw [List.all_eq_true]
  intro x hx
  have hx' : x ∈ chC 49 l := hx
  unfold chC at hx'
  obtain ⟨b, _, rfl⟩ := List.mem_map.1 hx'
  cases b <;> rfl
theorem ofB_bits {s : ByteArray} (h : vld s = true) : ofB (bits s) = s := by
  have h1 := vld_sgn s h
  unfold allSgn at h1
  rw [List.all_eq_true] at h1
  have e : chC 49 (bits s) = lst s := by
    unfold chC bits lst
    rw [List.map_map]
    have e : s.data.toList.map ((fun b => if b = true then (49 : UInt8) else 48) ∘ fun x => x == 49) = s.data.toList.map id := by
      refine List.map_congr_left (fun x hx => ?_)
      have hs := h1 x hx
      unfold sgn at hs
      rw [Bool.or_eq_true, beq_iff_eq, beq_iff_eq] at hs
      rcases hs with rfl | rfl <;> rfl
    rw [e, List.map_id]
  unfold ofB
  rw [e, ofL_lst]
/-- a list that is a circle -/
theorem ciIn_ofB {l : List Bool} (h0 : l.length ≤ 60) (h : drf l < 0) : ciIn (ofB l) = true := by
  have hne : 1 ≤ l.length := by
    cases l with
    | nil => simp [drf] at h
    | cons x l => simp
  rw [drf_balls] at h
  unfold ciIn ci60
  rw [vld_ofB (by omega), bits_ofB, ofB_size]
  simp
  omega

/-- CircleTurn, CircleBack -/
def ctS (s : ByteArray) : ByteArray := if ciIn s then ofB (cturn (bits s)) else ByteArray.empty
def cbS (s : ByteArray) : ByteArray := if ciIn s then ofB (cturn (bits s).reverse).reverse else ByteArray.empty
theorem ctS_facts {s : ByteArray} (h : ciIn s = true) : bits (ctS s) = cturn (bits s) ∧ ciIn (ctS s) = true ∧ (ctS s).size = s.size ∧ nballs (bits (ctS s)) = nballs (bits s) := by
  obtain ⟨_, _, _, h60, hd⟩ := ciIn_facts h
  have e : ctS s = ofB (cturn (bits s)) := by unfold ctS; rw [if_pos h]
  have hl : (cturn (bits s)).length = s.size := by rw [cturn_length, length_bits]
  have hd2 := cturn_drf hd
  rw [e, bits_ofB, ofB_size]
  refine ⟨rfl, ciIn_ofB (by omega) (by omega), hl, ?_⟩
  rw [drf_balls, drf_balls, cturn_length] at hd2
  omega
theorem cbS_facts {s : ByteArray} (h : ciIn s = true) : bits (cbS s) = (cturn (bits s).reverse).reverse ∧ ciIn (cbS s) = true ∧ (cbS s).size = s.size := by
  obtain ⟨_, _, _, h60, hd⟩ := ciIn_facts h
  have e : cbS s = ofB (cturn (bits s).reverse).reverse := by unfold cbS; rw [if_pos h]
  have hl : (cturn (bits s).reverse).reverse.length = s.size := by rw [List.length_reverse, cturn_length, List.length_reverse, length_bits]
  have hd2 : drf (bits s).reverse < 0 := by rw [drf_rev]; exact hd
  rw [e, bits_ofB, ofB_size]
  exact ⟨rfl, ciIn_ofB (by omega) (by rw [drf_rev, cturn_drf hd2]; exact hd2), hl⟩
/-- P44 -/
theorem turn_back_S {s : ByteArray} (h : ciIn s = true) : cbS (ctS s) = s := by
  obtain ⟨hv, _, _, _, hd⟩ := ciIn_facts h
  obtain ⟨h1, h2, _, _⟩ := ctS_facts h
  unfold cbS
  rw [if_pos h2, h1, cturn_back hd, List.reverse_reverse, ofB_bits hv]
/-- P45 -/
theorem back_turn_S {s : ByteArray} (h : ciIn s = true) : ctS (cbS s) = s := by
  obtain ⟨hv, _, _, _, hd⟩ := ciIn_facts h
  obtain ⟨h1, h2, _⟩ := cbS_facts h
  unfold ctS
  rw [if_pos h2, h1, cback_turn hd, ofB_bits hv]
/-- P44: none in the same box -/
theorem turn_apart {s : ByteArray} (h : ciIn s = true) {j : Nat} (hj : (bits s)[j]? = some true) : (bits (ctS s))[j]? = some false := by
  rw [(ctS_facts h).1]
  exact tn_apart _ _ _ hj

/-- CircleShape -/
def cshB (l : List Bool) : List Nat := shp (cnt10 (nballs l) l)
theorem cshB_turn {l : List Bool} (h : drf l < 0) : cshB (cturn l) = cshB l := by
  have e : nballs (cturn l) = nballs l := by
    have := cturn_drf h
    rw [drf_balls, drf_balls, cturn_length] at this
    omega
  unfold cshB
  rw [e, rounds_turn _ h]
theorem nballs_rot {l l' : List Bool} (h : Rot l l') : nballs l = nballs l' := by
  obtain ⟨a, b, rfl, rfl⟩ := h
  unfold nballs
  rw [List.count_append, List.count_append]
  omega
theorem cshB_rot {l l' : List Bool} (h : Rot l l') : cshB l = cshB l' := by
  unfold cshB
  rw [nballs_rot h, cnt10_rot _ h]

/-- CirclePeriod: the first of some turns that brings the circle back -/
def perB (l : List Bool) : Nat → Nat → Nat
  | 0, _ => 0
  | f + 1, n => if cturns n l = l then n else perB l f (n + 1)
theorem perB_turn {l : List Bool} (h : drf l < 0) : ∀ f n : Nat, perB (cturn l) f n = perB l f n
  | 0, _ => rfl
  | f + 1, n => by
    simp only [perB]
    rw [perB_turn h f (n + 1)]
    have := period_turn h n
    by_cases e : cturns n l = l
    · rw [if_pos e, if_pos (this.2 e)]
    · rw [if_neg e, if_neg (fun h => e (this.1 h))]
theorem perB_ge (l : List Bool) : ∀ f n : Nat, perB l f n = 0 ∨ n ≤ perB l f n
  | 0, _ => .inl rfl
  | f + 1, n => by
    simp only [perB]
    split
    · exact .inr (Nat.le_refl _)
    · rcases perB_ge l f (n + 1) with h | h
      · exact .inl h
      · exact .inr (by omega)
/-- P48: 1 exactly without balls -/
theorem perB_one (l : List Bool) (f : Nat) : perB l (f + 1) 1 = 1 ↔ nballs l = 0 := by
  have e : cturns 1 l = cturn l := rfl
  constructor
  · intro h
    simp only [perB] at h
    split at h
    · rename_i h1
      rw [e] at h1
      have := period_one h1
      unfold nballs
      rw [List.count_eq_zero]
      intro hm
      exact absurd (this true hm) (by simp)
    · have h3 : perB l f 2 = 1 := h
      rcases perB_ge l f 2 with h2 | h2
      · rw [h3] at h2; exact absurd h2 (by simp)
      · rw [h3] at h2; exact absurd h2 (by simp)
  · intro h
    simp only [perB]
    rw [if_pos (by rw [e]; exact cturn_still h)]
end Go.Proofs.Ytkdhifofdghbbaa
