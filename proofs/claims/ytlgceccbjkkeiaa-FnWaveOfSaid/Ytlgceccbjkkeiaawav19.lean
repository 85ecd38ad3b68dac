/- TEXTS SCol, SCir, Cir8. -/
import Derived.Test.Ytlgceccbjkkeiaawav18
import Derived.Test.Ytlgceccbjkkeiaawav01
import Derived.Test.Ytlgceccbjkkeiaawav06
import Derived.Lib.Strings
import Derived.Test.Ytlgceccbjkkeiaawav17
import Derived.Test.Ytlgceccbjkkeiaawav02
/- THE WALKS of the model's ColourIn, l1Tidy and l1Done of whatever text. -/
namespace Go.Proofs.Ytlgceccbjkkeiaa
open Go.RowKit

theorem lst_get (s : ByteArray) (k : Nat) (h : k < s.size) : (lst s)[k]? = some s[k] := by
  unfold lst
  rw [List.getElem?_eq_getElem (by simpa using h)]
  simp
  rfl
/-- a text cut behind its last ball, of whatever colour -/
def tidyC (s : ByteArray) : ByteArray := s.extract 0 (tl (nz (lst s)))
theorem tidyC_lst (s : ByteArray) : lst (tidyC s) = cz (lst s) := by
  unfold tidyC cz lst
  rw [Lib.extract_data]
  simp
theorem tidyC_ofL (s : ByteArray) : tidyC s = ofL (cz (lst s)) := by rw [← tidyC_lst, ofL_lst]
theorem tidyC_size (s : ByteArray) : (tidyC s).size = (cz (lst s)).length := by rw [← lst_size, tidyC_lst]

set_option maxHeartbeats 400000 in
theorem l1TidyC_any (s : ByteArray) (w : World) (hs : s.size ≤ maxLen) :
    Calls Try.prog 50 #[.string s] w fun e w' => e = .returned (.string (tidyC s)) ∧ w = w' := by
  unfold maxLen at hs
  go_enter Try.func50, Try.ntmps50
  go_wp2
  go_loop [3] (fun i => ∃ k : Nat, k ≤ s.size ∧ i = .int .i64 k ∧ Hid (tl ((nz (lst s)).take k) = tl (nz (lst s)))) (fun i => (Go.RowKit.intOf i).toNat)
  case atStart => exact ⟨s.size, Nat.le_refl _, rfl, by rw [List.take_of_length_le (by rw [nz_length, lst_size]; exact Nat.le_refl _)]; rfl⟩
  case round =>
    obtain ⟨k, hk, rfl, HT⟩ := hrel
    by_cases hk0 : k = 0
    · subst hk0
      go_wp2
      go_ret
      exact ⟨ret_string (by unfold tidyC; rw [← HT.out, List.take_zero, tl_nil]; simp), rfl⟩
    · obtain ⟨j, rfl⟩ : ∃ j, k = j + 1 := ⟨k - 1, by omega⟩
      have hj : j < s.size := by omega
      have HJ : Hid (j < (nz (lst s)).length) := by show _ < _; rw [nz_length, lst_size]; exact hj
      have HB : Hid ((nz (lst s))[j]? = some (!(s[j] == 48))) := by
        show _ = _
        unfold nz
        rw [List.getElem?_map, lst_get s j hj]
        rfl
      by_cases h48 : (s[j].toNat : Int) = 48
      · have h8 : s[j] = 48 := UInt8.toNat_inj.1 (by show s[j].toNat = 48; omega)
        have HB2 : Hid ((nz (lst s))[j]? = some false) := by show _ = _; rw [HB.out, h8]; rfl
        have hb : ((s[j].toNat : Int) == 48) = true := by simp [h48]
        clear h48 h8
        go_wp2
        go_round
        case rel => exact ⟨j, by omega, rfl, (tl_take_pred (nz (lst s)) j HJ.out HB2.out).symm.trans HT.out⟩
        case measure => simp [Go.RowKit.intOf]
      · have h8 : ¬ s[j] = 48 := fun h => h48 (by rw [h]; rfl)
        have HB2 : Hid ((nz (lst s))[j]? = some true) := by show _ = _; rw [HB.out]; simp [h8]
        have hb : ((s[j].toNat : Int) == 48) = false := by simpa using h48
        clear h48 h8
        go_wp2
        go_ret
        exact ⟨ret_string (by unfold tidyC; rw [← HT.out, tl_take_stop (nz (lst s)) j HJ.out HB2.out]), rfl⟩

/-- a sign of a coloured row, as an int -/
theorem sg3_int (x : UInt8) : sg3 x = true ↔ 48 ≤ (x.toNat : Int) ∧ (x.toNat : Int) ≤ 51 := by
  rw [sg3_iff]
  constructor
  · rintro (h | h | h | h) <;> (rw [h]; decide)
  · rintro ⟨h1, h2⟩
    have h : x.toNat = 48 ∨ x.toNat = 49 ∨ x.toNat = 50 ∨ x.toNat = 51 := by omega
    rcases h with h | h | h | h
    · exact .inl (UInt8.toNat_inj.1 h)
    · exact .inr (.inl (UInt8.toNat_inj.1 h))
    · exact .inr (.inr (.inl (UInt8.toNat_inj.1 h)))
    · exact .inr (.inr (.inr (UInt8.toNat_inj.1 h)))
theorem cIn_bad (s : ByteArray) (k : Nat) (h : k < s.size) (hb : ¬ (48 ≤ (s[k].toNat : Int) ∧ (s[k].toNat : Int) ≤ 51)) : cIn s = false := by
  cases hc : cIn s
  · rfl
  · have := ((cIn_iff s).1 hc).1 s[k] (List.mem_of_getElem? (lst_get s k h))
    exact absurd ((sg3_int _).1 this) hb
theorem cIn_good (s : ByteArray) (h : ∀ k (h : k < s.size), sg3 s[k] = true) : cIn s = decide (s.size ≤ 120) := by
  have : (lst s).all sg3 = true := by
    rw [List.all_eq_true]
    intro x hx
    obtain ⟨k, hk, e⟩ := List.getElem_of_mem hx
    have hk' : k < s.size := by rw [← lst_size]; exact hk
    have e2 := lst_get s k hk'
    rw [List.getElem?_eq_getElem hk] at e2
    injection e2 with e2
    rw [← e, e2]
    exact h k hk'
  unfold cIn
  rw [this]
  rfl

end Go.Proofs.Ytlgceccbjkkeiaa

/- THE WALKS of the model's CircleIn, l6cTurned, CircleRotate. -/
namespace Go.Proofs.Ytlgceccbjkkeiaa
open Go.RowKit

/-- 1 to 60 signs -/
def ci60 (s : ByteArray) : Bool := decide ((1 : Int) ≤ (s.size : Int)) && decide ((s.size : Int) ≤ 60)
def ciIn (s : ByteArray) : Bool := vld s && ci60 s && decide (2 * (nballs (bits s) : Int) < (s.size : Int))
theorem ciIn_facts {s : ByteArray} (h : ciIn s = true) : vld s = true ∧ ci60 s = true ∧ 1 ≤ s.size ∧ s.size ≤ 60 ∧ drf (bits s) < 0 := by
  unfold ciIn at h
  rw [Bool.and_eq_true, Bool.and_eq_true] at h
  obtain ⟨⟨h1, h2⟩, h3⟩ := h
  have h2' := h2
  unfold ci60 at h2'
  simp at h2' h3
  refine ⟨h1, h2, by omega, by omega, ?_⟩
  rw [drf_balls, length_bits]
  omega

theorem sub_one (t : ByteArray) (k : Nat) (h : k < t.size) : (t.extract k (k + 1)).data.toList = [t[k]] := by
  rw [Lib.extract_data, show k + 1 - k = 1 by omega, List.drop_eq_getElem_cons (by simpa using h)]
  simp
  rfl
/-- CircleRotate -/
def rtOk (s : ByteArray) (n : Int) : Bool := ciIn s && (decide ((0 : Int) ≤ n) && decide (n ≤ (s.size : Int)))
def rtS (s : ByteArray) (n : Int) : ByteArray := if rtOk s n then s.extract n.toNat s.size ++ s.extract 0 n.toNat else ByteArray.empty
end Go.Proofs.Ytlgceccbjkkeiaa

/- CIRCLES AS TEXTS: what the model answers, and the facts of promises 43 to 48. Pure: no walk. -/
namespace Go.Proofs.Ytlgceccbjkkeiaa
open Go.RowKit

def ofB (l : List Bool) : ByteArray := ofL (chC 49 l)
theorem bits_ofB (l : List Bool) : bits (ofB l) = l := by
  unfold ofB ofL bits chC
  simp only [List.map_map]
  have : l.map ((fun x : UInt8 => x == 49) ∘ fun b => if b = true then (49 : UInt8) else 48) = l.map id := List.map_congr_left (fun b _ => by cases b <;> rfl)
  rw [this, List.map_id]
theorem ofB_size (l : List Bool) : (ofB l).size = l.length := by rw [← length_bits, bits_ofB]
theorem vld_ofB {l : List Bool} (h : l.length ≤ 120) : vld (ofB l) = true := by
  unfold vld
  rw [Bool.and_eq_true]
  refine ⟨?_, by rw [ofB_size]; simpa using h⟩
  unfold allSgn
  rw [List.all_eq_true]
  intro x hx
  have hx' : x ∈ chC 49 l := hx
  unfold chC at hx'
  obtain ⟨b, _, rfl⟩ := List.mem_map.1 hx'
  cases b <;> rfl
theorem ofB_bits {s : ByteArray} (h : vld s = true) : ofB (bits s) = s := by
  have h1 := vld_sgn s h
  unfold allSgn at h1
  rw [List.all_eq_true] at h1
  have e : chC 49 (bits s) = lst s := by
    unfold chC bits lst
    rw [List.map_map]
    have e : s.data.toList.map ((fun b => if b = true then (49 : UInt8) else 48) ∘ fun x => x == 49) = s.data.toList.map id := by
      refine List.map_congr_left (fun x hx => ?_)
      have hs := h1 x hx
      unfold sgn at hs
      rw [Bool.or_eq_true, beq_iff_eq, beq_iff_eq] at hs
      rcases hs with rfl | rfl <;> rfl
    rw [e, List.map_id]
  unfold ofB
  rw [e, ofL_lst]
/-- a list that is a circle -/
theorem ciIn_ofB {l : List Bool} (h0 : l.length ≤ 60) (h : drf l < 0) : ciIn (ofB l) = true := by
  have hne : 1 ≤ l.length := by
    cases l with
    | nil => simp [drf] at h
    | cons x l => simp
  rw [drf_balls] at h
  unfold ciIn ci60
  rw [vld_ofB (by omega), bits_ofB, ofB_size]
  simp
  omega

/-- CircleTurn, CircleBack -/
def ctS (s : ByteArray) : ByteArray := if ciIn s then ofB (cturn (bits s)) else ByteArray.empty
def cbS (s : ByteArray) : ByteArray := if ciIn s then ofB (cturn (bits s).reverse).reverse else ByteArray.empty
theorem ctS_facts {s : ByteArray} (h : ciIn s = true) : bits (ctS s) = cturn (bits s) ∧ ciIn (ctS s) = true ∧ (ctS s).size = s.size ∧ nballs (bits (ctS s)) = nballs (bits s) := by
  obtain ⟨_, _, _, h60, hd⟩ := ciIn_facts h
  have e : ctS s = ofB (cturn (bits s)) := by unfold ctS; rw [if_pos h]
  have hl : (cturn (bits s)).length = s.size := by rw [cturn_length, length_bits]
  have hd2 := cturn_drf hd
  rw [e, bits_ofB, ofB_size]
  refine ⟨rfl, ciIn_ofB (by omega) (by omega), hl, ?_⟩
  rw [drf_balls, drf_balls, cturn_length] at hd2
  omega
theorem cbS_facts {s : ByteArray} (h : ciIn s = true) : bits (cbS s) = (cturn (bits s).reverse).reverse ∧ ciIn (cbS s) = true ∧ (cbS s).size = s.size := by
  obtain ⟨_, _, _, h60, hd⟩ := ciIn_facts h
  have e : cbS s = ofB (cturn (bits s).reverse).reverse := by unfold cbS; rw [if_pos h]
  have hl : (cturn (bits s).reverse).reverse.length = s.size := by rw [List.length_reverse, cturn_length, List.length_reverse, length_bits]
  have hd2 : drf (bits s).reverse < 0 := by rw [drf_rev]; exact hd
  rw [e, bits_ofB, ofB_size]
  exact ⟨rfl, ciIn_ofB (by omega) (by rw [drf_rev, cturn_drf hd2]; exact hd2), hl⟩
/-- P44 -/
theorem turn_back_S {s : ByteArray} (h : ciIn s = true) : cbS (ctS s) = s := by
  obtain ⟨hv, _, _, _, hd⟩ := ciIn_facts h
  obtain ⟨h1, h2, _, _⟩ := ctS_facts h
  unfold cbS
  rw [if_pos h2, h1, cturn_back hd, List.reverse_reverse, ofB_bits hv]
/-- P45 -/
theorem back_turn_S {s : ByteArray} (h : ciIn s = true) : ctS (cbS s) = s := by
  obtain ⟨hv, _, _, _, hd⟩ := ciIn_facts h
  obtain ⟨h1, h2, _⟩ := cbS_facts h
  unfold ctS
  rw [if_pos h2, h1, cback_turn hd, ofB_bits hv]
/-- P44: none in the same box -/
theorem turn_apart {s : ByteArray} (h : ciIn s = true) {j : Nat} (hj : (bits s)[j]? = some true) : (bits (ctS s))[j]? = some false := by
  rw [(ctS_facts h).1]
  exact tn_apart _ _ _ hj

/-- CircleShape -/
def cshB (l : List Bool) : List Nat := shp (cnt10 (nballs l) l)
theorem cshB_turn {l : List Bool} (h : drf l < 0) : cshB (cturn l) = cshB l := by
  have e : nballs (cturn l) = nballs l := by
    have := cturn_drf h
    rw [drf_balls, drf_balls, cturn_length] at this
    omega
  unfold cshB
  rw [e, rounds_turn _ h]
theorem nballs_rot {l l' : List Bool} (h : Rot l l') : nballs l = nballs l' := by
  obtain ⟨a, b, rfl, rfl⟩ := h
  unfold nballs
  rw [List.count_append, List.count_append]
  omega
theorem cshB_rot {l l' : List Bool} (h : Rot l l') : cshB l = cshB l' := by
  unfold cshB
  rw [nballs_rot h, cnt10_rot _ h]

/-- CirclePeriod: the first of some turns that brings the circle back -/
def perB (l : List Bool) : Nat → Nat → Nat
  | 0, _ => 0
  | f + 1, n => if cturns n l = l then n else perB l f (n + 1)
theorem perB_turn {l : List Bool} (h : drf l < 0) : ∀ f n : Nat, perB (cturn l) f n = perB l f n
  | 0, _ => rfl
  | f + 1, n => by
    simp only [perB]
    rw [perB_turn h f (n + 1)]
    have := period_turn h n
    by_cases e : cturns n l = l
    · rw [if_pos e, if_pos (this.2 e)]
    · rw [if_neg e, if_neg (fun h => e (this.1 h))]
theorem perB_ge (l : List Bool) : ∀ f n : Nat, perB l f n = 0 ∨ n ≤ perB l f n
  | 0, _ => .inl rfl
  | f + 1, n => by
    simp only [perB]
    split
    · exact .inr (Nat.le_refl _)
    · rcases perB_ge l f (n + 1) with h | h
      · exact .inl h
      · exact .inr (by omega)
/-- P48: 1 exactly without balls -/
theorem perB_one (l : List Bool) (f : Nat) : perB l (f + 1) 1 = 1 ↔ nballs l = 0 := by
  have e : cturns 1 l = cturn l := rfl
  constructor
  · intro h
    simp only [perB] at h
    split at h
    · rename_i h1
      rw [e] at h1
      have := period_one h1
      unfold nballs
      rw [List.count_eq_zero]
      intro hm
      exact absurd (this true hm) (by simp)
    · have h3 : perB l f 2 = 1 := h
      rcases perB_ge l f 2 with h2 | h2
      · rw [h3] at h2; exact absurd h2 (by simp)
      · rw [h3] at h2; exact absurd h2 (by simp)
  · intro h
    simp only [perB]
    rw [if_pos (by rw [e]; exact cturn_still h)]
end Go.Proofs.Ytlgceccbjkkeiaa
