/- TEXTS SCol, SCir, Cir8. -/
import Derived.Test.Ytkdhifofdghbbabexc09
import Derived.Test.Ytkdhifofdghbbabexc02
import Derived.Test.Ytkdhifofdghbbabexc07
import Derived.Lib.Strings
import Derived.Test.Ytkdhifofdghbbabexc04
import Derived.Test.Ytkdhifofdghbbabexc03
import Derived.Test.Ytkdhifofdghbbabexc05
/- THE WALKS of the model's ColourIn, l1Tidy and l1Done of whatever text. -/
namespace Go.Proofs.Ytkdhifofdghbbab
open Go.RowKit

theorem lst_get (s : ByteArray) (k : Nat) (h : k < s.size) : (lst s)[k]? = some s[k] := by
  unfold lst
  rw [List.getElem?_eq_getElem (by simpa using h)]
  simp
  rfl
/-- a text cut behind its last ball, of whatever colour -/
def tidyC (s : ByteArray) : ByteArray := s.extract 0 (tl (nz (lst s)))
theorem tidyC_lst (s : ByteArray) : lst (tidyC s) = cz (lst s) := by
  unfold tidyC cz lst
  rw [Lib.extract_data]
  simp
theorem tidyC_ofL (s : ByteArray) : tidyC s = ofL (cz (lst s)) := by rw [← tidyC_lst, ofL_lst]
theorem tidyC_size (s : ByteArray) : (tidyC s).size = (cz (lst s)).length := by rw [← lst_size, tidyC_lst]

/-- a sign of a coloured row, as an int -/
theorem sg3_int (x : UInt8) : sg3 x = true ↔ 48 ≤ (x.toNat : Int) ∧ (x.toNat : Int) ≤ 51 := by
  rw [sg3_iff]
  constructor
  · rintro (h | h | h | h) <;> (rw [h]; decide)
  · rintro ⟨h1, h2⟩
    have h : x.toNat = 48 ∨ x.toNat = 49 ∨ x.toNat = 50 ∨ x.toNat = 51 := by omega
    rcases h with h | h | h | h
    · exact .inl (UInt8.toNat_inj.1 h)
    · exact .inr (.inl (UInt8.toNat_inj.1 h))
    · exact .inr (.inr (.inl (UInt8.toNat_inj.1 h)))
    · exact .inr (.inr (.inr (UInt8.toNat_inj.1 h)))
theorem cIn_bad (s : ByteArray) (k : Nat) (h : k < s.size) (hb : ¬ (48 ≤ (s[k].toNat : Int) ∧ (s[k].toNat : Int) ≤ 51)) : cIn s = false := by
  cases hc : cIn s
  · rfl
  · have := ((cIn_iff s).1 hc).1 s[k] (List.mem_of_getElem? (lst_get s k h))
    exact absurd ((sg3_int _).1 this) hb
theorem cIn_good (s : ByteArray) (h : ∀ k (h : k < s.size), sg3 s[k] = true) : cIn s = decide (s.size ≤ 120) := by
  have : (lst s).all sg3 = true := by
    rw [List.all_eq_true]
    intro x hx
    obtain ⟨k, hk, e⟩ := List.getElem_of_mem hx
    have hk' : k < s.size := by rw [← lst_size]; exact hk
    have e2 := lst_get s k hk'
    rw [List.getElem?_eq_getElem hk] at e2
    injection e2 with e2
    rw [← e, e2]
    exact h k hk'
  unfold cIn
  rw [this]
  rfl

end Go.Proofs.Ytkdhifofdghbbab

/- THE WALKS of the model's CircleIn, l6cTurned, CircleRotate. -/
namespace Go.Proofs.Ytkdhifofdghbbab
open Go.RowKit

/-- 1 to 60 signs -/
def ci60 (s : ByteArray) : Bool := decide ((1 : Int) ≤ (s.size : Int)) && decide ((s.size : Int) ≤ 60)
def ciIn (s : ByteArray) : Bool := vld s && ci60 s && decide (2 * (nballs (bits s) : Int) < (s.size : Int))
theorem ciIn_facts {s : ByteArray} (h : ciIn s = true) : vld s = true ∧ ci60 s = true ∧ 1 ≤ s.size ∧ s.size ≤ 60 ∧ drf (bits s) < 0 := by
  unfold ciIn at h
  rw [Bool.and_eq_true, Bool.and_eq_true] at h
  obtain ⟨⟨h1, h2⟩, h3⟩ := h
  have h2' := h2
  unfold ci60 at h2'
  simp at h2' h3
  refine ⟨h1, h2, by omega, by omega, ?_⟩
  rw [drf_balls, length_bits]
  omega

set_option maxHeartbeats 400000 in
theorem specCircleIn_any (s : ByteArray) (w : World) (hs : s.size ≤ maxLen) :
    Calls Try.prog 9 #[.string s] w fun e w' => e = .returned (.bool (ciIn s)) ∧ w = w' := by
  have CV := hide (fun w => specRowValid_any s w hs)
  have CL := hide (fun w => l6In_any (s.size : Int) 1 60 (ci60 s) w rfl)
  have CB := hide (fun w => l1Balls_any s w hs)
  cases hv : vld s
  · rw [hv] at CV
    have e : ciIn s = false := by unfold ciIn; rw [hv]; rfl
    rw [e]
    clear hv e CB CL
    unfold maxLen at hs
    go_enter Try.func9, Try.ntmps9
    go_wp2_with (go_at_call 24; refine (CV.out _).mono ?_; rintro e w' ⟨rfl, rfl⟩)
    go_ret
    exact ⟨rfl, rfl⟩
  · rw [hv] at CV
    cases h6 : ci60 s
    · rw [h6] at CL
      have e : ciIn s = false := by unfold ciIn; rw [h6, hv]; rfl
      rw [e]
      clear hv h6 e CB
      unfold maxLen at hs
      go_enter Try.func9, Try.ntmps9
      go_wp2_with (first | (go_at_call 24; refine (CV.out _).mono ?_; rintro e w' ⟨rfl, rfl⟩) | (go_at_call 25; refine (CL.out _).mono ?_; rintro e w' ⟨rfl, rfl⟩))
      go_ret
      exact ⟨rfl, rfl⟩
    · rw [h6] at CL
      have e : ciIn s = decide (2 * (nballs (bits s) : Int) < (s.size : Int)) := by unfold ciIn; rw [h6, hv]; rfl
      have hb := nballs_le (bits s) s.size
      rw [← length_bits s, List.take_of_length_le (Nat.le_refl _)] at hb
      have h120 := vld_le s hv
      rw [length_bits] at hb
      rw [e]
      obtain ⟨n, hn⟩ : ∃ n : Int, n = (nballs (bits s) : Int) := ⟨_, rfl⟩
      rw [← hn] at CB ⊢
      have hw : IntKind.i64.wrap (2 * n) = 2 * n := IntWalk.i64_in _ (by omega)
      clear hn hv h6 e hb
      unfold maxLen at hs
      go_enter Try.func9, Try.ntmps9
      go_wp2_with (first | (go_at_call 24; refine (CV.out _).mono ?_; rintro e w' ⟨rfl, rfl⟩) | (go_at_call 25; refine (CL.out _).mono ?_; rintro e w' ⟨rfl, rfl⟩) | (go_at_call 26; refine (CB.out _).mono ?_; rintro e w' ⟨rfl, rfl⟩))
      go_ret
      exact ⟨rfl, rfl⟩

theorem sub_one (t : ByteArray) (k : Nat) (h : k < t.size) : (t.extract k (k + 1)).data.toList = [t[k]] := by
  rw [Lib.extract_data, show k + 1 - k = 1 by omega, List.drop_eq_getElem_cons (by simpa using h)]
  simp
  rfl
set_option maxHeartbeats 400000 in
theorem l6cTurned_any (t : ByteArray) (w : World) (ht : t.size ≤ maxLen) :
    Calls Try.prog 31 #[.string t] w fun e w' => e = .returned (.string (ofL (lst t).reverse)) ∧ w = w' := by
  unfold maxLen at ht
  go_enter Try.func31, Try.ntmps31
  go_wp2
  go_loop [3, 4] (fun o i => ∃ (x : ByteArray) (k : Nat), k ≤ t.size ∧ o = .string x ∧ i = .int .i64 (k : Int) ∧ x.size ≤ k ∧ Hid (x.data.toList = (t.data.toList.take k).reverse)) (fun _ i => t.size - (Go.RowKit.intOf i).toNat)
  case atStart => exact ⟨⟨#[]⟩, 0, Nat.zero_le _, rfl, rfl, Nat.zero_le _, rfl⟩
  case round =>
    obtain ⟨x, k, hk, rfl, rfl, hxk, HX⟩ := hrel
    by_cases hlt : k < t.size
    · have HS := hide (sub_one t k hlt)
      have HT := hide (take_snoc t k hlt)
      go_wp2
      go_round
      case rel =>
        have h1 : (t.extract k (k + 1)).size ≤ 1 := by simp; omega
        have h2 : ((t.extract k (k + 1)) ++ x).size ≤ k + 1 := by rw [ByteArray.size_append]; omega
        refine ⟨_, k + 1, by omega, rfl, by go_num, h2, ?_⟩
        show ((t.extract k (k + 1)) ++ x).data.toList = _
        rw [ByteArray.data_append, Array.toList_append, HS.out, HX.out, HT.out, List.reverse_append]; rfl
      case measure => simp [Go.RowKit.intOf]; omega
    · have HX2 : Hid (x = ofL (lst t).reverse) := by
        show _ = _
        rw [← ofL_lst x]
        show ofL x.data.toList = _
        rw [HX.out, List.take_of_length_le (by simp; omega)]
        rfl
      go_wp2
      go_ret
      exact ⟨ret_string HX2.out, rfl⟩

/-- CircleRotate -/
def rtOk (s : ByteArray) (n : Int) : Bool := ciIn s && (decide ((0 : Int) ≤ n) && decide (n ≤ (s.size : Int)))
def rtS (s : ByteArray) (n : Int) : ByteArray := if rtOk s n then s.extract n.toNat s.size ++ s.extract 0 n.toNat else ByteArray.empty
set_option maxHeartbeats 400000 in
theorem specCircleRotate_any (s : ByteArray) (n : Int) (w : World) (hs : s.size ≤ maxLen) :
    Calls Try.prog 15 #[.string s, .int .i64 n] w fun e w' => e = .returned (.tuple #[.string (rtS s n), .bool (rtOk s n)]) ∧ Quiet w w' := by
  have CI := hide (fun w => specCircleIn_any s w hs)
  have CL := hide (fun w => l6In_any n 0 (s.size : Int) _ w rfl)
  cases h1 : ciIn s
  · rw [h1] at CI
    have e1 : rtOk s n = false := by unfold rtOk; rw [h1]; rfl
    have e2 : rtS s n = ByteArray.empty := by unfold rtS; rw [e1]; rfl
    rw [e1, e2]
    clear e1 e2 h1 hs CL
    go_enter Try.func15, Try.ntmps15
    go_wp2_with (go_at_call 9; refine (CI.out _).mono ?_; rintro e w' ⟨rfl, rfl⟩)
    go_ret2
    exact ⟨rfl, Quiet.refl _⟩
  · rw [h1] at CI
    cases h2 : (decide ((0 : Int) ≤ n) && decide (n ≤ (s.size : Int)))
    · rw [h2] at CL
      have e1 : rtOk s n = false := by unfold rtOk; rw [h1, h2]; rfl
      have e2 : rtS s n = ByteArray.empty := by unfold rtS; rw [e1]; rfl
      rw [e1, e2]
      clear e1 e2 h1 h2
      unfold maxLen at hs
      go_enter Try.func15, Try.ntmps15
      go_wp2_with (first | (go_at_call 9; refine (CI.out _).mono ?_; rintro e w' ⟨rfl, rfl⟩) | (go_at_call 25; refine (CL.out _).mono ?_; rintro e w' ⟨rfl, rfl⟩))
      go_ret2
      exact ⟨rfl, Quiet.refl _⟩
    · rw [h2] at CL
      have e1 : rtOk s n = true := by unfold rtOk; rw [h1, h2]; rfl
      have e2 : rtS s n = s.extract n.toNat s.size ++ s.extract 0 n.toNat := by unfold rtS; rw [e1]; rfl
      rw [e1, e2]
      have hs60 := (ciIn_facts h1).2.2.2.1
      simp at h2
      obtain ⟨n0, n1⟩ := h2
      obtain ⟨m, rfl⟩ := Int.eq_ofNat_of_zero_le n0
      have hm : m ≤ s.size := by omega
      have hz1 : (s.extract m s.size).size ≤ 60 := by simp; omega
      have hz2 : (s.extract 0 m).size ≤ 60 := by simp; omega
      clear e1 e2 h1
      unfold maxLen at hs
      go_enter Try.func15, Try.ntmps15
      go_wp2_with (first | (go_at_call 9; refine (CI.out _).mono ?_; rintro e w' ⟨rfl, rfl⟩) | (go_at_call 25; refine (CL.out _).mono ?_; rintro e w' ⟨rfl, rfl⟩))
      go_quiet (fail)
      go_wp2
      go_ret2
      exact ⟨by simp, Quiet.drewN _⟩
end Go.Proofs.Ytkdhifofdghbbab

/- CIRCLES AS TEXTS: what the model answers, and the facts of promises 43 to 48. Pure: no walk. -/
namespace Go.Proofs.Ytkdhifofdghbbab
open Go.RowKit

def ofB (l : List Bool) : ByteArray := ofL (chC 49 l)
theorem bits_ofB (l : List Bool) : bits (ofB l) = l := by
  unfold ofB ofL bits chC
  simp only [List.map_map]
  have : l.map ((fun x : UInt8 => x == 49) ∘ fun b => if b = true then (49 : UInt8) else 48) = l.map id := List.map_congr_left (fun b _ => by cases b <;> rfl)
  rw [this, List.map_id]
theorem ofB_size (l : List Bool) : (ofB l).size = l.length := by rw [← length_bits, bits_ofB]
theorem vld_ofB {l : List Bool} (h : l.length ≤ 120) : vld (ofB l) = true := by
  unfold vld
  rw [Bool.and_eq_true]
  refine ⟨?_, by rw [ofB_size]; simpa using h⟩
  unfold allSgn
  rw [List.all_eq_true]
  intro x hx
  have hx' : x ∈ chC 49 l := hx
  unfold chC at hx'
  obtain ⟨b, _, rfl⟩ := List.mem_map.1 hx'
  cases b <;> rfl
theorem ofB_bits {s : ByteArray} (h : vld s = true) : ofB (bits s) = s := by
  have h1 := vld_sgn s h
  unfold allSgn at h1
  rw [List.all_eq_true] at h1
  have e : chC 49 (bits s) = lst s := by
    unfold chC bits lst
    rw [List.map_map]
    have e : s.data.toList.map ((fun b => if b = true then (49 : UInt8) else 48) ∘ fun x => x == 49) = s.data.toList.map id := by
      refine List.map_congr_left (fun x hx => ?_)
      have hs := h1 x hx
      unfold sgn at hs
      rw [Bool.or_eq_true, beq_iff_eq, beq_iff_eq] at hs
      rcases hs with rfl | rfl <;> rfl
    rw [e, List.map_id]
  unfold ofB
  rw [e, ofL_lst]
/-- a list that is a circle -/
theorem ciIn_ofB {l : List Bool} (h0 : l.length ≤ 60) (h : drf l < 0) : ciIn (ofB l) = true := by
  have hne : 1 ≤ l.length := by
    cases l with
    | nil => simp [drf] at h
    | cons x l => simp
  rw [drf_balls] at h
  unfold ciIn ci60
  rw [vld_ofB (by omega), bits_ofB, ofB_size]
  simp
  omega

/-- CircleTurn, CircleBack -/
def ctS (s : ByteArray) : ByteArray := if ciIn s then ofB (cturn (bits s)) else ByteArray.empty
def cbS (s : ByteArray) : ByteArray := if ciIn s then ofB (cturn (bits s).reverse).reverse else ByteArray.empty
theorem ctS_facts {s : ByteArray} (h : ciIn s = true) : bits (ctS s) = cturn (bits s) ∧ ciIn (ctS s) = true ∧ (ctS s).size = s.size ∧ nballs (bits (ctS s)) = nballs (bits s) := by
  obtain ⟨_, _, _, h60, hd⟩ := ciIn_facts h
  have e : ctS s = ofB (cturn (bits s)) := by unfold ctS; rw [if_pos h]
  have hl : (cturn (bits s)).length = s.size := by rw [cturn_length, length_bits]
  have hd2 := cturn_drf hd
  rw [e, bits_ofB, ofB_size]
  refine ⟨rfl, ciIn_ofB (by omega) (by omega), hl, ?_⟩
  rw [drf_balls, drf_balls, cturn_length] at hd2
  omega
theorem cbS_facts {s : ByteArray} (h : ciIn s = true) : bits (cbS s) = (cturn (bits s).reverse).reverse ∧ ciIn (cbS s) = true ∧ (cbS s).size = s.size := by
  obtain ⟨_, _, _, h60, hd⟩ := ciIn_facts h
  have e : cbS s = ofB (cturn (bits s).reverse).reverse := by unfold cbS; rw [if_pos h]
  have hl : (cturn (bits s).reverse).reverse.length = s.size := by rw [List.length_reverse, cturn_length, List.length_reverse, length_bits]
  have hd2 : drf (bits s).reverse < 0 := by rw [drf_rev]; exact hd
  rw [e, bits_ofB, ofB_size]
  exact ⟨rfl, ciIn_ofB (by omega) (by rw [drf_rev, cturn_drf hd2]; exact hd2), hl⟩
/-- P44 -/
theorem turn_back_S {s : ByteArray} (h : ciIn s = true) : cbS (ctS s) = s := by
  obtain ⟨hv, _, _, _, hd⟩ := ciIn_facts h
  obtain ⟨h1, h2, _, _⟩ := ctS_facts h
  unfold cbS
  rw [if_pos h2, h1, cturn_back hd, List.reverse_reverse, ofB_bits hv]
/-- P45 -/
theorem back_turn_S {s : ByteArray} (h : ciIn s = true) : ctS (cbS s) = s := by
  obtain ⟨hv, _, _, _, hd⟩ := ciIn_facts h
  obtain ⟨h1, h2, _⟩ := cbS_facts h
  unfold ctS
  rw [if_pos h2, h1, cback_turn hd, ofB_bits hv]
/-- P44: none in the same box -/
theorem turn_apart {s : ByteArray} (h : ciIn s = true) {j : Nat} (hj : (bits s)[j]? = some true) : (bits (ctS s))[j]? = some false := by
  rw [(ctS_facts h).1]
  exact tn_apart _ _ _ hj

/-- CircleShape -/
def cshB (l : List Bool) : List Nat := shp (cnt10 (nballs l) l)
theorem cshB_turn {l : List Bool} (h : drf l < 0) : cshB (cturn l) = cshB l := by
  have e : nballs (cturn l) = nballs l := by
    have := cturn_drf h
    rw [drf_balls, drf_balls, cturn_length] at this
    omega
  unfold cshB
  rw [e, rounds_turn _ h]
theorem nballs_rot {l l' : List Bool} (h : Rot l l') : nballs l = nballs l' := by
  obtain ⟨a, b, rfl, rfl⟩ := h
  unfold nballs
  rw [List.count_append, List.count_append]
  omega
theorem cshB_rot {l l' : List Bool} (h : Rot l l') : cshB l = cshB l' := by
  unfold cshB
  rw [nballs_rot h, cnt10_rot _ h]

/-- CirclePeriod: the first of some turns that brings the circle back -/
def perB (l : List Bool) : Nat → Nat → Nat
  | 0, _ => 0
  | f + 1, n => if cturns n l = l then n else perB l f (n + 1)
theorem perB_turn {l : List Bool} (h : drf l < 0) : ∀ f n : Nat, perB (cturn l) f n = perB l f n
  | 0, _ => rfl
  | f + 1, n => by
    simp only [perB]
    rw [perB_turn h f (n + 1)]
    have := period_turn h n
    by_cases e : cturns n l = l
    · rw [if_pos e, if_pos (this.2 e)]
    · rw [if_neg e, if_neg (fun h => e (this.1 h))]
theorem perB_ge (l : List Bool) : ∀ f n : Nat, perB l f n = 0 ∨ n ≤ perB l f n
  | 0, _ => .inl rfl
  | f + 1, n => by
    simp only [perB]
    split
    · exact .inr (Nat.le_refl _)
    · rcases perB_ge l f (n + 1) with h | h
      · exact .inl h
      · exact .inr (by omega)
/-- P48: 1 exactly without balls -/
theorem perB_one (l : List Bool) (f : Nat) : perB l (f + 1) 1 = 1 ↔ nballs l = 0 := by
  have e : cturns 1 l = cturn l := rfl
  constructor
  · intro h
    simp only [perB] at h
    split at h
    · rename_i h1
      rw [e] at h1
      have := period_one h1
      unfold nballs
      rw [List.count_eq_zero]
      intro hm
      exact absurd (this true hm) (by simp)
    · have h3 : perB l f 2 = 1 := h
      rcases perB_ge l f 2 with h2 | h2
      · rw [h3] at h2; exact absurd h2 (by simp)
      · rw [h3] at h2; exact absurd h2 (by simp)
  · intro h
    simp only [perB]
    rw [if_pos (by rw [e]; exact cturn_still h)]
end Go.Proofs.Ytkdhifofdghbbab
