/- TEXTS SCol, SCir, Cir8, Cir9, SCir2, SCol2, Col5, SCol3. -/
import Derived.Test.YtdooboibmllfkabGreatDoorExb13
import Derived.Test.YtdooboibmllfkabGreatDoorExb01
import Derived.Test.YtdooboibmllfkabGreatDoorExb05
import Derived.Lib.Strings
import Derived.Test.YtdooboibmllfkabGreatDoorExb02
import Derived.Maps.AppendAt
import Derived.Lib.ConvBytes
import Derived.Laws.IdiomStrings
namespace Go.Proofs.YtdooboibmllfkabGreatDoor
set_option maxRecDepth 100000
open Go.RowKit

theorem lst_get (s : ByteArray) (k : Nat) (h : k < s.size) : (lst s)[k]? = some s[k] := by
  unfold lst
  rw [List.getElem?_eq_getElem (by simpa using h)]
  simp
  rfl
def tidyC (s : ByteArray) : ByteArray := s.extract 0 (tl (nz (lst s)))
theorem tidyC_lst (s : ByteArray) : lst (tidyC s) = cz (lst s) := by
  unfold tidyC cz lst
  rw [Lib.extract_data]
  simp
theorem tidyC_ofL (s : ByteArray) : tidyC s = ofL (cz (lst s)) := by rw [← tidyC_lst, ofL_lst]
theorem tidyC_size (s : ByteArray) : (tidyC s).size = (cz (lst s)).length := by rw [← lst_size, tidyC_lst]

set_option maxHeartbeats 400000 in
theorem l1TidyC_any (s : ByteArray) (w : World) (hs : s.size ≤ maxLen) :
    Calls Tryz.prog 48 #[.string s] w fun e w' => e = .returned (.string (tidyC s)) ∧ w = w' := by
  unfold maxLen at hs
  go_enter Tryz.func48, Tryz.ntmps48
  go_wp2
  go_loop [3] (fun i => ∃ k : Nat, k ≤ s.size ∧ i = .int .i64 k ∧ Hid (tl ((nz (lst s)).take k) = tl (nz (lst s)))) (fun i => (Go.RowKit.intOf i).toNat)
  case atStart => exact ⟨s.size, Nat.le_refl _, rfl, by rw [List.take_of_length_le (by rw [nz_length, lst_size]; exact Nat.le_refl _)]; rfl⟩
  case round =>
    obtain ⟨k, hk, rfl, HT⟩ := hrel
    by_cases hk0 : k = 0
    · subst hk0
      go_wp2
      go_ret
      exact ⟨ret_string (by unfold tidyC; rw [← HT.out, List.take_zero, tl_nil]; simp), rfl⟩
    · obtain ⟨j, rfl⟩ : ∃ j, k = j + 1 := ⟨k - 1, by omega⟩
      have hj : j < s.size := by omega
      have HJ : Hid (j < (nz (lst s)).length) := by show _ < _; rw [nz_length, lst_size]; exact hj
      have HB : Hid ((nz (lst s))[j]? = some (!(s[j] == 48))) := by
        show _ = _
        unfold nz
        rw [List.getElem?_map, lst_get s j hj]
        rfl
      by_cases h48 : (s[j].toNat : Int) = 48
      · have h8 : s[j] = 48 := UInt8.toNat_inj.1 (by show s[j].toNat = 48; omega)
        have HB2 : Hid ((nz (lst s))[j]? = some false) := by show _ = _; rw [HB.out, h8]; rfl
        have hb : ((s[j].toNat : Int) == 48) = true := by simp [h48]
        clear h48 h8
        go_wp2
        go_round
        case rel => exact ⟨j, by omega, rfl, (tl_take_pred (nz (lst s)) j HJ.out HB2.out).symm.trans HT.out⟩
        case measure => simp [Go.RowKit.intOf]
      · have h8 : ¬ s[j] = 48 := fun h => h48 (by rw [h]; rfl)
        have HB2 : Hid ((nz (lst s))[j]? = some true) := by show _ = _; rw [HB.out]; simp [h8]
        have hb : ((s[j].toNat : Int) == 48) = false := by simpa using h48
        clear h48 h8
        go_wp2
        go_ret
        exact ⟨ret_string (by unfold tidyC; rw [← HT.out, tl_take_stop (nz (lst s)) j HJ.out HB2.out]), rfl⟩

set_option maxHeartbeats 400000 in
theorem l1DoneC_any (x : ByteArray) (w : World) (hs : x.size ≤ 1000) :
    Calls Tryz.prog 25 #[.string x] w fun e w' => e = .returned (.tuple #[.string (if (cz (lst x)).length ≤ 120 then ofL (cz (lst x)) else ByteArray.empty), .bool (decide ((cz (lst x)).length ≤ 120))]) ∧ w = w' := by
  have C := hide (fun w => l1TidyC_any x w (by unfold maxLen; omega))
  have hz := tidyC_size x
  rw [← hz, ← tidyC_ofL]
  obtain ⟨t, ht⟩ : ∃ t, t = tidyC x := ⟨_, rfl⟩
  rw [← ht] at C ⊢
  clear ht hz
  by_cases h : t.size ≤ 120
  · go_enter Tryz.func25, Tryz.ntmps25
    go_wp2_with (go_at_call 48; refine (C.out _).mono ?_; rintro e w' ⟨rfl, rfl⟩)
    go_ret2
    exact ⟨by simp, rfl⟩
  · go_enter Tryz.func25, Tryz.ntmps25
    go_wp2_with (go_at_call 48; refine (C.out _).mono ?_; rintro e w' ⟨rfl, rfl⟩)
    go_ret2
    exact ⟨by simp; rfl, rfl⟩

theorem sg3_int (x : UInt8) : sg3 x = true ↔ 48 ≤ (x.toNat : Int) ∧ (x.toNat : Int) ≤ 51 := by
  rw [sg3_iff]
  constructor
  · rintro (h | h | h | h) <;> (rw [h]; decide)
  · rintro ⟨h1, h2⟩
    have h : x.toNat = 48 ∨ x.toNat = 49 ∨ x.toNat = 50 ∨ x.toNat = 51 := by omega
    rcases h with h | h | h | h
    · exact .inl (UInt8.toNat_inj.1 h)
    · exact .inr (.inl (UInt8.toNat_inj.1 h))
    · exact .inr (.inr (.inl (UInt8.toNat_inj.1 h)))
    · exact .inr (.inr (.inr (UInt8.toNat_inj.1 h)))
theorem cIn_bad (s : ByteArray) (k : Nat) (h : k < s.size) (hb : ¬ (48 ≤ (s[k].toNat : Int) ∧ (s[k].toNat : Int) ≤ 51)) : cIn s = false := by
  cases hc : cIn s
  · rfl
  · have := ((cIn_iff s).1 hc).1 s[k] (List.mem_of_getElem? (lst_get s k h))
    exact absurd ((sg3_int _).1 this) hb
theorem cIn_good (s : ByteArray) (h : ∀ k (h : k < s.size), sg3 s[k] = true) : cIn s = decide (s.size ≤ 120) := by
  have : (lst s).all sg3 = true := by
    rw [List.all_eq_true]
    intro x hx
    obtain ⟨k, hk, e⟩ := List.getElem_of_mem hx
    have hk' : k < s.size := by rw [← lst_size]; exact hk
    have e2 := lst_get s k hk'
    rw [List.getElem?_eq_getElem hk] at e2
    injection e2 with e2
    rw [← e, e2]
    exact h k hk'
  unfold cIn
  rw [this]
  rfl

set_option maxHeartbeats 400000 in
theorem specColourIn_any (s : ByteArray) (w : World) (hs : s.size ≤ maxLen) :
    Calls Tryz.prog 123 #[.string s] w fun e w' => e = .returned (.bool (cIn s)) ∧ w = w' := by
  unfold maxLen at hs
  go_enter Tryz.func123, Tryz.ntmps123
  go_wp2
  go_loop [3] (fun i => ∃ k : Nat, k ≤ s.size ∧ i = .int .i64 k ∧ Hid (∀ j (h : j < s.size), j < k → sg3 s[j] = true)) (fun i => s.size - (Go.RowKit.intOf i).toNat)
  case atStart => exact ⟨0, Nat.zero_le _, rfl, fun j _ h => by omega⟩
  case round =>
    obtain ⟨k, hk, rfl, HA⟩ := hrel
    by_cases hlt : k < s.size
    · by_cases hc : 48 ≤ (s[k].toNat : Int) ∧ (s[k].toNat : Int) ≤ 51
      · have HN : Hid (∀ j (h : j < s.size), j < k + 1 → sg3 s[j] = true) := by
          intro j h hj
          by_cases e : j = k
          · subst e; exact (sg3_int _).2 hc
          · exact HA.out j h (by omega)
        have h1 : decide ((s[k].toNat : Int) < 48) = false := by simp; omega
        have h2 : decide ((51 : Int) < (s[k].toNat : Int)) = false := by simp; omega
        clear hc
        go_wp2
        go_round
        case rel => exact ⟨k + 1, by omega, by go_num, HN.out⟩
        case measure => simp [Go.RowKit.intOf]; omega
      · have HC := hide (cIn_bad s k hlt hc)
        by_cases h3 : (s[k].toNat : Int) < 48
        · have h1 : decide ((s[k].toNat : Int) < 48) = true := by simpa using h3
          clear hc
          go_wp2
          go_ret
          exact ⟨ret_bool HC.out.symm, rfl⟩
        · have h1 : decide ((s[k].toNat : Int) < 48) = false := by simpa using h3
          have h4 : (51 : Int) < (s[k].toNat : Int) := by omega
          have h2 : decide ((51 : Int) < (s[k].toNat : Int)) = true := by simpa using h4
          clear hc
          go_wp2
          go_ret
          exact ⟨ret_bool HC.out.symm, rfl⟩
    · have HE := hide (cIn_good s (fun j h => HA.out j h (by omega)))
      go_wp2
      go_ret
      exact ⟨ret_bool (by rw [HE.out]; simp; omega), rfl⟩
end Go.Proofs.YtdooboibmllfkabGreatDoor

namespace Go.Proofs.YtdooboibmllfkabGreatDoor
set_option maxRecDepth 100000
open Go.RowKit

def ci60 (s : ByteArray) : Bool := decide ((1 : Int) ≤ (s.size : Int)) && decide ((s.size : Int) ≤ 60)
def ciIn (s : ByteArray) : Bool := vld s && ci60 s && decide (2 * (nballs (bits s) : Int) < (s.size : Int))
theorem ciIn_facts {s : ByteArray} (h : ciIn s = true) : vld s = true ∧ ci60 s = true ∧ 1 ≤ s.size ∧ s.size ≤ 60 ∧ drf (bits s) < 0 := by
  unfold ciIn at h
  rw [Bool.and_eq_true, Bool.and_eq_true] at h
  obtain ⟨⟨h1, h2⟩, h3⟩ := h
  have h2' := h2
  unfold ci60 at h2'
  simp at h2' h3
  refine ⟨h1, h2, by omega, by omega, ?_⟩
  rw [drf_balls, length_bits]
  omega

set_option maxHeartbeats 400000 in
theorem specCircleIn_any (s : ByteArray) (w : World) (hs : s.size ≤ maxLen) :
    Calls Tryz.prog 121 #[.string s] w fun e w' => e = .returned (.bool (ciIn s)) ∧ w = w' := by
  have CV := hide (fun w => specRowValid_any s w hs)
  have CL := hide (fun w => l6In_any (s.size : Int) 1 60 (ci60 s) w rfl)
  have CB := hide (fun w => l1Balls_any s w hs)
  cases hv : vld s
  · rw [hv] at CV
    have e : ciIn s = false := by unfold ciIn; rw [hv]; rfl
    rw [e]
    clear hv e CB CL
    unfold maxLen at hs
    go_enter Tryz.func121, Tryz.ntmps121
    go_wp2_with (go_at_call 22; refine (CV.out _).mono ?_; rintro e w' ⟨rfl, rfl⟩)
    go_ret
    exact ⟨rfl, rfl⟩
  · rw [hv] at CV
    cases h6 : ci60 s
    · rw [h6] at CL
      have e : ciIn s = false := by unfold ciIn; rw [h6, hv]; rfl
      rw [e]
      clear hv h6 e CB
      unfold maxLen at hs
      go_enter Tryz.func121, Tryz.ntmps121
      go_wp2_with (first | (go_at_call 22; refine (CV.out _).mono ?_; rintro e w' ⟨rfl, rfl⟩) | (go_at_call 47; refine (CL.out _).mono ?_; rintro e w' ⟨rfl, rfl⟩))
      go_ret
      exact ⟨rfl, rfl⟩
    · rw [h6] at CL
      have e : ciIn s = decide (2 * (nballs (bits s) : Int) < (s.size : Int)) := by unfold ciIn; rw [h6, hv]; rfl
      have hb := nballs_le (bits s) s.size
      rw [← length_bits s, List.take_of_length_le (Nat.le_refl _)] at hb
      have h120 := vld_le s hv
      rw [length_bits] at hb
      rw [e]
      obtain ⟨n, hn⟩ : ∃ n : Int, n = (nballs (bits s) : Int) := ⟨_, rfl⟩
      rw [← hn] at CB ⊢
      have hw : IntKind.i64.wrap (2 * n) = 2 * n := IntWalk.i64_in _ (by omega)
      clear hn hv h6 e hb
      unfold maxLen at hs
      go_enter Tryz.func121, Tryz.ntmps121
      go_wp2_with (first | (go_at_call 22; refine (CV.out _).mono ?_; rintro e w' ⟨rfl, rfl⟩) | (go_at_call 47; refine (CL.out _).mono ?_; rintro e w' ⟨rfl, rfl⟩) | (go_at_call 75; refine (CB.out _).mono ?_; rintro e w' ⟨rfl, rfl⟩))
      go_ret
      exact ⟨rfl, rfl⟩

end Go.Proofs.YtdooboibmllfkabGreatDoor

namespace Go.Proofs.YtdooboibmllfkabGreatDoor
set_option maxRecDepth 100000
open Go.RowKit

def ofB (l : List Bool) : ByteArray := ofL (chC 49 l)
theorem bits_ofB (l : List Bool) : bits (ofB l) = l := by
  unfold ofB ofL bits chC
  simp only [List.map_map]
  have : l.map ((fun x : UInt8 => x == 49) ∘ fun b => if b = true then (49 : UInt8) else 48) = l.map id := List.map_congr_left (fun b _ => by cases b <;> rfl)
  rw [this, List.map_id]
theorem ofB_size (l : List Bool) : (ofB l).size = l.length := by rw [← length_bits, bits_ofB]
theorem vld_ofB {l : List Bool} (h : l.length ≤ 120) : vld (ofB l) = true := by
  unfold vld
  rw [Bool.and_eq_true]
  refine ⟨?_, by rw [ofB_size]; simpa using h⟩
  unfold allSgn
  rw [List.all_eq_true]
  intro x hx
  have hx' : x ∈ chC 49 l := hx
  unfold chC at hx'
  obtain ⟨b, _, rfl⟩ := List.mem_map.1 hx'
  cases b <;> rfl
theorem ofB_bits {s : ByteArray} (h : vld s = true) : ofB (bits s) = s := by
  have h1 := vld_sgn s h
  unfold allSgn at h1
  rw [List.all_eq_true] at h1
  have e : chC 49 (bits s) = lst s := by
    unfold chC bits lst
    rw [List.map_map]
    have e : s.data.toList.map ((fun b => if b = true then (49 : UInt8) else 48) ∘ fun x => x == 49) = s.data.toList.map id := by
      refine List.map_congr_left (fun x hx => ?_)
      have hs := h1 x hx
      unfold sgn at hs
      rw [Bool.or_eq_true, beq_iff_eq, beq_iff_eq] at hs
      rcases hs with rfl | rfl <;> rfl
    rw [e, List.map_id]
  unfold ofB
  rw [e, ofL_lst]
theorem ciIn_ofB {l : List Bool} (h0 : l.length ≤ 60) (h : drf l < 0) : ciIn (ofB l) = true := by
  have hne : 1 ≤ l.length := by
    cases l with
    | nil => simp [drf] at h
    | cons x l => simp
  rw [drf_balls] at h
  unfold ciIn ci60
  rw [vld_ofB (by omega), bits_ofB, ofB_size]
  simp
  omega

def ctS (s : ByteArray) : ByteArray := if ciIn s then ofB (cturn (bits s)) else ByteArray.empty
theorem ctS_facts {s : ByteArray} (h : ciIn s = true) : bits (ctS s) = cturn (bits s) ∧ ciIn (ctS s) = true ∧ (ctS s).size = s.size ∧ nballs (bits (ctS s)) = nballs (bits s) := by
  obtain ⟨_, _, _, h60, hd⟩ := ciIn_facts h
  have e : ctS s = ofB (cturn (bits s)) := by unfold ctS; rw [if_pos h]
  have hl : (cturn (bits s)).length = s.size := by rw [cturn_length, length_bits]
  have hd2 := cturn_drf hd
  rw [e, bits_ofB, ofB_size]
  refine ⟨rfl, ciIn_ofB (by omega) (by omega), hl, ?_⟩
  rw [drf_balls, drf_balls, cturn_length] at hd2
  omega
def perB (l : List Bool) : Nat → Nat → Nat
  | 0, _ => 0
  | f + 1, n => if cturns n l = l then n else perB l f (n + 1)
end Go.Proofs.YtdooboibmllfkabGreatDoor

namespace Go.Proofs.YtdooboibmllfkabGreatDoor
set_option maxRecDepth 100000
open Go.RowKit

theorem Rot.drf {l l' : List Bool} (h : Rot l l') : drf l = drf l' := by
  obtain ⟨a, b, rfl, rfl⟩ := h
  rw [drf_app, drf_app]
  omega
end Go.Proofs.YtdooboibmllfkabGreatDoor

namespace Go.Proofs.YtdooboibmllfkabGreatDoor
set_option maxRecDepth 100000
open Go.RowKit

def TurnC : Prop := ∀ (s : ByteArray) (w : World), s.size ≤ maxLen →
    Calls Tryz.prog 122 #[.string s] w fun e w' => e = .returned (.tuple #[.string (ctS s), .bool (ciIn s)]) ∧ Below w.heap.size w w'
def cpN (s : ByteArray) : Int := if ciIn s then (perB (bits s) 5000 1 : Int) else 0
set_option maxRecDepth 100000 in
set_option maxHeartbeats 1000000 in
theorem specCirclePeriod_of (H : TurnC) (s : ByteArray) (w : World) (hs : s.size ≤ maxLen) :
    Calls Tryz.prog 89 #[.string s] w fun e w' => e = .returned (.tuple #[.int .i64 (cpN s), .bool (ciIn s)]) ∧ Below w.heap.size w w' := by
  have CI := hide (fun w => specCircleIn_any s w hs)
  cases h1 : ciIn s
  · rw [h1] at CI
    have e : cpN s = 0 := by unfold cpN; rw [h1]; rfl
    rw [e]
    clear h1 hs e
    go_enter Tryz.func89, Tryz.ntmps89
    go_wp2_with (go_at_call 121; refine (CI.out _).mono ?_; rintro e w' ⟨rfl, rfl⟩)
    go_ret2
    exact ⟨rfl, Below.refl _ _⟩
  · rw [h1] at CI
    have HT := hide H
    have H1 := hide h1
    have hv := (ciIn_facts h1).1
    have e : cpN s = (perB (bits s) 5000 1 : Int) := by unfold cpN; rw [h1]; rfl
    rw [e]
    have HV := hide hv
    obtain ⟨r, hr⟩ : ∃ r : Nat, r = perB (bits s) 5000 1 := ⟨_, rfl⟩
    have HR := hide hr
    rw [← hr]
    clear h1 hs e hv hr H
    go_enter Tryz.func89, Tryz.ntmps89
    go_wp2_with (go_at_call 121; refine (CI.out _).mono ?_; rintro e w' ⟨rfl, rfl⟩)
    go_loopw [4, 5, 6] (fun tv nv _ wr => ∃ (t : ByteArray) (k : Nat), tv = .string t ∧ nv = .int .i64 ((k : Int) + 1) ∧ k ≤ 5000 ∧ Hid (ciIn t = true ∧ bits t = cturns k (bits s) ∧ perB (bits s) (5000 - k) (k + 1) = r) ∧ Hid (Below w.heap.size w wr)) (fun _ nv _ => fun _ => 5001 - (Go.RowKit.intOf nv).toNat)
    case atStart => exact ⟨s, 0, rfl, rfl, by omega, ⟨H1.out, rfl, HR.out.symm⟩, Below.refl _ _⟩
    case round =>
      obtain ⟨t, k, rfl, rfl, hk, HK, HB⟩ := hrel
      by_cases hlt : k < 5000
      · have hle : (k : Int) + 1 ≤ 5000 := by omega
        obtain ⟨k1, k2, k3⟩ := HK.out
        obtain ⟨f1, f2, f3, _⟩ := ctS_facts k1
        have CT := hide (HT.out t wr (by have := (ciIn_facts k1).2.2.2.1; unfold maxLen; omega))
        rw [k1] at CT
        have hb : bits (ctS t) = cturns (k + 1) (bits s) := by rw [f1, k2]; exact (cturns_comm k (bits s)).symm
        have hst : ctS t = s ↔ cturns (k + 1) (bits s) = bits s := by
          constructor
          · intro e; rw [← hb, e]
          · intro e; rw [← ofB_bits (ciIn_facts f2).1, hb, e, ofB_bits HV.out]
        have hstep : perB (bits s) (5000 - k) (k + 1) = if cturns (k + 1) (bits s) = bits s then k + 1 else perB (bits s) (5000 - (k + 1)) (k + 1 + 1) := by
          rw [show 5000 - k = (5000 - (k + 1)) + 1 by omega]
          rfl
        obtain ⟨y, hy⟩ : ∃ y, y = ctS t := ⟨_, rfl⟩
        rw [← hy] at CT hst hb f2
        by_cases he : y = s
        · have HF : Hid (r = k + 1) := by show _ = _; rw [← k3, hstep, if_pos (hst.1 he)]
          clear k1 k2 k3 f1 f2 f3 hb hst hstep hy HK
          subst he
          go_wp2_with fail
          refine CT.out.mono ?_
          rintro e w2 ⟨rfl, hb2⟩
          have HB2 := hide (HB.out.trans (hb2.mono HB.out.size))
          clear hb2
          go_wp2_with fail
          go_ret2
          exact ⟨by rw [HF.out]; rfl, HB2.out⟩
        · have HN : Hid (ciIn y = true ∧ bits y = cturns (k + 1) (bits s) ∧ perB (bits s) (5000 - (k + 1)) (k + 1 + 1) = r) := ⟨f2, hb, by rw [← k3, hstep, if_neg (fun h => he (hst.2 h))]⟩
          have hq : (y.toList == s.toList) = false := by
            rw [beq_eq_false_iff_ne]
            intro h
            rw [ByteArray.toList_eq, ByteArray.toList_eq] at h
            exact he (by rw [← ofL_lst y, ← ofL_lst s]; unfold lst; rw [h])
          clear k1 k2 k3 f1 f2 f3 hb hst hstep hy HK
          go_wp2_with fail
          refine CT.out.mono ?_
          rintro e w2 ⟨rfl, hb2⟩
          have HB2 := hide (HB.out.trans (hb2.mono HB.out.size))
          clear hb2
          go_wp2_with fail
          go_roundw
          case rel => exact ⟨y, k + 1, rfl, by go_num, by omega, HN, HB2⟩
          case measure => simp [Go.RowKit.intOf]; omega
      · have hk5 : k = 5000 := by omega
        have HF : Hid (r = 0) := by show _ = _; rw [← HK.out.2.2, hk5]; rfl
        have hle : ¬ (k : Int) + 1 ≤ 5000 := by omega
        clear hk5
        go_wp2
        go_ret2
        exact ⟨by rw [HF.out]; rfl, HB.out⟩
end Go.Proofs.YtdooboibmllfkabGreatDoor

namespace Go.Proofs.YtdooboibmllfkabGreatDoor
set_option maxRecDepth 100000
open Go.RowKit Go.Lib

def bV (l : List UInt8) : List Value := l.map fun b => .int .u8 (b.toNat : Int)
theorem bV_length (l : List UInt8) : (bV l).length = l.length := by simp [bV]
theorem bV_get {l : List UInt8} {j : Nat} {x : UInt8} (h : l[j]? = some x) : (bV l)[j]? = some (.int .u8 (x.toNat : Int)) := by unfold bV; rw [List.getElem?_map, h]; rfl
theorem bV_set (l : List UInt8) (j : Nat) (x : UInt8) : bV (l.set j x) = (bV l).set j (.int .u8 (x.toNat : Int)) := by unfold bV; rw [List.map_set]
theorem bV_one (l : List UInt8) : ∀ u ∈ bV l, u.oneCell' = true := by
  intro u hu
  obtain ⟨b, _, rfl⟩ := List.mem_map.1 hu
  rfl
theorem infoU8 : (Tryz.prog.info? 5).map (fun i => (i.zero, i.size, i.bytes)) = some (some (.int .u8 0), 1, 1) := by kernel_rfl
theorem pad_room {c : UInt8} {l : List UInt8} {i : Nat} (hi : i < l.length) (h : (padN l)[i]? = some c) (hc : c ≠ 48) : ∃ k, i + 1 + k < (padN l).length ∧ (cAt c (padN l) i)[i + 1 + k]? = some 48 := by
  have hz : cLd c ((padN l).take i) 0 < zs ((padN l).drop (i + 1)) := by
    have h1 := cLd_le c ((padN l).take i) 0
    rw [List.length_take] at h1
    have h2 : (padN l).drop (i + 1) = l.drop (i + 1) ++ List.replicate (l.length + 1) 48 := by
      unfold padN
      rw [List.drop_append_of_le_length (by omega)]
    rw [h2, zs_append, zs_rep]
    omega
  obtain ⟨k, hk, e⟩ := fz_find (c := c) _ _ hz
  rw [List.length_drop] at hk
  exact ⟨k, by omega, by rw [cAt_behind h hc]; exact e⟩
theorem cAt_end {c : UInt8} (hc : c ≠ 48) (l : List UInt8) : cAt c (padN l) l.length = cMv c (padN l) 0 := by
  have h : ∀ d, l.length + d ≤ (padN l).length → cAt c (padN l) (l.length + d) = cAt c (padN l) l.length := by
    intro d
    induction d with
    | zero => intro _; rfl
    | succ d ih =>
      intro hd
      have e : (padN l)[l.length + d]? = some 48 := by
        unfold padN at hd ⊢
        rw [List.length_append, List.length_replicate] at hd
        rw [List.getElem?_append_right (by omega), List.getElem?_replicate, if_pos (by omega)]
      rw [← ih (by omega)]
      exact cAt_other e (fun h => hc h.symm)
  have e := h ((padN l).length - l.length) (by unfold padN; simp)
  rw [← e, show l.length + ((padN l).length - l.length) = (padN l).length by unfold padN; simp, cAt_all]

set_option maxRecDepth 100000 in
set_option maxHeartbeats 4000000 in
theorem l5Move_any (s : ByteArray) (c : UInt8) (w : World) (hs : s.size ≤ 120) (hc : c ≠ 48) :
    Calls Tryz.prog 149 #[.string s, .int .u8 (c.toNat : Int)] w fun e w' => e = .returned (.string (ofL (mv1 c (lst s)))) ∧ Below w.heap.size w w' := by
  obtain ⟨i0, hi, hz0, hz1, hz2⟩ := info_parts infoU8
  have HM := hide (fun w => l6Many_any ⟨#[48]⟩ (s.size + 1) w (by omega) (by decide))
  have hs1 : s.size + 1 ≤ 1000 := by omega
  go_enter Tryz.func149, Tryz.ntmps149
  go_wp2_with fail
  refine (HM.out w).mono ?_
  rintro e w' ⟨⟨out, rfl, ho⟩, rfl⟩
  have HO := hide ho
  have hos : out.size = s.size + 1 := by have := congrArg List.length ho; rw [rep_length] at this; simpa using this
  have hos2 : out.size ≤ 121 := by omega
  have HX : Hid (lst (s ++ out) = padN (lst s)) := by
    show _ = _
    unfold padN
    rw [lst_size]
    unfold lst
    rw [ByteArray.data_append, Array.toList_append, ho]
    simp [rep]
  clear ho
  have hxs : s.size + out.size = 2 * s.size + 1 := by omega
  have hos3 : s.size + out.size ≤ 300 := by omega
  have HXS := hide hxs
  clear hxs hos
  obtain ⟨x, hx⟩ : ∃ x, x = s ++ out := ⟨_, rfl⟩
  rw [← hx] at HX
  have hconv : ∀ w, (convert 9 22 (.string x)).run Tryz.prog w = .ok (.slice (some ⟨w.heap.size, 0, none⟩) x.size (grownCap w x.size 0 5)) (bytesWorld w 5 x) := fun w => Go.Lib.run_convert_string_bytes w _ _ _ x Tryz.underlying9 Tryz.underlying22 Tryz.underlying5
  have hconv2 : s ++ out = x := hx.symm
  have hxz : x.size = 2 * s.size + 1 := by rw [hx, ByteArray.size_append]; exact HXS.out
  clear hx
  obtain ⟨N, hN⟩ : ∃ N, N = 2 * s.size + 1 := ⟨_, rfl⟩
  rw [← hN] at hxz
  have hNs : s.size < N := by omega
  have hN2 : N ≤ 300 := by omega
  obtain ⟨W0, hW0⟩ : ∃ W0, W0 = bytesWorld w 5 x := ⟨_, rfl⟩
  have hz0' : W0.heap.size = w.heap.size + 1 := by rw [hW0]; exact bytesWorld_size ..
  have hb0 : Below w.heap.size w W0 := by rw [hW0]; exact ⟨rfl, rfl, rfl, by rw [bytesWorld_size]; omega, fun k hk => bytesWorld_at_old w _ x k hk⟩
  have HOLD : Hid (∀ j (y : UInt8), (padN (lst s))[j]? = some y → W0.cell? ⟨w.heap.size, j, none⟩ = some (.int .u8 (y.toNat : Int))) := by
    intro j y hy
    rw [← HX.out] at hy
    have hj : j < x.size := by rw [← lst_size]; exact (List.getElem?_eq_some_iff.1 hy).1
    rw [hW0, bytesWorld_cell w _ x j hj]
    unfold lst at hy
    rw [List.getD_eq_getElem?_getD, hy]
    rfl
  have OWN : Hid ((W0.alloc (.cells #[] 5)).ownsRow W0.heap.size 5 1 (.slice (some ⟨W0.heap.size, 0, none⟩) 0 0) 0 []) := hide (World.ownsRow_lit (base := W0.heap.size) (e := 5) (size := 1) W0 #[] 0 (Nat.le_refl _) (by unfold maxLen; omega) rfl)
  have SRC : Hid (∀ j u, (bV (padN (lst s)))[j]? = some u → (W0.alloc (.cells #[] 5)).cell? ((⟨w.heap.size, 0, none⟩ : Addr).add j) = some u) := by
    intro j u hu
    unfold bV at hu
    rw [List.getElem?_map] at hu
    obtain ⟨y, hy, e⟩ := Option.map_eq_some_iff.1 hu
    rw [Addr.add_lit, Nat.zero_add, World.cell?_alloc_lt W0 _ ⟨w.heap.size, j, none⟩ (show w.heap.size < W0.heap.size by omega), ← e]
    exact HOLD.out j y hy
  have LEN : Hid ((bV (padN (lst s))).length = N * 1) := by
    show _ = _
    rw [bV_length, ← HX.out, lst_size, hxz, Nat.mul_one]
  have HB0 := hide hb0
  have HN := hide hN
  clear hN hb0
  go_wp2_with (first | (at_builtin; refine wpList_append_own_at _ rfl _ _ 22 rfl W0.heap.size 5 i0 (.int .u8 0) 1 1 Tryz.underlying22 hi hz0 hz1 hz2 rfl (by decide) (.slice (some ⟨W0.heap.size, 0, none⟩) 0 0) 0 [] (by rw [hW0]; rfl) (by rw [← hW0]; exact OWN.out) ⟨w.heap.size, 0, none⟩ N (grownCap w N 0 5) (bV (padN (lst s))) rfl LEN.out (by rw [← hW0]; exact SRC.out) (bV_one _) (by unfold maxLen; omega) (by omega) (by rw [← hW0]; simp) ?_; intro v' w1 hown' hgrow _ hat; have HO1 := hide hown'; have HG1 := hide hgrow; clear hown' hgrow hat) | fail)
  obtain ⟨WA, hWA⟩ : ∃ WA, WA = W0.alloc (.cells #[] 5) := ⟨_, rfl⟩
  have hg1 := HG1.out
  rw [← hW0, ← hWA] at hg1
  have hzA : WA.heap.size = W0.heap.size + 1 := by rw [hWA]; simp
  have hb1 : Below W0.heap.size WA w1 := (Below.refl _ _).grown hg1 (by omega) (fun r e => by have e' : some W0.heap.size = some r := e; injection e' with e'; omega)
  have hbA : Below W0.heap.size W0 WA := by rw [hWA]; exact (Below.refl _ _).alloc (Nat.le_refl _) _
  have HOLD1 : Hid (∀ W, Below W0.heap.size w1 W → ∀ j (y : UInt8), (padN (lst s))[j]? = some y → W.cell? ⟨w.heap.size, j, none⟩ = some (.int .u8 (y.toNat : Int))) := by
    intro W hW j y hy
    have h0 : w.heap.size < W0.heap.size := by omega
    exact ((hW.cell (p := ⟨w.heap.size, j, none⟩) h0).trans ((hb1.cell (p := ⟨w.heap.size, j, none⟩) h0).trans (hbA.cell (p := ⟨w.heap.size, j, none⟩) h0))).trans (HOLD.out j y hy)
  have HBW : Hid (Below w.heap.size w w1) := (HB0.out.trans ((hbA.trans hb1).mono (by omega)))
  have ho1 := HO1.out
  rw [Nat.zero_add, List.nil_append] at ho1
  obtain ⟨g, cp, rfl, hgz⟩ : ∃ g cp, v' = .slice (some ⟨g, 0, none⟩) N cp ∧ W0.heap.size ≤ g := by
    rcases ho1.2 with ⟨_, h0⟩ | ⟨g, cp, cur, h1, h2, _⟩
    · omega
    · exact ⟨g, cp, h1, h2⟩
  have hc1 : CellsAt w1 g (bV (padN (lst s))) := CellsAt.of_owns ho1
  have HC1 : Hid (CellsAt w1 g (bV (cAt c (padN (lst s)) 0))) := by show CellsAt _ _ _; rw [cAt_zero]; exact hc1
  have HPL : Hid ((padN (lst s)).length = N) := by show _ = _; rw [← HX.out, lst_size, hxz]
  have hwg : w.heap.size < g := by omega
  have hgn : ¬ (w.heap.size = g) := by omega
  have HGZ := hide hgz
  have HWZ := hide (show w.heap.size ≤ W0.heap.size by omega)
  clear hg1 hb1 hbA hc1 ho1 hWA hW0 hzA hz0' HO1 HG1 OWN SRC LEN HOLD HB0 hi hz0 hz1 hz2 hconv hconv2 hos2 hos3 HM hgz
  go_loopw [7] (fun i wr => ∃ k : Nat, k ≤ s.size ∧ i = .int .i64 (k : Int) ∧ Hid (CellsAt wr g (bV (cAt c (padN (lst s)) k))) ∧ Hid (Below W0.heap.size w1 wr)) (fun i _ => s.size - (Go.RowKit.intOf i).toNat)
  case atStart => exact ⟨0, Nat.zero_le _, rfl, HC1, Below.refl _ _⟩
  case round =>
    obtain ⟨k, hk, rfl, HC, HB⟩ := hrel
    by_cases hlt : k < s.size
    · have hkN : k < N := by omega
      obtain ⟨y, hy⟩ : ∃ y, (padN (lst s))[k]? = some y := ⟨_, List.getElem?_eq_getElem (by rw [HPL.out]; exact hkN)⟩
      have o1 := HOLD1.out wr HB.out k y hy
      have i0 : (0 : Int) ≤ (k : Int) := by omega
      have i1 : (k : Int) < (N : Int) := by omega
      by_cases hyc : y = c
      · subst hyc
        obtain ⟨k0, hk0, he0⟩ := pad_room (by rw [lst_size]; exact hlt) hy hc
        rw [HPL.out] at hk0
        have t1 : ((y.toNat : Int) != (y.toNat : Int)) = false := by simp
        have HY := hide hy
        have HE0 := hide he0
        obtain ⟨E, hE⟩ : ∃ E, E = k + 1 + k0 := ⟨_, rfl⟩
        rw [← hE] at hk0 he0
        have HEE : Hid ((cAt y (padN (lst s)) k)[E]? = some 48) := he0
        have hkE : k + 1 ≤ E := by omega
        clear hy he0 hE HE0
        go_wp2
        go_loop [8] (fun i => ∃ e : Nat, i = .int .i64 (e : Int) ∧ k + 1 ≤ e ∧ e ≤ E ∧ Hid (∀ j, k + 1 ≤ j → j < e → (cAt y (padN (lst s)) k)[j]? ≠ some 48)) (fun i => E - (Go.RowKit.intOf i).toNat)
        case atStart => exact ⟨k + 1, by go_num, Nat.le_refl _, hkE, fun j h1 h2 => by omega⟩
        case round =>
          obtain ⟨e, rfl, he1, he2, HN⟩ := hrel
          obtain ⟨z, hz⟩ : ∃ z, (cAt y (padN (lst s)) k)[e]? = some z := ⟨_, List.getElem?_eq_getElem (by rw [cAt_length, HPL.out]; omega)⟩
          have o2 := (HC.out e _ (bV_get hz)).1
          have j0 : (0 : Int) ≤ (e : Int) := by omega
          have j1 : (e : Int) < (N : Int) := by omega
          by_cases hz48 : z = 48
          · subst hz48
            have hbk := cAt_behind HY.out hc (e - (k + 1))
            rw [show k + 1 + (e - (k + 1)) = e by omega] at hbk
            have hq : (padN (lst s))[e]? = some 48 := by
              have h1 := fz_empty hc _ _ _ (hbk.symm.trans hz)
              rw [List.getElem?_drop, show k + 1 + (e - (k + 1)) = e by omega] at h1
              exact h1
            have o3 := HOLD1.out wr HB.out e 48 hq
            have HNX : Hid (cAt y (padN (lst s)) (k + 1) = ((cAt y (padN (lst s)) k).set e y).set k 48) := by
              have h1 := cAt_ball (k := e - (k + 1)) hc HY.out (by rw [show k + 1 + (e - (k + 1)) = e by omega]; exact hz) (fun j hj => HN.out (k + 1 + j) (by omega) (by omega))
              rw [show k + 1 + (e - (k + 1)) = e by omega] at h1
              exact h1
            have f1 := (HC.out e _ (bV_get hz)).2
            obtain ⟨q0, hq0⟩ : ∃ q, (cAt y (padN (lst s)) k)[k]? = some q := ⟨_, List.getElem?_eq_getElem (by rw [cAt_length, HPL.out]; omega)⟩
            have o4 := (HC.out k _ (bV_get hq0)).1
            have f2 := (HC.out k _ (bV_get hq0)).2
            have n1 : ((48 : UInt8).toNat : Int) = 48 := rfl
            have n2 : ((48 : Int) == (y.toNat : Int)) = false := by
              have : ¬ (48 : Int) = (y.toNat : Int) := fun h => hc (UInt8.toNat_inj.1 (by show y.toNat = 48; omega))
              simpa using this
            have hke : ¬ (k = e) := by omega
            have HC2 : Hid (CellsAt ((wr.setCell ⟨g, e, none⟩ (.int .u8 (y.toNat : Int))).setCell ⟨g, k, none⟩ (.int .u8 48)) g (bV (cAt y (padN (lst s)) (k + 1)))) := by
              show CellsAt _ _ _
              rw [HNX.out, bV_set, bV_set]
              exact (HC.out.set e (by rw [bV_length, cAt_length, HPL.out]; omega) _).set k (by rw [List.length_set, bV_length, cAt_length, HPL.out]; omega) _
            rw [n1] at o2 o3
            clear hbk hq hz hq0 n1
            go_wp2
            exact ⟨⟨k + 1, by omega, by go_num, HC2, (HB.out.setCell (p := ⟨g, e, none⟩) HGZ.out _).setCell (p := ⟨g, k, none⟩) HGZ.out _⟩, by simp [Go.RowKit.intOf]; omega⟩
          · have n1 : ((z.toNat : Int) != 48) = true := by
              have : ¬ (z.toNat : Int) = 48 := fun h => hz48 (UInt8.toNat_inj.1 (by show z.toNat = 48; omega))
              simpa using this
            have heE : e < E := by
              by_cases h : e = E
              · subst h
                have := HEE.out
                rw [hz] at this
                injection this with this
                exact absurd this hz48
              · omega
            have HN2 : Hid (∀ j, k + 1 ≤ j → j < e + 1 → (cAt y (padN (lst s)) k)[j]? ≠ some 48) := by
              intro j h1 h2
              by_cases h : j = e
              · subst h; rw [hz]; simpa using hz48
              · exact HN.out j h1 (by omega)
            clear hz
            go_wp2
            go_round
            case rel => exact ⟨e + 1, by go_num, by omega, by omega, HN2⟩
            case measure => simp [Go.RowKit.intOf]; omega
      · have t1 : ((y.toNat : Int) != (c.toNat : Int)) = true := by
          have : ¬ (y.toNat : Int) = (c.toNat : Int) := fun h => hyc (UInt8.toNat_inj.1 (by omega))
          simpa using this
        have HNX := hide (cAt_other hy hyc)
        clear hy
        go_wp2
        go_roundw
        case rel => exact ⟨k + 1, by omega, by go_num, by rw [HNX.out]; exact HC, HB⟩
        case measure => simp [Go.RowKit.intOf]; omega
    · have hkn : k = s.size := by omega
      have hcf := HC.out
      rw [hkn, ← lst_size, cAt_end hc] at hcf
      obtain ⟨l, hl⟩ : ∃ l, l = cMv c (padN (lst s)) 0 := ⟨_, rfl⟩
      have hll : l.length = N := by rw [hl, cMv_length, HPL.out]
      rw [← hl] at hcf
      have hconv : (convert 22 9 (.slice (some ⟨g, 0, none⟩) l.length cp)).run Tryz.prog wr = .ok (.string ⟨l.toArray⟩) wr :=
        run_convert_bytes_back (P := Tryz.prog) wr 22 9 5 ⟨g, 0, none⟩ cp l Tryz.underlying22 Tryz.underlying5 Tryz.underlying9 (fun j hj => by
          rw [Addr.add_lit, Nat.zero_add]
          exact (hcf j _ (bV_get (List.getElem?_eq_getElem hj))).1)
      rw [hll] at hconv
      have CT := hide (l1TidyC_any (ofL l) wr (by rw [ofL_size, hll]; unfold maxLen; omega))
      have HFIN : Hid (tidyC (ofL l) = ofL (mv1 c (lst s))) := by
        show _ = _
        rw [tidyC_ofL, lst_ofL, hl]
        rfl
      rw [HFIN.out] at CT
      have HBF := hide (HBW.out.trans (HB.out.mono HWZ.out))
      have hof : (⟨l.toArray⟩ : ByteArray) = ofL l := rfl
      rw [hof] at hconv
      obtain ⟨t, ht⟩ : ∃ t, t = ofL l := ⟨_, rfl⟩
      rw [← ht] at hconv CT
      obtain ⟨m, hm⟩ : ∃ m, m = ofL (mv1 c (lst s)) := ⟨_, rfl⟩
      rw [← hm] at CT
      have HMM := hide hm
      clear hcf hl hll ht hm hof
      go_wp2_with fail
      refine CT.out.mono ?_
      rintro e w' ⟨rfl, rfl⟩
      go_wp2_with fail
      go_ret
      exact ⟨by rw [HMM.out]; rfl, HBF.out⟩
end Go.Proofs.YtdooboibmllfkabGreatDoor

namespace Go.Proofs.YtdooboibmllfkabGreatDoor
set_option maxRecDepth 100000
open Go.RowKit

end Go.Proofs.YtdooboibmllfkabGreatDoor

namespace Go.Proofs.YtdooboibmllfkabGreatDoor
set_option maxRecDepth 100000
open Go.RowKit Go.Lib

end Go.Proofs.YtdooboibmllfkabGreatDoor
