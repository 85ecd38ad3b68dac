/- THE WALK of the model's CircleTurn, off a contract of its l6cRounds. -/
import Derived.Test.YtkdhifofdghbbaaSCir2
import Derived.Test.YtkdhifofdghbbaaInts
namespace Go.Proofs.Ytkdhifofdghbbaa
open Go.RowKit

/-- what the pairing of a circle answers: who is paired, and the numbers of pairs -/
def RoundsC : Prop := ∀ (s : ByteArray) (w : World), ciIn s = true →
    Calls Try.prog 45 #[.string s] w fun e w' => ∃ (v1 v2 : Value) (pl : List Int), e = .returned (.tuple #[v1, v2]) ∧
      IntsV w.heap.size w' v1 pl ∧ pl.length = s.size ∧ (∀ (i : Nat) (x : Int), pl[i]? = some x → (decide (0 ≤ x) && !((bits s).getD i false)) = (cturn (bits s)).getD i false) ∧
      IntsV w.heap.size w' v2 (List.map (fun n : Nat => (n : Int)) (cnt10 (nballs (bits s)) (bits s))) ∧ Below w.heap.size w w'
theorem chC_add (c : UInt8) (l : List Bool) (k : Nat) (b : Bool) (h : l[k]? = some b) : chC c (l.take (k + 1)) = chC c (l.take k) ++ [if b then c else 48] := by
  obtain ⟨hk, he⟩ := List.getElem?_eq_some_iff.1 h
  rw [List.take_succ_eq_append_getElem hk, he]; simp [chC]
theorem lst_add (x t : ByteArray) : lst (x ++ t) = lst x ++ lst t := by unfold lst; rw [ByteArray.data_append, Array.toList_append]

theorem sign_at {s : ByteArray} (h : vld s = true) (k : Nat) (hk : k < s.size) : (s[k].toNat : Int) = 48 ∨ (s[k].toNat : Int) = 49 := by
  have h1 := vld_sgn s h
  unfold allSgn at h1
  rw [List.all_eq_true] at h1
  have h2 := h1 s[k] (List.mem_of_getElem? (lst_get s k hk))
  rw [sgn_of] at h2
  simpa using h2

set_option maxRecDepth 100000 in
set_option maxHeartbeats 1000000 in
theorem specCircleTurn_of (H : RoundsC) (s : ByteArray) (w : World) (hs : s.size ≤ maxLen) :
    Calls Try.prog 17 #[.string s] w fun e w' => e = .returned (.tuple #[.string (ctS s), .bool (ciIn s)]) ∧ Below w.heap.size w w' := by
  have CI := hide (fun w => specCircleIn_any s w hs)
  cases h1 : ciIn s
  · rw [h1] at CI
    have e : ctS s = ByteArray.empty := by unfold ctS; rw [h1]; rfl
    rw [e]
    clear h1 hs e H
    go_enter Try.func17, Try.ntmps17
    go_wp2_with (go_at_call 12; refine (CI.out _).mono ?_; rintro e w' ⟨rfl, rfl⟩)
    go_ret2
    exact ⟨rfl, Below.refl _ _⟩
  · rw [h1] at CI
    have HR := hide (H s w h1)
    obtain ⟨_, _, hs1, h60, _⟩ := ciIn_facts h1
    have hct : ctS s = ofB (cturn (bits s)) := by unfold ctS; rw [if_pos h1]
    rw [hct]
    have hlen : (cturn (bits s)).length = s.size := by rw [cturn_length, length_bits]
    have HSG := hide (fun (k : Nat) (h : k < s.size) => sign_at (ciIn_facts h1).1 k h)
    have HB0 := hide (fun (k : Nat) (h : k < s.size) => bits_getElem s k h)
    obtain ⟨T, hT⟩ : ∃ T, T = cturn (bits s) := ⟨_, rfl⟩
    rw [← hT] at HR hlen ⊢
    clear h1 hs hct hT H
    go_enter Try.func17, Try.ntmps17
    go_wp2_with (go_at_call 12; refine (CI.out _).mono ?_; rintro e w' ⟨rfl, rfl⟩)
    refine HR.out.mono ?_
    rintro e w1 ⟨v1, v2, pl, rfl, i1, hpl, hp, _, hb1⟩
    have HB1 := hide hb1
    have HP := hide hp
    rcases i1 with ⟨a, c, rfl, h0⟩ | ⟨g, cap, rfl, hcap, hlo, hlt, hc⟩
    · rw [h0] at hpl; simp at hpl; omega
    · have HC := hide hc
      have HLT := hide hlt
      clear hc hp hb1 hlt HR hlo
      go_wp2_with fail
      go_loopw [6, 7] (fun o i wr => ∃ (x : ByteArray) (k : Nat), k ≤ s.size ∧ o = .string x ∧ i = .int .i64 (k : Int) ∧ x.size ≤ k ∧ Hid (lst x = chC 49 (T.take k)) ∧ Hid (Quiet w1 wr)) (fun _ i => fun _ => s.size - (intOf i).toNat)
      case atStart => exact ⟨⟨#[]⟩, 0, Nat.zero_le _, rfl, rfl, Nat.zero_le _, rfl, Quiet.refl _⟩
      case round =>
        obtain ⟨x, k, hk, rfl, rfl, hxk, HX, HQ⟩ := hrel
        by_cases hlt : k < s.size
        · obtain ⟨p, hpk⟩ : ∃ p : Int, pl[k]? = some p := ⟨pl[k]'(by omega), List.getElem?_eq_getElem _⟩
          have c1 := ((HQ.out.cells HC.out) k (.int .i64 p) (by rw [List.getElem?_map, hpk]; rfl)).1
          have hb := HP.out k p hpk
          have hbk : (bits s).getD k false = (s[k] == 49) := by rw [List.getD_eq_getElem?_getD, HB0.out k hlt]; rfl
          obtain ⟨b, hTb⟩ : ∃ b, T[k]? = some b := ⟨T[k]'(by omega), List.getElem?_eq_getElem _⟩
          have hTd : T.getD k false = b := by rw [List.getD_eq_getElem?_getD, hTb]; rfl
          have HA := hide (chC_add 49 T k b hTb)
          rw [hTd, hbk] at hb
          have i0 : (0 : Int) ≤ (k : Int) := by omega
          have i1 : (k : Int) < (pl.length : Int) := by omega
          have i2 : (k : Int) < (s.size : Int) := by omega
          have hsg := HSG.out k hlt
          rw [bit_int] at hb
          by_cases hp0 : 0 ≤ p
          · have d0 : decide (0 ≤ p) = true := decide_eq_true hp0
            rcases hsg with h48 | h49
            · have t0 : ((s[k].toNat : Int) == 48) = true := by rw [h48]; rfl
              have hbv : b = true := by rw [← hb, h48, d0]; rfl
              have HP2 : Hid (lst (x ++ ⟨#[49]⟩) = chC 49 (T.take (k + 1))) := by
                show _ = _
                rw [lst_add, HX.out, HA.out, hbv]
                rfl
              clear hb hbk hTb hTd hpk
              go_wp2
              go_roundw
              case rel => exact ⟨_, k + 1, by omega, rfl, by go_num, by rw [ByteArray.size_append]; show x.size + 1 ≤ k + 1; omega, HP2, HQ⟩
              case measure => simp [intOf]; omega
            · have t0 : ((s[k].toNat : Int) == 48) = false := by rw [h49]; rfl
              have hbv : b = false := by rw [← hb, h49, d0]; rfl
              have HP2 : Hid (lst (x ++ ⟨#[48]⟩) = chC 49 (T.take (k + 1))) := by
                show _ = _
                rw [lst_add, HX.out, HA.out, hbv]
                rfl
              clear hb hbk hTb hTd hpk
              go_wp2
              go_roundw
              case rel => exact ⟨_, k + 1, by omega, rfl, by go_num, by rw [ByteArray.size_append]; show x.size + 1 ≤ k + 1; omega, HP2, HQ⟩
              case measure => simp [intOf]; omega
          · have d0 : decide (0 ≤ p) = false := decide_eq_false hp0
            have hbv : b = false := by rw [← hb, d0]; rfl
            have HP2 : Hid (lst (x ++ ⟨#[48]⟩) = chC 49 (T.take (k + 1))) := by
              show _ = _
              rw [lst_add, HX.out, HA.out, hbv]
              rfl
            clear hb hbk hTb hTd hpk
            go_wp2
            go_roundw
            case rel => exact ⟨_, k + 1, by omega, rfl, by go_num, by rw [ByteArray.size_append]; show x.size + 1 ≤ k + 1; omega, HP2, HQ⟩
            case measure => simp [intOf]; omega
        · have hx2 := HX.out
          rw [List.take_of_length_le (by omega)] at hx2
          have HF : Hid (x = ofB T) := by show _ = _; unfold ofB; rw [← hx2, ofL_lst]
          have hkn : k = s.size := by omega
          clear hx2
          go_wp2
          go_ret2
          exact ⟨by rw [HF.out]; rfl, HB1.out.trans (HQ.out.2 _)⟩
end Go.Proofs.Ytkdhifofdghbbaa
