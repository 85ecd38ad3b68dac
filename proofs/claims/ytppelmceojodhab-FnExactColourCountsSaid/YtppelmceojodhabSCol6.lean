/- THE WALK of the model's ColourPlain. -/
import Derived.Test.YtppelmceojodhabSCol5
namespace Go.Proofs.Ytppelmceojodhab
open Go.RowKit Go.Lib

/-- a box with a ball of the colour or a greater one -/
def plB (c : Int) (x : UInt8) : Bool := decide (c ≤ (x.toNat : Int) - 48)
def plL (c : Int) (l : List UInt8) : List Bool := l.map (plB c)
def cpOk (s : ByteArray) (c : Int) : Bool := cIn s && c3 c
def cpS (s : ByteArray) (c : Int) : ByteArray := if cpOk s c then ofL (chC 49 (cut (plL c (lst s)))) else ByteArray.empty
theorem plL_next {l : List UInt8} {k : Nat} {y : UInt8} (h : l[k]? = some y) (c : Int) : chC 49 (plL c (l.take (k + 1))) = chC 49 (plL c (l.take k)) ++ [if plB c y then 49 else 48] := by
  unfold chC plL
  rw [(take_one h).1, List.map_append, List.map_append]
  rfl
theorem lst_push (x t : ByteArray) : lst (x ++ t) = lst x ++ lst t := by unfold lst; rw [ByteArray.data_append, Array.toList_append]

set_option maxHeartbeats 1000000 in
theorem specColourPlain_any (s : ByteArray) (c : Int) (w : World) (hs : s.size ≤ maxLen) :
    Calls Try.prog 13 #[.string s, .int .i64 c] w fun e w' => e = .returned (.tuple #[.string (cpS s c), .bool (cpOk s c)]) ∧ w = w' := by
  have CI := hide (fun w => specColourIn_any s w hs)
  have CL := hide (fun w => l6In_any c 1 3 (c3 c) w rfl)
  cases h1 : cIn s
  · rw [h1] at CI
    have e1 : cpOk s c = false := by unfold cpOk; rw [h1]; rfl
    have e2 : cpS s c = ByteArray.empty := by unfold cpS; rw [e1]; rfl
    rw [e1, e2]
    clear e1 e2 h1 hs
    go_enter Try.func13, Try.ntmps13
    go_wp2_with (go_at_call 6; refine (CI.out _).mono ?_; rintro e w' ⟨rfl, rfl⟩)
    go_ret2
    exact ⟨rfl, rfl⟩
  · rw [h1] at CI
    cases h2 : c3 c
    · rw [h2] at CL
      have e1 : cpOk s c = false := by unfold cpOk; rw [h2, h1]; rfl
      have e2 : cpS s c = ByteArray.empty := by unfold cpS; rw [e1]; rfl
      rw [e1, e2]
      clear e1 e2 h1 h2 hs
      go_enter Try.func13, Try.ntmps13
      go_wp2_with (first | (go_at_call 6; refine (CI.out _).mono ?_; rintro e w' ⟨rfl, rfl⟩) | (go_at_call 17; refine (CL.out _).mono ?_; rintro e w' ⟨rfl, rfl⟩))
      go_ret2
      exact ⟨rfl, rfl⟩
    · rw [h2] at CL
      obtain ⟨k1, h120⟩ := (cIn_iff s).1 h1
      have HS := hide k1
      have e1 : cpOk s c = true := by unfold cpOk; rw [h1, h2]; rfl
      have e2 : cpS s c = ofL (chC 49 (cut (plL c (lst s)))) := by unfold cpS; rw [e1]; rfl
      rw [e1, e2]
      have HFIN : Hid (∀ x : ByteArray, lst x = chC 49 (plL c (lst s)) → tidyC x = ofL (chC 49 (cut (plL c (lst s))))) := by
        intro x hx
        rw [tidyC_ofL, hx, cz_chC n49]
      obtain ⟨r, hr⟩ : ∃ r, r = ofL (chC 49 (cut (plL c (lst s)))) := ⟨_, rfl⟩
      rw [← hr] at HFIN ⊢
      obtain ⟨m0, m1⟩ : 1 ≤ c ∧ c ≤ 3 := by rcases c3_cases h2 with rfl | rfl | rfl <;> omega
      clear e1 e2 h1 h2 hs k1 hr
      go_enter Try.func13, Try.ntmps13
      go_wp2_with (first | (go_at_call 6; refine (CI.out _).mono ?_; rintro e w' ⟨rfl, rfl⟩) | (go_at_call 17; refine (CL.out _).mono ?_; rintro e w' ⟨rfl, rfl⟩))
      go_loop [6, 7] (fun o i => ∃ (x : ByteArray) (k : Nat), k ≤ s.size ∧ o = .string x ∧ i = .int .i64 (k : Int) ∧ x.size ≤ k ∧ Hid (lst x = chC 49 (plL c ((lst s).take k)))) (fun _ i => s.size - (intOf i).toNat)
      case atStart => exact ⟨⟨#[]⟩, 0, Nat.zero_le _, rfl, rfl, Nat.zero_le _, rfl⟩
      case round =>
        obtain ⟨x, k, hk, rfl, rfl, hxk, HX⟩ := hrel
        by_cases hlt : k < s.size
        · have hy := lst_get s k hlt
          have h3 := (sg3_int _).1 (HS.out s[k] (List.mem_of_getElem? hy))
          have HNX := hide (plL_next hy c)
          obtain ⟨v, hv⟩ : ∃ v : Int, (s[k].toNat : Int) = v := ⟨_, rfl⟩
          have HPB : Hid (plB c s[k] = decide (c ≤ v - 48)) := by show _ = _; unfold plB; rw [hv]
          rw [hv] at h3
          obtain ⟨v0, v1⟩ := h3
          have hw : IntKind.u8.wrap (v - 48) = v - 48 := by
            have : v = 48 ∨ v = 49 ∨ v = 50 ∨ v = 51 := by omega
            rcases this with rfl | rfl | rfl | rfl <;> rfl
          have hw2 : IntKind.i64.wrap (v - 48) = v - 48 := by rw [IntKind.wrap_i64]; omega
          clear hy
          by_cases hge : c ≤ v - 48
          · have HP2 : Hid (lst (x ++ ⟨#[49]⟩) = chC 49 (plL c ((lst s).take (k + 1)))) := by
              show _ = _
              rw [lst_push, HX.out, HNX.out, HPB.out, decide_eq_true hge]
              rfl
            go_wp2
            go_round
            case rel => exact ⟨_, k + 1, by omega, rfl, by go_num, by rw [ByteArray.size_append]; show x.size + 1 ≤ k + 1; omega, HP2⟩
            case measure => simp [intOf]; omega
          · have HP2 : Hid (lst (x ++ ⟨#[48]⟩) = chC 49 (plL c ((lst s).take (k + 1)))) := by
              show _ = _
              rw [lst_push, HX.out, HNX.out, HPB.out, decide_eq_false hge]
              rfl
            go_wp2
            go_round
            case rel => exact ⟨_, k + 1, by omega, rfl, by go_num, by rw [ByteArray.size_append]; show x.size + 1 ≤ k + 1; omega, HP2⟩
            case measure => simp [intOf]; omega
        · have hkn : k = s.size := by omega
          have hx2 := HX.out
          rw [List.take_of_length_le (by rw [lst_size]; omega)] at hx2
          have CT := hide (l1TidyC_any x w (by unfold maxLen; omega))
          rw [HFIN.out x hx2] at CT
          clear hx2
          go_wp2_with (go_at_call 18; refine CT.out.mono ?_; rintro e w' ⟨rfl, rfl⟩)
          go_ret2
          exact ⟨rfl, rfl⟩
end Go.Proofs.Ytppelmceojodhab
