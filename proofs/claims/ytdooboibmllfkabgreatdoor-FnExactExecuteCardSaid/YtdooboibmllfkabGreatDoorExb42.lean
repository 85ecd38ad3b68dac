/- TEXTS ICol6, PHigh. -/
import Derived.Test.YtdooboibmllfkabGreatDoorExb41
import Derived.Test.YtdooboibmllfkabGreatDoorExb11
import Derived.Test.YtdooboibmllfkabGreatDoorExb08
import Derived.Test.YtdooboibmllfkabGreatDoorExb21
namespace Go.Proofs.YtdooboibmllfkabGreatDoor
set_option maxRecDepth 100000
open Go.RowKit Go.Lib

set_option maxRecDepth 100000 in
set_option maxHeartbeats 1000000 in
theorem implColourMove_any (s : ByteArray) (c : Int) (w : World) (hs : s.size ≤ maxLen) :
    Calls Tryz.prog 162 #[.string s, .int .i64 c] w fun e w' => e = .returned (.tuple #[.string (cmS s c), .bool (cmOk s c)]) ∧ Below w.heap.size w w' := by
  cases h1 : cIn s
  · have CR := hide (fun w => readColours_no s w hs h1)
    have e1 : cmOk s c = false := by unfold cmOk; rw [h1]; rfl
    have e2 : cmS s c = ⟨#[]⟩ := by unfold cmS; rw [e1]; rfl
    rw [e1, e2]
    clear e1 e2 h1 hs
    cases h2 : c3 c
    · have CO := hide (fun w => colourOf_no c w h2)
      clear h2
      go_enter Tryz.func162, Tryz.ntmps162
      go_wp2_with (first | (go_at_call 183; refine (CR.out _).mono ?_; rintro e w' ⟨rfl, rfl⟩) | (go_at_call 184; refine (CO.out _).mono ?_; rintro e w' ⟨rfl, rfl⟩))
      go_ret2
      exact ⟨rfl, Below.refl _ _⟩
    · have CO := hide (fun w => colourOf_c3 c w h2)
      obtain ⟨u, f, hM⟩ := moveAt (cCh c) (cCh_ne h2).2 (cCh_ne h2).1
      rw [hM.val] at CO
      clear h2 hM
      go_enter Tryz.func162, Tryz.ntmps162
      go_wp2_with (first | (go_at_call 183; refine (CR.out _).mono ?_; rintro e w' ⟨rfl, rfl⟩) | (go_at_call 184; refine (CO.out _).mono ?_; rintro e w' ⟨rfl, rfl⟩))
      go_ret2
      exact ⟨rfl, Below.refl _ _⟩
  · have CR := hide (fun w => readColours_yes s w h1)
    cases h2 : c3 c
    · have CO := hide (fun w => colourOf_no c w h2)
      have e1 : cmOk s c = false := by unfold cmOk; rw [h2, h1]; rfl
      have e2 : cmS s c = ⟨#[]⟩ := by unfold cmS; rw [e1]; rfl
      have q0 : ∀ W : World, (binOp .eql 187 .nilIface .nilIface).run Tryz.prog W = .ok (.bool true) W := fun _ => by kernel_rfl
      rw [e1, e2]
      clear e1 e2 h1 h2 hs
      go_enter Tryz.func162, Tryz.ntmps162
      go_wp2_with (first | (go_at_call 183; refine (CR.out _).mono ?_; rintro e w1 ⟨rfl, hb1, _, _⟩; have HB1 := hide hb1; clear hb1) | (go_at_call 184; refine (CO.out _).mono ?_; rintro e w' ⟨rfl, rfl⟩))
      go_ret2
      exact ⟨rfl, HB1.out⟩
    · have CO := hide (fun w => colourOf_c3 c w h2)
      obtain ⟨hsg, h120⟩ := (cIn_iff s).1 h1
      obtain ⟨u, f, hM⟩ := moveAt (cCh c) (cCh_ne h2).2 (cCh_ne h2).1
      rw [hM.val] at CO
      have hmeth := hM.meth
      have hent := hM.ent
      have HM := hide hM
      have HSG := hide hsg
      have e1 : cmOk s c = decide ((cz (mvU (cCh c) (lst s))).length ≤ 120) := by
        unfold cmOk
        rw [h1, h2, mvU_cz (cCh_ne h2).1]
        rfl
      have e2 : cmS s c = if (cz (mvU (cCh c) (lst s))).length ≤ 120 then ofL (cz (mvU (cCh c) (lst s))) else ByteArray.empty := by
        unfold cmS
        rw [e1, mvU_cz (cCh_ne h2).1]
        simp
      have HSM := hide (mvU_sg (cCh_ne h2).2 hsg)
      have q1 : ∀ (W : World), (binOp .eql 187 (.iface u (.agg #[])) .nilIface).run Tryz.prog W = .ok (.bool false) W := fun _ => by kernel_rfl
      have HE1 := hide e1
      have HE2 := hide e2
      obtain ⟨rs, hrs⟩ : ∃ rs, rs = cmS s c := ⟨_, rfl⟩
      obtain ⟨rb, hrb⟩ : ∃ rb, rb = cmOk s c := ⟨_, rfl⟩
      rw [← hrs, ← hrb]
      rw [← hrs] at HE2
      rw [← hrb] at HE1
      clear e1 e2 h1 h2 hs hM hsg hrs hrb
      go_enter Tryz.func162, Tryz.ntmps162
      go_wp2_with fail
      refine (CR.out _).mono ?_
      rintro e w1 ⟨rfl, hb1, hc1, hz1⟩
      have HB1 := hide hb1
      have CM := hide (HM.out.spec w.heap.size s.size s.size (lst s) w1 (lst_size s) h120 HSG.out hc1)
      clear hb1 hc1
      go_wp2_with fail
      refine (CO.out _).mono ?_
      rintro e w' ⟨rfl, rfl⟩
      go_wp2_with fail
      refine CM.out.mono ?_
      rintro e w2 ⟨v2, rfl, ho2, hb2⟩
      have HB2 := hide (HB1.out.trans (hb2.mono HB1.out.size))
      obtain ⟨gb, cq, rfl, hgb1, hgb2, hcq, hcn, hown⟩ := ho2
      have hle := mvU_le (cCh c) (lst s)
      rw [lst_size] at hle
      have CT := hide (textC_any gb (mvU (cCh c) (lst s)).length cq (mvU (cCh c) (lst s)) w2 rfl (by omega) HSM.out (CellsAt.of_owns hown))
      rw [← HE1.out, ← HE2.out] at CT
      obtain ⟨m, hm2⟩ : ∃ m, m = (mvU (cCh c) (lst s)).length := ⟨_, rfl⟩
      rw [← hm2] at CT ⊢
      clear hb2 hgb1 hgb2 hcq hcn hown hle hm2
      go_wp2_with fail
      refine CT.out.mono ?_
      rintro e w3 ⟨rfl, hb3⟩
      have HB3 := hide (HB2.out.trans (hb3.mono HB2.out.size))
      clear hb3
      go_wp2_with fail
      go_ret2
      exact ⟨rfl, HB3.out⟩
def StepAt (s : ByteArray) (k : Nat) (t : ByteArray) (o : Bool) : Prop :=
  (o = true ∧ upto (lst s) k = some (lst t) ∧ (k = 0 ∧ t = s ∨ cIn t = true ∧ cIn s = true)) ∨ (o = false ∧ t = ⟨#[]⟩ ∧ csOk s = false)
theorem StepAt.next {s t : ByteArray} {k : Nat} (h : StepAt s k t true) (hk : k < 3) : StepAt s (k + 1) (cmS t ((k : Int) + 1)) (cmOk t ((k : Int) + 1)) := by
  rcases h with ⟨_, hu, hc⟩ | ⟨h, _⟩
  · have hc3 : c3 ((k : Int) + 1) = true := by unfold c3; simp; omega
    cases hok : cmOk t ((k : Int) + 1)
    · refine .inr ⟨rfl, by unfold cmS; rw [hok]; rfl, ?_⟩
      cases hin : cIn t
      · rcases hc with ⟨_, rfl⟩ | ⟨h, _⟩
        · unfold csOk; rw [hin]; rfl
        · rw [hin] at h; cases h
      · have hn := cmS_no hin hc3 hok
        have h2 : upto (lst s) (k + 1) = none := by
          show (upto (lst s) k).bind _ = none
          rw [hu]
          exact hn
        unfold csOk
        rw [upto_none h2 (by omega)]
        cases cIn s <;> rfl
    · obtain ⟨n1, n2⟩ := cmS_in hok
      refine .inl ⟨rfl, ?_, .inr ⟨n1, ?_⟩⟩
      · show (upto (lst s) k).bind _ = _
        rw [hu]
        exact n2
      · rcases hc with ⟨_, rfl⟩ | ⟨_, h⟩
        · unfold cmOk at hok
          rw [Bool.and_eq_true, Bool.and_eq_true] at hok
          exact hok.1.1
        · exact h
  · cases h
theorem StepAt.size {s t : ByteArray} {k : Nat} {o : Bool} (h : StepAt s k t o) (hs : s.size ≤ maxLen) : t.size ≤ maxLen := by
  rcases h with ⟨_, _, ⟨_, rfl⟩ | ⟨h, _⟩⟩ | ⟨_, rfl, _⟩
  · exact hs
  · have := ((cIn_iff t).1 h).2; unfold maxLen; omega
  · exact Nat.zero_le _
theorem StepAt.done {s t : ByteArray} (h : StepAt s 3 t true) : csOk s = true ∧ csS s = t := by
  rcases h with ⟨_, hu, ⟨h, _⟩ | ⟨_, h⟩⟩ | ⟨h, _⟩
  · omega
  · rw [upto_3] at hu
    exact csS_of h hu
  · cases h
theorem StepAt.no {s t : ByteArray} {k : Nat} (h : StepAt s k t false) : csOk s = false ∧ csS s = t := by
  rcases h with ⟨h, _⟩ | ⟨_, rfl, h⟩
  · cases h
  · exact ⟨h, csS_no h⟩

set_option maxRecDepth 100000 in
set_option maxHeartbeats 1000000 in
theorem implColourStep_any (s : ByteArray) (w : World) (hs : s.size ≤ maxLen) :
    Calls Tryz.prog 135 #[.string s] w fun e w' => e = .returned (.tuple #[.string (csS s), .bool (csOk s)]) ∧ Below w.heap.size w w' := by
  have CM := hide (fun (t : ByteArray) (c : Int) (w : World) (ht : t.size ≤ maxLen) => implColourMove_any t c w ht)
  obtain ⟨a, ha⟩ : ∃ a, a = csS s := ⟨_, rfl⟩
  obtain ⟨b, hb⟩ : ∃ b, b = csOk s := ⟨_, rfl⟩
  rw [← ha, ← hb]
  have HA := hide ha
  have HB := hide hb
  have HS := hide hs
  have H0 : Hid (StepAt s 0 s true) := .inl ⟨rfl, rfl, .inl ⟨rfl, rfl⟩⟩
  clear ha hb hs
  go_enter Tryz.func135, Tryz.ntmps135
  go_wp2_with fail
  go_loopw [0, 4, 5] (fun sv ov cv wr => ∃ (k : Nat) (t : ByteArray) (o : Bool), k ≤ 3 ∧ sv = .string t ∧ ov = .bool o ∧ cv = .int .i64 ((k : Int) + 1) ∧ Hid (StepAt s k t o) ∧ Hid (Below w.heap.size w wr)) (fun _ _ cv _ => 4 - (Go.RowKit.intOf cv).toNat)
  case atStart => exact ⟨0, s, true, Nat.zero_le _, rfl, rfl, rfl, H0, Below.refl _ _⟩
  case round =>
    obtain ⟨k, t, o, hk, rfl, rfl, rfl, HST, HBW⟩ := hrel
    cases o
    · obtain ⟨r1, r2⟩ := HST.out.no
      have e1 : b = false := by rw [HB.out]; exact r1
      have e2 : a = t := by rw [HA.out]; exact r2
      subst e1 e2
      by_cases hlt : k < 3
      · have hkz : ((k : Int) + 1) ≤ 3 := by omega
        go_wp2_with fail
        go_ret2
        exact ⟨rfl, HBW.out⟩
      · have hkz : ¬ ((k : Int) + 1) ≤ 3 := by omega
        go_wp2_with fail
        go_ret2
        exact ⟨rfl, HBW.out⟩
    · by_cases hlt : k < 3
      · have hkz : ((k : Int) + 1) ≤ 3 := by omega
        have CMk := hide (CM.out t ((k : Int) + 1) wr (HST.out.size HS.out))
        have HN := hide (HST.out.next hlt)
        obtain ⟨x, hx⟩ : ∃ x, x = cmS t ((k : Int) + 1) := ⟨_, rfl⟩
        obtain ⟨o, ho⟩ : ∃ o, o = cmOk t ((k : Int) + 1) := ⟨_, rfl⟩
        rw [← hx, ← ho] at CMk HN
        clear hx ho
        go_wp2_with fail
        refine CMk.out.mono ?_
        rintro e w2 ⟨rfl, b2⟩
        have B2 := hide (HBW.out.trans (b2.mono HBW.out.size))
        clear b2
        go_wp2_with fail
        go_roundw
        case rel => exact ⟨k + 1, x, o, by omega, rfl, rfl, by go_num, HN, B2⟩
        case measure => simp [Go.RowKit.intOf]; omega
      · obtain rfl : k = 3 := by omega
        obtain ⟨r1, r2⟩ := HST.out.done
        have e1 : b = true := by rw [HB.out]; exact r1
        have e2 : a = t := by rw [HA.out]; exact r2
        subst e1 e2
        go_wp2_with fail
        go_ret2
        exact ⟨rfl, HBW.out⟩

theorem a51 : cCh (3 - ((0 : Nat) : Int)) = 51 := by decide
theorem a50 : cCh (3 - ((1 : Nat) : Int)) = 50 := by decide
end Go.Proofs.YtdooboibmllfkabGreatDoor

namespace Go.Proofs.YtdooboibmllfkabGreatDoor
set_option maxRecDepth 100000
open Go.RowKit

theorem levAt_pre (l : List Bool) (k : Nat) : levAt (List.replicate 1 false ++ l) (k + 1) = levAt l k + 1 := by
  unfold levAt
  have : nballs ((List.replicate 1 false ++ l).take (k + 1)) = nballs (l.take k) := by
    show nballs ((false :: l).take (k + 1)) = _
    rw [List.take_succ_cons]; unfold nballs; rw [List.count_cons]; simp
  rw [this]; omega
theorem lev_all (l : List Bool) : (lev l).all nn = true ↔ ∀ k, k ≤ l.length → 0 ≤ levAt l k := by
  unfold lev
  rw [List.all_map, List.all_eq_true]
  constructor
  · intro h k hk
    have := h k (by simp; omega)
    simpa [nn] using this
  · intro h k hk
    have hk2 : k < l.length + 1 := by simpa using hk
    simpa [nn] using h k (by omega)
theorem size_bits (s : ByteArray) : s.size = (bits s).length := (length_bits s).symm

theorem high_facts (s : ByteArray) (h : highB s = true) : vld s = true ∧ 2 * nballs (bits s) ≤ s.size ∧ (shOk s 1 = true → highB (shS s 1) = true) := by
  unfold highB at h
  rw [Bool.and_eq_true] at h
  obtain ⟨h1, h2⟩ := h
  have hr : levR s = lev (bits s) := by unfold levR; rw [h1]; rfl
  rw [hr, lev_all] at h2
  unfold levOk at h1
  rw [Bool.and_eq_true] at h1
  obtain ⟨hv, ht⟩ := h1
  have ht : tl (bits s) = s.size := of_decide_eq_true ht
  refine ⟨hv, ?_, ?_⟩
  · have := h2 s.size (by rw [length_bits]; exact Nat.le_refl _)
    unfold levAt at this
    rw [List.take_of_length_le (by rw [length_bits]; exact Nat.le_refl _)] at this
    omega
  · intro hk
    obtain ⟨g1, g2⟩ := shS_facts s 1 hk
    have hc : cut (bits s) = bits s := by unfold cut; rw [ht, List.take_of_length_le (by rw [length_bits]; exact Nat.le_refl _)]
    by_cases h0 : tl (bits s) = 0
    · rw [if_pos h0] at g2
      have hz : (shS s 1).size = 0 := by rw [size_bits, g2]; rfl
      have ho : levOk (shS s 1) = true := by unfold levOk; rw [g1, g2, hz]; rfl
      unfold highB levR
      rw [ho, if_pos rfl, g2]; rfl
    · rw [if_neg h0] at g2
      have hb : bits (shS s 1) = List.replicate 1 false ++ bits s := by rw [g2]; unfold shB; rw [hc]; rfl
      have hl : tl (bits (shS s 1)) = (bits (shS s 1)).length := by
        rw [hb, tl_pre, if_neg h0, ht, List.length_append, length_bits]; rfl
      have ho : levOk (shS s 1) = true := by unfold levOk; rw [g1, hl, size_bits]; simp
      unfold highB
      have hr2 : levR (shS s 1) = lev (bits (shS s 1)) := by unfold levR; rw [ho]; rfl
      rw [ho, hr2, Bool.true_and, lev_all]
      intro k hk2
      rw [hb] at hk2 ⊢
      cases k with
      | zero => rw [levAt_zero]; exact Int.le_refl _
      | succ k =>
        rw [levAt_pre]
        have := h2 k (by simp at hk2; omega)
        omega

end Go.Proofs.YtdooboibmllfkabGreatDoor
