/- TEXTS ICol6. -/
import Derived.Test.YtppelmceojodhaaDoorone25
/- THE WALKS of the program's ColourMove, ColourStep and ColourBack. -/
namespace Go.Proofs.YtppelmceojodhaaDoor
open Go.RowKit Go.Lib

set_option maxRecDepth 100000 in
set_option maxHeartbeats 1000000 in
theorem implColourMove_any (s : ByteArray) (c : Int) (w : World) (hs : s.size ≤ maxLen) :
    Calls Tryd.prog 8 #[.string s, .int .i64 c] w fun e w' => e = .returned (.tuple #[.string (cmS s c), .bool (cmOk s c)]) ∧ Below w.heap.size w w' := by
  cases h1 : cIn s
  · have CR := hide (fun w => readColours_no s w hs h1)
    have e1 : cmOk s c = false := by unfold cmOk; rw [h1]; rfl
    have e2 : cmS s c = ⟨#[]⟩ := by unfold cmS; rw [e1]; rfl
    rw [e1, e2]
    clear e1 e2 h1 hs
    cases h2 : c3 c
    · have CO := hide (fun w => colourOf_no c w h2)
      clear h2
      go_enter Tryd.func8, Tryd.ntmps8
      go_wp2_with (first | (go_at_call 25; refine (CR.out _).mono ?_; rintro e w' ⟨rfl, rfl⟩) | (go_at_call 26; refine (CO.out _).mono ?_; rintro e w' ⟨rfl, rfl⟩))
      go_ret2
      exact ⟨rfl, Below.refl _ _⟩
    · have CO := hide (fun w => colourOf_c3 c w h2)
      obtain ⟨u, f, hM⟩ := moveAt (cCh c) (cCh_ne h2).2 (cCh_ne h2).1
      rw [hM.val] at CO
      clear h2 hM
      go_enter Tryd.func8, Tryd.ntmps8
      go_wp2_with (first | (go_at_call 25; refine (CR.out _).mono ?_; rintro e w' ⟨rfl, rfl⟩) | (go_at_call 26; refine (CO.out _).mono ?_; rintro e w' ⟨rfl, rfl⟩))
      go_ret2
      exact ⟨rfl, Below.refl _ _⟩
  · have CR := hide (fun w => readColours_yes s w h1)
    cases h2 : c3 c
    · have CO := hide (fun w => colourOf_no c w h2)
      have e1 : cmOk s c = false := by unfold cmOk; rw [h2, h1]; rfl
      have e2 : cmS s c = ⟨#[]⟩ := by unfold cmS; rw [e1]; rfl
      have q0 : ∀ W : World, (binOp .eql 44 .nilIface .nilIface).run Tryd.prog W = .ok (.bool true) W := fun _ => by kernel_rfl
      rw [e1, e2]
      clear e1 e2 h1 h2 hs
      go_enter Tryd.func8, Tryd.ntmps8
      go_wp2_with (first | (go_at_call 25; refine (CR.out _).mono ?_; rintro e w1 ⟨rfl, hb1, _, _⟩; have HB1 := hide hb1; clear hb1) | (go_at_call 26; refine (CO.out _).mono ?_; rintro e w' ⟨rfl, rfl⟩))
      go_ret2
      exact ⟨rfl, HB1.out⟩
    · have CO := hide (fun w => colourOf_c3 c w h2)
      obtain ⟨hsg, h120⟩ := (cIn_iff s).1 h1
      obtain ⟨u, f, hM⟩ := moveAt (cCh c) (cCh_ne h2).2 (cCh_ne h2).1
      rw [hM.val] at CO
      have hmeth := hM.meth
      have hent := hM.ent
      have HM := hide hM
      have HSG := hide hsg
      have e1 : cmOk s c = decide ((cz (mvU (cCh c) (lst s))).length ≤ 120) := by
        unfold cmOk
        rw [h1, h2, mvU_cz (cCh_ne h2).1]
        rfl
      have e2 : cmS s c = if (cz (mvU (cCh c) (lst s))).length ≤ 120 then ofL (cz (mvU (cCh c) (lst s))) else ByteArray.empty := by
        unfold cmS
        rw [e1, mvU_cz (cCh_ne h2).1]
        simp
      have HSM := hide (mvU_sg (cCh_ne h2).2 hsg)
      have q1 : ∀ (W : World), (binOp .eql 44 (.iface u (.agg #[])) .nilIface).run Tryd.prog W = .ok (.bool false) W := fun _ => by kernel_rfl
      have HE1 := hide e1
      have HE2 := hide e2
      obtain ⟨rs, hrs⟩ : ∃ rs, rs = cmS s c := ⟨_, rfl⟩
      obtain ⟨rb, hrb⟩ : ∃ rb, rb = cmOk s c := ⟨_, rfl⟩
      rw [← hrs, ← hrb]
      rw [← hrs] at HE2
      rw [← hrb] at HE1
      clear e1 e2 h1 h2 hs hM hsg hrs hrb
      go_enter Tryd.func8, Tryd.ntmps8
      go_wp2_with fail
      refine (CR.out _).mono ?_
      rintro e w1 ⟨rfl, hb1, hc1, hz1⟩
      have HB1 := hide hb1
      have CM := hide (HM.out.spec w.heap.size s.size s.size (lst s) w1 (lst_size s) h120 HSG.out hc1)
      clear hb1 hc1
      go_wp2_with fail
      refine (CO.out _).mono ?_
      rintro e w' ⟨rfl, rfl⟩
      go_wp2_with fail
      refine CM.out.mono ?_
      rintro e w2 ⟨v2, rfl, ho2, hb2⟩
      have HB2 := hide (HB1.out.trans (hb2.mono HB1.out.size))
      obtain ⟨gb, cq, rfl, hgb1, hgb2, hcq, hcn, hown⟩ := ho2
      have hle := mvU_le (cCh c) (lst s)
      rw [lst_size] at hle
      have CT := hide (textC_any gb (mvU (cCh c) (lst s)).length cq (mvU (cCh c) (lst s)) w2 rfl (by omega) HSM.out (CellsAt.of_owns hown))
      rw [← HE1.out, ← HE2.out] at CT
      obtain ⟨m, hm2⟩ : ∃ m, m = (mvU (cCh c) (lst s)).length := ⟨_, rfl⟩
      rw [← hm2] at CT ⊢
      clear hb2 hgb1 hgb2 hcq hcn hown hle hm2
      go_wp2_with fail
      refine CT.out.mono ?_
      rintro e w3 ⟨rfl, hb3⟩
      have HB3 := hide (HB2.out.trans (hb3.mono HB2.out.size))
      clear hb3
      go_wp2_with fail
      go_ret2
      exact ⟨rfl, HB3.out⟩
/-- what is known ahead of a move of a step -/
def StepAt (s : ByteArray) (k : Nat) (t : ByteArray) (o : Bool) : Prop :=
  (o = true ∧ upto (lst s) k = some (lst t) ∧ (k = 0 ∧ t = s ∨ cIn t = true ∧ cIn s = true)) ∨ (o = false ∧ t = ⟨#[]⟩ ∧ csOk s = false)
theorem StepAt.next {s t : ByteArray} {k : Nat} (h : StepAt s k t true) (hk : k < 3) : StepAt s (k + 1) (cmS t ((k : Int) + 1)) (cmOk t ((k : Int) + 1)) := by
  rcases h with ⟨_, hu, hc⟩ | ⟨h, _⟩
  · have hc3 : c3 ((k : Int) + 1) = true := by unfold c3; simp; omega
    cases hok : cmOk t ((k : Int) + 1)
    · refine .inr ⟨rfl, by unfold cmS; rw [hok]; rfl, ?_⟩
      cases hin : cIn t
      · rcases hc with ⟨_, rfl⟩ | ⟨h, _⟩
        · unfold csOk; rw [hin]; rfl
        · rw [hin] at h; cases h
      · have hn := cmS_no hin hc3 hok
        have h2 : upto (lst s) (k + 1) = none := by
          show (upto (lst s) k).bind _ = none
          rw [hu]
          exact hn
        unfold csOk
        rw [upto_none h2 (by omega)]
        cases cIn s <;> rfl
    · obtain ⟨n1, n2⟩ := cmS_in hok
      refine .inl ⟨rfl, ?_, .inr ⟨n1, ?_⟩⟩
      · show (upto (lst s) k).bind _ = _
        rw [hu]
        exact n2
      · rcases hc with ⟨_, rfl⟩ | ⟨_, h⟩
        · unfold cmOk at hok
          rw [Bool.and_eq_true, Bool.and_eq_true] at hok
          exact hok.1.1
        · exact h
  · cases h
theorem StepAt.size {s t : ByteArray} {k : Nat} {o : Bool} (h : StepAt s k t o) (hs : s.size ≤ maxLen) : t.size ≤ maxLen := by
  rcases h with ⟨_, _, ⟨_, rfl⟩ | ⟨h, _⟩⟩ | ⟨_, rfl, _⟩
  · exact hs
  · have := ((cIn_iff t).1 h).2; unfold maxLen; omega
  · exact Nat.zero_le _
theorem StepAt.done {s t : ByteArray} (h : StepAt s 3 t true) : csOk s = true ∧ csS s = t := by
  rcases h with ⟨_, hu, ⟨h, _⟩ | ⟨_, h⟩⟩ | ⟨h, _⟩
  · omega
  · rw [upto_3] at hu
    exact csS_of h hu
  · cases h
theorem StepAt.no {s t : ByteArray} {k : Nat} (h : StepAt s k t false) : csOk s = false ∧ csS s = t := by
  rcases h with ⟨h, _⟩ | ⟨_, rfl, h⟩
  · cases h
  · exact ⟨h, csS_no h⟩

set_option maxRecDepth 100000 in
set_option maxHeartbeats 1000000 in
theorem implColourStep_any (s : ByteArray) (w : World) (hs : s.size ≤ maxLen) :
    Calls Tryd.prog 13 #[.string s] w fun e w' => e = .returned (.tuple #[.string (csS s), .bool (csOk s)]) ∧ Below w.heap.size w w' := by
  have CM := hide (fun (t : ByteArray) (c : Int) (w : World) (ht : t.size ≤ maxLen) => implColourMove_any t c w ht)
  obtain ⟨a, ha⟩ : ∃ a, a = csS s := ⟨_, rfl⟩
  obtain ⟨b, hb⟩ : ∃ b, b = csOk s := ⟨_, rfl⟩
  rw [← ha, ← hb]
  have HA := hide ha
  have HB := hide hb
  have HS := hide hs
  have H0 : Hid (StepAt s 0 s true) := .inl ⟨rfl, rfl, .inl ⟨rfl, rfl⟩⟩
  clear ha hb hs
  go_enter Tryd.func13, Tryd.ntmps13
  go_wp2_with fail
  go_loopw [0, 4, 5] (fun sv ov cv wr => ∃ (k : Nat) (t : ByteArray) (o : Bool), k ≤ 3 ∧ sv = .string t ∧ ov = .bool o ∧ cv = .int .i64 ((k : Int) + 1) ∧ Hid (StepAt s k t o) ∧ Hid (Below w.heap.size w wr)) (fun _ _ cv _ => 4 - (Go.RowKit.intOf cv).toNat)
  case atStart => exact ⟨0, s, true, Nat.zero_le _, rfl, rfl, rfl, H0, Below.refl _ _⟩
  case round =>
    obtain ⟨k, t, o, hk, rfl, rfl, rfl, HST, HBW⟩ := hrel
    cases o
    · obtain ⟨r1, r2⟩ := HST.out.no
      have e1 : b = false := by rw [HB.out]; exact r1
      have e2 : a = t := by rw [HA.out]; exact r2
      subst e1 e2
      by_cases hlt : k < 3
      · have hkz : ((k : Int) + 1) ≤ 3 := by omega
        go_wp2_with fail
        go_ret2
        exact ⟨rfl, HBW.out⟩
      · have hkz : ¬ ((k : Int) + 1) ≤ 3 := by omega
        go_wp2_with fail
        go_ret2
        exact ⟨rfl, HBW.out⟩
    · by_cases hlt : k < 3
      · have hkz : ((k : Int) + 1) ≤ 3 := by omega
        have CMk := hide (CM.out t ((k : Int) + 1) wr (HST.out.size HS.out))
        have HN := hide (HST.out.next hlt)
        obtain ⟨x, hx⟩ : ∃ x, x = cmS t ((k : Int) + 1) := ⟨_, rfl⟩
        obtain ⟨o, ho⟩ : ∃ o, o = cmOk t ((k : Int) + 1) := ⟨_, rfl⟩
        rw [← hx, ← ho] at CMk HN
        clear hx ho
        go_wp2_with fail
        refine CMk.out.mono ?_
        rintro e w2 ⟨rfl, b2⟩
        have B2 := hide (HBW.out.trans (b2.mono HBW.out.size))
        clear b2
        go_wp2_with fail
        go_roundw
        case rel => exact ⟨k + 1, x, o, by omega, rfl, rfl, by go_num, HN, B2⟩
        case measure => simp [Go.RowKit.intOf]; omega
      · obtain rfl : k = 3 := by omega
        obtain ⟨r1, r2⟩ := HST.out.done
        have e1 : b = true := by rw [HB.out]; exact r1
        have e2 : a = t := by rw [HA.out]; exact r2
        subst e1 e2
        go_wp2_with fail
        go_ret2
        exact ⟨rfl, HBW.out⟩

/-- the boxes behind the first k moves back -/
def chn (l : List UInt8) : Nat → List UInt8
  | 0 => l
  | k + 1 => bkU (cCh (3 - (k : Int))) (chn l k)
def chOk (l : List UInt8) (k : Nat) : Prop := ∀ j, j < k → cbOk (cCh (3 - (j : Int))) (chn l j) = true
theorem chn_len (l : List UInt8) : ∀ k, (chn l k).length = l.length
  | 0 => rfl
  | k + 1 => by show (bkU _ (chn l k)).length = _; rw [bkU_len, chn_len l k]
theorem chn_sg {l : List UInt8} (h : ∀ x ∈ l, sg3 x = true) : ∀ k, k ≤ 3 → ∀ x ∈ chn l k, sg3 x = true
  | 0, _ => h
  | k + 1, hk => bkU_sg (cCh_ne (by unfold c3; simp; omega)).2 (chn_sg h k (by omega))
theorem a51 : cCh (3 - ((0 : Nat) : Int)) = 51 := by decide
theorem a50 : cCh (3 - ((1 : Nat) : Int)) = 50 := by decide
theorem a49 : cCh (3 - ((2 : Nat) : Int)) = 49 := by decide
theorem chn_yes {l : List UInt8} (h : chOk l 3) : backL l = some (cz (chn l 3)) := by
  have h0 := h 0 (by omega)
  have h1 := h 1 (by omega)
  have h2 := h 2 (by omega)
  rw [a51] at h0
  rw [a50] at h1
  rw [a49] at h2
  have e1 : chn l 1 = bkU 51 l := by show bkU (cCh (3 - ((0 : Nat) : Int))) l = _; rw [a51]
  have e2 : chn l 2 = bkU 50 (bkU 51 l) := by show bkU (cCh (3 - ((1 : Nat) : Int))) (chn l 1) = _; rw [a50, e1]
  have e3 : chn l 3 = bkU 49 (bkU 50 (bkU 51 l)) := by show bkU (cCh (3 - ((2 : Nat) : Int))) (chn l 2) = _; rw [a49, e2]
  rw [e1] at h1
  rw [e2] at h2
  rw [e3]
  exact backL_yes h0 h1 h2
theorem chn_no {l : List UInt8} {k : Nat} (hk : k < 3) (h : chOk l k) (hn : cbOk (cCh (3 - (k : Int))) (chn l k) = false) : backL l = none := by
  have e1 : chn l 1 = bkU 51 l := by show bkU (cCh (3 - ((0 : Nat) : Int))) l = _; rw [a51]
  have e2 : chn l 2 = bkU 50 (bkU 51 l) := by show bkU (cCh (3 - ((1 : Nat) : Int))) (chn l 1) = _; rw [a50, e1]
  match k, hk with
  | 0, _ =>
    rw [a51] at hn
    exact backL_none1 hn
  | 1, _ =>
    have h0 := h 0 (by omega)
    rw [a51] at h0
    rw [a50, e1] at hn
    exact backL_none2 h0 hn
  | 2, _ =>
    have h0 := h 0 (by omega)
    have h1 := h 1 (by omega)
    rw [a51] at h0
    rw [a50, e1] at h1
    rw [a49, e2] at hn
    exact backL_none3 h0 h1 hn
theorem chOk_next {l : List UInt8} {k : Nat} (h : chOk l k) (hn : cbOk (cCh (3 - (k : Int))) (chn l k) = true) : chOk l (k + 1) := by
  intro j hj
  by_cases e : j = k
  · subst e; exact hn
  · exact h j (by omega)

set_option maxRecDepth 100000 in
set_option maxHeartbeats 1000000 in
theorem implColourBack_any (s : ByteArray) (w : World) (hs : s.size ≤ maxLen) :
    Calls Tryd.prog 15 #[.string s] w fun e w' => e = .returned (.tuple #[.string (cbkS s), .bool (cbkO s)]) ∧ Below w.heap.size w w' := by
  cases h1 : cIn s
  · have CR := hide (fun w => readColours_no s w hs h1)
    have e1 : cbkO s = false := by unfold cbkO; rw [h1]; rfl
    have e2 := cbkS_no e1
    rw [e1, e2]
    clear e1 e2 h1 hs
    go_enter Tryd.func15, Tryd.ntmps15
    go_wp2_with (go_at_call 25; refine (CR.out _).mono ?_; rintro e w' ⟨rfl, rfl⟩)
    go_loop [4, 5, 6] (fun rv ov cv => rv = .slice none 0 0 ∧ ov = .bool false ∧ cv = .int .i64 3) (fun _ _ _ => 0)
    case atStart => exact ⟨rfl, rfl, rfl⟩
    case round =>
      obtain ⟨rfl, rfl, rfl⟩ := hrel
      go_wp2
      go_ret2
      exact ⟨rfl, Below.refl _ _⟩
  · have CR := hide (fun w => readColours_yes s w h1)
    obtain ⟨hsg, h120⟩ := (cIn_iff s).1 h1
    have HSG := hide hsg
    have HIN := hide h1
    have CO := hide (fun (c : Int) (h : c3 c = true) (w : World) => colourOf_c3 c w h)
    obtain ⟨a, ha⟩ : ∃ a, a = cbkS s := ⟨_, rfl⟩
    obtain ⟨b, hb⟩ : ∃ b, b = cbkO s := ⟨_, rfl⟩
    rw [← ha, ← hb]
    have HA := hide ha
    have HB := hide hb
    clear ha hb hs h1 hsg
    go_enter Tryd.func15, Tryd.ntmps15
    go_wp2_with fail
    refine (CR.out _).mono ?_
    rintro e w1 ⟨rfl, hb1, hc1, hz1⟩
    have HB1 := hide hb1
    have H0 : Hid (HasC w.heap.size w1 (.slice (some ⟨w.heap.size, 0, none⟩) s.size s.size) (chn (lst s) 0)) := by
      refine ⟨w.heap.size, s.size, ?_, Nat.le_refl _, hz1, ?_, by unfold maxLen; omega, hc1⟩
      · show _ = Value.slice _ (lst s).length _; rw [lst_size]
      · show (lst s).length ≤ _; rw [lst_size]; exact Nat.le_refl _
    have HCO : Hid (chOk (lst s) 0) := fun j hj => by omega
    clear hb1 hc1
    go_wp2_with fail
    go_loopw [4, 5, 6] (fun rv ov cv wr => ∃ (k : Nat) (o : Bool), k ≤ 3 ∧ ov = .bool o ∧ cv = .int .i64 (3 - (k : Int)) ∧ Hid (Below w.heap.size w wr) ∧ Hid ((o = true ∧ chOk (lst s) k ∧ HasC w.heap.size wr rv (chn (lst s) k)) ∨ (o = false ∧ cbkO s = false))) (fun _ _ cv _ => (Go.RowKit.intOf cv).toNat)
    case atStart => exact ⟨0, true, Nat.zero_le _, rfl, rfl, HB1, .inl ⟨rfl, HCO.out, H0.out⟩⟩
    case round =>
      obtain ⟨k, o, hk, rfl, rfl, HBW, HST⟩ := hrel
      cases o
      · have r1 : cbkO s = false := by
          rcases HST.out with ⟨h, _⟩ | ⟨_, h⟩
          · cases h
          · exact h
        have e1 : b = false := by rw [HB.out]; exact r1
        have e2 : a = ⟨#[]⟩ := by rw [HA.out]; exact cbkS_no r1
        subst e1 e2
        clear r1
        by_cases hlt : k < 3
        · have hkz : 1 ≤ 3 - (k : Int) := by omega
          go_wp2_with fail
          go_ret2
          exact ⟨rfl, HBW.out⟩
        · have hkz : ¬ 1 ≤ 3 - (k : Int) := by omega
          go_wp2_with fail
          go_ret2
          exact ⟨rfl, HBW.out⟩
      · have hst := (HST.out.resolve_right (fun h => by cases h.1)).2
        obtain ⟨hch, g, cp, rfl, hg1, hg2, hcp, hcm, hcs⟩ := hst
        have HCH := hide hch
        rw [chn_len, lst_size] at hcp ⊢
        have HG2 := hide hg2
        by_cases hlt : k < 3
        · have hkz : 1 ≤ 3 - (k : Int) := by omega
          have hc3 : c3 (3 - (k : Int)) = true := by unfold c3; simp; omega
          obtain ⟨m1, m2⟩ := cCh_ne hc3
          have COk := hide (CO.out (3 - (k : Int)) hc3)
          have CMB := hide (movedBack_any (cCh (3 - (k : Int))) m2 m1 g s.size cp (chn (lst s) k) wr (by rw [chn_len, lst_size]) h120 (chn_sg HSG.out k (by omega)) hcs)
          have HN0 := hide (fun h => chn_no hlt HCH.out h)
          have HN1 := hide (fun h => chOk_next HCH.out h)
          have HNC : Hid (bkU (cCh (3 - (k : Int))) (chn (lst s) k) = chn (lst s) (k + 1)) := rfl
          obtain ⟨o, ho⟩ : ∃ o, o = cbOk (cCh (3 - (k : Int))) (chn (lst s) k) := ⟨_, rfl⟩
          rw [← ho] at CMB HN0 HN1
          obtain ⟨vc, hvc⟩ : ∃ vc, vc = cv (cCh (3 - (k : Int))) := ⟨_, rfl⟩
          rw [← hvc] at COk CMB
          clear hch hg1 hg2 hcm hcs hcp m1 m2 hc3 ho hvc
          go_wp2_with fail
          refine (COk.out _).mono ?_
          rintro e w' ⟨rfl, rfl⟩
          go_wp2_with fail
          refine CMB.out.mono ?_
          rintro e w2 ⟨v2, rfl, ho2, hb2⟩
          have B2 := hide (HBW.out.trans (hb2.mono HBW.out.size))
          have HH : Hid ((o = true ∧ chOk (lst s) (k + 1) ∧ HasC w.heap.size w2 v2 (chn (lst s) (k + 1))) ∨ (o = false ∧ cbkO s = false)) := by
            cases ho3 : o
            · refine .inr ⟨rfl, ?_⟩
              unfold cbkO
              rw [HN0.out ho3]
              cases cIn s <;> rfl
            · refine .inl ⟨rfl, HN1.out ho3, ?_⟩
              rw [← HNC.out]
              exact (ho2 ho3).mono HBW.out.size
          clear hb2 ho2
          go_wp2_with fail
          go_roundw
          case rel => exact ⟨k + 1, o, by omega, rfl, by go_num, B2, HH.out⟩
          case measure => simp [Go.RowKit.intOf]; omega
        · obtain rfl : k = 3 := by omega
          have hle := cz_le (chn (lst s) 3)
          rw [chn_len, lst_size] at hle
          have CT := hide (textC_any g s.size cp (chn (lst s) 3) wr (by rw [chn_len, lst_size]) (by omega) (chn_sg HSG.out 3 (Nat.le_refl _)) hcs)
          have hz : (cz (chn (lst s) 3)).length ≤ 120 := by omega
          rw [if_pos hz, decide_eq_true hz] at CT
          obtain ⟨r1, r2⟩ := cbkS_of (t := ofL (cz (chn (lst s) 3))) HIN.out (by rw [lst_ofL]; exact chn_yes HCH.out)
          have e1 : b = true := by rw [HB.out]; exact r1
          have e2 : a = ofL (cz (chn (lst s) 3)) := by rw [HA.out]; exact r2
          rw [← e2] at CT
          subst e1
          clear e2 r1 r2 hz hle hch hg1 hg2 hcm hcs hcp
          go_wp2_with fail
          refine CT.out.mono ?_
          rintro e w2 ⟨rfl, hb2⟩
          have B2 := hide (HBW.out.trans (hb2.mono HBW.out.size))
          clear hb2
          go_wp2_with fail
          go_ret2
          exact ⟨rfl, B2.out⟩
end Go.Proofs.YtppelmceojodhaaDoor
