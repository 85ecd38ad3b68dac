/- TEXTS SCol4. -/
import Derived.Test.YtppelmceojodhaaDoorone10
/- THE WALKS of the model's ColourMove, ColourStep, ColourBack. -/
namespace Go.Proofs.YtppelmceojodhaaDoor
open Go.RowKit Go.Lib

/-- colours -/
def c3 (c : Int) : Bool := decide (1 ≤ c) && decide (c ≤ 3)
def cCh (c : Int) : UInt8 := UInt8.ofNat (48 + c.toNat)
theorem c3_cases {c : Int} (h : c3 c = true) : c = 1 ∨ c = 2 ∨ c = 3 := by
  unfold c3 at h
  simp at h
  omega
theorem cCh_ne {c : Int} (h : c3 c = true) : cCh c ≠ 48 ∧ sg3 (cCh c) = true := by
  rcases c3_cases h with rfl | rfl | rfl <;> decide
/-- ColourMove -/
def cmOk (s : ByteArray) (c : Int) : Bool := cIn s && c3 c && decide ((mv1 (cCh c) (lst s)).length ≤ 120)
def cmS (s : ByteArray) (c : Int) : ByteArray := if cmOk s c then ofL (mv1 (cCh c) (lst s)) else ByteArray.empty
theorem cIn_ofL {l : List UInt8} (h : ∀ x ∈ l, sg3 x = true) (hl : l.length ≤ 120) : cIn (ofL l) = true := (cIn_iff _).2 ⟨by rw [lst_ofL]; exact h, by rw [ofL_size]; exact hl⟩
theorem cmS_in {s : ByteArray} {c : Int} (h : cmOk s c = true) : cIn (cmS s c) = true ∧ mvO (cCh c) (lst s) = some (lst (cmS s c)) := by
  have h' := h
  unfold cmOk at h'
  rw [Bool.and_eq_true, Bool.and_eq_true, decide_eq_true_iff] at h'
  obtain ⟨⟨h1, h2⟩, h3⟩ := h'
  have e : cmS s c = ofL (mv1 (cCh c) (lst s)) := by unfold cmS; rw [if_pos h]
  rw [e, lst_ofL]
  exact ⟨cIn_ofL (mv_sg (cCh_ne h2).2 ((cIn_iff s).1 h1).1) h3, by unfold mvO; rw [if_pos h3]⟩
theorem cmS_no {s : ByteArray} {c : Int} (h1 : cIn s = true) (h2 : c3 c = true) (h : cmOk s c = false) : mvO (cCh c) (lst s) = none := by
  unfold cmOk at h
  rw [h1, h2] at h
  unfold mvO
  rw [if_neg (by simpa using h)]

set_option maxHeartbeats 1000000 in
theorem specColourMove_any (s : ByteArray) (c : Int) (w : World) (hs : s.size ≤ maxLen) :
    Calls Tryd.prog 9 #[.string s, .int .i64 c] w fun e w' => e = .returned (.tuple #[.string (cmS s c), .bool (cmOk s c)]) ∧ Below w.heap.size w w' := by
  have CI := hide (fun w => specColourIn_any s w hs)
  have CL := hide (fun w => l6In_any c 1 3 (c3 c) w rfl)
  cases h1 : cIn s
  · rw [h1] at CI
    have e1 : cmOk s c = false := by unfold cmOk; rw [h1]; rfl
    have e2 : cmS s c = ByteArray.empty := by unfold cmS; rw [e1]; rfl
    rw [e1, e2]
    clear e1 e2 h1 hs
    go_enter Tryd.func9, Tryd.ntmps9
    go_wp2_with (go_at_call 28; refine (CI.out _).mono ?_; rintro e w' ⟨rfl, rfl⟩)
    go_ret2
    exact ⟨rfl, Below.refl _ _⟩
  · rw [h1] at CI
    cases h2 : c3 c
    · rw [h2] at CL
      have e1 : cmOk s c = false := by unfold cmOk; rw [h2, h1]; rfl
      have e2 : cmS s c = ByteArray.empty := by unfold cmS; rw [e1]; rfl
      rw [e1, e2]
      clear e1 e2 h1 h2 hs
      go_enter Tryd.func9, Tryd.ntmps9
      go_wp2_with (first | (go_at_call 28; refine (CI.out _).mono ?_; rintro e w' ⟨rfl, rfl⟩) | (go_at_call 29; refine (CL.out _).mono ?_; rintro e w' ⟨rfl, rfl⟩))
      go_ret2
      exact ⟨rfl, Below.refl _ _⟩
    · rw [h2] at CL
      have h120 := ((cIn_iff s).1 h1).2
      have CM : Hid (∀ w, Calls Tryd.prog 31 #[.string s, .int .u8 (48 + c)] w fun e w' => e = .returned (.string (ofL (mv1 (cCh c) (lst s)))) ∧ Below w.heap.size w w') := by
        intro w
        have := l5Move_any s (cCh c) w h120 (cCh_ne h2).1
        rcases c3_cases h2 with rfl | rfl | rfl <;> exact this
      have CD := hide (fun w => l1DoneC_any (ofL (mv1 (cCh c) (lst s))) w (by
        rw [ofL_size]
        have := cz_le (cMv (cCh c) (padN (lst s)) 0)
        rw [cMv_length] at this
        have h3 : (padN (lst s)).length = 2 * s.size + 1 := by unfold padN; rw [List.length_append, List.length_replicate, lst_size]; omega
        unfold mv1
        omega))
      have e0 : cz (lst (ofL (mv1 (cCh c) (lst s)))) = mv1 (cCh c) (lst s) := by rw [lst_ofL, cz_mv]
      have e1 : cmOk s c = decide ((mv1 (cCh c) (lst s)).length ≤ 120) := by unfold cmOk; rw [h1, h2]; rfl
      have e2 : cmS s c = if (mv1 (cCh c) (lst s)).length ≤ 120 then ofL (mv1 (cCh c) (lst s)) else ByteArray.empty := by unfold cmS; rw [e1]; simp
      rw [e0, ← e1, ← e2] at CD
      obtain ⟨k1, k2⟩ : 1 ≤ c ∧ c ≤ 3 := by rcases c3_cases h2 with rfl | rfl | rfl <;> omega
      have hw : IntKind.u8.wrap (48 + c) = 48 + c := by rcases c3_cases h2 with rfl | rfl | rfl <;> rfl
      obtain ⟨t, ht⟩ : ∃ t, t = ofL (mv1 (cCh c) (lst s)) := ⟨_, rfl⟩
      obtain ⟨a, ha⟩ : ∃ a, a = cmS s c := ⟨_, rfl⟩
      obtain ⟨b, hb⟩ : ∃ b, b = cmOk s c := ⟨_, rfl⟩
      rw [← ht] at CM CD
      rw [← ha, ← hb] at CD ⊢
      clear e0 e1 e2 h1 h2 ht ha hb h120 hs
      go_enter Tryd.func9, Tryd.ntmps9
      go_wp2_with (first
        | (go_at_call 28; refine (CI.out _).mono ?_; rintro e w' ⟨rfl, rfl⟩)
        | (go_at_call 29; refine (CL.out _).mono ?_; rintro e w' ⟨rfl, rfl⟩)
        | (go_at_call 31; refine (CM.out _).mono ?_; rintro e w1 ⟨rfl, b1⟩; have B1 := hide b1; clear b1)
        | (go_at_call 30; refine (CD.out _).mono ?_; rintro e w' ⟨rfl, rfl⟩))
      go_ret2
      exact ⟨rfl, B1.out⟩

/-- the first k moves of a step -/
def upto (l : List UInt8) : Nat → Option (List UInt8)
  | 0 => some l
  | k + 1 => (upto l k).bind (mvO (cCh ((k : Int) + 1)))
theorem upto_3 (l : List UInt8) : upto l 3 = stepL l := by
  have a1 : cCh (((0 : Nat) : Int) + 1) = 49 := by decide
  have a2 : cCh (((1 : Nat) : Int) + 1) = 50 := by decide
  have a3 : cCh (((2 : Nat) : Int) + 1) = 51 := by decide
  show (((some l).bind (mvO (cCh (((0 : Nat) : Int) + 1)))).bind (mvO (cCh (((1 : Nat) : Int) + 1)))).bind (mvO (cCh (((2 : Nat) : Int) + 1))) = _
  rw [a1, a2, a3]
  unfold stepL
  generalize mvO 49 = f
  generalize mvO 50 = g
  generalize mvO 51 = h
  show ((f l).bind g).bind h = _
  cases f l <;> rfl
theorem upto_none {l : List UInt8} {k : Nat} (h : upto l k = none) (hk : k ≤ 3) : stepL l = none := by
  have up : ∀ d, k + d ≤ 3 → upto l (k + d) = none := by
    intro d
    induction d with
    | zero => intro _; exact h
    | succ d ih =>
      intro hd
      show (upto l (k + d)).bind _ = none
      rw [ih (by omega)]
      rfl
  have := up (3 - k) (by omega)
  rw [show k + (3 - k) = 3 by omega, upto_3] at this
  exact this
/-- ColourStep -/
def csOk (s : ByteArray) : Bool := cIn s && (stepL (lst s)).isSome
def csS (s : ByteArray) : ByteArray := if csOk s then ofL ((stepL (lst s)).getD []) else ByteArray.empty
theorem csOk_some {s : ByteArray} (h : csOk s = true) : cIn s = true ∧ stepL (lst s) = some (lst (csS s)) := by
  have h' := h
  unfold csOk at h'
  rw [Bool.and_eq_true] at h'
  obtain ⟨r, hr⟩ := Option.isSome_iff_exists.1 h'.2
  refine ⟨h'.1, ?_⟩
  unfold csS
  rw [if_pos h, lst_ofL, hr]
  rfl
theorem csS_of {s t : ByteArray} (h1 : cIn s = true) (h : stepL (lst s) = some (lst t)) : csOk s = true ∧ csS s = t := by
  have e : csOk s = true := by unfold csOk; rw [h1, h]; rfl
  refine ⟨e, ?_⟩
  unfold csS
  rw [if_pos e, h]
  exact ofL_lst t
theorem csS_no {s : ByteArray} (h : csOk s = false) : csS s = ⟨#[]⟩ := by unfold csS; rw [h]; rfl

set_option maxHeartbeats 1000000 in
theorem specColourStep_any (s : ByteArray) (w : World) (hs : s.size ≤ maxLen) :
    Calls Tryd.prog 14 #[.string s] w fun e w' => e = .returned (.tuple #[.string (csS s), .bool (csOk s)]) ∧ Below w.heap.size w w' := by
  have CI := hide (fun w => specColourIn_any s w hs)
  cases h1 : cIn s
  · rw [h1] at CI
    have e1 : csOk s = false := by unfold csOk; rw [h1]; rfl
    have e2 := csS_no e1
    rw [e1, e2]
    clear e1 e2 h1 hs
    go_enter Tryd.func14, Tryd.ntmps14
    go_wp2_with (go_at_call 28; refine (CI.out _).mono ?_; rintro e w' ⟨rfl, rfl⟩)
    go_ret2
    exact ⟨rfl, Below.refl _ _⟩
  · rw [h1] at CI
    have CM := hide (fun (t : ByteArray) (c : Int) (w : World) (ht : cIn t = true) => specColourMove_any t c w (by have := ((cIn_iff t).1 ht).2; unfold maxLen; omega))
    obtain ⟨a, ha⟩ : ∃ a, a = csS s := ⟨_, rfl⟩
    obtain ⟨b, hb⟩ : ∃ b, b = csOk s := ⟨_, rfl⟩
    have HYES : Hid (∀ t, upto (lst s) 3 = some (lst t) → b = true ∧ a = t) := by
      intro t ht
      rw [upto_3] at ht
      rw [ha, hb]
      exact csS_of h1 ht
    have HNO : Hid (∀ k, k ≤ 3 → upto (lst s) k = none → b = false ∧ a = ⟨#[]⟩) := by
      intro k hk h
      have h2 : csOk s = false := by unfold csOk; rw [upto_none h hk, h1]; rfl
      rw [ha, hb]
      exact ⟨h2, csS_no h2⟩
    rw [← ha, ← hb]
    have H0 : Hid (upto (lst s) 0 = some (lst s)) := hide rfl
    have HIN := hide h1
    clear ha hb h1 hs
    go_enter Tryd.func14, Tryd.ntmps14
    go_wp2_with (go_at_call 28; refine (CI.out _).mono ?_; rintro e w' ⟨rfl, rfl⟩)
    go_loopw [0, 4] (fun sv cv wr => ∃ (k : Nat) (t : ByteArray), k ≤ 3 ∧ sv = .string t ∧ cv = .int .i64 ((k : Int) + 1) ∧ Hid (upto (lst s) k = some (lst t)) ∧ Hid (cIn t = true) ∧ Hid (Below w.heap.size w wr)) (fun _ cv _ => 4 - (Go.RowKit.intOf cv).toNat)
    case atStart => exact ⟨0, s, Nat.zero_le _, rfl, rfl, H0, HIN, Below.refl _ _⟩
    case round =>
      obtain ⟨k, t, hk, rfl, rfl, HU, HT, HB⟩ := hrel
      by_cases hlt : k < 3
      · have CMk := hide (CM.out t ((k : Int) + 1) wr HT.out)
        have hc3 : c3 ((k : Int) + 1) = true := by unfold c3; simp; omega
        have hkz : ((k : Int) + 1) ≤ 3 := by omega
        cases hok : cmOk t ((k : Int) + 1)
        · rw [hok] at CMk
          have hn := cmS_no HT.out hc3 hok
          obtain ⟨r1, r2⟩ := HNO.out (k + 1) (by omega) (by show (upto (lst s) k).bind _ = none; rw [HU.out]; exact hn)
          obtain ⟨x, hx⟩ : ∃ x, x = cmS t ((k : Int) + 1) := ⟨_, rfl⟩
          rw [← hx] at CMk
          subst r1 r2
          clear hx hok hn hc3
          go_wp2_with fail
          refine CMk.out.mono ?_
          rintro e w2 ⟨rfl, b2⟩
          have B2 := hide (HB.out.trans (b2.mono HB.out.size))
          clear b2
          go_wp2_with fail
          go_ret2
          exact ⟨rfl, B2.out⟩
        · rw [hok] at CMk
          obtain ⟨n1, n2⟩ := cmS_in hok
          have HU2 : Hid (upto (lst s) (k + 1) = some (lst (cmS t ((k : Int) + 1)))) := by
            show (upto (lst s) k).bind _ = _
            rw [HU.out]
            exact n2
          have HT2 := hide n1
          obtain ⟨x, hx⟩ : ∃ x, x = cmS t ((k : Int) + 1) := ⟨_, rfl⟩
          rw [← hx] at CMk HU2 HT2
          clear hx hok n1 n2 hc3
          go_wp2_with fail
          refine CMk.out.mono ?_
          rintro e w2 ⟨rfl, b2⟩
          have B2 := hide (HB.out.trans (b2.mono HB.out.size))
          clear b2
          go_wp2_with fail
          go_roundw
          case rel => exact ⟨k + 1, x, by omega, rfl, by go_num, HU2, HT2, B2⟩
          case measure => simp [Go.RowKit.intOf]; omega
      · obtain rfl : k = 3 := by omega
        obtain ⟨r1, r2⟩ := HYES.out t HU.out
        subst r1 r2
        go_wp2_with fail
        go_ret2
        exact ⟨rfl, HB.out⟩

/-- the first k moves of a step back -/
def down (l : List UInt8) : Nat → Option (List UInt8)
  | 0 => some l
  | k + 1 => (down l k).bind (bkO (cCh (3 - (k : Int))))
theorem down_3 (l : List UInt8) : down l 3 = backL l := by
  have a1 : cCh (3 - ((0 : Nat) : Int)) = 51 := by decide
  have a2 : cCh (3 - ((1 : Nat) : Int)) = 50 := by decide
  have a3 : cCh (3 - ((2 : Nat) : Int)) = 49 := by decide
  show (((some l).bind (bkO (cCh (3 - ((0 : Nat) : Int))))).bind (bkO (cCh (3 - ((1 : Nat) : Int))))).bind (bkO (cCh (3 - ((2 : Nat) : Int)))) = _
  rw [a1, a2, a3]
  unfold backL
  generalize bkO 51 = f
  generalize bkO 50 = g
  generalize bkO 49 = h
  show ((f l).bind g).bind h = _
  cases f l <;> rfl
theorem down_none {l : List UInt8} {k : Nat} (h : down l k = none) (hk : k ≤ 3) : backL l = none := by
  have up : ∀ d, k + d ≤ 3 → down l (k + d) = none := by
    intro d
    induction d with
    | zero => intro _; exact h
    | succ d ih =>
      intro hd
      show (down l (k + d)).bind _ = none
      rw [ih (by omega)]
      rfl
  have := up (3 - k) (by omega)
  rw [show k + (3 - k) = 3 by omega, down_3] at this
  exact this
/-- ColourBack -/
def cbkO (s : ByteArray) : Bool := cIn s && (backL (lst s)).isSome
def cbkS (s : ByteArray) : ByteArray := if cbkO s then ofL ((backL (lst s)).getD []) else ByteArray.empty
theorem cbkO_some {s : ByteArray} (h : cbkO s = true) : cIn s = true ∧ backL (lst s) = some (lst (cbkS s)) := by
  have h' := h
  unfold cbkO at h'
  rw [Bool.and_eq_true] at h'
  obtain ⟨r, hr⟩ := Option.isSome_iff_exists.1 h'.2
  refine ⟨h'.1, ?_⟩
  unfold cbkS
  rw [if_pos h, lst_ofL, hr]
  rfl
theorem cbkS_of {s t : ByteArray} (h1 : cIn s = true) (h : backL (lst s) = some (lst t)) : cbkO s = true ∧ cbkS s = t := by
  have e : cbkO s = true := by unfold cbkO; rw [h1, h]; rfl
  refine ⟨e, ?_⟩
  unfold cbkS
  rw [if_pos e, h]
  exact ofL_lst t
theorem cbkS_no {s : ByteArray} (h : cbkO s = false) : cbkS s = ⟨#[]⟩ := by unfold cbkS; rw [h]; rfl
theorem bkS_in {s : ByteArray} {c : UInt8} (h : cbOk c (lst s) = true) : bkO c (lst s) = some (lst (bkV c s)) ∧ (bkV c s).size ≤ s.size := by
  have e : bkV c s = ofL (bk1 c (lst s)) := by unfold bkV; rw [if_pos h]
  rw [e, lst_ofL, ofL_size]
  refine ⟨by unfold bkO; rw [if_pos h], ?_⟩
  have := bk1_le c (lst s)
  rw [lst_size] at this
  exact this

set_option maxHeartbeats 1000000 in
theorem specColourBack_any (s : ByteArray) (w : World) (hs : s.size ≤ maxLen) :
    Calls Tryd.prog 21 #[.string s] w fun e w' => e = .returned (.tuple #[.string (cbkS s), .bool (cbkO s)]) ∧ Below w.heap.size w w' := by
  have CI := hide (fun w => specColourIn_any s w hs)
  cases h1 : cIn s
  · rw [h1] at CI
    have e1 : cbkO s = false := by unfold cbkO; rw [h1]; rfl
    have e2 := cbkS_no e1
    rw [e1, e2]
    clear e1 e2 h1 hs
    go_enter Tryd.func21, Tryd.ntmps21
    go_wp2_with (go_at_call 28; refine (CI.out _).mono ?_; rintro e w' ⟨rfl, rfl⟩)
    go_ret2
    exact ⟨rfl, Below.refl _ _⟩
  · rw [h1] at CI
    have h120 := ((cIn_iff s).1 h1).2
    have CM := hide (fun (t : ByteArray) (k : Nat) (hk : k < 3) (w : World) (ht : t.size ≤ 120) => (show Calls Tryd.prog 40 #[.string t, .int .u8 (48 + (3 - (k : Int)))] w (fun e w' => e = .returned (.tuple #[.string (bkV (cCh (3 - (k : Int))) t), .bool (cbOk (cCh (3 - (k : Int))) (lst t))]) ∧ Below w.heap.size w w') from by
      have h3 : c3 (3 - (k : Int)) = true := by unfold c3; simp; omega
      have := l5Back_any t (cCh (3 - (k : Int))) w (by omega) (cCh_ne h3).1
      match k, hk with
      | 0, _ => exact this
      | 1, _ => exact this
      | 2, _ => exact this))
    obtain ⟨a, ha⟩ : ∃ a, a = cbkS s := ⟨_, rfl⟩
    obtain ⟨b, hb⟩ : ∃ b, b = cbkO s := ⟨_, rfl⟩
    have HYES : Hid (∀ t, down (lst s) 3 = some (lst t) → b = true ∧ a = t) := by
      intro t ht
      rw [down_3] at ht
      rw [ha, hb]
      exact cbkS_of h1 ht
    have HNO : Hid (∀ k, k ≤ 3 → down (lst s) k = none → b = false ∧ a = ⟨#[]⟩) := by
      intro k hk h
      have h2 : cbkO s = false := by unfold cbkO; rw [down_none h hk, h1]; rfl
      rw [ha, hb]
      exact ⟨h2, cbkS_no h2⟩
    rw [← ha, ← hb]
    have H0 : Hid (down (lst s) 0 = some (lst s)) := hide rfl
    clear ha hb h1 hs
    go_enter Tryd.func21, Tryd.ntmps21
    go_wp2_with (go_at_call 28; refine (CI.out _).mono ?_; rintro e w' ⟨rfl, rfl⟩)
    go_loopw [0, 4] (fun sv cv wr => ∃ (k : Nat) (t : ByteArray), k ≤ 3 ∧ sv = .string t ∧ cv = .int .i64 (3 - (k : Int)) ∧ Hid (down (lst s) k = some (lst t)) ∧ t.size ≤ 120 ∧ Hid (Below w.heap.size w wr)) (fun _ cv _ => (Go.RowKit.intOf cv).toNat)
    case atStart => exact ⟨0, s, Nat.zero_le _, rfl, rfl, H0, h120, Below.refl _ _⟩
    case round =>
      obtain ⟨k, t, hk, rfl, rfl, HU, ht, HB⟩ := hrel
      by_cases hlt : k < 3
      · have CMk := hide (CM.out t k hlt wr ht)
        have hw : IntKind.u8.wrap (48 + (3 - (k : Int))) = 48 + (3 - (k : Int)) := by
          match k, hlt with
          | 0, _ => rfl
          | 1, _ => rfl
          | 2, _ => rfl
        have hkz : 1 ≤ 3 - (k : Int) := by omega
        obtain ⟨x, hx⟩ : ∃ x, x = bkV (cCh (3 - (k : Int))) t := ⟨_, rfl⟩
        cases hok : cbOk (cCh (3 - (k : Int))) (lst t)
        · rw [hok] at CMk
          obtain ⟨r1, r2⟩ := HNO.out (k + 1) (by omega) (by show (down (lst s) k).bind _ = none; rw [HU.out]; show bkO _ _ = none; unfold bkO; rw [hok]; rfl)
          rw [← hx] at CMk
          subst r1 r2
          clear hx hok
          go_wp2_with fail
          refine CMk.out.mono ?_
          rintro e w2 ⟨rfl, b2⟩
          have B2 := hide (HB.out.trans (b2.mono HB.out.size))
          clear b2
          go_wp2_with fail
          go_ret2
          exact ⟨rfl, B2.out⟩
        · rw [hok] at CMk
          obtain ⟨n1, n2⟩ := bkS_in hok
          have HU2 : Hid (down (lst s) (k + 1) = some (lst (bkV (cCh (3 - (k : Int))) t))) := by
            show (down (lst s) k).bind _ = _
            rw [HU.out]
            exact n1
          rw [← hx] at CMk HU2 n2
          have hx2 : x.size ≤ 120 := by omega
          clear hx hok n1 n2
          go_wp2_with fail
          refine CMk.out.mono ?_
          rintro e w2 ⟨rfl, b2⟩
          have B2 := hide (HB.out.trans (b2.mono HB.out.size))
          clear b2
          go_wp2_with fail
          go_roundw
          case rel => exact ⟨k + 1, x, by omega, rfl, by go_num, HU2, hx2, B2⟩
          case measure => simp [Go.RowKit.intOf]; omega
      · obtain rfl : k = 3 := by omega
        obtain ⟨r1, r2⟩ := HYES.out t HU.out
        subst r1 r2
        go_wp2_with fail
        go_ret2
        exact ⟨rfl, HB.out⟩
end Go.Proofs.YtppelmceojodhaaDoor
