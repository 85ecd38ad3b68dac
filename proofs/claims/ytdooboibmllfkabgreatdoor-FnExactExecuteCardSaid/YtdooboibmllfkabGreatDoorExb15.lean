/- TEXTS SCol4, Exe1, SCir3. -/
import Derived.Test.YtdooboibmllfkabGreatDoorExb14
import Derived.Test.YtdooboibmllfkabGreatDoorExb08
import Derived.Test.YtdooboibmllfkabGreatDoorExb11
import Derived.Test.YtdooboibmllfkabGreatDoorExb06
import Derived.Test.YtdooboibmllfkabGreatDoorExb07
import Derived.Test.YtdooboibmllfkabGreatDoorExb12
import Derived.Test.YtdooboibmllfkabGreatDoorExb02
namespace Go.Proofs.YtdooboibmllfkabGreatDoor
set_option maxRecDepth 100000
open Go.RowKit Go.Lib

def c3 (c : Int) : Bool := decide (1 ≤ c) && decide (c ≤ 3)
def cCh (c : Int) : UInt8 := UInt8.ofNat (48 + c.toNat)
theorem c3_cases {c : Int} (h : c3 c = true) : c = 1 ∨ c = 2 ∨ c = 3 := by
  unfold c3 at h
  simp at h
  omega
theorem cCh_ne {c : Int} (h : c3 c = true) : cCh c ≠ 48 ∧ sg3 (cCh c) = true := by
  rcases c3_cases h with rfl | rfl | rfl <;> decide
def cmOk (s : ByteArray) (c : Int) : Bool := cIn s && c3 c && decide ((mv1 (cCh c) (lst s)).length ≤ 120)
def cmS (s : ByteArray) (c : Int) : ByteArray := if cmOk s c then ofL (mv1 (cCh c) (lst s)) else ByteArray.empty
theorem cIn_ofL {l : List UInt8} (h : ∀ x ∈ l, sg3 x = true) (hl : l.length ≤ 120) : cIn (ofL l) = true := (cIn_iff _).2 ⟨by rw [lst_ofL]; exact h, by rw [ofL_size]; exact hl⟩
theorem cmS_in {s : ByteArray} {c : Int} (h : cmOk s c = true) : cIn (cmS s c) = true ∧ mvO (cCh c) (lst s) = some (lst (cmS s c)) := by
  have h' := h
  unfold cmOk at h'
  rw [Bool.and_eq_true, Bool.and_eq_true, decide_eq_true_iff] at h'
  obtain ⟨⟨h1, h2⟩, h3⟩ := h'
  have e : cmS s c = ofL (mv1 (cCh c) (lst s)) := by unfold cmS; rw [if_pos h]
  rw [e, lst_ofL]
  exact ⟨cIn_ofL (mv_sg (cCh_ne h2).2 ((cIn_iff s).1 h1).1) h3, by unfold mvO; rw [if_pos h3]⟩
theorem cmS_no {s : ByteArray} {c : Int} (h1 : cIn s = true) (h2 : c3 c = true) (h : cmOk s c = false) : mvO (cCh c) (lst s) = none := by
  unfold cmOk at h
  rw [h1, h2] at h
  unfold mvO
  rw [if_neg (by simpa using h)]

set_option maxHeartbeats 1000000 in
theorem specColourMove_any (s : ByteArray) (c : Int) (w : World) (hs : s.size ≤ maxLen) :
    Calls Tryz.prog 124 #[.string s, .int .i64 c] w fun e w' => e = .returned (.tuple #[.string (cmS s c), .bool (cmOk s c)]) ∧ Below w.heap.size w w' := by
  have CI := hide (fun w => specColourIn_any s w hs)
  have CL := hide (fun w => l6In_any c 1 3 (c3 c) w rfl)
  cases h1 : cIn s
  · rw [h1] at CI
    have e1 : cmOk s c = false := by unfold cmOk; rw [h1]; rfl
    have e2 : cmS s c = ByteArray.empty := by unfold cmS; rw [e1]; rfl
    rw [e1, e2]
    clear e1 e2 h1 hs
    go_enter Tryz.func124, Tryz.ntmps124
    go_wp2_with (go_at_call 123; refine (CI.out _).mono ?_; rintro e w' ⟨rfl, rfl⟩)
    go_ret2
    exact ⟨rfl, Below.refl _ _⟩
  · rw [h1] at CI
    cases h2 : c3 c
    · rw [h2] at CL
      have e1 : cmOk s c = false := by unfold cmOk; rw [h2, h1]; rfl
      have e2 : cmS s c = ByteArray.empty := by unfold cmS; rw [e1]; rfl
      rw [e1, e2]
      clear e1 e2 h1 h2 hs
      go_enter Tryz.func124, Tryz.ntmps124
      go_wp2_with (first | (go_at_call 123; refine (CI.out _).mono ?_; rintro e w' ⟨rfl, rfl⟩) | (go_at_call 47; refine (CL.out _).mono ?_; rintro e w' ⟨rfl, rfl⟩))
      go_ret2
      exact ⟨rfl, Below.refl _ _⟩
    · rw [h2] at CL
      have h120 := ((cIn_iff s).1 h1).2
      have CM : Hid (∀ w, Calls Tryz.prog 149 #[.string s, .int .u8 (48 + c)] w fun e w' => e = .returned (.string (ofL (mv1 (cCh c) (lst s)))) ∧ Below w.heap.size w w') := by
        intro w
        have := l5Move_any s (cCh c) w h120 (cCh_ne h2).1
        rcases c3_cases h2 with rfl | rfl | rfl <;> exact this
      have CD := hide (fun w => l1DoneC_any (ofL (mv1 (cCh c) (lst s))) w (by
        rw [ofL_size]
        have := cz_le (cMv (cCh c) (padN (lst s)) 0)
        rw [cMv_length] at this
        have h3 : (padN (lst s)).length = 2 * s.size + 1 := by unfold padN; rw [List.length_append, List.length_replicate, lst_size]; omega
        unfold mv1
        omega))
      have e0 : cz (lst (ofL (mv1 (cCh c) (lst s)))) = mv1 (cCh c) (lst s) := by rw [lst_ofL, cz_mv]
      have e1 : cmOk s c = decide ((mv1 (cCh c) (lst s)).length ≤ 120) := by unfold cmOk; rw [h1, h2]; rfl
      have e2 : cmS s c = if (mv1 (cCh c) (lst s)).length ≤ 120 then ofL (mv1 (cCh c) (lst s)) else ByteArray.empty := by unfold cmS; rw [e1]; simp
      rw [e0, ← e1, ← e2] at CD
      obtain ⟨k1, k2⟩ : 1 ≤ c ∧ c ≤ 3 := by rcases c3_cases h2 with rfl | rfl | rfl <;> omega
      have hw : IntKind.u8.wrap (48 + c) = 48 + c := by rcases c3_cases h2 with rfl | rfl | rfl <;> rfl
      obtain ⟨t, ht⟩ : ∃ t, t = ofL (mv1 (cCh c) (lst s)) := ⟨_, rfl⟩
      obtain ⟨a, ha⟩ : ∃ a, a = cmS s c := ⟨_, rfl⟩
      obtain ⟨b, hb⟩ : ∃ b, b = cmOk s c := ⟨_, rfl⟩
      rw [← ht] at CM CD
      rw [← ha, ← hb] at CD ⊢
      clear e0 e1 e2 h1 h2 ht ha hb h120 hs
      go_enter Tryz.func124, Tryz.ntmps124
      go_wp2_with (first
        | (go_at_call 123; refine (CI.out _).mono ?_; rintro e w' ⟨rfl, rfl⟩)
        | (go_at_call 47; refine (CL.out _).mono ?_; rintro e w' ⟨rfl, rfl⟩)
        | (go_at_call 149; refine (CM.out _).mono ?_; rintro e w1 ⟨rfl, b1⟩; have B1 := hide b1; clear b1)
        | (go_at_call 25; refine (CD.out _).mono ?_; rintro e w' ⟨rfl, rfl⟩))
      go_ret2
      exact ⟨rfl, B1.out⟩

def upto (l : List UInt8) : Nat → Option (List UInt8)
  | 0 => some l
  | k + 1 => (upto l k).bind (mvO (cCh ((k : Int) + 1)))
theorem upto_3 (l : List UInt8) : upto l 3 = stepL l := by
  have a1 : cCh (((0 : Nat) : Int) + 1) = 49 := by decide
  have a2 : cCh (((1 : Nat) : Int) + 1) = 50 := by decide
  have a3 : cCh (((2 : Nat) : Int) + 1) = 51 := by decide
  show (((some l).bind (mvO (cCh (((0 : Nat) : Int) + 1)))).bind (mvO (cCh (((1 : Nat) : Int) + 1)))).bind (mvO (cCh (((2 : Nat) : Int) + 1))) = _
  rw [a1, a2, a3]
  unfold stepL
  generalize mvO 49 = f
  generalize mvO 50 = g
  generalize mvO 51 = h
  show ((f l).bind g).bind h = _
  cases f l <;> rfl
theorem upto_none {l : List UInt8} {k : Nat} (h : upto l k = none) (hk : k ≤ 3) : stepL l = none := by
  have up : ∀ d, k + d ≤ 3 → upto l (k + d) = none := by
    intro d
    induction d with
    | zero => intro _; exact h
    | succ d ih =>
      intro hd
      show (upto l (k + d)).bind _ = none
      rw [ih (by omega)]
      rfl
  have := up (3 - k) (by omega)
  rw [show k + (3 - k) = 3 by omega, upto_3] at this
  exact this
def csOk (s : ByteArray) : Bool := cIn s && (stepL (lst s)).isSome
def csS (s : ByteArray) : ByteArray := if csOk s then ofL ((stepL (lst s)).getD []) else ByteArray.empty
theorem csOk_some {s : ByteArray} (h : csOk s = true) : cIn s = true ∧ stepL (lst s) = some (lst (csS s)) := by
  have h' := h
  unfold csOk at h'
  rw [Bool.and_eq_true] at h'
  obtain ⟨r, hr⟩ := Option.isSome_iff_exists.1 h'.2
  refine ⟨h'.1, ?_⟩
  unfold csS
  rw [if_pos h, lst_ofL, hr]
  rfl
theorem csS_of {s t : ByteArray} (h1 : cIn s = true) (h : stepL (lst s) = some (lst t)) : csOk s = true ∧ csS s = t := by
  have e : csOk s = true := by unfold csOk; rw [h1, h]; rfl
  refine ⟨e, ?_⟩
  unfold csS
  rw [if_pos e, h]
  exact ofL_lst t
theorem csS_no {s : ByteArray} (h : csOk s = false) : csS s = ⟨#[]⟩ := by unfold csS; rw [h]; rfl

set_option maxHeartbeats 1000000 in
theorem specColourStep_any (s : ByteArray) (w : World) (hs : s.size ≤ maxLen) :
    Calls Tryz.prog 90 #[.string s] w fun e w' => e = .returned (.tuple #[.string (csS s), .bool (csOk s)]) ∧ Below w.heap.size w w' := by
  have CI := hide (fun w => specColourIn_any s w hs)
  cases h1 : cIn s
  · rw [h1] at CI
    have e1 : csOk s = false := by unfold csOk; rw [h1]; rfl
    have e2 := csS_no e1
    rw [e1, e2]
    clear e1 e2 h1 hs
    go_enter Tryz.func90, Tryz.ntmps90
    go_wp2_with (go_at_call 123; refine (CI.out _).mono ?_; rintro e w' ⟨rfl, rfl⟩)
    go_ret2
    exact ⟨rfl, Below.refl _ _⟩
  · rw [h1] at CI
    have CM := hide (fun (t : ByteArray) (c : Int) (w : World) (ht : cIn t = true) => specColourMove_any t c w (by have := ((cIn_iff t).1 ht).2; unfold maxLen; omega))
    obtain ⟨a, ha⟩ : ∃ a, a = csS s := ⟨_, rfl⟩
    obtain ⟨b, hb⟩ : ∃ b, b = csOk s := ⟨_, rfl⟩
    have HYES : Hid (∀ t, upto (lst s) 3 = some (lst t) → b = true ∧ a = t) := by
      intro t ht
      rw [upto_3] at ht
      rw [ha, hb]
      exact csS_of h1 ht
    have HNO : Hid (∀ k, k ≤ 3 → upto (lst s) k = none → b = false ∧ a = ⟨#[]⟩) := by
      intro k hk h
      have h2 : csOk s = false := by unfold csOk; rw [upto_none h hk, h1]; rfl
      rw [ha, hb]
      exact ⟨h2, csS_no h2⟩
    rw [← ha, ← hb]
    have H0 : Hid (upto (lst s) 0 = some (lst s)) := hide rfl
    have HIN := hide h1
    clear ha hb h1 hs
    go_enter Tryz.func90, Tryz.ntmps90
    go_wp2_with (go_at_call 123; refine (CI.out _).mono ?_; rintro e w' ⟨rfl, rfl⟩)
    go_loopw [0, 4] (fun sv cv wr => ∃ (k : Nat) (t : ByteArray), k ≤ 3 ∧ sv = .string t ∧ cv = .int .i64 ((k : Int) + 1) ∧ Hid (upto (lst s) k = some (lst t)) ∧ Hid (cIn t = true) ∧ Hid (Below w.heap.size w wr)) (fun _ cv _ => 4 - (Go.RowKit.intOf cv).toNat)
    case atStart => exact ⟨0, s, Nat.zero_le _, rfl, rfl, H0, HIN, Below.refl _ _⟩
    case round =>
      obtain ⟨k, t, hk, rfl, rfl, HU, HT, HB⟩ := hrel
      by_cases hlt : k < 3
      · have CMk := hide (CM.out t ((k : Int) + 1) wr HT.out)
        have hc3 : c3 ((k : Int) + 1) = true := by unfold c3; simp; omega
        have hkz : ((k : Int) + 1) ≤ 3 := by omega
        cases hok : cmOk t ((k : Int) + 1)
        · rw [hok] at CMk
          have hn := cmS_no HT.out hc3 hok
          obtain ⟨r1, r2⟩ := HNO.out (k + 1) (by omega) (by show (upto (lst s) k).bind _ = none; rw [HU.out]; exact hn)
          obtain ⟨x, hx⟩ : ∃ x, x = cmS t ((k : Int) + 1) := ⟨_, rfl⟩
          rw [← hx] at CMk
          subst r1 r2
          clear hx hok hn hc3
          go_wp2_with fail
          refine CMk.out.mono ?_
          rintro e w2 ⟨rfl, b2⟩
          have B2 := hide (HB.out.trans (b2.mono HB.out.size))
          clear b2
          go_wp2_with fail
          go_ret2
          exact ⟨rfl, B2.out⟩
        · rw [hok] at CMk
          obtain ⟨n1, n2⟩ := cmS_in hok
          have HU2 : Hid (upto (lst s) (k + 1) = some (lst (cmS t ((k : Int) + 1)))) := by
            show (upto (lst s) k).bind _ = _
            rw [HU.out]
            exact n2
          have HT2 := hide n1
          obtain ⟨x, hx⟩ : ∃ x, x = cmS t ((k : Int) + 1) := ⟨_, rfl⟩
          rw [← hx] at CMk HU2 HT2
          clear hx hok n1 n2 hc3
          go_wp2_with fail
          refine CMk.out.mono ?_
          rintro e w2 ⟨rfl, b2⟩
          have B2 := hide (HB.out.trans (b2.mono HB.out.size))
          clear b2
          go_wp2_with fail
          go_roundw
          case rel => exact ⟨k + 1, x, by omega, rfl, by go_num, HU2, HT2, B2⟩
          case measure => simp [Go.RowKit.intOf]; omega
      · obtain rfl : k = 3 := by omega
        obtain ⟨r1, r2⟩ := HYES.out t HU.out
        subst r1 r2
        go_wp2_with fail
        go_ret2
        exact ⟨rfl, HB.out⟩

end Go.Proofs.YtdooboibmllfkabGreatDoor

namespace Go.Proofs.YtdooboibmllfkabGreatDoor
set_option maxRecDepth 100000
open Go.RowKit

def nlT : ByteArray := ⟨#[10]⟩
def okT : ByteArray := ⟨#[111, 107, 10]⟩
def noT : ByteArray := ⟨#[110, 111, 10]⟩
def whatT : ByteArray := ⟨#[119, 104, 97, 116, 10]⟩
def yesT : ByteArray := ⟨#[121, 101, 115, 10]⟩
def notT : ByteArray := ⟨#[110, 111, 116, 10]⟩
def longT : ByteArray := ⟨#[116, 111, 111, 32, 108, 111, 110, 103, 10]⟩
def rowT : ByteArray := ⟨#[114, 111, 119, 32]⟩
def zeroT : ByteArray := ⟨#[48]⟩
def spT : ByteArray := ⟨#[32]⟩
def colT : ByteArray := ⟨#[58]⟩
def wShow : ByteArray := ⟨#[115, 104, 111, 119]⟩
def wBalls : ByteArray := ⟨#[98, 97, 108, 108, 115]⟩
def wShape : ByteArray := ⟨#[115, 104, 97, 112, 101]⟩
def wRuns : ByteArray := ⟨#[114, 117, 110, 115]⟩
def wTime : ByteArray := ⟨#[116, 105, 109, 101]⟩
def wApart : ByteArray := ⟨#[97, 112, 97, 114, 116]⟩
def wHigh : ByteArray := ⟨#[104, 105, 103, 104]⟩
def wRigged : ByteArray := ⟨#[114, 105, 103, 103, 101, 100]⟩
def wSet : ByteArray := ⟨#[115, 101, 116]⟩
def wSizes : ByteArray := ⟨#[115, 105, 122, 101, 115]⟩
def wShift : ByteArray := ⟨#[115, 104, 105, 102, 116]⟩
def wStep : ByteArray := ⟨#[115, 116, 101, 112]⟩
def wBack : ByteArray := ⟨#[98, 97, 99, 107]⟩
def wTurned : ByteArray := ⟨#[116, 117, 114, 110, 101, 100]⟩
def wEnergy : ByteArray := ⟨#[101, 110, 101, 114, 103, 121]⟩
def wPeriod : ByteArray := ⟨#[112, 101, 114, 105, 111, 100]⟩
def wColours : ByteArray := ⟨#[99, 111, 108, 111, 117, 114, 115]⟩

def dg (n : Nat) : ByteArray := ⟨#[UInt8.ofNat (48 + n)]⟩
def decF : Nat → Nat → ByteArray
  | 0, n => dg n
  | f + 1, n => if n < 10 then dg n else decF f (n / 10) ++ dg (n % 10)
def decS (n : Nat) : ByteArray := decF 6 n
def dcI (x : Int) : ByteArray := decS x.toNat
theorem dg_size (n : Nat) : (dg n).size = 1 := rfl
theorem decF_size : ∀ (f n : Nat), 1 ≤ (decF f n).size ∧ (decF f n).size ≤ f + 1
  | 0, _ => ⟨Nat.le_refl _, Nat.le_refl _⟩
  | f + 1, n => by
    have ih := decF_size f (n / 10)
    simp only [decF]
    split
    · rw [dg_size]; omega
    · rw [ByteArray.size_append, dg_size]; omega
theorem decF_more : ∀ (f n : Nat), n < 10 ^ (f + 1) → decF (f + 1) n = decF f n
  | 0, n, h => by
    have : n < 10 := by simpa using h
    simp only [decF, if_pos this]
  | f + 1, n, h => by
    have h2 : n / 10 < 10 ^ (f + 1) := by
      rw [Nat.div_lt_iff_lt_mul (by omega), ← Nat.pow_succ]
      exact h
    show (if n < 10 then dg n else decF (f + 1) (n / 10) ++ dg (n % 10)) = if n < 10 then dg n else decF f (n / 10) ++ dg (n % 10)
    rw [decF_more f (n / 10) h2]
theorem decS_small {n : Nat} (h : n < 10) : decS n = dg n := by
  show (if n < 10 then dg n else _) = _
  rw [if_pos h]
theorem decS_great {n : Nat} (h : ¬ n < 10) (h2 : n < 10000000) : decS n = decS (n / 10) ++ dg (n % 10) := by
  have e : decF 6 (n / 10) = decF 5 (n / 10) := decF_more 5 (n / 10) (by omega)
  show (if n < 10 then dg n else decF 5 (n / 10) ++ dg (n % 10)) = decF 6 (n / 10) ++ dg (n % 10)
  rw [if_neg h, e]
def numL : List UInt8 → Nat → Option Nat
  | [], n => some n
  | c :: t, n => if 48 ≤ c.toNat ∧ c.toNat ≤ 57 then numL t (10 * n + (c.toNat - 48)) else none
def numI (t : ByteArray) : Int := if 1 ≤ t.size ∧ t.size ≤ 3 then (match numL (lst t) 0 with | some n => (n : Int) | none => -1) else -1
def jns (l : List ByteArray) : ByteArray := (l.foldl (fun (o : Option ByteArray) x => some (match o with | none => x | some y => y ++ spT ++ x)) none).getD ByteArray.empty
theorem jns_fold : ∀ (l : List ByteArray) (o : Option ByteArray), l ≠ [] ∨ o ≠ none → ∃ y, l.foldl (fun (o : Option ByteArray) x => some (match o with | none => x | some y => y ++ spT ++ x)) o = some y
  | [], o, h => by
    cases o with
    | none => rcases h with h | h <;> exact absurd rfl h
    | some y => exact ⟨y, rfl⟩
  | x :: l, o, _ => jns_fold l _ (.inr (by simp))
theorem jns_snoc (l : List ByteArray) (x : ByteArray) : jns (l ++ [x]) = if l = [] then x else jns l ++ spT ++ x := by
  unfold jns
  rw [List.foldl_append]
  by_cases h : l = []
  · subst h; rfl
  · rw [if_neg h]
    obtain ⟨y, hy⟩ := jns_fold l none (.inl h)
    rw [hy]
    rfl
def rowS (s : ByteArray) : ByteArray := if s.size = 0 then zeroT else s
def saidS (l : List Int) (ok : Bool) : ByteArray := if ok then jns (l.map dcI) ++ nlT else noT
def yesS (ok : Bool) : ByteArray := if ok then yesT else notT
def rigS (l : List (Int × Int)) (ok : Bool) : ByteArray := if ok then jns (l.map fun p => dcI p.1 ++ colT ++ dcI p.2) ++ nlT else noT
def bareS (s word : ByteArray) : ByteArray :=
  if word = wShow then rowS s ++ nlT else
  if word = wBalls then saidS [(nballs (bits s) : Int)] true else
  if word = wShape then saidS (shR s) (vld s) else
  if word = wRuns then saidS (rnR s) (vld s) else
  if word = wTime then saidS [(tmR s).1] (tmR s).2 else
  if word = wApart then yesS (apOk s) else
  if word = wHigh then yesS (highB s) else
  if word = wRigged then rigS (rgOf s) (highB s) else whatT
def szL : List UInt8 → Option (List Int)
  | [] => some []
  | c :: t => if 49 ≤ c.toNat ∧ c.toNat ≤ 57 then (szL t).map (((c.toNat : Int) - 48) :: ·) else none
def szS (rest : ByteArray) : ByteArray × Bool := match szL (lst rest) with | some (x :: l) => (swS (x :: l), swO (x :: l)) | _ => (ByteArray.empty, false)
def chS (s word rest : ByteArray) : ByteArray × Bool × Bool :=
  if word = wSet then (if vld rest then tidyS rest else ByteArray.empty, true, vld rest) else
  if word = wSizes then ((szS rest).1, true, (szS rest).2) else
  if word = wShift then (shS s (numI rest), true, shOk s (numI rest)) else
  if word = wStep then (stS s (numI rest), true, stOk s (numI rest)) else
  if word = wBack then (bkS s (numI rest), true, bkOk s (numI rest)) else (s, false, false)
def askS (s word rest : ByteArray) : ByteArray :=
  if word = wEnergy then saidS [tkN s (numI rest)] (tkOk s (numI rest)) else
  if word = wPeriod then saidS [cpN rest] (ciIn rest) else
  if word = wColours then (if csOk rest then rowS (csS rest) ++ nlT else noT) else whatT
def atL (l : List UInt8) : Nat := (l.takeWhile (· != 32)).length
def lineS (s line : ByteArray) : ByteArray × ByteArray :=
  if atL (lst line) = line.size then
    (if line = wTurned then (turnS s, okT) else (s, bareS s line))
  else
    (if (chS s (line.extract 0 (atL (lst line))) (line.extract (atL (lst line) + 1) line.size)).2.1 then
      (if (chS s (line.extract 0 (atL (lst line))) (line.extract (atL (lst line) + 1) line.size)).2.2 then ((chS s (line.extract 0 (atL (lst line))) (line.extract (atL (lst line) + 1) line.size)).1, okT) else (s, noT))
    else (s, askS s (line.extract 0 (atL (lst line))) (line.extract (atL (lst line) + 1) line.size)))
def run3 : ByteArray → ByteArray → List UInt8 → List UInt8 → ByteArray × ByteArray × List UInt8
  | s, o, cur, [] => (s, o, cur)
  | s, o, cur, c :: t => if c = 10 then run3 (lineS s (ofL cur)).1 (o ++ (lineS s (ofL cur)).2) [] t else run3 s o (cur ++ [c]) t
def endS (s o : ByteArray) : ByteArray := o ++ rowT ++ rowS s ++ nlT
def exS (text : ByteArray) : ByteArray :=
  if 600 < text.size then longT else endS (run3 ByteArray.empty ByteArray.empty [] (lst text)).1 (run3 ByteArray.empty ByteArray.empty [] (lst text)).2.1

theorem run3_app : ∀ (a b : List UInt8) (s o : ByteArray) (cur : List UInt8), run3 s o cur (a ++ b) = run3 (run3 s o cur a).1 (run3 s o cur a).2.1 (run3 s o cur a).2.2 b
  | [], b, s, o, cur => rfl
  | c :: a, b, s, o, cur => by
    simp only [List.cons_append, run3]
    split
    · exact run3_app a b _ _ _
    · exact run3_app a b _ _ _
theorem run3_none : ∀ (b : List UInt8) (s o : ByteArray) (cur : List UInt8), 10 ∉ b → run3 s o cur b = (s, o, cur ++ b)
  | [], s, o, cur, _ => by simp [run3]
  | c :: b, s, o, cur, h => by
    have h1 : ¬ c = 10 := fun e => h (by rw [e]; exact List.mem_cons_self ..)
    simp only [run3]
    rw [if_neg h1, run3_none b s o (cur ++ [c]) (fun e => h (List.mem_cons_of_mem _ e))]
    simp
theorem run3_line (b : List UInt8) (s o : ByteArray) (h : 10 ∉ b) : run3 s o [] (b ++ [10]) = ((lineS s (ofL b)).1, o ++ (lineS s (ofL b)).2, []) := by
  rw [run3_app, run3_none b s o [] h]
  simp [run3]
end Go.Proofs.YtdooboibmllfkabGreatDoor

namespace Go.Proofs.YtdooboibmllfkabGreatDoor
set_option maxRecDepth 100000
open Go.RowKit

def RoundsC : Prop := ∀ (s : ByteArray) (w : World), ciIn s = true →
    Calls Tryz.prog 148 #[.string s] w fun e w' => ∃ (v1 v2 : Value) (pl : List Int), e = .returned (.tuple #[v1, v2]) ∧
      IntsV w.heap.size w' v1 pl ∧ pl.length = s.size ∧ (∀ (i : Nat) (x : Int), pl[i]? = some x → (decide (0 ≤ x) && !((bits s).getD i false)) = (cturn (bits s)).getD i false) ∧
      IntsV w.heap.size w' v2 (List.map (fun n : Nat => (n : Int)) (cnt10 (nballs (bits s)) (bits s))) ∧ Below w.heap.size w w'
theorem chC_add (c : UInt8) (l : List Bool) (k : Nat) (b : Bool) (h : l[k]? = some b) : chC c (l.take (k + 1)) = chC c (l.take k) ++ [if b then c else 48] := by
  obtain ⟨hk, he⟩ := List.getElem?_eq_some_iff.1 h
  rw [List.take_succ_eq_append_getElem hk, he]; simp [chC]
theorem lst_add (x t : ByteArray) : lst (x ++ t) = lst x ++ lst t := by unfold lst; rw [ByteArray.data_append, Array.toList_append]

theorem sign_at {s : ByteArray} (h : vld s = true) (k : Nat) (hk : k < s.size) : (s[k].toNat : Int) = 48 ∨ (s[k].toNat : Int) = 49 := by
  have h1 := vld_sgn s h
  unfold allSgn at h1
  rw [List.all_eq_true] at h1
  have h2 := h1 s[k] (List.mem_of_getElem? (lst_get s k hk))
  rw [sgn_of] at h2
  simpa using h2

set_option maxRecDepth 100000 in
set_option maxHeartbeats 1000000 in
theorem specCircleTurn_of (H : RoundsC) (s : ByteArray) (w : World) (hs : s.size ≤ maxLen) :
    Calls Tryz.prog 122 #[.string s] w fun e w' => e = .returned (.tuple #[.string (ctS s), .bool (ciIn s)]) ∧ Below w.heap.size w w' := by
  have CI := hide (fun w => specCircleIn_any s w hs)
  cases h1 : ciIn s
  · rw [h1] at CI
    have e : ctS s = ByteArray.empty := by unfold ctS; rw [h1]; rfl
    rw [e]
    clear h1 hs e H
    go_enter Tryz.func122, Tryz.ntmps122
    go_wp2_with (go_at_call 121; refine (CI.out _).mono ?_; rintro e w' ⟨rfl, rfl⟩)
    go_ret2
    exact ⟨rfl, Below.refl _ _⟩
  · rw [h1] at CI
    have HR := hide (H s w h1)
    obtain ⟨_, _, hs1, h60, _⟩ := ciIn_facts h1
    have hct : ctS s = ofB (cturn (bits s)) := by unfold ctS; rw [if_pos h1]
    rw [hct]
    have hlen : (cturn (bits s)).length = s.size := by rw [cturn_length, length_bits]
    have HSG := hide (fun (k : Nat) (h : k < s.size) => sign_at (ciIn_facts h1).1 k h)
    have HB0 := hide (fun (k : Nat) (h : k < s.size) => bits_getElem s k h)
    obtain ⟨T, hT⟩ : ∃ T, T = cturn (bits s) := ⟨_, rfl⟩
    rw [← hT] at HR hlen ⊢
    clear h1 hs hct hT H
    go_enter Tryz.func122, Tryz.ntmps122
    go_wp2_with (go_at_call 121; refine (CI.out _).mono ?_; rintro e w' ⟨rfl, rfl⟩)
    refine HR.out.mono ?_
    rintro e w1 ⟨v1, v2, pl, rfl, i1, hpl, hp, _, hb1⟩
    have HB1 := hide hb1
    have HP := hide hp
    rcases i1 with ⟨a, c, rfl, h0⟩ | ⟨g, cap, rfl, hcap, hlo, hlt, hc⟩
    · rw [h0] at hpl; simp at hpl; omega
    · have HC := hide hc
      have HLT := hide hlt
      clear hc hp hb1 hlt HR hlo
      go_wp2_with fail
      go_loopw [6, 7] (fun o i wr => ∃ (x : ByteArray) (k : Nat), k ≤ s.size ∧ o = .string x ∧ i = .int .i64 (k : Int) ∧ x.size ≤ k ∧ Hid (lst x = chC 49 (T.take k)) ∧ Hid (Quiet w1 wr)) (fun _ i => fun _ => s.size - (Go.RowKit.intOf i).toNat)
      case atStart => exact ⟨⟨#[]⟩, 0, Nat.zero_le _, rfl, rfl, Nat.zero_le _, rfl, Quiet.refl _⟩
      case round =>
        obtain ⟨x, k, hk, rfl, rfl, hxk, HX, HQ⟩ := hrel
        by_cases hlt : k < s.size
        · obtain ⟨p, hpk⟩ : ∃ p : Int, pl[k]? = some p := ⟨pl[k]'(by omega), List.getElem?_eq_getElem _⟩
          have c1 := ((HQ.out.cells HC.out) k (.int .i64 p) (by rw [List.getElem?_map, hpk]; rfl)).1
          have hb := HP.out k p hpk
          have hbk : (bits s).getD k false = (s[k] == 49) := by rw [List.getD_eq_getElem?_getD, HB0.out k hlt]; rfl
          obtain ⟨b, hTb⟩ : ∃ b, T[k]? = some b := ⟨T[k]'(by omega), List.getElem?_eq_getElem _⟩
          have hTd : T.getD k false = b := by rw [List.getD_eq_getElem?_getD, hTb]; rfl
          have HA := hide (chC_add 49 T k b hTb)
          rw [hTd, hbk] at hb
          have i0 : (0 : Int) ≤ (k : Int) := by omega
          have i1 : (k : Int) < (pl.length : Int) := by omega
          have i2 : (k : Int) < (s.size : Int) := by omega
          have hsg := HSG.out k hlt
          rw [bit_int] at hb
          by_cases hp0 : 0 ≤ p
          · have d0 : decide (0 ≤ p) = true := decide_eq_true hp0
            rcases hsg with h48 | h49
            · have t0 : ((s[k].toNat : Int) == 48) = true := by rw [h48]; rfl
              have hbv : b = true := by rw [← hb, h48, d0]; rfl
              have HP2 : Hid (lst (x ++ ⟨#[49]⟩) = chC 49 (T.take (k + 1))) := by
                show _ = _
                rw [lst_add, HX.out, HA.out, hbv]
                rfl
              clear hb hbk hTb hTd hpk
              go_wp2
              go_roundw
              case rel => exact ⟨_, k + 1, by omega, rfl, by go_num, by rw [ByteArray.size_append]; show x.size + 1 ≤ k + 1; omega, HP2, HQ⟩
              case measure => simp [Go.RowKit.intOf]; omega
            · have t0 : ((s[k].toNat : Int) == 48) = false := by rw [h49]; rfl
              have hbv : b = false := by rw [← hb, h49, d0]; rfl
              have HP2 : Hid (lst (x ++ ⟨#[48]⟩) = chC 49 (T.take (k + 1))) := by
                show _ = _
                rw [lst_add, HX.out, HA.out, hbv]
                rfl
              clear hb hbk hTb hTd hpk
              go_wp2
              go_roundw
              case rel => exact ⟨_, k + 1, by omega, rfl, by go_num, by rw [ByteArray.size_append]; show x.size + 1 ≤ k + 1; omega, HP2, HQ⟩
              case measure => simp [Go.RowKit.intOf]; omega
          · have d0 : decide (0 ≤ p) = false := decide_eq_false hp0
            have hbv : b = false := by rw [← hb, d0]; rfl
            have HP2 : Hid (lst (x ++ ⟨#[48]⟩) = chC 49 (T.take (k + 1))) := by
              show _ = _
              rw [lst_add, HX.out, HA.out, hbv]
              rfl
            clear hb hbk hTb hTd hpk
            go_wp2
            go_roundw
            case rel => exact ⟨_, k + 1, by omega, rfl, by go_num, by rw [ByteArray.size_append]; show x.size + 1 ≤ k + 1; omega, HP2, HQ⟩
            case measure => simp [Go.RowKit.intOf]; omega
        · have hx2 := HX.out
          rw [List.take_of_length_le (by omega)] at hx2
          have HF : Hid (x = ofB T) := by show _ = _; unfold ofB; rw [← hx2, ofL_lst]
          have hkn : k = s.size := by omega
          clear hx2
          go_wp2
          go_ret2
          exact ⟨by rw [HF.out]; rfl, HB1.out.trans (HQ.out.2 _)⟩
end Go.Proofs.YtdooboibmllfkabGreatDoor
