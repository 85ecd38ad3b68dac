/- TEXTS SCol4. -/
import Derived.Test.Ytkdhifofdghbbaarot07
/- THE WALKS of the model's ColourMove, ColourStep, ColourBack. -/
namespace Go.Proofs.Ytkdhifofdghbbaa
open Go.RowKit Go.Lib

/-- colours -/
def c3 (c : Int) : Bool := decide (1 ≤ c) && decide (c ≤ 3)
def cCh (c : Int) : UInt8 := UInt8.ofNat (48 + c.toNat)
theorem c3_cases {c : Int} (h : c3 c = true) : c = 1 ∨ c = 2 ∨ c = 3 := by
  unfold c3 at h
  simp at h
  omega
theorem cCh_ne {c : Int} (h : c3 c = true) : cCh c ≠ 48 ∧ sg3 (cCh c) = true := by
  rcases c3_cases h with rfl | rfl | rfl <;> decide
/-- ColourMove -/
def cmOk (s : ByteArray) (c : Int) : Bool := cIn s && c3 c && decide ((mv1 (cCh c) (lst s)).length ≤ 120)
def cmS (s : ByteArray) (c : Int) : ByteArray := if cmOk s c then ofL (mv1 (cCh c) (lst s)) else ByteArray.empty
theorem cIn_ofL {l : List UInt8} (h : ∀ x ∈ l, sg3 x = true) (hl : l.length ≤ 120) : cIn (ofL l) = true := (cIn_iff _).2 ⟨by rw [lst_ofL]; exact h, by rw [ofL_size]; exact hl⟩
theorem cmS_in {s : ByteArray} {c : Int} (h : cmOk s c = true) : cIn (cmS s c) = true ∧ mvO (cCh c) (lst s) = some (lst (cmS s c)) := by
  have h' := h
  unfold cmOk at h'
  rw [Bool.and_eq_true, Bool.and_eq_true, decide_eq_true_iff] at h'
  obtain ⟨⟨h1, h2⟩, h3⟩ := h'
  have e : cmS s c = ofL (mv1 (cCh c) (lst s)) := by unfold cmS; rw [if_pos h]
  rw [e, lst_ofL]
  exact ⟨cIn_ofL (mv_sg (cCh_ne h2).2 ((cIn_iff s).1 h1).1) h3, by unfold mvO; rw [if_pos h3]⟩
theorem cmS_no {s : ByteArray} {c : Int} (h1 : cIn s = true) (h2 : c3 c = true) (h : cmOk s c = false) : mvO (cCh c) (lst s) = none := by
  unfold cmOk at h
  rw [h1, h2] at h
  unfold mvO
  rw [if_neg (by simpa using h)]

/-- the first k moves of a step -/
def upto (l : List UInt8) : Nat → Option (List UInt8)
  | 0 => some l
  | k + 1 => (upto l k).bind (mvO (cCh ((k : Int) + 1)))
theorem upto_3 (l : List UInt8) : upto l 3 = stepL l := by
  have a1 : cCh (((0 : Nat) : Int) + 1) = 49 := by decide
  have a2 : cCh (((1 : Nat) : Int) + 1) = 50 := by decide
  have a3 : cCh (((2 : Nat) : Int) + 1) = 51 := by decide
  show (((some l).bind (mvO (cCh (((0 : Nat) : Int) + 1)))).bind (mvO (cCh (((1 : Nat) : Int) + 1)))).bind (mvO (cCh (((2 : Nat) : Int) + 1))) = _
  rw [a1, a2, a3]
  unfold stepL
  generalize mvO 49 = f
  generalize mvO 50 = g
  generalize mvO 51 = h
  show ((f l).bind g).bind h = _
  cases f l <;> rfl
theorem upto_none {l : List UInt8} {k : Nat} (h : upto l k = none) (hk : k ≤ 3) : stepL l = none := by
  have up : ∀ d, k + d ≤ 3 → upto l (k + d) = none := by
    intro d
    induction d with
    | zero => intro _; exact h
    | succ d ih =>
      intro hd
      show (upto l (k + d)).bind _ = none
      rw [ih (by omega)]
      rfl
  have := up (3 - k) (by omega)
  rw [show k + (3 - k) = 3 by omega, upto_3] at this
  exact this
/-- ColourStep -/
def csOk (s : ByteArray) : Bool := cIn s && (stepL (lst s)).isSome
def csS (s : ByteArray) : ByteArray := if csOk s then ofL ((stepL (lst s)).getD []) else ByteArray.empty
theorem csOk_some {s : ByteArray} (h : csOk s = true) : cIn s = true ∧ stepL (lst s) = some (lst (csS s)) := by
  have h' := h
  unfold csOk at h'
  rw [Bool.and_eq_true] at h'
  obtain ⟨r, hr⟩ := Option.isSome_iff_exists.1 h'.2
  refine ⟨h'.1, ?_⟩
  unfold csS
  rw [if_pos h, lst_ofL, hr]
  rfl
theorem csS_of {s t : ByteArray} (h1 : cIn s = true) (h : stepL (lst s) = some (lst t)) : csOk s = true ∧ csS s = t := by
  have e : csOk s = true := by unfold csOk; rw [h1, h]; rfl
  refine ⟨e, ?_⟩
  unfold csS
  rw [if_pos e, h]
  exact ofL_lst t
theorem csS_no {s : ByteArray} (h : csOk s = false) : csS s = ⟨#[]⟩ := by unfold csS; rw [h]; rfl

/-- the first k moves of a step back -/
def down (l : List UInt8) : Nat → Option (List UInt8)
  | 0 => some l
  | k + 1 => (down l k).bind (bkO (cCh (3 - (k : Int))))
theorem down_3 (l : List UInt8) : down l 3 = backL l := by
  have a1 : cCh (3 - ((0 : Nat) : Int)) = 51 := by decide
  have a2 : cCh (3 - ((1 : Nat) : Int)) = 50 := by decide
  have a3 : cCh (3 - ((2 : Nat) : Int)) = 49 := by decide
  show (((some l).bind (bkO (cCh (3 - ((0 : Nat) : Int))))).bind (bkO (cCh (3 - ((1 : Nat) : Int))))).bind (bkO (cCh (3 - ((2 : Nat) : Int)))) = _
  rw [a1, a2, a3]
  unfold backL
  generalize bkO 51 = f
  generalize bkO 50 = g
  generalize bkO 49 = h
  show ((f l).bind g).bind h = _
  cases f l <;> rfl
theorem down_none {l : List UInt8} {k : Nat} (h : down l k = none) (hk : k ≤ 3) : backL l = none := by
  have up : ∀ d, k + d ≤ 3 → down l (k + d) = none := by
    intro d
    induction d with
    | zero => intro _; exact h
    | succ d ih =>
      intro hd
      show (down l (k + d)).bind _ = none
      rw [ih (by omega)]
      rfl
  have := up (3 - k) (by omega)
  rw [show k + (3 - k) = 3 by omega, down_3] at this
  exact this
/-- ColourBack -/
def cbkO (s : ByteArray) : Bool := cIn s && (backL (lst s)).isSome
def cbkS (s : ByteArray) : ByteArray := if cbkO s then ofL ((backL (lst s)).getD []) else ByteArray.empty
theorem cbkO_some {s : ByteArray} (h : cbkO s = true) : cIn s = true ∧ backL (lst s) = some (lst (cbkS s)) := by
  have h' := h
  unfold cbkO at h'
  rw [Bool.and_eq_true] at h'
  obtain ⟨r, hr⟩ := Option.isSome_iff_exists.1 h'.2
  refine ⟨h'.1, ?_⟩
  unfold cbkS
  rw [if_pos h, lst_ofL, hr]
  rfl
theorem cbkS_of {s t : ByteArray} (h1 : cIn s = true) (h : backL (lst s) = some (lst t)) : cbkO s = true ∧ cbkS s = t := by
  have e : cbkO s = true := by unfold cbkO; rw [h1, h]; rfl
  refine ⟨e, ?_⟩
  unfold cbkS
  rw [if_pos e, h]
  exact ofL_lst t
theorem cbkS_no {s : ByteArray} (h : cbkO s = false) : cbkS s = ⟨#[]⟩ := by unfold cbkS; rw [h]; rfl
theorem bkS_in {s : ByteArray} {c : UInt8} (h : cbOk c (lst s) = true) : bkO c (lst s) = some (lst (bkV c s)) ∧ (bkV c s).size ≤ s.size := by
  have e : bkV c s = ofL (bk1 c (lst s)) := by unfold bkV; rw [if_pos h]
  rw [e, lst_ofL, ofL_size]
  refine ⟨by unfold bkO; rw [if_pos h], ?_⟩
  have := bk1_le c (lst s)
  rw [lst_size] at this
  exact this

end Go.Proofs.Ytkdhifofdghbbaa
