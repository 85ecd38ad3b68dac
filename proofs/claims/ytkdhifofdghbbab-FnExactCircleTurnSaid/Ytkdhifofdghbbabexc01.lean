/- TEXTS Plain, Cells, Cir1, Cir2. -/
import Derived.WalkKit
import Derived.WalkSpells
import Derived.WalkLawsBesides
import Derived.ProofKit
/- PLAIN FACTS on rows of signs, for the walks of chapter 1: nothing of the program is named here. -/
namespace Go.Proofs.Ytkdhifofdghbbab

open Go.RowKit in
theorem hide {p : Prop} (h : p) : Hid p := h
/-- a sign of a row -/
def sgn (c : UInt8) : Bool := c == 48 || c == 49
/-- all bytes are signs -/
def allSgn (l : List UInt8) : Bool := l.all sgn
/-- a row: signs alone, at most 120 -/
def vld (s : ByteArray) : Bool := allSgn s.data.toList && decide (s.size ≤ 120)

theorem take_snoc (s : ByteArray) (k : Nat) (h : k < s.size) : s.data.toList.take (k + 1) = s.data.toList.take k ++ [s[k]] := by
  rw [List.take_succ_eq_append_getElem (by simpa using h)]; rfl
theorem sgn_of (c : UInt8) : sgn c = decide ((c.toNat : Int) = 48 ∨ (c.toNat : Int) = 49) := by
  unfold sgn
  rw [Bool.eq_iff_iff]
  simp [← UInt8.toNat_inj]
  omega
theorem allSgn_snoc (s : ByteArray) (k : Nat) (h : k < s.size) (g : allSgn (s.data.toList.take k) = true) (hc : (s[k].toNat : Int) = 48 ∨ (s[k].toNat : Int) = 49) :
    allSgn (s.data.toList.take (k + 1)) = true := by
  rw [take_snoc s k h]; unfold allSgn at g ⊢; rw [List.all_append, g]; simp [sgn_of, hc]
theorem vld_bad (s : ByteArray) (k : Nat) (h : k < s.size) (hc : ¬((s[k].toNat : Int) = 48 ∨ (s[k].toNat : Int) = 49)) : vld s = false := by
  unfold vld allSgn
  have : s.data.toList.all sgn = false := by
    rw [List.all_eq_false]
    exact ⟨s[k], by exact List.getElem_mem (l := s.data.toList) (by simpa using h), by rw [sgn_of]; simpa using hc⟩
  rw [this]; rfl
theorem vld_good (s : ByteArray) (k : Nat) (h : k = s.size) (g : allSgn (s.data.toList.take k) = true) : vld s = decide (s.size ≤ 120) := by
  unfold vld
  rw [List.take_of_length_le (by simp [h])] at g
  rw [g]; rfl
end Go.Proofs.Ytkdhifofdghbbab

/- CELLS OF ONE BLOCK THAT HOLD A LIST, none frozen: small laws; and rows as lists of Bools. Nothing of the program is named here. -/
namespace Go.Proofs.Ytkdhifofdghbbab
open Go.RowKit

/-- block g's first cells hold the list, none of them frozen -/
def CellsAt (w : World) (g : Nat) (l : List Value) : Prop := ∀ j v, l[j]? = some v → w.cell? ⟨g, j, none⟩ = some v ∧ w.frozen? ⟨g, j, none⟩ = false

theorem CellsAt.cell {w : World} {g : Nat} {l : List Value} (h : CellsAt w g l) (j : Nat) (v : Value) (hv : l[j]? = some v) : w.cell? ⟨g, j, none⟩ = some v := (h j v hv).1
theorem CellsAt.lt {w : World} {g : Nat} {l : List Value} (h : CellsAt w g l) (hl : 0 < l.length) : g < w.heap.size := by
  have := (h 0 l[0] (by simp [hl])).1
  exact World.block_lt_of_cell? w _ this
theorem CellsAt.below {w w' : World} {g B : Nat} {l : List Value} (h : CellsAt w g l) (hb : Below B w w') (hg : g < B) : CellsAt w' g l := by
  intro j v hv
  obtain ⟨a, b⟩ := h j v hv
  exact ⟨(hb.cell (p := ⟨g, j, none⟩) hg).trans a, (hb.frozen (p := ⟨g, j, none⟩) hg).trans b⟩
/-- an empty list or a block below: what lies below is kept -/
theorem CellsAt.below' {w w' : World} {g B : Nat} {l : List Value} (h : CellsAt w g l) (hb : Below B w w') (hB : w.heap.size ≤ B) : CellsAt w' g l := by
  by_cases hl : 0 < l.length
  · exact h.below hb (by have := h.lt hl; omega)
  · have : l = [] := List.eq_nil_of_length_eq_zero (by omega)
    subst this
    intro j v hv; simp at hv
theorem CellsAt.set {w : World} {g : Nat} {l : List Value} (h : CellsAt w g l) (k : Nat) (hk : k < l.length) (u : Value) : CellsAt (w.setCell ⟨g, k, none⟩ u) g (l.set k u) := by
  intro j v hv
  rw [List.getElem?_set] at hv
  by_cases e : k = j
  · subst e
    simp [hk] at hv
    subst hv
    obtain ⟨a, b⟩ := h k l[k] (by simp [hk])
    exact ⟨World.cell?_setCell_same' _ _ _ (by rw [a]; rfl), by rw [World.frozen?_setCell]; exact b⟩
  · simp [e] at hv
    obtain ⟨a, b⟩ := h j v hv
    exact ⟨by rw [World.cell?_setCell_other _ _ _ _ (by intro h; injection h with _ h2; exact e h2)]; exact a, by rw [World.frozen?_setCell]; exact b⟩
theorem CellsAt.far {w : World} {g : Nat} {l : List Value} (h : CellsAt w g l) (p : Addr) (hp : p.block ≠ g) (u : Value) : CellsAt (w.setCell p u) g l := by
  intro j v hv
  obtain ⟨a, b⟩ := h j v hv
  exact ⟨by rw [World.cell?_setCell_other _ _ _ _ (by intro h; exact hp (by rw [h]))]; exact a, by rw [World.frozen?_setCell]; exact b⟩
theorem CellsAt.alloc {w : World} {g : Nat} {l : List Value} (h : CellsAt w g l) (o : Obj) : CellsAt (w.alloc o) g l := h.below' ((Below.refl w.heap.size w).alloc (Nat.le_refl _) o) (Nat.le_refl _)
theorem CellsAt.of_owns {w : World} {base e g n cap : Nat} {xs : List Value} (h : w.ownsRow base e 1 (.slice (some ⟨g, 0, none⟩) n cap) n xs) : CellsAt w g xs := by
  intro j v hv
  have hl : j < n * 1 := by have := h.1; have := (List.getElem?_eq_some_iff.1 hv).1; omega
  exact ⟨by rw [h.cellAt j hl]; exact hv, h.frozenAt j⟩

/-- the boxes of a text: has it a ball? -/
def bits (s : ByteArray) : List Bool := s.data.toList.map (· == 49)
/-- the number of boxes up to the last ball -/
def tl (l : List Bool) : Nat := (l.reverse.dropWhile (! ·)).length
theorem length_bits (s : ByteArray) : (bits s).length = s.size := by simp [bits]
theorem bits_getElem (s : ByteArray) (k : Nat) (h : k < s.size) : (bits s)[k]? = some (s[k] == 49) := by
  simp [bits, h]; rfl
theorem bit_int (c : UInt8) : (c == 49) = ((c.toNat : Int) == 49) := by
  rw [Bool.eq_iff_iff]; simp [← UInt8.toNat_inj]; omega
theorem bits_step (s : ByteArray) (xs : List Bool) (k : Nat) (h : k < s.size) (hx : xs.length = s.size) (ht : xs.take k = (bits s).take k) :
    (xs.set k (s[k] == 49)).take (k + 1) = (bits s).take (k + 1) := by
  have hb : k < (bits s).length := by rw [length_bits]; exact h
  rw [List.take_succ_eq_append_getElem (by simp; omega), List.take_succ_eq_append_getElem hb, List.take_set_of_le (Nat.le_refl _), ht]
  have e := bits_getElem s k h
  rw [List.getElem?_eq_getElem hb] at e
  simp only [Option.some.injEq] at e
  rw [e]; simp
theorem tl_le (l : List Bool) : tl l ≤ l.length := by
  unfold tl; have := (List.dropWhile_sublist (! ·) (l := l.reverse)).length_le; simpa using this
theorem tl_nil : tl [] = 0 := rfl
theorem tl_snoc (l : List Bool) (b : Bool) : tl (l ++ [b]) = if b then l.length + 1 else tl l := by
  unfold tl; cases b <;> simp
/-- going down from n: box n - 1 has none -/
theorem tl_take_pred (l : List Bool) (n : Nat) (hn : n < l.length) (h : l[n]? = some false) : tl (l.take (n + 1)) = tl (l.take n) := by
  rw [List.take_succ_eq_append_getElem hn, tl_snoc]
  have : l[n] = false := by rw [List.getElem?_eq_getElem hn] at h; simpa using h
  simp [this]
theorem tl_take_stop (l : List Bool) (n : Nat) (hn : n < l.length) (h : l[n]? = some true) : tl (l.take (n + 1)) = n + 1 := by
  rw [List.take_succ_eq_append_getElem hn, tl_snoc]
  have : l[n] = true := by rw [List.getElem?_eq_getElem hn] at h; simpa using h
  simp [this]; omega
theorem madeB (n : Nat) : (madeCells (Value.bool false).cells (n * 1)).toList = (List.replicate n false).map Value.bool := by
  rw [Nat.mul_one]; show (madeCells #[Value.bool false] n).toList = _; rw [toList_madeCells_one]; simp
theorem madeI (n : Nat) : (madeCells (Value.int .i64 0).cells (n * 1)).toList = (List.replicate n (0 : Int)).map (Value.int .i64) := by
  rw [Nat.mul_one]; show (madeCells #[Value.int .i64 0] n).toList = _; rw [toList_madeCells_one]; simp
end Go.Proofs.Ytkdhifofdghbbab

/- CIRCLES. Pure: no walk. The load of a carrier that goes round; turns; rotations; back. -/
namespace Go.Proofs.Ytkdhifofdghbbab

def lstp (c : Nat) (x : Bool) : Nat := if x then c + 1 else c - 1
/-- the load behind a list -/
def lend (c : Nat) : List Bool → Nat
  | [] => c
  | x :: l => lend (lstp c x) l
/-- what a carrier with a load leaves -/
def tn (c : Nat) : List Bool → List Bool
  | [] => []
  | x :: l => (!x && decide (0 < c)) :: tn (lstp c x) l
/-- balls less empty boxes -/
def drf : List Bool → Int
  | [] => 0
  | x :: l => (if x then 1 else -1) + drf l
def cturn (l : List Bool) : List Bool := tn (lend 0 l) l

theorem lend_max : ∀ (l : List Bool) (c : Nat), ((lend c l : Nat) : Int) = max ((c : Int) + drf l) (lend 0 l : Nat)
  | [], c => by simp only [lend, drf]; omega
  | x :: l, c => by
    have h1 := lend_max l (lstp c x)
    have h2 := lend_max l (lstp 0 x)
    have h0 := lend_max l 0
    simp only [lend, drf]
    rw [h1, h2]
    cases x
    · simp only [lstp]; simp at *; omega
    · simp only [lstp]; simp at *; omega
theorem lend_app (c : Nat) (a b : List Bool) : lend c (a ++ b) = lend (lend c a) b := by
  induction a generalizing c with
  | nil => rfl
  | cons x a ih => exact ih _
theorem tn_app (c : Nat) (a b : List Bool) : tn c (a ++ b) = tn c a ++ tn (lend c a) b := by
  induction a generalizing c with
  | nil => rfl
  | cons x a ih => simp only [List.cons_append, tn, lend, ih]
theorem drf_app (a b : List Bool) : drf (a ++ b) = drf a + drf b := by
  induction a with
  | nil => simp [drf]
  | cons x a ih => simp only [List.cons_append, drf, ih]; omega
theorem tn_length (c : Nat) (l : List Bool) : (tn c l).length = l.length := by
  induction l generalizing c with
  | nil => rfl
  | cons x l ih => simp only [tn, List.length_cons, ih]
theorem lend_stays {l : List Bool} (h : drf l < 0) : lend (lend 0 l) l = lend 0 l := by
  have := lend_max l (lend 0 l)
  omega
theorem lend_one {l : List Bool} (h : drf l < 0) {c : Nat} (hc : lend c l = c) : c = lend 0 l := by
  have := lend_max l c
  omega
/-- loads and balls -/
theorem tn_drf (c : Nat) (l : List Bool) : (c : Int) * 2 + drf l = (lend c l : Nat) * 2 + drf (tn c l) := by
  induction l generalizing c with
  | nil => simp only [lend, tn, drf]
  | cons x l ih =>
    have h := ih (lstp c x)
    simp only [lend, tn, drf]
    cases x
    · cases c with
      | zero => simp only [lstp] at h ⊢; simp at h ⊢; omega
      | succ k =>
        have e : lstp (k + 1) false = k := by simp [lstp]
        rw [e] at h ⊢
        have e2 : (!false && decide (0 < k + 1)) = true := by simp
        rw [e2]
        simp only [if_true, Bool.false_eq_true, if_false]
        omega
    · have e : lstp c true = c + 1 := by simp [lstp]
      rw [e] at h ⊢
      have e2 : (!true && decide (0 < c)) = false := by simp
      rw [e2]
      simp only [if_true, Bool.false_eq_true, if_false]
      omega
theorem cturn_drf {l : List Bool} (h : drf l < 0) : drf (cturn l) = drf l := by
  have := tn_drf (lend 0 l) l
  rw [lend_stays h] at this
  unfold cturn
  omega
theorem cturn_length (l : List Bool) : (cturn l).length = l.length := tn_length _ _
/-- none in the same box -/
theorem tn_apart : ∀ (l : List Bool) (c j : Nat), l[j]? = some true → (tn c l)[j]? = some false
  | [], _, j, h => by simp at h
  | x :: l, c, 0, h => by
    have hx : x = true := by simpa using h
    subst hx
    simp [tn]
  | x :: l, c, j + 1, h => by
    have := tn_apart l (lstp c x) j (by simpa using h)
    simpa [tn] using this
/-- a turned rotation -/
theorem cturn_rot {a b : List Bool} (h : drf (a ++ b) < 0) : ∃ a' b', cturn (a ++ b) = a' ++ b' ∧ cturn (b ++ a) = b' ++ a' ∧ a'.length = a.length := by
  have hd : drf (b ++ a) < 0 := by rw [drf_app] at h ⊢; omega
  have hs := lend_stays h
  rw [lend_app _ a b] at hs
  have hc : lend (lend (lend 0 (a ++ b)) a) (b ++ a) = lend (lend 0 (a ++ b)) a := by rw [lend_app, hs]
  have hc' := lend_one hd hc
  refine ⟨tn (lend 0 (a ++ b)) a, tn (lend (lend 0 (a ++ b)) a) b, tn_app _ _ _, ?_, tn_length _ _⟩
  unfold cturn
  rw [← hc', tn_app, hs]
/-- the carrier that goes the other way -/
theorem tn_back : ∀ (l : List Bool) (c : Nat), lend (lend c l) (tn c l).reverse = c ∧ tn (lend c l) (tn c l).reverse = l.reverse
  | [], c => ⟨rfl, rfl⟩
  | x :: l, c => by
    obtain ⟨h1, h2⟩ := tn_back l (lstp c x)
    have e : (tn c (x :: l)).reverse = (tn (lstp c x) l).reverse ++ [!x && decide (0 < c)] := by simp only [tn, List.reverse_cons]
    have e2 : lend c (x :: l) = lend (lstp c x) l := rfl
    rw [e, e2, lend_app, tn_app, h1, h2, List.reverse_cons]
    cases x
    · by_cases h : 0 < c
      · refine ⟨?_, ?_⟩
        · simp [lend, lstp, h]; omega
        · simp [tn, lstp, h]
      · refine ⟨?_, ?_⟩
        · simp [lend, lstp, h]; omega
        · simp [tn, lstp, h]; omega
    · refine ⟨?_, ?_⟩
      · simp [lend, lstp]
      · simp [tn, lstp]
theorem drf_rev (l : List Bool) : drf l.reverse = drf l := by
  induction l with
  | nil => rfl
  | cons x l ih => rw [List.reverse_cons, drf_app, ih]; simp only [drf]; omega
/-- P44: the turn of the turn, read the other way -/
theorem cturn_back {l : List Bool} (h : drf l < 0) : cturn (cturn l).reverse = l.reverse := by
  obtain ⟨h1, h2⟩ := tn_back l (lend 0 l)
  rw [lend_stays h] at h1 h2
  have hd : drf (cturn l).reverse < 0 := by rw [drf_rev, cturn_drf h]; exact h
  have hc := lend_one hd (c := lend 0 l) h1
  show tn (lend 0 (cturn l).reverse) (cturn l).reverse = l.reverse
  rw [← hc]
  exact h2
/-- P45 -/
theorem cback_turn {l : List Bool} (h : drf l < 0) : cturn (cturn l.reverse).reverse = l := by
  have := cturn_back (l := l.reverse) (by rw [drf_rev]; exact h)
  rwa [List.reverse_reverse] at this
theorem cturn_inj {a b : List Bool} (ha : drf a < 0) (hb : drf b < 0) (h : cturn a = cturn b) : a = b := by
  have h1 := cturn_back ha
  have h2 := cturn_back hb
  rw [h, h2] at h1
  exact (List.reverse_inj.1 h1).symm
end Go.Proofs.Ytkdhifofdghbbab

/- CIRCLES. Pure: no walk. Neighbours are taken out; the rounds of a circle and of its turn. -/
namespace Go.Proofs.Ytkdhifofdghbbab

def hd (l : List Bool) (q : Bool) : Bool := l.head?.getD q
def ls (p : Bool) : List Bool → Bool
  | [] => p
  | x :: l => ls x l
/-- without neighbours of a ball and an empty box behind it; p, q: the signs ahead and behind -/
def k10 (p : Bool) : List Bool → Bool → List Bool
  | [], _ => []
  | x :: l, q => if (if x then hd l q else !p) then x :: k10 x l q else k10 x l q
/-- without neighbours of an empty box and a ball behind it -/
def k01 (p : Bool) : List Bool → Bool → List Bool
  | [], _ => []
  | x :: l, q => if (if x then p else !(hd l q)) then x :: k01 x l q else k01 x l q
/-- one sign for each two neighbours that are the same -/
def aj (p : Bool) : List Bool → List Bool
  | [] => []
  | x :: l => if p = x then x :: aj x l else aj x l
def one (b : Bool) (x : Bool) : List Bool := if b then [x] else []

theorem k10_aj : ∀ (l : List Bool) (p q : Bool), one (p && hd l q) true ++ k10 p l q = aj p l ++ one (ls p l && q) true
  | [], p, q => by simp [hd, k10, aj, ls]
  | x :: l, p, q => by
    have ih := k10_aj l x q
    have e : hd (x :: l) q = x := rfl
    rw [e]
    simp only [k10, aj, ls]
    obtain ⟨h, hh⟩ : ∃ h, h = hd l q := ⟨_, rfl⟩
    rw [← hh] at ih ⊢
    cases x <;> cases p <;> cases h <;> simp [one] at ih ⊢ <;> simpa using ih
theorem k01_aj : ∀ (l : List Bool) (p q : Bool), one (!p && !(hd l q)) false ++ k01 p l q = aj p l ++ one (!(ls p l) && !q) false
  | [], p, q => by simp [hd, k01, aj, ls]
  | x :: l, p, q => by
    have ih := k01_aj l x q
    have e : hd (x :: l) q = x := rfl
    rw [e]
    simp only [k01, aj, ls]
    obtain ⟨h, hh⟩ : ∃ h, h = hd l q := ⟨_, rfl⟩
    rw [← hh] at ih ⊢
    cases x <;> cases p <;> cases h <;> simp [one] at ih ⊢ <;> simpa using ih

/-- round the circle -/
def c10 (l : List Bool) : List Bool := k10 (ls false l) l (hd l false)
def c01 (l : List Bool) : List Bool := k01 (ls false l) l (hd l false)
def caj (l : List Bool) : List Bool := aj (ls false l) l
/-- rotations -/
def Rot (l l' : List Bool) : Prop := ∃ a b, l = a ++ b ∧ l' = b ++ a
theorem Rot.refl (l : List Bool) : Rot l l := ⟨l, [], by simp, by simp⟩
theorem Rot.length {l l' : List Bool} (h : Rot l l') : l.length = l'.length := by
  obtain ⟨a, b, rfl, rfl⟩ := h
  simp; omega
theorem ls_app (p : Bool) (a b : List Bool) : ls p (a ++ b) = ls (ls p a) b := by
  induction a generalizing p with
  | nil => rfl
  | cons x a ih => exact ih _
theorem ls_cons (p p' : Bool) {l : List Bool} (h : l ≠ []) : ls p l = ls p' l := by
  cases l with
  | nil => exact absurd rfl h
  | cons x l => rfl
theorem aj_app (p : Bool) (a b : List Bool) : aj p (a ++ b) = aj p a ++ aj (ls p a) b := by
  induction a generalizing p with
  | nil => rfl
  | cons x a ih =>
    simp only [List.cons_append, aj, ls, ih]
    split <;> rfl
theorem caj_rot {l l' : List Bool} (h : Rot l l') : Rot (caj l) (caj l') := by
  obtain ⟨a, b, rfl, rfl⟩ := h
  by_cases ha : a = []
  · subst ha; simp; exact Rot.refl _
  · by_cases hb : b = []
    · subst hb; simp; exact Rot.refl _
    · unfold caj
      rw [aj_app, aj_app, ls_app, ls_app]
      refine ⟨_, _, rfl, ?_⟩
      rw [ls_cons (ls false b) (ls (ls false a) b) ha, ls_cons (ls (ls (ls false a) b) a) (ls false a) hb]
theorem rot_of {x : Bool} {k a : List Bool} (h : x :: k = a ++ [x]) : Rot k a := by
  cases a with
  | nil => cases k with
    | nil => exact Rot.refl _
    | cons y k => simp at h
  | cons y a =>
    simp at h
    obtain ⟨rfl, rfl⟩ := h
    exact ⟨a, [x], rfl, rfl⟩
theorem c10_rot (l : List Bool) : Rot (c10 l) (caj l) := by
  have h := k10_aj l (ls false l) (hd l false)
  have e : ls (ls false l) l = ls false l := by cases l <;> rfl
  rw [e] at h
  have e2 : hd l (hd l false) = hd l false := by cases l <;> rfl
  rw [e2] at h
  unfold c10 caj
  cases hb : (ls false l && hd l false)
  · rw [hb] at h
    simp [one] at h
    rw [h]
    exact Rot.refl _
  · rw [hb] at h
    simp only [one, if_true, List.cons_append, List.nil_append] at h
    exact rot_of h
theorem c01_rot (l : List Bool) : Rot (c01 l) (caj l) := by
  have h := k01_aj l (ls false l) (hd l false)
  have e : ls (ls false l) l = ls false l := by cases l <;> rfl
  rw [e] at h
  have e2 : hd l (hd l false) = hd l false := by cases l <;> rfl
  rw [e2] at h
  unfold c01 caj
  cases hb : (!(ls false l) && !(hd l false))
  · rw [hb] at h
    simp [one] at h
    rw [h]
    exact Rot.refl _
  · rw [hb] at h
    simp only [one, if_true, List.cons_append, List.nil_append] at h
    exact rot_of h

/-- the numbers of pairs, round for round -/
def cnt10 : Nat → List Bool → List Nat
  | 0, _ => []
  | f + 1, l => if (c10 l).length = l.length then [] else (l.length - (c10 l).length) / 2 :: cnt10 f (c10 l)
def cnt01 : Nat → List Bool → List Nat
  | 0, _ => []
  | f + 1, l => if (c01 l).length = l.length then [] else (l.length - (c01 l).length) / 2 :: cnt01 f (c01 l)
def cntaj : Nat → List Bool → List Nat
  | 0, _ => []
  | f + 1, l => if (caj l).length = l.length then [] else (l.length - (caj l).length) / 2 :: cntaj f (caj l)
theorem cntaj_rot : ∀ (f : Nat) {l l' : List Bool}, Rot l l' → cntaj f l = cntaj f l'
  | 0, _, _, _ => rfl
  | f + 1, l, l', h => by
    simp only [cntaj]
    rw [h.length, (caj_rot h).length, cntaj_rot f (caj_rot h)]
theorem cnt10_aj : ∀ (f : Nat) (l : List Bool), cnt10 f l = cntaj f l
  | 0, _ => rfl
  | f + 1, l => by
    simp only [cnt10, cntaj]
    rw [(c10_rot l).length, cnt10_aj f, cntaj_rot f (c10_rot l)]
theorem cnt01_aj : ∀ (f : Nat) (l : List Bool), cnt01 f l = cntaj f l
  | 0, _ => rfl
  | f + 1, l => by
    simp only [cnt01, cntaj]
    rw [(c01_rot l).length, cnt01_aj f, cntaj_rot f (c01_rot l)]
/-- P46: a rotated circle has the same rounds -/
theorem cnt10_rot (f : Nat) {l l' : List Bool} (h : Rot l l') : cnt10 f l = cnt10 f l' := by
  rw [cnt10_aj, cnt10_aj, cntaj_rot f h]
end Go.Proofs.Ytkdhifofdghbbab
