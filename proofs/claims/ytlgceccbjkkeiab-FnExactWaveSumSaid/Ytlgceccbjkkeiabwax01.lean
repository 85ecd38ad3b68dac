/- TEXTS Carry, Plain, Valid, Cells. -/
import Derived.WalkKit
import Derived.Test.YtlgceccbjkkeiabChecked
import Derived.WalkSpells
import Derived.WalkLawsBesides
import Derived.ProofKit
/- CARRIERS ON INFINITE ROWS: what a carrier with a room leaves, its loads, how often it takes; a step is done back, steps commute, energies are kept and concave. Pure: nothing of the program is named here. -/
namespace Go.Proofs.Ytlgceccbjkkeiab

/-- the load behind a box -/
def nx (K : Nat) (b : Bool) (u : Nat) : Nat := if b then (if u < K then u + 1 else u) else u - 1
/-- how the box is left -/
def ot (K : Nat) (b : Bool) (u : Nat) : Bool := if b then !decide (u < K) else decide (0 < u)
/-- the load ahead of box i -/
def ld (K : Nat) (f : Nat → Bool) : Nat → Nat
  | 0 => 0
  | i + 1 => nx K (f i) (ld K f i)
/-- the row behind a step -/
def tr (K : Nat) (f : Nat → Bool) (i : Nat) : Bool := ot K (f i) (ld K f i)
/-- how often a ball was taken ahead of box i -/
def tk (K : Nat) (f : Nat → Bool) : Nat → Nat
  | 0 => 0
  | i + 1 => tk K f i + if f i && decide (ld K f i < K) then 1 else 0
/-- balls ahead of box i -/
def cn (f : Nat → Bool) : Nat → Nat
  | 0 => 0
  | i + 1 => cn f i + if f i then 1 else 0

theorem ld_zero (K : Nat) (f : Nat → Bool) : ld K f 0 = 0 := rfl
theorem ld_succ (K : Nat) (f : Nat → Bool) (i : Nat) : ld K f (i + 1) = nx K (f i) (ld K f i) := rfl
theorem nx_le (K : Nat) (b : Bool) (u : Nat) (h : u ≤ K) : nx K b u ≤ K := by unfold nx; split <;> (try split) <;> omega
theorem nx_bd (K : Nat) (b : Bool) (u : Nat) : nx K b u ≤ u + 1 ∧ u ≤ nx K b u + 1 := by unfold nx; split <;> (try split) <;> omega
theorem ld_le (K : Nat) (f : Nat → Bool) (i : Nat) : ld K f i ≤ K := by
  induction i with
  | zero => exact Nat.zero_le _
  | succ i ih => exact nx_le K _ _ ih
theorem ld_le_cn (K : Nat) (f : Nat → Bool) (i : Nat) : ld K f i ≤ cn f i := by
  induction i with
  | zero => exact Nat.zero_le _
  | succ i ih => show nx K _ _ ≤ cn f i + _; unfold nx; cases f i <;> simp <;> (try split) <;> omega
theorem cn_le (f : Nat → Bool) (i : Nat) : cn f i ≤ i := by
  induction i with
  | zero => exact Nat.zero_le _
  | succ i ih => show cn f i + _ ≤ _; cases f i <;> simp <;> omega
theorem ld_le_i (K : Nat) (f : Nat → Bool) (i : Nat) : ld K f i ≤ i := Nat.le_trans (ld_le_cn K f i) (cn_le f i)

/-- rows that are alike up to a box -/
theorem ld_congr {K : Nat} {f g : Nat → Bool} {n : Nat} (h : ∀ i, i < n → f i = g i) : ∀ i, i ≤ n → ld K f i = ld K g i := by
  intro i
  induction i with
  | zero => intro _; rfl
  | succ i ih => intro hi; rw [ld_succ, ld_succ, ih (by omega), h i (by omega)]
theorem tk_congr {K : Nat} {f g : Nat → Bool} {n : Nat} (h : ∀ i, i < n → f i = g i) : ∀ i, i ≤ n → tk K f i = tk K g i := by
  intro i
  induction i with
  | zero => intro _; rfl
  | succ i ih => intro hi; show tk K f i + _ = tk K g i + _; rw [ih (by omega), h i (by omega), ld_congr h i (by omega)]
theorem cn_congr {f g : Nat → Bool} {n : Nat} (h : ∀ i, i < n → f i = g i) : ∀ i, i ≤ n → cn f i = cn g i := by
  intro i
  induction i with
  | zero => intro _; rfl
  | succ i ih => intro hi; show cn f i + _ = cn g i + _; rw [ih (by omega), h i (by omega)]
theorem tr_congr {K : Nat} {f g : Nat → Bool} (h : ∀ i, f i = g i) (i : Nat) : tr K f i = tr K g i := by
  have : f = g := funext h
  rw [this]

/-- behind the last ball -/
theorem ld_tail {K : Nat} {f : Nat → Bool} {n : Nat} (h : ∀ i, n ≤ i → f i = false) (j : Nat) : ld K f (n + j) = ld K f n - j := by
  induction j with
  | zero => rfl
  | succ j ih => rw [← Nat.add_assoc, ld_succ, h (n + j) (by omega), ih]; simp [nx]; omega
theorem ld_end {K : Nat} {f : Nat → Bool} {n : Nat} (h : ∀ i, n ≤ i → f i = false) (i : Nat) (hi : 2 * n ≤ i) : ld K f i = 0 := by
  have := ld_tail (K := K) h (i - n)
  rw [show n + (i - n) = i by omega] at this
  have := ld_le_i K f n
  omega
theorem tr_end {K : Nat} {f : Nat → Bool} {n : Nat} (h : ∀ i, n ≤ i → f i = false) (i : Nat) (hi : 2 * n ≤ i) : tr K f i = false := by
  unfold tr; rw [h i (by omega), ld_end h i hi]; rfl
theorem tk_tail {K : Nat} {f : Nat → Bool} {n : Nat} (h : ∀ i, n ≤ i → f i = false) (j : Nat) : tk K f (n + j) = tk K f n := by
  induction j with
  | zero => rfl
  | succ j ih =>
    have e : tk K f (n + (j + 1)) = tk K f (n + j) + if f (n + j) && decide (ld K f (n + j) < K) then 1 else 0 := rfl
    rw [e, h (n + j) (by omega), ih]; simp
theorem cn_tail {f : Nat → Bool} {n : Nat} (h : ∀ i, n ≤ i → f i = false) (j : Nat) : cn f (n + j) = cn f n := by
  induction j with
  | zero => rfl
  | succ j ih =>
    have e : cn f (n + (j + 1)) = cn f (n + j) + if f (n + j) then 1 else 0 := rfl
    rw [e, h (n + j) (by omega), ih]; simp

/-- no ball is lost -/
theorem cn_tr (K : Nat) (f : Nat → Bool) (i : Nat) : cn (tr K f) i + ld K f i = cn f i := by
  induction i with
  | zero => rfl
  | succ i ih =>
    show cn (tr K f) i + _ + nx K _ _ = cn f i + _
    have := ld_le K f i
    unfold tr ot nx at *
    cases f i <;> simp <;> (try split) <;> (try split) <;> omega

/-- a box is done back -/
theorem nx_back (K : Nat) (b : Bool) (u : Nat) (h : u ≤ K) : nx K (ot K b u) (nx K b u) = u := by
  unfold nx ot; cases b <;> simp <;> (repeat' split) <;> (try simp at *) <;> omega
theorem ot_back (K : Nat) (b : Bool) (u : Nat) (h : u ≤ K) : ot K (ot K b u) (nx K b u) = b := by
  unfold nx ot; cases b <;> by_cases h0 : 0 < u <;> by_cases h1 : u < K <;> simp [h0, h1] <;> omega
/-- the boxes below n in the opposite order -/
def rv (n : Nat) (g : Nat → Bool) (j : Nat) : Bool := if j < n then g (n - 1 - j) else false
theorem ld_back {K : Nat} {f : Nat → Bool} {n : Nat} (h0 : ld K f n = 0) : ∀ j, j ≤ n → ld K (rv n (tr K f)) j = ld K f (n - j) := by
  intro j
  induction j with
  | zero => intro _; exact h0.symm
  | succ j ih =>
    intro hj
    rw [ld_succ, ih (by omega)]
    have e : n - j = (n - 1 - j) + 1 := by omega
    rw [show n - (j + 1) = n - 1 - j by omega]
    show nx K (rv n (tr K f) j) _ = _
    rw [rv, if_pos (by omega), e, ld_succ]
    exact nx_back K _ _ (ld_le K f _)
theorem tr_back {K : Nat} {f : Nat → Bool} {n : Nat} (h0 : ld K f n = 0) (j : Nat) (hj : j < n) : tr K (rv n (tr K f)) j = f (n - 1 - j) := by
  have h1 := ld_back h0 j (by omega)
  unfold tr at h1 ⊢
  rw [h1, rv, if_pos hj, show n - j = (n - 1 - j) + 1 by omega, ld_succ]
  exact ot_back K _ _ (ld_le K f _)
/-- empty boxes ahead change nothing -/
theorem ld_lead {K : Nat} {f g : Nat → Bool} {d : Nat} (h0 : ∀ i, i < d → g i = false) (h : ∀ i, g (d + i) = f i) (i : Nat) : ld K g (d + i) = ld K f i := by
  induction i with
  | zero =>
    have : ∀ j, j ≤ d → ld K g j = 0 := by
      intro j
      induction j with
      | zero => intro _; rfl
      | succ j ih => intro hj; rw [ld_succ, ih (by omega), h0 j (by omega)]; rfl
    exact this d (Nat.le_refl _)
  | succ i ih => rw [← Nat.add_assoc, ld_succ, ld_succ, ih, h i]
theorem tr_lead {K : Nat} {f g : Nat → Bool} {d : Nat} (h0 : ∀ i, i < d → g i = false) (h : ∀ i, g (d + i) = f i) (i : Nat) : tr K g (d + i) = tr K f i := by
  unfold tr; rw [ld_lead h0 h, h]
theorem tr_lead0 {K : Nat} {g : Nat → Bool} {d : Nat} (h0 : ∀ i, i < d → g i = false) (i : Nat) (hi : i < d) : tr K g i = false := by
  unfold tr
  have := ld_lead (K := K) (d := i) (g := g) (f := fun j => g (i + j)) (fun j hj => h0 j (by omega)) (fun j => rfl) 0
  rw [Nat.add_zero] at this
  rw [this, h0 i hi]; rfl
theorem rv_pad {g : Nat → Bool} {n N : Nat} (hn : n ≤ N) (h : ∀ i, n ≤ i → g i = false) : (∀ i, i < N - n → rv N g i = false) ∧ ∀ i, rv N g (N - n + i) = rv n g i := by
  refine ⟨fun i hi => ?_, fun i => ?_⟩
  · unfold rv; rw [if_pos (by omega)]; exact h _ (by omega)
  · unfold rv
    by_cases hi : i < n
    · rw [if_pos (by omega), if_pos hi, show N - 1 - (N - n + i) = n - 1 - i by omega]
    · rw [if_neg (by omega), if_neg hi]
/-- the load of a carrier that goes back, at box 0; and what it leaves -/
def bkL (K : Nat) (g : Nat → Bool) (n : Nat) : Nat := ld K (rv n g) n
def bkF (K : Nat) (g : Nat → Bool) (n : Nat) : Nat → Bool := rv n (tr K (rv n g))
theorem bkL_pad {K : Nat} {g : Nat → Bool} {n N : Nat} (hn : n ≤ N) (h : ∀ i, n ≤ i → g i = false) : bkL K g N = bkL K g n := by
  obtain ⟨h1, h2⟩ := rv_pad hn h
  have := ld_lead (K := K) h1 h2 n
  rw [show N - n + n = N by omega] at this
  exact this
theorem bkF_pad {K : Nat} {g : Nat → Bool} {n N : Nat} (hn : n ≤ N) (h : ∀ i, n ≤ i → g i = false) (i : Nat) : bkF K g N i = bkF K g n i := by
  obtain ⟨h1, h2⟩ := rv_pad hn h
  unfold bkF
  by_cases hi : i < n
  · have e1 : rv N (tr K (rv N g)) i = tr K (rv N g) (N - 1 - i) := by rw [rv, if_pos (by omega)]
    have e2 : rv n (tr K (rv n g)) i = tr K (rv n g) (n - 1 - i) := by rw [rv, if_pos (by omega)]
    have := tr_lead (K := K) h1 h2 (n - 1 - i)
    rw [show N - n + (n - 1 - i) = N - 1 - i by omega] at this
    rw [e1, e2, this]
  · have e2 : rv n (tr K (rv n g)) i = false := by rw [rv, if_neg hi]
    rw [e2]
    by_cases hi2 : i < N
    · have e1 : rv N (tr K (rv N g)) i = tr K (rv N g) (N - 1 - i) := by rw [rv, if_pos (by omega)]
      rw [e1]; exact tr_lead0 h1 _ (by omega)
    · rw [rv, if_neg hi2]
/-- P10: what a step left leads back -/
theorem back_step {K : Nat} {f : Nat → Bool} {n m : Nat} (hf : ∀ i, n ≤ i → f i = false) (hm : ∀ i, m ≤ i → tr K f i = false) : bkL K (tr K f) m = 0 ∧ ∀ i, bkF K (tr K f) m i = f i := by
  have hN := ld_end (K := K) hf (2 * n + m) (by omega)
  constructor
  · rw [← bkL_pad (N := 2 * n + m) (by omega) hm]
    have := ld_back hN (2 * n + m) (Nat.le_refl _)
    rw [Nat.sub_self] at this
    exact this
  · intro i
    rw [← bkF_pad (N := 2 * n + m) (by omega) hm]
    unfold bkF
    by_cases hi : i < 2 * n + m
    · rw [rv, if_pos hi, tr_back hN _ (by omega), show 2 * n + m - 1 - (2 * n + m - 1 - i) = i by omega]
    · rw [rv, if_neg hi, hf i (by omega)]
/-- P16: back and forward -/
theorem step_back {K : Nat} {g : Nat → Bool} {n : Nat} (hg : ∀ i, n ≤ i → g i = false) (h0 : bkL K g n = 0) (i : Nat) : tr K (bkF K g n) i = g i := by
  unfold bkL at h0
  unfold bkF
  by_cases hi : i < n
  · rw [tr_back h0 i hi, rv, if_pos (by omega), show n - 1 - (n - 1 - i) = i by omega]
  · have h1 := ld_back h0 n (Nat.le_refl _)
    rw [Nat.sub_self, ld_zero] at h1
    have h2 := ld_tail (K := K) (f := rv n (tr K (rv n g))) (n := n) (fun j hj => by rw [rv, if_neg (by omega)]) (i - n)
    rw [h1, show n + (i - n) = i by omega] at h2
    have h3 : ld K (rv n (tr K (rv n g))) i = 0 := by omega
    have h4 : rv n (tr K (rv n g)) i = false := by rw [rv, if_neg hi]
    unfold tr at h3 h4 ⊢
    rw [h3, h4, hg i (by omega)]; rfl

set_option maxHeartbeats 2000000 in
/-- P11, P13: two carriers with rooms K and L, the one behind the other, in both orders: one box -/
theorem two_step (K L u v a b : Nat) (x : Bool) (hK : 1 ≤ K) (hL : 1 ≤ L) (hu : u ≤ K) (hv : v ≤ L) (hb : b + min (K - u) v = v + min u (L - v)) (hab : a + b = u + v) :
    ot L (ot K x u) v = ot K (ot L x b) a ∧
    nx L x b + min (K - nx K x u) (nx L (ot K x u) v) = nx L (ot K x u) v + min (nx K x u) (L - nx L (ot K x u) v) ∧
    nx K (ot L x b) a + nx L x b = nx K x u + nx L (ot K x u) v ∧
    (if x && decide (u < K) then 1 else 0) + min u (L - v) = (if ot L x b && decide (a < K) then 1 else 0) + min (nx K x u) (L - nx L (ot K x u) v) := by
  have ha : a ≤ K := by omega
  have hb2 : b ≤ L := by omega
  cases x
  · by_cases h1 : 0 < u <;> by_cases h2 : 0 < b <;> by_cases h3 : v < L <;> by_cases h4 : a < K <;> by_cases h5 : 0 < v <;> by_cases h6 : 0 < a <;>
      simp only [nx, ot, h1, h2, h3, h4, h5, h6, decide_true, decide_false, if_true, Bool.false_eq_true, if_false, Bool.not_true, Bool.not_false, Bool.false_and, Bool.true_and] <;>
      refine ⟨?_, ?_, ?_, ?_⟩ <;> first | rfl | trivial | (exfalso; omega) | omega
  · by_cases h1 : u < K <;> by_cases h2 : b < L <;> by_cases h3 : v < L <;> by_cases h4 : a < K <;> by_cases h5 : 0 < v <;> by_cases h6 : 0 < a <;>
      simp only [nx, ot, h1, h2, h3, h4, h5, h6, decide_true, decide_false, if_true, Bool.false_eq_true, if_false, Bool.not_true, Bool.not_false, Bool.false_and, Bool.true_and] <;>
      refine ⟨?_, ?_, ?_, ?_⟩ <;> first | rfl | trivial | (exfalso; omega) | omega
theorem two (K L : Nat) (f : Nat → Bool) (hK : 1 ≤ K) (hL : 1 ≤ L) (i : Nat) :
    ld L f i + min (K - ld K f i) (ld L (tr K f) i) = ld L (tr K f) i + min (ld K f i) (L - ld L (tr K f) i) ∧
    ld K (tr L f) i + ld L f i = ld K f i + ld L (tr K f) i ∧
    tk K f i = tk K (tr L f) i + min (ld K f i) (L - ld L (tr K f) i) := by
  induction i with
  | zero => simp [ld, tk]
  | succ i ih =>
    obtain ⟨h1, h2, h3⟩ := ih
    obtain ⟨g1, g2, g3, g4⟩ := two_step K L (ld K f i) (ld L (tr K f) i) (ld K (tr L f) i) (ld L f i) (f i) hK hL (ld_le _ _ _) (ld_le _ _ _) h1 h2
    refine ⟨g2, g3, ?_⟩
    show tk K f i + _ = tk K (tr L f) i + (if tr L f i && decide (ld K (tr L f) i < K) then 1 else 0) + min (nx K (f i) (ld K f i)) (L - nx L (tr K f i) (ld L (tr K f) i))
    have e1 : tr L f i = ot L (f i) (ld L f i) := rfl
    have e2 : tr K f i = ot K (f i) (ld K f i) := rfl
    rw [← e1, ← e2] at g4
    omega
theorem tr_swap (K L : Nat) (f : Nat → Bool) (hK : 1 ≤ K) (hL : 1 ≤ L) (i : Nat) : tr L (tr K f) i = tr K (tr L f) i := by
  obtain ⟨h1, h2, h3⟩ := two K L f hK hL i
  exact (two_step K L (ld K f i) (ld L (tr K f) i) (ld K (tr L f) i) (ld L f i) (f i) hK hL (ld_le _ _ _) (ld_le _ _ _) h1 h2).1
theorem tk_kept (K L : Nat) (f : Nat → Bool) (hK : 1 ≤ K) (hL : 1 ≤ L) (i : Nat) (h : ld K f i = 0) : tk K (tr L f) i = tk K f i := by
  obtain ⟨h1, h2, h3⟩ := two K L f hK hL i
  rw [h] at h3
  omega

/-- P15: three carriers with rooms K, K + 1, K + 2 -/
theorem three (K : Nat) (f : Nat → Bool) (i : Nat) :
    ld K f i ≤ ld (K + 1) f i ∧ ld (K + 1) f i ≤ ld (K + 2) f i ∧ ld (K + 1) f i ≤ ld K f i + 1 ∧ ld (K + 2) f i ≤ ld (K + 1) f i + 1 ∧
    tk (K + 2) f i + tk K f i + (if ld (K + 1) f i = ld K f i + 1 ∧ ld (K + 2) f i = ld (K + 1) f i then 1 else 0) ≤ 2 * tk (K + 1) f i ∧
    tk K f i + (ld (K + 1) f i - ld K f i) ≤ tk (K + 1) f i := by
  induction i with
  | zero => simp [ld, tk]
  | succ i ih =>
    have l0 := ld_le K f i
    have l1 := ld_le (K + 1) f i
    have l2 := ld_le (K + 2) f i
    obtain ⟨h1, h2, h3, h4, h5, h6⟩ := ih
    show nx K _ _ ≤ nx (K + 1) _ _ ∧ nx (K + 1) _ _ ≤ nx (K + 2) _ _ ∧ nx (K + 1) _ _ ≤ nx K _ _ + 1 ∧ nx (K + 2) _ _ ≤ nx (K + 1) _ _ + 1 ∧ tk (K + 2) f i + _ + (tk K f i + _) + (if nx (K + 1) _ _ = nx K _ _ + 1 ∧ nx (K + 2) _ _ = nx (K + 1) _ _ then 1 else 0) ≤ 2 * (tk (K + 1) f i + _) ∧ tk K f i + _ + (nx (K + 1) _ _ - nx K _ _) ≤ tk (K + 1) f i + _
    generalize ld K f i = u at *
    generalize ld (K + 1) f i = v at *
    generalize ld (K + 2) f i = w at *
    generalize tk K f i = p at *
    generalize tk (K + 1) f i = q at *
    generalize tk (K + 2) f i = r at *
    unfold nx
    by_cases c1 : v = u + 1 ∧ w = v
    · rw [if_pos c1] at h5
      cases f i <;> by_cases g0 : u < K <;> by_cases g1 : v < K + 1 <;> by_cases g2 : w < K + 2 <;> simp [g0, g1, g2] <;> (repeat' split) <;> omega
    · rw [if_neg c1] at h5
      cases f i <;> by_cases g0 : u < K <;> by_cases g1 : v < K + 1 <;> by_cases g2 : w < K + 2 <;> simp [g0, g1, g2] <;> (repeat' split) <;> omega
theorem tk_all (K : Nat) (f : Nat → Bool) (i : Nat) (h : i ≤ K) : tk K f i = cn f i := by
  induction i with
  | zero => rfl
  | succ i ih =>
    show tk K f i + _ = cn f i + _
    rw [ih (by omega)]
    have := ld_le_i K f i
    have h2 : decide (ld K f i < K) = true := by simp; omega
    rw [h2, Bool.and_true]
end Go.Proofs.Ytlgceccbjkkeiab

/- PLAIN FACTS on rows of signs, for the walks of chapter 1: nothing of the program is named here. -/
namespace Go.Proofs.Ytlgceccbjkkeiab

open Go.RowKit in
theorem hide {p : Prop} (h : p) : Hid p := h
/-- a sign of a row -/
def sgn (c : UInt8) : Bool := c == 48 || c == 49
/-- all bytes are signs -/
def allSgn (l : List UInt8) : Bool := l.all sgn
/-- a row: signs alone, at most 120 -/
def vld (s : ByteArray) : Bool := allSgn s.data.toList && decide (s.size ≤ 120)

theorem take_snoc (s : ByteArray) (k : Nat) (h : k < s.size) : s.data.toList.take (k + 1) = s.data.toList.take k ++ [s[k]] := by
  rw [List.take_succ_eq_append_getElem (by simpa using h)]; rfl
theorem sgn_of (c : UInt8) : sgn c = decide ((c.toNat : Int) = 48 ∨ (c.toNat : Int) = 49) := by
  unfold sgn
  rw [Bool.eq_iff_iff]
  simp [← UInt8.toNat_inj]
  omega
theorem allSgn_snoc (s : ByteArray) (k : Nat) (h : k < s.size) (g : allSgn (s.data.toList.take k) = true) (hc : (s[k].toNat : Int) = 48 ∨ (s[k].toNat : Int) = 49) :
    allSgn (s.data.toList.take (k + 1)) = true := by
  rw [take_snoc s k h]; unfold allSgn at g ⊢; rw [List.all_append, g]; simp [sgn_of, hc]
theorem vld_bad (s : ByteArray) (k : Nat) (h : k < s.size) (hc : ¬((s[k].toNat : Int) = 48 ∨ (s[k].toNat : Int) = 49)) : vld s = false := by
  unfold vld allSgn
  have : s.data.toList.all sgn = false := by
    rw [List.all_eq_false]
    exact ⟨s[k], by exact List.getElem_mem (l := s.data.toList) (by simpa using h), by rw [sgn_of]; simpa using hc⟩
  rw [this]; rfl
theorem vld_good (s : ByteArray) (k : Nat) (h : k = s.size) (g : allSgn (s.data.toList.take k) = true) : vld s = decide (s.size ≤ 120) := by
  unfold vld
  rw [List.take_of_length_le (by simp [h])] at g
  rw [g]; rfl
end Go.Proofs.Ytlgceccbjkkeiab

/- THE WALKS of RowValid, of the model and of the program: both answer 'vld s'. -/
namespace Go.Proofs.Ytlgceccbjkkeiab
open Go.RowKit

theorem ret_bool {a b : Bool} (h : a = b) : Ending.returned (.bool a) = .returned (.bool b) := by rw [h]

set_option maxHeartbeats 400000 in
theorem specRowValid_any (s : ByteArray) (w : World) (hs : s.size ≤ maxLen) :
    Calls Try.prog 24 #[.string s] w fun e w' => e = .returned (.bool (vld s)) ∧ w = w' := by
  unfold maxLen at hs
  go_enter Try.func24, Try.ntmps24
  go_wp2
  go_loop [3] (fun i => ∃ k : Nat, k ≤ s.size ∧ i = .int .i64 k ∧ Hid (allSgn (s.data.toList.take k) = true)) (fun i => s.size - (Go.RowKit.intOf i).toNat)
  case atStart => exact ⟨0, Nat.zero_le _, rfl, rfl⟩
  case round =>
    obtain ⟨k, hk, rfl, HA⟩ := hrel
    by_cases hlt : k < s.size
    · by_cases hc : (s[k].toNat : Int) = 48 ∨ (s[k].toNat : Int) = 49
      · have HC := hide hc
        rcases hc with hc | hc
        · have h1 : ((s[k].toNat : Int) != 48) = false := by simp [hc]
          clear hc
          go_wp2
          go_round
          case rel => exact ⟨k + 1, by omega, by go_num, allSgn_snoc s k hlt HA.out HC.out⟩
          case measure => simp [Go.RowKit.intOf]; omega
        · have h1 : ((s[k].toNat : Int) != 48) = true := by simp [hc]
          have h2 : ((s[k].toNat : Int) != 49) = false := by simp [hc]
          clear hc
          go_wp2
          go_round
          case rel => exact ⟨k + 1, by omega, by go_num, allSgn_snoc s k hlt HA.out HC.out⟩
          case measure => simp [Go.RowKit.intOf]; omega
      · have HC := hide hc
        have h1 : ((s[k].toNat : Int) != 48) = true := by simp; omega
        have h2 : ((s[k].toNat : Int) != 49) = true := by simp; omega
        clear hc
        go_wp2
        go_ret
        exact ⟨ret_bool (vld_bad s k hlt HC.out).symm, rfl⟩
    · go_wp2
      go_ret
      exact ⟨ret_bool (by rw [vld_good s k (by omega) HA.out]; simp; omega), rfl⟩

set_option maxHeartbeats 400000 in
theorem implRowValid_any (s : ByteArray) (w : World) (hs : s.size ≤ maxLen) :
    Calls Try.prog 37 #[.string s] w fun e w' => e = .returned (.bool (vld s)) ∧ w = w' := by
  unfold maxLen at hs
  by_cases hbig : 120 < s.size
  · go_enter Try.func37, Try.ntmps37
    go_wp2
    go_ret
    exact ⟨ret_bool (by simp [vld]; omega), rfl⟩
  · go_enter Try.func37, Try.ntmps37
    go_wp2
    go_loop [9] (fun i => ∃ k : Nat, k ≤ s.size ∧ i = .int .i64 k ∧ Hid (allSgn (s.data.toList.take k) = true)) (fun i => s.size - (Go.RowKit.intOf i).toNat)
    case atStart => exact ⟨0, Nat.zero_le _, rfl, rfl⟩
    case round =>
      obtain ⟨k, hk, rfl, HA⟩ := hrel
      by_cases hlt : k < s.size
      · by_cases hc : (s[k].toNat : Int) = 48 ∨ (s[k].toNat : Int) = 49
        · have HC := hide hc
          rcases hc with hc | hc
          · have h1 : ((s[k].toNat : Int) != 48) = false := by simp [hc]
            clear hc
            go_wp2
            go_round
            case rel => exact ⟨k + 1, by omega, by go_num, allSgn_snoc s k hlt HA.out HC.out⟩
            case measure => simp [Go.RowKit.intOf]; omega
          · have h1 : ((s[k].toNat : Int) != 48) = true := by simp [hc]
            have h2 : ((s[k].toNat : Int) != 49) = false := by simp [hc]
            clear hc
            go_wp2
            go_round
            case rel => exact ⟨k + 1, by omega, by go_num, allSgn_snoc s k hlt HA.out HC.out⟩
            case measure => simp [Go.RowKit.intOf]; omega
        · have HC := hide hc
          have h1 : ((s[k].toNat : Int) != 48) = true := by simp; omega
          have h2 : ((s[k].toNat : Int) != 49) = true := by simp; omega
          clear hc
          go_wp2
          go_ret
          exact ⟨ret_bool (vld_bad s k hlt HC.out).symm, rfl⟩
      · go_wp2
        go_ret
        exact ⟨ret_bool (by rw [vld_good s k (by omega) HA.out]; simp; omega), rfl⟩
end Go.Proofs.Ytlgceccbjkkeiab

/- CELLS OF ONE BLOCK THAT HOLD A LIST, none frozen: small laws; and rows as lists of Bools. Nothing of the program is named here. -/
namespace Go.Proofs.Ytlgceccbjkkeiab
open Go.RowKit

/-- block g's first cells hold the list, none of them frozen -/
def CellsAt (w : World) (g : Nat) (l : List Value) : Prop := ∀ j v, l[j]? = some v → w.cell? ⟨g, j, none⟩ = some v ∧ w.frozen? ⟨g, j, none⟩ = false

theorem CellsAt.cell {w : World} {g : Nat} {l : List Value} (h : CellsAt w g l) (j : Nat) (v : Value) (hv : l[j]? = some v) : w.cell? ⟨g, j, none⟩ = some v := (h j v hv).1
theorem CellsAt.lt {w : World} {g : Nat} {l : List Value} (h : CellsAt w g l) (hl : 0 < l.length) : g < w.heap.size := by
  have := (h 0 l[0] (by simp [hl])).1
  exact World.block_lt_of_cell? w _ this
theorem CellsAt.below {w w' : World} {g B : Nat} {l : List Value} (h : CellsAt w g l) (hb : Below B w w') (hg : g < B) : CellsAt w' g l := by
  intro j v hv
  obtain ⟨a, b⟩ := h j v hv
  exact ⟨(hb.cell (p := ⟨g, j, none⟩) hg).trans a, (hb.frozen (p := ⟨g, j, none⟩) hg).trans b⟩
/-- an empty list or a block below: what lies below is kept -/
theorem CellsAt.below' {w w' : World} {g B : Nat} {l : List Value} (h : CellsAt w g l) (hb : Below B w w') (hB : w.heap.size ≤ B) : CellsAt w' g l := by
  by_cases hl : 0 < l.length
  · exact h.below hb (by have := h.lt hl; omega)
  · have : l = [] := List.eq_nil_of_length_eq_zero (by omega)
    subst this
    intro j v hv; simp at hv
theorem CellsAt.set {w : World} {g : Nat} {l : List Value} (h : CellsAt w g l) (k : Nat) (hk : k < l.length) (u : Value) : CellsAt (w.setCell ⟨g, k, none⟩ u) g (l.set k u) := by
  intro j v hv
  rw [List.getElem?_set] at hv
  by_cases e : k = j
  · subst e
    simp [hk] at hv
    subst hv
    obtain ⟨a, b⟩ := h k l[k] (by simp [hk])
    exact ⟨World.cell?_setCell_same' _ _ _ (by rw [a]; rfl), by rw [World.frozen?_setCell]; exact b⟩
  · simp [e] at hv
    obtain ⟨a, b⟩ := h j v hv
    exact ⟨by rw [World.cell?_setCell_other _ _ _ _ (by intro h; injection h with _ h2; exact e h2)]; exact a, by rw [World.frozen?_setCell]; exact b⟩
theorem CellsAt.far {w : World} {g : Nat} {l : List Value} (h : CellsAt w g l) (p : Addr) (hp : p.block ≠ g) (u : Value) : CellsAt (w.setCell p u) g l := by
  intro j v hv
  obtain ⟨a, b⟩ := h j v hv
  exact ⟨by rw [World.cell?_setCell_other _ _ _ _ (by intro h; exact hp (by rw [h]))]; exact a, by rw [World.frozen?_setCell]; exact b⟩
theorem CellsAt.alloc {w : World} {g : Nat} {l : List Value} (h : CellsAt w g l) (o : Obj) : CellsAt (w.alloc o) g l := h.below' ((Below.refl w.heap.size w).alloc (Nat.le_refl _) o) (Nat.le_refl _)
theorem CellsAt.of_owns {w : World} {base e g n cap : Nat} {xs : List Value} (h : w.ownsRow base e 1 (.slice (some ⟨g, 0, none⟩) n cap) n xs) : CellsAt w g xs := by
  intro j v hv
  have hl : j < n * 1 := by have := h.1; have := (List.getElem?_eq_some_iff.1 hv).1; omega
  exact ⟨by rw [h.cellAt j hl]; exact hv, h.frozenAt j⟩

/-- the boxes of a text: has it a ball? -/
def bits (s : ByteArray) : List Bool := s.data.toList.map (· == 49)
/-- the number of boxes up to the last ball -/
def tl (l : List Bool) : Nat := (l.reverse.dropWhile (! ·)).length
theorem length_bits (s : ByteArray) : (bits s).length = s.size := by simp [bits]
theorem bits_getElem (s : ByteArray) (k : Nat) (h : k < s.size) : (bits s)[k]? = some (s[k] == 49) := by
  simp [bits, h]; rfl
theorem bit_int (c : UInt8) : (c == 49) = ((c.toNat : Int) == 49) := by
  rw [Bool.eq_iff_iff]; simp [← UInt8.toNat_inj]; omega
theorem bits_step (s : ByteArray) (xs : List Bool) (k : Nat) (h : k < s.size) (hx : xs.length = s.size) (ht : xs.take k = (bits s).take k) :
    (xs.set k (s[k] == 49)).take (k + 1) = (bits s).take (k + 1) := by
  have hb : k < (bits s).length := by rw [length_bits]; exact h
  rw [List.take_succ_eq_append_getElem (by simp; omega), List.take_succ_eq_append_getElem hb, List.take_set_of_le (Nat.le_refl _), ht]
  have e := bits_getElem s k h
  rw [List.getElem?_eq_getElem hb] at e
  simp only [Option.some.injEq] at e
  rw [e]; simp
theorem tl_le (l : List Bool) : tl l ≤ l.length := by
  unfold tl; have := (List.dropWhile_sublist (! ·) (l := l.reverse)).length_le; simpa using this
theorem tl_nil : tl [] = 0 := rfl
theorem tl_snoc (l : List Bool) (b : Bool) : tl (l ++ [b]) = if b then l.length + 1 else tl l := by
  unfold tl; cases b <;> simp
/-- going down from n: box n - 1 has none -/
theorem tl_take_pred (l : List Bool) (n : Nat) (hn : n < l.length) (h : l[n]? = some false) : tl (l.take (n + 1)) = tl (l.take n) := by
  rw [List.take_succ_eq_append_getElem hn, tl_snoc]
  have : l[n] = false := by rw [List.getElem?_eq_getElem hn] at h; simpa using h
  simp [this]
theorem tl_take_stop (l : List Bool) (n : Nat) (hn : n < l.length) (h : l[n]? = some true) : tl (l.take (n + 1)) = n + 1 := by
  rw [List.take_succ_eq_append_getElem hn, tl_snoc]
  have : l[n] = true := by rw [List.getElem?_eq_getElem hn] at h; simpa using h
  simp [this]; omega
theorem madeB (n : Nat) : (madeCells (Value.bool false).cells (n * 1)).toList = (List.replicate n false).map Value.bool := by
  rw [Nat.mul_one]; show (madeCells #[Value.bool false] n).toList = _; rw [toList_madeCells_one]; simp
theorem madeI (n : Nat) : (madeCells (Value.int .i64 0).cells (n * 1)).toList = (List.replicate n (0 : Int)).map (Value.int .i64) := by
  rw [Nat.mul_one]; show (madeCells #[Value.int .i64 0] n).toList = _; rw [toList_madeCells_one]; simp
end Go.Proofs.Ytlgceccbjkkeiab
