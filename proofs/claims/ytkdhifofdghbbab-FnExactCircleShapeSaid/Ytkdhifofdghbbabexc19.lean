/- TEXTS Carry, Repeat. -/
import Derived.WalkKit
import Derived.Test.YtkdhifofdghbbabShelf
import Derived.Test.Ytkdhifofdghbbabexc03
import Derived.Test.YtkdhifofdghbbabChecked
import Derived.Lib.SlBuf
import Derived.Lib.MakeNoZero
import Derived.Deep.RegionLaw
import Derived.Laws.CopyOwn
import Derived.WalkSpells
import Derived.WalkLawsBesides
/- CARRIERS ON INFINITE ROWS: what a carrier with a room leaves, its loads, how often it takes; a step is done back, steps commute, energies are kept and concave. Pure: nothing of the program is named here. -/
namespace Go.Proofs.Ytkdhifofdghbbab

/-- the load behind a box -/
def nx (K : Nat) (b : Bool) (u : Nat) : Nat := if b then (if u < K then u + 1 else u) else u - 1
/-- how the box is left -/
def ot (K : Nat) (b : Bool) (u : Nat) : Bool := if b then !decide (u < K) else decide (0 < u)
/-- the load ahead of box i -/
def ld (K : Nat) (f : Nat → Bool) : Nat → Nat
  | 0 => 0
  | i + 1 => nx K (f i) (ld K f i)
/-- the row behind a step -/
def tr (K : Nat) (f : Nat → Bool) (i : Nat) : Bool := ot K (f i) (ld K f i)
/-- how often a ball was taken ahead of box i -/
def tk (K : Nat) (f : Nat → Bool) : Nat → Nat
  | 0 => 0
  | i + 1 => tk K f i + if f i && decide (ld K f i < K) then 1 else 0
/-- balls ahead of box i -/
def cn (f : Nat → Bool) : Nat → Nat
  | 0 => 0
  | i + 1 => cn f i + if f i then 1 else 0

theorem ld_zero (K : Nat) (f : Nat → Bool) : ld K f 0 = 0 := rfl
theorem ld_succ (K : Nat) (f : Nat → Bool) (i : Nat) : ld K f (i + 1) = nx K (f i) (ld K f i) := rfl
theorem nx_le (K : Nat) (b : Bool) (u : Nat) (h : u ≤ K) : nx K b u ≤ K := by unfold nx; split <;> (try split) <;> omega
theorem nx_bd (K : Nat) (b : Bool) (u : Nat) : nx K b u ≤ u + 1 ∧ u ≤ nx K b u + 1 := by unfold nx; split <;> (try split) <;> omega
theorem ld_le (K : Nat) (f : Nat → Bool) (i : Nat) : ld K f i ≤ K := by
  induction i with
  | zero => exact Nat.zero_le _
  | succ i ih => exact nx_le K _ _ ih
theorem ld_le_cn (K : Nat) (f : Nat → Bool) (i : Nat) : ld K f i ≤ cn f i := by
  induction i with
  | zero => exact Nat.zero_le _
  | succ i ih => show nx K _ _ ≤ cn f i + _; unfold nx; cases f i <;> simp <;> (try split) <;> omega
theorem cn_le (f : Nat → Bool) (i : Nat) : cn f i ≤ i := by
  induction i with
  | zero => exact Nat.zero_le _
  | succ i ih => show cn f i + _ ≤ _; cases f i <;> simp <;> omega
theorem ld_le_i (K : Nat) (f : Nat → Bool) (i : Nat) : ld K f i ≤ i := Nat.le_trans (ld_le_cn K f i) (cn_le f i)

/-- rows that are alike up to a box -/
theorem ld_congr {K : Nat} {f g : Nat → Bool} {n : Nat} (h : ∀ i, i < n → f i = g i) : ∀ i, i ≤ n → ld K f i = ld K g i := by
  intro i
  induction i with
  | zero => intro _; rfl
  | succ i ih => intro hi; rw [ld_succ, ld_succ, ih (by omega), h i (by omega)]
theorem tk_congr {K : Nat} {f g : Nat → Bool} {n : Nat} (h : ∀ i, i < n → f i = g i) : ∀ i, i ≤ n → tk K f i = tk K g i := by
  intro i
  induction i with
  | zero => intro _; rfl
  | succ i ih => intro hi; show tk K f i + _ = tk K g i + _; rw [ih (by omega), h i (by omega), ld_congr h i (by omega)]
theorem cn_congr {f g : Nat → Bool} {n : Nat} (h : ∀ i, i < n → f i = g i) : ∀ i, i ≤ n → cn f i = cn g i := by
  intro i
  induction i with
  | zero => intro _; rfl
  | succ i ih => intro hi; show cn f i + _ = cn g i + _; rw [ih (by omega), h i (by omega)]
theorem tr_congr {K : Nat} {f g : Nat → Bool} (h : ∀ i, f i = g i) (i : Nat) : tr K f i = tr K g i := by
  have : f = g := funext h
  rw [this]

/-- behind the last ball -/
theorem ld_tail {K : Nat} {f : Nat → Bool} {n : Nat} (h : ∀ i, n ≤ i → f i = false) (j : Nat) : ld K f (n + j) = ld K f n - j := by
  induction j with
  | zero => rfl
  | succ j ih => rw [← Nat.add_assoc, ld_succ, h (n + j) (by omega), ih]; simp [nx]; omega
theorem ld_end {K : Nat} {f : Nat → Bool} {n : Nat} (h : ∀ i, n ≤ i → f i = false) (i : Nat) (hi : 2 * n ≤ i) : ld K f i = 0 := by
  have := ld_tail (K := K) h (i - n)
  rw [show n + (i - n) = i by omega] at this
  have := ld_le_i K f n
  omega
theorem tr_end {K : Nat} {f : Nat → Bool} {n : Nat} (h : ∀ i, n ≤ i → f i = false) (i : Nat) (hi : 2 * n ≤ i) : tr K f i = false := by
  unfold tr; rw [h i (by omega), ld_end h i hi]; rfl
theorem tk_tail {K : Nat} {f : Nat → Bool} {n : Nat} (h : ∀ i, n ≤ i → f i = false) (j : Nat) : tk K f (n + j) = tk K f n := by
  induction j with
  | zero => rfl
  | succ j ih =>
    have e : tk K f (n + (j + 1)) = tk K f (n + j) + if f (n + j) && decide (ld K f (n + j) < K) then 1 else 0 := rfl
    rw [e, h (n + j) (by omega), ih]; simp
theorem cn_tail {f : Nat → Bool} {n : Nat} (h : ∀ i, n ≤ i → f i = false) (j : Nat) : cn f (n + j) = cn f n := by
  induction j with
  | zero => rfl
  | succ j ih =>
    have e : cn f (n + (j + 1)) = cn f (n + j) + if f (n + j) then 1 else 0 := rfl
    rw [e, h (n + j) (by omega), ih]; simp

/-- no ball is lost -/
theorem cn_tr (K : Nat) (f : Nat → Bool) (i : Nat) : cn (tr K f) i + ld K f i = cn f i := by
  induction i with
  | zero => rfl
  | succ i ih =>
    show cn (tr K f) i + _ + nx K _ _ = cn f i + _
    have := ld_le K f i
    unfold tr ot nx at *
    cases f i <;> simp <;> (try split) <;> (try split) <;> omega

/-- a box is done back -/
theorem nx_back (K : Nat) (b : Bool) (u : Nat) (h : u ≤ K) : nx K (ot K b u) (nx K b u) = u := by
  unfold nx ot; cases b <;> simp <;> (repeat' split) <;> (try simp at *) <;> omega
theorem ot_back (K : Nat) (b : Bool) (u : Nat) (h : u ≤ K) : ot K (ot K b u) (nx K b u) = b := by
  unfold nx ot; cases b <;> by_cases h0 : 0 < u <;> by_cases h1 : u < K <;> simp [h0, h1] <;> omega
/-- the boxes below n in the opposite order -/
def rv (n : Nat) (g : Nat → Bool) (j : Nat) : Bool := if j < n then g (n - 1 - j) else false
theorem ld_back {K : Nat} {f : Nat → Bool} {n : Nat} (h0 : ld K f n = 0) : ∀ j, j ≤ n → ld K (rv n (tr K f)) j = ld K f (n - j) := by
  intro j
  induction j with
  | zero => intro _; exact h0.symm
  | succ j ih =>
    intro hj
    rw [ld_succ, ih (by omega)]
    have e : n - j = (n - 1 - j) + 1 := by omega
    rw [show n - (j + 1) = n - 1 - j by omega]
    show nx K (rv n (tr K f) j) _ = _
    rw [rv, if_pos (by omega), e, ld_succ]
    exact nx_back K _ _ (ld_le K f _)
theorem tr_back {K : Nat} {f : Nat → Bool} {n : Nat} (h0 : ld K f n = 0) (j : Nat) (hj : j < n) : tr K (rv n (tr K f)) j = f (n - 1 - j) := by
  have h1 := ld_back h0 j (by omega)
  unfold tr at h1 ⊢
  rw [h1, rv, if_pos hj, show n - j = (n - 1 - j) + 1 by omega, ld_succ]
  exact ot_back K _ _ (ld_le K f _)
/-- empty boxes ahead change nothing -/
theorem ld_lead {K : Nat} {f g : Nat → Bool} {d : Nat} (h0 : ∀ i, i < d → g i = false) (h : ∀ i, g (d + i) = f i) (i : Nat) : ld K g (d + i) = ld K f i := by
  induction i with
  | zero =>
    have : ∀ j, j ≤ d → ld K g j = 0 := by
      intro j
      induction j with
      | zero => intro _; rfl
      | succ j ih => intro hj; rw [ld_succ, ih (by omega), h0 j (by omega)]; rfl
    exact this d (Nat.le_refl _)
  | succ i ih => rw [← Nat.add_assoc, ld_succ, ld_succ, ih, h i]
theorem tr_lead {K : Nat} {f g : Nat → Bool} {d : Nat} (h0 : ∀ i, i < d → g i = false) (h : ∀ i, g (d + i) = f i) (i : Nat) : tr K g (d + i) = tr K f i := by
  unfold tr; rw [ld_lead h0 h, h]
theorem tr_lead0 {K : Nat} {g : Nat → Bool} {d : Nat} (h0 : ∀ i, i < d → g i = false) (i : Nat) (hi : i < d) : tr K g i = false := by
  unfold tr
  have := ld_lead (K := K) (d := i) (g := g) (f := fun j => g (i + j)) (fun j hj => h0 j (by omega)) (fun j => rfl) 0
  rw [Nat.add_zero] at this
  rw [this, h0 i hi]; rfl
theorem rv_pad {g : Nat → Bool} {n N : Nat} (hn : n ≤ N) (h : ∀ i, n ≤ i → g i = false) : (∀ i, i < N - n → rv N g i = false) ∧ ∀ i, rv N g (N - n + i) = rv n g i := by
  refine ⟨fun i hi => ?_, fun i => ?_⟩
  · unfold rv; rw [if_pos (by omega)]; exact h _ (by omega)
  · unfold rv
    by_cases hi : i < n
    · rw [if_pos (by omega), if_pos hi, show N - 1 - (N - n + i) = n - 1 - i by omega]
    · rw [if_neg (by omega), if_neg hi]
/-- the load of a carrier that goes back, at box 0; and what it leaves -/
def bkL (K : Nat) (g : Nat → Bool) (n : Nat) : Nat := ld K (rv n g) n
def bkF (K : Nat) (g : Nat → Bool) (n : Nat) : Nat → Bool := rv n (tr K (rv n g))
theorem bkL_pad {K : Nat} {g : Nat → Bool} {n N : Nat} (hn : n ≤ N) (h : ∀ i, n ≤ i → g i = false) : bkL K g N = bkL K g n := by
  obtain ⟨h1, h2⟩ := rv_pad hn h
  have := ld_lead (K := K) h1 h2 n
  rw [show N - n + n = N by omega] at this
  exact this
theorem bkF_pad {K : Nat} {g : Nat → Bool} {n N : Nat} (hn : n ≤ N) (h : ∀ i, n ≤ i → g i = false) (i : Nat) : bkF K g N i = bkF K g n i := by
  obtain ⟨h1, h2⟩ := rv_pad hn h
  unfold bkF
  by_cases hi : i < n
  · have e1 : rv N (tr K (rv N g)) i = tr K (rv N g) (N - 1 - i) := by rw [rv, if_pos (by omega)]
    have e2 : rv n (tr K (rv n g)) i = tr K (rv n g) (n - 1 - i) := by rw [rv, if_pos (by omega)]
    have := tr_lead (K := K) h1 h2 (n - 1 - i)
    rw [show N - n + (n - 1 - i) = N - 1 - i by omega] at this
    rw [e1, e2, this]
  · have e2 : rv n (tr K (rv n g)) i = false := by rw [rv, if_neg hi]
    rw [e2]
    by_cases hi2 : i < N
    · have e1 : rv N (tr K (rv N g)) i = tr K (rv N g) (N - 1 - i) := by rw [rv, if_pos (by omega)]
      rw [e1]; exact tr_lead0 h1 _ (by omega)
    · rw [rv, if_neg hi2]
/-- P10: what a step left leads back -/
theorem back_step {K : Nat} {f : Nat → Bool} {n m : Nat} (hf : ∀ i, n ≤ i → f i = false) (hm : ∀ i, m ≤ i → tr K f i = false) : bkL K (tr K f) m = 0 ∧ ∀ i, bkF K (tr K f) m i = f i := by
  have hN := ld_end (K := K) hf (2 * n + m) (by omega)
  constructor
  · rw [← bkL_pad (N := 2 * n + m) (by omega) hm]
    have := ld_back hN (2 * n + m) (Nat.le_refl _)
    rw [Nat.sub_self] at this
    exact this
  · intro i
    rw [← bkF_pad (N := 2 * n + m) (by omega) hm]
    unfold bkF
    by_cases hi : i < 2 * n + m
    · rw [rv, if_pos hi, tr_back hN _ (by omega), show 2 * n + m - 1 - (2 * n + m - 1 - i) = i by omega]
    · rw [rv, if_neg hi, hf i (by omega)]
/-- P16: back and forward -/
theorem step_back {K : Nat} {g : Nat → Bool} {n : Nat} (hg : ∀ i, n ≤ i → g i = false) (h0 : bkL K g n = 0) (i : Nat) : tr K (bkF K g n) i = g i := by
  unfold bkL at h0
  unfold bkF
  by_cases hi : i < n
  · rw [tr_back h0 i hi, rv, if_pos (by omega), show n - 1 - (n - 1 - i) = i by omega]
  · have h1 := ld_back h0 n (Nat.le_refl _)
    rw [Nat.sub_self, ld_zero] at h1
    have h2 := ld_tail (K := K) (f := rv n (tr K (rv n g))) (n := n) (fun j hj => by rw [rv, if_neg (by omega)]) (i - n)
    rw [h1, show n + (i - n) = i by omega] at h2
    have h3 : ld K (rv n (tr K (rv n g))) i = 0 := by omega
    have h4 : rv n (tr K (rv n g)) i = false := by rw [rv, if_neg hi]
    unfold tr at h3 h4 ⊢
    rw [h3, h4, hg i (by omega)]; rfl

set_option maxHeartbeats 2000000 in
/-- P11, P13: two carriers with rooms K and L, the one behind the other, in both orders: one box -/
theorem two_step (K L u v a b : Nat) (x : Bool) (hK : 1 ≤ K) (hL : 1 ≤ L) (hu : u ≤ K) (hv : v ≤ L) (hb : b + min (K - u) v = v + min u (L - v)) (hab : a + b = u + v) :
    ot L (ot K x u) v = ot K (ot L x b) a ∧
    nx L x b + min (K - nx K x u) (nx L (ot K x u) v) = nx L (ot K x u) v + min (nx K x u) (L - nx L (ot K x u) v) ∧
    nx K (ot L x b) a + nx L x b = nx K x u + nx L (ot K x u) v ∧
    (if x && decide (u < K) then 1 else 0) + min u (L - v) = (if ot L x b && decide (a < K) then 1 else 0) + min (nx K x u) (L - nx L (ot K x u) v) := by
  have ha : a ≤ K := by omega
  have hb2 : b ≤ L := by omega
  cases x
  · by_cases h1 : 0 < u <;> by_cases h2 : 0 < b <;> by_cases h3 : v < L <;> by_cases h4 : a < K <;> by_cases h5 : 0 < v <;> by_cases h6 : 0 < a <;>
      simp only [nx, ot, h1, h2, h3, h4, h5, h6, decide_true, decide_false, if_true, Bool.false_eq_true, if_false, Bool.not_true, Bool.not_false, Bool.false_and, Bool.true_and] <;>
      refine ⟨?_, ?_, ?_, ?_⟩ <;> first | rfl | trivial | (exfalso; omega) | omega
  · by_cases h1 : u < K <;> by_cases h2 : b < L <;> by_cases h3 : v < L <;> by_cases h4 : a < K <;> by_cases h5 : 0 < v <;> by_cases h6 : 0 < a <;>
      simp only [nx, ot, h1, h2, h3, h4, h5, h6, decide_true, decide_false, if_true, Bool.false_eq_true, if_false, Bool.not_true, Bool.not_false, Bool.false_and, Bool.true_and] <;>
      refine ⟨?_, ?_, ?_, ?_⟩ <;> first | rfl | trivial | (exfalso; omega) | omega
theorem two (K L : Nat) (f : Nat → Bool) (hK : 1 ≤ K) (hL : 1 ≤ L) (i : Nat) :
    ld L f i + min (K - ld K f i) (ld L (tr K f) i) = ld L (tr K f) i + min (ld K f i) (L - ld L (tr K f) i) ∧
    ld K (tr L f) i + ld L f i = ld K f i + ld L (tr K f) i ∧
    tk K f i = tk K (tr L f) i + min (ld K f i) (L - ld L (tr K f) i) := by
  induction i with
  | zero => simp [ld, tk]
  | succ i ih =>
    obtain ⟨h1, h2, h3⟩ := ih
    obtain ⟨g1, g2, g3, g4⟩ := two_step K L (ld K f i) (ld L (tr K f) i) (ld K (tr L f) i) (ld L f i) (f i) hK hL (ld_le _ _ _) (ld_le _ _ _) h1 h2
    refine ⟨g2, g3, ?_⟩
    show tk K f i + _ = tk K (tr L f) i + (if tr L f i && decide (ld K (tr L f) i < K) then 1 else 0) + min (nx K (f i) (ld K f i)) (L - nx L (tr K f i) (ld L (tr K f) i))
    have e1 : tr L f i = ot L (f i) (ld L f i) := rfl
    have e2 : tr K f i = ot K (f i) (ld K f i) := rfl
    rw [← e1, ← e2] at g4
    omega
theorem tr_swap (K L : Nat) (f : Nat → Bool) (hK : 1 ≤ K) (hL : 1 ≤ L) (i : Nat) : tr L (tr K f) i = tr K (tr L f) i := by
  obtain ⟨h1, h2, h3⟩ := two K L f hK hL i
  exact (two_step K L (ld K f i) (ld L (tr K f) i) (ld K (tr L f) i) (ld L f i) (f i) hK hL (ld_le _ _ _) (ld_le _ _ _) h1 h2).1
theorem tk_kept (K L : Nat) (f : Nat → Bool) (hK : 1 ≤ K) (hL : 1 ≤ L) (i : Nat) (h : ld K f i = 0) : tk K (tr L f) i = tk K f i := by
  obtain ⟨h1, h2, h3⟩ := two K L f hK hL i
  rw [h] at h3
  omega

/-- P15: three carriers with rooms K, K + 1, K + 2 -/
theorem three (K : Nat) (f : Nat → Bool) (i : Nat) :
    ld K f i ≤ ld (K + 1) f i ∧ ld (K + 1) f i ≤ ld (K + 2) f i ∧ ld (K + 1) f i ≤ ld K f i + 1 ∧ ld (K + 2) f i ≤ ld (K + 1) f i + 1 ∧
    tk (K + 2) f i + tk K f i + (if ld (K + 1) f i = ld K f i + 1 ∧ ld (K + 2) f i = ld (K + 1) f i then 1 else 0) ≤ 2 * tk (K + 1) f i ∧
    tk K f i + (ld (K + 1) f i - ld K f i) ≤ tk (K + 1) f i := by
  induction i with
  | zero => simp [ld, tk]
  | succ i ih =>
    have l0 := ld_le K f i
    have l1 := ld_le (K + 1) f i
    have l2 := ld_le (K + 2) f i
    obtain ⟨h1, h2, h3, h4, h5, h6⟩ := ih
    show nx K _ _ ≤ nx (K + 1) _ _ ∧ nx (K + 1) _ _ ≤ nx (K + 2) _ _ ∧ nx (K + 1) _ _ ≤ nx K _ _ + 1 ∧ nx (K + 2) _ _ ≤ nx (K + 1) _ _ + 1 ∧ tk (K + 2) f i + _ + (tk K f i + _) + (if nx (K + 1) _ _ = nx K _ _ + 1 ∧ nx (K + 2) _ _ = nx (K + 1) _ _ then 1 else 0) ≤ 2 * (tk (K + 1) f i + _) ∧ tk K f i + _ + (nx (K + 1) _ _ - nx K _ _) ≤ tk (K + 1) f i + _
    generalize ld K f i = u at *
    generalize ld (K + 1) f i = v at *
    generalize ld (K + 2) f i = w at *
    generalize tk K f i = p at *
    generalize tk (K + 1) f i = q at *
    generalize tk (K + 2) f i = r at *
    unfold nx
    by_cases c1 : v = u + 1 ∧ w = v
    · rw [if_pos c1] at h5
      cases f i <;> by_cases g0 : u < K <;> by_cases g1 : v < K + 1 <;> by_cases g2 : w < K + 2 <;> simp [g0, g1, g2] <;> (repeat' split) <;> omega
    · rw [if_neg c1] at h5
      cases f i <;> by_cases g0 : u < K <;> by_cases g1 : v < K + 1 <;> by_cases g2 : w < K + 2 <;> simp [g0, g1, g2] <;> (repeat' split) <;> omega
theorem tk_all (K : Nat) (f : Nat → Bool) (i : Nat) (h : i ≤ K) : tk K f i = cn f i := by
  induction i with
  | zero => rfl
  | succ i ih =>
    show tk K f i + _ = cn f i + _
    rw [ih (by omega)]
    have := ld_le_i K f i
    have h2 : decide (ld K f i < K) = true := by simp; omega
    rw [h2, Bool.and_true]
end Go.Proofs.Ytkdhifofdghbbab

/- bytes.Repeat of one sign '0'. -/
namespace Go.Proofs.Ytkdhifofdghbbab
open Go.RowKit

def zeros (n : Nat) : List Value := List.replicate n (.int .u8 48)

def RepRel (w : World) (g n : Nat) (i : Value) (wr : World) : Prop :=
  ∃ (k : Nat) (cur : List Value), 1 ≤ k ∧ k ≤ n ∧ i = .int .i64 (k : Int) ∧ Hid (wr.heap[g]? = some (.cells cur.toArray 5 (0, 0))) ∧ Hid (n ≤ cur.length) ∧ Hid (∀ j, j < k → cur[j]? = some (.int .u8 48)) ∧ Hid (Below g w wr)
theorem splice_zeros (cur : List Value) (k m : Nat) (hk : k ≤ cur.length) (h : ∀ j, j < k → cur[j]? = some (.int .u8 48)) : ∀ j, j < k + m → (splice cur k (zeros m))[j]? = some (.int .u8 48) := by
  intro j hj
  unfold splice zeros
  by_cases h1 : j < k
  · rw [List.getElem?_append_left (by simp; omega), List.getElem?_take, if_pos h1]; exact h j h1
  · rw [List.getElem?_append_right (by simp; omega), List.getElem?_append_left (by simp; omega), List.getElem?_replicate, if_pos (by simp; omega)]

end Go.Proofs.Ytkdhifofdghbbab
