/- TEXTS CmpA, CmpI, Great1. -/
import Derived.Test.YtkdhifofdghbbaaChecked
import Derived.Test.Ytkdhifofdghbbaarot01
import Derived.Test.Ytkdhifofdghbbaarot33
import Derived.Test.Ytkdhifofdghbbaarot31
/- THE WALKS of cmp.Compare at ints, falling. -/
namespace Go.Proofs.Ytkdhifofdghbbaa
open Go.RowKit

def cmpI (a b : Int) : Int := if a < b then -1 else if b < a then 1 else 0

set_option maxRecDepth 100000 in
theorem isNaN_any (x : Int) (w : World) : Calls Try.prog 76 #[.int .i64 x] w fun e w' => e = .returned (.bool false) ∧ w = w' := by
  have hb : ((x : Int) != x) = false := by simp
  go_enter Try.func76, Try.ntmps76
  go_wp2
  go_ret
  exact ⟨rfl, rfl⟩

set_option maxRecDepth 100000 in
theorem compare_any (a b : Int) (w : World) : Calls Try.prog 68 #[.int .i64 a, .int .i64 b] w fun e w' => e = .returned (.int .i64 (cmpI a b)) ∧ w = w' := by
  unfold cmpI
  by_cases h1 : a < b
  · rw [if_pos h1]
    go_enter Try.func68, Try.ntmps68
    go_wp2_with (go_at_call 76; refine (isNaN_any _ _).mono ?_; rintro e w' ⟨rfl, rfl⟩)
    go_ret
    exact ⟨rfl, rfl⟩
  · rw [if_neg h1]
    by_cases h2 : b < a
    · rw [if_pos h2]
      go_enter Try.func68, Try.ntmps68
      go_wp2_with (go_at_call 76; refine (isNaN_any _ _).mono ?_; rintro e w' ⟨rfl, rfl⟩)
      go_ret
      exact ⟨rfl, rfl⟩
    · rw [if_neg h2]
      go_enter Try.func68, Try.ntmps68
      go_wp2_with (go_at_call 76; refine (isNaN_any _ _).mono ?_; rintro e w' ⟨rfl, rfl⟩)
      go_ret
      exact ⟨rfl, rfl⟩

theorem falling_any (a b : Int) (w : World) : Calls Try.prog 52 #[.int .i64 a, .int .i64 b] w fun e w' => e = .returned (.int .i64 (cmpI b a)) ∧ w = w' := by
  have C := hide (fun w => compare_any b a w)
  obtain ⟨x, hx⟩ : ∃ x, x = cmpI b a := ⟨_, rfl⟩
  rw [← hx] at C ⊢
  clear hx
  go_enter Try.func52, Try.ntmps52
  go_wp2_with (go_at_call 68; refine (C.out _).mono ?_; rintro e w' ⟨rfl, rfl⟩)
  go_ret
  exact ⟨rfl, rfl⟩
end Go.Proofs.Ytkdhifofdghbbaa

/- THE WALKS of allWithin, and the program's ShapeEnergy. -/
namespace Go.Proofs.Ytkdhifofdghbbaa
open Go.RowKit

/-- from 1 to a greatest one -/
def inR (g x : Int) : Bool := decide (1 ≤ x) && decide (x ≤ g)

/-- which index IndexFunc gives: not less than 0 just if some number is out of the range -/
def outI (g : Int) (l : List Int) (r : Int) : Prop := decide (0 ≤ r) = !(l.all (inR g))

theorem inR_sz : ∀ l : List Int, l.all (inR 200) = l.all szOk := fun _ => rfl

end Go.Proofs.Ytkdhifofdghbbaa

/- EACH BALL MOVED ONCE: what is filled when the balls ahead of a box have been moved; where a ball goes; a carrier with great room leaves the same. Pure: nothing of the program is named here. -/
namespace Go.Proofs.Ytkdhifofdghbbaa
open Go.RowKit

/-- the load ahead of box j of a carrier that takes the balls ahead of box i alone, and passes by the others -/
def gl (f : Nat → Bool) (i : Nat) : Nat → Nat
  | 0 => 0
  | j + 1 => if f j then (if j < i then gl f i j + 1 else gl f i j) else gl f i j - 1
/-- the boxes that are filled then -/
def gt (f : Nat → Bool) (i j : Nat) : Bool := !f j && decide (0 < gl f i j)
def up (g : Nat → Bool) (k j : Nat) : Bool := if j = k then true else g j

theorem gl_none (f : Nat → Bool) (j : Nat) : gl f 0 j = 0 := by
  induction j with
  | zero => rfl
  | succ j ih => show (if f j then _ else _) = _; rw [ih]; simp
theorem gt_none (f : Nat → Bool) (j : Nat) : gt f 0 j = false := by unfold gt; rw [gl_none]; simp
theorem gl_skip {f : Nat → Bool} {i : Nat} (h : f i = false) (j : Nat) : gl f (i + 1) j = gl f i j := by
  induction j with
  | zero => rfl
  | succ j ih =>
    show (if f j then (if j < i + 1 then gl f (i + 1) j + 1 else gl f (i + 1) j) else gl f (i + 1) j - 1) = (if f j then (if j < i then gl f i j + 1 else gl f i j) else gl f i j - 1)
    rw [ih]
    by_cases e : j = i
    · subst e; rw [h]; simp
    · by_cases h1 : j < i
      · rw [if_pos (show j < i + 1 by omega), if_pos h1]
      · rw [if_neg (show ¬ j < i + 1 by omega), if_neg h1]
theorem gt_skip {f : Nat → Bool} {i : Nat} (h : f i = false) : gt f (i + 1) = gt f i := by funext j; unfold gt; rw [gl_skip h]
/-- the ball in box i goes to the first box behind it that is free -/
theorem gt_step {f : Nat → Bool} {i k : Nat} (h : f i = true) (hk : i < k) (hb : ∀ j, i < j → j < k → (f j || gt f i j) = true) (h1 : f k = false) (h2 : gt f i k = false) : gt f (i + 1) = up (gt f i) k := by
  have low : ∀ j, j ≤ i → gl f (i + 1) j = gl f i j := by
    intro j
    induction j with
    | zero => intro _; rfl
    | succ j ih =>
      intro hj
      show (if f j then (if j < i + 1 then gl f (i + 1) j + 1 else gl f (i + 1) j) else gl f (i + 1) j - 1) = (if f j then (if j < i then gl f i j + 1 else gl f i j) else gl f i j - 1)
      rw [ih (by omega), if_pos (show j < i + 1 by omega), if_pos (show j < i by omega)]
  have mid : ∀ d, i + 1 + d ≤ k → gl f (i + 1) (i + 1 + d) = gl f i (i + 1 + d) + 1 := by
    intro d
    induction d with
    | zero =>
      intro _
      show (if f i then (if i < i + 1 then gl f (i + 1) i + 1 else gl f (i + 1) i) else gl f (i + 1) i - 1) = (if f i then (if i < i then gl f i i + 1 else gl f i i) else gl f i i - 1) + 1
      rw [low i (Nat.le_refl _), h]; simp
    | succ d ih =>
      intro hd
      have e := ih (by omega)
      have hbd := hb (i + 1 + d) (by omega) (by omega)
      show (if f (i + 1 + d) then (if i + 1 + d < i + 1 then gl f (i + 1) (i + 1 + d) + 1 else gl f (i + 1) (i + 1 + d)) else gl f (i + 1) (i + 1 + d) - 1) =
        (if f (i + 1 + d) then (if i + 1 + d < i then gl f i (i + 1 + d) + 1 else gl f i (i + 1 + d)) else gl f i (i + 1 + d) - 1) + 1
      rw [e]
      cases hf : f (i + 1 + d)
      · rw [hf] at hbd
        unfold gt at hbd
        rw [hf] at hbd
        simp at hbd
        simp; omega
      · simp; rw [if_neg (by omega), if_neg (by omega)]
  have hk0 : gl f i k = 0 := by unfold gt at h2; rw [h1] at h2; simp at h2; exact h2
  have hk1 : gl f (i + 1) k = 1 := by have := mid (k - (i + 1)) (by omega); rw [show i + 1 + (k - (i + 1)) = k by omega] at this; omega
  have high : ∀ d, gl f (i + 1) (k + 1 + d) = gl f i (k + 1 + d) := by
    intro d
    induction d with
    | zero =>
      show (if f k then (if k < i + 1 then gl f (i + 1) k + 1 else gl f (i + 1) k) else gl f (i + 1) k - 1) = (if f k then (if k < i then gl f i k + 1 else gl f i k) else gl f i k - 1)
      rw [hk0, hk1, h1]; simp
    | succ d ih =>
      show (if f (k + 1 + d) then (if k + 1 + d < i + 1 then gl f (i + 1) (k + 1 + d) + 1 else gl f (i + 1) (k + 1 + d)) else gl f (i + 1) (k + 1 + d) - 1) =
        (if f (k + 1 + d) then (if k + 1 + d < i then gl f i (k + 1 + d) + 1 else gl f i (k + 1 + d)) else gl f i (k + 1 + d) - 1)
      rw [ih, if_neg (show ¬ k + 1 + d < i + 1 by omega), if_neg (show ¬ k + 1 + d < i by omega)]
  funext j
  unfold up
  by_cases e : j = k
  · subst e
    rw [if_pos rfl]; unfold gt; rw [hk1, h1]; rfl
  · rw [if_neg e]
    rcases Nat.lt_or_ge i j with hj | hj
    · rcases Nat.lt_or_ge j k with hj2 | hj2
      · have hbj := hb j hj hj2
        have em := mid (j - (i + 1)) (by omega)
        rw [show i + 1 + (j - (i + 1)) = j by omega] at em
        cases hf : f j
        · rw [hf] at hbj
          unfold gt at hbj ⊢
          rw [hf] at hbj ⊢
          simp at hbj
          rw [em]; simp; omega
        · unfold gt; rw [hf]; rfl
      · have eh := high (j - (k + 1))
        rw [show k + 1 + (j - (k + 1)) = j by omega] at eh
        unfold gt; rw [eh]
    · unfold gt; rw [low j hj]
/-- a carrier with room for all balls -/
theorem gt_tr {f : Nat → Bool} {n K : Nat} (hf : ∀ i, n ≤ i → f i = false) (hn : n ≤ K) : gt f n = tr K f := by
  have e : ∀ j, gl f n j = ld K f j := by
    intro j
    induction j with
    | zero => rfl
    | succ j ih =>
      show (if f j then (if j < n then gl f n j + 1 else gl f n j) else gl f n j - 1) = nx K (f j) (ld K f j)
      rw [ih]
      unfold nx
      cases hj : f j
      · simp
      · have hjn : j < n := by
          rcases Nat.lt_or_ge j n with h | h
          · exact h
          · rw [hf j h] at hj; cases hj
        have := ld_le_i K f j
        rw [if_pos hjn, if_pos rfl, if_pos rfl, if_pos (by omega)]
  funext j
  unfold gt tr ot
  rw [e]
  cases hj : f j
  · simp
  · have hjn : j < n := by
      rcases Nat.lt_or_ge j n with h | h
      · exact h
      · rw [hf j h] at hj; cases hj
    have := ld_le_i K f j
    simp; omega

theorem cn_add (f : Nat → Bool) (a d : Nat) : cn f (a + d) ≤ cn f a + d ∧ cn f a ≤ cn f (a + d) := by
  induction d with
  | zero => exact ⟨Nat.le_refl _, Nat.le_refl _⟩
  | succ d ih =>
    have e : cn f (a + (d + 1)) = cn f (a + d) + if f (a + d) then 1 else 0 := rfl
    rw [e]; split <;> omega
theorem cn_up (g : Nat → Bool) (k m : Nat) : cn (up g k) m ≤ cn g m + if k < m then 1 else 0 := by
  induction m with
  | zero => exact Nat.zero_le _
  | succ m ih =>
    have e1 : cn (up g k) (m + 1) = cn (up g k) m + if up g k m then 1 else 0 := rfl
    have e2 : cn g (m + 1) = cn g m + if g m then 1 else 0 := rfl
    rw [e1, e2]
    unfold up
    by_cases hm : m = k
    · subst hm
      rw [if_pos rfl, if_pos rfl, if_pos (show m < m + 1 by omega)]
      rw [if_neg (show ¬ m < m by omega)] at ih
      unfold up at ih
      split <;> omega
    · rw [if_neg hm]
      by_cases hk : k < m
      · rw [if_pos (show k < m + 1 by omega)]
        rw [if_pos hk] at ih
        unfold up at ih
        omega
      · rw [if_neg (show ¬ k < m + 1 by omega)]
        rw [if_neg hk] at ih
        unfold up at ih
        omega
/-- there is a free box, and not too far -/
theorem busy_lt {f g : Nat → Bool} {t x k c : Nat} (hf : ∀ j, t ≤ j → f j = false) (hx : x < t) (hg : cn g (2 * t) ≤ c) (hc : c < t) (hk : k ≤ 2 * t) (hb : ∀ j, x < j → j < k → (f j || g j) = true) : k < 2 * t := by
  rcases Nat.lt_or_ge k (2 * t) with h | h
  · exact h
  · exfalso
    have hk2 : k = 2 * t := by omega
    subst hk2
    have all : ∀ d, x + 1 + d ≤ 2 * t → cn f (x + 1) + cn g (x + 1) + d ≤ cn f (x + 1 + d) + cn g (x + 1 + d) := by
      intro d
      induction d with
      | zero => intro _; exact Nat.le_refl _
      | succ d ih =>
        intro hd
        have h1 := ih (by omega)
        have h2 := hb (x + 1 + d) (by omega) (by omega)
        have e1 : cn f (x + 1 + (d + 1)) = cn f (x + 1 + d) + if f (x + 1 + d) then 1 else 0 := rfl
        have e2 : cn g (x + 1 + (d + 1)) = cn g (x + 1 + d) + if g (x + 1 + d) then 1 else 0 := rfl
        rw [e1, e2]
        cases h3 : f (x + 1 + d)
        · rw [h3] at h2
          have h4 : g (x + 1 + d) = true := by simpa using h2
          rw [h4]; simp; omega
        · simp; omega
    have h1 := all (2 * t - (x + 1)) (by omega)
    rw [show x + 1 + (2 * t - (x + 1)) = 2 * t by omega] at h1
    have h2 := cn_tail (f := f) (n := t) hf t
    rw [show t + t = 2 * t by omega] at h2
    have h3 := (cn_add f (x + 1) (t - (x + 1))).1
    rw [show x + 1 + (t - (x + 1)) = t by omega] at h3
    omega

/-- a function's first values as a list -/
def fc (N : Nat) (g : Nat → Bool) : List Bool := (List.range N).map g
theorem fc_length (N : Nat) (g : Nat → Bool) : (fc N g).length = N := by simp [fc]
theorem fc_at (N : Nat) (g : Nat → Bool) (k : Nat) (h : k < N) : (fc N g)[k]? = some (g k) := by simp [fc, h]
theorem fc_set (N : Nat) (g : Nat → Bool) (k : Nat) (b : Bool) : (fc N g).set k b = fc N (fun j => if j = k then b else g j) := by
  apply List.ext_getElem?
  intro j
  rw [List.getElem?_set]
  by_cases hj : j < N
  · by_cases e : k = j
    · subst e; simp [fc, hj]
    · rw [if_neg e, fc_at N g j hj, fc_at N _ j hj, if_neg (fun h => e h.symm)]
  · have h1 : (fc N g)[j]? = none := List.getElem?_eq_none_iff.2 (by rw [fc_length]; omega)
    have h2 : (fc N fun j => if j = k then b else g j)[j]? = none := List.getElem?_eq_none_iff.2 (by rw [fc_length]; omega)
    rw [h1, h2]
    by_cases e : k = j
    · rw [if_pos e, if_neg (by rw [fc_length]; omega)]
    · rw [if_neg e]
theorem fc_ext {N : Nat} {g h : Nat → Bool} (e : ∀ j, j < N → g j = h j) : fc N g = fc N h := by
  unfold fc; exact List.map_congr_left fun j hj => e j (by simpa using hj)
theorem bx_fc (N : Nat) (g : Nat → Bool) (i : Nat) : bx (fc N g) i = if i < N then g i else false := by
  by_cases h : i < N
  · rw [if_pos h, bx_some _ _ _ (fc_at N g i h)]
  · rw [if_neg h, bx_out _ _ (by rw [fc_length]; omega)]
/-- the row that is made by moving each ball once -/
theorem great_cut {l : List Bool} {n N K : Nat} (hl : ∀ i, n ≤ i → bx l i = false) (hn : n ≤ K) (hN : 2 * n ≤ N) : ∀ i, bx (fc N (gt (bx l) n)) i = bx (stp K l) i := by
  intro i
  rw [bx_fc, bx_stp, gt_tr hl hn]
  by_cases h : i < N
  · rw [if_pos h]
  · rw [if_neg h, tr_end hl i (by omega)]

/-- the balls ahead of a box: its last one -/
theorem posU_last (bs : List Bool) (pre : List Nat) (x : Nat) : ∀ i, pre ++ [x] = posU bs i → pre = posU bs x ∧ bx bs x = true ∧ x < i ∧ gt (bx bs) i = gt (bx bs) (x + 1) := by
  intro i
  induction i with
  | zero => intro h; have := congrArg List.length h; simp [posU] at this
  | succ i ih =>
    intro h
    rw [posU_succ] at h
    by_cases hb : bs[i]?.getD false = true
    · rw [if_pos hb] at h
      obtain ⟨h1, h2⟩ := List.append_inj' h rfl
      simp at h2
      subst h2
      exact ⟨h1, hb, by omega, rfl⟩
    · rw [if_neg hb] at h
      obtain ⟨h1, h2, h3, h4⟩ := ih h
      refine ⟨h1, h2, by omega, ?_⟩
      rw [← h4]
      exact gt_skip (by unfold bx; simpa using hb)
end Go.Proofs.Ytkdhifofdghbbaa
