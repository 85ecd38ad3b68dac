/- TEXTS IWav1, Great1. -/
import Derived.Test.Ytlgceccbjkkeiabwax23
import Derived.Test.Ytlgceccbjkkeiabwax26
import Derived.Test.Ytlgceccbjkkeiabwax14
/- THE WALKS of the program's count, known, WaveIn, sum, WaveSum: whatever the slices hold. -/
namespace Go.Proofs.Ytlgceccbjkkeiab
open Go.RowKit Go.Sort

theorem count_len (a : Option Addr) (n c : Nat) (w : World) :
    Calls Try.prog 35 #[.slice a n c] w fun e w' => e = .returned (.int .i64 (n : Int)) ∧ w' = w := by
  go_enter Try.func35, Try.ntmps35
  go_wp2
  go_ret
  exact ⟨rfl, rfl⟩
theorem countG_any (a : Option Addr) (n c : Nat) (w : World) :
    Calls Try.prog 35 #[.slice a n c] w fun e w' => e = .returned (.int .i64 (n : Int)) ∧ ∃ q os', w' = grow (w.drewN q) os' := by
  refine (count_len a n c w).mono ?_
  rintro e w' ⟨rfl, rfl⟩
  exact ⟨rfl, 0, #[], by simp [grow, World.drewN]⟩
set_option maxRecDepth 100000 in
set_option maxHeartbeats 400000 in
theorem allWithinG_any (v : Value) (l : List Int) (g : Int) (w : World) {lo : Nat} (hll : l.length ≤ 1048576) (h : IntsV lo w v l) :
    Calls Try.prog 36 #[v, .int .i64 g] w fun e w' => e = .returned (.bool (l.all (inR g))) ∧ ∃ q os', w' = grow (w.drewN q) os' := by
  have hb : Below w.heap.size w (w.alloc (.cells #[.int .i64 g] 3)) := (Below.refl _ _).alloc (Nat.le_refl _) _
  have C := hide (containsFunc_any v l w.heap.size g (w.alloc (.cells #[.int .i64 g] 3)) hll (h.below hb (Nat.le_refl _)) (by simp))
  obtain ⟨b, hbb⟩ : ∃ b, b = l.all (inR g) := ⟨_, rfl⟩
  rw [← hbb] at C ⊢
  clear hbb h
  have HB : Hid (∃ q os', w.alloc (.cells #[.int .i64 g] 3) = grow (w.drewN q) os') := ⟨0, _, by rw [alloc_eq_grow]; rfl⟩
  clear hb
  go_enter Try.func36, Try.ntmps36
  go_wp2_with fail
  refine C.out.mono ?_
  rintro e w' ⟨rfl, rfl⟩
  cases b
  all_goals
    go_wp2_with fail
    go_ret
    exact ⟨rfl, HB.out⟩
theorem w120_inR : ∀ l : List Int, l.all (inR 120) = l.all w120 := fun _ => rfl
/-- WaveIn's tests, one behind the other -/
theorem wIn_tests {st : Int} {R G : List Int} (h1 : 0 ≤ st) (h2 : st ≤ 120) (h3 : 1 ≤ (R.length : Int)) (h4 : (R.length : Int) ≤ 60) (h5 : (G.length : Int) = (R.length : Int) - 1) : wIn st R G = (R.all w120 && G.all w120) := by
  have e5 : R.length = G.length + 1 := by omega
  unfold wIn
  have a1 : decide (1 ≤ R.length) = true := decide_eq_true (by omega)
  have a2 : decide (R.length ≤ 60) = true := decide_eq_true (by omega)
  rw [a1, a2, decide_eq_true h1, decide_eq_true h2, decide_eq_true e5]
  rfl

set_option maxRecDepth 100000 in
set_option maxHeartbeats 4000000 in
theorem known_any (st : Int) (u v : Value) (R G : List Int) (w : World) {lo lo' : Nat} (hRl : R.length ≤ 1048576) (hGl : G.length ≤ 1048576) (hu : IntsV lo w u R) (hv : IntsV lo' w v G) :
    Calls Try.prog 23 #[.agg #[.int .i64 st, u, v]] w fun e w' => e = .returned (.bool (wIn st R G)) ∧ Below w.heap.size w w' := by
  have mixed : Try.prog.follows .mixedOrders = true := by kernel_rfl
  have HU := hide hu
  have HV := hide hv
  obtain ⟨a, c, rfl, _⟩ := ints_form hu
  obtain ⟨a', c', rfl, _⟩ := ints_form hv
  obtain ⟨W, hW⟩ : ∃ W, W = w.alloc (.cells #[.int .i64 st, .slice a R.length c, .slice a' G.length c'] 38) := ⟨_, rfl⟩
  have hz : w.heap.size < W.heap.size := by rw [hW]; simp
  have HB : Hid (Below w.heap.size w W) := by rw [hW]; exact (Below.refl _ _).alloc (Nat.le_refl _) _
  have c0 : W.cell? ⟨w.heap.size, 0, none⟩ = some (.int .i64 st) := by rw [hW, World.cell?_alloc_at _ _ _ _ rfl]; rfl
  have c1 : W.cell? ⟨w.heap.size, 1, none⟩ = some (.slice a R.length c) := by rw [hW, World.cell?_alloc_at _ _ _ _ rfl]; rfl
  have c2 : W.cell? ⟨w.heap.size, 2, none⟩ = some (.slice a' G.length c') := by rw [hW, World.cell?_alloc_at _ _ _ _ rfl]; rfl
  have e0 : ∀ n os, (grow (W.drewN n) os).cell? ⟨w.heap.size, 0, none⟩ = some (.int .i64 st) := fun n os => cell_grown hz c0 n os
  have e1 : ∀ n os, (grow (W.drewN n) os).cell? ⟨w.heap.size, 1, none⟩ = some (.slice a R.length c) := fun n os => cell_grown hz c1 n os
  have e2 : ∀ n os, (grow (W.drewN n) os).cell? ⟨w.heap.size, 2, none⟩ = some (.slice a' G.length c') := fun n os => cell_grown hz c2 n os
  have CN := hide (fun W => countG_any a R.length c W)
  have CR := hide (fun n os => allWithinG_any _ R 120 (grow (W.drewN n) os) hRl (HU.out.below (HB.out.trans ((below_grow W n os).mono (Nat.le_of_lt hz))) (Nat.le_refl _)))
  have CG := hide (fun n os => allWithinG_any _ G 120 (grow (W.drewN n) os) hGl (HV.out.below (HB.out.trans ((below_grow W n os).mono (Nat.le_of_lt hz))) (Nat.le_refl _)))
  rw [w120_inR] at CR CG
  have HT := hide (fun h1 h2 h3 h4 h5 => wIn_tests (st := st) (R := R) (G := G) h1 h2 h3 h4 h5)
  have HN := hide (wIn_iff st R G)
  obtain ⟨x, hx⟩ : ∃ x, x = R.all w120 := ⟨_, rfl⟩
  obtain ⟨y, hy⟩ : ∃ y, y = G.all w120 := ⟨_, rfl⟩
  obtain ⟨z, hzz⟩ : ∃ z, z = wIn st R G := ⟨_, rfl⟩
  rw [← hx] at CR HT
  rw [← hy] at CG HT
  rw [← hzz] at HT HN ⊢
  obtain ⟨n, hn⟩ : ∃ n, n = R.length := ⟨_, rfl⟩
  obtain ⟨m, hm⟩ : ∃ m, m = G.length := ⟨_, rfl⟩
  rw [← hn] at hRl CN e1 hW HT HN
  rw [← hm] at hGl e2 hW HT HN
  rw [← hn] at CR
  rw [← hm] at CG
  rw [← hn, ← hm]
  have HW := hide hW
  have no : Hid (¬ (0 ≤ st ∧ st ≤ 120 ∧ 1 ≤ (n : Int) ∧ (n : Int) ≤ 60 ∧ (m : Int) = (n : Int) - 1) → z = false) := by
    intro h
    cases hz' : z
    · rfl
    · obtain ⟨k1, k2, k3, k4, k5, _⟩ := HN.out.1 hz'
      exact absurd ⟨k1, k2, by omega, by omega, by omega⟩ h
  have hwr : IntKind.i64.wrap ((n : Int) - 1) = (n : Int) - 1 := by rw [IntKind.wrap_i64]; omega
  clear hu hv hx hy hzz hn hm c0 c1 c2 hW HN
  go_enter Try.func23, Try.ntmps23
  go_wp2
  rw [← HW.out]
  clear HW
  have FIN : ∀ nq osq, Hid (Below w.heap.size w (grow (W.drewN nq) osq)) := fun nq osq => HB.out.trans ((below_grow W nq osq).mono (Nat.le_of_lt hz))
  by_cases h1 : 0 ≤ st
  case neg =>
    have HZ := hide (no.out (by omega))
    have d1 : decide (0 ≤ st) = false := decide_eq_false h1
    clear HT no
    refine wp_region_quiet_grown (by assumption) (by kernel_rfl) ?_
    repeat (first | go_big_quiet_skip | quiet_step (first | (go_at_call 35; refine Calls.grown_of (CN.out _)) | (go_at_call 36; first | (with_reducible refine Calls.grown_of (CR.out _ _)) | (with_reducible refine Calls.grown_of (CG.out _ _)))))
    refine wpQuiet_nil ?_
    intro _ hw'
    obtain ⟨⟨nq, osq⟩, hw''⟩ := hw'
    subst hw''
    go_wp2
    go_ret
    exact ⟨by rw [HZ.out]; rfl, (FIN _ _).out⟩
  have d1 : decide (0 ≤ st) = true := decide_eq_true h1
  by_cases h2 : st ≤ 120
  case neg =>
    have HZ := hide (no.out (by omega))
    have d2 : decide (st ≤ 120) = false := decide_eq_false h2
    clear HT no
    refine wp_region_quiet_grown (by assumption) (by kernel_rfl) ?_
    repeat (first | go_big_quiet_skip | quiet_step (first | (go_at_call 35; refine Calls.grown_of (CN.out _)) | (go_at_call 36; first | (with_reducible refine Calls.grown_of (CR.out _ _)) | (with_reducible refine Calls.grown_of (CG.out _ _)))))
    refine wpQuiet_nil ?_
    intro _ hw'
    obtain ⟨⟨nq, osq⟩, hw''⟩ := hw'
    subst hw''
    go_wp2
    go_ret
    exact ⟨by rw [HZ.out]; rfl, (FIN _ _).out⟩
  have d2 : decide (st ≤ 120) = true := decide_eq_true h2
  by_cases h3 : 1 ≤ (n : Int)
  case neg =>
    have HZ := hide (no.out (by omega))
    have d3 : decide (1 ≤ (n : Int)) = false := decide_eq_false h3
    clear HT no
    refine wp_region_quiet_grown (by assumption) (by kernel_rfl) ?_
    repeat (first | go_big_quiet_skip | quiet_step (first | (go_at_call 35; refine Calls.grown_of (CN.out _)) | (go_at_call 36; first | (with_reducible refine Calls.grown_of (CR.out _ _)) | (with_reducible refine Calls.grown_of (CG.out _ _)))))
    refine wpQuiet_nil ?_
    intro _ hw'
    obtain ⟨⟨nq, osq⟩, hw''⟩ := hw'
    subst hw''
    go_wp2
    go_ret
    exact ⟨by rw [HZ.out]; rfl, (FIN _ _).out⟩
  have d3 : decide (1 ≤ (n : Int)) = true := decide_eq_true h3
  by_cases h4 : (n : Int) ≤ 60
  case neg =>
    have HZ := hide (no.out (by omega))
    have d4 : decide ((n : Int) ≤ 60) = false := decide_eq_false h4
    clear HT no
    refine wp_region_quiet_grown (by assumption) (by kernel_rfl) ?_
    repeat (first | go_big_quiet_skip | quiet_step (first | (go_at_call 35; refine Calls.grown_of (CN.out _)) | (go_at_call 36; first | (with_reducible refine Calls.grown_of (CR.out _ _)) | (with_reducible refine Calls.grown_of (CG.out _ _)))))
    refine wpQuiet_nil ?_
    intro _ hw'
    obtain ⟨⟨nq, osq⟩, hw''⟩ := hw'
    subst hw''
    go_wp2
    go_ret
    exact ⟨by rw [HZ.out]; rfl, (FIN _ _).out⟩
  have d4 : decide ((n : Int) ≤ 60) = true := decide_eq_true h4
  by_cases h5 : (m : Int) = (n : Int) - 1
  case neg =>
    have HZ := hide (no.out (by omega))
    have d5 : decide ((m : Int) = (n : Int) - 1) = false := decide_eq_false h5
    have d5b : ((m : Int) == (n : Int) - 1) = false := by simpa using h5
    clear HT no
    refine wp_region_quiet_grown (by assumption) (by kernel_rfl) ?_
    repeat (first | go_big_quiet_skip | quiet_step (first | (go_at_call 35; refine Calls.grown_of (CN.out _)) | (go_at_call 36; first | (with_reducible refine Calls.grown_of (CR.out _ _)) | (with_reducible refine Calls.grown_of (CG.out _ _)))))
    refine wpQuiet_nil ?_
    intro _ hw'
    obtain ⟨⟨nq, osq⟩, hw''⟩ := hw'
    subst hw''
    go_wp2
    go_ret
    exact ⟨by rw [HZ.out]; rfl, (FIN _ _).out⟩
  have d5 : decide ((m : Int) = (n : Int) - 1) = true := decide_eq_true h5
  have d5b : ((m : Int) == (n : Int) - 1) = true := by simpa using h5
  have HZ := hide (HT.out h1 h2 h3 h4 h5)
  cases x
  case false =>
    clear HT no
    refine wp_region_quiet_grown (by assumption) (by kernel_rfl) ?_
    repeat (first | go_big_quiet_skip | quiet_step (first | (go_at_call 35; refine Calls.grown_of (CN.out _)) | (go_at_call 36; first | (with_reducible refine Calls.grown_of (CR.out _ _)) | (with_reducible refine Calls.grown_of (CG.out _ _)))))
    refine wpQuiet_nil ?_
    intro _ hw'
    obtain ⟨⟨nq, osq⟩, hw''⟩ := hw'
    subst hw''
    go_wp2
    go_ret
    exact ⟨by rw [HZ.out]; rfl, (FIN _ _).out⟩
  cases y
  all_goals
    clear HT no
    refine wp_region_quiet_grown (by assumption) (by kernel_rfl) ?_
    repeat (first | go_big_quiet_skip | quiet_step (first | (go_at_call 35; refine Calls.grown_of (CN.out _)) | (go_at_call 36; first | (with_reducible refine Calls.grown_of (CR.out _ _)) | (with_reducible refine Calls.grown_of (CG.out _ _)))))
    refine wpQuiet_nil ?_
    intro _ hw'
    obtain ⟨⟨nq, osq⟩, hw''⟩ := hw'
    subst hw''
    go_wp2
    go_ret
    exact ⟨by rw [HZ.out]; rfl, (FIN _ _).out⟩
end Go.Proofs.Ytlgceccbjkkeiab

/- EACH BALL MOVED ONCE: what is filled when the balls ahead of a box have been moved; where a ball goes; a carrier with great room leaves the same. Pure: nothing of the program is named here. -/
namespace Go.Proofs.Ytlgceccbjkkeiab
open Go.RowKit

/-- the load ahead of box j of a carrier that takes the balls ahead of box i alone, and passes by the others -/
def gl (f : Nat → Bool) (i : Nat) : Nat → Nat
  | 0 => 0
  | j + 1 => if f j then (if j < i then gl f i j + 1 else gl f i j) else gl f i j - 1
/-- the boxes that are filled then -/
def gt (f : Nat → Bool) (i j : Nat) : Bool := !f j && decide (0 < gl f i j)
def up (g : Nat → Bool) (k j : Nat) : Bool := if j = k then true else g j

theorem gl_none (f : Nat → Bool) (j : Nat) : gl f 0 j = 0 := by
  induction j with
  | zero => rfl
  | succ j ih => show (if f j then _ else _) = _; rw [ih]; simp
theorem gt_none (f : Nat → Bool) (j : Nat) : gt f 0 j = false := by unfold gt; rw [gl_none]; simp
theorem gl_skip {f : Nat → Bool} {i : Nat} (h : f i = false) (j : Nat) : gl f (i + 1) j = gl f i j := by
  induction j with
  | zero => rfl
  | succ j ih =>
    show (if f j then (if j < i + 1 then gl f (i + 1) j + 1 else gl f (i + 1) j) else gl f (i + 1) j - 1) = (if f j then (if j < i then gl f i j + 1 else gl f i j) else gl f i j - 1)
    rw [ih]
    by_cases e : j = i
    · subst e; rw [h]; simp
    · by_cases h1 : j < i
      · rw [if_pos (show j < i + 1 by omega), if_pos h1]
      · rw [if_neg (show ¬ j < i + 1 by omega), if_neg h1]
theorem gt_skip {f : Nat → Bool} {i : Nat} (h : f i = false) : gt f (i + 1) = gt f i := by funext j; unfold gt; rw [gl_skip h]
/-- the ball in box i goes to the first box behind it that is free -/
theorem gt_step {f : Nat → Bool} {i k : Nat} (h : f i = true) (hk : i < k) (hb : ∀ j, i < j → j < k → (f j || gt f i j) = true) (h1 : f k = false) (h2 : gt f i k = false) : gt f (i + 1) = up (gt f i) k := by
  have low : ∀ j, j ≤ i → gl f (i + 1) j = gl f i j := by
    intro j
    induction j with
    | zero => intro _; rfl
    | succ j ih =>
      intro hj
      show (if f j then (if j < i + 1 then gl f (i + 1) j + 1 else gl f (i + 1) j) else gl f (i + 1) j - 1) = (if f j then (if j < i then gl f i j + 1 else gl f i j) else gl f i j - 1)
      rw [ih (by omega), if_pos (show j < i + 1 by omega), if_pos (show j < i by omega)]
  have mid : ∀ d, i + 1 + d ≤ k → gl f (i + 1) (i + 1 + d) = gl f i (i + 1 + d) + 1 := by
    intro d
    induction d with
    | zero =>
      intro _
      show (if f i then (if i < i + 1 then gl f (i + 1) i + 1 else gl f (i + 1) i) else gl f (i + 1) i - 1) = (if f i then (if i < i then gl f i i + 1 else gl f i i) else gl f i i - 1) + 1
      rw [low i (Nat.le_refl _), h]; simp
    | succ d ih =>
      intro hd
      have e := ih (by omega)
      have hbd := hb (i + 1 + d) (by omega) (by omega)
      show (if f (i + 1 + d) then (if i + 1 + d < i + 1 then gl f (i + 1) (i + 1 + d) + 1 else gl f (i + 1) (i + 1 + d)) else gl f (i + 1) (i + 1 + d) - 1) =
        (if f (i + 1 + d) then (if i + 1 + d < i then gl f i (i + 1 + d) + 1 else gl f i (i + 1 + d)) else gl f i (i + 1 + d) - 1) + 1
      rw [e]
      cases hf : f (i + 1 + d)
      · rw [hf] at hbd
        unfold gt at hbd
        rw [hf] at hbd
        simp at hbd
        simp; omega
      · simp; rw [if_neg (by omega), if_neg (by omega)]
  have hk0 : gl f i k = 0 := by unfold gt at h2; rw [h1] at h2; simp at h2; exact h2
  have hk1 : gl f (i + 1) k = 1 := by have := mid (k - (i + 1)) (by omega); rw [show i + 1 + (k - (i + 1)) = k by omega] at this; omega
  have high : ∀ d, gl f (i + 1) (k + 1 + d) = gl f i (k + 1 + d) := by
    intro d
    induction d with
    | zero =>
      show (if f k then (if k < i + 1 then gl f (i + 1) k + 1 else gl f (i + 1) k) else gl f (i + 1) k - 1) = (if f k then (if k < i then gl f i k + 1 else gl f i k) else gl f i k - 1)
      rw [hk0, hk1, h1]; simp
    | succ d ih =>
      show (if f (k + 1 + d) then (if k + 1 + d < i + 1 then gl f (i + 1) (k + 1 + d) + 1 else gl f (i + 1) (k + 1 + d)) else gl f (i + 1) (k + 1 + d) - 1) =
        (if f (k + 1 + d) then (if k + 1 + d < i then gl f i (k + 1 + d) + 1 else gl f i (k + 1 + d)) else gl f i (k + 1 + d) - 1)
      rw [ih, if_neg (show ¬ k + 1 + d < i + 1 by omega), if_neg (show ¬ k + 1 + d < i by omega)]
  funext j
  unfold up
  by_cases e : j = k
  · subst e
    rw [if_pos rfl]; unfold gt; rw [hk1, h1]; rfl
  · rw [if_neg e]
    rcases Nat.lt_or_ge i j with hj | hj
    · rcases Nat.lt_or_ge j k with hj2 | hj2
      · have hbj := hb j hj hj2
        have em := mid (j - (i + 1)) (by omega)
        rw [show i + 1 + (j - (i + 1)) = j by omega] at em
        cases hf : f j
        · rw [hf] at hbj
          unfold gt at hbj ⊢
          rw [hf] at hbj ⊢
          simp at hbj
          rw [em]; simp; omega
        · unfold gt; rw [hf]; rfl
      · have eh := high (j - (k + 1))
        rw [show k + 1 + (j - (k + 1)) = j by omega] at eh
        unfold gt; rw [eh]
    · unfold gt; rw [low j hj]
/-- a carrier with room for all balls -/
theorem gt_tr {f : Nat → Bool} {n K : Nat} (hf : ∀ i, n ≤ i → f i = false) (hn : n ≤ K) : gt f n = tr K f := by
  have e : ∀ j, gl f n j = ld K f j := by
    intro j
    induction j with
    | zero => rfl
    | succ j ih =>
      show (if f j then (if j < n then gl f n j + 1 else gl f n j) else gl f n j - 1) = nx K (f j) (ld K f j)
      rw [ih]
      unfold nx
      cases hj : f j
      · simp
      · have hjn : j < n := by
          rcases Nat.lt_or_ge j n with h | h
          · exact h
          · rw [hf j h] at hj; cases hj
        have := ld_le_i K f j
        rw [if_pos hjn, if_pos rfl, if_pos rfl, if_pos (by omega)]
  funext j
  unfold gt tr ot
  rw [e]
  cases hj : f j
  · simp
  · have hjn : j < n := by
      rcases Nat.lt_or_ge j n with h | h
      · exact h
      · rw [hf j h] at hj; cases hj
    have := ld_le_i K f j
    simp; omega

theorem cn_add (f : Nat → Bool) (a d : Nat) : cn f (a + d) ≤ cn f a + d ∧ cn f a ≤ cn f (a + d) := by
  induction d with
  | zero => exact ⟨Nat.le_refl _, Nat.le_refl _⟩
  | succ d ih =>
    have e : cn f (a + (d + 1)) = cn f (a + d) + if f (a + d) then 1 else 0 := rfl
    rw [e]; split <;> omega
theorem cn_up (g : Nat → Bool) (k m : Nat) : cn (up g k) m ≤ cn g m + if k < m then 1 else 0 := by
  induction m with
  | zero => exact Nat.zero_le _
  | succ m ih =>
    have e1 : cn (up g k) (m + 1) = cn (up g k) m + if up g k m then 1 else 0 := rfl
    have e2 : cn g (m + 1) = cn g m + if g m then 1 else 0 := rfl
    rw [e1, e2]
    unfold up
    by_cases hm : m = k
    · subst hm
      rw [if_pos rfl, if_pos rfl, if_pos (show m < m + 1 by omega)]
      rw [if_neg (show ¬ m < m by omega)] at ih
      unfold up at ih
      split <;> omega
    · rw [if_neg hm]
      by_cases hk : k < m
      · rw [if_pos (show k < m + 1 by omega)]
        rw [if_pos hk] at ih
        unfold up at ih
        omega
      · rw [if_neg (show ¬ k < m + 1 by omega)]
        rw [if_neg hk] at ih
        unfold up at ih
        omega
/-- there is a free box, and not too far -/
theorem busy_lt {f g : Nat → Bool} {t x k c : Nat} (hf : ∀ j, t ≤ j → f j = false) (hx : x < t) (hg : cn g (2 * t) ≤ c) (hc : c < t) (hk : k ≤ 2 * t) (hb : ∀ j, x < j → j < k → (f j || g j) = true) : k < 2 * t := by
  rcases Nat.lt_or_ge k (2 * t) with h | h
  · exact h
  · exfalso
    have hk2 : k = 2 * t := by omega
    subst hk2
    have all : ∀ d, x + 1 + d ≤ 2 * t → cn f (x + 1) + cn g (x + 1) + d ≤ cn f (x + 1 + d) + cn g (x + 1 + d) := by
      intro d
      induction d with
      | zero => intro _; exact Nat.le_refl _
      | succ d ih =>
        intro hd
        have h1 := ih (by omega)
        have h2 := hb (x + 1 + d) (by omega) (by omega)
        have e1 : cn f (x + 1 + (d + 1)) = cn f (x + 1 + d) + if f (x + 1 + d) then 1 else 0 := rfl
        have e2 : cn g (x + 1 + (d + 1)) = cn g (x + 1 + d) + if g (x + 1 + d) then 1 else 0 := rfl
        rw [e1, e2]
        cases h3 : f (x + 1 + d)
        · rw [h3] at h2
          have h4 : g (x + 1 + d) = true := by simpa using h2
          rw [h4]; simp; omega
        · simp; omega
    have h1 := all (2 * t - (x + 1)) (by omega)
    rw [show x + 1 + (2 * t - (x + 1)) = 2 * t by omega] at h1
    have h2 := cn_tail (f := f) (n := t) hf t
    rw [show t + t = 2 * t by omega] at h2
    have h3 := (cn_add f (x + 1) (t - (x + 1))).1
    rw [show x + 1 + (t - (x + 1)) = t by omega] at h3
    omega

/-- a function's first values as a list -/
def fc (N : Nat) (g : Nat → Bool) : List Bool := (List.range N).map g
theorem fc_length (N : Nat) (g : Nat → Bool) : (fc N g).length = N := by simp [fc]
theorem fc_at (N : Nat) (g : Nat → Bool) (k : Nat) (h : k < N) : (fc N g)[k]? = some (g k) := by simp [fc, h]
theorem fc_set (N : Nat) (g : Nat → Bool) (k : Nat) (b : Bool) : (fc N g).set k b = fc N (fun j => if j = k then b else g j) := by
  apply List.ext_getElem?
  intro j
  rw [List.getElem?_set]
  by_cases hj : j < N
  · by_cases e : k = j
    · subst e; simp [fc, hj]
    · rw [if_neg e, fc_at N g j hj, fc_at N _ j hj, if_neg (fun h => e h.symm)]
  · have h1 : (fc N g)[j]? = none := List.getElem?_eq_none_iff.2 (by rw [fc_length]; omega)
    have h2 : (fc N fun j => if j = k then b else g j)[j]? = none := List.getElem?_eq_none_iff.2 (by rw [fc_length]; omega)
    rw [h1, h2]
    by_cases e : k = j
    · rw [if_pos e, if_neg (by rw [fc_length]; omega)]
    · rw [if_neg e]
theorem fc_ext {N : Nat} {g h : Nat → Bool} (e : ∀ j, j < N → g j = h j) : fc N g = fc N h := by
  unfold fc; exact List.map_congr_left fun j hj => e j (by simpa using hj)
theorem bx_fc (N : Nat) (g : Nat → Bool) (i : Nat) : bx (fc N g) i = if i < N then g i else false := by
  by_cases h : i < N
  · rw [if_pos h, bx_some _ _ _ (fc_at N g i h)]
  · rw [if_neg h, bx_out _ _ (by rw [fc_length]; omega)]
/-- the row that is made by moving each ball once -/
theorem great_cut {l : List Bool} {n N K : Nat} (hl : ∀ i, n ≤ i → bx l i = false) (hn : n ≤ K) (hN : 2 * n ≤ N) : ∀ i, bx (fc N (gt (bx l) n)) i = bx (stp K l) i := by
  intro i
  rw [bx_fc, bx_stp, gt_tr hl hn]
  by_cases h : i < N
  · rw [if_pos h]
  · rw [if_neg h, tr_end hl i (by omega)]

/-- the balls ahead of a box: its last one -/
theorem posU_last (bs : List Bool) (pre : List Nat) (x : Nat) : ∀ i, pre ++ [x] = posU bs i → pre = posU bs x ∧ bx bs x = true ∧ x < i ∧ gt (bx bs) i = gt (bx bs) (x + 1) := by
  intro i
  induction i with
  | zero => intro h; have := congrArg List.length h; simp [posU] at this
  | succ i ih =>
    intro h
    rw [posU_succ] at h
    by_cases hb : bs[i]?.getD false = true
    · rw [if_pos hb] at h
      obtain ⟨h1, h2⟩ := List.append_inj' h rfl
      simp at h2
      subst h2
      exact ⟨h1, hb, by omega, rfl⟩
    · rw [if_neg hb] at h
      obtain ⟨h1, h2, h3, h4⟩ := ih h
      refine ⟨h1, h2, by omega, ?_⟩
      rw [← h4]
      exact gt_skip (by unfold bx; simpa using hb)
end Go.Proofs.Ytlgceccbjkkeiab
