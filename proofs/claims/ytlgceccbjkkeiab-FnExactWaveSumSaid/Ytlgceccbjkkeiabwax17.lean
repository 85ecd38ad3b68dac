/- TEXTS Cir1, Wav1, Cir2. -/
import Derived.Test.Ytlgceccbjkkeiabwax01
import Derived.Test.Ytlgceccbjkkeiabwax16
/- CIRCLES. Pure: no walk. The load of a carrier that goes round; turns; rotations; back. -/
namespace Go.Proofs.Ytlgceccbjkkeiab

def lstp (c : Nat) (x : Bool) : Nat := if x then c + 1 else c - 1
/-- the load behind a list -/
def lend (c : Nat) : List Bool → Nat
  | [] => c
  | x :: l => lend (lstp c x) l
/-- what a carrier with a load leaves -/
def tn (c : Nat) : List Bool → List Bool
  | [] => []
  | x :: l => (!x && decide (0 < c)) :: tn (lstp c x) l
/-- balls less empty boxes -/
def drf : List Bool → Int
  | [] => 0
  | x :: l => (if x then 1 else -1) + drf l
def cturn (l : List Bool) : List Bool := tn (lend 0 l) l

theorem lend_max : ∀ (l : List Bool) (c : Nat), ((lend c l : Nat) : Int) = max ((c : Int) + drf l) (lend 0 l : Nat)
  | [], c => by simp only [lend, drf]; omega
  | x :: l, c => by
    have h1 := lend_max l (lstp c x)
    have h2 := lend_max l (lstp 0 x)
    have h0 := lend_max l 0
    simp only [lend, drf]
    rw [h1, h2]
    cases x
    · simp only [lstp]; simp at *; omega
    · simp only [lstp]; simp at *; omega
theorem lend_app (c : Nat) (a b : List Bool) : lend c (a ++ b) = lend (lend c a) b := by
  induction a generalizing c with
  | nil => rfl
  | cons x a ih => exact ih _
theorem tn_app (c : Nat) (a b : List Bool) : tn c (a ++ b) = tn c a ++ tn (lend c a) b := by
  induction a generalizing c with
  | nil => rfl
  | cons x a ih => simp only [List.cons_append, tn, lend, ih]
theorem drf_app (a b : List Bool) : drf (a ++ b) = drf a + drf b := by
  induction a with
  | nil => simp [drf]
  | cons x a ih => simp only [List.cons_append, drf, ih]; omega
theorem tn_length (c : Nat) (l : List Bool) : (tn c l).length = l.length := by
  induction l generalizing c with
  | nil => rfl
  | cons x l ih => simp only [tn, List.length_cons, ih]
theorem lend_stays {l : List Bool} (h : drf l < 0) : lend (lend 0 l) l = lend 0 l := by
  have := lend_max l (lend 0 l)
  omega
theorem lend_one {l : List Bool} (h : drf l < 0) {c : Nat} (hc : lend c l = c) : c = lend 0 l := by
  have := lend_max l c
  omega
/-- loads and balls -/
theorem tn_drf (c : Nat) (l : List Bool) : (c : Int) * 2 + drf l = (lend c l : Nat) * 2 + drf (tn c l) := by
  induction l generalizing c with
  | nil => simp only [lend, tn, drf]
  | cons x l ih =>
    have h := ih (lstp c x)
    simp only [lend, tn, drf]
    cases x
    · cases c with
      | zero => simp only [lstp] at h ⊢; simp at h ⊢; omega
      | succ k =>
        have e : lstp (k + 1) false = k := by simp [lstp]
        rw [e] at h ⊢
        have e2 : (!false && decide (0 < k + 1)) = true := by simp
        rw [e2]
        simp only [if_true, Bool.false_eq_true, if_false]
        omega
    · have e : lstp c true = c + 1 := by simp [lstp]
      rw [e] at h ⊢
      have e2 : (!true && decide (0 < c)) = false := by simp
      rw [e2]
      simp only [if_true, Bool.false_eq_true, if_false]
      omega
theorem cturn_drf {l : List Bool} (h : drf l < 0) : drf (cturn l) = drf l := by
  have := tn_drf (lend 0 l) l
  rw [lend_stays h] at this
  unfold cturn
  omega
theorem cturn_length (l : List Bool) : (cturn l).length = l.length := tn_length _ _
/-- none in the same box -/
theorem tn_apart : ∀ (l : List Bool) (c j : Nat), l[j]? = some true → (tn c l)[j]? = some false
  | [], _, j, h => by simp at h
  | x :: l, c, 0, h => by
    have hx : x = true := by simpa using h
    subst hx
    simp [tn]
  | x :: l, c, j + 1, h => by
    have := tn_apart l (lstp c x) j (by simpa using h)
    simpa [tn] using this
/-- a turned rotation -/
theorem cturn_rot {a b : List Bool} (h : drf (a ++ b) < 0) : ∃ a' b', cturn (a ++ b) = a' ++ b' ∧ cturn (b ++ a) = b' ++ a' ∧ a'.length = a.length := by
  have hd : drf (b ++ a) < 0 := by rw [drf_app] at h ⊢; omega
  have hs := lend_stays h
  rw [lend_app _ a b] at hs
  have hc : lend (lend (lend 0 (a ++ b)) a) (b ++ a) = lend (lend 0 (a ++ b)) a := by rw [lend_app, hs]
  have hc' := lend_one hd hc
  refine ⟨tn (lend 0 (a ++ b)) a, tn (lend (lend 0 (a ++ b)) a) b, tn_app _ _ _, ?_, tn_length _ _⟩
  unfold cturn
  rw [← hc', tn_app, hs]
/-- the carrier that goes the other way -/
theorem tn_back : ∀ (l : List Bool) (c : Nat), lend (lend c l) (tn c l).reverse = c ∧ tn (lend c l) (tn c l).reverse = l.reverse
  | [], c => ⟨rfl, rfl⟩
  | x :: l, c => by
    obtain ⟨h1, h2⟩ := tn_back l (lstp c x)
    have e : (tn c (x :: l)).reverse = (tn (lstp c x) l).reverse ++ [!x && decide (0 < c)] := by simp only [tn, List.reverse_cons]
    have e2 : lend c (x :: l) = lend (lstp c x) l := rfl
    rw [e, e2, lend_app, tn_app, h1, h2, List.reverse_cons]
    cases x
    · by_cases h : 0 < c
      · refine ⟨?_, ?_⟩
        · simp [lend, lstp, h]; omega
        · simp [tn, lstp, h]
      · refine ⟨?_, ?_⟩
        · simp [lend, lstp, h]; omega
        · simp [tn, lstp, h]; omega
    · refine ⟨?_, ?_⟩
      · simp [lend, lstp]
      · simp [tn, lstp]
theorem drf_rev (l : List Bool) : drf l.reverse = drf l := by
  induction l with
  | nil => rfl
  | cons x l ih => rw [List.reverse_cons, drf_app, ih]; simp only [drf]; omega
/-- P44: the turn of the turn, read the other way -/
theorem cturn_back {l : List Bool} (h : drf l < 0) : cturn (cturn l).reverse = l.reverse := by
  obtain ⟨h1, h2⟩ := tn_back l (lend 0 l)
  rw [lend_stays h] at h1 h2
  have hd : drf (cturn l).reverse < 0 := by rw [drf_rev, cturn_drf h]; exact h
  have hc := lend_one hd (c := lend 0 l) h1
  show tn (lend 0 (cturn l).reverse) (cturn l).reverse = l.reverse
  rw [← hc]
  exact h2
/-- P45 -/
theorem cback_turn {l : List Bool} (h : drf l < 0) : cturn (cturn l.reverse).reverse = l := by
  have := cturn_back (l := l.reverse) (by rw [drf_rev]; exact h)
  rwa [List.reverse_reverse] at this
theorem cturn_inj {a b : List Bool} (ha : drf a < 0) (hb : drf b < 0) (h : cturn a = cturn b) : a = b := by
  have h1 := cturn_back ha
  have h2 := cturn_back hb
  rw [h, h2] at h1
  exact (List.reverse_inj.1 h1).symm
end Go.Proofs.Ytlgceccbjkkeiab

/- WAVES: runs and gaps, the row of a wave, the next wave. Pure: no walk. -/
namespace Go.Proofs.Ytlgceccbjkkeiab

/-- runs with the gaps behind them, the last one with none -/
def zp : List Nat → List Nat → List (Nat × Nat)
  | [], _ => []
  | r :: rs, G => (r, G.headD 0) :: zp rs G.tail
theorem zp_fst : ∀ (R G : List Nat), (zp R G).map (·.1) = R
  | [], _ => rfl
  | r :: rs, G => by show r :: (zp rs G.tail).map (·.1) = _; rw [zp_fst rs G.tail]
theorem zp_snd : ∀ (R G : List Nat), R.length = G.length + 1 → (zp R G).map (·.2) = G ++ [0]
  | [], _, h => by simp at h
  | [r], G, h => by
    have : G = [] := by simpa using h
    subst this
    rfl
  | r :: r2 :: rs, [], h => by simp at h
  | r :: r2 :: rs, g :: G, h => by
    show g :: (zp (r2 :: rs) G).map (·.2) = _
    rw [zp_snd (r2 :: rs) G (by simp at h ⊢; omega)]
    rfl
theorem zp_drop {R G : List Nat} (h : R.length = G.length + 1) : ((zp R G).map (·.2)).dropLast = G := by rw [zp_snd R G h]; simp
theorem zp_good : ∀ (R G : List Nat), R.length = G.length + 1 → (∀ x ∈ R, 1 ≤ x) → (∀ x ∈ G, 1 ≤ x) → good (zp R G)
  | [], _, h, _, _ => by simp at h
  | [r], G, h, h1, _ => ⟨h1 r (List.mem_cons_self ..), fun e => absurd rfl e, trivial⟩
  | r :: r2 :: rs, [], h, _, _ => by simp at h
  | r :: r2 :: rs, g :: G, h, h1, h2 =>
    ⟨h1 r (List.mem_cons_self ..), fun _ => h2 g (List.mem_cons_self ..), zp_good (r2 :: rs) G (by simp at h ⊢; omega) (fun x hx => h1 x (List.mem_cons_of_mem _ hx)) (fun x hx => h2 x (List.mem_cons_of_mem _ hx))⟩
/-- the boxes of a wave -/
def wvB (st : Nat) (R G : List Nat) : List Bool := List.replicate st false ++ wb (zp R G)
theorem rr_wv {st : Nat} {R G : List Nat} (h : R.length = G.length + 1) (h1 : ∀ x ∈ R, 1 ≤ x) (h2 : ∀ x ∈ G, 1 ≤ x) : rr (wvB st R G) = (R, G) := by
  unfold wvB
  rw [rr_blocks (zp_good R G h h1 h2), zp_fst, zp_drop h]
/-- the last box of a wave has a ball -/
theorem wb_last : ∀ (R G : List Nat), R.length = G.length + 1 → (∀ x ∈ R, 1 ≤ x) → ∃ m, wb (zp R G) = m ++ [true]
  | [], _, h, _ => by simp at h
  | [r], G, h, h1 => by
    have : G = [] := by simpa using h
    subst this
    obtain ⟨k, rfl⟩ : ∃ k, r = k + 1 := ⟨r - 1, by have := h1 r (List.mem_cons_self ..); omega⟩
    refine ⟨List.replicate k true, ?_⟩
    show List.replicate (k + 1) true ++ (List.replicate 0 false ++ []) = _
    rw [List.replicate_succ']
    simp
  | r :: r2 :: rs, [], h, _ => by simp at h
  | r :: r2 :: rs, g :: G, h, h1 => by
    obtain ⟨m, hm⟩ := wb_last (r2 :: rs) G (by simp at h ⊢; omega) (fun x hx => h1 x (List.mem_cons_of_mem _ hx))
    refine ⟨List.replicate r true ++ (List.replicate g false ++ m), ?_⟩
    show List.replicate r true ++ (List.replicate g false ++ wb (zp (r2 :: rs) G)) = _
    rw [hm]
    simp
theorem cut_last (m : List Bool) : cut (m ++ [true]) = m ++ [true] := by
  unfold cut
  rw [tl_snoc, if_pos rfl, List.take_of_length_le (by simp)]
theorem cut_zeros (l : List Bool) (n : Nat) : cut (l ++ List.replicate n false) = cut l := by
  induction n with
  | zero => simp
  | succ n ih =>
    rw [List.replicate_succ', ← List.append_assoc]
    rw [← ih]
    unfold cut
    rw [tl_snoc]
    simp only [Bool.false_eq_true, if_false]
    exact List.take_append_of_le_length (tl_le _)
theorem cut_wv {st : Nat} {R G : List Nat} (h : R.length = G.length + 1) (h1 : ∀ x ∈ R, 1 ≤ x) : cut (wvB st R G) = wvB st R G := by
  obtain ⟨m, hm⟩ := wb_last R G h h1
  unfold wvB
  rw [hm, ← List.append_assoc]
  exact cut_last _
/-- the empty boxes ahead of the first ball -/
def lz : List Bool → Nat
  | [] => 0
  | b :: l => if b then 0 else lz l + 1
theorem lz_rep (n : Nat) (l : List Bool) : lz (List.replicate n false ++ l) = n + lz l := by
  induction n with
  | zero => simp
  | succ n ih =>
    rw [List.replicate_succ, List.cons_append]
    show (if false then 0 else lz _ + 1) = _
    rw [ih]
    simp
    omega
theorem lz_wv {st : Nat} {R G : List Nat} (h : R.length = G.length + 1) (h1 : ∀ x ∈ R, 1 ≤ x) : lz (wvB st R G) = st := by
  unfold wvB
  rw [lz_rep]
  cases R with
  | nil => simp at h
  | cons r rs =>
    obtain ⟨k, rfl⟩ : ∃ k, r = k + 1 := ⟨r - 1, by have := h1 r (List.mem_cons_self ..); omega⟩
    show st + lz (List.replicate (k + 1) true ++ _) = st
    rw [List.replicate_succ]
    rfl
theorem zp_map : ∀ (ps : List (Nat × Nat)), ps ≠ [] → ∃ n, wb ps = wb (zp (ps.map (·.1)) (ps.map (·.2)).dropLast) ++ List.replicate n false
  | [], h => absurd rfl h
  | [p], _ => ⟨p.2, by show List.replicate p.1 true ++ (List.replicate p.2 false ++ []) = (List.replicate p.1 true ++ (List.replicate 0 false ++ [])) ++ List.replicate p.2 false; simp⟩
  | p :: q :: ps, _ => by
    obtain ⟨n, hn⟩ := zp_map (q :: ps) (by simp)
    refine ⟨n, ?_⟩
    show List.replicate p.1 true ++ (List.replicate p.2 false ++ wb (q :: ps)) = (List.replicate p.1 true ++ (List.replicate p.2 false ++ wb (zp ((q :: ps).map (·.1)) ((q :: ps).map (·.2)).dropLast))) ++ List.replicate n false
    rw [hn]
    simp
theorem good_snd : ∀ (ps : List (Nat × Nat)), good ps → ∀ x ∈ (ps.map (·.2)).dropLast, 1 ≤ x
  | [], _, x, hx => by simp at hx
  | [p], _, x, hx => by simp at hx
  | p :: q :: ps, h, x, hx => by
    have hx' : x ∈ p.2 :: ((q :: ps).map (·.2)).dropLast := hx
    rcases List.mem_cons.1 hx' with rfl | hx'
    · exact h.2.1 (by simp)
    · exact good_snd (q :: ps) h.2.2 x hx'
theorem good_fst : ∀ (ps : List (Nat × Nat)), good ps → ∀ x ∈ ps.map (·.1), 1 ≤ x
  | [], _, x, hx => by simp at hx
  | p :: ps, h, x, hx => by
    rcases List.mem_cons.1 hx with rfl | hx
    · exact h.1
    · exact good_fst ps h.2.2 x hx
/-- P51: a row with a ball is the row of its wave, up to its last ball -/
theorem wv_of {l : List Bool} (hb : nballs l ≠ 0) : (rr l).1.length = (rr l).2.length + 1 ∧ (∀ x ∈ (rr l).1, 1 ≤ x) ∧ (∀ x ∈ (rr l).2, 1 ≤ x) ∧ cut l = wvB (lz l) (rr l).1 (rr l).2 := by
  obtain ⟨g, ps, hg, rfl⟩ := blocks l
  have hne : ps ≠ [] := by
    rintro rfl
    apply hb
    unfold nballs
    show (List.replicate g false ++ []).count true = 0
    rw [List.append_nil, List.count_replicate]
    simp
  rw [rr_blocks hg]
  have h1 : (ps.map (·.1)).length = ((ps.map (·.2)).dropLast).length + 1 := by
    rw [List.length_map, List.length_dropLast, List.length_map]
    have := List.length_pos_iff.2 hne
    omega
  obtain ⟨n, hn⟩ := zp_map ps hne
  have e : List.replicate g false ++ wb ps = wvB g (ps.map (·.1)) (ps.map (·.2)).dropLast ++ List.replicate n false := by
    rw [hn]; unfold wvB; simp
  refine ⟨h1, good_fst ps hg, good_snd ps hg, ?_⟩
  have hlz : lz (List.replicate g false ++ wb ps) = g := by
    rw [lz_rep]
    cases ps with
    | nil => exact absurd rfl hne
    | cons p ps =>
      obtain ⟨k, hk⟩ : ∃ k, p.1 = k + 1 := ⟨p.1 - 1, by have := hg.1; omega⟩
      show g + lz (List.replicate p.1 true ++ _) = g
      rw [hk, List.replicate_succ]
      rfl
  rw [hlz, e, cut_zeros, cut_wv h1 (good_fst ps hg)]

/-! ### the next wave -/
def nxR (c : Nat) : List Nat → List Nat → List Nat
  | [], _ => []
  | r :: rs, [] => (c + r) :: nxR 0 rs []
  | r :: rs, g :: G => min g (c + r) :: nxR (c + r - min g (c + r)) rs G
def nxG (c : Nat) : List Nat → List Nat → List Nat
  | r :: r2 :: rs, g :: G => (r2 + g - min g (c + r)) :: nxG (c + r - min g (c + r)) (r2 :: rs) G
  | _, _ => []
theorem nx_length : ∀ (R G : List Nat) (c : Nat), R.length = G.length + 1 → (nxR c R G).length = R.length ∧ (nxG c R G).length = G.length
  | [], _, _, h => by simp at h
  | [r], [], c, _ => ⟨rfl, rfl⟩
  | [r], g :: G, c, h => by simp at h
  | r :: r2 :: rs, [], c, h => by simp at h
  | r :: r2 :: rs, g :: G, c, h => by
    obtain ⟨h1, h2⟩ := nx_length (r2 :: rs) G (c + r - min g (c + r)) (by simp at h ⊢; omega)
    exact ⟨by show (nxR _ (r2 :: rs) G).length + 1 = _; rw [h1]; rfl, by show (nxG _ (r2 :: rs) G).length + 1 = _; rw [h2]; rfl⟩
theorem nx_sum : ∀ (R G : List Nat) (c : Nat), R.length = G.length + 1 → (nxR c R G).sum = c + R.sum
  | [], _, _, h => by simp at h
  | [r], [], c, _ => by simp [nxR]
  | [r], g :: G, c, h => by simp at h
  | r :: r2 :: rs, [], c, h => by simp at h
  | r :: r2 :: rs, g :: G, c, h => by
    have h1 := nx_sum (r2 :: rs) G (c + r - min g (c + r)) (by simp at h ⊢; omega)
    show (min g (c + r) :: nxR _ (r2 :: rs) G).sum = _
    have e : (r :: r2 :: rs).sum = r + (r2 :: rs).sum := List.sum_cons
    rw [List.sum_cons, h1, e]
    have := Nat.min_le_right g (c + r)
    omega
theorem nx_pos : ∀ (R G : List Nat) (c : Nat), R.length = G.length + 1 → (∀ x ∈ R, 1 ≤ x) → (∀ x ∈ G, 1 ≤ x) → (∀ x ∈ nxR c R G, 1 ≤ x) ∧ (∀ x ∈ nxG c R G, 1 ≤ x)
  | [], _, _, h, _, _ => by simp at h
  | [r], [], c, _, h1, _ => by
    refine ⟨fun x hx => ?_, fun x hx => by simp [nxG] at hx⟩
    have := h1 r (List.mem_cons_self ..)
    simp [nxR] at hx
    omega
  | [r], g :: G, c, h, _, _ => by simp at h
  | r :: r2 :: rs, [], c, h, _, _ => by simp at h
  | r :: r2 :: rs, g :: G, c, h, h1, h2 => by
    obtain ⟨k1, k2⟩ := nx_pos (r2 :: rs) G (c + r - min g (c + r)) (by simp at h ⊢; omega) (fun x hx => h1 x (List.mem_cons_of_mem _ hx)) (fun x hx => h2 x (List.mem_cons_of_mem _ hx))
    have r1 := h1 r (List.mem_cons_self ..)
    have r21 := h1 r2 (List.mem_cons_of_mem _ (List.mem_cons_self ..))
    have g1 := h2 g (List.mem_cons_self ..)
    refine ⟨fun x hx => ?_, fun x hx => ?_⟩
    · rcases List.mem_cons.1 (show x ∈ min g (c + r) :: nxR _ (r2 :: rs) G from hx) with rfl | hx
      · omega
      · exact k1 x hx
    · rcases List.mem_cons.1 (show x ∈ (r2 + g - min g (c + r)) :: nxG _ (r2 :: rs) G from hx) with rfl | hx
      · omega
      · exact k2 x hx
theorem tn_run (r c : Nat) (l : List Bool) : tn c (List.replicate r true ++ l) = List.replicate r false ++ tn (c + r) l := by
  induction r generalizing c with
  | zero => simp
  | succ r ih =>
    rw [List.replicate_succ, List.cons_append]
    show (!true && decide (0 < c)) :: tn (lstp c true) (List.replicate r true ++ l) = _
    have e : lstp c true = c + 1 := rfl
    rw [e, ih (c + 1), List.replicate_succ, List.cons_append, show c + 1 + r = c + (r + 1) by omega]
    rfl
theorem tn_gap (g c : Nat) (l : List Bool) : tn c (List.replicate g false ++ l) = List.replicate (min g c) true ++ (List.replicate (g - min g c) false ++ tn (c - min g c) l) := by
  induction g generalizing c with
  | zero => simp
  | succ g ih =>
    rw [List.replicate_succ, List.cons_append]
    show (!false && decide (0 < c)) :: tn (lstp c false) (List.replicate g false ++ l) = _
    have e : lstp c false = c - 1 := rfl
    rw [e, ih (c - 1)]
    by_cases h : 0 < c
    · obtain ⟨k, rfl⟩ : ∃ k, c = k + 1 := ⟨c - 1, by omega⟩
      rw [show k + 1 - 1 = k by omega, show min (g + 1) (k + 1) = min g k + 1 by omega, List.replicate_succ, show g + 1 - (min g k + 1) = g - min g k by omega, show k + 1 - (min g k + 1) = k - min g k by omega]
      simp
    · have h0 : c = 0 := by omega
      subst h0
      simp [List.replicate_succ]
theorem tn_wv : ∀ (R G : List Nat) (c m : Nat), R.length = G.length + 1 → c + R.sum ≤ m → ∃ m', tn c (wb (zp R G) ++ List.replicate m false) = List.replicate (R.headD 0) false ++ (wb (zp (nxR c R G) (nxG c R G)) ++ List.replicate m' false)
  | [], _, _, _, h, _ => by simp at h
  | [r], [], c, m, _, hm => by
    refine ⟨m - (c + r), ?_⟩
    show tn c ((List.replicate r true ++ (List.replicate 0 false ++ [])) ++ List.replicate m false) = List.replicate r false ++ ((List.replicate (c + r) true ++ (List.replicate 0 false ++ [])) ++ _)
    simp only [List.replicate_zero, List.append_nil]
    rw [tn_run]
    have h2 : min m (c + r) = c + r := by simp at hm; omega
    have h1 := tn_gap m (c + r) []
    rw [List.append_nil, h2, show c + r - (c + r) = 0 by omega] at h1
    rw [h1]
    simp [tn]
  | [r], g :: G, c, m, h, _ => by simp at h
  | r :: r2 :: rs, [], c, m, h, _ => by simp at h
  | r :: r2 :: rs, g :: G, c, m, h, hm => by
    have hle := Nat.min_le_right g (c + r)
    obtain ⟨m', ih⟩ := tn_wv (r2 :: rs) G (c + r - min g (c + r)) m (by simp at h ⊢; omega) (by rw [List.sum_cons] at hm; omega)
    refine ⟨m', ?_⟩
    show tn c ((List.replicate r true ++ (List.replicate g false ++ wb (zp (r2 :: rs) G))) ++ List.replicate m false) = List.replicate r false ++ ((List.replicate (min g (c + r)) true ++ (List.replicate (r2 + g - min g (c + r)) false ++ wb (zp (nxR _ (r2 :: rs) G) (nxG _ (r2 :: rs) G)))) ++ List.replicate m' false)
    rw [List.append_assoc, List.append_assoc, tn_run, tn_gap, ih]
    have e : r2 + g - min g (c + r) = (g - min g (c + r)) + r2 := by have := Nat.min_le_left g (c + r); omega
    have e2 : List.replicate (g - min g (c + r) + r2) false = List.replicate (g - min g (c + r)) false ++ List.replicate r2 false := List.replicate_append_replicate.symm
    rw [e, e2]
    simp only [List.append_assoc, List.headD_cons]
/-- P53: the row behind a step of a wave's row -/
theorem tn_wave {st : Nat} {R G : List Nat} (h : R.length = G.length + 1) (h1 : ∀ x ∈ R, 1 ≤ x) (h2 : ∀ x ∈ G, 1 ≤ x) (m : Nat) (hm : R.sum ≤ m) :
    cut (tn 0 (wvB st R G ++ List.replicate m false)) = wvB (st + R.headD 0) (nxR 0 R G) (nxG 0 R G) := by
  obtain ⟨m', e⟩ := tn_wv R G 0 m h (by omega)
  unfold wvB
  have h0 := tn_gap st 0 (wb (zp R G) ++ List.replicate m false)
  rw [show min st 0 = 0 by omega] at h0
  rw [List.append_assoc, h0, Nat.sub_zero, Nat.sub_zero, e]
  rw [List.replicate_zero, List.nil_append, ← List.append_assoc, List.replicate_append_replicate, ← List.append_assoc]
  rw [cut_zeros]
  obtain ⟨k1, k2⟩ := nx_length R G 0 h
  exact cut_wv (st := st + R.headD 0) (by rw [k1, k2, h]) (nx_pos R G 0 h h1 h2).1
end Go.Proofs.Ytlgceccbjkkeiab

/- CIRCLES. Pure: no walk. Neighbours are taken out; the rounds of a circle and of its turn. -/
namespace Go.Proofs.Ytlgceccbjkkeiab

def hd (l : List Bool) (q : Bool) : Bool := l.head?.getD q
def ls (p : Bool) : List Bool → Bool
  | [] => p
  | x :: l => ls x l
/-- without neighbours of a ball and an empty box behind it; p, q: the signs ahead and behind -/
def k10 (p : Bool) : List Bool → Bool → List Bool
  | [], _ => []
  | x :: l, q => if (if x then hd l q else !p) then x :: k10 x l q else k10 x l q
/-- without neighbours of an empty box and a ball behind it -/
def k01 (p : Bool) : List Bool → Bool → List Bool
  | [], _ => []
  | x :: l, q => if (if x then p else !(hd l q)) then x :: k01 x l q else k01 x l q
/-- one sign for each two neighbours that are the same -/
def aj (p : Bool) : List Bool → List Bool
  | [] => []
  | x :: l => if p = x then x :: aj x l else aj x l
def one (b : Bool) (x : Bool) : List Bool := if b then [x] else []

theorem k10_aj : ∀ (l : List Bool) (p q : Bool), one (p && hd l q) true ++ k10 p l q = aj p l ++ one (ls p l && q) true
  | [], p, q => by simp [hd, k10, aj, ls]
  | x :: l, p, q => by
    have ih := k10_aj l x q
    have e : hd (x :: l) q = x := rfl
    rw [e]
    simp only [k10, aj, ls]
    obtain ⟨h, hh⟩ : ∃ h, h = hd l q := ⟨_, rfl⟩
    rw [← hh] at ih ⊢
    cases x <;> cases p <;> cases h <;> simp [one] at ih ⊢ <;> simpa using ih
theorem k01_aj : ∀ (l : List Bool) (p q : Bool), one (!p && !(hd l q)) false ++ k01 p l q = aj p l ++ one (!(ls p l) && !q) false
  | [], p, q => by simp [hd, k01, aj, ls]
  | x :: l, p, q => by
    have ih := k01_aj l x q
    have e : hd (x :: l) q = x := rfl
    rw [e]
    simp only [k01, aj, ls]
    obtain ⟨h, hh⟩ : ∃ h, h = hd l q := ⟨_, rfl⟩
    rw [← hh] at ih ⊢
    cases x <;> cases p <;> cases h <;> simp [one] at ih ⊢ <;> simpa using ih

/-- round the circle -/
def c10 (l : List Bool) : List Bool := k10 (ls false l) l (hd l false)
def c01 (l : List Bool) : List Bool := k01 (ls false l) l (hd l false)
def caj (l : List Bool) : List Bool := aj (ls false l) l
/-- rotations -/
def Rot (l l' : List Bool) : Prop := ∃ a b, l = a ++ b ∧ l' = b ++ a
theorem Rot.refl (l : List Bool) : Rot l l := ⟨l, [], by simp, by simp⟩
theorem Rot.length {l l' : List Bool} (h : Rot l l') : l.length = l'.length := by
  obtain ⟨a, b, rfl, rfl⟩ := h
  simp; omega
theorem ls_app (p : Bool) (a b : List Bool) : ls p (a ++ b) = ls (ls p a) b := by
  induction a generalizing p with
  | nil => rfl
  | cons x a ih => exact ih _
theorem ls_cons (p p' : Bool) {l : List Bool} (h : l ≠ []) : ls p l = ls p' l := by
  cases l with
  | nil => exact absurd rfl h
  | cons x l => rfl
theorem aj_app (p : Bool) (a b : List Bool) : aj p (a ++ b) = aj p a ++ aj (ls p a) b := by
  induction a generalizing p with
  | nil => rfl
  | cons x a ih =>
    simp only [List.cons_append, aj, ls, ih]
    split <;> rfl
theorem caj_rot {l l' : List Bool} (h : Rot l l') : Rot (caj l) (caj l') := by
  obtain ⟨a, b, rfl, rfl⟩ := h
  by_cases ha : a = []
  · subst ha; simp; exact Rot.refl _
  · by_cases hb : b = []
    · subst hb; simp; exact Rot.refl _
    · unfold caj
      rw [aj_app, aj_app, ls_app, ls_app]
      refine ⟨_, _, rfl, ?_⟩
      rw [ls_cons (ls false b) (ls (ls false a) b) ha, ls_cons (ls (ls (ls false a) b) a) (ls false a) hb]
theorem rot_of {x : Bool} {k a : List Bool} (h : x :: k = a ++ [x]) : Rot k a := by
  cases a with
  | nil => cases k with
    | nil => exact Rot.refl _
    | cons y k => simp at h
  | cons y a =>
    simp at h
    obtain ⟨rfl, rfl⟩ := h
    exact ⟨a, [x], rfl, rfl⟩
theorem c10_rot (l : List Bool) : Rot (c10 l) (caj l) := by
  have h := k10_aj l (ls false l) (hd l false)
  have e : ls (ls false l) l = ls false l := by cases l <;> rfl
  rw [e] at h
  have e2 : hd l (hd l false) = hd l false := by cases l <;> rfl
  rw [e2] at h
  unfold c10 caj
  cases hb : (ls false l && hd l false)
  · rw [hb] at h
    simp [one] at h
    rw [h]
    exact Rot.refl _
  · rw [hb] at h
    simp only [one, if_true, List.cons_append, List.nil_append] at h
    exact rot_of h
theorem c01_rot (l : List Bool) : Rot (c01 l) (caj l) := by
  have h := k01_aj l (ls false l) (hd l false)
  have e : ls (ls false l) l = ls false l := by cases l <;> rfl
  rw [e] at h
  have e2 : hd l (hd l false) = hd l false := by cases l <;> rfl
  rw [e2] at h
  unfold c01 caj
  cases hb : (!(ls false l) && !(hd l false))
  · rw [hb] at h
    simp [one] at h
    rw [h]
    exact Rot.refl _
  · rw [hb] at h
    simp only [one, if_true, List.cons_append, List.nil_append] at h
    exact rot_of h

/-- the numbers of pairs, round for round -/
def cnt10 : Nat → List Bool → List Nat
  | 0, _ => []
  | f + 1, l => if (c10 l).length = l.length then [] else (l.length - (c10 l).length) / 2 :: cnt10 f (c10 l)
def cnt01 : Nat → List Bool → List Nat
  | 0, _ => []
  | f + 1, l => if (c01 l).length = l.length then [] else (l.length - (c01 l).length) / 2 :: cnt01 f (c01 l)
def cntaj : Nat → List Bool → List Nat
  | 0, _ => []
  | f + 1, l => if (caj l).length = l.length then [] else (l.length - (caj l).length) / 2 :: cntaj f (caj l)
theorem cntaj_rot : ∀ (f : Nat) {l l' : List Bool}, Rot l l' → cntaj f l = cntaj f l'
  | 0, _, _, _ => rfl
  | f + 1, l, l', h => by
    simp only [cntaj]
    rw [h.length, (caj_rot h).length, cntaj_rot f (caj_rot h)]
theorem cnt10_aj : ∀ (f : Nat) (l : List Bool), cnt10 f l = cntaj f l
  | 0, _ => rfl
  | f + 1, l => by
    simp only [cnt10, cntaj]
    rw [(c10_rot l).length, cnt10_aj f, cntaj_rot f (c10_rot l)]
theorem cnt01_aj : ∀ (f : Nat) (l : List Bool), cnt01 f l = cntaj f l
  | 0, _ => rfl
  | f + 1, l => by
    simp only [cnt01, cntaj]
    rw [(c01_rot l).length, cnt01_aj f, cntaj_rot f (c01_rot l)]
/-- P46: a rotated circle has the same rounds -/
theorem cnt10_rot (f : Nat) {l l' : List Bool} (h : Rot l l') : cnt10 f l = cnt10 f l' := by
  rw [cnt10_aj, cnt10_aj, cntaj_rot f h]
end Go.Proofs.Ytlgceccbjkkeiab
