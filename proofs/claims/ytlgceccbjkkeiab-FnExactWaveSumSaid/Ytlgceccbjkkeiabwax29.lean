/- TEXTS SShape. -/
import Derived.Test.Ytlgceccbjkkeiabwax28
import Derived.Test.Ytlgceccbjkkeiabwax24
import Derived.Test.Ytlgceccbjkkeiabwax22
/- WHAT SHAPES SAY OF TEXTS: steps keep them, energies, rounds, runs, rows that are apart, in time. -/
namespace Go.Proofs.Ytlgceccbjkkeiab
open Go.RowKit

theorem nballs_size (s : ByteArray) : nballs (bits s) ≤ s.size := by
  have h1 := nballs_le (bits s) s.size
  rw [List.take_of_length_le (by rw [length_bits]; exact Nat.le_refl _)] at h1
  exact h1
theorem ni_sum (l : List Nat) : (ni l).sum = ((l.sum : Nat) : Int) := by
  induction l with
  | nil => rfl
  | cons x t ih => show (x : Int) + (ni t).sum = _; rw [ih, List.sum_cons]; omega
theorem ni_reverse (l : List Nat) : ni l.reverse = (ni l).reverse := by unfold ni; rw [List.map_reverse]
/-- P19 -/
theorem shape_facts (s : ByteArray) : (∀ x ∈ shB3 (bits s), 1 ≤ x) ∧ Falls (shB3 (bits s)) ∧ (shB3 (bits s)).sum = nballs (bits s) := by
  have h := rdB_falls (bits s)
  exact ⟨shp_pos h, shp_falls _, by unfold shB3; rw [shp_sum h, rdB_total]⟩
theorem shape_step {s : ByteArray} {n : Int} (h : stOk s n = true) : shB3 (bits (stS s n)) = shB3 (bits s) := by
  unfold shB3
  rw [rdB_step (room_pos (tkOk_iff (stOk_tk h)).2) (bits s) _ (bx_stS h)]
theorem shR_step {s : ByteArray} {n : Int} (h : stOk s n = true) : shR (stS s n) = shR s := by
  unfold shR; rw [vld_stS h, (tkOk_iff (stOk_tk h)).1, shape_step h]

theorem wb_runs : ∀ ps : List (Nat × Nat), good ps → 2 * ps.length ≤ (wb ps).length + 1 := by
  intro ps
  induction ps with
  | nil => intro _; exact Nat.zero_le _
  | cons p ps ih =>
    intro ⟨h1, h2, h3⟩
    have i := ih h3
    have e : (wb (p :: ps)).length = p.1 + (p.2 + (wb ps).length) := by
      show (List.replicate p.1 true ++ (List.replicate p.2 false ++ wb ps)).length = _
      simp
    rw [e, List.length_cons]
    cases ps with
    | nil => simp at i ⊢; omega
    | cons q qs => have := h2 (by simp); omega
theorem runs_few (l : List Bool) : 2 * (rr l).1.length ≤ l.length + 1 := by
  obtain ⟨g, ps, hg, rfl⟩ := blocks l
  rw [rr_blocks hg, List.length_map, List.length_append, List.length_replicate]
  have := wb_runs ps hg
  omega
theorem rdB_head (l : List Bool) : (rdB l).headD 0 = tk 1 (bx l) l.length := by
  have h := rdB_sum l 1
  rw [← h]
  cases rdB l with
  | nil => rfl
  | cons x t => simp
theorem shB3_length (l : List Bool) : (shB3 l).length = tk 1 (bx l) l.length := by unfold shB3; rw [shp_length, rdB_head]
theorem tkN_one {s : ByteArray} (hv : vld s = true) : tkOk s 1 = true ∧ tkN s 1 = (tk 1 (bx (bits s)) (bits s).length : Int) := by
  have h : tkOk s 1 = true := by unfold tkOk; rw [hv]; rfl
  refine ⟨h, ?_⟩
  unfold tkN
  rw [h, if_pos rfl, length_bits]; rfl
/-- P20 -/
theorem energy_shape {s : ByteArray} {n : Int} (h : tkOk s n = true) : enOk (shR s) n = true ∧ enN (shR s) n = tkN s n := by
  obtain ⟨hv, hr⟩ := tkOk_iff h
  obtain ⟨f1, f2, f3⟩ := shape_facts s
  have h120 := vld_le s hv
  have e : shR s = ni (shB3 (bits s)) := by unfold shR; rw [hv, if_pos rfl]
  have hlen : (shB3 (bits s)).length ≤ 100 := by
    rw [shB3_length, ← (runs_energy (bits s)).1]
    have := runs_few (bits s)
    rw [length_bits] at this
    omega
  have hall : (ni (shB3 (bits s))).all szOk = true := by
    rw [List.all_eq_true]
    intro x hx
    unfold ni at hx
    obtain ⟨y, hy, rfl⟩ := List.mem_map.1 hx
    have a := f1 y hy
    have b := mem_le_sum _ y hy
    rw [f3] at b
    have c := nballs_size s
    unfold szOk; simp; omega
  have hok : enOk (shR s) n = true := by
    unfold enOk; rw [e, hr, hall, ni_length, decide_eq_true hlen]; rfl
  refine ⟨hok, ?_⟩
  unfold enN
  rw [hok, if_pos rfl, e]
  have hn0 : 1 ≤ n := by unfold roomOk at hr; simp at hr; omega
  have key : ∀ l : List Nat, enSum (ni l) n = (((l.map fun x => min x n.toNat).sum : Nat) : Int) := by
    intro l
    induction l with
    | nil => rfl
    | cons x t ih =>
      have e1 : enSum (ni (x :: t)) n = min (x : Int) n + enSum (ni t) n := by unfold enSum ni; simp
      rw [e1, ih, List.map_cons, List.sum_cons]
      omega
  rw [key]
  unfold shB3
  rw [shp_min (rdB_falls (bits s)), rdB_sum, length_bits]
  unfold tkN
  rw [h, if_pos rfl]
/-- P21 -/
theorem rounds_facts (s : ByteArray) : Falls (rdB (bits s)) ∧ (∀ x ∈ rdB (bits s), 1 ≤ x) := ⟨rdB_falls _, rds_pos (pad_still _) _⟩
/-- P22 -/
theorem energy_facts {l : List Int} {n : Int} (h : enOk l n = true) : enOk l 200 = true ∧ enN l 200 = l.sum ∧ enN l n ≤ l.sum ∧ enN l n ≤ n * (l.length : Int) ∧ 0 ≤ l.sum ∧ l.sum ≤ 20000 := by
  have h0 := h
  unfold enOk at h0
  rw [Bool.and_eq_true, Bool.and_eq_true] at h0
  obtain ⟨⟨hr, hl⟩, ha⟩ := h0
  have hl2 : l.length ≤ 100 := by simpa using hl
  have h200 : enOk l 200 = true := by unfold enOk; rw [hl, ha]; rfl
  unfold roomOk at hr
  simp at hr
  have key : ∀ l : List Int, l.all szOk = true → enSum l 200 = l.sum ∧ enSum l n ≤ l.sum ∧ enSum l n ≤ n * (l.length : Int) ∧ 0 ≤ l.sum ∧ l.sum ≤ 200 * (l.length : Int) := by
    intro l
    induction l with
    | nil => intro _; simp [enSum]
    | cons x t ih =>
      intro hx
      rw [List.all_cons, Bool.and_eq_true] at hx
      obtain ⟨i1, i2, i3, i4, i5⟩ := ih hx.2
      have h1 := hx.1
      unfold szOk at h1
      simp at h1
      have e : ∀ m : Int, enSum (x :: t) m = min x m + enSum t m := by intro m; unfold enSum; simp
      have e2 : n * (((x :: t).length : Nat) : Int) = n * (t.length : Int) + n := by
        rw [List.length_cons, show ((t.length + 1 : Nat) : Int) = (t.length : Int) + 1 by omega, Int.mul_add, Int.mul_one]
      rw [e, e, e2, List.sum_cons, List.length_cons]
      refine ⟨by omega, by omega, by omega, by omega, by omega⟩
  obtain ⟨k1, k2, k3, k4, k5⟩ := key l ha
  refine ⟨h200, ?_, ?_, ?_, k4, by omega⟩
  · unfold enN; rw [h200, if_pos rfl]; exact k1
  · unfold enN; rw [h, if_pos rfl]; exact k2
  · unfold enN; rw [h, if_pos rfl]; exact k3
/-- P24 -/
theorem apart_facts {s : ByteArray} (h : apOk s = true) : shR s = (rnR s).reverse ∧ (stOk s 200 = true → rnR (stS s 200) = rnR s ∧ apOk (stS s 200) = true) := by
  have h0 := h
  unfold apOk at h0
  rw [Bool.and_eq_true] at h0
  obtain ⟨hv, ha⟩ := h0
  refine ⟨?_, fun hk => ?_⟩
  · unfold shR rnR
    rw [hv, if_pos rfl, if_pos rfl, apart_shape ha, ni_reverse]
  · have hb := nballs_size s
    have h120 := vld_le s hv
    obtain ⟨e1, e2⟩ := apart_step (K := 200) (m := bits (stS s 200)) ha (by omega) (bx_stS hk)
    refine ⟨?_, ?_⟩
    · unfold rnR; rw [vld_stS hk, hv, e1]
    · unfold apOk; rw [vld_stS hk, e2]; rfl

theorem stOk_tidy (s : ByteArray) (n : Int) (hv : vld s = true) : stOk (tidyS s) n = stOk s n ∧ stS (tidyS s) n = stS s n := by
  have hb : bx (bits (tidyS s)) = bx (bits s) := by rw [bits_tidyS, bx_fun_cut]
  have e : ∀ i, bx (stp n.toNat (bits (tidyS s))) i = bx (stp n.toNat (bits s)) i := by intro i; rw [bx_stp, bx_stp, hb]
  have h1 : stOk (tidyS s) n = stOk s n := by unfold stOk; rw [vld_tidyS s hv, hv, tl_ext e]
  refine ⟨h1, ?_⟩
  unfold stS
  rw [h1, cut_ext e]
/-- the text behind k steps with great room, from a text on -/
def itS (s : ByteArray) : Nat → ByteArray
  | 0 => s
  | k + 1 => stS (itS s k) 200
theorem tmF_some : ∀ (f : Nat) (s x : ByteArray) (n : Nat) (r : Int), tmF f x n = (r, true) → x = itS s n → vld x = true → (∀ j, j < n → stOk (itS s j) 200 = true) →
    ∃ m : Nat, r = (m : Int) ∧ m < n + f ∧ apOk (itS s m) = true ∧ (∀ j, j < m → stOk (itS s j) 200 = true) := by
  intro f
  induction f with
  | zero => intro s x n r h _ _ _; cases h
  | succ f ih =>
    intro s x n r h hx hv hall
    have e : tmF (f + 1) x n = if apOk x then ((n : Int), true) else if stOk x 200 then tmF f (stS x 200) (n + 1) else (0, false) := rfl
    rw [e] at h
    by_cases ha : apOk x = true
    · rw [if_pos ha] at h
      injection h with h _
      exact ⟨n, h.symm, by omega, by rw [← hx]; exact ha, hall⟩
    · rw [if_neg ha] at h
      by_cases hk : stOk x 200 = true
      · rw [if_pos hk] at h
        obtain ⟨m, m1, m2, m3, m4⟩ := ih s (stS x 200) (n + 1) r h (by rw [hx]; rfl) (vld_stS hk) (fun j hj => by
          by_cases e : j = n
          · subst e; rw [← hx]; exact hk
          · exact hall j (by omega))
        exact ⟨m, m1, by omega, m3, m4⟩
      · rw [if_neg hk] at h; cases h
/-- P26 -/
theorem time_facts {s : ByteArray} {r : Int} (h : tmR s = (r, true)) : ∃ t : ByteArray, smR s 200 r = (t, true) ∧ t.size ≤ 120 ∧ apOk t = true ∧ shR s = (rnR t).reverse ∧ vld s = true := by
  have hv : vld s = true := by
    cases hv : vld s with
    | true => rfl
    | false => unfold tmR at h; rw [hv] at h; cases h
  unfold tmR at h
  rw [hv, if_pos rfl] at h
  obtain ⟨m, rfl, m2, m3, m4⟩ := tmF_some 61 s s 0 r h rfl hv (fun j hj => by omega)
  have hvt := vld_tidyS s hv
  have hb : bx (bits (tidyS s)) = bx (bits s) := by rw [bits_tidyS, bx_fun_cut]
  -- the steps of the tidied row
  have hsm : ∀ k, k ≤ m → (smT 200 (tidyS s) k).2 = true ∧ (k ≠ 0 → (smT 200 (tidyS s) k).1 = itS s k) ∧ (k = 0 → (smT 200 (tidyS s) k).1 = tidyS s) := by
    intro k
    induction k with
    | zero => intro _; exact ⟨rfl, fun h => absurd rfl h, fun _ => rfl⟩
    | succ k ih =>
      intro hk
      obtain ⟨i1, i2, i3⟩ := ih (by omega)
      have hok := m4 k (by omega)
      have e : stOk (smT 200 (tidyS s) k).1 200 = true ∧ stS (smT 200 (tidyS s) k).1 200 = itS s (k + 1) := by
        by_cases h0 : k = 0
        · rw [i3 h0]
          subst h0
          obtain ⟨a, b⟩ := stOk_tidy s 200 hv
          exact ⟨a.trans hok, b⟩
        · rw [i2 h0]
          exact ⟨hok, rfl⟩
      rw [smT, if_pos i1]
      exact ⟨e.1, fun _ => e.2, fun h => by cases h⟩
  obtain ⟨s1, s2, s3⟩ := hsm m (Nat.le_refl _)
  have hin : smIn s 200 (m : Int) = true := by unfold smIn tkOk; rw [hv]; simp [roomOk]; omega
  have hsh : ∀ k, k ≤ m → shR (itS s k) = shR s := by
    intro k
    induction k with
    | zero => intro _; rfl
    | succ k ih => intro hk; show shR (stS (itS s k) 200) = _; rw [shR_step (m4 k (by omega)), ih (by omega)]
  refine ⟨(smT 200 (tidyS s) m).1, ?_, ?_, ?_, ?_, hv⟩
  · unfold smR; rw [hin, if_pos rfl, Int.toNat_natCast, ← s1]
  · apply smT_size
    have := tl_bits s
    have := vld_le s hv
    rw [tidyS_size]; omega
  · by_cases h0 : m = 0
    · rw [s3 h0]
      have h3 := m3
      rw [h0] at h3
      have h4 : apOk s = true := h3
      unfold apOk at h4 ⊢
      rw [hvt, rr_ext hb]
      rw [hv] at h4; exact h4
    · rw [s2 h0]; exact m3
  · by_cases h0 : m = 0
    · rw [s3 h0]
      have h3 := m3
      rw [h0] at h3
      have h4 : apOk s = true := h3
      rw [(apart_facts h4).1]
      unfold rnR
      rw [hvt, hv, rr_ext hb]
    · rw [s2 h0, ← (apart_facts m3).1, hsh m (Nat.le_refl _)]
end Go.Proofs.Ytlgceccbjkkeiab

/- WHAT ROWS OF SIZES SAY (P25). Pure: nothing of the program is named here. -/
namespace Go.Proofs.Ytlgceccbjkkeiab

/-- what ShapeRow answers -/
def swC (l : List Int) : Bool := decide (l.length ≤ 20) && l.all fun x => decide (1 ≤ x) && decide (x ≤ 20)
def swO (l : List Int) : Bool := swC l && decide (tl (szB (isr l)) ≤ 120)
def swS (l : List Int) : ByteArray := if swO l then ofBits (cut (szB (isr l))) else ByteArray.empty
theorem swC_iff {l : List Int} : swC l = true ↔ l.length ≤ 20 ∧ ∀ x ∈ l, 1 ≤ x ∧ x ≤ 20 := by
  unfold swC
  rw [Bool.and_eq_true, decide_eq_true_eq, List.all_eq_true]
  simp only [Bool.and_eq_true, decide_eq_true_eq]
theorem swS_facts {l : List Int} (h : swO l = true) : vld (swS l) = true ∧ (swS l).size ≤ 120 ∧ bx (bits (swS l)) = bx (szB (isr l)) := by
  unfold swO at h
  have h0 := h
  rw [Bool.and_eq_true, decide_eq_true_eq] at h
  have e : swS l = ofBits (cut (szB (isr l))) := by unfold swS swO; rw [if_pos h0]
  have hb : bits (swS l) = cut (szB (isr l)) := by rw [e, bits_ofBits]
  have hs : (swS l).size = tl (szB (isr l)) := by rw [← length_bits, hb, cut_length]
  refine ⟨?_, by omega, by rw [hb, bx_fun_cut]⟩
  rw [e]
  exact vld_ofBits _ (by rw [cut_length]; exact h.2)
theorem ni_toNat : ∀ l : List Int, (∀ x ∈ l, 1 ≤ x) → ni (l.map Int.toNat) = l := by
  intro l
  induction l with
  | nil => intro _; rfl
  | cons x t ih =>
    intro h
    have hx := h x (List.mem_cons_self ..)
    have := ih (fun y hy => h y (List.mem_cons_of_mem _ hy))
    unfold ni at *
    rw [List.map_cons, List.map_cons, this, Int.toNat_of_nonneg (by omega)]
/-- P25: rows of sizes are apart, with as many sizes, of the same sum -/
theorem sizes_facts {l : List Int} (h : swO l = true) : apOk (swS l) = true ∧ (shR (swS l)).length = l.length ∧ (shR (swS l)).sum = l.sum := by
  obtain ⟨hv, _, hb⟩ := swS_facts h
  unfold swO at h
  rw [Bool.and_eq_true] at h
  obtain ⟨_, hc⟩ := swC_iff.1 h.1
  obtain ⟨f1, f2, f3, f4⟩ := isr_facts l
  have g1 : ∀ x ∈ isr l, 1 ≤ x := fun x hx => (hc x ((f4 x).1 hx)).1
  obtain ⟨r1, r2⟩ := sz_rr g1 f1 hb
  have ha : apOk (swS l) = true := by unfold apOk; rw [hv, r2]; rfl
  have e := (apart_facts ha).1
  have hr : rnR (swS l) = isr l := by unfold rnR; rw [hv, if_pos rfl, r1, ni_toNat _ g1]
  rw [hr] at e
  refine ⟨ha, ?_, ?_⟩
  · rw [e, List.length_reverse, f2]
  · rw [e, List.sum_reverse, f3]

end Go.Proofs.Ytlgceccbjkkeiab
