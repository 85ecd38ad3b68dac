/- TEXTS Step6, SFacts. -/
import Derived.Test.Ytlgceccbjkkeiabwax12
import Derived.Test.Ytlgceccbjkkeiabwax13
/- THE WALKS of StepMany, of the model and of the program. -/
namespace Go.Proofs.Ytlgceccbjkkeiab
open Go.RowKit

/-- the text behind k steps, and whether each of them was told -/
def smT (room : Int) (t : ByteArray) : Nat → ByteArray × Bool
  | 0 => (t, true)
  | k + 1 => if (smT room t k).2 then (stS (smT room t k).1 room, stOk (smT room t k).1 room) else (ByteArray.empty, false)
/-- what StepMany answers -/
def smIn (s : ByteArray) (room n : Int) : Bool := tkOk s room && (decide (0 ≤ n) && decide (n ≤ 100))
def smR (s : ByteArray) (room n : Int) : ByteArray × Bool := if smIn s room n then smT room (tidyS s) n.toNat else (ByteArray.empty, false)

theorem smT_no {room : Int} {t : ByteArray} {k : Nat} (h : (smT room t k).2 = false) (j : Nat) (hj : k < j) : smT room t j = (ByteArray.empty, false) := by
  have h1 : ∀ d, smT room t (k + 1 + d) = (ByteArray.empty, false) := by
    intro d
    induction d with
    | zero => show smT room t (k + 1) = _; unfold smT; rw [h]; rfl
    | succ d ih => show smT room t (k + 1 + d + 1) = _; rw [smT, ih]; rfl
  rw [show j = k + 1 + (j - (k + 1)) by omega]; exact h1 _
theorem stS_no {s : ByteArray} {room : Int} (h : stOk s room = false) : stS s room = ByteArray.empty := by unfold stS; rw [h]; rfl
theorem smT_empty {room : Int} {t : ByteArray} {k : Nat} (h : (smT room t k).2 = false) : smT room t k = (ByteArray.empty, false) := by
  cases k with
  | zero => cases h
  | succ k =>
    cases hk : (smT room t k).2 with
    | false => exact smT_no hk _ (Nat.lt_succ_self _)
    | true =>
      rw [smT, if_pos hk] at h ⊢
      have h2 : stOk (smT room t k).1 room = false := h
      rw [h2, stS_no h2]
theorem stS_size (s : ByteArray) (room : Int) : (stS s room).size ≤ 120 := by
  unfold stS
  cases h : stOk s room
  · exact Nat.zero_le _
  · unfold stOk at h
    simp at h
    rw [if_pos rfl]
    show (ofBits _).data.size ≤ 120
    unfold ofBits
    simp [chars_length, cut_length]
    exact h.2
theorem smT_size {room : Int} {t : ByteArray} (ht : t.size ≤ 120) (k : Nat) : (smT room t k).1.size ≤ 120 := by
  cases k with
  | zero => exact ht
  | succ k =>
    rw [smT]
    split
    · exact stS_size _ _
    · exact Nat.zero_le _

end Go.Proofs.Ytlgceccbjkkeiab

/- WHAT STEPS SAY OF TEXTS: rows as functions, behind a step, back, in any order, shifted; energies. -/
namespace Go.Proofs.Ytlgceccbjkkeiab
open Go.RowKit

theorem tkOk_iff {s : ByteArray} {n : Int} (h : tkOk s n = true) : vld s = true ∧ roomOk n = true := by unfold tkOk at h; simpa using h
theorem stOk_tk {s : ByteArray} {n : Int} (h : stOk s n = true) : tkOk s n = true := by unfold stOk at h; unfold tkOk; simp at h ⊢; exact h.1
theorem stOk_le {s : ByteArray} {n : Int} (h : stOk s n = true) : tl (stp n.toNat (bits s)) ≤ 120 := by unfold stOk at h; simp at h; exact h.2
theorem room_pos {n : Int} (h : roomOk n = true) : 1 ≤ n.toNat := by unfold roomOk at h; simp at h; omega
theorem bits_stS {s : ByteArray} {n : Int} (h : stOk s n = true) : bits (stS s n) = cut (stp n.toNat (bits s)) := by unfold stS; rw [h, if_pos rfl, bits_ofBits]
theorem bx_stS {s : ByteArray} {n : Int} (h : stOk s n = true) : bx (bits (stS s n)) = tr n.toNat (bx (bits s)) := by
  rw [bits_stS h, bx_fun_cut]; exact funext (bx_stp _ _)
theorem vld_stS {s : ByteArray} {n : Int} (h : stOk s n = true) : vld (stS s n) = true := by
  unfold stS; rw [h, if_pos rfl]; exact vld_ofBits _ (by rw [cut_length]; exact stOk_le h)
theorem tl_bits (s : ByteArray) : tl (bits s) ≤ s.size := by have := tl_le (bits s); rw [length_bits] at this; exact this
theorem bx_size (s : ByteArray) (i : Nat) (h : s.size ≤ i) : bx (bits s) i = false := bx_out _ _ (by rw [length_bits]; exact h)

/-- the texts of two rows that are alike as functions -/
theorem text_ext {l m : List Bool} (h : ∀ i, bx l i = bx m i) : ofBits (cut l) = ofBits (cut m) := by rw [cut_ext h]
theorem tidy_ofBits {s : ByteArray} (h : vld s = true) : tidyS s = ofBits (cut (bits s)) := (tidyS_eq s (vld_sgn s h)).symm

/-- P11 -/
theorem swap_eq {s : ByteArray} {n m : Int} (h1 : stOk s n = true) (h2 : stOk (stS s n) m = true) (h3 : stOk s m = true) (h4 : stOk (stS s m) n = true) : stS (stS s n) m = stS (stS s m) n := by
  have hn := room_pos (tkOk_iff (stOk_tk h1)).2
  have hm := room_pos (tkOk_iff (stOk_tk h3)).2
  show (if stOk (stS s n) m then _ else _) = (if stOk (stS s m) n then _ else _)
  rw [h2, h4, if_pos rfl, if_pos rfl]
  apply text_ext
  intro i
  rw [bx_stp, bx_stp, bx_stS h1, bx_stS h3]
  exact tr_swap _ _ _ hn hm i

theorem tkN_at {s : ByteArray} {n : Int} (h : tkOk s n = true) (N : Nat) (hN : s.size ≤ N) : tkN s n = (tk n.toNat (bx (bits s)) N : Int) := by
  unfold tkN
  rw [h, if_pos rfl]
  have := tk_tail (K := n.toNat) (f := bx (bits s)) (n := s.size) (bx_size s) (N - s.size)
  rw [show s.size + (N - s.size) = N by omega] at this
  rw [this]
/-- P13 -/
theorem kept_eq {s : ByteArray} {n r : Int} (h1 : stOk s n = true) (hr : roomOk r = true) : tkOk s r = true ∧ tkOk (stS s n) r = true ∧ tkN (stS s n) r = tkN s r := by
  have hv := (tkOk_iff (stOk_tk h1)).1
  have k1 : tkOk s r = true := by unfold tkOk; rw [hv, hr]; rfl
  have k2 : tkOk (stS s n) r = true := by unfold tkOk; rw [vld_stS h1, hr]; rfl
  refine ⟨k1, k2, ?_⟩
  rw [tkN_at k1 (2 * s.size + (stS s n).size) (by omega), tkN_at k2 (2 * s.size + (stS s n).size) (by omega), bx_stS h1]
  rw [tk_kept _ _ _ (room_pos hr) (room_pos (tkOk_iff (stOk_tk h1)).2) _ (ld_end (bx_size s) _ (by omega))]

/-- P16 -/
theorem back_eq {s : ByteArray} {n : Int} (h : bkOk s n = true) : stOk (bkS s n) n = true ∧ stS (bkS s n) n = tidyS s := by
  have h0 := h
  unfold bkOk at h0
  simp at h0
  obtain ⟨⟨hv, hr⟩, hb⟩ := h0
  have hl : (bkB n.toNat (bits s)).length = s.size := by unfold bkB; rw [List.length_reverse, stpU_length, length_bits]
  have e0 : bkS s n = ofBits (cut (bkB n.toNat (bits s))) := by unfold bkS; rw [h, if_pos rfl]
  have e1 : bits (bkS s n) = cut (bkB n.toNat (bits s)) := by rw [e0, bits_ofBits]
  have e2 : bx (bits (bkS s n)) = bkF n.toNat (bx (bits s)) s.size := by
    rw [e1, bx_fun_cut]; funext i; rw [bx_bkB, length_bits]
  have e3 : ∀ i, bx (stp n.toNat (bits (bkS s n))) i = bx (bits s) i := by
    intro i; rw [bx_stp, e2]; exact step_back (bx_size s) hb i
  have hv2 : vld (bkS s n) = true := by
    rw [e0]; apply vld_ofBits; rw [cut_length]; have := tl_le (bkB n.toNat (bits s)); have := vld_le s hv; omega
  have hok : stOk (bkS s n) n = true := by
    unfold stOk; rw [hv2, hr, tl_ext e3]; simp; have := tl_bits s; have := vld_le s hv; omega
  refine ⟨hok, ?_⟩
  show (if stOk (bkS s n) n then _ else _) = _
  rw [hok, if_pos rfl, text_ext e3, tidy_ofBits hv]

theorem nballs_cn (l : List Bool) (N : Nat) (hN : l.length ≤ N) : nballs l = cn (bx l) N := by
  have h : ∀ k, k ≤ l.length → nballs (l.take k) = cn (bx l) k := by
    intro k
    induction k with
    | zero => intro _; rfl
    | succ k ih =>
      intro hk
      have e : l[k]? = some l[k] := List.getElem?_eq_getElem (by omega)
      rw [nballs_snoc l k _ e, ih (by omega)]
      show _ = cn (bx l) k + _
      rw [bx_some l k _ e]
  have h1 := h l.length (Nat.le_refl _)
  rw [List.take_of_length_le (Nat.le_refl _)] at h1
  have h2 := cn_tail (f := bx l) (n := l.length) (fun i hi => bx_out l i hi) (N - l.length)
  rw [show l.length + (N - l.length) = N by omega] at h2
  rw [h1, h2]
/-- P10 -/
theorem step_eq {s : ByteArray} {n : Int} (h : stOk s n = true) : bkOk (stS s n) n = true ∧ bkS (stS s n) n = tidyS s ∧ nballs (bits (stS s n)) = nballs (bits s) := by
  obtain ⟨hv, hr⟩ := tkOk_iff (stOk_tk h)
  have hb := back_step (K := n.toNat) (f := bx (bits s)) (n := s.size) (m := (stS s n).size) (bx_size s) (fun i hi => by rw [← bx_stS h]; exact bx_size _ i hi)
  rw [← bx_stS h] at hb
  have hok : bkOk (stS s n) n = true := by unfold bkOk; rw [vld_stS h, hr, hb.1]; rfl
  refine ⟨hok, ?_, ?_⟩
  · show (if bkOk (stS s n) n then _ else _) = _
    rw [hok, if_pos rfl, tidy_ofBits hv]
    apply text_ext
    intro i
    rw [bx_bkB, length_bits]; exact hb.2 i
  · rw [nballs_cn _ (2 * s.size + (stS s n).size) (by rw [length_bits]; omega), nballs_cn (bits s) (2 * s.size + (stS s n).size) (by rw [length_bits]; omega), bx_stS h]
    have := cn_tr n.toNat (bx (bits s)) (2 * s.size + (stS s n).size)
    rw [ld_end (bx_size s) _ (by omega)] at this
    exact this

theorem bx_pre (d : Nat) (l : List Bool) (i : Nat) : bx (List.replicate d false ++ l) i = if i < d then false else bx l (i - d) := by
  unfold bx
  by_cases h : i < d
  · rw [if_pos h, List.getElem?_append_left (by simpa using h)]; simp [h]
  · rw [if_neg h, List.getElem?_append_right (by simpa using h), List.length_replicate]
/-- P12 -/
theorem shifted_eq {s : ByteArray} {n : Int} (h : stOk s n = true) (hp : shOk s 3 = true) : stOk (shS s 3) n = shOk (stS s n) 3 ∧ (stOk (shS s 3) n = true → stS (shS s 3) n = shS (stS s n) 3) := by
  obtain ⟨hv, hr⟩ := tkOk_iff (stOk_tk h)
  obtain ⟨v1, v2⟩ := shS_facts s 3 hp
  have e0 : ∀ i, bx (bits (shS s 3)) i = bx (List.replicate 3 false ++ bits s) i := by
    intro i
    rw [v2, bx_pre]
    by_cases h0 : tl (bits s) = 0
    · rw [if_pos h0, bx_out [] i (by simp)]
      split
      · rfl
      · exact ((tl_le_iff (bits s) 0).1 (by omega) _ (Nat.zero_le _)).symm
    · rw [if_neg h0]
      unfold shB
      rw [bx_pre, bx_fun_cut]; rfl
  have e1 : bx (bits (shS s 3)) = fun i => if i < 3 then false else bx (bits s) (i - 3) := by funext i; rw [e0, bx_pre]
  have e2 : ∀ i, bx (stp n.toNat (bits (shS s 3))) i = bx (List.replicate 3 false ++ stp n.toNat (bits s)) i := by
    intro i
    rw [bx_pre, bx_stp, e1]
    by_cases h3 : i < 3
    · rw [if_pos h3]; exact tr_lead0 (d := 3) (fun j hj => by simp [hj]) i h3
    · rw [if_neg h3, bx_stp]
      have := tr_lead (K := n.toNat) (f := bx (bits s)) (g := fun i => if i < 3 then false else bx (bits s) (i - 3)) (d := 3) (fun j hj => by simp [hj]) (fun j => by simp) (i - 3)
      rw [show 3 + (i - 3) = i by omega] at this
      exact this
  have e3 := tl_ext e2
  rw [tl_pre] at e3
  have hT : tl (bits (stS s n)) = tl (stp n.toNat (bits s)) := by rw [bits_stS h, tl_cut]
  have hok : stOk (shS s 3) n = shOk (stS s n) 3 := by
    unfold stOk shOk
    rw [v1, hr, vld_stS h, hT, e3]
    by_cases h0 : tl (stp n.toNat (bits s)) = 0
    · simp [h0]
    · rw [if_neg h0, Bool.eq_iff_iff]; simp [h0]; omega
  refine ⟨hok, fun hq => ?_⟩
  show (if stOk (shS s 3) n then _ else _) = _
  rw [hq, if_pos rfl, text_ext e2]
  unfold shS
  rw [← hok, hq, hT]
  by_cases h0 : tl (stp n.toNat (bits s)) = 0
  · rw [if_neg (by simp [h0])]
    rw [if_pos h0] at e3
    have : cut (List.replicate 3 false ++ stp n.toNat (bits s)) = [] := by
      unfold cut; rw [tl_pre, if_pos h0]; rfl
    rw [this]; rfl
  · rw [if_pos (by simp [h0]), cut_pre _ _ h0, bits_stS h]
    show ofBits (shB 3 _) = ofBits (shB 3 (cut _))
    unfold shB
    rw [cut_cut]

/-- P17 -/
theorem many_eq {s : ByteArray} {n m : Int} (h : (smR s n m).2 = true) (hm : m < 100) : smR s n (m + 1) = (stS (smR s n m).1 n, stOk (smR s n m).1 n) := by
  have hin : smIn s n m = true := by
    cases hi : smIn s n m with
    | true => rfl
    | false => unfold smR at h; rw [hi] at h; cases h
  have h0 := hin
  unfold smIn at h0
  simp at h0
  have hin2 : smIn s n (m + 1) = true := by unfold smIn; rw [h0.1]; simp; omega
  unfold smR at h ⊢
  rw [hin, if_pos rfl] at h ⊢
  rw [hin2, if_pos rfl, show (m + 1).toNat = m.toNat + 1 by omega, smT, h, if_pos rfl]

/-- P15 -/
theorem taken_eq {s : ByteArray} {n : Int} (h : tkOk s n = true) : tkOk s 200 = true ∧ tkN s 200 = (nballs (bits s) : Int) ∧
    (n ≤ 198 → tkOk s (n + 1) = true ∧ tkOk s (n + 2) = true ∧ tkN s n ≤ tkN s (n + 1) ∧ tkN s (n + 2) - tkN s (n + 1) ≤ tkN s (n + 1) - tkN s n) := by
  obtain ⟨hv, hr⟩ := tkOk_iff h
  have h120 := vld_le s hv
  have k0 : tkOk s 200 = true := by unfold tkOk; rw [hv]; rfl
  refine ⟨k0, ?_, fun hn => ?_⟩
  · rw [tkN_at k0 s.size (Nat.le_refl _), nballs_cn (bits s) s.size (by rw [length_bits]; exact Nat.le_refl _)]
    rw [tk_all _ _ _ (by show s.size ≤ 200; omega)]
  · have hr0 := hr
    unfold roomOk at hr0
    simp at hr0
    have r1 : roomOk (n + 1) = true := by unfold roomOk; simp; omega
    have r2 : roomOk (n + 2) = true := by unfold roomOk; simp; omega
    have k1 : tkOk s (n + 1) = true := by unfold tkOk; rw [hv, r1]; rfl
    have k2 : tkOk s (n + 2) = true := by unfold tkOk; rw [hv, r2]; rfl
    refine ⟨k1, k2, ?_⟩
    rw [tkN_at h s.size (Nat.le_refl _), tkN_at k1 s.size (Nat.le_refl _), tkN_at k2 s.size (Nat.le_refl _), show (n + 1).toNat = n.toNat + 1 by omega, show (n + 2).toNat = n.toNat + 2 by omega]
    obtain ⟨_, _, _, _, h5, h6⟩ := three n.toNat (bx (bits s)) s.size
    have h5' : tk (n.toNat + 2) (bx (bits s)) s.size + tk n.toNat (bx (bits s)) s.size ≤ 2 * tk (n.toNat + 1) (bx (bits s)) s.size := by omega
    omega
theorem tkN_bd (s : ByteArray) (n : Int) : 0 ≤ tkN s n ∧ tkN s n ≤ s.size := by
  unfold tkN
  split
  · have := tk_le n.toNat (bx (bits s)) s.size; omega
  · omega

/-- P14 -/
theorem loads_eq {s : ByteArray} {n : Int} (h : ldOk s n = true) : (ldR s n).length = s.size + 1 ∧ (ldR s n)[0]? = some 0 ∧
    ∀ k x, (ldR s n)[k]? = some x → 0 ≤ x ∧ x ≤ n ∧ x ≤ 200 ∧ ∀ j y, k = j + 1 → (ldR s n)[j]? = some y → x - y ≤ 1 ∧ y - x ≤ 1 := by
  have e : ldR s n = ldsU n.toNat (bx (bits s)) (s.size + 1) := by unfold ldR; rw [h, if_pos rfl]
  have hr : roomOk n = true := by unfold ldOk at h; simp at h; exact h.2
  unfold roomOk at hr
  simp at hr
  rw [e]
  refine ⟨ldsU_length _ _ _, ldsU_getElem _ _ _ 0 (by omega), ?_⟩
  intro k x hk
  have hlt : k < s.size + 1 := by have := (List.getElem?_eq_some_iff.1 hk).1; rw [ldsU_length] at this; exact this
  rw [ldsU_getElem _ _ _ k hlt] at hk
  simp only [Option.some.injEq] at hk
  have hle := ld_le n.toNat (bx (bits s)) k
  refine ⟨by omega, by omega, by omega, ?_⟩
  intro j y hj hy
  subst hj
  rw [ldsU_getElem _ _ _ j (by omega)] at hy
  simp only [Option.some.injEq] at hy
  have hb := nx_bd n.toNat (bx (bits s) j) (ld n.toNat (bx (bits s)) j)
  rw [← ld_succ] at hb
  omega
end Go.Proofs.Ytlgceccbjkkeiab
