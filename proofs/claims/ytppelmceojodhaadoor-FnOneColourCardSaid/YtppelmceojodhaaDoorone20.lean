/- TEXTS PTidy, Col6. -/
import Derived.Test.YtppelmceojodhaaDoorone15
import Derived.Test.YtppelmceojodhaaDoorone03
import Derived.Test.YtppelmceojodhaaDoorone17
import Derived.Test.YtppelmceojodhaaDoorone18
import Derived.Test.YtppelmceojodhaaDoorone19
import Derived.Test.YtppelmceojodhaaDoorone13
/- THE WALK of the law FnTidy: tidy rows are tidy. -/
namespace Go.Proofs.YtppelmceojodhaaDoor
open Go.RowKit

theorem bits_tidyS (s : ByteArray) : bits (tidyS s) = cut (bits s) := by
  unfold bits cut tidyS
  rw [Lib.extract_data]
  simp [bits]
theorem tidyS_size' (s : ByteArray) : (tidyS s).size = tl (bits s) := by
  have := tl_le (bits s)
  rw [length_bits] at this
  unfold tidyS; simp; omega
theorem vld_tidyS (s : ByteArray) (h : vld s = true) : vld (tidyS s) = true := by
  have h1 := vld_sgn s h
  have h2 := vld_le s h
  have h3 := tidyS_le s
  have hl : (tidyS s).data.toList = s.data.toList.take (tl (bits s)) := by
    unfold tidyS
    rw [Lib.extract_data]
    simp
  unfold vld
  rw [hl]
  unfold allSgn at h1 ⊢
  rw [List.all_eq_true] at h1
  rw [Bool.and_eq_true, List.all_eq_true]
  exact ⟨fun c hc => h1 c (List.mem_of_mem_take hc), by simp; omega⟩
theorem tidyS_tidyS (s : ByteArray) : tidyS (tidyS s) = tidyS s := by
  have h : tl (bits (tidyS s)) = (tidyS s).size := by rw [bits_tidyS, tl_cut, tidyS_size']
  have h2 : tidyS (tidyS s) = (tidyS s).extract 0 (tl (bits (tidyS s))) := rfl
  rw [h2, h]; simp
theorem tl_last (l : List Bool) (n : Nat) (h : tl l = n + 1) : l[n]? = some true := by
  have g : ∀ (m : List Bool) (n : Nat), tl m.reverse = n + 1 → m.reverse[n]? = some true := by
    intro m
    induction m with
    | nil => intro n h; simp [tl] at h
    | cons b m ih =>
      intro n h
      rw [List.reverse_cons, tl_snoc] at h
      rw [List.reverse_cons]
      cases b
      · have h2 : tl m.reverse = n + 1 := by simpa using h
        have := ih n h2
        rw [List.getElem?_append_left (List.getElem?_eq_some_iff.1 this).1]; exact this
      · have h2 : m.reverse.length = n := by simp at h; simpa using h
        rw [List.getElem?_append_right (by omega), h2]; simp
  have := g l.reverse n (by rw [List.reverse_reverse]; exact h)
  rwa [List.reverse_reverse] at this
theorem tidyS_last (s : ByteArray) (h : (tidyS s).size - 1 < (tidyS s).size) : (((tidyS s)[(tidyS s).size - 1].toNat : Int) == 49) = true := by
  rw [← bit_int]
  have h2 := bits_getElem (tidyS s) ((tidyS s).size - 1) h
  have h3 := tl_last (bits (tidyS s)) ((tidyS s).size - 1) (by rw [bits_tidyS, tl_cut, ← tidyS_size']; omega)
  rw [h3] at h2
  simpa using h2.symm

end Go.Proofs.YtppelmceojodhaaDoor

/- THE WALK of the law FnBalls: balls are counted boxes. -/
namespace Go.Proofs.YtppelmceojodhaaDoor
open Go.RowKit

theorem bits_ofBits (l : List Bool) : bits (ofBits l) = l := bits_chars l (ofBits l) (by simp [ofBits])
theorem vld_ofBits (l : List Bool) (h : l.length ≤ 120) : vld (ofBits l) = true := by
  unfold vld
  have e : (ofBits l).data.toList = chars l := by simp [ofBits]
  have hz : (ofBits l).size = l.length := by
    have := congrArg List.length e; rw [chars_length] at this; exact this
  rw [e, chars_sgn, hz]; simpa using h
theorem nballs_shB (n : Nat) (l : List Bool) : nballs (shB n l) = nballs l := by
  have : nballs (shB n l) = nballs (cut l) := by unfold shB nballs; rw [List.count_append, List.count_replicate]; simp
  rw [this, nballs_cut]
/-- what a shifted row is -/
theorem shS_facts (s : ByteArray) (n : Int) (h : shOk s n = true) : vld (shS s n) = true ∧ bits (shS s n) = if tl (bits s) = 0 then [] else shB n.toNat (bits s) := by
  by_cases h0 : tl (bits s) = 0
  · have e : shS s n = ByteArray.empty := by unfold shS; simp [h0]
    rw [e, if_pos h0]; exact ⟨rfl, rfl⟩
  · have e : shS s n = ofBits (shB n.toNat (bits s)) := by unfold shS; simp [h0, h]
    rw [e, if_neg h0, bits_ofBits]
    refine ⟨vld_ofBits _ ?_, rfl⟩
    rw [shB_length]
    unfold shOk at h
    simp [h0] at h
    omega
theorem nballs_shS (s : ByteArray) (n : Int) (h : shOk s n = true) : nballs (bits (shS s n)) = nballs (bits s) := by
  rw [(shS_facts s n h).2]
  by_cases h0 : tl (bits s) = 0
  · rw [if_pos h0, ← nballs_cut (bits s)]
    have : cut (bits s) = [] := by unfold cut; rw [h0]; rfl
    rw [this]
  · rw [if_neg h0, nballs_shB]
theorem shS_le (s : ByteArray) (n : Int) : (shS s n).size ≤ 120 := by
  cases h : shOk s n
  · have : shS s n = ByteArray.empty := by unfold shS; simp [h]
    rw [this]; exact Nat.zero_le _
  · exact vld_le _ (shS_facts s n h).1
theorem atR_length (s : ByteArray) (h : vld s = true) : (atR s).length = nballs (bits s) := by
  unfold atR; rw [h, if_pos rfl]; unfold posI; rw [List.length_map, count_boxes]

end Go.Proofs.YtppelmceojodhaaDoor

/- COUNTS OF COLOURED ROWS AND THEIR PLAIN ROWS. Pure: no walk. -/
namespace Go.Proofs.YtppelmceojodhaaDoor
open Go.RowKit Go.Lib

theorem cpOk_of {s : ByteArray} {c : Int} (h1 : cIn s = true) (h2 : 1 ≤ c ∧ c ≤ 3) : cpOk s c = true := by
  unfold cpOk c3
  rw [h1]
  simp
  omega
/-- a plain row is a row -/
theorem cpS_row {s : ByteArray} {c : Int} (h : cpOk s c = true) : vld (cpS s c) = true ∧ bits (cpS s c) = cut (plL c (lst s)) ∧ (cpS s c).size ≤ 120 := by
  have h1 : cIn s = true := by unfold cpOk at h; rw [Bool.and_eq_true] at h; exact h.1
  have h120 := ((cIn_iff s).1 h1).2
  have e : cpS s c = ofBits (cut (plL c (lst s))) := by unfold cpS; rw [if_pos h]; rfl
  have hl : (cut (plL c (lst s))).length ≤ 120 := by
    rw [cut_length]
    have := tl_le (plL c (lst s))
    unfold plL at this ⊢
    rw [List.length_map, lst_size] at this
    omega
  rw [e]
  refine ⟨vld_ofBits _ hl, bits_ofBits _, ?_⟩
  rw [← length_bits, bits_ofBits]
  exact hl
theorem nballs_cons (b : Bool) (l : List Bool) : nballs (b :: l) = nballs l + if b then 1 else 0 := by
  unfold nballs
  rw [List.count_cons]
  cases b <;> rfl
theorem plain_count : ∀ l : List UInt8, (∀ x ∈ l, sg3 x = true) →
    nballs (plL 1 l) = l.count 49 + l.count 50 + l.count 51 ∧ nballs (plL 2 l) = l.count 50 + l.count 51 ∧ nballs (plL 3 l) = l.count 51
  | [], _ => ⟨rfl, rfl, rfl⟩
  | x :: l, h => by
    obtain ⟨i1, i2, i3⟩ := plain_count l (fun y hy => h y (List.mem_cons_of_mem _ hy))
    have e : ∀ c, plL c (x :: l) = plB c x :: plL c l := fun _ => rfl
    rw [e, e, e, nballs_cons, nballs_cons, nballs_cons, i1, i2, i3, List.count_cons, List.count_cons, List.count_cons]
    rcases (sg3_iff x).1 (h x (List.mem_cons_self ..)) with rfl | rfl | rfl | rfl
    · have p1 : plB 1 48 = false := by decide
      have p2 : plB 2 48 = false := by decide
      have p3 : plB 3 48 = false := by decide
      rw [p1, p2, p3]
      simp
    · have p1 : plB 1 49 = true := by decide
      have p2 : plB 2 49 = false := by decide
      have p3 : plB 3 49 = false := by decide
      rw [p1, p2, p3]
      simp
      omega
    · have p1 : plB 1 50 = true := by decide
      have p2 : plB 2 50 = true := by decide
      have p3 : plB 3 50 = false := by decide
      rw [p1, p2, p3]
      simp
      omega
    · have p1 : plB 1 51 = true := by decide
      have p2 : plB 2 51 = true := by decide
      have p3 : plB 3 51 = true := by decide
      rw [p1, p2, p3]
      simp
      omega
theorem plain_balls {s : ByteArray} (h : cIn s = true) (c : Int) (hc : 1 ≤ c ∧ c ≤ 3) : nballs (bits (cpS s c)) = nballs (plL c (lst s)) := by
  rw [(cpS_row (cpOk_of h hc)).2.1, nballs_cut]
/-- counts of what a move leaves -/
theorem ccL_move {s : ByteArray} {c : Int} (h : cmOk s c = true) : ccL (cmS s c) = ccL s := by
  obtain ⟨h1, h2⟩ := cmS_in h
  have h' := h
  unfold cmOk at h'
  rw [Bool.and_eq_true, Bool.and_eq_true] at h'
  obtain ⟨e1, _⟩ := mvO_some h2
  have hne := (cCh_ne h'.1.2).1
  unfold ccL
  rw [h1, h'.1.1, if_pos rfl, if_pos rfl]
  unfold ccT
  rw [e1, mv_count hne n49, mv_count hne n50, mv_count hne n51]
theorem csS_in {s : ByteArray} (h : csOk s = true) : cIn (csS s) = true := by
  obtain ⟨h1, h2⟩ := csOk_some h
  obtain ⟨r1, r2, r3, r4⟩ := stepL_some h2
  refine (cIn_iff _).2 ⟨?_, by rw [lst_size] at r4; exact r4⟩
  rw [r1]
  have hs := ((cIn_iff s).1 h1).1
  exact mv_sg (by decide) (mv_sg (by decide) (mv_sg (by decide) hs))
theorem ccL_step {s : ByteArray} (h : csOk s = true) : ccL (csS s) = ccL s := by
  obtain ⟨h1, h2⟩ := csOk_some h
  unfold ccL
  rw [h1, csS_in h, if_pos rfl, if_pos rfl]
  unfold ccT
  rw [step_count h2 n49, step_count h2 n50, step_count h2 n51]
/-- P39: a step is done back -/
theorem step_back_S {s : ByteArray} (h : csOk s = true) : cbkO (csS s) = true ∧ cbkS (csS s) = tidyC s := by
  obtain ⟨h1, h2⟩ := csOk_some h
  refine cbkS_of (csS_in h) ?_
  rw [step_done_back h2, tidyC_lst]
theorem cbkS_in {s : ByteArray} (h : cbkO s = true) : cIn (cbkS s) = true := by
  obtain ⟨h1, h2⟩ := cbkO_some h
  obtain ⟨r1, _⟩ := backL_some h2
  obtain ⟨hs, h120⟩ := (cIn_iff s).1 h1
  refine (cIn_iff _).2 ⟨?_, ?_⟩
  · rw [r1]
    exact bk_sg (by decide) (bk_sg (by decide) (bk_sg (by decide) hs))
  · rw [← lst_size, r1]
    have a1 := bk1_le 51 (lst s)
    have a2 := bk1_le 50 (bk1 51 (lst s))
    have a3 := bk1_le 49 (bk1 50 (bk1 51 (lst s)))
    rw [lst_size] at a1
    exact Nat.le_trans a3 (Nat.le_trans a2 (Nat.le_trans a1 h120))
/-- P41 -/
theorem back_step_S {s : ByteArray} (h : cbkO s = true) : csOk (cbkS s) = true ∧ csS (cbkS s) = tidyC s := by
  obtain ⟨h1, h2⟩ := cbkO_some h
  refine csS_of (cbkS_in h) ?_
  rw [back_done_step h2 (by rw [lst_size]; exact ((cIn_iff s).1 h1).2), tidyC_lst]
/-- P38: balls of other colours -/
theorem move_other {s : ByteArray} {c : Int} (h : cmOk s c = true) {j : Nat} {x : UInt8} (hx : (lst s)[j]? = some x) (h48 : x ≠ 48) (hc : x ≠ cCh c) : (lst (cmS s c))[j]? = some x := by
  obtain ⟨h1, h2⟩ := cmS_in h
  rw [(mvO_some h2).1]
  exact mv_other h48 hc hx
/-- P42: a ball of a plain row is one of that for the colour 1 -/
theorem plain_ball {s : ByteArray} {c : Int} (h : cpOk s c = true) {j : Nat} (hj : (bits (cpS s c))[j]? = some true) : (bits (cpS s 1))[j]? = some true := by
  have hc3 : 1 ≤ c ∧ c ≤ 3 := by
    unfold cpOk at h; rw [Bool.and_eq_true] at h
    rcases c3_cases h.2 with rfl | rfl | rfl <;> omega
  have h1 : cIn s = true := by unfold cpOk at h; rw [Bool.and_eq_true] at h; exact h.1
  rw [(cpS_row h).2.1] at hj
  rw [(cpS_row (cpOk_of h1 ⟨by omega, by omega⟩)).2.1]
  have k1 : (plL c (lst s))[j]? = some true := by
    obtain ⟨n, hn⟩ := cut_eq (plL c (lst s))
    rw [hn, List.getElem?_append_left (List.getElem?_eq_some_iff.1 hj).1]
    exact hj
  have k2 : (plL 1 (lst s))[j]? = some true := by
    unfold plL at k1 ⊢
    rw [List.getElem?_map] at k1 ⊢
    obtain ⟨x, hx, e⟩ := Option.map_eq_some_iff.1 k1
    rw [hx]
    unfold plB at e ⊢
    simp at e ⊢
    omega
  obtain ⟨n, hn⟩ := cut_eq (plL 1 (lst s))
  rw [hn] at k2
  by_cases hlt : j < (cut (plL 1 (lst s))).length
  · rw [List.getElem?_append_left hlt] at k2; exact k2
  · rw [List.getElem?_append_right (by omega), List.getElem?_replicate] at k2
    split at k2
    · cases k2
    · cases k2
end Go.Proofs.YtppelmceojodhaaDoor
