/- THE WALKS of the program's ColourMove, ColourStep and ColourBack. -/
import Derived.Test.YtppelmceojodhaaICol5
namespace Go.Proofs.Ytppelmceojodhaa
open Go.RowKit Go.Lib

/-- what is known ahead of a move of a step -/
def StepAt (s : ByteArray) (k : Nat) (t : ByteArray) (o : Bool) : Prop :=
  (o = true ∧ upto (lst s) k = some (lst t) ∧ (k = 0 ∧ t = s ∨ cIn t = true ∧ cIn s = true)) ∨ (o = false ∧ t = ⟨#[]⟩ ∧ csOk s = false)
theorem StepAt.next {s t : ByteArray} {k : Nat} (h : StepAt s k t true) (hk : k < 3) : StepAt s (k + 1) (cmS t ((k : Int) + 1)) (cmOk t ((k : Int) + 1)) := by
  rcases h with ⟨_, hu, hc⟩ | ⟨h, _⟩
  · have hc3 : c3 ((k : Int) + 1) = true := by unfold c3; simp; omega
    cases hok : cmOk t ((k : Int) + 1)
    · refine .inr ⟨rfl, by unfold cmS; rw [hok]; rfl, ?_⟩
      cases hin : cIn t
      · rcases hc with ⟨_, rfl⟩ | ⟨h, _⟩
        · unfold csOk; rw [hin]; rfl
        · rw [hin] at h; cases h
      · have hn := cmS_no hin hc3 hok
        have h2 : upto (lst s) (k + 1) = none := by
          show (upto (lst s) k).bind _ = none
          rw [hu]
          exact hn
        unfold csOk
        rw [upto_none h2 (by omega)]
        cases cIn s <;> rfl
    · obtain ⟨n1, n2⟩ := cmS_in hok
      refine .inl ⟨rfl, ?_, .inr ⟨n1, ?_⟩⟩
      · show (upto (lst s) k).bind _ = _
        rw [hu]
        exact n2
      · rcases hc with ⟨_, rfl⟩ | ⟨_, h⟩
        · unfold cmOk at hok
          rw [Bool.and_eq_true, Bool.and_eq_true] at hok
          exact hok.1.1
        · exact h
  · cases h
theorem StepAt.size {s t : ByteArray} {k : Nat} {o : Bool} (h : StepAt s k t o) (hs : s.size ≤ maxLen) : t.size ≤ maxLen := by
  rcases h with ⟨_, _, ⟨_, rfl⟩ | ⟨h, _⟩⟩ | ⟨_, rfl, _⟩
  · exact hs
  · have := ((cIn_iff t).1 h).2; unfold maxLen; omega
  · exact Nat.zero_le _
theorem StepAt.done {s t : ByteArray} (h : StepAt s 3 t true) : csOk s = true ∧ csS s = t := by
  rcases h with ⟨_, hu, ⟨h, _⟩ | ⟨_, h⟩⟩ | ⟨h, _⟩
  · omega
  · rw [upto_3] at hu
    exact csS_of h hu
  · cases h
theorem StepAt.no {s t : ByteArray} {k : Nat} (h : StepAt s k t false) : csOk s = false ∧ csS s = t := by
  rcases h with ⟨h, _⟩ | ⟨_, rfl, h⟩
  · cases h
  · exact ⟨h, csS_no h⟩

/-- the boxes behind the first k moves back -/
def chn (l : List UInt8) : Nat → List UInt8
  | 0 => l
  | k + 1 => bkU (cCh (3 - (k : Int))) (chn l k)
def chOk (l : List UInt8) (k : Nat) : Prop := ∀ j, j < k → cbOk (cCh (3 - (j : Int))) (chn l j) = true
theorem chn_len (l : List UInt8) : ∀ k, (chn l k).length = l.length
  | 0 => rfl
  | k + 1 => by show (bkU _ (chn l k)).length = _; rw [bkU_len, chn_len l k]
theorem chn_sg {l : List UInt8} (h : ∀ x ∈ l, sg3 x = true) : ∀ k, k ≤ 3 → ∀ x ∈ chn l k, sg3 x = true
  | 0, _ => h
  | k + 1, hk => bkU_sg (cCh_ne (by unfold c3; simp; omega)).2 (chn_sg h k (by omega))
theorem a51 : cCh (3 - ((0 : Nat) : Int)) = 51 := by decide
theorem a50 : cCh (3 - ((1 : Nat) : Int)) = 50 := by decide
theorem a49 : cCh (3 - ((2 : Nat) : Int)) = 49 := by decide
theorem chn_yes {l : List UInt8} (h : chOk l 3) : backL l = some (cz (chn l 3)) := by
  have h0 := h 0 (by omega)
  have h1 := h 1 (by omega)
  have h2 := h 2 (by omega)
  rw [a51] at h0
  rw [a50] at h1
  rw [a49] at h2
  have e1 : chn l 1 = bkU 51 l := by show bkU (cCh (3 - ((0 : Nat) : Int))) l = _; rw [a51]
  have e2 : chn l 2 = bkU 50 (bkU 51 l) := by show bkU (cCh (3 - ((1 : Nat) : Int))) (chn l 1) = _; rw [a50, e1]
  have e3 : chn l 3 = bkU 49 (bkU 50 (bkU 51 l)) := by show bkU (cCh (3 - ((2 : Nat) : Int))) (chn l 2) = _; rw [a49, e2]
  rw [e1] at h1
  rw [e2] at h2
  rw [e3]
  exact backL_yes h0 h1 h2
theorem chn_no {l : List UInt8} {k : Nat} (hk : k < 3) (h : chOk l k) (hn : cbOk (cCh (3 - (k : Int))) (chn l k) = false) : backL l = none := by
  have e1 : chn l 1 = bkU 51 l := by show bkU (cCh (3 - ((0 : Nat) : Int))) l = _; rw [a51]
  have e2 : chn l 2 = bkU 50 (bkU 51 l) := by show bkU (cCh (3 - ((1 : Nat) : Int))) (chn l 1) = _; rw [a50, e1]
  match k, hk with
  | 0, _ =>
    rw [a51] at hn
    exact backL_none1 hn
  | 1, _ =>
    have h0 := h 0 (by omega)
    rw [a51] at h0
    rw [a50, e1] at hn
    exact backL_none2 h0 hn
  | 2, _ =>
    have h0 := h 0 (by omega)
    have h1 := h 1 (by omega)
    rw [a51] at h0
    rw [a50, e1] at h1
    rw [a49, e2] at hn
    exact backL_none3 h0 h1 hn
theorem chOk_next {l : List UInt8} {k : Nat} (h : chOk l k) (hn : cbOk (cCh (3 - (k : Int))) (chn l k) = true) : chOk l (k + 1) := by
  intro j hj
  by_cases e : j = k
  · subst e; exact hn
  · exact h j (by omega)

end Go.Proofs.Ytppelmceojodhaa
