/- WHAT IS TRUE OF COLOURED ROWS: the facts behind the promises of chapter 5. Pure: no walk. -/
import Derived.Test.YtkdhifofdghbbaaCol2
namespace Go.Proofs.Ytkdhifofdghbbaa
open Go.RowKit

/-- signs of coloured rows -/
def sg3 (x : UInt8) : Bool := x == 48 || x == 49 || x == 50 || x == 51
theorem sg3_iff (x : UInt8) : sg3 x = true ↔ x = 48 ∨ x = 49 ∨ x = 50 ∨ x = 51 := by
  unfold sg3
  simp [or_assoc]
def lst (s : ByteArray) : List UInt8 := s.data.toList
def ofL (l : List UInt8) : ByteArray := ⟨l.toArray⟩
theorem lst_ofL (l : List UInt8) : lst (ofL l) = l := by simp [lst, ofL]
theorem ofL_lst (s : ByteArray) : ofL (lst s) = s := by simp [lst, ofL]
theorem lst_size (s : ByteArray) : (lst s).length = s.size := by simp [lst]
theorem ofL_size (l : List UInt8) : (ofL l).size = l.length := by
  have := lst_size (ofL l)
  rw [lst_ofL] at this
  exact this.symm
/-- ColourIn -/
def cIn (s : ByteArray) : Bool := (lst s).all sg3 && decide (s.size ≤ 120)
theorem cIn_iff (s : ByteArray) : cIn s = true ↔ (∀ x ∈ lst s, sg3 x = true) ∧ s.size ≤ 120 := by
  unfold cIn
  simp
/-- a move, that of three colours; back -/
def mvO (c : UInt8) (l : List UInt8) : Option (List UInt8) := if (mv1 c l).length ≤ 120 then some (mv1 c l) else none
def bkO (c : UInt8) (l : List UInt8) : Option (List UInt8) := if cbOk c l then some (bk1 c l) else none
def stepL (l : List UInt8) : Option (List UInt8) := (mvO 49 l).bind fun a => (mvO 50 a).bind fun b => mvO 51 b
def backL (l : List UInt8) : Option (List UInt8) := (bkO 51 l).bind fun a => (bkO 50 a).bind fun b => bkO 49 b
theorem mvO_some {c : UInt8} {l r : List UInt8} (h : mvO c l = some r) : r = mv1 c l ∧ r.length ≤ 120 := by
  unfold mvO at h
  split at h
  · injection h with h; rw [← h]; exact ⟨rfl, by assumption⟩
  · cases h
theorem bkO_some {c : UInt8} {l r : List UInt8} (h : bkO c l = some r) : r = bk1 c l ∧ cbOk c l = true := by
  unfold bkO at h
  split at h
  · injection h with h; exact ⟨h.symm, by assumption⟩
  · cases h
theorem bind3 {a b : Option (List UInt8)} {f : List UInt8 → Option (List UInt8)} {r : List UInt8} (h : a.bind f = some r) (_ : b = a) : ∃ x, a = some x ∧ f x = some r := by
  cases a with
  | none => cases h
  | some x => exact ⟨x, rfl, h⟩
theorem stepL_some {l r : List UInt8} (h : stepL l = some r) : r = mv1 51 (mv1 50 (mv1 49 l)) ∧ (mv1 49 l).length ≤ 120 ∧ (mv1 50 (mv1 49 l)).length ≤ 120 ∧ r.length ≤ 120 := by
  obtain ⟨a, ha, h⟩ := bind3 h rfl
  obtain ⟨b, hb, h⟩ := bind3 h rfl
  obtain ⟨a1, a2⟩ := mvO_some ha
  obtain ⟨b1, b2⟩ := mvO_some hb
  obtain ⟨r1, r2⟩ := mvO_some h
  rw [a1] at b1 a2
  rw [b1] at r1 b2
  exact ⟨r1, a2, b2, r2⟩
theorem backL_some {l r : List UInt8} (h : backL l = some r) : r = bk1 49 (bk1 50 (bk1 51 l)) ∧ cbOk 51 l = true ∧ cbOk 50 (bk1 51 l) = true ∧ cbOk 49 (bk1 50 (bk1 51 l)) = true := by
  obtain ⟨a, ha, h⟩ := bind3 h rfl
  obtain ⟨b, hb, h⟩ := bind3 h rfl
  obtain ⟨a1, a2⟩ := bkO_some ha
  obtain ⟨b1, b2⟩ := bkO_some hb
  obtain ⟨r1, r2⟩ := bkO_some h
  rw [a1] at b1 b2
  rw [b1] at r1 r2
  exact ⟨r1, a2, b2, r2⟩
theorem n49 : (49 : UInt8) ≠ 48 := by decide
theorem n50 : (50 : UInt8) ≠ 48 := by decide
theorem n51 : (51 : UInt8) ≠ 48 := by decide
theorem cz_mv (c : UInt8) (l : List UInt8) : cz (mv1 c l) = mv1 c l := cz_cz _
theorem cz_bk (c : UInt8) (l : List UInt8) : cz (bk1 c l) = bk1 c l := cz_cz _
theorem cz_le (l : List UInt8) : (cz l).length ≤ l.length := by unfold cz; rw [List.length_take]; exact Nat.min_le_right ..
theorem bk1_le (c : UInt8) (l : List UInt8) : (bk1 c l).length ≤ l.length := by
  unfold bk1
  have := cz_le (cMv c l.reverse 0).reverse
  rw [List.length_reverse, cMv_length, List.length_reverse] at this
  exact this
theorem bkO_ok {c : UInt8} {l m : List UInt8} (h : cbOk c l = true) (e : bk1 c l = m) : bkO c l = some m := by unfold bkO; rw [if_pos h, e]
theorem mvO_ok {c : UInt8} {l m : List UInt8} (e : mv1 c l = m) (h : m.length ≤ 120) : mvO c l = some m := by unfold mvO; rw [e, if_pos h]
theorem bind_of {a : Option (List UInt8)} {x : List UInt8} {f : List UInt8 → Option (List UInt8)} (h : a = some x) : a.bind f = f x := by rw [h]; rfl
/-- P39 -/
theorem step_done_back {l r : List UInt8} (h : stepL l = some r) : backL r = some (cz l) := by
  obtain ⟨hr, _⟩ := stepL_some h
  have e1 := mv_back n51 (mv1 50 (mv1 49 l))
  have e2 := mv_back n50 (mv1 49 l)
  have e3 := mv_back n49 l
  rw [cz_mv] at e1 e2
  rw [← hr] at e1
  exact (bind_of (bkO_ok e1.1 e1.2)).trans ((bind_of (bkO_ok e2.1 e2.2)).trans (bkO_ok e3.1 e3.2))
theorem step_count {l r : List UInt8} (h : stepL l = some r) {d : UInt8} (hd : d ≠ 48) : r.count d = l.count d := by
  obtain ⟨hr, _⟩ := stepL_some h
  rw [hr, mv_count n51 hd, mv_count n50 hd, mv_count n49 hd]
/-- P41 -/
theorem back_done_step {l r : List UInt8} (h : backL l = some r) (hl : l.length ≤ 120) : stepL r = some (cz l) := by
  obtain ⟨hr, k1, k2, k3⟩ := backL_some h
  have e1 := back_mv n49 _ k3
  have e2 := back_mv n50 _ k2
  have e3 := back_mv n51 _ k1
  rw [cz_bk] at e1 e2
  rw [← hr] at e1
  have l1 := bk1_le 51 l
  have l2 := bk1_le 50 (bk1 51 l)
  have l3 := cz_le l
  exact (bind_of (mvO_ok e1 (Nat.le_trans l2 (Nat.le_trans l1 hl)))).trans ((bind_of (mvO_ok e2 (Nat.le_trans l1 hl))).trans (mvO_ok e3 (Nat.le_trans l3 hl)))
/-- signs stay signs -/
theorem cMv_sg {c : UInt8} (hc : sg3 c = true) : ∀ (l : List UInt8) (u : Nat), (∀ x ∈ l, sg3 x = true) → ∀ x ∈ cMv c l u, sg3 x = true
  | [], _, _, x, hx => by cases hx
  | y :: l, u, h, x, hx => by
    rcases List.mem_cons.1 hx with rfl | hx
    · unfold cg
      split
      · rfl
      · split
        · exact hc
        · exact h y (List.mem_cons_self ..)
    · exact cMv_sg hc l _ (fun z hz => h z (List.mem_cons_of_mem _ hz)) x hx
theorem cz_sg {l : List UInt8} (h : ∀ x ∈ l, sg3 x = true) : ∀ x ∈ cz l, sg3 x = true := fun x hx => h x (List.mem_of_mem_take hx)
theorem mv_sg {c : UInt8} (hc : sg3 c = true) {l : List UInt8} (h : ∀ x ∈ l, sg3 x = true) : ∀ x ∈ mv1 c l, sg3 x = true :=
  cz_sg (cMv_sg hc _ _ (fun x hx => by
    rcases List.mem_append.1 hx with hx | hx
    · exact h x hx
    · rw [(List.mem_replicate.1 hx).2]; rfl))
theorem bk_sg {c : UInt8} (hc : sg3 c = true) {l : List UInt8} (h : ∀ x ∈ l, sg3 x = true) : ∀ x ∈ bk1 c l, sg3 x = true :=
  cz_sg (fun x hx => cMv_sg hc _ _ (fun y hy => h y (List.mem_reverse.1 hy)) x (List.mem_reverse.1 hx))

/-! ### rows of one colour -/
def chC (c : UInt8) (l : List Bool) : List UInt8 := l.map fun b => if b then c else 48
theorem chC_length (c : UInt8) (l : List Bool) : (chC c l).length = l.length := by simp [chC]
theorem nz_chC {c : UInt8} (hc : c ≠ 48) (l : List Bool) : nz (chC c l) = l := by
  unfold nz chC
  rw [List.map_map]
  have : l.map ((fun x => !(x == 48)) ∘ fun b => if b = true then c else 48) = l.map id := List.map_congr_left (fun b _ => by cases b <;> simp [hc])
  rw [this, List.map_id]
theorem cz_chC {c : UInt8} (hc : c ≠ 48) (l : List Bool) : cz (chC c l) = chC c (cut l) := by
  unfold cz cut
  rw [nz_chC hc]
  unfold chC
  rw [List.map_take]
/-- a carrier of another colour goes by -/
theorem cMv_by {c d : UInt8} (hdc : c ≠ d) (hd : d ≠ 48) : ∀ l : List Bool, cMv d (chC c l) 0 = chC c l ∧ cLd d (chC c l) 0 = 0
  | [] => ⟨rfl, rfl⟩
  | b :: l => by
    obtain ⟨h1, h2⟩ := cMv_by hdc hd l
    have e : cg d (if b then c else 48) 0 = (if b then c else 48, 0) := by
      unfold cg
      have : ¬ (48 : UInt8) = d := fun h => hd h.symm
      cases b <;> simp [hdc, this]
    show (cg d (if b then c else 48) 0).1 :: cMv d (chC c l) _ = (if b then c else 48) :: chC c l ∧ cLd d (chC c l) _ = 0
    rw [e]
    exact ⟨by rw [h1], h2⟩
theorem mv_by {c d : UInt8} (hdc : c ≠ d) (hd : d ≠ 48) (l : List Bool) : mv1 d (chC c l) = cz (chC c l) := by
  unfold mv1 padN
  rw [cMv_append, (cMv_by hdc hd l).1, (cMv_by hdc hd l).2, (cMv_rep hd _).1]
  exact cz_pad _ _
end Go.Proofs.Ytkdhifofdghbbaa
