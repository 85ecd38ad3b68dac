/- TEXTS Col2, Col3, Col4, Cir6, Cir7. -/
import Derived.Test.Ytlgceccbjkkeiaawav17
import Derived.Test.Ytlgceccbjkkeiaawav03
import Derived.Test.Ytlgceccbjkkeiaawav14
/- WHAT MOVES OF COLOURS SAY OF ROWS. Pure: nothing of the program is named here. -/
namespace Go.Proofs.Ytlgceccbjkkeiaa
open Go.RowKit

/-- the boxes with balls of whatever colour -/
def nz (l : List UInt8) : List Bool := l.map (fun x => !(x == 48))
/-- a row up to its last ball -/
def cz (l : List UInt8) : List UInt8 := l.take (tl (nz l))
theorem nz_length (l : List UInt8) : (nz l).length = l.length := by simp [nz]
theorem cz_length (l : List UInt8) : (cz l).length = tl (nz l) := by
  unfold cz
  rw [List.length_take]
  have := tl_le (nz l)
  rw [nz_length] at this
  exact Nat.min_eq_left this
theorem cz_eq (l : List UInt8) : ∃ n, l = cz l ++ List.replicate n 48 := by
  have h : ∀ m : List UInt8, ∃ n, m.reverse = cz m.reverse ++ List.replicate n 48 := by
    intro m
    induction m with
    | nil => exact ⟨0, rfl⟩
    | cons b m ih =>
      obtain ⟨n, hn⟩ := ih
      rw [List.reverse_cons]
      by_cases hb : b = 48
      · subst hb
        refine ⟨n + 1, ?_⟩
        have e : cz (m.reverse ++ [48]) = cz m.reverse := by
          unfold cz
          have e1 : nz (m.reverse ++ [48]) = nz m.reverse ++ [false] := by simp [nz]
          rw [e1, tl_snoc]
          have := tl_le (nz m.reverse)
          rw [nz_length] at this
          exact List.take_append_of_le_length (by simpa using this)
        rw [e, List.replicate_succ', ← List.append_assoc, ← hn]
      · refine ⟨0, ?_⟩
        have e1 : nz (m.reverse ++ [b]) = nz m.reverse ++ [true] := by simp [nz, hb]
        unfold cz
        rw [e1, tl_snoc, nz_length, if_pos rfl, List.take_of_length_le (by simp)]
        simp
  have := h l.reverse
  rwa [List.reverse_reverse] at this
theorem cz_pad (l : List UInt8) (n : Nat) : cz (l ++ List.replicate n 48) = cz l := by
  induction n with
  | zero => simp
  | succ n ih =>
    rw [List.replicate_succ', ← List.append_assoc]
    have e1 : nz (l ++ List.replicate n 48 ++ [48]) = nz (l ++ List.replicate n 48) ++ [false] := by simp [nz]
    have h : tl (nz (l ++ List.replicate n 48)) ≤ (l ++ List.replicate n 48).length := by
      have := tl_le (nz (l ++ List.replicate n 48)); rwa [nz_length] at this
    rw [← ih]
    unfold cz
    rw [e1, tl_snoc]
    simp only [Bool.false_eq_true, if_false]
    exact List.take_append_of_le_length h
theorem cz_cz (l : List UInt8) : cz (cz l) = cz l := by
  obtain ⟨n, hn⟩ := cz_eq l
  have h := cz_pad (cz l) n
  rw [← hn] at h
  exact h.symm
/-- empty boxes with no load stay as they are -/
theorem cMv_rep {c : UInt8} (hc : c ≠ 48) : ∀ n : Nat, cMv c (List.replicate n 48) 0 = List.replicate n 48 ∧ cLd c (List.replicate n 48) 0 = 0
  | 0 => ⟨rfl, rfl⟩
  | n + 1 => by
    obtain ⟨h1, h2⟩ := cMv_rep hc n
    have e : cg c 48 0 = (48, 0) := by unfold cg; rw [if_neg (fun h => hc h.symm)]; simp
    rw [List.replicate_succ]
    show (cg c 48 0).1 :: cMv c (List.replicate n 48) (cg c 48 0).2 = _ ∧ cLd c (List.replicate n 48) (cg c 48 0).2 = 0
    rw [e]
    exact ⟨by rw [h1], h2⟩
theorem zs_rep (n : Nat) : zs (List.replicate n 48) = n := by unfold zs; simp
theorem zs_append (l m : List UInt8) : zs (l ++ m) = zs l + zs m := by unfold zs; exact List.count_append
theorem cg_48 {c : UInt8} (hc : c ≠ 48) (u : Nat) : (cg c 48 u).2 = u - 1 := by
  unfold cg
  rw [if_neg (fun h => hc h.symm)]
  by_cases h : (48 : UInt8) = 48 ∧ 0 < u
  · rw [if_pos h]
  · rw [if_neg h]
    have : ¬ 0 < u := fun h2 => h ⟨rfl, h2⟩
    show u = u - 1
    omega
/-- enough empty boxes behind: no ball is left over -/
theorem cLd_pad {c : UInt8} (hc : c ≠ 48) : ∀ (n u : Nat), cLd c (List.replicate n 48) u = u - n
  | 0, _ => rfl
  | n + 1, u => by
    rw [List.replicate_succ]
    show cLd c (List.replicate n 48) (cg c 48 u).2 = _
    rw [cLd_pad hc n, cg_48 hc]
    omega
/-- a move of a colour, with empty boxes behind -/
def padN (l : List UInt8) : List UInt8 := l ++ List.replicate (l.length + 1) 48
def mv1 (c : UInt8) (l : List UInt8) : List UInt8 := cz (cMv c (padN l) 0)
theorem pad_load {c : UInt8} (hc : c ≠ 48) (l : List UInt8) : cLd c (padN l) 0 = 0 := by
  unfold padN
  rw [cLd_append, cLd_pad hc]
  have := cLd_le c l 0
  omega
/-- a move back; it fails where a ball is left over -/
def bk1 (c : UInt8) (l : List UInt8) : List UInt8 := cz (cMv c l.reverse 0).reverse
def cbOk (c : UInt8) (l : List UInt8) : Bool := decide (cLd c l.reverse 0 = 0)
theorem mv_back {c : UInt8} (hc : c ≠ 48) (l : List UInt8) : cbOk c (mv1 c l) = true ∧ bk1 c (mv1 c l) = cz l := by
  obtain ⟨n, hn⟩ := cz_eq (cMv c (padN l) 0)
  obtain ⟨h1, h2⟩ := cBack hc (padN l) 0
  rw [pad_load hc, hn, List.reverse_append, List.reverse_replicate] at h1 h2
  rw [cMv_append, (cMv_rep hc n).1, (cMv_rep hc n).2] at h1
  rw [cLd_append, (cMv_rep hc n).2] at h2
  refine ⟨by unfold cbOk mv1; simpa using h2, ?_⟩
  unfold bk1 mv1
  have e : padN l = (cMv c (cz (cMv c (padN l) 0)).reverse 0).reverse ++ List.replicate n 48 := by
    have := congrArg List.reverse h1
    rw [List.reverse_reverse, List.reverse_append, List.reverse_replicate] at this
    exact this.symm
  have e2 := cz_pad ((cMv c (cz (cMv c (padN l) 0)).reverse 0).reverse) n
  rw [← e] at e2
  rw [← e2]
  exact cz_pad l _
theorem back_mv {c : UInt8} (hc : c ≠ 48) (l : List UInt8) (h : cbOk c l = true) : mv1 c (bk1 c l) = cz l := by
  have h0 : cLd c l.reverse 0 = 0 := by unfold cbOk at h; simpa using h
  obtain ⟨h1, h2⟩ := cBack hc l.reverse 0
  rw [h0] at h1 h2
  rw [List.reverse_reverse] at h1
  obtain ⟨n, hn⟩ := cz_eq (cMv c l.reverse 0).reverse
  -- l is the move of a row with n empty boxes more
  have e1 : cMv c (bk1 c l ++ List.replicate n 48) 0 = l := by unfold bk1; rw [← hn]; exact h1
  have e2 : cLd c (bk1 c l ++ List.replicate n 48) 0 = 0 := by unfold bk1; rw [← hn]; exact h2
  unfold mv1
  by_cases hle : n ≤ (bk1 c l).length + 1
  · have e3 : padN (bk1 c l) = (bk1 c l ++ List.replicate n 48) ++ List.replicate ((bk1 c l).length + 1 - n) 48 := by
      unfold padN
      rw [List.append_assoc, List.replicate_append_replicate]
      congr 2
      omega
    rw [e3, cMv_append, e1, e2, (cMv_rep hc _).1]
    exact cz_pad l _
  · have e3 : bk1 c l ++ List.replicate n 48 = padN (bk1 c l) ++ List.replicate (n - ((bk1 c l).length + 1)) 48 := by
      unfold padN
      rw [List.append_assoc, List.replicate_append_replicate]
      congr 2
      omega
    rw [e3, cMv_append, pad_load hc, (cMv_rep hc _).1] at e1
    have h3 := cz_pad (cMv c (padN (bk1 c l)) 0) (n - ((bk1 c l).length + 1))
    rw [e1] at h3
    exact h3.symm
/-- counts -/
theorem cg_count {c : UInt8} (d x : UInt8) (u : Nat) (hd : d ≠ 48) : (if (cg c x u).1 = d then 1 else 0) + (if d = c then (cg c x u).2 else 0) = (if x = d then 1 else 0) + (if d = c then u else 0) := by
  have h0 : ¬ (48 : UInt8) = d := fun h => hd h.symm
  by_cases h1 : x = c
  · have e : cg c x u = (48, u + 1) := by unfold cg; rw [if_pos h1]
    rw [e, if_neg h0]
    by_cases h2 : d = c
    · rw [if_pos h2, if_pos (h1.trans h2.symm), if_pos h2]; show 0 + (u + 1) = 1 + u; omega
    · rw [if_neg h2, if_neg (fun h => h2 (h.symm.trans h1)), if_neg h2]
  · by_cases h2 : x = 48 ∧ 0 < u
    · have e : cg c x u = (c, u - 1) := by unfold cg; rw [if_neg h1, if_pos h2]
      have h3 : ¬ x = d := fun h => hd (h.symm.trans h2.1)
      rw [e, if_neg h3]
      by_cases h4 : d = c
      · rw [if_pos h4.symm, if_pos h4, if_pos h4]; show 1 + (u - 1) = 0 + u; omega
      · rw [if_neg (fun h => h4 h.symm), if_neg h4, if_neg h4]
    · have e : cg c x u = (x, u) := by unfold cg; rw [if_neg h1, if_neg h2]
      rw [e]
theorem cMv_count {c : UInt8} {d : UInt8} (hd : d ≠ 48) : ∀ (l : List UInt8) (u : Nat), (cMv c l u).count d + (if d = c then cLd c l u else 0) = l.count d + (if d = c then u else 0)
  | [], u => by simp [cMv, cLd]
  | x :: l, u => by
    have ih := cMv_count (c := c) hd l (cg c x u).2
    have hg := cg_count (c := c) d x u hd
    show ((cg c x u).1 :: cMv c l _).count d + (if d = c then cLd c l _ else 0) = _
    rw [List.count_cons, List.count_cons]
    simp only [beq_iff_eq]
    omega
theorem cz_count {d : UInt8} (hd : d ≠ 48) (l : List UInt8) : (cz l).count d = l.count d := by
  obtain ⟨n, hn⟩ := cz_eq l
  conv => rhs; rw [hn, List.count_append, List.count_replicate]
  have : ¬ (48 : UInt8) = d := fun h => hd h.symm
  simp [this]
theorem mv_count {c : UInt8} (hc : c ≠ 48) {d : UInt8} (hd : d ≠ 48) (l : List UInt8) : (mv1 c l).count d = l.count d := by
  unfold mv1
  rw [cz_count hd]
  have h := cMv_count (c := c) hd (padN l) 0
  rw [pad_load hc] at h
  have e : (padN l).count d = l.count d := by
    unfold padN
    have : ¬ (48 : UInt8) = d := fun h => hd h.symm
    rw [List.count_append, List.count_replicate]
    simp [this]
  simp only [ite_self, Nat.add_zero] at h
  omega
/-- balls of other colours stay in their boxes -/
theorem cMv_other {c : UInt8} {x : UInt8} (hx : x ≠ 48) (hxc : x ≠ c) : ∀ (l : List UInt8) (u j : Nat), l[j]? = some x → (cMv c l u)[j]? = some x
  | [], _, _, h => by simp at h
  | y :: l, u, 0, h => by
    have e : y = x := by simpa using h
    subst e
    show ((cg c y u).1 :: _)[0]? = _
    unfold cg
    simp [hxc, hx]
  | y :: l, u, j + 1, h => by
    show ((cg c y u).1 :: cMv c l _)[j + 1]? = _
    simpa using cMv_other hx hxc l _ j (by simpa using h)
theorem cz_get {l : List UInt8} {j : Nat} {x : UInt8} (hx : x ≠ 48) (h : l[j]? = some x) : (cz l)[j]? = some x := by
  obtain ⟨n, hn⟩ := cz_eq l
  rw [hn] at h
  by_cases hj : j < (cz l).length
  · rw [List.getElem?_append_left hj] at h; exact h
  · rw [List.getElem?_append_right (by omega), List.getElem?_replicate] at h
    split at h
    · injection h with h; exact absurd h.symm hx
    · cases h
theorem mv_other {c x : UInt8} (hx : x ≠ 48) (hxc : x ≠ c) {l : List UInt8} {j : Nat} (h : l[j]? = some x) : (mv1 c l)[j]? = some x := by
  refine cz_get hx (cMv_other hx hxc _ _ _ ?_)
  unfold padN
  rw [List.getElem?_append_left (List.getElem?_eq_some_iff.1 h).1]
  exact h
end Go.Proofs.Ytlgceccbjkkeiaa

/- WHAT IS TRUE OF COLOURED ROWS: the facts behind the promises of chapter 5. Pure: no walk. -/
namespace Go.Proofs.Ytlgceccbjkkeiaa
open Go.RowKit

/-- signs of coloured rows -/
def sg3 (x : UInt8) : Bool := x == 48 || x == 49 || x == 50 || x == 51
theorem sg3_iff (x : UInt8) : sg3 x = true ↔ x = 48 ∨ x = 49 ∨ x = 50 ∨ x = 51 := by
  unfold sg3
  simp [or_assoc]
def lst (s : ByteArray) : List UInt8 := s.data.toList
def ofL (l : List UInt8) : ByteArray := ⟨l.toArray⟩
theorem lst_ofL (l : List UInt8) : lst (ofL l) = l := by simp [lst, ofL]
theorem ofL_lst (s : ByteArray) : ofL (lst s) = s := by simp [lst, ofL]
theorem lst_size (s : ByteArray) : (lst s).length = s.size := by simp [lst]
theorem ofL_size (l : List UInt8) : (ofL l).size = l.length := by
  have := lst_size (ofL l)
  rw [lst_ofL] at this
  exact this.symm
/-- ColourIn -/
def cIn (s : ByteArray) : Bool := (lst s).all sg3 && decide (s.size ≤ 120)
theorem cIn_iff (s : ByteArray) : cIn s = true ↔ (∀ x ∈ lst s, sg3 x = true) ∧ s.size ≤ 120 := by
  unfold cIn
  simp
/-- a move, that of three colours; back -/
def mvO (c : UInt8) (l : List UInt8) : Option (List UInt8) := if (mv1 c l).length ≤ 120 then some (mv1 c l) else none
def bkO (c : UInt8) (l : List UInt8) : Option (List UInt8) := if cbOk c l then some (bk1 c l) else none
def stepL (l : List UInt8) : Option (List UInt8) := (mvO 49 l).bind fun a => (mvO 50 a).bind fun b => mvO 51 b
def backL (l : List UInt8) : Option (List UInt8) := (bkO 51 l).bind fun a => (bkO 50 a).bind fun b => bkO 49 b
theorem mvO_some {c : UInt8} {l r : List UInt8} (h : mvO c l = some r) : r = mv1 c l ∧ r.length ≤ 120 := by
  unfold mvO at h
  split at h
  · injection h with h; rw [← h]; exact ⟨rfl, by assumption⟩
  · cases h
theorem bkO_some {c : UInt8} {l r : List UInt8} (h : bkO c l = some r) : r = bk1 c l ∧ cbOk c l = true := by
  unfold bkO at h
  split at h
  · injection h with h; exact ⟨h.symm, by assumption⟩
  · cases h
theorem bind3 {a b : Option (List UInt8)} {f : List UInt8 → Option (List UInt8)} {r : List UInt8} (h : a.bind f = some r) (_ : b = a) : ∃ x, a = some x ∧ f x = some r := by
  cases a with
  | none => cases h
  | some x => exact ⟨x, rfl, h⟩
theorem stepL_some {l r : List UInt8} (h : stepL l = some r) : r = mv1 51 (mv1 50 (mv1 49 l)) ∧ (mv1 49 l).length ≤ 120 ∧ (mv1 50 (mv1 49 l)).length ≤ 120 ∧ r.length ≤ 120 := by
  obtain ⟨a, ha, h⟩ := bind3 h rfl
  obtain ⟨b, hb, h⟩ := bind3 h rfl
  obtain ⟨a1, a2⟩ := mvO_some ha
  obtain ⟨b1, b2⟩ := mvO_some hb
  obtain ⟨r1, r2⟩ := mvO_some h
  rw [a1] at b1 a2
  rw [b1] at r1 b2
  exact ⟨r1, a2, b2, r2⟩
theorem backL_some {l r : List UInt8} (h : backL l = some r) : r = bk1 49 (bk1 50 (bk1 51 l)) ∧ cbOk 51 l = true ∧ cbOk 50 (bk1 51 l) = true ∧ cbOk 49 (bk1 50 (bk1 51 l)) = true := by
  obtain ⟨a, ha, h⟩ := bind3 h rfl
  obtain ⟨b, hb, h⟩ := bind3 h rfl
  obtain ⟨a1, a2⟩ := bkO_some ha
  obtain ⟨b1, b2⟩ := bkO_some hb
  obtain ⟨r1, r2⟩ := bkO_some h
  rw [a1] at b1 b2
  rw [b1] at r1 r2
  exact ⟨r1, a2, b2, r2⟩
theorem n49 : (49 : UInt8) ≠ 48 := by decide
theorem n50 : (50 : UInt8) ≠ 48 := by decide
theorem n51 : (51 : UInt8) ≠ 48 := by decide
theorem cz_mv (c : UInt8) (l : List UInt8) : cz (mv1 c l) = mv1 c l := cz_cz _
theorem cz_bk (c : UInt8) (l : List UInt8) : cz (bk1 c l) = bk1 c l := cz_cz _
theorem cz_le (l : List UInt8) : (cz l).length ≤ l.length := by unfold cz; rw [List.length_take]; exact Nat.min_le_right ..
theorem bk1_le (c : UInt8) (l : List UInt8) : (bk1 c l).length ≤ l.length := by
  unfold bk1
  have := cz_le (cMv c l.reverse 0).reverse
  rw [List.length_reverse, cMv_length, List.length_reverse] at this
  exact this
theorem bkO_ok {c : UInt8} {l m : List UInt8} (h : cbOk c l = true) (e : bk1 c l = m) : bkO c l = some m := by unfold bkO; rw [if_pos h, e]
theorem mvO_ok {c : UInt8} {l m : List UInt8} (e : mv1 c l = m) (h : m.length ≤ 120) : mvO c l = some m := by unfold mvO; rw [e, if_pos h]
theorem bind_of {a : Option (List UInt8)} {x : List UInt8} {f : List UInt8 → Option (List UInt8)} (h : a = some x) : a.bind f = f x := by rw [h]; rfl
/-- P39 -/
theorem step_done_back {l r : List UInt8} (h : stepL l = some r) : backL r = some (cz l) := by
  obtain ⟨hr, _⟩ := stepL_some h
  have e1 := mv_back n51 (mv1 50 (mv1 49 l))
  have e2 := mv_back n50 (mv1 49 l)
  have e3 := mv_back n49 l
  rw [cz_mv] at e1 e2
  rw [← hr] at e1
  exact (bind_of (bkO_ok e1.1 e1.2)).trans ((bind_of (bkO_ok e2.1 e2.2)).trans (bkO_ok e3.1 e3.2))
theorem step_count {l r : List UInt8} (h : stepL l = some r) {d : UInt8} (hd : d ≠ 48) : r.count d = l.count d := by
  obtain ⟨hr, _⟩ := stepL_some h
  rw [hr, mv_count n51 hd, mv_count n50 hd, mv_count n49 hd]
/-- P41 -/
theorem back_done_step {l r : List UInt8} (h : backL l = some r) (hl : l.length ≤ 120) : stepL r = some (cz l) := by
  obtain ⟨hr, k1, k2, k3⟩ := backL_some h
  have e1 := back_mv n49 _ k3
  have e2 := back_mv n50 _ k2
  have e3 := back_mv n51 _ k1
  rw [cz_bk] at e1 e2
  rw [← hr] at e1
  have l1 := bk1_le 51 l
  have l2 := bk1_le 50 (bk1 51 l)
  have l3 := cz_le l
  exact (bind_of (mvO_ok e1 (Nat.le_trans l2 (Nat.le_trans l1 hl)))).trans ((bind_of (mvO_ok e2 (Nat.le_trans l1 hl))).trans (mvO_ok e3 (Nat.le_trans l3 hl)))
/-- signs stay signs -/
theorem cMv_sg {c : UInt8} (hc : sg3 c = true) : ∀ (l : List UInt8) (u : Nat), (∀ x ∈ l, sg3 x = true) → ∀ x ∈ cMv c l u, sg3 x = true
  | [], _, _, x, hx => by cases hx
  | y :: l, u, h, x, hx => by
    rcases List.mem_cons.1 hx with rfl | hx
    · unfold cg
      split
      · rfl
      · split
        · exact hc
        · exact h y (List.mem_cons_self ..)
    · exact cMv_sg hc l _ (fun z hz => h z (List.mem_cons_of_mem _ hz)) x hx
theorem cz_sg {l : List UInt8} (h : ∀ x ∈ l, sg3 x = true) : ∀ x ∈ cz l, sg3 x = true := fun x hx => h x (List.mem_of_mem_take hx)
theorem mv_sg {c : UInt8} (hc : sg3 c = true) {l : List UInt8} (h : ∀ x ∈ l, sg3 x = true) : ∀ x ∈ mv1 c l, sg3 x = true :=
  cz_sg (cMv_sg hc _ _ (fun x hx => by
    rcases List.mem_append.1 hx with hx | hx
    · exact h x hx
    · rw [(List.mem_replicate.1 hx).2]; rfl))
theorem bk_sg {c : UInt8} (hc : sg3 c = true) {l : List UInt8} (h : ∀ x ∈ l, sg3 x = true) : ∀ x ∈ bk1 c l, sg3 x = true :=
  cz_sg (fun x hx => cMv_sg hc _ _ (fun y hy => h y (List.mem_reverse.1 hy)) x (List.mem_reverse.1 hx))

/-! ### rows of one colour -/
def chC (c : UInt8) (l : List Bool) : List UInt8 := l.map fun b => if b then c else 48
theorem chC_length (c : UInt8) (l : List Bool) : (chC c l).length = l.length := by simp [chC]
theorem nz_chC {c : UInt8} (hc : c ≠ 48) (l : List Bool) : nz (chC c l) = l := by
  unfold nz chC
  rw [List.map_map]
  have : l.map ((fun x => !(x == 48)) ∘ fun b => if b = true then c else 48) = l.map id := List.map_congr_left (fun b _ => by cases b <;> simp [hc])
  rw [this, List.map_id]
theorem cz_chC {c : UInt8} (hc : c ≠ 48) (l : List Bool) : cz (chC c l) = chC c (cut l) := by
  unfold cz cut
  rw [nz_chC hc]
  unfold chC
  rw [List.map_take]
/-- a carrier of another colour goes by -/
theorem cMv_by {c d : UInt8} (hdc : c ≠ d) (hd : d ≠ 48) : ∀ l : List Bool, cMv d (chC c l) 0 = chC c l ∧ cLd d (chC c l) 0 = 0
  | [] => ⟨rfl, rfl⟩
  | b :: l => by
    obtain ⟨h1, h2⟩ := cMv_by hdc hd l
    have e : cg d (if b then c else 48) 0 = (if b then c else 48, 0) := by
      unfold cg
      have : ¬ (48 : UInt8) = d := fun h => hd h.symm
      cases b <;> simp [hdc, this]
    show (cg d (if b then c else 48) 0).1 :: cMv d (chC c l) _ = (if b then c else 48) :: chC c l ∧ cLd d (chC c l) _ = 0
    rw [e]
    exact ⟨by rw [h1], h2⟩
theorem mv_by {c d : UInt8} (hdc : c ≠ d) (hd : d ≠ 48) (l : List Bool) : mv1 d (chC c l) = cz (chC c l) := by
  unfold mv1 padN
  rw [cMv_append, (cMv_by hdc hd l).1, (cMv_by hdc hd l).2, (cMv_rep hd _).1]
  exact cz_pad _ _
end Go.Proofs.Ytlgceccbjkkeiaa

/- MOVES OF ONE COLOUR ALONE ARE THE STEP OF CHAPTER 2. Pure: no walk. -/
namespace Go.Proofs.Ytlgceccbjkkeiaa
open Go.RowKit

/-- its own carrier is that of chapter 2, with room enough -/
theorem cMv_own {c : UInt8} (hc : c ≠ 48) (f : Nat → Bool) : ∀ n : Nat, n ≤ 300 → (∀ i, i ≤ n → ld 200 f i < 200) → cMv c (chC c ((List.range n).map f)) 0 = chC c (stpU 200 f n) ∧ cLd c (chC c ((List.range n).map f)) 0 = ld 200 f n
  | 0, _, _ => ⟨rfl, rfl⟩
  | n + 1, hn, h => by
    obtain ⟨h1, h2⟩ := cMv_own hc f n (by omega) (fun i hi => h i (by omega))
    have hl := h n (by omega)
    have e : chC c ((List.range (n + 1)).map f) = chC c ((List.range n).map f) ++ [if f n then c else 48] := by
      unfold chC
      rw [List.range_succ, List.map_append, List.map_append]
      rfl
    rw [e, cMv_append, cLd_append, h1, h2, stpU_succ, ld_succ]
    have eg : cg c (if f n then c else 48) (ld 200 f n) = (if tr 200 f n then c else 48, nx 200 (f n) (ld 200 f n)) := by
      unfold cg tr ot nx
      have h0 : ¬ (48 : UInt8) = c := fun h => hc h.symm
      cases f n
      · by_cases hu : 0 < ld 200 f n
        · simp [h0, hu]
        · have : ld 200 f n = 0 := by omega
          simp [h0, this]
      · simp [hl]
    refine ⟨?_, ?_⟩
    · show chC c (stpU 200 f n) ++ [(cg c _ _).1] = _
      rw [eg]
      unfold chC
      rw [List.map_append]
      rfl
    · show (cg c _ _).2 = _
      rw [eg]
theorem range_bx (b : List Bool) (m : Nat) (hm : b.length ≤ m) : (List.range m).map (bx b) = b ++ List.replicate (m - b.length) false := by
  refine List.ext_getElem? fun j => ?_
  rw [List.getElem?_map]
  by_cases hj : j < m
  · rw [List.getElem?_range hj]
    by_cases hb : j < b.length
    · rw [List.getElem?_append_left hb]
      show some (bx b j) = _
      unfold bx
      rw [List.getElem?_eq_getElem hb]
      rfl
    · rw [List.getElem?_append_right (by omega), List.getElem?_replicate, if_pos (by omega)]
      show some (bx b j) = _
      rw [bx_out b j (by omega)]
  · rw [List.getElem?_eq_none_iff.2 (by rw [List.length_range]; omega), List.getElem?_eq_none_iff.2 (by rw [List.length_append, List.length_replicate]; omega)]
    rfl
theorem padN_chC (c : UInt8) (b : List Bool) : padN (chC c b) = chC c ((List.range (2 * b.length + 1)).map (bx b)) := by
  rw [range_bx b _ (by omega)]
  unfold padN chC
  rw [List.map_append, List.map_replicate, List.length_map, show 2 * b.length + 1 - b.length = b.length + 1 by omega]
  simp
theorem ld_small {b : List Bool} (h : b.length ≤ 120) (i : Nat) : ld 200 (bx b) i < 200 := by
  have h1 := ld_le_cn 200 (bx b) i
  have h2 : cn (bx b) i ≤ b.length := by
    by_cases hi : i ≤ b.length
    · exact Nat.le_trans (cn_le (bx b) i) hi
    · obtain ⟨j, rfl⟩ : ∃ j, i = b.length + j := ⟨i - b.length, by omega⟩
      rw [cn_tail (fun k hk => bx_out b k hk)]
      exact cn_le (bx b) b.length
  omega
theorem mv_own {c : UInt8} (hc : c ≠ 48) (b : List Bool) (h : b.length ≤ 120) : mv1 c (chC c b) = chC c (cut (stp 200 b)) := by
  unfold mv1
  rw [padN_chC, (cMv_own hc (bx b) (2 * b.length + 1) (by omega) (fun i _ => ld_small h i)).1, cz_chC hc]
  congr 1
  apply cut_ext
  intro i
  have hf := fin_le 200 b
  rw [bx_stp]
  by_cases hi : i < 2 * b.length + 1
  · exact bx_some _ i _ (by unfold stpU; rw [List.getElem?_map, List.getElem?_range hi]; rfl)
  · rw [bx_out _ i (by rw [stpU_length]; omega)]
    have := tr_end (K := 200) (f := bx b) (n := b.length) (fun k hk => bx_out b k hk) i (by omega)
    exact this.symm
/-- P40: one colour alone -/
theorem one_colour {c : UInt8} (hc : c = 49 ∨ c = 51) {b : List Bool} (h : b.length ≤ 120) (hl : tl (stp 200 b) ≤ 120) : stepL (chC c b) = some (chC c (cut (stp 200 b))) := by
  obtain ⟨r, hr⟩ : ∃ r, r = cut (stp 200 b) := ⟨_, rfl⟩
  have hrl : (chC c r).length ≤ 120 := by rw [chC_length, hr, cut_length]; exact hl
  have hcr : cut r = r := by rw [hr, cut_cut]
  rw [← hr]
  rcases hc with rfl | rfl
  · have e1 : mv1 49 (chC 49 b) = chC 49 r := by rw [mv_own n49 b h, hr]
    have e2 : mv1 50 (chC 49 r) = chC 49 r := by rw [mv_by (by decide) n50, cz_chC n49, hcr]
    have e3 : mv1 51 (chC 49 r) = chC 49 r := by rw [mv_by (by decide) n51, cz_chC n49, hcr]
    exact (bind_of (mvO_ok e1 hrl)).trans ((bind_of (mvO_ok e2 hrl)).trans (mvO_ok e3 hrl))
  · have hb : (cut b).length ≤ 120 := by rw [cut_length]; exact Nat.le_trans (tl_le b) h
    have hbl : (chC 51 (cut b)).length ≤ 120 := by rw [chC_length]; exact hb
    have hst : cut (stp 200 (cut b)) = cut (stp 200 b) := cut_ext (fun i => by rw [bx_stp, bx_stp, bx_fun_cut])
    have e1 : mv1 49 (chC 51 b) = chC 51 (cut b) := by rw [mv_by (by decide) n49, cz_chC n51]
    have e2 : mv1 50 (chC 51 (cut b)) = chC 51 (cut b) := by rw [mv_by (by decide) n50, cz_chC n51, cut_cut]
    have e3 : mv1 51 (chC 51 (cut b)) = chC 51 r := by rw [mv_own n51 _ hb, hst, hr]
    exact (bind_of (mvO_ok e1 hbl)).trans ((bind_of (mvO_ok e2 hbl)).trans (mvO_ok e3 hrl))
end Go.Proofs.Ytlgceccbjkkeiaa

/- CIRCLES. Pure: no walk. On a long circle a turn is a step. -/
namespace Go.Proofs.Ytlgceccbjkkeiaa
open Go.RowKit

theorem tn_own (f : Nat → Bool) : ∀ n : Nat, (∀ i, i ≤ n → ld 200 f i < 200) → tn 0 ((List.range n).map f) = stpU 200 f n ∧ lend 0 ((List.range n).map f) = ld 200 f n
  | 0, _ => ⟨rfl, rfl⟩
  | n + 1, h => by
    obtain ⟨h1, h2⟩ := tn_own f n (fun i hi => h i (by omega))
    have hl := h n (by omega)
    have e : (List.range (n + 1)).map f = (List.range n).map f ++ [f n] := by
      rw [List.range_succ, List.map_append]
      rfl
    rw [e, tn_app, lend_app, h1, h2, stpU_succ, ld_succ]
    refine ⟨?_, ?_⟩
    · congr 1
      show [!(f n) && decide (0 < ld 200 f n)] = [tr 200 f n]
      unfold tr ot
      cases f n
      · by_cases hu : 0 < ld 200 f n
        · simp [hu]
        · have : ld 200 f n = 0 := by omega
          simp [this]
      · simp [hl]
    · show lstp (ld 200 f n) (f n) = _
      unfold lstp nx
      cases f n
      · simp
      · simp [hl]
/-- P49 -/
theorem cturn_long {b : List Bool} (h : b.length ≤ 120) (m : Nat) (hm : 2 * b.length ≤ m) :
    cturn (b ++ List.replicate (m - b.length) false) = stpU 200 (bx b) m ∧ cut (stpU 200 (bx b) m) = cut (stp 200 b) := by
  have hr := range_bx b m (by omega)
  obtain ⟨h1, h2⟩ := tn_own (bx b) m (fun i _ => ld_small h i)
  have he : ld 200 (bx b) m = 0 := ld_end (fun i hi => bx_out b i hi) m hm
  refine ⟨?_, ?_⟩
  · unfold cturn
    rw [← hr, h2, he, h1]
  · apply cut_ext
    intro i
    rw [bx_stp]
    by_cases hi : i < m
    · exact bx_some _ i _ (by unfold stpU; rw [List.getElem?_map, List.getElem?_range hi]; rfl)
    · rw [bx_out _ i (by rw [stpU_length]; omega)]
      exact (tr_end (K := 200) (f := bx b) (n := b.length) (fun k hk => bx_out b k hk) i (by omega)).symm
theorem drf_long (b : List Bool) : drf (b ++ List.replicate (2 * b.length + 1) false) < 0 := by
  rw [drf_balls]
  have h := nballs_le b b.length
  rw [List.take_of_length_le (Nat.le_refl _)] at h
  have e : nballs (b ++ List.replicate (2 * b.length + 1) false) = nballs b := by
    unfold nballs
    rw [List.count_append, List.count_replicate]
    simp
  rw [e, List.length_append, List.length_replicate]
  omega
end Go.Proofs.Ytlgceccbjkkeiaa

/- CIRCLES. Pure: no walk. The boxes that are left behind some rounds, as indexes. -/
namespace Go.Proofs.Ytlgceccbjkkeiaa

/-- the signs of some boxes -/
def sgs (l : List Bool) (left : List Nat) : List Bool := left.map fun i => l.getD i false
theorem sel_map {α β : Type} (f : α → β) : ∀ (m : List Bool) (l : List α), (sel m l).map f = sel m (l.map f)
  | [], _ => by simp [sel]
  | _ :: _, [] => by simp [sel]
  | b :: m, x :: l => by
    have ih := sel_map f m l
    cases b <;> simp [sel, ih]
theorem sel_mem {α : Type} : ∀ (m : List Bool) (l : List α) (x : α), x ∈ sel m l → x ∈ l
  | [], _, _, h => by simp [sel] at h
  | _ :: _, [], _, h => by simp [sel] at h
  | b :: m, y :: l, x, h => by
    cases b
    · simp only [sel] at h
      exact List.mem_cons_of_mem _ (sel_mem m l x (by simpa using h))
    · simp only [sel] at h
      rcases List.mem_cons.1 (by simpa using h) with rfl | h
      · exact List.mem_cons_self ..
      · exact List.mem_cons_of_mem _ (sel_mem m l x h)
theorem sel_out {α : Type} : ∀ (m : List Bool) (l : List α) (x : α), m.length = l.length → x ∈ l → x ∉ sel m l → ∃ j : Nat, m[j]? = some false ∧ l[j]? = some x
  | [], [], x, _, h, _ => by simp at h
  | [], _ :: _, _, h, _, _ => by simp at h
  | _ :: _, [], _, h, _, _ => by simp at h
  | b :: m, y :: l, x, hl, h, hn => by
    cases b
    · rcases List.mem_cons.1 h with rfl | h
      · exact ⟨0, rfl, rfl⟩
      · obtain ⟨j, h1, h2⟩ := sel_out m l x (by simpa using hl) h (by simpa [sel] using hn)
        exact ⟨j + 1, h1, h2⟩
    · have hn' : x ≠ y ∧ x ∉ sel m l := by simpa [sel] using hn
      rcases List.mem_cons.1 h with e | h
      · exact absurd e hn'.1
      · obtain ⟨j, h1, h2⟩ := sel_out m l x (by simpa using hl) h hn'.2
        exact ⟨j + 1, h1, h2⟩
/-- what is known behind some rounds -/
def Stg (l : List Bool) (left : List Nat) : Prop :=
  drf (sgs l left) < 0 ∧ (∀ i ∈ left, i < l.length) ∧ cturn (sgs l left) = sgs (cturn l) left ∧
  ∀ i, i < l.length → i ∉ left → (cturn l).getD i false = !(l.getD i false)
theorem sgs_all (l : List Bool) : sgs l (List.range l.length) = l := by
  unfold sgs
  refine List.ext_getElem? fun j => ?_
  rw [List.getElem?_map]
  by_cases hj : j < l.length
  · rw [List.getElem?_range hj, List.getElem?_eq_getElem hj]
    simp [List.getD, hj]
  · rw [List.getElem?_eq_none_iff.2 (by rw [List.length_range]; omega), List.getElem?_eq_none_iff.2 (by omega)]
    rfl
theorem stg_start {l : List Bool} (h : drf l < 0) : Stg l (List.range l.length) := by
  refine ⟨by rw [sgs_all]; exact h, fun i hi => List.mem_range.1 hi, ?_, fun i hi hn => absurd (List.mem_range.2 hi) hn⟩
  rw [sgs_all]
  have := sgs_all (cturn l)
  rw [cturn_length] at this
  exact this.symm
/-- the boxes that are left behind one round more -/
def nxt (l : List Bool) (left : List Nat) : List Nat := sel (cm (sgs l left)) left
theorem nxt_signs (l : List Bool) (left : List Nat) : sgs l (nxt l left) = c10 (sgs l left) := by
  unfold nxt sgs
  rw [sel_map, c10_sel]
theorem stg_step {l : List Bool} {left : List Nat} (h : Stg l left) : Stg l (nxt l left) := by
  obtain ⟨h1, h2, h3, h4⟩ := h
  refine ⟨by rw [nxt_signs, c10_drf]; exact h1, fun i hi => h2 i (sel_mem _ _ i hi), ?_, fun i hi hn => ?_⟩
  · rw [nxt_signs, cturn_sel h1, h3]
    unfold nxt
    conv => rhs; unfold sgs
    rw [sel_map]
    rfl
  · by_cases hm : i ∈ left
    · obtain ⟨j, j1, j2⟩ := sel_out (cm (sgs l left)) left i (by rw [cm_length]; simp [sgs]) hm hn
      have e1 : (sgs l left)[j]? = some (l.getD i false) := by unfold sgs; rw [List.getElem?_map, j2]; rfl
      have e2 : (sgs (cturn l) left)[j]? = some ((cturn l).getD i false) := by unfold sgs; rw [List.getElem?_map, j2]; rfl
      have e3 := cturn_other h1 j1 e1
      rw [h3, e2] at e3
      injection e3
    · exact h4 i hi hm
/-- at the end: a turn's balls lie in the empty boxes that were paired -/
theorem stg_end {l : List Bool} {left : List Nat} (h : Stg l left) (he : (c10 (sgs l left)).length = (sgs l left).length) (i : Nat) (hi : i < l.length) :
    (cturn l).getD i false = (!(decide (i ∈ left)) && !(l.getD i false)) := by
  obtain ⟨h1, h2, h3, h4⟩ := h
  by_cases hm : i ∈ left
  · have hz := c10_none h1 he
    have hs := cturn_still hz
    rw [h3] at hs
    have hall : ∀ x ∈ sgs l left, x = false := by
      intro x hx
      cases x
      · rfl
      · unfold nballs at hz
        exact absurd hx (List.count_eq_zero.1 hz)
    have e : sgs (cturn l) left = sgs l left := hs
    have m1 : (cturn l).getD i false ∈ sgs (cturn l) left := List.mem_map.2 ⟨i, hm, rfl⟩
    rw [e] at m1
    rw [hall _ m1]
    simp [hm]
  · rw [h4 i hi hm]
    simp [hm]
/-- rounds behind rounds -/
theorem cnt_step {l : List Bool} {left : List Nat} (f : Nat) (he : (c10 (sgs l left)).length ≠ (sgs l left).length) :
    cnt10 (f + 1) (sgs l left) = ((sgs l left).length - (c10 (sgs l left)).length) / 2 :: cnt10 f (sgs l (nxt l left)) := by
  rw [nxt_signs]
  simp only [cnt10]
  rw [if_neg he]
end Go.Proofs.Ytlgceccbjkkeiaa
