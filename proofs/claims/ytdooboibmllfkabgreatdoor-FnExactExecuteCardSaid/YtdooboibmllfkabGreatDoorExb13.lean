/- TEXTS Cir3, Cir4, Cir5, Cir7, Col1, Col2, Col3. -/
import Derived.Test.YtdooboibmllfkabGreatDoorExb12
import Derived.Test.YtdooboibmllfkabGreatDoorExb09
import Derived.Test.YtdooboibmllfkabGreatDoorExb02
import Derived.Test.YtdooboibmllfkabGreatDoorExb01
namespace Go.Proofs.YtdooboibmllfkabGreatDoor
set_option maxRecDepth 100000

def hf (c : Nat) (p h : Bool) : Nat := if p && !h then c - 1 else c
theorem tn_k10 : ∀ (l : List Bool) (c : Nat) (p p' q : Bool), (0 < c → p' = !p) → (c = 0 → p = false) →
    tn (hf c p (hd l q)) (k10 p l q) = k01 p' (tn c l) (!q && decide (0 < lend c l)) ∧ lend (hf c p (hd l q)) (k10 p l q) = hf (lend c l) (ls p l) q
  | [], c, p, p', q, _, _ => ⟨rfl, rfl⟩
  | x :: l, c, p, p', q, h1, h2 => by
    have hx : hd (x :: l) q = x := rfl
    obtain ⟨h, hh⟩ : ∃ h, h = hd l q := ⟨_, rfl⟩
    cases x
    · cases c with
      | zero =>
        have hp := h2 rfl
        subst hp
        have ih := tn_k10 l 0 false false q (fun h => absurd h (by omega)) (fun _ => rfl)
        have e1 : hf 0 false (hd l q) = 0 := by simp [hf]
        have e2 : hd (tn 0 l) (!q && decide (0 < lend 0 l)) = (!(hd l q) && decide (0 < (0 : Nat)) || (decide (l = []) && !q && decide (0 < lend 0 l))) := by
          cases l with
          | nil => simp [hd, tn, lend]
          | cons y l => simp [hd, tn]
        have e3 : hd (tn 0 l) (!q && decide (0 < lend 0 l)) = false := by
          rw [e2]
          cases l with
          | nil => simp [lend]
          | cons y l => simp
        rw [e1] at ih
        obtain ⟨i1, i2⟩ := ih
        have e4 : lstp 0 false = 0 := rfl
        simp only [hx, k10, tn, lend, ls, k01, e4]
        simp only [hf, e3] at *
        simp [tn, lend, e4, i1]
        simpa using i2
      | succ k =>
        have hp' : p' = !p := h1 (by omega)
        subst hp'
        have ih := tn_k10 l k false true q (fun _ => rfl) (fun _ => rfl)
        have e1 : hf k false (hd l q) = k := by simp [hf]
        rw [e1] at ih
        obtain ⟨i1, i2⟩ := ih
        have e4 : lstp (k + 1) false = k := by simp [lstp]
        simp only [hx, k10, tn, lend, ls, k01, e4]
        cases p
        · simp [hf, tn, lend, e4]
          exact ⟨i1, by simpa [hf] using i2⟩
        · simp [hf]
          exact ⟨i1, by simpa [hf] using i2⟩
    · have ih := tn_k10 l (c + 1) true false q (fun _ => rfl) (fun h => absurd h (by omega))
      obtain ⟨i1, i2⟩ := ih
      have e4 : lstp c true = c + 1 := by simp [lstp]
      have e0 : hf c p true = c := by simp [hf]
      have e2 : hd (tn (c + 1) l) (!q && decide (0 < lend (c + 1) l)) = !(hd l q) := by
        cases l with
        | nil => simp [hd, tn, lend]
        | cons y l => simp [hd, tn]
      simp only [hx, k10, tn, lend, ls, k01, e4, e0]
      have e5 : (!true && decide (0 < c)) = false := by simp
      rw [e5, e2]
      rw [← hh] at i1 i2 ⊢
      cases h
      · have e6 : hf (c + 1) true false = c := by simp [hf]
        rw [e6] at i1 i2
        simp
        exact ⟨i1, i2⟩
      · have e6 : hf (c + 1) true true = c + 1 := by simp [hf]
        rw [e6] at i1 i2
        simp [tn, lend, e4]
        exact ⟨i1, i2⟩
theorem ls_inv : ∀ (l : List Bool) (c : Nat) (p p' : Bool), l ≠ [] → (c = 0 → p = false) → (0 < c → p' = !p) →
    (0 < lend c l → ls p' (tn c l) = !(ls p l)) ∧ (lend c l = 0 → ls p l = false)
  | [], _, _, _, h, _, _ => absurd rfl h
  | [x], c, p, p', _, h0, h1 => by
    cases x
    · by_cases h : 0 < c
      · simp [lend, ls, tn, lstp, h]
      · simp [lend, ls, tn, lstp, h]; omega
    · simp [lend, ls, tn, lstp]
  | x :: y :: l, c, p, p', _, h0, h1 => by
    have := ls_inv (y :: l) (lstp c x) x (!x && decide (0 < c)) (by simp)
      (by cases x <;> simp [lstp]) (by cases x <;> simp [lstp] <;> omega)
    exact this
def bi (b : Bool) : Int := if b then 1 else 0
theorem k10_drf : ∀ (l : List Bool) (p q : Bool), drf (k10 p l q) + bi (ls p l && !q) = drf l + bi (p && !(hd l q))
  | [], p, q => by simp [k10, ls, hd, drf]
  | x :: l, p, q => by
    have ih := k10_drf l x q
    have hx : hd (x :: l) q = x := rfl
    have e : ls p (x :: l) = ls x l := rfl
    rw [hx, e]
    simp only [k10, drf]
    obtain ⟨h, hh⟩ : ∃ h, h = hd l q := ⟨_, rfl⟩
    rw [← hh] at ih ⊢
    obtain ⟨t, ht⟩ : ∃ t : Int, t = bi (ls x l && !q) := ⟨_, rfl⟩
    rw [← ht] at ih ⊢
    cases x <;> cases p <;> cases h <;> simp [drf, bi] at ih ⊢ <;> omega
theorem c10_drf (l : List Bool) : drf (c10 l) = drf l := by
  have h := k10_drf l (ls false l) (hd l false)
  have e : ls (ls false l) l = ls false l := by cases l <;> rfl
  have e2 : hd l (hd l false) = hd l false := by cases l <;> rfl
  rw [e, e2] at h
  unfold c10
  omega
theorem hd_tn (c : Nat) {l : List Bool} (q q' : Bool) (h : l ≠ []) : hd (tn c l) q' = (!(hd l q) && decide (0 < c)) := by
  cases l with
  | nil => exact absurd rfl h
  | cons x l => rfl
theorem c01_turn {l : List Bool} (h : drf l < 0) : c01 (cturn l) = cturn (c10 l) := by
  have hne : l ≠ [] := by intro e; subst e; simp [drf] at h
  have hs := lend_stays h
  obtain ⟨c, hc⟩ : ∃ c, c = lend 0 l := ⟨_, rfl⟩
  rw [← hc] at hs
  -- what is known at the end, whatever the start
  have hi : ∀ p p', (c = 0 → p = false) → (0 < c → p' = !p) → (0 < c → ls p' (tn c l) = !(ls p l)) ∧ (c = 0 → ls p l = false) := by
    intro p p' h0 h1
    have := ls_inv l c p p' hne h0 h1
    rwa [hs] at this
  obtain ⟨j1, j2⟩ := hi false true (fun _ => rfl) (fun _ => rfl)
  have ht : tn c l ≠ [] := by intro e; have := congrArg List.length e; rw [tn_length] at this; exact hne (List.eq_nil_of_length_eq_zero (by simpa using this))
  have hls : ls true (tn c l) = ls false (tn c l) := ls_cons _ _ ht
  rw [hls] at j1
  have k := tn_k10 l c (ls false l) (ls false (tn c l)) (hd l false) j1 j2
  have e : ls (ls false l) l = ls false l := by cases l <;> rfl
  have e2 : hd l (hd l false) = hd l false := by cases l <;> rfl
  rw [e, e2, hs] at k
  obtain ⟨k1, k2⟩ := k
  have hd2 : drf (c10 l) < 0 := by rw [c10_drf]; exact h
  have k3 := lend_one hd2 (c := hf c (ls false l) (hd l false)) k2
  unfold cturn
  rw [← k3, ← hc]
  unfold c01
  rw [hd_tn c false false hne]
  exact k1.symm
def cturns : Nat → List Bool → List Bool
  | 0, l => l
  | n + 1, l => cturns n (cturn l)
theorem cturns_comm : ∀ (n : Nat) (l : List Bool), cturns n (cturn l) = cturn (cturns n l)
  | 0, _ => rfl
  | n + 1, l => cturns_comm n (cturn l)
theorem cturn_none : ∀ (l : List Bool), (∀ x ∈ l, x = false) → cturn l = l := by
  have g : ∀ (l : List Bool), (∀ x ∈ l, x = false) → lend 0 l = 0 ∧ tn 0 l = l := by
    intro l
    induction l with
    | nil => intro _; exact ⟨rfl, rfl⟩
    | cons x l ih =>
      intro h
      have hx := h x (by simp)
      subst hx
      obtain ⟨i1, i2⟩ := ih (fun y hy => h y (by simp [hy]))
      exact ⟨i1, by simp only [tn, lstp]; simp; exact i2⟩
  intro l h
  unfold cturn
  rw [(g l h).1]
  exact (g l h).2
end Go.Proofs.YtdooboibmllfkabGreatDoor

namespace Go.Proofs.YtdooboibmllfkabGreatDoor
set_option maxRecDepth 100000

theorem drf_balls (l : List Bool) : drf l = 2 * (nballs l : Int) - (l.length : Int) := by
  induction l with
  | nil => rfl
  | cons x l ih =>
    simp only [drf, ih]
    have e : nballs (x :: l) = nballs l + if x then 1 else 0 := by
      unfold nballs
      rw [List.count_cons]
      cases x <;> rfl
    rw [e, List.length_cons]
    cases x <;> simp <;> omega
theorem aj_le : ∀ (l : List Bool) (p : Bool), (aj p l).length ≤ l.length
  | [], _ => Nat.le_refl _
  | x :: l, p => by
    have := aj_le l x
    simp only [aj]
    split
    · simp; exact this
    · simp; omega
theorem aj_full : ∀ (l : List Bool) (p : Bool), (aj p l).length = l.length → ∀ x ∈ l, x = p
  | [], _, _ => by simp
  | x :: l, p, h => by
    have hl := aj_le l x
    simp only [aj] at h
    by_cases hp : p = x
    · subst hp
      rw [if_pos rfl] at h
      have ih := aj_full l p (by simpa using h)
      intro y hy
      rcases List.mem_cons.1 hy with rfl | hy
      · rfl
      · exact ih y hy
    · rw [if_neg hp] at h
      simp at h
      omega
theorem nballs_all {l : List Bool} {p : Bool} (h : ∀ x ∈ l, x = p) : nballs l = if p then l.length else 0 := by
  unfold nballs
  cases p
  · rw [if_neg (by simp), List.count_eq_zero]
    intro hm
    exact absurd (h true hm) (by simp)
  · rw [if_pos rfl]
    exact List.count_eq_length.2 (fun b hb => (h b hb).symm)
theorem c10_le (l : List Bool) : (c10 l).length ≤ l.length := by
  rw [(c10_rot l).length]
  exact aj_le _ _
theorem c10_none {l : List Bool} (h : drf l < 0) (he : (c10 l).length = l.length) : nballs l = 0 := by
  rw [(c10_rot l).length] at he
  have := nballs_all (aj_full l (ls false l) he)
  rw [drf_balls] at h
  cases hp : ls false l
  · rw [hp] at this; simpa using this
  · rw [hp, if_pos rfl] at this; omega
theorem c10_balls (l : List Bool) : 2 * (nballs l - nballs (c10 l)) = l.length - (c10 l).length ∧ nballs (c10 l) ≤ nballs l := by
  have h1 := c10_drf l
  have h2 := c10_le l
  rw [drf_balls, drf_balls] at h1
  omega
end Go.Proofs.YtdooboibmllfkabGreatDoor

namespace Go.Proofs.YtdooboibmllfkabGreatDoor
set_option maxRecDepth 100000

def sel {α : Type} : List Bool → List α → List α
  | m :: ms, x :: l => if m then x :: sel ms l else sel ms l
  | _, _ => []
def m10 (p : Bool) : List Bool → Bool → List Bool
  | [], _ => []
  | x :: l, q => (if x then hd l q else !p) :: m10 x l q
def m01 (p : Bool) : List Bool → Bool → List Bool
  | [], _ => []
  | x :: l, q => (if x then p else !(hd l q)) :: m01 x l q
theorem k10_sel : ∀ (l : List Bool) (p q : Bool), k10 p l q = sel (m10 p l q) l
  | [], _, _ => rfl
  | x :: l, p, q => by simp only [k10, m10, sel, k10_sel l x q]
theorem k01_sel : ∀ (l : List Bool) (p q : Bool), k01 p l q = sel (m01 p l q) l
  | [], _, _ => rfl
  | x :: l, p, q => by simp only [k01, m01, sel, k01_sel l x q]
theorem m10_length : ∀ (l : List Bool) (p q : Bool), (m10 p l q).length = l.length
  | [], _, _ => rfl
  | x :: l, p, q => by simp only [m10, List.length_cons, m10_length l x q]
theorem tn_m10 : ∀ (l : List Bool) (c : Nat) (p p' q : Bool), (0 < c → p' = !p) → (c = 0 → p = false) →
    m01 p' (tn c l) (!q && decide (0 < lend c l)) = m10 p l q
  | [], _, _, _, _, _, _ => rfl
  | x :: l, c, p, p', q, h1, h2 => by
    have e2 : hd (tn (lstp c x) l) (!q && decide (0 < lend (lstp c x) l)) = (!(hd l q) && decide (0 < lstp c x)) := by
      cases l <;> rfl
    have ih := tn_m10 l (lstp c x) x (!x && decide (0 < c)) q (by cases x <;> simp [lstp] <;> omega) (by cases x <;> simp [lstp])
    show (if (!x && decide (0 < c)) then p' else !(hd (tn (lstp c x) l) (!q && decide (0 < lend (lstp c x) l)))) :: m01 (!x && decide (0 < c)) (tn (lstp c x) l) (!q && decide (0 < lend (lstp c x) l)) = (if x then hd l q else !p) :: m10 x l q
    rw [e2, ih]
    congr 1
    cases x
    · by_cases h : 0 < c
      · rw [h1 h]; simp [h]
      · have h0 : c = 0 := by omega
        subst h0
        rw [h2 rfl]; simp [lstp]
    · simp [lstp]
theorem tn_other : ∀ (l : List Bool) (c : Nat) (p q : Bool) (j : Nat) (x : Bool), (c = 0 → p = false) → (m10 p l q)[j]? = some false → l[j]? = some x → (tn c l)[j]? = some (!x)
  | [], _, _, _, j, x, _, _, h => by simp at h
  | y :: l, c, p, q, 0, x, h2, hm, h => by
    have hx : y = x := by simpa using h
    subst hx
    cases y
    · have hp : p = true := by simpa [m10] using hm
      have hc : 0 < c := Nat.pos_of_ne_zero (fun e => by have := h2 e; rw [hp] at this; exact absurd this (by simp))
      simp [tn, hc]
    · simp [tn]
  | y :: l, c, p, q, j + 1, x, h2, hm, h => by
    have := tn_other l (lstp c y) y q j x (by cases y <;> simp [lstp]) (by simpa [m10] using hm) (by simpa using h)
    simpa [tn] using this
def cm (l : List Bool) : List Bool := m10 (ls false l) l (hd l false)
theorem cm_length (l : List Bool) : (cm l).length = l.length := m10_length _ _ _
theorem c10_sel (l : List Bool) : c10 l = sel (cm l) l := k10_sel _ _ _
theorem start_inv {l : List Bool} (h : drf l < 0) : (0 < lend 0 l → ls false (cturn l) = !(ls false l)) ∧ (lend 0 l = 0 → ls false l = false) := by
  have hne : l ≠ [] := by intro e; subst e; simp [drf] at h
  have hs := lend_stays h
  have k := ls_inv l (lend 0 l) false true hne (fun _ => rfl) (fun _ => rfl)
  rw [hs] at k
  have ht : tn (lend 0 l) l ≠ [] := by intro e; have := congrArg List.length e; rw [tn_length] at this; exact hne (List.eq_nil_of_length_eq_zero (by simpa using this))
  rw [ls_cons true false ht] at k
  exact k
theorem cturn_sel {l : List Bool} (h : drf l < 0) : cturn (c10 l) = sel (cm l) (cturn l) := by
  have hne : l ≠ [] := by intro e; subst e; simp [drf] at h
  obtain ⟨j1, j2⟩ := start_inv h
  have hs := lend_stays h
  rw [← c01_turn h]
  unfold c01 cm
  rw [k01_sel]
  have k := tn_m10 l (lend 0 l) (ls false l) (ls false (cturn l)) (hd l false) j1 j2
  rw [hs] at k
  have e : hd (cturn l) false = (!(hd l false) && decide (0 < lend 0 l)) := hd_tn _ _ _ hne
  rw [e]
  unfold cturn at k ⊢
  rw [k]
theorem cturn_other {l : List Bool} (h : drf l < 0) {j : Nat} {x : Bool} (hm : (cm l)[j]? = some false) (hx : l[j]? = some x) : (cturn l)[j]? = some (!x) :=
  tn_other l _ _ _ j x (start_inv h).2 hm hx
theorem cturn_still {l : List Bool} (h : nballs l = 0) : cturn l = l :=
  cturn_none l (fun x hx => by
    cases x
    · rfl
    · unfold nballs at h
      exact absurd hx (List.count_eq_zero.1 h))
end Go.Proofs.YtdooboibmllfkabGreatDoor

namespace Go.Proofs.YtdooboibmllfkabGreatDoor
set_option maxRecDepth 100000

def sgs (l : List Bool) (left : List Nat) : List Bool := left.map fun i => l.getD i false
theorem sel_map {α β : Type} (f : α → β) : ∀ (m : List Bool) (l : List α), (sel m l).map f = sel m (l.map f)
  | [], _ => by simp [sel]
  | _ :: _, [] => by simp [sel]
  | b :: m, x :: l => by
    have ih := sel_map f m l
    cases b <;> simp [sel, ih]
theorem sel_mem {α : Type} : ∀ (m : List Bool) (l : List α) (x : α), x ∈ sel m l → x ∈ l
  | [], _, _, h => by simp [sel] at h
  | _ :: _, [], _, h => by simp [sel] at h
  | b :: m, y :: l, x, h => by
    cases b
    · simp only [sel] at h
      exact List.mem_cons_of_mem _ (sel_mem m l x (by simpa using h))
    · simp only [sel] at h
      rcases List.mem_cons.1 (by simpa using h) with rfl | h
      · exact List.mem_cons_self ..
      · exact List.mem_cons_of_mem _ (sel_mem m l x h)
theorem sel_out {α : Type} : ∀ (m : List Bool) (l : List α) (x : α), m.length = l.length → x ∈ l → x ∉ sel m l → ∃ j : Nat, m[j]? = some false ∧ l[j]? = some x
  | [], [], x, _, h, _ => by simp at h
  | [], _ :: _, _, h, _, _ => by simp at h
  | _ :: _, [], _, h, _, _ => by simp at h
  | b :: m, y :: l, x, hl, h, hn => by
    cases b
    · rcases List.mem_cons.1 h with rfl | h
      · exact ⟨0, rfl, rfl⟩
      · obtain ⟨j, h1, h2⟩ := sel_out m l x (by simpa using hl) h (by simpa [sel] using hn)
        exact ⟨j + 1, h1, h2⟩
    · have hn' : x ≠ y ∧ x ∉ sel m l := by simpa [sel] using hn
      rcases List.mem_cons.1 h with e | h
      · exact absurd e hn'.1
      · obtain ⟨j, h1, h2⟩ := sel_out m l x (by simpa using hl) h hn'.2
        exact ⟨j + 1, h1, h2⟩
def Stg (l : List Bool) (left : List Nat) : Prop :=
  drf (sgs l left) < 0 ∧ (∀ i ∈ left, i < l.length) ∧ cturn (sgs l left) = sgs (cturn l) left ∧
  ∀ i, i < l.length → i ∉ left → (cturn l).getD i false = !(l.getD i false)
theorem sgs_all (l : List Bool) : sgs l (List.range l.length) = l := by
  unfold sgs
  refine List.ext_getElem? fun j => ?_
  rw [List.getElem?_map]
  by_cases hj : j < l.length
  · rw [List.getElem?_range hj, List.getElem?_eq_getElem hj]
    simp [List.getD, hj]
  · rw [List.getElem?_eq_none_iff.2 (by rw [List.length_range]; omega), List.getElem?_eq_none_iff.2 (by omega)]
    rfl
theorem stg_start {l : List Bool} (h : drf l < 0) : Stg l (List.range l.length) := by
  refine ⟨by rw [sgs_all]; exact h, fun i hi => List.mem_range.1 hi, ?_, fun i hi hn => absurd (List.mem_range.2 hi) hn⟩
  rw [sgs_all]
  have := sgs_all (cturn l)
  rw [cturn_length] at this
  exact this.symm
def nxt (l : List Bool) (left : List Nat) : List Nat := sel (cm (sgs l left)) left
theorem nxt_signs (l : List Bool) (left : List Nat) : sgs l (nxt l left) = c10 (sgs l left) := by
  unfold nxt sgs
  rw [sel_map, c10_sel]
theorem stg_step {l : List Bool} {left : List Nat} (h : Stg l left) : Stg l (nxt l left) := by
  obtain ⟨h1, h2, h3, h4⟩ := h
  refine ⟨by rw [nxt_signs, c10_drf]; exact h1, fun i hi => h2 i (sel_mem _ _ i hi), ?_, fun i hi hn => ?_⟩
  · rw [nxt_signs, cturn_sel h1, h3]
    unfold nxt
    conv => rhs; unfold sgs
    rw [sel_map]
    rfl
  · by_cases hm : i ∈ left
    · obtain ⟨j, j1, j2⟩ := sel_out (cm (sgs l left)) left i (by rw [cm_length]; simp [sgs]) hm hn
      have e1 : (sgs l left)[j]? = some (l.getD i false) := by unfold sgs; rw [List.getElem?_map, j2]; rfl
      have e2 : (sgs (cturn l) left)[j]? = some ((cturn l).getD i false) := by unfold sgs; rw [List.getElem?_map, j2]; rfl
      have e3 := cturn_other h1 j1 e1
      rw [h3, e2] at e3
      injection e3
    · exact h4 i hi hm
theorem stg_end {l : List Bool} {left : List Nat} (h : Stg l left) (he : (c10 (sgs l left)).length = (sgs l left).length) (i : Nat) (hi : i < l.length) :
    (cturn l).getD i false = (!(decide (i ∈ left)) && !(l.getD i false)) := by
  obtain ⟨h1, h2, h3, h4⟩ := h
  by_cases hm : i ∈ left
  · have hz := c10_none h1 he
    have hs := cturn_still hz
    rw [h3] at hs
    have hall : ∀ x ∈ sgs l left, x = false := by
      intro x hx
      cases x
      · rfl
      · unfold nballs at hz
        exact absurd hx (List.count_eq_zero.1 hz)
    have e : sgs (cturn l) left = sgs l left := hs
    have m1 : (cturn l).getD i false ∈ sgs (cturn l) left := List.mem_map.2 ⟨i, hm, rfl⟩
    rw [e] at m1
    rw [hall _ m1]
    simp [hm]
  · rw [h4 i hi hm]
    simp [hm]
theorem cnt_step {l : List Bool} {left : List Nat} (f : Nat) (he : (c10 (sgs l left)).length ≠ (sgs l left).length) :
    cnt10 (f + 1) (sgs l left) = ((sgs l left).length - (c10 (sgs l left)).length) / 2 :: cnt10 f (sgs l (nxt l left)) := by
  rw [nxt_signs]
  simp only [cnt10]
  rw [if_neg he]
end Go.Proofs.YtdooboibmllfkabGreatDoor

namespace Go.Proofs.YtdooboibmllfkabGreatDoor
set_option maxRecDepth 100000
open Go.RowKit

def cg (c x : UInt8) (u : Nat) : UInt8 × Nat := if x = c then (48, u + 1) else if x = 48 ∧ 0 < u then (c, u - 1) else (x, u)
def cMv (c : UInt8) : List UInt8 → Nat → List UInt8
  | [], _ => []
  | x :: l, u => (cg c x u).1 :: cMv c l (cg c x u).2
def cLd (c : UInt8) : List UInt8 → Nat → Nat
  | [], u => u
  | x :: l, u => cLd c l (cg c x u).2
theorem cMv_length (c : UInt8) : ∀ (l : List UInt8) (u : Nat), (cMv c l u).length = l.length
  | [], _ => rfl
  | x :: l, u => by show (cMv c l _).length + 1 = l.length + 1; rw [cMv_length c l]
theorem cMv_append (c : UInt8) : ∀ (l m : List UInt8) (u : Nat), cMv c (l ++ m) u = cMv c l u ++ cMv c m (cLd c l u)
  | [], _, _ => rfl
  | x :: l, m, u => by show _ :: cMv c (l ++ m) _ = _ :: (cMv c l _ ++ cMv c m _); rw [cMv_append c l m]; rfl
theorem cLd_append (c : UInt8) : ∀ (l m : List UInt8) (u : Nat), cLd c (l ++ m) u = cLd c m (cLd c l u)
  | [], _, _ => rfl
  | _ :: l, m, _ => cLd_append c l m _
def zs (l : List UInt8) : Nat := l.count 48
theorem zs_cons (x : UInt8) (l : List UInt8) : zs (x :: l) = zs l + if x = 48 then 1 else 0 := by
  unfold zs
  rw [List.count_cons]
  simp
theorem zs_nil : zs [] = 0 := rfl
theorem cLd_le (c : UInt8) : ∀ (l : List UInt8) (u : Nat), cLd c l u ≤ u + l.length
  | [], _ => Nat.le_refl _
  | x :: l, u => by
    have := cLd_le c l (cg c x u).2
    have h : (cg c x u).2 ≤ u + 1 := by unfold cg; split <;> (try split) <;> simp <;> omega
    show cLd c l _ ≤ u + (l.length + 1)
    omega
def fz (c : UInt8) : Nat → List UInt8 → List UInt8
  | _, [] => []
  | u, x :: l => if x = 48 ∧ 0 < u then c :: fz c (u - 1) l else x :: fz c u l
theorem fz_pos {c x : UInt8} {u : Nat} {l : List UInt8} (h : x = 48 ∧ 0 < u) : fz c u (x :: l) = c :: fz c (u - 1) l := by rw [fz, if_pos h]
theorem fz_neg {c x : UInt8} {u : Nat} {l : List UInt8} (h : ¬ (x = 48 ∧ 0 < u)) : fz c u (x :: l) = x :: fz c u l := by rw [fz, if_neg h]
theorem fz_length (c : UInt8) : ∀ (u : Nat) (l : List UInt8), (fz c u l).length = l.length
  | _, [] => rfl
  | u, x :: l => by unfold fz; split <;> simp [fz_length c]
theorem fz_zero (c : UInt8) : ∀ l : List UInt8, fz c 0 l = l
  | [] => rfl
  | x :: l => by unfold fz; simp [fz_zero c l]
theorem fz_empty {c : UInt8} (hc : c ≠ 48) : ∀ (u : Nat) (l : List UInt8) (j : Nat), (fz c u l)[j]? = some 48 → l[j]? = some 48
  | _, [], j, h => by simp [fz] at h
  | u, x :: l, 0, h => by
    unfold fz at h
    split at h
    · simp at h; exact absurd h hc
    · simpa using h
  | u, x :: l, j + 1, h => by
    unfold fz at h
    split at h <;> exact fz_empty hc _ l j (by simpa using h)
theorem fz_find {c : UInt8} : ∀ (u : Nat) (l : List UInt8), u < zs l → ∃ k, k < l.length ∧ (fz c u l)[k]? = some 48
  | u, [], h => by rw [zs_nil] at h; omega
  | u, x :: l, h => by
    rw [zs_cons] at h
    unfold fz
    by_cases h1 : x = 48
    · subst h1
      by_cases h2 : 0 < u
      · obtain ⟨k, hk, e⟩ := fz_find (c := c) (u - 1) l (by simp at h; omega)
        exact ⟨k + 1, by simp; omega, by simp [h2, e]⟩
      · exact ⟨0, by simp, by simp [h2]⟩
    · obtain ⟨k, hk, e⟩ := fz_find (c := c) u l (by simp [h1] at h; omega)
      exact ⟨k + 1, by simp; omega, by simp [h1, e]⟩
theorem fz_none {c : UInt8} (hc : c ≠ 48) : ∀ (u : Nat) (l : List UInt8), zs l ≤ u → ∀ j : Nat, (fz c u l)[j]? ≠ some 48
  | _, [], _, j => by simp [fz]
  | u, x :: l, h, j => by
    rw [zs_cons] at h
    unfold fz
    by_cases h1 : x = 48
    · subst h1
      have h2 : 0 < u := by simp at h; omega
      have := fz_none hc (u - 1) l (by simp at h; omega)
      cases j with
      | zero => simp [h2, hc]
      | succ j => simpa [h2] using this j
    · have := fz_none hc u l (by simp [h1] at h; omega)
      cases j with
      | zero => simp [h1]
      | succ j => simpa [h1] using this j
theorem fz_more {c : UInt8} (hc : c ≠ 48) : ∀ (u : Nat) (l : List UInt8) (k : Nat), (fz c u l)[k]? = some 48 → (∀ j, j < k → (fz c u l)[j]? ≠ some 48) → fz c (u + 1) l = (fz c u l).set k c
  | _, [], k, h, _ => by simp [fz] at h
  | u, x :: l, k, h, hb => by
    unfold fz at h hb ⊢
    by_cases h1 : x = 48
    · subst h1
      by_cases h2 : 0 < u
      · simp only [h2, and_self, if_true, true_and] at h hb ⊢
        cases k with
        | zero => simp at h; exact absurd h hc
        | succ k =>
          have ih := fz_more hc (u - 1) l k (by simpa using h) (fun j hj => by simpa using hb (j + 1) (by omega))
          have e : u + 1 - 1 = u - 1 + 1 := by omega
          simp [e, ih]
      · have hu : u = 0 := by omega
        subst hu
        cases k with
        | zero => simp
        | succ k => exact absurd (hb 0 (by omega)) (by simp)
    · simp only [h1, false_and, if_false] at h hb ⊢
      cases k with
      | zero => simp at h; exact absurd h h1
      | succ k =>
        have ih := fz_more hc u l k (by simpa using h) (fun j hj => by simpa using hb (j + 1) (by omega))
        simp [ih]
def cAt (c : UInt8) (l : List UInt8) (i : Nat) : List UInt8 := cMv c (l.take i) 0 ++ fz c (cLd c (l.take i) 0) (l.drop i)
theorem cAt_zero (c : UInt8) (l : List UInt8) : cAt c l 0 = l := by unfold cAt; simp [cMv, cLd, fz_zero]
theorem cAt_all (c : UInt8) (l : List UInt8) : cAt c l l.length = cMv c l 0 := by unfold cAt; simp [fz]
theorem cAt_length (c : UInt8) (l : List UInt8) (i : Nat) : (cAt c l i).length = l.length := by
  unfold cAt
  rw [List.length_append, cMv_length, fz_length, ← List.length_append, List.take_append_drop]
theorem take_one {l : List UInt8} {i : Nat} {x : UInt8} (h : l[i]? = some x) : l.take (i + 1) = l.take i ++ [x] ∧ l.drop i = x :: l.drop (i + 1) := by
  obtain ⟨hi, e⟩ := List.getElem?_eq_some_iff.1 h
  exact ⟨by rw [List.take_succ_eq_append_getElem hi, e], by rw [List.drop_eq_getElem_cons hi, e]⟩
theorem cAt_other {c : UInt8} {l : List UInt8} {i : Nat} {x : UInt8} (h : l[i]? = some x) (hx : x ≠ c) : cAt c l (i + 1) = cAt c l i := by
  obtain ⟨h1, h2⟩ := take_one h
  unfold cAt
  rw [h1, h2, cMv_append, cLd_append, List.append_assoc]
  congr 1
  show (cg c x _).1 :: fz c (cg c x _).2 _ = fz c _ (x :: _)
  by_cases h3 : x = 48 ∧ 0 < cLd c (l.take i) 0
  · rw [fz_pos h3]
    unfold cg
    rw [if_neg hx, if_pos h3]
  · rw [fz_neg h3]
    unfold cg
    rw [if_neg hx, if_neg h3]
theorem cAt_behind {c : UInt8} {l : List UInt8} {i : Nat} (h : l[i]? = some c) (hc : c ≠ 48) (k : Nat) : (cAt c l i)[i + 1 + k]? = (fz c (cLd c (l.take i) 0) (l.drop (i + 1)))[k]? := by
  obtain ⟨h1, h2⟩ := take_one h
  obtain ⟨hi, _⟩ := List.getElem?_eq_some_iff.1 h
  unfold cAt
  rw [h2]
  have e : fz c (cLd c (l.take i) 0) (c :: l.drop (i + 1)) = c :: fz c (cLd c (l.take i) 0) (l.drop (i + 1)) := by
    rw [fz]; simp [hc]
  rw [e, List.getElem?_append_right (by rw [cMv_length, List.length_take]; omega), cMv_length, List.length_take, Nat.min_eq_left (by omega), show i + 1 + k - i = k + 1 by omega]
  simp
theorem set_behind (A B : List UInt8) (y v : UInt8) (k : Nat) : (A ++ y :: B).set (A.length + 1 + k) v = A ++ y :: B.set k v := by
  induction A with
  | nil =>
    show (y :: B).set (0 + 1 + k) v = _
    rw [show 0 + 1 + k = k + 1 by omega]
    rfl
  | cons a A ih =>
    rw [show (a :: A).length + 1 + k = (A.length + 1 + k) + 1 by simp; omega]
    show a :: (A ++ y :: B).set (A.length + 1 + k) v = _
    rw [ih]
    rfl
theorem set_at (A B : List UInt8) (y v : UInt8) : (A ++ y :: B).set A.length v = A ++ v :: B := by
  induction A with
  | nil => rfl
  | cons a A ih =>
    show a :: (A ++ y :: B).set A.length v = _
    rw [ih]
    rfl
theorem cAt_ball {c : UInt8} {l : List UInt8} {i k : Nat} (hc : c ≠ 48) (h : l[i]? = some c) (hk : (cAt c l i)[i + 1 + k]? = some 48) (hb : ∀ j, j < k → (cAt c l i)[i + 1 + j]? ≠ some 48) :
    cAt c l (i + 1) = ((cAt c l i).set (i + 1 + k) c).set i 48 := by
  obtain ⟨h1, h2⟩ := take_one h
  obtain ⟨hi, _⟩ := List.getElem?_eq_some_iff.1 h
  rw [cAt_behind h hc] at hk
  have hm := fz_more hc (cLd c (l.take i) 0) (l.drop (i + 1)) k hk (fun j hj => by rw [← cAt_behind h hc]; exact hb j hj)
  have hll : (cMv c (l.take i) 0).length = i := by rw [cMv_length, List.length_take]; omega
  have e : fz c (cLd c (l.take i) 0) (c :: l.drop (i + 1)) = c :: fz c (cLd c (l.take i) 0) (l.drop (i + 1)) := by
    rw [fz]; simp [hc]
  unfold cAt
  rw [h1, cMv_append, cLd_append, h2, e, List.append_assoc]
  have e2 : cMv c [c] (cLd c (l.take i) 0) = [48] := by simp [cMv, cg]
  have e3 : cLd c [c] (cLd c (l.take i) 0) = cLd c (l.take i) 0 + 1 := by simp [cLd, cg]
  rw [e2, e3, hm]
  generalize cMv c (l.take i) 0 = A at hll ⊢
  generalize fz c (cLd c (l.take i) 0) (l.drop (i + 1)) = B
  subst hll
  rw [set_behind, set_at]
  rfl
end Go.Proofs.YtdooboibmllfkabGreatDoor

namespace Go.Proofs.YtdooboibmllfkabGreatDoor
set_option maxRecDepth 100000
open Go.RowKit

def nz (l : List UInt8) : List Bool := l.map (fun x => !(x == 48))
def cz (l : List UInt8) : List UInt8 := l.take (tl (nz l))
theorem nz_length (l : List UInt8) : (nz l).length = l.length := by simp [nz]
theorem cz_length (l : List UInt8) : (cz l).length = tl (nz l) := by
  unfold cz
  rw [List.length_take]
  have := tl_le (nz l)
  rw [nz_length] at this
  exact Nat.min_eq_left this
theorem cz_eq (l : List UInt8) : ∃ n, l = cz l ++ List.replicate n 48 := by
  have h : ∀ m : List UInt8, ∃ n, m.reverse = cz m.reverse ++ List.replicate n 48 := by
    intro m
    induction m with
    | nil => exact ⟨0, rfl⟩
    | cons b m ih =>
      obtain ⟨n, hn⟩ := ih
      rw [List.reverse_cons]
      by_cases hb : b = 48
      · subst hb
        refine ⟨n + 1, ?_⟩
        have e : cz (m.reverse ++ [48]) = cz m.reverse := by
          unfold cz
          have e1 : nz (m.reverse ++ [48]) = nz m.reverse ++ [false] := by simp [nz]
          rw [e1, tl_snoc]
          have := tl_le (nz m.reverse)
          rw [nz_length] at this
          exact List.take_append_of_le_length (by simpa using this)
        rw [e, List.replicate_succ', ← List.append_assoc, ← hn]
      · refine ⟨0, ?_⟩
        have e1 : nz (m.reverse ++ [b]) = nz m.reverse ++ [true] := by simp [nz, hb]
        unfold cz
        rw [e1, tl_snoc, nz_length, if_pos rfl, List.take_of_length_le (by simp)]
        simp
  have := h l.reverse
  rwa [List.reverse_reverse] at this
theorem cz_pad (l : List UInt8) (n : Nat) : cz (l ++ List.replicate n 48) = cz l := by
  induction n with
  | zero => simp
  | succ n ih =>
    rw [List.replicate_succ', ← List.append_assoc]
    have e1 : nz (l ++ List.replicate n 48 ++ [48]) = nz (l ++ List.replicate n 48) ++ [false] := by simp [nz]
    have h : tl (nz (l ++ List.replicate n 48)) ≤ (l ++ List.replicate n 48).length := by
      have := tl_le (nz (l ++ List.replicate n 48)); rwa [nz_length] at this
    rw [← ih]
    unfold cz
    rw [e1, tl_snoc]
    simp only [Bool.false_eq_true, if_false]
    exact List.take_append_of_le_length h
theorem cz_cz (l : List UInt8) : cz (cz l) = cz l := by
  obtain ⟨n, hn⟩ := cz_eq l
  have h := cz_pad (cz l) n
  rw [← hn] at h
  exact h.symm
theorem cMv_rep {c : UInt8} (hc : c ≠ 48) : ∀ n : Nat, cMv c (List.replicate n 48) 0 = List.replicate n 48 ∧ cLd c (List.replicate n 48) 0 = 0
  | 0 => ⟨rfl, rfl⟩
  | n + 1 => by
    obtain ⟨h1, h2⟩ := cMv_rep hc n
    have e : cg c 48 0 = (48, 0) := by unfold cg; rw [if_neg (fun h => hc h.symm)]; simp
    rw [List.replicate_succ]
    show (cg c 48 0).1 :: cMv c (List.replicate n 48) (cg c 48 0).2 = _ ∧ cLd c (List.replicate n 48) (cg c 48 0).2 = 0
    rw [e]
    exact ⟨by rw [h1], h2⟩
theorem zs_rep (n : Nat) : zs (List.replicate n 48) = n := by unfold zs; simp
theorem zs_append (l m : List UInt8) : zs (l ++ m) = zs l + zs m := by unfold zs; exact List.count_append
def padN (l : List UInt8) : List UInt8 := l ++ List.replicate (l.length + 1) 48
def mv1 (c : UInt8) (l : List UInt8) : List UInt8 := cz (cMv c (padN l) 0)
end Go.Proofs.YtdooboibmllfkabGreatDoor

namespace Go.Proofs.YtdooboibmllfkabGreatDoor
set_option maxRecDepth 100000
open Go.RowKit

def sg3 (x : UInt8) : Bool := x == 48 || x == 49 || x == 50 || x == 51
theorem sg3_iff (x : UInt8) : sg3 x = true ↔ x = 48 ∨ x = 49 ∨ x = 50 ∨ x = 51 := by
  unfold sg3
  simp [or_assoc]
def lst (s : ByteArray) : List UInt8 := s.data.toList
def ofL (l : List UInt8) : ByteArray := ⟨l.toArray⟩
theorem lst_ofL (l : List UInt8) : lst (ofL l) = l := by simp [lst, ofL]
theorem ofL_lst (s : ByteArray) : ofL (lst s) = s := by simp [lst, ofL]
theorem lst_size (s : ByteArray) : (lst s).length = s.size := by simp [lst]
theorem ofL_size (l : List UInt8) : (ofL l).size = l.length := by
  have := lst_size (ofL l)
  rw [lst_ofL] at this
  exact this.symm
def cIn (s : ByteArray) : Bool := (lst s).all sg3 && decide (s.size ≤ 120)
theorem cIn_iff (s : ByteArray) : cIn s = true ↔ (∀ x ∈ lst s, sg3 x = true) ∧ s.size ≤ 120 := by
  unfold cIn
  simp
def mvO (c : UInt8) (l : List UInt8) : Option (List UInt8) := if (mv1 c l).length ≤ 120 then some (mv1 c l) else none
def stepL (l : List UInt8) : Option (List UInt8) := (mvO 49 l).bind fun a => (mvO 50 a).bind fun b => mvO 51 b
theorem mvO_some {c : UInt8} {l r : List UInt8} (h : mvO c l = some r) : r = mv1 c l ∧ r.length ≤ 120 := by
  unfold mvO at h
  split at h
  · injection h with h; rw [← h]; exact ⟨rfl, by assumption⟩
  · cases h
theorem bind3 {a b : Option (List UInt8)} {f : List UInt8 → Option (List UInt8)} {r : List UInt8} (h : a.bind f = some r) (_ : b = a) : ∃ x, a = some x ∧ f x = some r := by
  cases a with
  | none => cases h
  | some x => exact ⟨x, rfl, h⟩
theorem stepL_some {l r : List UInt8} (h : stepL l = some r) : r = mv1 51 (mv1 50 (mv1 49 l)) ∧ (mv1 49 l).length ≤ 120 ∧ (mv1 50 (mv1 49 l)).length ≤ 120 ∧ r.length ≤ 120 := by
  obtain ⟨a, ha, h⟩ := bind3 h rfl
  obtain ⟨b, hb, h⟩ := bind3 h rfl
  obtain ⟨a1, a2⟩ := mvO_some ha
  obtain ⟨b1, b2⟩ := mvO_some hb
  obtain ⟨r1, r2⟩ := mvO_some h
  rw [a1] at b1 a2
  rw [b1] at r1 b2
  exact ⟨r1, a2, b2, r2⟩
theorem cz_mv (c : UInt8) (l : List UInt8) : cz (mv1 c l) = mv1 c l := cz_cz _
theorem cz_le (l : List UInt8) : (cz l).length ≤ l.length := by unfold cz; rw [List.length_take]; exact Nat.min_le_right ..
theorem cMv_sg {c : UInt8} (hc : sg3 c = true) : ∀ (l : List UInt8) (u : Nat), (∀ x ∈ l, sg3 x = true) → ∀ x ∈ cMv c l u, sg3 x = true
  | [], _, _, x, hx => by cases hx
  | y :: l, u, h, x, hx => by
    rcases List.mem_cons.1 hx with rfl | hx
    · unfold cg
      split
      · rfl
      · split
        · exact hc
        · exact h y (List.mem_cons_self ..)
    · exact cMv_sg hc l _ (fun z hz => h z (List.mem_cons_of_mem _ hz)) x hx
theorem cz_sg {l : List UInt8} (h : ∀ x ∈ l, sg3 x = true) : ∀ x ∈ cz l, sg3 x = true := fun x hx => h x (List.mem_of_mem_take hx)
theorem mv_sg {c : UInt8} (hc : sg3 c = true) {l : List UInt8} (h : ∀ x ∈ l, sg3 x = true) : ∀ x ∈ mv1 c l, sg3 x = true :=
  cz_sg (cMv_sg hc _ _ (fun x hx => by
    rcases List.mem_append.1 hx with hx | hx
    · exact h x hx
    · rw [(List.mem_replicate.1 hx).2]; rfl))
def chC (c : UInt8) (l : List Bool) : List UInt8 := l.map fun b => if b then c else 48
end Go.Proofs.YtdooboibmllfkabGreatDoor
