/- TEXTS DrawC, Cir1, Cir2. -/
import Derived.Test.Ytkdhifofdghbbaarot03
import Derived.Test.Ytkdhifofdghbbaarot08
import Derived.Test.Ytkdhifofdghbbaarot01
/- THE DRAWING of coloured rows. -/
namespace Go.Proofs.Ytkdhifofdghbbaa
open Go.RowKit Go.Lib

/-- one of a list of texts -/
def PickedOf (w : World) (R : Nat) (a : Option Addr) (len cap : Nat) (z : List Int) (p : Nat) (m : Nat) (e : Ending) (w' : World) : Prop :=
  ∃ t : ByteArray, e = .returned (.string t) ∧ t.size ≤ m ∧ Rd w' R a len cap z (p + 1) ∧ Below R w w' ∧ w.grownBy w' (some R)

set_option maxHeartbeats 1000000 in
theorem of_any (w : World) (R : Nat) (a : Option Addr) (len cap : Nat) (z : List Int) (p : Nat) (g n c m : Nat) (hrd : Rd w R a len cap z p) (hp : p ≤ 1000) (hn : 1 ≤ n ∧ n ≤ 1000) (hg : g ≠ R) (hc : ∀ j, j < n → ∃ t : ByteArray, t.size ≤ m ∧ w.cell? ⟨g, j, none⟩ = some (.string t)) :
    Calls Try.prog 58 #[.pointer (some ⟨R, 0, none⟩), .slice (some ⟨g, 0, none⟩) n c] w (PickedOf w R a len cap z p m) := by
  obtain ⟨n0, n1⟩ := hn
  have HC := hide hc
  have HP := hide (pick2_any w R a len cap z p (n : Int) hrd (by omega) (by omega) (by omega))
  clear hc hrd
  go_enter Try.func58, Try.ntmps58
  go_wp2_with fail
  refine HP.out.mono ?_
  rintro e w1 ⟨v, rfl, v0, v1, hr, hb, hz, hgr⟩
  obtain ⟨j, rfl⟩ := Int.eq_ofNat_of_zero_le v0
  obtain ⟨t, ht, hcell⟩ := HC.out j (by omega)
  have c1 := grown_cell hgr hg hcell
  have HR := hide hr
  have HB := hide hb
  have HG := hide hgr
  clear hr hb hz hgr hcell
  go_wp2
  go_ret
  exact ⟨t, rfl, ht, HR.out, HB.out, HG.out⟩

/-- what the drawing of a coloured row leaves -/
def DrawnC (w : World) (R : Nat) (a : Option Addr) (len cap : Nat) (z : List Int) (p : Nat) (e : Ending) (w' : World) : Prop :=
  ∃ (s : ByteArray) (q : Nat), e = .returned (.string s) ∧ s.size ≤ 300 ∧ q ≤ p + 60 ∧ Rd w' R a len cap z q ∧ Below R w w' ∧ w.grownBy w' (some R)
theorem lit7 (w : World) (t : TypeId) (j : Nat) (hj : j < 7) : ∃ x : ByteArray, x.size ≤ 1 ∧ (w.alloc (.cells #[.string ⟨#[48]⟩, .string ⟨#[48]⟩, .string ⟨#[48]⟩, .string ⟨#[49]⟩, .string ⟨#[50]⟩, .string ⟨#[51]⟩, .string ⟨#[49]⟩] t)).cell? ⟨w.heap.size, j, none⟩ = some (.string x) := by
  rcases (show j = 0 ∨ j = 1 ∨ j = 2 ∨ j = 3 ∨ j = 4 ∨ j = 5 ∨ j = 6 by omega) with rfl | rfl | rfl | rfl | rfl | rfl | rfl
  · exact ⟨⟨#[48]⟩, by decide, by rw [World.cell?_alloc_at _ _ _ _ rfl]; rfl⟩
  · exact ⟨⟨#[48]⟩, by decide, by rw [World.cell?_alloc_at _ _ _ _ rfl]; rfl⟩
  · exact ⟨⟨#[48]⟩, by decide, by rw [World.cell?_alloc_at _ _ _ _ rfl]; rfl⟩
  · exact ⟨⟨#[49]⟩, by decide, by rw [World.cell?_alloc_at _ _ _ _ rfl]; rfl⟩
  · exact ⟨⟨#[50]⟩, by decide, by rw [World.cell?_alloc_at _ _ _ _ rfl]; rfl⟩
  · exact ⟨⟨#[51]⟩, by decide, by rw [World.cell?_alloc_at _ _ _ _ rfl]; rfl⟩
  · exact ⟨⟨#[49]⟩, by decide, by rw [World.cell?_alloc_at _ _ _ _ rfl]; rfl⟩

/-- a drawing of a text and a number -/
def DrawnSN (w : World) (e : Ending) (w' : World) : Prop := ∃ (s : ByteArray) (n : Int), e = .returned (.tuple #[.string s, .int .i64 n]) ∧ s.size ≤ 300 ∧ -3 ≤ n ∧ n ≤ 3 ∧ Below w.heap.size w w'
theorem tdiv19b (v : Int) (h1 : 0 ≤ v) (h2 : v < 20) : 0 ≤ v.tdiv 19 ∧ v.tdiv 19 ≤ 1 := by
  obtain ⟨n, rfl⟩ := Int.eq_ofNat_of_zero_le h1
  have e : (n : Int).tdiv 19 = ((n / 19 : Nat) : Int) := rfl
  rw [e]
  omega

end Go.Proofs.Ytkdhifofdghbbaa

/- CIRCLES. Pure: no walk. The load of a carrier that goes round; turns; rotations; back. -/
namespace Go.Proofs.Ytkdhifofdghbbaa

def lstp (c : Nat) (x : Bool) : Nat := if x then c + 1 else c - 1
/-- the load behind a list -/
def lend (c : Nat) : List Bool → Nat
  | [] => c
  | x :: l => lend (lstp c x) l
/-- what a carrier with a load leaves -/
def tn (c : Nat) : List Bool → List Bool
  | [] => []
  | x :: l => (!x && decide (0 < c)) :: tn (lstp c x) l
/-- balls less empty boxes -/
def drf : List Bool → Int
  | [] => 0
  | x :: l => (if x then 1 else -1) + drf l
def cturn (l : List Bool) : List Bool := tn (lend 0 l) l

theorem lend_max : ∀ (l : List Bool) (c : Nat), ((lend c l : Nat) : Int) = max ((c : Int) + drf l) (lend 0 l : Nat)
  | [], c => by simp only [lend, drf]; omega
  | x :: l, c => by
    have h1 := lend_max l (lstp c x)
    have h2 := lend_max l (lstp 0 x)
    have h0 := lend_max l 0
    simp only [lend, drf]
    rw [h1, h2]
    cases x
    · simp only [lstp]; simp at *; omega
    · simp only [lstp]; simp at *; omega
theorem lend_app (c : Nat) (a b : List Bool) : lend c (a ++ b) = lend (lend c a) b := by
  induction a generalizing c with
  | nil => rfl
  | cons x a ih => exact ih _
theorem tn_app (c : Nat) (a b : List Bool) : tn c (a ++ b) = tn c a ++ tn (lend c a) b := by
  induction a generalizing c with
  | nil => rfl
  | cons x a ih => simp only [List.cons_append, tn, lend, ih]
theorem drf_app (a b : List Bool) : drf (a ++ b) = drf a + drf b := by
  induction a with
  | nil => simp [drf]
  | cons x a ih => simp only [List.cons_append, drf, ih]; omega
theorem tn_length (c : Nat) (l : List Bool) : (tn c l).length = l.length := by
  induction l generalizing c with
  | nil => rfl
  | cons x l ih => simp only [tn, List.length_cons, ih]
theorem lend_stays {l : List Bool} (h : drf l < 0) : lend (lend 0 l) l = lend 0 l := by
  have := lend_max l (lend 0 l)
  omega
theorem lend_one {l : List Bool} (h : drf l < 0) {c : Nat} (hc : lend c l = c) : c = lend 0 l := by
  have := lend_max l c
  omega
/-- loads and balls -/
theorem tn_drf (c : Nat) (l : List Bool) : (c : Int) * 2 + drf l = (lend c l : Nat) * 2 + drf (tn c l) := by
  induction l generalizing c with
  | nil => simp only [lend, tn, drf]
  | cons x l ih =>
    have h := ih (lstp c x)
    simp only [lend, tn, drf]
    cases x
    · cases c with
      | zero => simp only [lstp] at h ⊢; simp at h ⊢; omega
      | succ k =>
        have e : lstp (k + 1) false = k := by simp [lstp]
        rw [e] at h ⊢
        have e2 : (!false && decide (0 < k + 1)) = true := by simp
        rw [e2]
        simp only [if_true, Bool.false_eq_true, if_false]
        omega
    · have e : lstp c true = c + 1 := by simp [lstp]
      rw [e] at h ⊢
      have e2 : (!true && decide (0 < c)) = false := by simp
      rw [e2]
      simp only [if_true, Bool.false_eq_true, if_false]
      omega
theorem cturn_drf {l : List Bool} (h : drf l < 0) : drf (cturn l) = drf l := by
  have := tn_drf (lend 0 l) l
  rw [lend_stays h] at this
  unfold cturn
  omega
theorem cturn_length (l : List Bool) : (cturn l).length = l.length := tn_length _ _
/-- none in the same box -/
theorem tn_apart : ∀ (l : List Bool) (c j : Nat), l[j]? = some true → (tn c l)[j]? = some false
  | [], _, j, h => by simp at h
  | x :: l, c, 0, h => by
    have hx : x = true := by simpa using h
    subst hx
    simp [tn]
  | x :: l, c, j + 1, h => by
    have := tn_apart l (lstp c x) j (by simpa using h)
    simpa [tn] using this
/-- a turned rotation -/
theorem cturn_rot {a b : List Bool} (h : drf (a ++ b) < 0) : ∃ a' b', cturn (a ++ b) = a' ++ b' ∧ cturn (b ++ a) = b' ++ a' ∧ a'.length = a.length := by
  have hd : drf (b ++ a) < 0 := by rw [drf_app] at h ⊢; omega
  have hs := lend_stays h
  rw [lend_app _ a b] at hs
  have hc : lend (lend (lend 0 (a ++ b)) a) (b ++ a) = lend (lend 0 (a ++ b)) a := by rw [lend_app, hs]
  have hc' := lend_one hd hc
  refine ⟨tn (lend 0 (a ++ b)) a, tn (lend (lend 0 (a ++ b)) a) b, tn_app _ _ _, ?_, tn_length _ _⟩
  unfold cturn
  rw [← hc', tn_app, hs]
/-- the carrier that goes the other way -/
theorem tn_back : ∀ (l : List Bool) (c : Nat), lend (lend c l) (tn c l).reverse = c ∧ tn (lend c l) (tn c l).reverse = l.reverse
  | [], c => ⟨rfl, rfl⟩
  | x :: l, c => by
    obtain ⟨h1, h2⟩ := tn_back l (lstp c x)
    have e : (tn c (x :: l)).reverse = (tn (lstp c x) l).reverse ++ [!x && decide (0 < c)] := by simp only [tn, List.reverse_cons]
    have e2 : lend c (x :: l) = lend (lstp c x) l := rfl
    rw [e, e2, lend_app, tn_app, h1, h2, List.reverse_cons]
    cases x
    · by_cases h : 0 < c
      · refine ⟨?_, ?_⟩
        · simp [lend, lstp, h]; omega
        · simp [tn, lstp, h]
      · refine ⟨?_, ?_⟩
        · simp [lend, lstp, h]; omega
        · simp [tn, lstp, h]; omega
    · refine ⟨?_, ?_⟩
      · simp [lend, lstp]
      · simp [tn, lstp]
theorem drf_rev (l : List Bool) : drf l.reverse = drf l := by
  induction l with
  | nil => rfl
  | cons x l ih => rw [List.reverse_cons, drf_app, ih]; simp only [drf]; omega
/-- P44: the turn of the turn, read the other way -/
theorem cturn_back {l : List Bool} (h : drf l < 0) : cturn (cturn l).reverse = l.reverse := by
  obtain ⟨h1, h2⟩ := tn_back l (lend 0 l)
  rw [lend_stays h] at h1 h2
  have hd : drf (cturn l).reverse < 0 := by rw [drf_rev, cturn_drf h]; exact h
  have hc := lend_one hd (c := lend 0 l) h1
  show tn (lend 0 (cturn l).reverse) (cturn l).reverse = l.reverse
  rw [← hc]
  exact h2
/-- P45 -/
theorem cback_turn {l : List Bool} (h : drf l < 0) : cturn (cturn l.reverse).reverse = l := by
  have := cturn_back (l := l.reverse) (by rw [drf_rev]; exact h)
  rwa [List.reverse_reverse] at this
theorem cturn_inj {a b : List Bool} (ha : drf a < 0) (hb : drf b < 0) (h : cturn a = cturn b) : a = b := by
  have h1 := cturn_back ha
  have h2 := cturn_back hb
  rw [h, h2] at h1
  exact (List.reverse_inj.1 h1).symm
end Go.Proofs.Ytkdhifofdghbbaa

/- CIRCLES. Pure: no walk. Neighbours are taken out; the rounds of a circle and of its turn. -/
namespace Go.Proofs.Ytkdhifofdghbbaa

def hd (l : List Bool) (q : Bool) : Bool := l.head?.getD q
def ls (p : Bool) : List Bool → Bool
  | [] => p
  | x :: l => ls x l
/-- without neighbours of a ball and an empty box behind it; p, q: the signs ahead and behind -/
def k10 (p : Bool) : List Bool → Bool → List Bool
  | [], _ => []
  | x :: l, q => if (if x then hd l q else !p) then x :: k10 x l q else k10 x l q
/-- without neighbours of an empty box and a ball behind it -/
def k01 (p : Bool) : List Bool → Bool → List Bool
  | [], _ => []
  | x :: l, q => if (if x then p else !(hd l q)) then x :: k01 x l q else k01 x l q
/-- one sign for each two neighbours that are the same -/
def aj (p : Bool) : List Bool → List Bool
  | [] => []
  | x :: l => if p = x then x :: aj x l else aj x l
def one (b : Bool) (x : Bool) : List Bool := if b then [x] else []

theorem k10_aj : ∀ (l : List Bool) (p q : Bool), one (p && hd l q) true ++ k10 p l q = aj p l ++ one (ls p l && q) true
  | [], p, q => by simp [hd, k10, aj, ls]
  | x :: l, p, q => by
    have ih := k10_aj l x q
    have e : hd (x :: l) q = x := rfl
    rw [e]
    simp only [k10, aj, ls]
    obtain ⟨h, hh⟩ : ∃ h, h = hd l q := ⟨_, rfl⟩
    rw [← hh] at ih ⊢
    cases x <;> cases p <;> cases h <;> simp [one] at ih ⊢ <;> simpa using ih
theorem k01_aj : ∀ (l : List Bool) (p q : Bool), one (!p && !(hd l q)) false ++ k01 p l q = aj p l ++ one (!(ls p l) && !q) false
  | [], p, q => by simp [hd, k01, aj, ls]
  | x :: l, p, q => by
    have ih := k01_aj l x q
    have e : hd (x :: l) q = x := rfl
    rw [e]
    simp only [k01, aj, ls]
    obtain ⟨h, hh⟩ : ∃ h, h = hd l q := ⟨_, rfl⟩
    rw [← hh] at ih ⊢
    cases x <;> cases p <;> cases h <;> simp [one] at ih ⊢ <;> simpa using ih

/-- round the circle -/
def c10 (l : List Bool) : List Bool := k10 (ls false l) l (hd l false)
def c01 (l : List Bool) : List Bool := k01 (ls false l) l (hd l false)
def caj (l : List Bool) : List Bool := aj (ls false l) l
/-- rotations -/
def Rot (l l' : List Bool) : Prop := ∃ a b, l = a ++ b ∧ l' = b ++ a
theorem Rot.refl (l : List Bool) : Rot l l := ⟨l, [], by simp, by simp⟩
theorem Rot.length {l l' : List Bool} (h : Rot l l') : l.length = l'.length := by
  obtain ⟨a, b, rfl, rfl⟩ := h
  simp; omega
theorem ls_app (p : Bool) (a b : List Bool) : ls p (a ++ b) = ls (ls p a) b := by
  induction a generalizing p with
  | nil => rfl
  | cons x a ih => exact ih _
theorem ls_cons (p p' : Bool) {l : List Bool} (h : l ≠ []) : ls p l = ls p' l := by
  cases l with
  | nil => exact absurd rfl h
  | cons x l => rfl
theorem aj_app (p : Bool) (a b : List Bool) : aj p (a ++ b) = aj p a ++ aj (ls p a) b := by
  induction a generalizing p with
  | nil => rfl
  | cons x a ih =>
    simp only [List.cons_append, aj, ls, ih]
    split <;> rfl
theorem caj_rot {l l' : List Bool} (h : Rot l l') : Rot (caj l) (caj l') := by
  obtain ⟨a, b, rfl, rfl⟩ := h
  by_cases ha : a = []
  · subst ha; simp; exact Rot.refl _
  · by_cases hb : b = []
    · subst hb; simp; exact Rot.refl _
    · unfold caj
      rw [aj_app, aj_app, ls_app, ls_app]
      refine ⟨_, _, rfl, ?_⟩
      rw [ls_cons (ls false b) (ls (ls false a) b) ha, ls_cons (ls (ls (ls false a) b) a) (ls false a) hb]
theorem rot_of {x : Bool} {k a : List Bool} (h : x :: k = a ++ [x]) : Rot k a := by
  cases a with
  | nil => cases k with
    | nil => exact Rot.refl _
    | cons y k => simp at h
  | cons y a =>
    simp at h
    obtain ⟨rfl, rfl⟩ := h
    exact ⟨a, [x], rfl, rfl⟩
theorem c10_rot (l : List Bool) : Rot (c10 l) (caj l) := by
  have h := k10_aj l (ls false l) (hd l false)
  have e : ls (ls false l) l = ls false l := by cases l <;> rfl
  rw [e] at h
  have e2 : hd l (hd l false) = hd l false := by cases l <;> rfl
  rw [e2] at h
  unfold c10 caj
  cases hb : (ls false l && hd l false)
  · rw [hb] at h
    simp [one] at h
    rw [h]
    exact Rot.refl _
  · rw [hb] at h
    simp only [one, if_true, List.cons_append, List.nil_append] at h
    exact rot_of h
theorem c01_rot (l : List Bool) : Rot (c01 l) (caj l) := by
  have h := k01_aj l (ls false l) (hd l false)
  have e : ls (ls false l) l = ls false l := by cases l <;> rfl
  rw [e] at h
  have e2 : hd l (hd l false) = hd l false := by cases l <;> rfl
  rw [e2] at h
  unfold c01 caj
  cases hb : (!(ls false l) && !(hd l false))
  · rw [hb] at h
    simp [one] at h
    rw [h]
    exact Rot.refl _
  · rw [hb] at h
    simp only [one, if_true, List.cons_append, List.nil_append] at h
    exact rot_of h

/-- the numbers of pairs, round for round -/
def cnt10 : Nat → List Bool → List Nat
  | 0, _ => []
  | f + 1, l => if (c10 l).length = l.length then [] else (l.length - (c10 l).length) / 2 :: cnt10 f (c10 l)
def cnt01 : Nat → List Bool → List Nat
  | 0, _ => []
  | f + 1, l => if (c01 l).length = l.length then [] else (l.length - (c01 l).length) / 2 :: cnt01 f (c01 l)
def cntaj : Nat → List Bool → List Nat
  | 0, _ => []
  | f + 1, l => if (caj l).length = l.length then [] else (l.length - (caj l).length) / 2 :: cntaj f (caj l)
theorem cntaj_rot : ∀ (f : Nat) {l l' : List Bool}, Rot l l' → cntaj f l = cntaj f l'
  | 0, _, _, _ => rfl
  | f + 1, l, l', h => by
    simp only [cntaj]
    rw [h.length, (caj_rot h).length, cntaj_rot f (caj_rot h)]
theorem cnt10_aj : ∀ (f : Nat) (l : List Bool), cnt10 f l = cntaj f l
  | 0, _ => rfl
  | f + 1, l => by
    simp only [cnt10, cntaj]
    rw [(c10_rot l).length, cnt10_aj f, cntaj_rot f (c10_rot l)]
theorem cnt01_aj : ∀ (f : Nat) (l : List Bool), cnt01 f l = cntaj f l
  | 0, _ => rfl
  | f + 1, l => by
    simp only [cnt01, cntaj]
    rw [(c01_rot l).length, cnt01_aj f, cntaj_rot f (c01_rot l)]
/-- P46: a rotated circle has the same rounds -/
theorem cnt10_rot (f : Nat) {l l' : List Bool} (h : Rot l l') : cnt10 f l = cnt10 f l' := by
  rw [cnt10_aj, cnt10_aj, cntaj_rot f h]
end Go.Proofs.Ytkdhifofdghbbaa
