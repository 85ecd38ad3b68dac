/- TEXTS Cir3, Shp, Valid, ReadRow. -/
import Derived.Test.Ytkdhifofdghbbabexc01
import Derived.Test.YtkdhifofdghbbabChecked
import Derived.WalkKit
import Derived.WalkSpells
import Derived.WalkLawsBesides
/- CIRCLES. Pure: no walk. A turn keeps the rounds; periods. -/
namespace Go.Proofs.Ytkdhifofdghbbab

/-- the load when a pair is half gone -/
def hf (c : Nat) (p h : Bool) : Nat := if p && !h then c - 1 else c
theorem tn_k10 : ∀ (l : List Bool) (c : Nat) (p p' q : Bool), (0 < c → p' = !p) → (c = 0 → p = false) →
    tn (hf c p (hd l q)) (k10 p l q) = k01 p' (tn c l) (!q && decide (0 < lend c l)) ∧ lend (hf c p (hd l q)) (k10 p l q) = hf (lend c l) (ls p l) q
  | [], c, p, p', q, _, _ => ⟨rfl, rfl⟩
  | x :: l, c, p, p', q, h1, h2 => by
    have hx : hd (x :: l) q = x := rfl
    obtain ⟨h, hh⟩ : ∃ h, h = hd l q := ⟨_, rfl⟩
    cases x
    · cases c with
      | zero =>
        have hp := h2 rfl
        subst hp
        have ih := tn_k10 l 0 false false q (fun h => absurd h (by omega)) (fun _ => rfl)
        have e1 : hf 0 false (hd l q) = 0 := by simp [hf]
        have e2 : hd (tn 0 l) (!q && decide (0 < lend 0 l)) = (!(hd l q) && decide (0 < (0 : Nat)) || (decide (l = []) && !q && decide (0 < lend 0 l))) := by
          cases l with
          | nil => simp [hd, tn, lend]
          | cons y l => simp [hd, tn]
        have e3 : hd (tn 0 l) (!q && decide (0 < lend 0 l)) = false := by
          rw [e2]
          cases l with
          | nil => simp [lend]
          | cons y l => simp
        rw [e1] at ih
        obtain ⟨i1, i2⟩ := ih
        have e4 : lstp 0 false = 0 := rfl
        simp only [hx, k10, tn, lend, ls, k01, e4]
        simp only [hf, e3] at *
        simp [tn, lend, e4, i1]
        simpa using i2
      | succ k =>
        have hp' : p' = !p := h1 (by omega)
        subst hp'
        have ih := tn_k10 l k false true q (fun _ => rfl) (fun _ => rfl)
        have e1 : hf k false (hd l q) = k := by simp [hf]
        rw [e1] at ih
        obtain ⟨i1, i2⟩ := ih
        have e4 : lstp (k + 1) false = k := by simp [lstp]
        simp only [hx, k10, tn, lend, ls, k01, e4]
        cases p
        · simp [hf, tn, lend, e4]
          exact ⟨i1, by simpa [hf] using i2⟩
        · simp [hf]
          exact ⟨i1, by simpa [hf] using i2⟩
    · have ih := tn_k10 l (c + 1) true false q (fun _ => rfl) (fun h => absurd h (by omega))
      obtain ⟨i1, i2⟩ := ih
      have e4 : lstp c true = c + 1 := by simp [lstp]
      have e0 : hf c p true = c := by simp [hf]
      have e2 : hd (tn (c + 1) l) (!q && decide (0 < lend (c + 1) l)) = !(hd l q) := by
        cases l with
        | nil => simp [hd, tn, lend]
        | cons y l => simp [hd, tn]
      simp only [hx, k10, tn, lend, ls, k01, e4, e0]
      have e5 : (!true && decide (0 < c)) = false := by simp
      rw [e5, e2]
      rw [← hh] at i1 i2 ⊢
      cases h
      · have e6 : hf (c + 1) true false = c := by simp [hf]
        rw [e6] at i1 i2
        simp
        exact ⟨i1, i2⟩
      · have e6 : hf (c + 1) true true = c + 1 := by simp [hf]
        rw [e6] at i1 i2
        simp [tn, lend, e4]
        exact ⟨i1, i2⟩
/-- what is known of a load behind a sign -/
theorem ls_inv : ∀ (l : List Bool) (c : Nat) (p p' : Bool), l ≠ [] → (c = 0 → p = false) → (0 < c → p' = !p) →
    (0 < lend c l → ls p' (tn c l) = !(ls p l)) ∧ (lend c l = 0 → ls p l = false)
  | [], _, _, _, h, _, _ => absurd rfl h
  | [x], c, p, p', _, h0, h1 => by
    cases x
    · by_cases h : 0 < c
      · simp [lend, ls, tn, lstp, h]
      · simp [lend, ls, tn, lstp, h]; omega
    · simp [lend, ls, tn, lstp]
  | x :: y :: l, c, p, p', _, h0, h1 => by
    have := ls_inv (y :: l) (lstp c x) x (!x && decide (0 < c)) (by simp)
      (by cases x <;> simp [lstp]) (by cases x <;> simp [lstp] <;> omega)
    exact this
def bi (b : Bool) : Int := if b then 1 else 0
theorem k10_drf : ∀ (l : List Bool) (p q : Bool), drf (k10 p l q) + bi (ls p l && !q) = drf l + bi (p && !(hd l q))
  | [], p, q => by simp [k10, ls, hd, drf]
  | x :: l, p, q => by
    have ih := k10_drf l x q
    have hx : hd (x :: l) q = x := rfl
    have e : ls p (x :: l) = ls x l := rfl
    rw [hx, e]
    simp only [k10, drf]
    obtain ⟨h, hh⟩ : ∃ h, h = hd l q := ⟨_, rfl⟩
    rw [← hh] at ih ⊢
    obtain ⟨t, ht⟩ : ∃ t : Int, t = bi (ls x l && !q) := ⟨_, rfl⟩
    rw [← ht] at ih ⊢
    cases x <;> cases p <;> cases h <;> simp [drf, bi] at ih ⊢ <;> omega
theorem c10_drf (l : List Bool) : drf (c10 l) = drf l := by
  have h := k10_drf l (ls false l) (hd l false)
  have e : ls (ls false l) l = ls false l := by cases l <;> rfl
  have e2 : hd l (hd l false) = hd l false := by cases l <;> rfl
  rw [e, e2] at h
  unfold c10
  omega
theorem hd_tn (c : Nat) {l : List Bool} (q q' : Bool) (h : l ≠ []) : hd (tn c l) q' = (!(hd l q) && decide (0 < c)) := by
  cases l with
  | nil => exact absurd rfl h
  | cons x l => rfl
/-- a turn and the rounds -/
theorem c01_turn {l : List Bool} (h : drf l < 0) : c01 (cturn l) = cturn (c10 l) := by
  have hne : l ≠ [] := by intro e; subst e; simp [drf] at h
  have hs := lend_stays h
  obtain ⟨c, hc⟩ : ∃ c, c = lend 0 l := ⟨_, rfl⟩
  rw [← hc] at hs
  -- what is known at the end, whatever the start
  have hi : ∀ p p', (c = 0 → p = false) → (0 < c → p' = !p) → (0 < c → ls p' (tn c l) = !(ls p l)) ∧ (c = 0 → ls p l = false) := by
    intro p p' h0 h1
    have := ls_inv l c p p' hne h0 h1
    rwa [hs] at this
  obtain ⟨j1, j2⟩ := hi false true (fun _ => rfl) (fun _ => rfl)
  have ht : tn c l ≠ [] := by intro e; have := congrArg List.length e; rw [tn_length] at this; exact hne (List.eq_nil_of_length_eq_zero (by simpa using this))
  have hls : ls true (tn c l) = ls false (tn c l) := ls_cons _ _ ht
  rw [hls] at j1
  have k := tn_k10 l c (ls false l) (ls false (tn c l)) (hd l false) j1 j2
  have e : ls (ls false l) l = ls false l := by cases l <;> rfl
  have e2 : hd l (hd l false) = hd l false := by cases l <;> rfl
  rw [e, e2, hs] at k
  obtain ⟨k1, k2⟩ := k
  have hd2 : drf (c10 l) < 0 := by rw [c10_drf]; exact h
  have k3 := lend_one hd2 (c := hf c (ls false l) (hd l false)) k2
  unfold cturn
  rw [← k3, ← hc]
  unfold c01
  rw [hd_tn c false false hne]
  exact k1.symm
/-- P47: the turn has the same rounds -/
theorem cnt_turn : ∀ (f : Nat) {l : List Bool}, drf l < 0 → cnt01 f (cturn l) = cnt10 f l
  | 0, _, _ => rfl
  | f + 1, l, h => by
    simp only [cnt01, cnt10]
    rw [c01_turn h, cturn_length, cturn_length, cnt_turn f (l := c10 l) (by rw [c10_drf]; exact h)]
theorem rounds_turn (f : Nat) {l : List Bool} (h : drf l < 0) : cnt10 f (cturn l) = cnt10 f l := by
  rw [← cnt_turn f h, cnt10_aj, cnt01_aj]

/-- turned n times -/
def cturns : Nat → List Bool → List Bool
  | 0, l => l
  | n + 1, l => cturns n (cturn l)
theorem cturns_drf : ∀ (n : Nat) {l : List Bool}, drf l < 0 → drf (cturns n l) = drf l
  | 0, _, _ => rfl
  | n + 1, l, h => by
    show drf (cturns n (cturn l)) = drf l
    rw [cturns_drf n (l := cturn l) (by rw [cturn_drf h]; exact h), cturn_drf h]
theorem cturns_comm : ∀ (n : Nat) (l : List Bool), cturns n (cturn l) = cturn (cturns n l)
  | 0, _ => rfl
  | n + 1, l => cturns_comm n (cturn l)
/-- P48: the turn comes back when the circle does -/
theorem period_turn {l : List Bool} (h : drf l < 0) (n : Nat) : cturns n (cturn l) = cturn l ↔ cturns n l = l := by
  rw [cturns_comm]
  constructor
  · intro e
    exact cturn_inj (by rw [cturns_drf n h]; exact h) h e
  · intro e
    rw [e]
theorem period_one {l : List Bool} (h : cturn l = l) : ∀ x ∈ l, x = false := by
  intro x hx
  cases x
  · rfl
  · obtain ⟨j, hj⟩ := List.mem_iff_getElem?.1 hx
    have := tn_apart l (lend 0 l) j hj
    have e : (cturn l)[j]? = some false := this
    rw [h, hj] at e
    exact absurd e (by simp)
theorem cturn_none : ∀ (l : List Bool), (∀ x ∈ l, x = false) → cturn l = l := by
  have g : ∀ (l : List Bool), (∀ x ∈ l, x = false) → lend 0 l = 0 ∧ tn 0 l = l := by
    intro l
    induction l with
    | nil => intro _; exact ⟨rfl, rfl⟩
    | cons x l ih =>
      intro h
      have hx := h x (by simp)
      subst hx
      obtain ⟨i1, i2⟩ := ih (fun y hy => h y (by simp [hy]))
      exact ⟨i1, by simp only [tn, lstp]; simp; exact i2⟩
  intro l h
  unfold cturn
  rw [(g l h).1]
  exact (g l h).2
end Go.Proofs.Ytkdhifofdghbbab

/- NUMBERS THAT DO NOT RISE, and the sizes of rounds. Pure: no walk. -/
namespace Go.Proofs.Ytkdhifofdghbbab

/-- numbers that do not rise -/
def Falls (r : List Nat) : Prop := ∀ k, r[k + 1]?.getD 0 ≤ r[k]?.getD 0
theorem Falls.tail {x : Nat} {t : List Nat} (h : Falls (x :: t)) : Falls t := fun k => h (k + 1)
theorem Falls.le {x : Nat} {t : List Nat} (h : Falls (x :: t)) : ∀ y ∈ t, y ≤ x := by
  induction t generalizing x with
  | nil => intro y hy; cases hy
  | cons z t ih =>
    intro y hy
    have h0 : z ≤ x := h 0
    rcases List.mem_cons.1 hy with rfl | hy
    · exact h0
    · exact Nat.le_trans (ih h.tail y hy) h0
/-- the sizes: how many rounds took out at least so many -/
def shp (r : List Nat) : List Nat := (List.range (r.headD 0)).map fun k => r.countP (fun x => decide (k < x))
theorem shp_length (r : List Nat) : (shp r).length = r.headD 0 := by simp [shp]
theorem shp_get (r : List Nat) (k : Nat) (h : k < r.headD 0) : (shp r)[k]? = some (r.countP (fun x => decide (k < x))) := by unfold shp; rw [List.getElem?_map, List.getElem?_range h]; rfl
theorem countP_take {r : List Nat} (h : Falls r) (k K : Nat) : (r.take K).countP (fun x => decide (k < x)) = min (r.countP (fun x => decide (k < x))) K := by
  induction r generalizing K with
  | nil => simp
  | cons x t ih =>
    cases K with
    | zero => simp
    | succ K =>
      rw [List.take_succ_cons]
      by_cases hx : k < x
      · rw [List.countP_cons_of_pos (by simpa using hx), List.countP_cons_of_pos (by simpa using hx), ih h.tail K]; omega
      · have z : ∀ s : List Nat, (∀ y ∈ s, y ≤ x) → s.countP (fun x => decide (k < x)) = 0 := by
          intro s hs
          rw [List.countP_eq_zero]
          intro y hy
          have := hs y hy
          simp; omega
        rw [List.countP_cons_of_neg (by simpa using hx), List.countP_cons_of_neg (by simpa using hx), z t h.le, z (t.take K) (fun y hy => h.le y (List.mem_of_mem_take hy))]; simp
theorem sum_count (s : List Nat) (m : Nat) : ((List.range m).map fun k => s.countP (fun x => decide (k < x))).sum = (s.map fun x => min x m).sum := by
  induction s with
  | nil =>
    have : ∀ m, ((List.range m).map fun _ => 0).sum = 0 := by
      intro m
      induction m with
      | zero => rfl
      | succ m ih => rw [List.range_succ, List.map_append, List.sum_append, ih]; rfl
    simpa using this m
  | cons x s ih =>
    have e : ∀ m, ((List.range m).map fun k => (x :: s).countP (fun x => decide (k < x))).sum = min x m + ((List.range m).map fun k => s.countP (fun x => decide (k < x))).sum := by
      intro m
      induction m with
      | zero => simp
      | succ m ih2 =>
        rw [List.range_succ, List.map_append, List.sum_append, ih2, List.map_append, List.sum_append]
        simp only [List.map_cons, List.map_nil, List.sum_cons, List.sum_nil]
        by_cases hx : m < x
        · rw [List.countP_cons_of_pos (by simpa using hx)]; omega
        · rw [List.countP_cons_of_neg (by simpa using hx)]; omega
    rw [e, ih]; simp
theorem headD_le {r : List Nat} (h : Falls r) : ∀ y ∈ r, y ≤ r.headD 0 := by
  cases r with
  | nil => intro y hy; cases hy
  | cons x t =>
    intro y hy
    rcases List.mem_cons.1 hy with rfl | hy
    · exact Nat.le_refl _
    · exact h.le y hy
/-- the energy of the sizes is the sum of the first rounds -/
theorem shp_min {r : List Nat} (h : Falls r) (K : Nat) : ((shp r).map fun x => min x K).sum = (r.take K).sum := by
  unfold shp
  rw [List.map_map]
  have e : ((List.range (r.headD 0)).map ((fun x => min x K) ∘ fun k => r.countP (fun x => decide (k < x)))) = (List.range (r.headD 0)).map fun k => (r.take K).countP (fun x => decide (k < x)) := by
    apply List.map_congr_left
    intro k _
    exact (countP_take h k K).symm
  rw [e, sum_count]
  congr 1
  have : (r.take K).map (fun x => min x (r.headD 0)) = (r.take K).map id := by
    apply List.map_congr_left
    intro x hx
    exact Nat.min_eq_left (headD_le h x (List.mem_of_mem_take hx))
  rw [this, List.map_id]
theorem shp_sum {r : List Nat} (h : Falls r) : (shp r).sum = r.sum := by
  have e := shp_min h r.length
  rw [List.take_of_length_le (Nat.le_refl _)] at e
  rw [← e]
  congr 1
  have : (shp r).map (fun x => min x r.length) = (shp r).map id := by
    apply List.map_congr_left
    intro x hx
    unfold shp at hx
    obtain ⟨k, _, rfl⟩ := List.mem_map.1 hx
    exact Nat.min_eq_left List.countP_le_length
  rw [this, List.map_id]
theorem shp_pos {r : List Nat} (h : Falls r) : ∀ x ∈ shp r, 1 ≤ x := by
  intro x hx
  unfold shp at hx
  obtain ⟨k, hk, rfl⟩ := List.mem_map.1 hx
  rw [List.mem_range] at hk
  cases r with
  | nil => simp at hk
  | cons y t => rw [List.countP_cons_of_pos (by simpa using hk)]; omega
theorem shp_falls (r : List Nat) : Falls (shp r) := by
  intro k
  by_cases hk : k + 1 < r.headD 0
  · rw [shp_get r (k + 1) hk, shp_get r k (by omega)]
    simp only [Option.getD_some]
    apply List.countP_mono_left
    intro x _ hx
    simp at hx ⊢; omega
  · rw [List.getElem?_eq_none_iff.2 (by rw [shp_length]; omega)]
    exact Nat.zero_le _
theorem shp_take_succ (r : List Nat) (m : Nat) (h : m < r.headD 0) : (shp r).take (m + 1) = (shp r).take m ++ [r.countP (fun x => decide (m < x))] := by
  have hl := shp_length r
  have e := shp_get r m h
  rw [List.getElem?_eq_getElem (by omega)] at e
  simp only [Option.some.injEq] at e
  rw [List.take_succ_eq_append_getElem (by omega), e]
theorem count_take_succ (r : List Nat) (m k x : Nat) (h : r[k]? = some x) : (r.take (k + 1)).countP (fun x => decide (m < x)) = (r.take k).countP (fun x => decide (m < x)) + if m < x then 1 else 0 := by
  obtain ⟨hk, e⟩ := List.getElem?_eq_some_iff.1 h
  rw [List.take_succ_eq_append_getElem hk, List.countP_append, e]
  by_cases hx : m < x
  · simp [hx]
  · simp [hx]
end Go.Proofs.Ytkdhifofdghbbab

/- THE WALKS of RowValid, of the model and of the program: both answer 'vld s'. -/
namespace Go.Proofs.Ytkdhifofdghbbab
open Go.RowKit

theorem ret_bool {a b : Bool} (h : a = b) : Ending.returned (.bool a) = .returned (.bool b) := by rw [h]

set_option maxHeartbeats 400000 in
theorem specRowValid_any (s : ByteArray) (w : World) (hs : s.size ≤ maxLen) :
    Calls Try.prog 24 #[.string s] w fun e w' => e = .returned (.bool (vld s)) ∧ w = w' := by
  unfold maxLen at hs
  go_enter Try.func24, Try.ntmps24
  go_wp2
  go_loop [3] (fun i => ∃ k : Nat, k ≤ s.size ∧ i = .int .i64 k ∧ Hid (allSgn (s.data.toList.take k) = true)) (fun i => s.size - (Go.RowKit.intOf i).toNat)
  case atStart => exact ⟨0, Nat.zero_le _, rfl, rfl⟩
  case round =>
    obtain ⟨k, hk, rfl, HA⟩ := hrel
    by_cases hlt : k < s.size
    · by_cases hc : (s[k].toNat : Int) = 48 ∨ (s[k].toNat : Int) = 49
      · have HC := hide hc
        rcases hc with hc | hc
        · have h1 : ((s[k].toNat : Int) != 48) = false := by simp [hc]
          clear hc
          go_wp2
          go_round
          case rel => exact ⟨k + 1, by omega, by go_num, allSgn_snoc s k hlt HA.out HC.out⟩
          case measure => simp [Go.RowKit.intOf]; omega
        · have h1 : ((s[k].toNat : Int) != 48) = true := by simp [hc]
          have h2 : ((s[k].toNat : Int) != 49) = false := by simp [hc]
          clear hc
          go_wp2
          go_round
          case rel => exact ⟨k + 1, by omega, by go_num, allSgn_snoc s k hlt HA.out HC.out⟩
          case measure => simp [Go.RowKit.intOf]; omega
      · have HC := hide hc
        have h1 : ((s[k].toNat : Int) != 48) = true := by simp; omega
        have h2 : ((s[k].toNat : Int) != 49) = true := by simp; omega
        clear hc
        go_wp2
        go_ret
        exact ⟨ret_bool (vld_bad s k hlt HC.out).symm, rfl⟩
    · go_wp2
      go_ret
      exact ⟨ret_bool (by rw [vld_good s k (by omega) HA.out]; simp; omega), rfl⟩

set_option maxHeartbeats 400000 in
theorem implRowValid_any (s : ByteArray) (w : World) (hs : s.size ≤ maxLen) :
    Calls Try.prog 48 #[.string s] w fun e w' => e = .returned (.bool (vld s)) ∧ w = w' := by
  unfold maxLen at hs
  by_cases hbig : 120 < s.size
  · go_enter Try.func48, Try.ntmps48
    go_wp2
    go_ret
    exact ⟨ret_bool (by simp [vld]; omega), rfl⟩
  · go_enter Try.func48, Try.ntmps48
    go_wp2
    go_loop [9] (fun i => ∃ k : Nat, k ≤ s.size ∧ i = .int .i64 k ∧ Hid (allSgn (s.data.toList.take k) = true)) (fun i => s.size - (Go.RowKit.intOf i).toNat)
    case atStart => exact ⟨0, Nat.zero_le _, rfl, rfl⟩
    case round =>
      obtain ⟨k, hk, rfl, HA⟩ := hrel
      by_cases hlt : k < s.size
      · by_cases hc : (s[k].toNat : Int) = 48 ∨ (s[k].toNat : Int) = 49
        · have HC := hide hc
          rcases hc with hc | hc
          · have h1 : ((s[k].toNat : Int) != 48) = false := by simp [hc]
            clear hc
            go_wp2
            go_round
            case rel => exact ⟨k + 1, by omega, by go_num, allSgn_snoc s k hlt HA.out HC.out⟩
            case measure => simp [Go.RowKit.intOf]; omega
          · have h1 : ((s[k].toNat : Int) != 48) = true := by simp [hc]
            have h2 : ((s[k].toNat : Int) != 49) = false := by simp [hc]
            clear hc
            go_wp2
            go_round
            case rel => exact ⟨k + 1, by omega, by go_num, allSgn_snoc s k hlt HA.out HC.out⟩
            case measure => simp [Go.RowKit.intOf]; omega
        · have HC := hide hc
          have h1 : ((s[k].toNat : Int) != 48) = true := by simp; omega
          have h2 : ((s[k].toNat : Int) != 49) = true := by simp; omega
          clear hc
          go_wp2
          go_ret
          exact ⟨ret_bool (vld_bad s k hlt HC.out).symm, rfl⟩
      · go_wp2
        go_ret
        exact ⟨ret_bool (by rw [vld_good s k (by omega) HA.out]; simp; omega), rfl⟩
end Go.Proofs.Ytkdhifofdghbbab

/- THE WALKS of readRow and of its method tidy. -/
namespace Go.Proofs.Ytkdhifofdghbbab
open Go.RowKit

theorem ret_slice {a : Option Addr} {n m c : Nat} (h : n = m) : Ending.returned (.slice a n c) = .returned (.slice a m c) := by rw [h]

set_option maxHeartbeats 400000 in
theorem tidy_g (x : Option Addr) (g n cap : Nat) (l : List Bool) (w : World) (hx : 0 < n → x = some ⟨g, 0, none⟩) (hl : l.length = n) (hc : CellsAt w g (l.map .bool)) (hn : n ≤ cap) (hm : cap ≤ maxLen) :
    Calls Try.prog 49 #[.slice x n cap] w fun e w' => e = .returned (.slice x (tl l) cap) ∧ w = w' := by
  unfold maxLen at hm
  have HL := hide hl
  have HC := hide hc
  clear hl hc
  go_enter Try.func49, Try.ntmps49
  go_wp2
  go_loop [3] (fun i => ∃ k : Nat, k ≤ n ∧ i = .int .i64 k ∧ Hid (tl (l.take k) = tl l)) (fun i => (Go.RowKit.intOf i).toNat)
  case atStart => exact ⟨n, Nat.le_refl _, rfl, by rw [List.take_of_length_le (by rw [HL.out]; exact Nat.le_refl _)]; rfl⟩
  case round =>
    obtain ⟨k, hk, rfl, HT⟩ := hrel
    by_cases hk0 : k = 0
    · subst hk0
      go_wp2
      go_ret
      exact ⟨ret_slice (by rw [← HT.out]; rfl), rfl⟩
    · obtain ⟨j, rfl⟩ : ∃ j, k = j + 1 := ⟨k - 1, by omega⟩
      have hj : j < l.length := by rw [HL.out]; omega
      obtain rfl := hx (by omega)
      cases hb : l[j]? with
      | none => rw [List.getElem?_eq_none_iff] at hb; omega
      | some b =>
        have hcell : w.cell? ⟨g, j, none⟩ = some (.bool b) := (HC.out j (.bool b) (by simp [hb])).1
        have HB := hide hb
        have HJ := hide hj
        clear hb hj
        cases b
        · go_wp2
          go_round
          case rel => exact ⟨j, by omega, rfl, (tl_take_pred l j HJ.out HB.out).symm.trans HT.out⟩
          case measure => simp [Go.RowKit.intOf]
        · go_wp2
          go_ret
          exact ⟨ret_slice (by rw [← HT.out, tl_take_stop l j HJ.out HB.out]), rfl⟩

theorem tidy_any (g n cap : Nat) (l : List Bool) (w : World) (hl : l.length = n) (hc : CellsAt w g (l.map .bool)) (hn : n ≤ cap) (hm : cap ≤ maxLen) :
    Calls Try.prog 49 #[.slice (some ⟨g, 0, none⟩) n cap] w fun e w' => e = .returned (.slice (some ⟨g, 0, none⟩) (tl l) cap) ∧ w = w' :=
  tidy_g _ g n cap l w (fun _ => rfl) hl hc hn hm

theorem infoB : (Try.prog.info? 4).map (fun i => (i.zero, i.size, i.bytes)) = some (some (.bool false), 1, 1) := by kernel_rfl

theorem vld_len (s : ByteArray) (h : vld s = true) : s.size ≤ 120 := by
  unfold vld at h; simp at h; exact h.2

set_option maxHeartbeats 400000 in
theorem readRow_no (s : ByteArray) (w : World) (hs : s.size ≤ maxLen) (hv : vld s = false) :
    Calls Try.prog 37 #[.string s] w fun e w' => e = .returned (.tuple #[.slice none 0 0, .bool false]) ∧ w = w' := by
  go_enter Try.func37, Try.ntmps37
  go_wp2_with (go_at_call 48; refine (implRowValid_any _ _ hs).mono ?_; rintro e w' ⟨rfl, rfl⟩)
  go_ret2
  exact ⟨rfl, rfl⟩

set_option maxHeartbeats 400000 in
theorem readRow_yes (s : ByteArray) (w : World) (hv : vld s = true) :
    Calls Try.prog 37 #[.string s] w fun e w' => e = .returned (.tuple #[.slice (some ⟨w.heap.size, 0, none⟩) (tl (bits s)) s.size, .bool true]) ∧
      Below w.heap.size w w' ∧ CellsAt w' w.heap.size ((bits s).map .bool) ∧ w.heap.size < w'.heap.size := by
  have h120 := vld_len s hv
  have hs : s.size ≤ maxLen := by unfold maxLen; omega
  obtain ⟨i0, hi, hz0, hz1, hz2⟩ := info_parts infoB
  go_enter Try.func37, Try.ntmps37
  go_wp2_with (first | (go_at_call 48; refine (implRowValid_any _ _ hs).mono ?_; rintro e w' ⟨rfl, rfl⟩) | (at_make; refine wpList_make_full _ rfl _ _ 57 rfl w.heap.size 4 i0 (.bool false) 1 Try.underlying57 hi hz0 hz1 _ _ _ _ s.size rfl rfl rfl rfl ?b2 ?b3 ?b4 ?_; rotate_right; intro w1 hown hgrow))
  case b2 => rw [hz2]; omega
  case b3 => exact hs
  case b4 => exact Nat.le_refl _
  rw [madeB] at hown
  have hb1 : Below w.heap.size w w1 := (Below.refl _ _).grown hgrow (Nat.le_refl _) (fun k e => by cases e)
  have hz : w.heap.size < w1.heap.size := (hown.lt _ rfl).2
  have hc1 := CellsAt.of_owns hown
  clear hown hgrow
  obtain ⟨g, hg⟩ : ∃ g, w.heap.size = g := ⟨_, rfl⟩
  rw [hg] at hb1 hz hc1 ⊢
  have HG := hide hg
  clear hg
  go_loopw [14] (fun i wr => ∃ k : Nat, k ≤ s.size ∧ i = .int .i64 k ∧ Below g w wr ∧ g < wr.heap.size ∧ ∃ xs : List Bool, Hid (xs.length = s.size) ∧ Hid (xs.take k = (bits s).take k) ∧ CellsAt wr g (xs.map .bool)) (fun i _ => s.size - (Go.RowKit.intOf i).toNat)
  case atStart => exact ⟨0, Nat.zero_le _, rfl, hb1, hz, List.replicate s.size false, by simp [Hid], rfl, hc1⟩
  case round =>
    obtain ⟨k, hk, rfl, hbr, hzr, xs, HX, HT, hcr⟩ := hrel
    have HC := hide hcr
    clear hcr hc1 hb1 hz
    by_cases hlt : k < s.size
    · obtain ⟨x, hx⟩ : ∃ x, xs[k]? = some x := ⟨_, List.getElem?_eq_getElem (by rw [HX.out]; omega)⟩
      obtain ⟨hcell, hfr⟩ := HC.out k (.bool x) (by simp [hx])
      have HE := hide hx
      clear hx
      go_wp2
      go_roundw
      case rel =>
        refine ⟨k + 1, by omega, by go_num, hbr.setCell (Nat.le_refl _) _, by simpa [World.setCell] using hzr, xs.set k (s[k] == 49), by simp [Hid, HX.out], ?_, ?_⟩
        · exact bits_step s xs k hlt HX.out HT.out
        · have := HC.out.set k (by simp [HX.out, hlt]) (.bool (s[k] == 49))
          rw [← bit_int, List.map_set]; exact this
      case measure => simp [Go.RowKit.intOf]; omega
    · have hxs : xs = bits s := by
        have := HT.out
        rw [List.take_of_length_le (by rw [HX.out]; omega), List.take_of_length_le (by rw [length_bits]; omega)] at this
        exact this
      subst hxs
      go_wp2_with (go_at_call 49; refine (tidy_any _ _ _ _ _ HX.out HC.out (Nat.le_refl _) hs).mono ?_; rintro e w' ⟨rfl, rfl⟩)
      go_ret2
      have hg := HG.out
      subst hg
      exact ⟨rfl, hbr, HC.out, hzr⟩
end Go.Proofs.Ytkdhifofdghbbab
