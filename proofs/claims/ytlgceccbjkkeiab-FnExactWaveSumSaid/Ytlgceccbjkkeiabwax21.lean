/- TEXTS Cir8, Shape1. -/
import Derived.Test.Ytlgceccbjkkeiabwax20
import Derived.Test.Ytlgceccbjkkeiabwax16
import Derived.Maps.AppendAt
/- CIRCLES AS TEXTS: what the model answers, and the facts of promises 43 to 48. Pure: no walk. -/
namespace Go.Proofs.Ytlgceccbjkkeiab
open Go.RowKit

def ofB (l : List Bool) : ByteArray := ofL (chC 49 l)
theorem bits_ofB (l : List Bool) : bits (ofB l) = l := by
  unfold ofB ofL bits chC
  simp only [List.map_map]
  have : l.map ((fun x : UInt8 => x == 49) ∘ fun b => if b = true then (49 : UInt8) else 48) = l.map id := List.map_congr_left (fun b _ => by cases b <;> rfl)
  rw [this, List.map_id]
theorem ofB_size (l : List Bool) : (ofB l).size = l.length := by rw [← length_bits, bits_ofB]
theorem vld_ofB {l : List Bool} (h : l.length ≤ 120) : vld (ofB l) = true := by
  unfold vld
  rw [Bool.and_eq_true]
  refine ⟨?_, by rw [ofB_size]; simpa using h⟩
  unfold allSgn
  rw [List.all_eq_true]
  intro x hx
  have hx' : x ∈ chC 49 l := hx
  unfold chC at hx'
  obtain ⟨b, _, rfl⟩ := List.mem_map.1 hx'
  cases b <;> rfl
theorem ofB_bits {s : ByteArray} (h : vld s = true) : ofB (bits s) = s := by
  have h1 := vld_sgn s h
  unfold allSgn at h1
  rw [List.all_eq_true] at h1
  have e : chC 49 (bits s) = lst s := by
    unfold chC bits lst
    rw [List.map_map]
    have e : s.data.toList.map ((fun b => if b = true then (49 : UInt8) else 48) ∘ fun x => x == 49) = s.data.toList.map id := by
      refine List.map_congr_left (fun x hx => ?_)
      have hs := h1 x hx
      unfold sgn at hs
      rw [Bool.or_eq_true, beq_iff_eq, beq_iff_eq] at hs
      rcases hs with rfl | rfl <;> rfl
    rw [e, List.map_id]
  unfold ofB
  rw [e, ofL_lst]
/-- a list that is a circle -/
theorem ciIn_ofB {l : List Bool} (h0 : l.length ≤ 60) (h : drf l < 0) : ciIn (ofB l) = true := by
  have hne : 1 ≤ l.length := by
    cases l with
    | nil => simp [drf] at h
    | cons x l => simp
  rw [drf_balls] at h
  unfold ciIn ci60
  rw [vld_ofB (by omega), bits_ofB, ofB_size]
  simp
  omega

/-- CircleTurn, CircleBack -/
def ctS (s : ByteArray) : ByteArray := if ciIn s then ofB (cturn (bits s)) else ByteArray.empty
def cbS (s : ByteArray) : ByteArray := if ciIn s then ofB (cturn (bits s).reverse).reverse else ByteArray.empty
theorem ctS_facts {s : ByteArray} (h : ciIn s = true) : bits (ctS s) = cturn (bits s) ∧ ciIn (ctS s) = true ∧ (ctS s).size = s.size ∧ nballs (bits (ctS s)) = nballs (bits s) := by
  obtain ⟨_, _, _, h60, hd⟩ := ciIn_facts h
  have e : ctS s = ofB (cturn (bits s)) := by unfold ctS; rw [if_pos h]
  have hl : (cturn (bits s)).length = s.size := by rw [cturn_length, length_bits]
  have hd2 := cturn_drf hd
  rw [e, bits_ofB, ofB_size]
  refine ⟨rfl, ciIn_ofB (by omega) (by omega), hl, ?_⟩
  rw [drf_balls, drf_balls, cturn_length] at hd2
  omega
theorem cbS_facts {s : ByteArray} (h : ciIn s = true) : bits (cbS s) = (cturn (bits s).reverse).reverse ∧ ciIn (cbS s) = true ∧ (cbS s).size = s.size := by
  obtain ⟨_, _, _, h60, hd⟩ := ciIn_facts h
  have e : cbS s = ofB (cturn (bits s).reverse).reverse := by unfold cbS; rw [if_pos h]
  have hl : (cturn (bits s).reverse).reverse.length = s.size := by rw [List.length_reverse, cturn_length, List.length_reverse, length_bits]
  have hd2 : drf (bits s).reverse < 0 := by rw [drf_rev]; exact hd
  rw [e, bits_ofB, ofB_size]
  exact ⟨rfl, ciIn_ofB (by omega) (by rw [drf_rev, cturn_drf hd2]; exact hd2), hl⟩
/-- P44 -/
theorem turn_back_S {s : ByteArray} (h : ciIn s = true) : cbS (ctS s) = s := by
  obtain ⟨hv, _, _, _, hd⟩ := ciIn_facts h
  obtain ⟨h1, h2, _, _⟩ := ctS_facts h
  unfold cbS
  rw [if_pos h2, h1, cturn_back hd, List.reverse_reverse, ofB_bits hv]
/-- P45 -/
theorem back_turn_S {s : ByteArray} (h : ciIn s = true) : ctS (cbS s) = s := by
  obtain ⟨hv, _, _, _, hd⟩ := ciIn_facts h
  obtain ⟨h1, h2, _⟩ := cbS_facts h
  unfold ctS
  rw [if_pos h2, h1, cback_turn hd, ofB_bits hv]
/-- P44: none in the same box -/
theorem turn_apart {s : ByteArray} (h : ciIn s = true) {j : Nat} (hj : (bits s)[j]? = some true) : (bits (ctS s))[j]? = some false := by
  rw [(ctS_facts h).1]
  exact tn_apart _ _ _ hj

/-- CircleShape -/
def cshB (l : List Bool) : List Nat := shp (cnt10 (nballs l) l)
theorem cshB_turn {l : List Bool} (h : drf l < 0) : cshB (cturn l) = cshB l := by
  have e : nballs (cturn l) = nballs l := by
    have := cturn_drf h
    rw [drf_balls, drf_balls, cturn_length] at this
    omega
  unfold cshB
  rw [e, rounds_turn _ h]
theorem nballs_rot {l l' : List Bool} (h : Rot l l') : nballs l = nballs l' := by
  obtain ⟨a, b, rfl, rfl⟩ := h
  unfold nballs
  rw [List.count_append, List.count_append]
  omega
theorem cshB_rot {l l' : List Bool} (h : Rot l l') : cshB l = cshB l' := by
  unfold cshB
  rw [nballs_rot h, cnt10_rot _ h]

/-- CirclePeriod: the first of some turns that brings the circle back -/
def perB (l : List Bool) : Nat → Nat → Nat
  | 0, _ => 0
  | f + 1, n => if cturns n l = l then n else perB l f (n + 1)
theorem perB_turn {l : List Bool} (h : drf l < 0) : ∀ f n : Nat, perB (cturn l) f n = perB l f n
  | 0, _ => rfl
  | f + 1, n => by
    simp only [perB]
    rw [perB_turn h f (n + 1)]
    have := period_turn h n
    by_cases e : cturns n l = l
    · rw [if_pos e, if_pos (this.2 e)]
    · rw [if_neg e, if_neg (fun h => e (this.1 h))]
theorem perB_ge (l : List Bool) : ∀ f n : Nat, perB l f n = 0 ∨ n ≤ perB l f n
  | 0, _ => .inl rfl
  | f + 1, n => by
    simp only [perB]
    split
    · exact .inr (Nat.le_refl _)
    · rcases perB_ge l f (n + 1) with h | h
      · exact .inl h
      · exact .inr (by omega)
/-- P48: 1 exactly without balls -/
theorem perB_one (l : List Bool) (f : Nat) : perB l (f + 1) 1 = 1 ↔ nballs l = 0 := by
  have e : cturns 1 l = cturn l := rfl
  constructor
  · intro h
    simp only [perB] at h
    split at h
    · rename_i h1
      rw [e] at h1
      have := period_one h1
      unfold nballs
      rw [List.count_eq_zero]
      intro hm
      exact absurd (this true hm) (by simp)
    · have h3 : perB l f 2 = 1 := h
      rcases perB_ge l f 2 with h2 | h2
      · rw [h3] at h2; exact absurd h2 (by simp)
      · rw [h3] at h2; exact absurd h2 (by simp)
  · intro h
    simp only [perB]
    rw [if_pos (by rw [e]; exact cturn_still h)]
end Go.Proofs.Ytlgceccbjkkeiab

/- THE WALKS of the model's l3Runs, ShapeRuns, ShapeApart. -/
namespace Go.Proofs.Ytlgceccbjkkeiab
open Go.RowKit

/-- numbers as ints -/
def ni (l : List Nat) : List Int := l.map fun (x : Nat) => (x : Int)
theorem ni_length (l : List Nat) : (ni l).length = l.length := by simp [ni]
theorem ni_snoc (l : List Nat) (x : Nat) : ni (l ++ [x]) = ni l ++ [(x : Int)] := by simp [ni]
theorem ni_getElem (l : List Nat) (k : Nat) : (ni l)[k]? = l[k]?.map fun (x : Nat) => (x : Int) := by simp [ni]
theorem bits_drop (s : ByteArray) (k : Nat) (h : k < s.size) : (bits s).drop k = (s[k] == 49) :: (bits s).drop (k + 1) := by
  have hb : k < (bits s).length := by rw [length_bits]; exact h
  have e := bits_getElem s k h
  rw [List.getElem?_eq_getElem hb] at e
  simp only [Option.some.injEq] at e
  rw [List.drop_eq_getElem_cons hb, e]

/-- the loop of l3Runs, between two signs -/
def RunRel (s : ByteArray) (B : Nat) (w : World) (u v c d i : Value) (wr : World) : Prop :=
  ∃ (k n g : Nat) (R G : List Nat), k ≤ s.size ∧ i = .int .i64 (k : Int) ∧ c = .int .i64 (n : Int) ∧ d = .int .i64 (g : Int) ∧ n ≤ k ∧ g ≤ k ∧ R.length ≤ k ∧ G.length ≤ k ∧
    Hid (wr.ownsRow B 3 1 u R.length ((ni R).map (.int .i64))) ∧ Hid (wr.ownsRow B 3 1 v G.length ((ni G).map (.int .i64))) ∧ Hid (∀ x, u.ownBlock = some x → v.ownBlock ≠ some x) ∧
    Hid (rr (bits s) = rrF ((bits s).drop k) R G n g) ∧ Hid (Below B w wr) ∧ B ≤ wr.heap.size
theorem apart_ne {u v : Value} (h : ∀ x, u.ownBlock = some x → v.ownBlock ≠ some x) : (u.ownBlock = none ∨ u.ownBlock ≠ v.ownBlock) ∧ (v.ownBlock = none ∨ v.ownBlock ≠ u.ownBlock) := by
  cases hu : u.ownBlock with
  | none => refine ⟨.inl rfl, ?_⟩; cases hv : v.ownBlock with
            | none => exact .inl rfl
            | some y => exact .inr (fun e => by cases e)
  | some x => exact ⟨.inr (fun e => h x hu e.symm), .inr (fun e => h x hu e)⟩
theorem own_slice {w : World} {B e n : Nat} {v : Value} {xs : List Value} (h : w.ownsRow B e 1 v n xs) : ∃ a c, v = .slice a n c := by
  rcases h.2 with ⟨rfl, rfl⟩ | ⟨g, cap, cur, rfl, _⟩
  · exact ⟨_, _, rfl⟩
  · exact ⟨_, _, rfl⟩
/-- one number put behind the first row: the other one is kept -/
theorem rows_next {B e m : Nat} {u v u' : Value} {ys : List Value} {wr w1 : World} {o : Obj} (hv : wr.ownsRow B e 1 v m ys) (ha : ∀ x, u.ownBlock = some x → v.ownBlock ≠ some x)
    (hg : (wr.alloc o).grownBy w1 u.ownBlock) (hat : u'.ownBlock = u.ownBlock ∨ u'.ownBlock = some (wr.alloc o).heap.size) : w1.ownsRow B e 1 v m ys ∧ ∀ x, u'.ownBlock = some x → v.ownBlock ≠ some x := by
  refine ⟨(hv.alloc o).kept hg (apart_ne ha).2, ?_⟩
  intro x hx hvx
  rcases hat with h | h
  · exact ha x (h ▸ hx) hvx
  · rw [h] at hx
    injection hx with hx
    have := (hv.lt x hvx).2
    rw [World.size_alloc] at hx
    omega

set_option maxHeartbeats 2000000 in
theorem l3Runs_any (s : ByteArray) (w : World) (hs : s.size ≤ 120) :
    Calls Try.prog 26 #[.string s] w fun e w' => ∃ u v, e = .returned (.tuple #[u, v]) ∧ IntsV w.heap.size w' u (ni (rr (bits s)).1) ∧ IntsV w.heap.size w' v (ni (rr (bits s)).2) ∧ Below w.heap.size w w' := by
  obtain ⟨i0, hi, hz0, hz1, hz2⟩ := info_parts infoI
  obtain ⟨B, hB⟩ : ∃ B, w.heap.size = B := ⟨_, rfl⟩
  have h0 := World.ownsRow_lit (base := B) (e := 3) (size := 1) w #[] 0 (by omega) (by unfold maxLen; omega) rfl
  have h1 := World.ownsRow_lit (base := B) (e := 3) (size := 1) (w.alloc (.cells #[] 3)) #[] 0 (by simp; omega) (by unfold maxLen; omega) rfl
  have hb0 := ((Below.refl B w).alloc (by omega) (.cells #[] 3)).alloc (by simp; omega) (.cells #[] 3)
  have h0' := h0.alloc (.cells #[] 3)
  rw [hB] at h0' ⊢
  have HB := hide hB
  clear hB
  have H0 := hide h0'
  have H1 := hide h1
  clear h0 h1 h0'
  go_enter Try.func26, Try.ntmps26
  go_wp2
  go_loopw [4, 5, 6, 7, 8] (RunRel s B w) (fun _ _ _ _ i _ => s.size - (Go.RowKit.intOf i).toNat)
  case atStart =>
    refine ⟨0, 0, 0, [], [], Nat.zero_le _, rfl, rfl, rfl, Nat.le_refl _, Nat.le_refl _, Nat.le_refl _, Nat.le_refl _, ?_, ?_, ?_, rfl, hb0, by simp [← HB.out]; omega⟩
    · have := H0.out
      rw [← HB.out] at this ⊢
      exact this
    · have := H1.out
      rw [World.size_alloc] at this
      rw [← HB.out] at this ⊢
      exact this
    · intro x hx hy
      simp [Value.ownBlock] at hx hy
      omega
  case round =>
    obtain ⟨k, n, g, R, G, hk, rfl, rfl, rfl, hn, hg, hR, hG, HU, HV, HA, HR, HBW, hsz⟩ := hrel
    clear H0 H1 hb0
    by_cases hlt : k < s.size
    · have HD := hide (bits_drop s k hlt)
      rw [bit_int] at HD
      cases hb : ((s[k].toNat : Int) == 49)
      · rw [hb] at HD
        by_cases hc : 0 < n
        · have HR2 := hide (show rr (bits s) = rrF ((bits s).drop (k + 1)) (R ++ [n]) G 0 (g + 1) by rw [HR.out, HD.out, rrF_false, if_neg (by omega)])
          clear HD HR
          go_wp2_with (at_builtin; refine wpList_append_own_at _ rfl _ _ 22 rfl B 3 i0 (.int .i64 0) 1 8 Try.underlying22 hi hz0 hz1 hz2 rfl (by decide) _ _ _ rfl (HU.out.alloc _) ⟨wr.heap.size, 0, none⟩ 1 1 [.int .i64 (n : Int)] rfl rfl (cell_one_new _ _ _) (one_of_int _) (by unfold maxLen; omega) (by omega) (by simp; omega) ?_; intro v' w1 hown' hgrow _ hat)
          go_roundw
          case rel =>
            obtain ⟨r1, r2⟩ := rows_next HV.out HA.out hgrow hat
            have hsg := hgrow.size
            rw [World.size_alloc] at hsg
            refine ⟨k + 1, 0, g + 1, R ++ [n], G, by omega, by go_num, rfl, by go_num, by omega, by omega, by simp; omega, by omega, ?_, r1, r2, HR2, (HBW.out.alloc hsz _).grown hgrow (by simp; omega) (fun b e => (HU.out.lt b e).1), by omega⟩
            rw [List.length_append, ni_snoc, List.map_append]; exact hown'
          case measure => simp [Go.RowKit.intOf]; omega
        · obtain rfl : n = 0 := by omega
          have HR2 := hide (show rr (bits s) = rrF ((bits s).drop (k + 1)) R G 0 (g + 1) by rw [HR.out, HD.out, rrF_false, if_pos rfl])
          clear HD HR
          go_wp2
          go_roundw
          case rel => exact ⟨k + 1, 0, g + 1, R, G, by omega, by go_num, rfl, by go_num, by omega, by omega, by omega, by omega, HU, HV, HA, HR2, HBW, hsz⟩
          case measure => simp [Go.RowKit.intOf]; omega
      · rw [hb] at HD
        obtain ⟨a4, c4, rfl⟩ := own_slice HU.out
        by_cases hc : n = 0 ∧ 0 < R.length
        · obtain ⟨rfl, hR0⟩ := hc
          have HR2 := hide (show rr (bits s) = rrF ((bits s).drop (k + 1)) R (G ++ [g]) 1 0 by rw [HR.out, HD.out, rrF_true, if_pos ⟨rfl, fun e => by rw [e] at hR0; simp at hR0⟩])
          have hRi : (0 : Int) < (R.length : Int) := by omega
          clear HD HR
          go_wp2_with (at_builtin; refine wpList_append_own_at _ rfl _ _ 22 rfl B 3 i0 (.int .i64 0) 1 8 Try.underlying22 hi hz0 hz1 hz2 rfl (by decide) _ _ _ rfl (HV.out.alloc _) ⟨wr.heap.size, 0, none⟩ 1 1 [.int .i64 (g : Int)] rfl rfl (cell_one_new _ _ _) (one_of_int _) (by unfold maxLen; omega) (by omega) (by simp; omega) ?_; intro v' w1 hown' hgrow _ hat)
          go_roundw
          case rel =>
            obtain ⟨r1, r2⟩ := rows_next HU.out (fun x hx hy => HA.out x hy hx) hgrow hat
            have hsg := hgrow.size
            rw [World.size_alloc] at hsg
            refine ⟨k + 1, 1, 0, R, G ++ [g], by omega, by go_num, rfl, rfl, by omega, by omega, by omega, by simp; omega, r1, ?_, fun x hx hy => r2 x hy hx, HR2, (HBW.out.alloc hsz _).grown hgrow (by simp; omega) (fun b e => (HV.out.lt b e).1), by omega⟩
            rw [List.length_append, ni_snoc, List.map_append]; exact hown'
          case measure => simp [Go.RowKit.intOf]; omega
        · have HR2 := hide (show rr (bits s) = rrF ((bits s).drop (k + 1)) R G (n + 1) 0 by rw [HR.out, HD.out, rrF_true, if_neg (fun h => hc ⟨h.1, List.length_pos_iff.2 h.2⟩)])
          clear HD HR
          by_cases hn0 : n = 0
          · subst hn0
            have hR0 : R.length = 0 := by omega
            have hRi : ¬ (0 : Int) < (R.length : Int) := by omega
            clear hc
            go_wp2
            go_roundw
            case rel => exact ⟨k + 1, 0 + 1, 0, R, G, by omega, by go_num, rfl, rfl, by omega, by omega, by omega, by omega, HU, HV, HA, HR2, HBW, hsz⟩
            case measure => simp [Go.RowKit.intOf]; omega
          · have hni : ((n : Int) == 0) = false := beq_eq_false_iff_ne.2 (by omega)
            clear hc
            go_wp2
            go_roundw
            case rel => exact ⟨k + 1, n + 1, 0, R, G, by omega, by go_num, by go_num, rfl, by omega, by omega, by omega, by omega, HU, HV, HA, HR2, HBW, hsz⟩
            case measure => simp [Go.RowKit.intOf]; omega
    · have hks : k = s.size := by omega
      have HE : Hid (rr (bits s) = (if n = 0 then R else R ++ [n], G)) := by
        show rr (bits s) = _
        rw [HR.out, hks, List.drop_of_length_le (by rw [length_bits]; exact Nat.le_refl _)]; rfl
      clear HR
      by_cases hc : 0 < n
      · have HE2 := hide (HE.out.trans (by rw [if_neg (by omega)] : _ = (R ++ [n], G)))
        clear HE
        go_wp2_with (at_builtin; refine wpList_append_own_at _ rfl _ _ 22 rfl B 3 i0 (.int .i64 0) 1 8 Try.underlying22 hi hz0 hz1 hz2 rfl (by decide) _ _ _ rfl (HU.out.alloc _) ⟨wr.heap.size, 0, none⟩ 1 1 [.int .i64 (n : Int)] rfl rfl (cell_one_new _ _ _) (one_of_int _) (by unfold maxLen; omega) (by omega) (by simp; omega) ?_; intro v' w1 hown' hgrow _ hat)
        go_ret2
        obtain ⟨r1, r2⟩ := rows_next HV.out HA.out hgrow hat
        rw [HE2.out]
        refine ⟨_, _, rfl, IntsV.of_owns (e := 3) (n := R.length + 1) ?_, IntsV.of_owns (e := 3) (n := G.length) r1, (HBW.out.alloc hsz _).grown hgrow (by simp; omega) (fun b e => (HU.out.lt b e).1)⟩
        show w1.ownsRow _ _ _ _ _ ((ni (R ++ [n])).map (.int .i64))
        rw [ni_snoc, List.map_append]; exact hown'
      · obtain rfl : n = 0 := by omega
        have HE2 := hide (HE.out.trans (by rw [if_pos rfl] : _ = (R, G)))
        clear HE
        go_wp2
        go_ret2
        rw [HE2.out]
        exact ⟨_, _, rfl, IntsV.of_owns (e := 3) (n := R.length) HU.out, IntsV.of_owns (e := 3) (n := G.length) HV.out, HBW.out⟩

/-- what ShapeRuns answers -/
def rnR (s : ByteArray) : List Int := if vld s then ni (rr (bits s)).1 else []
/-- what ShapeApart answers -/
def apOk (s : ByteArray) : Bool := vld s && apB (rr (bits s)).1 (rr (bits s)).2
theorem rr_len (l : List Bool) : (rr l).1.length ≤ l.length ∧ ((rr l).2 = [] ∨ (rr l).2.length + 1 = (rr l).1.length) ∧ ∀ x ∈ (rr l).1, x ≤ l.length := by
  obtain ⟨h1, h2, h3⟩ := runs_energy l
  refine ⟨by rw [h1]; exact tk_le _ _ _, ?_, ?_⟩
  · obtain ⟨g, ps, hg, rfl⟩ := blocks l
    rw [rr_blocks hg]
    cases ps with
    | nil => exact .inl rfl
    | cons p ps => exact .inr (by simp)
  · intro x hx
    have := mem_le_sum _ x hx
    rw [h2] at this
    have h4 : nballs l ≤ l.length := by unfold nballs; exact List.count_le_length
    omega

theorem apB_at {R G : List Nat} {k : Nat} (h : k < G.length) (hb : (decide (R.getD k 0 ≤ R.getD (k + 1) 0) && decide (R.getD k 0 ≤ G.getD k 0)) = false) : apB R G = false := by
  unfold apB
  rw [List.all_eq_false]
  exact ⟨k, by simpa using h, by rw [hb]; simp⟩
theorem apB_all {R G : List Nat} (h : ∀ k, k < G.length → (decide (R.getD k 0 ≤ R.getD (k + 1) 0) && decide (R.getD k 0 ≤ G.getD k 0)) = true) : apB R G = true := by
  unfold apB
  rw [List.all_eq_true]
  intro k hk
  exact h k (by simpa using hk)
theorem getD_some {l : List Nat} {k : Nat} (h : k < l.length) : l[k]? = some (l.getD k 0) := by
  rw [List.getD_eq_getElem?_getD, List.getElem?_eq_getElem h]; rfl

end Go.Proofs.Ytlgceccbjkkeiab
