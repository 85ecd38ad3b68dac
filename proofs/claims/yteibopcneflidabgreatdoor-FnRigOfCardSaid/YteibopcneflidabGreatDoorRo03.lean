/- TEXTS Draw4, Pick, Carry. -/
import Derived.Test.YteibopcneflidabGreatDoorRo02
import Derived.Laws.BitsAllLaws
import Derived.WalkKit
/- THE WALKS of the drawing of rows that are often high. -/
namespace Go.Proofs.YteibopcneflidabGreatDoor
open Go.RowKit

/-- between two rounds of l91High -/
def HighRel (w : World) (R : Nat) (a : Option Addr) (len cap : Nat) (z : List Int) (p : Nat) (s level i : Value) (wr : World) : Prop :=
  ∃ (x : ByteArray) (k q : Nat) (l : Int), s = .string x ∧ level = .int .i64 l ∧ i = .int .i64 (k : Int) ∧ -(k : Int) ≤ l ∧ l ≤ k ∧ x.size = k ∧ k ≤ 28 ∧ allSgn x.data.toList = true ∧ q ≤ p + 1 + k ∧ Rd wr R a len cap z q ∧ Below R w wr ∧ wr.heap.size = w.heap.size

/-- what the drawing of a high row leaves -/
def DrawnH (w : World) (R : Nat) (e : Ending) (w' : World) : Prop := ∃ s : ByteArray, e = .returned (.string s) ∧ s.size ≤ 300 ∧ Below R w w'

set_option maxHeartbeats 2000000 in
theorem l91High_any (w : World) (R : Nat) (a : Option Addr) (len cap : Nat) (z : List Int) (p : Nat) (hrd : Rd w R a len cap z p) (hp : p ≤ 500) :
    Calls Tryz.prog 13 #[.pointer (some ⟨R, 0, none⟩)] w (DrawnH w R) := by
  go_enter Tryz.func13, Tryz.ntmps13
  go_wp2_with fail
  refine (pick_any w R a len cap z p 28 hrd (by omega) (by omega) (by omega)).mono ?_
  rintro e w1 ⟨n, rfl, hn1, hn2, hr1, hb1, hz1⟩
  go_wp2_with fail
  go_loopw [3, 4, 6] (HighRel w R a len cap z p) (fun _ _ i _ => (n - intOf i).toNat)
  case atStart => exact ⟨_, 0, _, 0, rfl, rfl, rfl, by omega, by omega, rfl, by omega, rfl, by omega, hr1, hb1, hz1⟩
  case round =>
    obtain ⟨x, k, q, l, rfl, rfl, rfl, hl1, hl2, hx, hk, hs, hq, hr, hb, hz⟩ := hrel
    have HS := hide hs
    have HX := hide hx
    have HB := hide hb
    have HZ := hide hz
    clear hs hx hb hz hr1 hb1 hz1
    by_cases hlt : (k : Int) < n
    · have hsz : x.size + 1 ≤ 1000 := by rw [HX.out]; omega
      by_cases hl0 : 0 < l
      · go_wp2_with fail
        refine (pick_any wr R a len cap z q 2 hr (by omega) (by omega) (by omega)).mono ?_
        rintro e w2 ⟨v, rfl, hv1, hv2, hr2, hb2, hz2⟩
        have HR2 := hide hr2
        have HB2 := hide hb2
        have HZ2 := hide hz2
        clear hr2 hb2 hz2 hr
        cases hv : (v == 0)
        all_goals
          go_wp2_with fail
          go_roundw
          case rel => exact ⟨_, k + 1, q + 1, _, rfl, rfl, by go_num, by omega, by omega, by simp [HX.out]; rfl, by omega, allSgn_push x _ (by rfl) HS.out, by omega, HR2.out, HB.out.trans HB2.out, HZ2.out.trans HZ.out⟩
          case measure => simp [intOf]; omega
      · have HR := hide hr
        clear hr
        go_wp2_with fail
        go_roundw
        case rel => exact ⟨_, k + 1, q, _, rfl, rfl, by go_num, by omega, by omega, by simp [HX.out]; rfl, by omega, allSgn_push x _ (by rfl) HS.out, by omega, HR.out, HB.out, HZ.out⟩
        case measure => simp [intOf]; omega
    · have hsz : x.size ≤ 28 := by rw [HX.out]; omega
      go_wp2_with fail
      refine (pick_any wr R a len cap z q 10 hr (by omega) (by omega) (by omega)).mono ?_
      rintro e w2 ⟨v, rfl, hv1, hv2, hr2, hb2, hz2⟩
      have HB2 := hide (HB.out.trans hb2)
      clear hr hb2 hz2 hrd
      cases h0 : (v == 0)
      · go_wp2_with (go_at_call 33; refine (l1Tidy_any x _ (by unfold maxLen; omega) HS.out).mono ?_; rintro e w3 ⟨rfl, rfl⟩)
        go_ret
        exact ⟨_, rfl, by have := tidyS_le x; omega, HB2.out⟩
      · go_wp2_with fail
        refine (l91Row_any w2 R a len cap z (q + 1) hr2 (by omega)).mono ?_
        rintro e w3 ⟨t, q3, rfl, ht, hq3, hr3, hb3, hz3⟩
        go_wp2_with fail
        go_ret
        exact ⟨t, rfl, ht, HB2.out.trans hb3⟩

end Go.Proofs.YteibopcneflidabGreatDoor

/- A PICK IS NOT NEGATIVE: the walk of pick once more, with its value's bounds from below. -/
namespace Go.Proofs.YteibopcneflidabGreatDoor
open Go.RowKit

/-- what a pick leaves -/
def Picked2 (w : World) (R : Nat) (a : Option Addr) (len cap : Nat) (z : List Int) (p : Nat) (n : Int) (e : Ending) (w' : World) : Prop :=
  ∃ v : Int, e = .returned (.int .i64 v) ∧ 0 ≤ v ∧ v < n ∧ Rd w' R a len cap z (p + 1) ∧ Below R w w' ∧ w'.heap.size = w.heap.size ∧ w.grownBy w' (some R)

theorem picked2_next {w : World} {R : Nat} {a : Option Addr} {len cap : Nat} {z : List Int} {p : Nat} {n v : Int} (h : Rd w R a len cap z p) (h1 : 0 ≤ v) (h2 : v < n) (k : Nat) :
    Picked2 w R a len cap z p n (.returned (.int .i64 v)) ((w.setCell ⟨R, 1, none⟩ (.int .i64 ((p : Int) + 1))).drewN k) := by
  have e : ((p : Int) + 1) = ((p + 1 : Nat) : Int) := by omega
  rw [e]
  refine ⟨v, rfl, h1, h2, h.next.below ((Quiet.drewN k).2 (R + 1)) (Nat.lt_succ_self R), ?_, ?_, ?_⟩
  · exact ((Below.refl R w).setCell (Nat.le_refl _) _).trans ((Quiet.drewN k).2 R)
  · show (World.setCell _ _ _).heap.size = _; simp [World.setCell]
  · exact ⟨rfl, rfl, rfl, by show w.heap.size ≤ (World.setCell _ _ _).heap.size; simp [World.setCell], fun j _ hj => heap_setCell_other w ⟨R, 1, none⟩ j _ (fun e => hj (by simp [e]))⟩

theorem CellsAt.grown {w w' : World} {g R : Nat} {l : List Value} (h : CellsAt w g l) (hg : w.grownBy w' (some R)) (hne : g ≠ R) : CellsAt w' g l := by
  intro j v hv
  obtain ⟨a, b⟩ := h j v hv
  have hb := hg.block g (World.block_lt_of_cell? w _ a) (by intro e; injection e with e; exact hne e)
  exact ⟨(World.cell?_of_block (a := ⟨g, j, none⟩) hb).trans a, (World.frozen?_of_block (a := ⟨g, j, none⟩) hb).trans b⟩
theorem i64_xor_nat (a b : Nat) (ha : a < 9223372036854775808) (hb : b < 9223372036854775808) : Go.bits .xor .i64 (a : Int) (b : Int) = ((a ^^^ b : Nat) : Int) := by
  have hx : a ^^^ b < 2 ^ 63 := Nat.xor_lt_two_pow (by omega) (by omega)
  show IntKind.i64.wrap ((BitVec.ofInt 64 (a : Int) ^^^ BitVec.ofInt 64 (b : Int)).toNat : Int) = _
  rw [BitVec.toNat_xor, ofInt_u64 a (by omega), ofInt_u64 b (by omega), IntKind.wrap_i64]
  omega
theorem pick_nonneg (y1 y2 P D n : Int) (h1 : 0 ≤ y1 ∧ y1 ≤ 255) (h2 : 0 ≤ y2 ∧ y2 ≤ 255) (h3 : 0 ≤ P ∧ P ≤ 100000) (h4 : 0 ≤ D ∧ D ≤ 100000) (hn : 1 ≤ n) (X : Int)
    (hX : X = wrap64 (wrap64 (wrap64 (wrap64 (wrap64 y1 * 131) + wrap64 (wrap64 y2 * 1117)) + P * 29) + wrap64 (wrap64 D * 53))) :
    0 ≤ (Go.bits BinOp.xor IntKind.i64 X (wrap64 (X.tdiv 64))).tmod n ∧ (Go.bits BinOp.xor IntKind.i64 X (wrap64 (X.tdiv 64))).tmod n < n := by
  have e1 : wrap64 y1 = y1 := IntWalk.wrap64_in _ (by omega)
  have e2 : wrap64 y2 = y2 := IntWalk.wrap64_in _ (by omega)
  have e3 : wrap64 (y1 * 131) = y1 * 131 := IntWalk.wrap64_in _ (by omega)
  have e4 : wrap64 (y2 * 1117) = y2 * 1117 := IntWalk.wrap64_in _ (by omega)
  have e5 : wrap64 (y1 * 131 + y2 * 1117) = y1 * 131 + y2 * 1117 := IntWalk.wrap64_in _ (by omega)
  have e6 : wrap64 (y1 * 131 + y2 * 1117 + P * 29) = y1 * 131 + y2 * 1117 + P * 29 := IntWalk.wrap64_in _ (by omega)
  have e7 : wrap64 D = D := IntWalk.wrap64_in _ (by omega)
  have e8 : wrap64 (D * 53) = D * 53 := IntWalk.wrap64_in _ (by omega)
  have e9 : wrap64 (y1 * 131 + y2 * 1117 + P * 29 + D * 53) = y1 * 131 + y2 * 1117 + P * 29 + D * 53 := IntWalk.wrap64_in _ (by omega)
  rw [e1, e2, e3, e4, e5, e6, e7, e8, e9] at hX
  have hx0 : 0 ≤ X := by omega
  have hx1 : X ≤ 100000000 := by omega
  obtain ⟨x, rfl⟩ := Int.eq_ofNat_of_zero_le hx0
  have e10 : (x : Int).tdiv 64 = ((x / 64 : Nat) : Int) := rfl
  rw [e10, IntWalk.wrap64_in _ (by omega), i64_xor_nat x (x / 64) (by omega) (by omega)]
  exact ⟨Int.tmod_nonneg _ (by omega), Int.tmod_lt_of_pos _ (by omega)⟩

set_option maxHeartbeats 1000000 in
theorem pick2_any (w : World) (R : Nat) (a : Option Addr) (len cap : Nat) (z : List Int) (p : Nat) (n : Int) (hrd : Rd w R a len cap z p) (hp : p ≤ 100000) (hn1 : 1 ≤ n) (hn2 : n ≤ 1000) :
    Calls Tryz.prog 31 #[.pointer (some ⟨R, 0, none⟩), .int .i64 n] w (Picked2 w R a len cap z p n) := by
  have hc0 := hrd.c0
  have hc1 := hrd.c1
  have hf1 := hrd.f1
  have hlen := hrd.len_le
  by_cases h0 : len = 0
  · subst h0
    have HR := hide hrd
    clear hrd
    go_enter Tryz.func31, Tryz.ntmps31
    go_wp2
    go_ret
    exact picked2_next HR.out (by omega) (by omega) 0
  · obtain ⟨b, off, rfl, hbR, hby⟩ := hrd.bytes (by omega)
    have HR := hide hrd
    have HB := hide hby
    clear hrd hby
    have l0 : ((len : Int) == 0) = false := beq_eq_false_iff_ne.2 (by omega)
    by_cases hpl : p < len
    · obtain ⟨hcell, hz0, hz1⟩ := HB.out p hpl
      obtain ⟨y, hy⟩ : ∃ y, y = z.getD p 0 := ⟨_, rfl⟩
      rw [← hy] at hcell hz0 hz1
      clear hy
      go_enter Tryz.func31, Tryz.ntmps31
      go_wp2
      go_ret
      have h1 := Int.emod_nonneg y (show n ≠ 0 by omega)
      have h2 := Int.emod_lt_of_pos y (show 0 < n by omega)
      exact picked2_next HR.out h1 h2 0
    · obtain ⟨i1, hi1⟩ : ∃ i, i = p % len := ⟨_, rfl⟩
      obtain ⟨i2, hi2⟩ : ∃ i, i = (p * 7 + 3) % len := ⟨_, rfl⟩
      have b1 : i1 < len := by rw [hi1]; exact Nat.mod_lt _ (by omega)
      have b2 : i2 < len := by rw [hi2]; exact Nat.mod_lt _ (by omega)
      have hcell1 := (HB.out i1 b1).1
      have hcell2 := (HB.out i2 b2).1
      have yb1 := hide (HB.out i1 b1).2
      have yb2 := hide (HB.out i2 b2).2
      obtain ⟨y1, hy1⟩ : ∃ y, y = z.getD i1 0 := ⟨_, rfl⟩
      obtain ⟨y2, hy2⟩ : ∃ y, y = z.getD i2 0 := ⟨_, rfl⟩
      rw [← hy1] at hcell1 yb1
      rw [← hy2] at hcell2 yb2
      have hd := hide (show 0 ≤ (p : Int) / (len : Int) ∧ (p : Int) / (len : Int) ≤ 100000 from ⟨Int.ediv_nonneg (by omega) (by omega), Int.le_trans (Int.ediv_le_self _ (by omega)) (by omega)⟩)
      have e1 : Int.tmod (p : Int) (len : Int) = (i1 : Int) := by rw [hi1]; rfl
      have e2 : Int.tmod ((p : Int) * 7 + 3) (len : Int) = (i2 : Int) := by
        rw [hi2, show ((p : Int) * 7 + 3) = ((p * 7 + 3 : Nat) : Int) by omega]; rfl
      have w1 : IntKind.i64.wrap ((p : Int) * 7) = (p : Int) * 7 := IntWalk.i64_in _ (by omega)
      have w2 : IntKind.i64.wrap ((p : Int) * 7 + 3) = (p : Int) * 7 + 3 := IntWalk.i64_in _ (by omega)
      have n1 : (0 : Int) ≤ (i1 : Int) := by omega
      have n2 : (0 : Int) ≤ (i2 : Int) := by omega
      have m1 : (i1 : Int) < (len : Int) := by omega
      have m2 : (i2 : Int) < (len : Int) := by omega
      clear hi1 hi2 hy1 hy2 b1 b2
      go_enter Tryz.func31, Tryz.ntmps31
      go_wp2
      go_quiet (fail)
      go_wp2
      go_ret
      have hf := pick_nonneg y1 y2 (p : Int) ((p : Int) / (len : Int)) n yb1.out yb2.out (by omega) hd.out hn1 _ rfl
      exact picked2_next HR.out hf.1 hf.2 _

end Go.Proofs.YteibopcneflidabGreatDoor

/- CARRIERS ON INFINITE ROWS: what a carrier with a room leaves, its loads, how often it takes; a step is done back, steps commute, energies are kept and concave. Pure: nothing of the program is named here. -/
namespace Go.Proofs.YteibopcneflidabGreatDoor

/-- the load behind a box -/
def nx (K : Nat) (b : Bool) (u : Nat) : Nat := if b then (if u < K then u + 1 else u) else u - 1
/-- how the box is left -/
def ot (K : Nat) (b : Bool) (u : Nat) : Bool := if b then !decide (u < K) else decide (0 < u)
/-- the load ahead of box i -/
def ld (K : Nat) (f : Nat → Bool) : Nat → Nat
  | 0 => 0
  | i + 1 => nx K (f i) (ld K f i)
/-- the row behind a step -/
def tr (K : Nat) (f : Nat → Bool) (i : Nat) : Bool := ot K (f i) (ld K f i)
/-- how often a ball was taken ahead of box i -/
def tk (K : Nat) (f : Nat → Bool) : Nat → Nat
  | 0 => 0
  | i + 1 => tk K f i + if f i && decide (ld K f i < K) then 1 else 0
/-- balls ahead of box i -/
def cn (f : Nat → Bool) : Nat → Nat
  | 0 => 0
  | i + 1 => cn f i + if f i then 1 else 0

theorem ld_zero (K : Nat) (f : Nat → Bool) : ld K f 0 = 0 := rfl
theorem ld_succ (K : Nat) (f : Nat → Bool) (i : Nat) : ld K f (i + 1) = nx K (f i) (ld K f i) := rfl
theorem nx_le (K : Nat) (b : Bool) (u : Nat) (h : u ≤ K) : nx K b u ≤ K := by unfold nx; split <;> (try split) <;> omega
theorem nx_bd (K : Nat) (b : Bool) (u : Nat) : nx K b u ≤ u + 1 ∧ u ≤ nx K b u + 1 := by unfold nx; split <;> (try split) <;> omega
theorem ld_le (K : Nat) (f : Nat → Bool) (i : Nat) : ld K f i ≤ K := by
  induction i with
  | zero => exact Nat.zero_le _
  | succ i ih => exact nx_le K _ _ ih
theorem ld_le_cn (K : Nat) (f : Nat → Bool) (i : Nat) : ld K f i ≤ cn f i := by
  induction i with
  | zero => exact Nat.zero_le _
  | succ i ih => show nx K _ _ ≤ cn f i + _; unfold nx; cases f i <;> simp <;> (try split) <;> omega
theorem cn_le (f : Nat → Bool) (i : Nat) : cn f i ≤ i := by
  induction i with
  | zero => exact Nat.zero_le _
  | succ i ih => show cn f i + _ ≤ _; cases f i <;> simp <;> omega
theorem ld_le_i (K : Nat) (f : Nat → Bool) (i : Nat) : ld K f i ≤ i := Nat.le_trans (ld_le_cn K f i) (cn_le f i)

/-- rows that are alike up to a box -/
theorem ld_congr {K : Nat} {f g : Nat → Bool} {n : Nat} (h : ∀ i, i < n → f i = g i) : ∀ i, i ≤ n → ld K f i = ld K g i := by
  intro i
  induction i with
  | zero => intro _; rfl
  | succ i ih => intro hi; rw [ld_succ, ld_succ, ih (by omega), h i (by omega)]
theorem tk_congr {K : Nat} {f g : Nat → Bool} {n : Nat} (h : ∀ i, i < n → f i = g i) : ∀ i, i ≤ n → tk K f i = tk K g i := by
  intro i
  induction i with
  | zero => intro _; rfl
  | succ i ih => intro hi; show tk K f i + _ = tk K g i + _; rw [ih (by omega), h i (by omega), ld_congr h i (by omega)]
theorem cn_congr {f g : Nat → Bool} {n : Nat} (h : ∀ i, i < n → f i = g i) : ∀ i, i ≤ n → cn f i = cn g i := by
  intro i
  induction i with
  | zero => intro _; rfl
  | succ i ih => intro hi; show cn f i + _ = cn g i + _; rw [ih (by omega), h i (by omega)]
theorem tr_congr {K : Nat} {f g : Nat → Bool} (h : ∀ i, f i = g i) (i : Nat) : tr K f i = tr K g i := by
  have : f = g := funext h
  rw [this]

/-- behind the last ball -/
theorem ld_tail {K : Nat} {f : Nat → Bool} {n : Nat} (h : ∀ i, n ≤ i → f i = false) (j : Nat) : ld K f (n + j) = ld K f n - j := by
  induction j with
  | zero => rfl
  | succ j ih => rw [← Nat.add_assoc, ld_succ, h (n + j) (by omega), ih]; simp [nx]; omega
theorem ld_end {K : Nat} {f : Nat → Bool} {n : Nat} (h : ∀ i, n ≤ i → f i = false) (i : Nat) (hi : 2 * n ≤ i) : ld K f i = 0 := by
  have := ld_tail (K := K) h (i - n)
  rw [show n + (i - n) = i by omega] at this
  have := ld_le_i K f n
  omega
theorem tr_end {K : Nat} {f : Nat → Bool} {n : Nat} (h : ∀ i, n ≤ i → f i = false) (i : Nat) (hi : 2 * n ≤ i) : tr K f i = false := by
  unfold tr; rw [h i (by omega), ld_end h i hi]; rfl
theorem tk_tail {K : Nat} {f : Nat → Bool} {n : Nat} (h : ∀ i, n ≤ i → f i = false) (j : Nat) : tk K f (n + j) = tk K f n := by
  induction j with
  | zero => rfl
  | succ j ih =>
    have e : tk K f (n + (j + 1)) = tk K f (n + j) + if f (n + j) && decide (ld K f (n + j) < K) then 1 else 0 := rfl
    rw [e, h (n + j) (by omega), ih]; simp
theorem cn_tail {f : Nat → Bool} {n : Nat} (h : ∀ i, n ≤ i → f i = false) (j : Nat) : cn f (n + j) = cn f n := by
  induction j with
  | zero => rfl
  | succ j ih =>
    have e : cn f (n + (j + 1)) = cn f (n + j) + if f (n + j) then 1 else 0 := rfl
    rw [e, h (n + j) (by omega), ih]; simp

/-- no ball is lost -/
theorem cn_tr (K : Nat) (f : Nat → Bool) (i : Nat) : cn (tr K f) i + ld K f i = cn f i := by
  induction i with
  | zero => rfl
  | succ i ih =>
    show cn (tr K f) i + _ + nx K _ _ = cn f i + _
    have := ld_le K f i
    unfold tr ot nx at *
    cases f i <;> simp <;> (try split) <;> (try split) <;> omega

/-- a box is done back -/
theorem nx_back (K : Nat) (b : Bool) (u : Nat) (h : u ≤ K) : nx K (ot K b u) (nx K b u) = u := by
  unfold nx ot; cases b <;> simp <;> (repeat' split) <;> (try simp at *) <;> omega
theorem ot_back (K : Nat) (b : Bool) (u : Nat) (h : u ≤ K) : ot K (ot K b u) (nx K b u) = b := by
  unfold nx ot; cases b <;> by_cases h0 : 0 < u <;> by_cases h1 : u < K <;> simp [h0, h1] <;> omega
/-- the boxes below n in the opposite order -/
def rv (n : Nat) (g : Nat → Bool) (j : Nat) : Bool := if j < n then g (n - 1 - j) else false
theorem ld_back {K : Nat} {f : Nat → Bool} {n : Nat} (h0 : ld K f n = 0) : ∀ j, j ≤ n → ld K (rv n (tr K f)) j = ld K f (n - j) := by
  intro j
  induction j with
  | zero => intro _; exact h0.symm
  | succ j ih =>
    intro hj
    rw [ld_succ, ih (by omega)]
    have e : n - j = (n - 1 - j) + 1 := by omega
    rw [show n - (j + 1) = n - 1 - j by omega]
    show nx K (rv n (tr K f) j) _ = _
    rw [rv, if_pos (by omega), e, ld_succ]
    exact nx_back K _ _ (ld_le K f _)
theorem tr_back {K : Nat} {f : Nat → Bool} {n : Nat} (h0 : ld K f n = 0) (j : Nat) (hj : j < n) : tr K (rv n (tr K f)) j = f (n - 1 - j) := by
  have h1 := ld_back h0 j (by omega)
  unfold tr at h1 ⊢
  rw [h1, rv, if_pos hj, show n - j = (n - 1 - j) + 1 by omega, ld_succ]
  exact ot_back K _ _ (ld_le K f _)
/-- empty boxes ahead change nothing -/
theorem ld_lead {K : Nat} {f g : Nat → Bool} {d : Nat} (h0 : ∀ i, i < d → g i = false) (h : ∀ i, g (d + i) = f i) (i : Nat) : ld K g (d + i) = ld K f i := by
  induction i with
  | zero =>
    have : ∀ j, j ≤ d → ld K g j = 0 := by
      intro j
      induction j with
      | zero => intro _; rfl
      | succ j ih => intro hj; rw [ld_succ, ih (by omega), h0 j (by omega)]; rfl
    exact this d (Nat.le_refl _)
  | succ i ih => rw [← Nat.add_assoc, ld_succ, ld_succ, ih, h i]
theorem tr_lead {K : Nat} {f g : Nat → Bool} {d : Nat} (h0 : ∀ i, i < d → g i = false) (h : ∀ i, g (d + i) = f i) (i : Nat) : tr K g (d + i) = tr K f i := by
  unfold tr; rw [ld_lead h0 h, h]
theorem tr_lead0 {K : Nat} {g : Nat → Bool} {d : Nat} (h0 : ∀ i, i < d → g i = false) (i : Nat) (hi : i < d) : tr K g i = false := by
  unfold tr
  have := ld_lead (K := K) (d := i) (g := g) (f := fun j => g (i + j)) (fun j hj => h0 j (by omega)) (fun j => rfl) 0
  rw [Nat.add_zero] at this
  rw [this, h0 i hi]; rfl
theorem rv_pad {g : Nat → Bool} {n N : Nat} (hn : n ≤ N) (h : ∀ i, n ≤ i → g i = false) : (∀ i, i < N - n → rv N g i = false) ∧ ∀ i, rv N g (N - n + i) = rv n g i := by
  refine ⟨fun i hi => ?_, fun i => ?_⟩
  · unfold rv; rw [if_pos (by omega)]; exact h _ (by omega)
  · unfold rv
    by_cases hi : i < n
    · rw [if_pos (by omega), if_pos hi, show N - 1 - (N - n + i) = n - 1 - i by omega]
    · rw [if_neg (by omega), if_neg hi]
/-- the load of a carrier that goes back, at box 0; and what it leaves -/
def bkL (K : Nat) (g : Nat → Bool) (n : Nat) : Nat := ld K (rv n g) n
def bkF (K : Nat) (g : Nat → Bool) (n : Nat) : Nat → Bool := rv n (tr K (rv n g))
theorem bkL_pad {K : Nat} {g : Nat → Bool} {n N : Nat} (hn : n ≤ N) (h : ∀ i, n ≤ i → g i = false) : bkL K g N = bkL K g n := by
  obtain ⟨h1, h2⟩ := rv_pad hn h
  have := ld_lead (K := K) h1 h2 n
  rw [show N - n + n = N by omega] at this
  exact this
theorem bkF_pad {K : Nat} {g : Nat → Bool} {n N : Nat} (hn : n ≤ N) (h : ∀ i, n ≤ i → g i = false) (i : Nat) : bkF K g N i = bkF K g n i := by
  obtain ⟨h1, h2⟩ := rv_pad hn h
  unfold bkF
  by_cases hi : i < n
  · have e1 : rv N (tr K (rv N g)) i = tr K (rv N g) (N - 1 - i) := by rw [rv, if_pos (by omega)]
    have e2 : rv n (tr K (rv n g)) i = tr K (rv n g) (n - 1 - i) := by rw [rv, if_pos (by omega)]
    have := tr_lead (K := K) h1 h2 (n - 1 - i)
    rw [show N - n + (n - 1 - i) = N - 1 - i by omega] at this
    rw [e1, e2, this]
  · have e2 : rv n (tr K (rv n g)) i = false := by rw [rv, if_neg hi]
    rw [e2]
    by_cases hi2 : i < N
    · have e1 : rv N (tr K (rv N g)) i = tr K (rv N g) (N - 1 - i) := by rw [rv, if_pos (by omega)]
      rw [e1]; exact tr_lead0 h1 _ (by omega)
    · rw [rv, if_neg hi2]
/-- P10: what a step left leads back -/
theorem back_step {K : Nat} {f : Nat → Bool} {n m : Nat} (hf : ∀ i, n ≤ i → f i = false) (hm : ∀ i, m ≤ i → tr K f i = false) : bkL K (tr K f) m = 0 ∧ ∀ i, bkF K (tr K f) m i = f i := by
  have hN := ld_end (K := K) hf (2 * n + m) (by omega)
  constructor
  · rw [← bkL_pad (N := 2 * n + m) (by omega) hm]
    have := ld_back hN (2 * n + m) (Nat.le_refl _)
    rw [Nat.sub_self] at this
    exact this
  · intro i
    rw [← bkF_pad (N := 2 * n + m) (by omega) hm]
    unfold bkF
    by_cases hi : i < 2 * n + m
    · rw [rv, if_pos hi, tr_back hN _ (by omega), show 2 * n + m - 1 - (2 * n + m - 1 - i) = i by omega]
    · rw [rv, if_neg hi, hf i (by omega)]
/-- P16: back and forward -/
theorem step_back {K : Nat} {g : Nat → Bool} {n : Nat} (hg : ∀ i, n ≤ i → g i = false) (h0 : bkL K g n = 0) (i : Nat) : tr K (bkF K g n) i = g i := by
  unfold bkL at h0
  unfold bkF
  by_cases hi : i < n
  · rw [tr_back h0 i hi, rv, if_pos (by omega), show n - 1 - (n - 1 - i) = i by omega]
  · have h1 := ld_back h0 n (Nat.le_refl _)
    rw [Nat.sub_self, ld_zero] at h1
    have h2 := ld_tail (K := K) (f := rv n (tr K (rv n g))) (n := n) (fun j hj => by rw [rv, if_neg (by omega)]) (i - n)
    rw [h1, show n + (i - n) = i by omega] at h2
    have h3 : ld K (rv n (tr K (rv n g))) i = 0 := by omega
    have h4 : rv n (tr K (rv n g)) i = false := by rw [rv, if_neg hi]
    unfold tr at h3 h4 ⊢
    rw [h3, h4, hg i (by omega)]; rfl

set_option maxHeartbeats 2000000 in
/-- P11, P13: two carriers with rooms K and L, the one behind the other, in both orders: one box -/
theorem two_step (K L u v a b : Nat) (x : Bool) (hK : 1 ≤ K) (hL : 1 ≤ L) (hu : u ≤ K) (hv : v ≤ L) (hb : b + min (K - u) v = v + min u (L - v)) (hab : a + b = u + v) :
    ot L (ot K x u) v = ot K (ot L x b) a ∧
    nx L x b + min (K - nx K x u) (nx L (ot K x u) v) = nx L (ot K x u) v + min (nx K x u) (L - nx L (ot K x u) v) ∧
    nx K (ot L x b) a + nx L x b = nx K x u + nx L (ot K x u) v ∧
    (if x && decide (u < K) then 1 else 0) + min u (L - v) = (if ot L x b && decide (a < K) then 1 else 0) + min (nx K x u) (L - nx L (ot K x u) v) := by
  have ha : a ≤ K := by omega
  have hb2 : b ≤ L := by omega
  cases x
  · by_cases h1 : 0 < u <;> by_cases h2 : 0 < b <;> by_cases h3 : v < L <;> by_cases h4 : a < K <;> by_cases h5 : 0 < v <;> by_cases h6 : 0 < a <;>
      simp only [nx, ot, h1, h2, h3, h4, h5, h6, decide_true, decide_false, if_true, Bool.false_eq_true, if_false, Bool.not_true, Bool.not_false, Bool.false_and, Bool.true_and] <;>
      refine ⟨?_, ?_, ?_, ?_⟩ <;> first | rfl | trivial | (exfalso; omega) | omega
  · by_cases h1 : u < K <;> by_cases h2 : b < L <;> by_cases h3 : v < L <;> by_cases h4 : a < K <;> by_cases h5 : 0 < v <;> by_cases h6 : 0 < a <;>
      simp only [nx, ot, h1, h2, h3, h4, h5, h6, decide_true, decide_false, if_true, Bool.false_eq_true, if_false, Bool.not_true, Bool.not_false, Bool.false_and, Bool.true_and] <;>
      refine ⟨?_, ?_, ?_, ?_⟩ <;> first | rfl | trivial | (exfalso; omega) | omega
theorem two (K L : Nat) (f : Nat → Bool) (hK : 1 ≤ K) (hL : 1 ≤ L) (i : Nat) :
    ld L f i + min (K - ld K f i) (ld L (tr K f) i) = ld L (tr K f) i + min (ld K f i) (L - ld L (tr K f) i) ∧
    ld K (tr L f) i + ld L f i = ld K f i + ld L (tr K f) i ∧
    tk K f i = tk K (tr L f) i + min (ld K f i) (L - ld L (tr K f) i) := by
  induction i with
  | zero => simp [ld, tk]
  | succ i ih =>
    obtain ⟨h1, h2, h3⟩ := ih
    obtain ⟨g1, g2, g3, g4⟩ := two_step K L (ld K f i) (ld L (tr K f) i) (ld K (tr L f) i) (ld L f i) (f i) hK hL (ld_le _ _ _) (ld_le _ _ _) h1 h2
    refine ⟨g2, g3, ?_⟩
    show tk K f i + _ = tk K (tr L f) i + (if tr L f i && decide (ld K (tr L f) i < K) then 1 else 0) + min (nx K (f i) (ld K f i)) (L - nx L (tr K f i) (ld L (tr K f) i))
    have e1 : tr L f i = ot L (f i) (ld L f i) := rfl
    have e2 : tr K f i = ot K (f i) (ld K f i) := rfl
    rw [← e1, ← e2] at g4
    omega
theorem tr_swap (K L : Nat) (f : Nat → Bool) (hK : 1 ≤ K) (hL : 1 ≤ L) (i : Nat) : tr L (tr K f) i = tr K (tr L f) i := by
  obtain ⟨h1, h2, h3⟩ := two K L f hK hL i
  exact (two_step K L (ld K f i) (ld L (tr K f) i) (ld K (tr L f) i) (ld L f i) (f i) hK hL (ld_le _ _ _) (ld_le _ _ _) h1 h2).1
theorem tk_kept (K L : Nat) (f : Nat → Bool) (hK : 1 ≤ K) (hL : 1 ≤ L) (i : Nat) (h : ld K f i = 0) : tk K (tr L f) i = tk K f i := by
  obtain ⟨h1, h2, h3⟩ := two K L f hK hL i
  rw [h] at h3
  omega

/-- P15: three carriers with rooms K, K + 1, K + 2 -/
theorem three (K : Nat) (f : Nat → Bool) (i : Nat) :
    ld K f i ≤ ld (K + 1) f i ∧ ld (K + 1) f i ≤ ld (K + 2) f i ∧ ld (K + 1) f i ≤ ld K f i + 1 ∧ ld (K + 2) f i ≤ ld (K + 1) f i + 1 ∧
    tk (K + 2) f i + tk K f i + (if ld (K + 1) f i = ld K f i + 1 ∧ ld (K + 2) f i = ld (K + 1) f i then 1 else 0) ≤ 2 * tk (K + 1) f i ∧
    tk K f i + (ld (K + 1) f i - ld K f i) ≤ tk (K + 1) f i := by
  induction i with
  | zero => simp [ld, tk]
  | succ i ih =>
    have l0 := ld_le K f i
    have l1 := ld_le (K + 1) f i
    have l2 := ld_le (K + 2) f i
    obtain ⟨h1, h2, h3, h4, h5, h6⟩ := ih
    show nx K _ _ ≤ nx (K + 1) _ _ ∧ nx (K + 1) _ _ ≤ nx (K + 2) _ _ ∧ nx (K + 1) _ _ ≤ nx K _ _ + 1 ∧ nx (K + 2) _ _ ≤ nx (K + 1) _ _ + 1 ∧ tk (K + 2) f i + _ + (tk K f i + _) + (if nx (K + 1) _ _ = nx K _ _ + 1 ∧ nx (K + 2) _ _ = nx (K + 1) _ _ then 1 else 0) ≤ 2 * (tk (K + 1) f i + _) ∧ tk K f i + _ + (nx (K + 1) _ _ - nx K _ _) ≤ tk (K + 1) f i + _
    generalize ld K f i = u at *
    generalize ld (K + 1) f i = v at *
    generalize ld (K + 2) f i = w at *
    generalize tk K f i = p at *
    generalize tk (K + 1) f i = q at *
    generalize tk (K + 2) f i = r at *
    unfold nx
    by_cases c1 : v = u + 1 ∧ w = v
    · rw [if_pos c1] at h5
      cases f i <;> by_cases g0 : u < K <;> by_cases g1 : v < K + 1 <;> by_cases g2 : w < K + 2 <;> simp [g0, g1, g2] <;> (repeat' split) <;> omega
    · rw [if_neg c1] at h5
      cases f i <;> by_cases g0 : u < K <;> by_cases g1 : v < K + 1 <;> by_cases g2 : w < K + 2 <;> simp [g0, g1, g2] <;> (repeat' split) <;> omega
theorem tk_all (K : Nat) (f : Nat → Bool) (i : Nat) (h : i ≤ K) : tk K f i = cn f i := by
  induction i with
  | zero => rfl
  | succ i ih =>
    show tk K f i + _ = cn f i + _
    rw [ih (by omega)]
    have := ld_le_i K f i
    have h2 : decide (ld K f i < K) = true := by simp; omega
    rw [h2, Bool.and_true]
end Go.Proofs.YteibopcneflidabGreatDoor
