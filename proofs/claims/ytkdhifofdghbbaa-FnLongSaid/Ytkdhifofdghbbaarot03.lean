/- TEXTS Pick, DrawR, Col1, ReadRow. -/
import Derived.Test.Ytkdhifofdghbbaarot02
import Derived.Laws.BitsAllLaws
import Derived.Test.Ytkdhifofdghbbaarot01
/- A PICK IS NOT NEGATIVE: the walk of pick once more, with its value's bounds from below. -/
namespace Go.Proofs.Ytkdhifofdghbbaa
open Go.RowKit

/-- what a pick leaves -/
def Picked2 (w : World) (R : Nat) (a : Option Addr) (len cap : Nat) (z : List Int) (p : Nat) (n : Int) (e : Ending) (w' : World) : Prop :=
  ∃ v : Int, e = .returned (.int .i64 v) ∧ 0 ≤ v ∧ v < n ∧ Rd w' R a len cap z (p + 1) ∧ Below R w w' ∧ w'.heap.size = w.heap.size ∧ w.grownBy w' (some R)

theorem picked2_next {w : World} {R : Nat} {a : Option Addr} {len cap : Nat} {z : List Int} {p : Nat} {n v : Int} (h : Rd w R a len cap z p) (h1 : 0 ≤ v) (h2 : v < n) (k : Nat) :
    Picked2 w R a len cap z p n (.returned (.int .i64 v)) ((w.setCell ⟨R, 1, none⟩ (.int .i64 ((p : Int) + 1))).drewN k) := by
  have e : ((p : Int) + 1) = ((p + 1 : Nat) : Int) := by omega
  rw [e]
  refine ⟨v, rfl, h1, h2, h.next.below ((Quiet.drewN k).2 (R + 1)) (Nat.lt_succ_self R), ?_, ?_, ?_⟩
  · exact ((Below.refl R w).setCell (Nat.le_refl _) _).trans ((Quiet.drewN k).2 R)
  · show (World.setCell _ _ _).heap.size = _; simp [World.setCell]
  · exact ⟨rfl, rfl, rfl, by show w.heap.size ≤ (World.setCell _ _ _).heap.size; simp [World.setCell], fun j _ hj => heap_setCell_other w ⟨R, 1, none⟩ j _ (fun e => hj (by simp [e]))⟩

theorem CellsAt.grown {w w' : World} {g R : Nat} {l : List Value} (h : CellsAt w g l) (hg : w.grownBy w' (some R)) (hne : g ≠ R) : CellsAt w' g l := by
  intro j v hv
  obtain ⟨a, b⟩ := h j v hv
  have hb := hg.block g (World.block_lt_of_cell? w _ a) (by intro e; injection e with e; exact hne e)
  exact ⟨(World.cell?_of_block (a := ⟨g, j, none⟩) hb).trans a, (World.frozen?_of_block (a := ⟨g, j, none⟩) hb).trans b⟩
theorem i64_xor_nat (a b : Nat) (ha : a < 9223372036854775808) (hb : b < 9223372036854775808) : Go.bits .xor .i64 (a : Int) (b : Int) = ((a ^^^ b : Nat) : Int) := by
  have hx : a ^^^ b < 2 ^ 63 := Nat.xor_lt_two_pow (by omega) (by omega)
  show IntKind.i64.wrap ((BitVec.ofInt 64 (a : Int) ^^^ BitVec.ofInt 64 (b : Int)).toNat : Int) = _
  rw [BitVec.toNat_xor, ofInt_u64 a (by omega), ofInt_u64 b (by omega), IntKind.wrap_i64]
  omega
theorem pick_nonneg (y1 y2 P D n : Int) (h1 : 0 ≤ y1 ∧ y1 ≤ 255) (h2 : 0 ≤ y2 ∧ y2 ≤ 255) (h3 : 0 ≤ P ∧ P ≤ 100000) (h4 : 0 ≤ D ∧ D ≤ 100000) (hn : 1 ≤ n) (X : Int)
    (hX : X = wrap64 (wrap64 (wrap64 (wrap64 (wrap64 y1 * 131) + wrap64 (wrap64 y2 * 1117)) + P * 29) + wrap64 (wrap64 D * 53))) :
    0 ≤ (Go.bits BinOp.xor IntKind.i64 X (wrap64 (X.tdiv 64))).tmod n ∧ (Go.bits BinOp.xor IntKind.i64 X (wrap64 (X.tdiv 64))).tmod n < n := by
  have e1 : wrap64 y1 = y1 := IntWalk.wrap64_in _ (by omega)
  have e2 : wrap64 y2 = y2 := IntWalk.wrap64_in _ (by omega)
  have e3 : wrap64 (y1 * 131) = y1 * 131 := IntWalk.wrap64_in _ (by omega)
  have e4 : wrap64 (y2 * 1117) = y2 * 1117 := IntWalk.wrap64_in _ (by omega)
  have e5 : wrap64 (y1 * 131 + y2 * 1117) = y1 * 131 + y2 * 1117 := IntWalk.wrap64_in _ (by omega)
  have e6 : wrap64 (y1 * 131 + y2 * 1117 + P * 29) = y1 * 131 + y2 * 1117 + P * 29 := IntWalk.wrap64_in _ (by omega)
  have e7 : wrap64 D = D := IntWalk.wrap64_in _ (by omega)
  have e8 : wrap64 (D * 53) = D * 53 := IntWalk.wrap64_in _ (by omega)
  have e9 : wrap64 (y1 * 131 + y2 * 1117 + P * 29 + D * 53) = y1 * 131 + y2 * 1117 + P * 29 + D * 53 := IntWalk.wrap64_in _ (by omega)
  rw [e1, e2, e3, e4, e5, e6, e7, e8, e9] at hX
  have hx0 : 0 ≤ X := by omega
  have hx1 : X ≤ 100000000 := by omega
  obtain ⟨x, rfl⟩ := Int.eq_ofNat_of_zero_le hx0
  have e10 : (x : Int).tdiv 64 = ((x / 64 : Nat) : Int) := rfl
  rw [e10, IntWalk.wrap64_in _ (by omega), i64_xor_nat x (x / 64) (by omega) (by omega)]
  exact ⟨Int.tmod_nonneg _ (by omega), Int.tmod_lt_of_pos _ (by omega)⟩

set_option maxHeartbeats 1000000 in
theorem pick2_any (w : World) (R : Nat) (a : Option Addr) (len cap : Nat) (z : List Int) (p : Nat) (n : Int) (hrd : Rd w R a len cap z p) (hp : p ≤ 100000) (hn1 : 1 ≤ n) (hn2 : n ≤ 1000) :
    Calls Try.prog 48 #[.pointer (some ⟨R, 0, none⟩), .int .i64 n] w (Picked2 w R a len cap z p n) := by
  have hc0 := hrd.c0
  have hc1 := hrd.c1
  have hf1 := hrd.f1
  have hlen := hrd.len_le
  by_cases h0 : len = 0
  · subst h0
    have HR := hide hrd
    clear hrd
    go_enter Try.func48, Try.ntmps48
    go_wp2
    go_ret
    exact picked2_next HR.out (by omega) (by omega) 0
  · obtain ⟨b, off, rfl, hbR, hby⟩ := hrd.bytes (by omega)
    have HR := hide hrd
    have HB := hide hby
    clear hrd hby
    have l0 : ((len : Int) == 0) = false := beq_eq_false_iff_ne.2 (by omega)
    by_cases hpl : p < len
    · obtain ⟨hcell, hz0, hz1⟩ := HB.out p hpl
      obtain ⟨y, hy⟩ : ∃ y, y = z.getD p 0 := ⟨_, rfl⟩
      rw [← hy] at hcell hz0 hz1
      clear hy
      go_enter Try.func48, Try.ntmps48
      go_wp2
      go_ret
      have h1 := Int.emod_nonneg y (show n ≠ 0 by omega)
      have h2 := Int.emod_lt_of_pos y (show 0 < n by omega)
      exact picked2_next HR.out h1 h2 0
    · obtain ⟨i1, hi1⟩ : ∃ i, i = p % len := ⟨_, rfl⟩
      obtain ⟨i2, hi2⟩ : ∃ i, i = (p * 7 + 3) % len := ⟨_, rfl⟩
      have b1 : i1 < len := by rw [hi1]; exact Nat.mod_lt _ (by omega)
      have b2 : i2 < len := by rw [hi2]; exact Nat.mod_lt _ (by omega)
      have hcell1 := (HB.out i1 b1).1
      have hcell2 := (HB.out i2 b2).1
      have yb1 := hide (HB.out i1 b1).2
      have yb2 := hide (HB.out i2 b2).2
      obtain ⟨y1, hy1⟩ : ∃ y, y = z.getD i1 0 := ⟨_, rfl⟩
      obtain ⟨y2, hy2⟩ : ∃ y, y = z.getD i2 0 := ⟨_, rfl⟩
      rw [← hy1] at hcell1 yb1
      rw [← hy2] at hcell2 yb2
      have hd := hide (show 0 ≤ (p : Int) / (len : Int) ∧ (p : Int) / (len : Int) ≤ 100000 from ⟨Int.ediv_nonneg (by omega) (by omega), Int.le_trans (Int.ediv_le_self _ (by omega)) (by omega)⟩)
      have e1 : Int.tmod (p : Int) (len : Int) = (i1 : Int) := by rw [hi1]; rfl
      have e2 : Int.tmod ((p : Int) * 7 + 3) (len : Int) = (i2 : Int) := by
        rw [hi2, show ((p : Int) * 7 + 3) = ((p * 7 + 3 : Nat) : Int) by omega]; rfl
      have w1 : IntKind.i64.wrap ((p : Int) * 7) = (p : Int) * 7 := IntWalk.i64_in _ (by omega)
      have w2 : IntKind.i64.wrap ((p : Int) * 7 + 3) = (p : Int) * 7 + 3 := IntWalk.i64_in _ (by omega)
      have n1 : (0 : Int) ≤ (i1 : Int) := by omega
      have n2 : (0 : Int) ≤ (i2 : Int) := by omega
      have m1 : (i1 : Int) < (len : Int) := by omega
      have m2 : (i2 : Int) < (len : Int) := by omega
      clear hi1 hi2 hy1 hy2 b1 b2
      go_enter Try.func48, Try.ntmps48
      go_wp2
      go_quiet (fail)
      go_wp2
      go_ret
      have hf := pick_nonneg y1 y2 (p : Int) ((p : Int) / (len : Int)) n yb1.out yb2.out (by omega) hd.out hn1 _ rfl
      exact picked2_next HR.out hf.1 hf.2 _

end Go.Proofs.Ytkdhifofdghbbaa

/- THE WALK of the drawing of a room. -/
namespace Go.Proofs.Ytkdhifofdghbbaa
open Go.RowKit

theorem Bytes.below {w w' : World} {a : Option Addr} {len : Nat} {z : List Int} (h : Bytes w a len z) (hb : Below w.heap.size w w') : Bytes w' a len z := by
  intro h0
  obtain ⟨b, off, h1, h2, h3⟩ := h h0
  exact ⟨b, off, h1, Nat.lt_of_lt_of_le h2 hb.size, fun j hj => ⟨(hb.cell (p := ⟨b, off + j, none⟩) h2).trans (h3 j hj).1, (h3 j hj).2⟩⟩

/-- what the drawing of a room leaves -/
def DrawnRoom (w : World) (R : Nat) (a : Option Addr) (len cap : Nat) (z : List Int) (p : Nat) (e : Ending) (w' : World) : Prop :=
  ∃ (v : Int) (q : Nat), e = .returned (.int .i64 v) ∧ -1 ≤ v ∧ v ≤ 201 ∧ q ≤ p + 2 ∧ Rd w' R a len cap z q ∧ Below R w w' ∧ w.grownBy w' (some R)

theorem grown_cell {w w' : World} {R g j : Nat} {v : Value} (hg : w.grownBy w' (some R)) (hne : g ≠ R) (h : w.cell? ⟨g, j, none⟩ = some v) : w'.cell? ⟨g, j, none⟩ = some v :=
  (World.cell?_of_block (a := ⟨g, j, none⟩) (hg.block g (World.block_lt_of_cell? w _ h) (by intro e; injection e with e; exact hne e))).trans h
theorem lit3 (w : World) (t : TypeId) (p : Nat) (h : p < 3) : ∃ x : Int, -1 ≤ x ∧ x ≤ 201 ∧ (w.alloc (.cells #[.int .i64 0, .int .i64 201, .int .i64 (-1)] t)).cell? ⟨w.heap.size, p, none⟩ = some (.int .i64 x) := by
  rcases (show p = 0 ∨ p = 1 ∨ p = 2 by omega) with rfl | rfl | rfl
  · exact ⟨0, by omega, by omega, by rw [World.cell?_alloc_at _ _ _ _ rfl]; rfl⟩
  · exact ⟨201, by omega, by omega, by rw [World.cell?_alloc_at _ _ _ _ rfl]; rfl⟩
  · exact ⟨-1, by omega, by omega, by rw [World.cell?_alloc_at _ _ _ _ rfl]; rfl⟩
theorem lit6 (w : World) (t : TypeId) (p : Nat) (h : p < 6) : ∃ x : Int, -1 ≤ x ∧ x ≤ 201 ∧ (w.alloc (.cells #[.int .i64 1, .int .i64 2, .int .i64 3, .int .i64 4, .int .i64 5, .int .i64 200] t)).cell? ⟨w.heap.size, p, none⟩ = some (.int .i64 x) := by
  rcases (show p = 0 ∨ p = 1 ∨ p = 2 ∨ p = 3 ∨ p = 4 ∨ p = 5 by omega) with rfl | rfl | rfl | rfl | rfl | rfl
  · exact ⟨1, by omega, by omega, by rw [World.cell?_alloc_at _ _ _ _ rfl]; rfl⟩
  · exact ⟨2, by omega, by omega, by rw [World.cell?_alloc_at _ _ _ _ rfl]; rfl⟩
  · exact ⟨3, by omega, by omega, by rw [World.cell?_alloc_at _ _ _ _ rfl]; rfl⟩
  · exact ⟨4, by omega, by omega, by rw [World.cell?_alloc_at _ _ _ _ rfl]; rfl⟩
  · exact ⟨5, by omega, by omega, by rw [World.cell?_alloc_at _ _ _ _ rfl]; rfl⟩
  · exact ⟨200, by omega, by omega, by rw [World.cell?_alloc_at _ _ _ _ rfl]; rfl⟩

end Go.Proofs.Ytkdhifofdghbbaa

/- MOVES OF A COLOUR: a carrier with room for all balls of one colour; balls of other colours stand in its way for nobody. Pure: nothing of the program is named here. -/
namespace Go.Proofs.Ytkdhifofdghbbaa
open Go.RowKit

/-- a box and a load: what is left in the box, and the load behind it -/
def cg (c x : UInt8) (u : Nat) : UInt8 × Nat := if x = c then (48, u + 1) else if x = 48 ∧ 0 < u then (c, u - 1) else (x, u)
def cMv (c : UInt8) : List UInt8 → Nat → List UInt8
  | [], _ => []
  | x :: l, u => (cg c x u).1 :: cMv c l (cg c x u).2
def cLd (c : UInt8) : List UInt8 → Nat → Nat
  | [], u => u
  | x :: l, u => cLd c l (cg c x u).2
theorem cMv_length (c : UInt8) : ∀ (l : List UInt8) (u : Nat), (cMv c l u).length = l.length
  | [], _ => rfl
  | x :: l, u => by show (cMv c l _).length + 1 = l.length + 1; rw [cMv_length c l]
theorem cMv_append (c : UInt8) : ∀ (l m : List UInt8) (u : Nat), cMv c (l ++ m) u = cMv c l u ++ cMv c m (cLd c l u)
  | [], _, _ => rfl
  | x :: l, m, u => by show _ :: cMv c (l ++ m) _ = _ :: (cMv c l _ ++ cMv c m _); rw [cMv_append c l m]; rfl
theorem cLd_append (c : UInt8) : ∀ (l m : List UInt8) (u : Nat), cLd c (l ++ m) u = cLd c m (cLd c l u)
  | [], _, _ => rfl
  | _ :: l, m, _ => cLd_append c l m _
theorem cg_back {c : UInt8} (hc : c ≠ 48) (x : UInt8) (u : Nat) : cg c (cg c x u).1 (cg c x u).2 = (x, u) := by
  unfold cg
  by_cases h1 : x = c
  · subst h1
    have : ¬ (48 : UInt8) = x := fun h => hc h.symm
    simp [this]
  · by_cases h2 : x = 48 ∧ 0 < u
    · obtain ⟨rfl, h3⟩ := h2
      simp [h1, h3]
      omega
    · simp only [h1, if_false, h2]
/-- a move is done back by a move from the other end -/
theorem cBack {c : UInt8} (hc : c ≠ 48) : ∀ (l : List UInt8) (u : Nat), cMv c (cMv c l u).reverse (cLd c l u) = l.reverse ∧ cLd c (cMv c l u).reverse (cLd c l u) = u
  | [], _ => ⟨rfl, rfl⟩
  | x :: l, u => by
    obtain ⟨h1, h2⟩ := cBack hc l (cg c x u).2
    have hb := cg_back hc x u
    have e1 : cMv c (x :: l) u = (cg c x u).1 :: cMv c l (cg c x u).2 := rfl
    have e2 : cLd c (x :: l) u = cLd c l (cg c x u).2 := rfl
    rw [e1, e2, List.reverse_cons, cMv_append, cLd_append, h1, h2, List.reverse_cons]
    refine ⟨?_, ?_⟩
    · show l.reverse ++ [(cg c (cg c x u).1 (cg c x u).2).1] = _
      rw [hb]
    · show (cg c (cg c x u).1 (cg c x u).2).2 = u
      rw [hb]
/-- empty boxes -/
def zs (l : List UInt8) : Nat := l.count 48
theorem zs_cons (x : UInt8) (l : List UInt8) : zs (x :: l) = zs l + if x = 48 then 1 else 0 := by
  unfold zs
  rw [List.count_cons]
  simp
theorem zs_nil : zs [] = 0 := rfl
theorem cLd_le (c : UInt8) : ∀ (l : List UInt8) (u : Nat), cLd c l u ≤ u + l.length
  | [], _ => Nat.le_refl _
  | x :: l, u => by
    have := cLd_le c l (cg c x u).2
    have h : (cg c x u).2 ≤ u + 1 := by unfold cg; split <;> (try split) <;> simp <;> omega
    show cLd c l _ ≤ u + (l.length + 1)
    omega
theorem cLd_ge {c : UInt8} (hc : c ≠ 48) : ∀ (l : List UInt8) (u : Nat), u ≤ cLd c l u + zs l
  | [], _ => Nat.le_add_right ..
  | x :: l, u => by
    have := cLd_ge hc l (cg c x u).2
    have h : u ≤ (cg c x u).2 + if x = 48 then 1 else 0 := by
      unfold cg
      by_cases h1 : x = c
      · subst h1; simp [hc]
      · by_cases h2 : x = 48 ∧ 0 < u
        · obtain ⟨rfl, h3⟩ := h2; simp [h1, h3]; omega
        · simp only [h1, if_false, h2]; omega
    rw [zs_cons]
    show u ≤ cLd c l _ + (zs l + _)
    omega
/-- the first u empty boxes filled -/
def fz (c : UInt8) : Nat → List UInt8 → List UInt8
  | _, [] => []
  | u, x :: l => if x = 48 ∧ 0 < u then c :: fz c (u - 1) l else x :: fz c u l
theorem fz_pos {c x : UInt8} {u : Nat} {l : List UInt8} (h : x = 48 ∧ 0 < u) : fz c u (x :: l) = c :: fz c (u - 1) l := by rw [fz, if_pos h]
theorem fz_neg {c x : UInt8} {u : Nat} {l : List UInt8} (h : ¬ (x = 48 ∧ 0 < u)) : fz c u (x :: l) = x :: fz c u l := by rw [fz, if_neg h]
theorem fz_length (c : UInt8) : ∀ (u : Nat) (l : List UInt8), (fz c u l).length = l.length
  | _, [] => rfl
  | u, x :: l => by unfold fz; split <;> simp [fz_length c]
theorem fz_zero (c : UInt8) : ∀ l : List UInt8, fz c 0 l = l
  | [] => rfl
  | x :: l => by unfold fz; simp [fz_zero c l]
theorem fz_empty {c : UInt8} (hc : c ≠ 48) : ∀ (u : Nat) (l : List UInt8) (j : Nat), (fz c u l)[j]? = some 48 → l[j]? = some 48
  | _, [], j, h => by simp [fz] at h
  | u, x :: l, 0, h => by
    unfold fz at h
    split at h
    · simp at h; exact absurd h hc
    · simpa using h
  | u, x :: l, j + 1, h => by
    unfold fz at h
    split at h <;> exact fz_empty hc _ l j (by simpa using h)
theorem fz_other {c : UInt8} : ∀ (u : Nat) (l : List UInt8) (j : Nat) (x : UInt8), l[j]? = some x → x ≠ 48 → (fz c u l)[j]? = some x
  | _, [], j, x, h, _ => by simp at h
  | u, y :: l, 0, x, h, hx => by
    have e : y = x := by simpa using h
    subst e
    unfold fz
    simp [hx]
  | u, y :: l, j + 1, x, h, hx => by
    unfold fz
    split <;> simpa using fz_other _ l j x (by simpa using h) hx
theorem fz_find {c : UInt8} : ∀ (u : Nat) (l : List UInt8), u < zs l → ∃ k, k < l.length ∧ (fz c u l)[k]? = some 48
  | u, [], h => by rw [zs_nil] at h; omega
  | u, x :: l, h => by
    rw [zs_cons] at h
    unfold fz
    by_cases h1 : x = 48
    · subst h1
      by_cases h2 : 0 < u
      · obtain ⟨k, hk, e⟩ := fz_find (c := c) (u - 1) l (by simp at h; omega)
        exact ⟨k + 1, by simp; omega, by simp [h2, e]⟩
      · exact ⟨0, by simp, by simp [h2]⟩
    · obtain ⟨k, hk, e⟩ := fz_find (c := c) u l (by simp [h1] at h; omega)
      exact ⟨k + 1, by simp; omega, by simp [h1, e]⟩
theorem fz_none {c : UInt8} (hc : c ≠ 48) : ∀ (u : Nat) (l : List UInt8), zs l ≤ u → ∀ j : Nat, (fz c u l)[j]? ≠ some 48
  | _, [], _, j => by simp [fz]
  | u, x :: l, h, j => by
    rw [zs_cons] at h
    unfold fz
    by_cases h1 : x = 48
    · subst h1
      have h2 : 0 < u := by simp at h; omega
      have := fz_none hc (u - 1) l (by simp at h; omega)
      cases j with
      | zero => simp [h2, hc]
      | succ j => simpa [h2] using this j
    · have := fz_none hc u l (by simp [h1] at h; omega)
      cases j with
      | zero => simp [h1]
      | succ j => simpa [h1] using this j
/-- one box more is filled: the first one that is empty still -/
theorem fz_more {c : UInt8} (hc : c ≠ 48) : ∀ (u : Nat) (l : List UInt8) (k : Nat), (fz c u l)[k]? = some 48 → (∀ j, j < k → (fz c u l)[j]? ≠ some 48) → fz c (u + 1) l = (fz c u l).set k c
  | _, [], k, h, _ => by simp [fz] at h
  | u, x :: l, k, h, hb => by
    unfold fz at h hb ⊢
    by_cases h1 : x = 48
    · subst h1
      by_cases h2 : 0 < u
      · simp only [h2, and_self, if_true, true_and] at h hb ⊢
        cases k with
        | zero => simp at h; exact absurd h hc
        | succ k =>
          have ih := fz_more hc (u - 1) l k (by simpa using h) (fun j hj => by simpa using hb (j + 1) (by omega))
          have e : u + 1 - 1 = u - 1 + 1 := by omega
          simp [e, ih]
      · have hu : u = 0 := by omega
        subst hu
        cases k with
        | zero => simp
        | succ k => exact absurd (hb 0 (by omega)) (by simp)
    · simp only [h1, false_and, if_false] at h hb ⊢
      cases k with
      | zero => simp at h; exact absurd h h1
      | succ k =>
        have ih := fz_more hc u l k (by simpa using h) (fun j hj => by simpa using hb (j + 1) (by omega))
        simp [ih]
/-- the boxes when the balls ahead of an index have moved -/
def cAt (c : UInt8) (l : List UInt8) (i : Nat) : List UInt8 := cMv c (l.take i) 0 ++ fz c (cLd c (l.take i) 0) (l.drop i)
theorem cAt_zero (c : UInt8) (l : List UInt8) : cAt c l 0 = l := by unfold cAt; simp [cMv, cLd, fz_zero]
theorem cAt_all (c : UInt8) (l : List UInt8) : cAt c l l.length = cMv c l 0 := by unfold cAt; simp [fz]
theorem cAt_length (c : UInt8) (l : List UInt8) (i : Nat) : (cAt c l i).length = l.length := by
  unfold cAt
  rw [List.length_append, cMv_length, fz_length, ← List.length_append, List.take_append_drop]
theorem take_one {l : List UInt8} {i : Nat} {x : UInt8} (h : l[i]? = some x) : l.take (i + 1) = l.take i ++ [x] ∧ l.drop i = x :: l.drop (i + 1) := by
  obtain ⟨hi, e⟩ := List.getElem?_eq_some_iff.1 h
  exact ⟨by rw [List.take_succ_eq_append_getElem hi, e], by rw [List.drop_eq_getElem_cons hi, e]⟩
theorem cAt_other {c : UInt8} {l : List UInt8} {i : Nat} {x : UInt8} (h : l[i]? = some x) (hx : x ≠ c) : cAt c l (i + 1) = cAt c l i := by
  obtain ⟨h1, h2⟩ := take_one h
  unfold cAt
  rw [h1, h2, cMv_append, cLd_append, List.append_assoc]
  congr 1
  show (cg c x _).1 :: fz c (cg c x _).2 _ = fz c _ (x :: _)
  by_cases h3 : x = 48 ∧ 0 < cLd c (l.take i) 0
  · rw [fz_pos h3]
    unfold cg
    rw [if_neg hx, if_pos h3]
  · rw [fz_neg h3]
    unfold cg
    rw [if_neg hx, if_neg h3]
/-- what stands behind the ball at an index -/
theorem cAt_behind {c : UInt8} {l : List UInt8} {i : Nat} (h : l[i]? = some c) (hc : c ≠ 48) (k : Nat) : (cAt c l i)[i + 1 + k]? = (fz c (cLd c (l.take i) 0) (l.drop (i + 1)))[k]? := by
  obtain ⟨h1, h2⟩ := take_one h
  obtain ⟨hi, _⟩ := List.getElem?_eq_some_iff.1 h
  unfold cAt
  rw [h2]
  have e : fz c (cLd c (l.take i) 0) (c :: l.drop (i + 1)) = c :: fz c (cLd c (l.take i) 0) (l.drop (i + 1)) := by
    rw [fz]; simp [hc]
  rw [e, List.getElem?_append_right (by rw [cMv_length, List.length_take]; omega), cMv_length, List.length_take, Nat.min_eq_left (by omega), show i + 1 + k - i = k + 1 by omega]
  simp
theorem set_behind (A B : List UInt8) (y v : UInt8) (k : Nat) : (A ++ y :: B).set (A.length + 1 + k) v = A ++ y :: B.set k v := by
  induction A with
  | nil =>
    show (y :: B).set (0 + 1 + k) v = _
    rw [show 0 + 1 + k = k + 1 by omega]
    rfl
  | cons a A ih =>
    rw [show (a :: A).length + 1 + k = (A.length + 1 + k) + 1 by simp; omega]
    show a :: (A ++ y :: B).set (A.length + 1 + k) v = _
    rw [ih]
    rfl
theorem set_at (A B : List UInt8) (y v : UInt8) : (A ++ y :: B).set A.length v = A ++ v :: B := by
  induction A with
  | nil => rfl
  | cons a A ih =>
    show a :: (A ++ y :: B).set A.length v = _
    rw [ih]
    rfl
theorem cAt_ball {c : UInt8} {l : List UInt8} {i k : Nat} (hc : c ≠ 48) (h : l[i]? = some c) (hk : (cAt c l i)[i + 1 + k]? = some 48) (hb : ∀ j, j < k → (cAt c l i)[i + 1 + j]? ≠ some 48) :
    cAt c l (i + 1) = ((cAt c l i).set (i + 1 + k) c).set i 48 := by
  obtain ⟨h1, h2⟩ := take_one h
  obtain ⟨hi, _⟩ := List.getElem?_eq_some_iff.1 h
  rw [cAt_behind h hc] at hk
  have hm := fz_more hc (cLd c (l.take i) 0) (l.drop (i + 1)) k hk (fun j hj => by rw [← cAt_behind h hc]; exact hb j hj)
  have hll : (cMv c (l.take i) 0).length = i := by rw [cMv_length, List.length_take]; omega
  have e : fz c (cLd c (l.take i) 0) (c :: l.drop (i + 1)) = c :: fz c (cLd c (l.take i) 0) (l.drop (i + 1)) := by
    rw [fz]; simp [hc]
  unfold cAt
  rw [h1, cMv_append, cLd_append, h2, e, List.append_assoc]
  have e2 : cMv c [c] (cLd c (l.take i) 0) = [48] := by simp [cMv, cg]
  have e3 : cLd c [c] (cLd c (l.take i) 0) = cLd c (l.take i) 0 + 1 := by simp [cLd, cg]
  rw [e2, e3, hm]
  generalize cMv c (l.take i) 0 = A at hll ⊢
  generalize fz c (cLd c (l.take i) 0) (l.drop (i + 1)) = B
  subst hll
  rw [set_behind, set_at]
  rfl
end Go.Proofs.Ytkdhifofdghbbaa

/- THE WALKS of readRow and of its method tidy. -/
namespace Go.Proofs.Ytkdhifofdghbbaa
open Go.RowKit

theorem ret_slice {a : Option Addr} {n m c : Nat} (h : n = m) : Ending.returned (.slice a n c) = .returned (.slice a m c) := by rw [h]

set_option maxHeartbeats 400000 in
theorem tidy_g (x : Option Addr) (g n cap : Nat) (l : List Bool) (w : World) (hx : 0 < n → x = some ⟨g, 0, none⟩) (hl : l.length = n) (hc : CellsAt w g (l.map .bool)) (hn : n ≤ cap) (hm : cap ≤ maxLen) :
    Calls Try.prog 60 #[.slice x n cap] w fun e w' => e = .returned (.slice x (tl l) cap) ∧ w = w' := by
  unfold maxLen at hm
  have HL := hide hl
  have HC := hide hc
  clear hl hc
  go_enter Try.func60, Try.ntmps60
  go_wp2
  go_loop [3] (fun i => ∃ k : Nat, k ≤ n ∧ i = .int .i64 k ∧ Hid (tl (l.take k) = tl l)) (fun i => (Go.RowKit.intOf i).toNat)
  case atStart => exact ⟨n, Nat.le_refl _, rfl, by rw [List.take_of_length_le (by rw [HL.out]; exact Nat.le_refl _)]; rfl⟩
  case round =>
    obtain ⟨k, hk, rfl, HT⟩ := hrel
    by_cases hk0 : k = 0
    · subst hk0
      go_wp2
      go_ret
      exact ⟨ret_slice (by rw [← HT.out]; rfl), rfl⟩
    · obtain ⟨j, rfl⟩ : ∃ j, k = j + 1 := ⟨k - 1, by omega⟩
      have hj : j < l.length := by rw [HL.out]; omega
      obtain rfl := hx (by omega)
      cases hb : l[j]? with
      | none => rw [List.getElem?_eq_none_iff] at hb; omega
      | some b =>
        have hcell : w.cell? ⟨g, j, none⟩ = some (.bool b) := (HC.out j (.bool b) (by simp [hb])).1
        have HB := hide hb
        have HJ := hide hj
        clear hb hj
        cases b
        · go_wp2
          go_round
          case rel => exact ⟨j, by omega, rfl, (tl_take_pred l j HJ.out HB.out).symm.trans HT.out⟩
          case measure => simp [Go.RowKit.intOf]
        · go_wp2
          go_ret
          exact ⟨ret_slice (by rw [← HT.out, tl_take_stop l j HJ.out HB.out]), rfl⟩

theorem tidy_any (g n cap : Nat) (l : List Bool) (w : World) (hl : l.length = n) (hc : CellsAt w g (l.map .bool)) (hn : n ≤ cap) (hm : cap ≤ maxLen) :
    Calls Try.prog 60 #[.slice (some ⟨g, 0, none⟩) n cap] w fun e w' => e = .returned (.slice (some ⟨g, 0, none⟩) (tl l) cap) ∧ w = w' :=
  tidy_g _ g n cap l w (fun _ => rfl) hl hc hn hm

theorem infoB : (Try.prog.info? 4).map (fun i => (i.zero, i.size, i.bytes)) = some (some (.bool false), 1, 1) := by kernel_rfl

theorem vld_len (s : ByteArray) (h : vld s = true) : s.size ≤ 120 := by
  unfold vld at h; simp at h; exact h.2

set_option maxHeartbeats 400000 in
theorem readRow_no (s : ByteArray) (w : World) (hs : s.size ≤ maxLen) (hv : vld s = false) :
    Calls Try.prog 41 #[.string s] w fun e w' => e = .returned (.tuple #[.slice none 0 0, .bool false]) ∧ w = w' := by
  go_enter Try.func41, Try.ntmps41
  go_wp2_with (go_at_call 33; refine (implRowValid_any _ _ hs).mono ?_; rintro e w' ⟨rfl, rfl⟩)
  go_ret2
  exact ⟨rfl, rfl⟩

set_option maxHeartbeats 400000 in
theorem readRow_yes (s : ByteArray) (w : World) (hv : vld s = true) :
    Calls Try.prog 41 #[.string s] w fun e w' => e = .returned (.tuple #[.slice (some ⟨w.heap.size, 0, none⟩) (tl (bits s)) s.size, .bool true]) ∧
      Below w.heap.size w w' ∧ CellsAt w' w.heap.size ((bits s).map .bool) ∧ w.heap.size < w'.heap.size := by
  have h120 := vld_len s hv
  have hs : s.size ≤ maxLen := by unfold maxLen; omega
  obtain ⟨i0, hi, hz0, hz1, hz2⟩ := info_parts infoB
  go_enter Try.func41, Try.ntmps41
  go_wp2_with (first | (go_at_call 33; refine (implRowValid_any _ _ hs).mono ?_; rintro e w' ⟨rfl, rfl⟩) | (at_make; refine wpList_make_full _ rfl _ _ 47 rfl w.heap.size 4 i0 (.bool false) 1 Try.underlying47 hi hz0 hz1 _ _ _ _ s.size rfl rfl rfl rfl ?b2 ?b3 ?b4 ?_; rotate_right; intro w1 hown hgrow))
  case b2 => rw [hz2]; omega
  case b3 => exact hs
  case b4 => exact Nat.le_refl _
  rw [madeB] at hown
  have hb1 : Below w.heap.size w w1 := (Below.refl _ _).grown hgrow (Nat.le_refl _) (fun k e => by cases e)
  have hz : w.heap.size < w1.heap.size := (hown.lt _ rfl).2
  have hc1 := CellsAt.of_owns hown
  clear hown hgrow
  obtain ⟨g, hg⟩ : ∃ g, w.heap.size = g := ⟨_, rfl⟩
  rw [hg] at hb1 hz hc1 ⊢
  have HG := hide hg
  clear hg
  go_loopw [14] (fun i wr => ∃ k : Nat, k ≤ s.size ∧ i = .int .i64 k ∧ Below g w wr ∧ g < wr.heap.size ∧ ∃ xs : List Bool, Hid (xs.length = s.size) ∧ Hid (xs.take k = (bits s).take k) ∧ CellsAt wr g (xs.map .bool)) (fun i _ => s.size - (Go.RowKit.intOf i).toNat)
  case atStart => exact ⟨0, Nat.zero_le _, rfl, hb1, hz, List.replicate s.size false, by simp [Hid], rfl, hc1⟩
  case round =>
    obtain ⟨k, hk, rfl, hbr, hzr, xs, HX, HT, hcr⟩ := hrel
    have HC := hide hcr
    clear hcr hc1 hb1 hz
    by_cases hlt : k < s.size
    · obtain ⟨x, hx⟩ : ∃ x, xs[k]? = some x := ⟨_, List.getElem?_eq_getElem (by rw [HX.out]; omega)⟩
      obtain ⟨hcell, hfr⟩ := HC.out k (.bool x) (by simp [hx])
      have HE := hide hx
      clear hx
      go_wp2
      go_roundw
      case rel =>
        refine ⟨k + 1, by omega, by go_num, hbr.setCell (Nat.le_refl _) _, by simpa [World.setCell] using hzr, xs.set k (s[k] == 49), by simp [Hid, HX.out], ?_, ?_⟩
        · exact bits_step s xs k hlt HX.out HT.out
        · have := HC.out.set k (by simp [HX.out, hlt]) (.bool (s[k] == 49))
          rw [← bit_int, List.map_set]; exact this
      case measure => simp [Go.RowKit.intOf]; omega
    · have hxs : xs = bits s := by
        have := HT.out
        rw [List.take_of_length_le (by rw [HX.out]; omega), List.take_of_length_le (by rw [length_bits]; omega)] at this
        exact this
      subst hxs
      go_wp2_with (go_at_call 60; refine (tidy_any _ _ _ _ _ HX.out HC.out (Nat.le_refl _) hs).mono ?_; rintro e w' ⟨rfl, rfl⟩)
      go_ret2
      have hg := HG.out
      subst hg
      exact ⟨rfl, hbr, HC.out, hzr⟩
end Go.Proofs.Ytkdhifofdghbbaa
