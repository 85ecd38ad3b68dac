/- TEXTS Plain, Valid, Cells, Ints. -/
import Derived.WalkKit
import Derived.Test.YtkdhifofdghbbaaChecked
import Derived.WalkSpells
import Derived.WalkLawsBesides
import Derived.ProofKit
import Derived.Deep.QuietTactic
import Derived.BigQuiet
/- PLAIN FACTS on rows of signs, for the walks of chapter 1: nothing of the program is named here. -/
namespace Go.Proofs.Ytkdhifofdghbbaa

open Go.RowKit in
theorem hide {p : Prop} (h : p) : Hid p := h
/-- a sign of a row -/
def sgn (c : UInt8) : Bool := c == 48 || c == 49
/-- all bytes are signs -/
def allSgn (l : List UInt8) : Bool := l.all sgn
/-- a row: signs alone, at most 120 -/
def vld (s : ByteArray) : Bool := allSgn s.data.toList && decide (s.size ≤ 120)

theorem take_snoc (s : ByteArray) (k : Nat) (h : k < s.size) : s.data.toList.take (k + 1) = s.data.toList.take k ++ [s[k]] := by
  rw [List.take_succ_eq_append_getElem (by simpa using h)]; rfl
theorem sgn_of (c : UInt8) : sgn c = decide ((c.toNat : Int) = 48 ∨ (c.toNat : Int) = 49) := by
  unfold sgn
  rw [Bool.eq_iff_iff]
  simp [← UInt8.toNat_inj]
  omega
theorem allSgn_snoc (s : ByteArray) (k : Nat) (h : k < s.size) (g : allSgn (s.data.toList.take k) = true) (hc : (s[k].toNat : Int) = 48 ∨ (s[k].toNat : Int) = 49) :
    allSgn (s.data.toList.take (k + 1)) = true := by
  rw [take_snoc s k h]; unfold allSgn at g ⊢; rw [List.all_append, g]; simp [sgn_of, hc]
theorem vld_bad (s : ByteArray) (k : Nat) (h : k < s.size) (hc : ¬((s[k].toNat : Int) = 48 ∨ (s[k].toNat : Int) = 49)) : vld s = false := by
  unfold vld allSgn
  have : s.data.toList.all sgn = false := by
    rw [List.all_eq_false]
    exact ⟨s[k], by exact List.getElem_mem (l := s.data.toList) (by simpa using h), by rw [sgn_of]; simpa using hc⟩
  rw [this]; rfl
theorem vld_good (s : ByteArray) (k : Nat) (h : k = s.size) (g : allSgn (s.data.toList.take k) = true) : vld s = decide (s.size ≤ 120) := by
  unfold vld
  rw [List.take_of_length_le (by simp [h])] at g
  rw [g]; rfl
end Go.Proofs.Ytkdhifofdghbbaa

/- THE WALKS of RowValid, of the model and of the program: both answer 'vld s'. -/
namespace Go.Proofs.Ytkdhifofdghbbaa
open Go.RowKit

theorem ret_bool {a b : Bool} (h : a = b) : Ending.returned (.bool a) = .returned (.bool b) := by rw [h]

set_option maxHeartbeats 400000 in
theorem specRowValid_any (s : ByteArray) (w : World) (hs : s.size ≤ maxLen) :
    Calls Try.prog 38 #[.string s] w fun e w' => e = .returned (.bool (vld s)) ∧ w = w' := by
  unfold maxLen at hs
  go_enter Try.func38, Try.ntmps38
  go_wp2
  go_loop [3] (fun i => ∃ k : Nat, k ≤ s.size ∧ i = .int .i64 k ∧ Hid (allSgn (s.data.toList.take k) = true)) (fun i => s.size - (Go.RowKit.intOf i).toNat)
  case atStart => exact ⟨0, Nat.zero_le _, rfl, rfl⟩
  case round =>
    obtain ⟨k, hk, rfl, HA⟩ := hrel
    by_cases hlt : k < s.size
    · by_cases hc : (s[k].toNat : Int) = 48 ∨ (s[k].toNat : Int) = 49
      · have HC := hide hc
        rcases hc with hc | hc
        · have h1 : ((s[k].toNat : Int) != 48) = false := by simp [hc]
          clear hc
          go_wp2
          go_round
          case rel => exact ⟨k + 1, by omega, by go_num, allSgn_snoc s k hlt HA.out HC.out⟩
          case measure => simp [Go.RowKit.intOf]; omega
        · have h1 : ((s[k].toNat : Int) != 48) = true := by simp [hc]
          have h2 : ((s[k].toNat : Int) != 49) = false := by simp [hc]
          clear hc
          go_wp2
          go_round
          case rel => exact ⟨k + 1, by omega, by go_num, allSgn_snoc s k hlt HA.out HC.out⟩
          case measure => simp [Go.RowKit.intOf]; omega
      · have HC := hide hc
        have h1 : ((s[k].toNat : Int) != 48) = true := by simp; omega
        have h2 : ((s[k].toNat : Int) != 49) = true := by simp; omega
        clear hc
        go_wp2
        go_ret
        exact ⟨ret_bool (vld_bad s k hlt HC.out).symm, rfl⟩
    · go_wp2
      go_ret
      exact ⟨ret_bool (by rw [vld_good s k (by omega) HA.out]; simp; omega), rfl⟩

set_option maxHeartbeats 400000 in
theorem implRowValid_any (s : ByteArray) (w : World) (hs : s.size ≤ maxLen) :
    Calls Try.prog 33 #[.string s] w fun e w' => e = .returned (.bool (vld s)) ∧ w = w' := by
  unfold maxLen at hs
  by_cases hbig : 120 < s.size
  · go_enter Try.func33, Try.ntmps33
    go_wp2
    go_ret
    exact ⟨ret_bool (by simp [vld]; omega), rfl⟩
  · go_enter Try.func33, Try.ntmps33
    go_wp2
    go_loop [9] (fun i => ∃ k : Nat, k ≤ s.size ∧ i = .int .i64 k ∧ Hid (allSgn (s.data.toList.take k) = true)) (fun i => s.size - (Go.RowKit.intOf i).toNat)
    case atStart => exact ⟨0, Nat.zero_le _, rfl, rfl⟩
    case round =>
      obtain ⟨k, hk, rfl, HA⟩ := hrel
      by_cases hlt : k < s.size
      · by_cases hc : (s[k].toNat : Int) = 48 ∨ (s[k].toNat : Int) = 49
        · have HC := hide hc
          rcases hc with hc | hc
          · have h1 : ((s[k].toNat : Int) != 48) = false := by simp [hc]
            clear hc
            go_wp2
            go_round
            case rel => exact ⟨k + 1, by omega, by go_num, allSgn_snoc s k hlt HA.out HC.out⟩
            case measure => simp [Go.RowKit.intOf]; omega
          · have h1 : ((s[k].toNat : Int) != 48) = true := by simp [hc]
            have h2 : ((s[k].toNat : Int) != 49) = false := by simp [hc]
            clear hc
            go_wp2
            go_round
            case rel => exact ⟨k + 1, by omega, by go_num, allSgn_snoc s k hlt HA.out HC.out⟩
            case measure => simp [Go.RowKit.intOf]; omega
        · have HC := hide hc
          have h1 : ((s[k].toNat : Int) != 48) = true := by simp; omega
          have h2 : ((s[k].toNat : Int) != 49) = true := by simp; omega
          clear hc
          go_wp2
          go_ret
          exact ⟨ret_bool (vld_bad s k hlt HC.out).symm, rfl⟩
      · go_wp2
        go_ret
        exact ⟨ret_bool (by rw [vld_good s k (by omega) HA.out]; simp; omega), rfl⟩
end Go.Proofs.Ytkdhifofdghbbaa

/- CELLS OF ONE BLOCK THAT HOLD A LIST, none frozen: small laws; and rows as lists of Bools. Nothing of the program is named here. -/
namespace Go.Proofs.Ytkdhifofdghbbaa
open Go.RowKit

/-- block g's first cells hold the list, none of them frozen -/
def CellsAt (w : World) (g : Nat) (l : List Value) : Prop := ∀ j v, l[j]? = some v → w.cell? ⟨g, j, none⟩ = some v ∧ w.frozen? ⟨g, j, none⟩ = false

theorem CellsAt.cell {w : World} {g : Nat} {l : List Value} (h : CellsAt w g l) (j : Nat) (v : Value) (hv : l[j]? = some v) : w.cell? ⟨g, j, none⟩ = some v := (h j v hv).1
theorem CellsAt.lt {w : World} {g : Nat} {l : List Value} (h : CellsAt w g l) (hl : 0 < l.length) : g < w.heap.size := by
  have := (h 0 l[0] (by simp [hl])).1
  exact World.block_lt_of_cell? w _ this
theorem CellsAt.below {w w' : World} {g B : Nat} {l : List Value} (h : CellsAt w g l) (hb : Below B w w') (hg : g < B) : CellsAt w' g l := by
  intro j v hv
  obtain ⟨a, b⟩ := h j v hv
  exact ⟨(hb.cell (p := ⟨g, j, none⟩) hg).trans a, (hb.frozen (p := ⟨g, j, none⟩) hg).trans b⟩
/-- an empty list or a block below: what lies below is kept -/
theorem CellsAt.below' {w w' : World} {g B : Nat} {l : List Value} (h : CellsAt w g l) (hb : Below B w w') (hB : w.heap.size ≤ B) : CellsAt w' g l := by
  by_cases hl : 0 < l.length
  · exact h.below hb (by have := h.lt hl; omega)
  · have : l = [] := List.eq_nil_of_length_eq_zero (by omega)
    subst this
    intro j v hv; simp at hv
theorem CellsAt.set {w : World} {g : Nat} {l : List Value} (h : CellsAt w g l) (k : Nat) (hk : k < l.length) (u : Value) : CellsAt (w.setCell ⟨g, k, none⟩ u) g (l.set k u) := by
  intro j v hv
  rw [List.getElem?_set] at hv
  by_cases e : k = j
  · subst e
    simp [hk] at hv
    subst hv
    obtain ⟨a, b⟩ := h k l[k] (by simp [hk])
    exact ⟨World.cell?_setCell_same' _ _ _ (by rw [a]; rfl), by rw [World.frozen?_setCell]; exact b⟩
  · simp [e] at hv
    obtain ⟨a, b⟩ := h j v hv
    exact ⟨by rw [World.cell?_setCell_other _ _ _ _ (by intro h; injection h with _ h2; exact e h2)]; exact a, by rw [World.frozen?_setCell]; exact b⟩
theorem CellsAt.far {w : World} {g : Nat} {l : List Value} (h : CellsAt w g l) (p : Addr) (hp : p.block ≠ g) (u : Value) : CellsAt (w.setCell p u) g l := by
  intro j v hv
  obtain ⟨a, b⟩ := h j v hv
  exact ⟨by rw [World.cell?_setCell_other _ _ _ _ (by intro h; exact hp (by rw [h]))]; exact a, by rw [World.frozen?_setCell]; exact b⟩
theorem CellsAt.alloc {w : World} {g : Nat} {l : List Value} (h : CellsAt w g l) (o : Obj) : CellsAt (w.alloc o) g l := h.below' ((Below.refl w.heap.size w).alloc (Nat.le_refl _) o) (Nat.le_refl _)
theorem CellsAt.of_owns {w : World} {base e g n cap : Nat} {xs : List Value} (h : w.ownsRow base e 1 (.slice (some ⟨g, 0, none⟩) n cap) n xs) : CellsAt w g xs := by
  intro j v hv
  have hl : j < n * 1 := by have := h.1; have := (List.getElem?_eq_some_iff.1 hv).1; omega
  exact ⟨by rw [h.cellAt j hl]; exact hv, h.frozenAt j⟩

/-- the boxes of a text: has it a ball? -/
def bits (s : ByteArray) : List Bool := s.data.toList.map (· == 49)
/-- the number of boxes up to the last ball -/
def tl (l : List Bool) : Nat := (l.reverse.dropWhile (! ·)).length
theorem length_bits (s : ByteArray) : (bits s).length = s.size := by simp [bits]
theorem bits_getElem (s : ByteArray) (k : Nat) (h : k < s.size) : (bits s)[k]? = some (s[k] == 49) := by
  simp [bits, h]; rfl
theorem bit_int (c : UInt8) : (c == 49) = ((c.toNat : Int) == 49) := by
  rw [Bool.eq_iff_iff]; simp [← UInt8.toNat_inj]; omega
theorem bits_step (s : ByteArray) (xs : List Bool) (k : Nat) (h : k < s.size) (hx : xs.length = s.size) (ht : xs.take k = (bits s).take k) :
    (xs.set k (s[k] == 49)).take (k + 1) = (bits s).take (k + 1) := by
  have hb : k < (bits s).length := by rw [length_bits]; exact h
  rw [List.take_succ_eq_append_getElem (by simp; omega), List.take_succ_eq_append_getElem hb, List.take_set_of_le (Nat.le_refl _), ht]
  have e := bits_getElem s k h
  rw [List.getElem?_eq_getElem hb] at e
  simp only [Option.some.injEq] at e
  rw [e]; simp
theorem tl_le (l : List Bool) : tl l ≤ l.length := by
  unfold tl; have := (List.dropWhile_sublist (! ·) (l := l.reverse)).length_le; simpa using this
theorem tl_nil : tl [] = 0 := rfl
theorem tl_snoc (l : List Bool) (b : Bool) : tl (l ++ [b]) = if b then l.length + 1 else tl l := by
  unfold tl; cases b <;> simp
/-- going down from n: box n - 1 has none -/
theorem tl_take_pred (l : List Bool) (n : Nat) (hn : n < l.length) (h : l[n]? = some false) : tl (l.take (n + 1)) = tl (l.take n) := by
  rw [List.take_succ_eq_append_getElem hn, tl_snoc]
  have : l[n] = false := by rw [List.getElem?_eq_getElem hn] at h; simpa using h
  simp [this]
theorem tl_take_stop (l : List Bool) (n : Nat) (hn : n < l.length) (h : l[n]? = some true) : tl (l.take (n + 1)) = n + 1 := by
  rw [List.take_succ_eq_append_getElem hn, tl_snoc]
  have : l[n] = true := by rw [List.getElem?_eq_getElem hn] at h; simpa using h
  simp [this]; omega
theorem madeB (n : Nat) : (madeCells (Value.bool false).cells (n * 1)).toList = (List.replicate n false).map Value.bool := by
  rw [Nat.mul_one]; show (madeCells #[Value.bool false] n).toList = _; rw [toList_madeCells_one]; simp
theorem madeI (n : Nat) : (madeCells (Value.int .i64 0).cells (n * 1)).toList = (List.replicate n (0 : Int)).map (Value.int .i64) := by
  rw [Nat.mul_one]; show (madeCells #[Value.int .i64 0] n).toList = _; rw [toList_madeCells_one]; simp
end Go.Proofs.Ytkdhifofdghbbaa

/- SLICES OF ints THAT A CALL MADE, and the walks of the laws' own helpers over them: eqIntS, sameInts, markIntS, heldIntS. -/
namespace Go.Proofs.Ytkdhifofdghbbaa
open Go.RowKit

/-- the value is a slice of these numbers: of length 0, or at the head of a block of its own from lo on -/
def IntsV (lo : Nat) (w : World) (v : Value) (l : List Int) : Prop :=
  (∃ a cap, v = .slice a 0 cap ∧ l = []) ∨ (∃ g cap, v = .slice (some ⟨g, 0, none⟩) l.length cap ∧ l.length ≤ cap ∧ lo ≤ g ∧ g < w.heap.size ∧ CellsAt w g (l.map (.int .i64)))

theorem IntsV.below {lo : Nat} {w w' : World} {v : Value} {l : List Int} (h : IntsV lo w v l) {B : Nat} (hb : Below B w w') (hB : w.heap.size ≤ B) : IntsV lo w' v l := by
  rcases h with h | ⟨g, cap, rfl, h1, h2, h3, h4⟩
  · exact .inl h
  · exact .inr ⟨g, cap, rfl, h1, h2, Nat.lt_of_lt_of_le h3 hb.size, h4.below hb (by omega)⟩
theorem IntsV.mono {lo lo' : Nat} {w : World} {v : Value} {l : List Int} (h : IntsV lo w v l) (hl : lo' ≤ lo) : IntsV lo' w v l := by
  rcases h with h | ⟨g, cap, rfl, h1, h2, h3, h4⟩
  · exact .inl h
  · exact .inr ⟨g, cap, rfl, h1, by omega, h3, h4⟩
theorem IntsV.of_owns {w : World} {base e n : Nat} {v : Value} {l : List Int} (h : w.ownsRow base e 1 v n (l.map (.int .i64))) : IntsV base w v l := by
  have hl : l.length = n := by have := h.1; simpa using this
  have hlt := h.lt
  rcases h.2 with ⟨rfl, rfl⟩ | ⟨g, cap, cur, rfl, hb, hg, hnc, hcm, hcs, htake⟩
  · exact .inl ⟨_, _, rfl, List.eq_nil_of_length_eq_zero hl⟩
  · exact .inr ⟨g, cap, by rw [hl], by omega, hb, (hlt g rfl).2, CellsAt.of_owns h⟩

/-- nothing has turned but the draws -/
def Quiet (w w' : World) : Prop := w'.heap.size = w.heap.size ∧ ∀ B, Below B w w'
theorem Quiet.refl (w : World) : Quiet w w := ⟨rfl, fun B => Below.refl B w⟩
theorem Quiet.drewN {w : World} (n : Nat) : Quiet w (w.drewN n) := ⟨rfl, fun _ => ⟨rfl, rfl, rfl, Nat.le_refl _, fun _ _ => rfl⟩⟩
theorem Quiet.trans {a b c : World} (h : Quiet a b) (k : Quiet b c) : Quiet a c := ⟨k.1.trans h.1, fun B => (h.2 B).trans (k.2 B)⟩
theorem Quiet.cells {w w' : World} (h : Quiet w w') {g : Nat} {l : List Value} (hc : CellsAt w g l) : CellsAt w' g l := hc.below (h.2 (g + 1)) (by omega)
theorem Quiet.ints {w w' : World} (h : Quiet w w') {lo : Nat} {v : Value} {l : List Int} (hc : IntsV lo w v l) : IntsV lo w' v l := hc.below (h.2 w.heap.size) (Nat.le_refl _)

/-- k, k + 1, .. -/
def marks (k : Int) (n : Nat) : List Int := (List.range n).map fun (j : Nat) => k + (j : Int)

set_option maxHeartbeats 400000 in
theorem sameInts_two (g g' cap cap' : Nat) (l : List Int) (w : World) (hm : l.length ≤ maxLen) (hc : CellsAt w g (l.map (.int .i64))) (hc' : CellsAt w g' (l.map (.int .i64))) :
    Calls Try.prog 24 #[.slice (some ⟨g, 0, none⟩) l.length cap, .slice (some ⟨g', 0, none⟩) l.length cap'] w fun e w' => e = .returned (.bool true) ∧ Quiet w w' := by
  unfold maxLen at hm
  obtain ⟨n, hn⟩ : ∃ n, n = l.length := ⟨_, rfl⟩
  have HN := hide hn
  have HC := hide hc
  have HC' := hide hc'
  rw [← hn] at hm ⊢
  clear hn hc hc'
  go_enter Try.func24, Try.ntmps24
  go_wp2
  go_loopw [5] (fun i wr => ∃ k : Nat, k ≤ n ∧ i = .int .i64 k ∧ Hid (Quiet w wr)) (fun i _ => n - (Go.RowKit.intOf i).toNat)
  case atStart => exact ⟨0, Nat.zero_le _, rfl, Quiet.refl w⟩
  case round =>
    obtain ⟨k, hk, rfl, HQ⟩ := hrel
    by_cases hlt : k < n
    · obtain ⟨x, hx⟩ : ∃ x, l[k]? = some x := ⟨_, List.getElem?_eq_getElem (by rw [← HN.out]; exact hlt)⟩
      have c1 : wr.cell? ⟨g, k, none⟩ = some (.int .i64 x) := ((HQ.out.cells HC.out) k (.int .i64 x) (by simp [hx])).1
      have c2 : wr.cell? ⟨g', k, none⟩ = some (.int .i64 x) := ((HQ.out.cells HC'.out) k (.int .i64 x) (by simp [hx])).1
      clear hx
      have hi0 : (0 : Int) ≤ (k : Int) := by omega
      have hi1 : (k : Int) < (n : Int) := by omega
      have hb : ((x : Int) != x) = false := by simp
      go_wp2
      go_quiet (fail)
      go_wp2
      go_roundw
      case rel => exact ⟨k + 1, by omega, by go_num, HQ.out.trans (Quiet.drewN _)⟩
      case measure => simp [Go.RowKit.intOf]; omega
    · go_wp2
      go_ret
      exact ⟨rfl, HQ.out⟩

theorem sameInts_none (a a' : Option Addr) (cap cap' : Nat) (w : World) :
    Calls Try.prog 24 #[.slice a 0 cap, .slice a' 0 cap'] w fun e w' => e = .returned (.bool true) ∧ Quiet w w' := by
  go_enter Try.func24, Try.ntmps24
  go_wp2
  go_loopw [5] (fun i wr => i = .int .i64 0 ∧ Hid (Quiet w wr)) (fun _ _ => 0)
  case atStart => exact ⟨rfl, Quiet.refl w⟩
  case round =>
    obtain ⟨rfl, HQ⟩ := hrel
    go_wp2
    go_ret
    exact ⟨rfl, HQ.out⟩

theorem sameInts_same {lo lo' : Nat} {w : World} {v v' : Value} {l : List Int} (hm : l.length ≤ maxLen) (h : IntsV lo w v l) (h' : IntsV lo' w v' l) :
    Calls Try.prog 24 #[v, v'] w fun e w' => e = .returned (.bool true) ∧ Quiet w w' := by
  rcases h with ⟨a, cap, rfl, rfl⟩ | ⟨g, cap, rfl, _, _, _, hc⟩ <;> rcases h' with ⟨a', cap', rfl, h0⟩ | ⟨g', cap', rfl, _, _, _, hc'⟩
  · exact sameInts_none _ _ _ _ _
  · exact sameInts_none _ _ _ _ _
  · subst h0; exact sameInts_none _ _ _ _ _
  · exact sameInts_two g g' cap cap' l w hm hc hc'


theorem marks_length (k : Int) (n : Nat) : (marks k n).length = n := by simp [marks]
theorem marks_getElem (k : Int) (n j : Nat) (h : j < n) : (marks k n)[j]? = some (k + (j : Int)) := by simp [marks, h]
theorem mark_step (l xs : List Int) (k0 : Int) (k : Nat) (h : k < l.length) (hx : xs.length = l.length) (ht : xs.take k = (marks k0 l.length).take k) :
    (xs.set k (k0 + (k : Int))).take (k + 1) = (marks k0 l.length).take (k + 1) := by
  have hb : k < (marks k0 l.length).length := by rw [marks_length]; exact h
  rw [List.take_succ_eq_append_getElem (by simp; omega), List.take_succ_eq_append_getElem hb, List.take_set_of_le (Nat.le_refl _), ht]
  have e := marks_getElem k0 l.length k h
  rw [List.getElem?_eq_getElem hb] at e
  simp only [Option.some.injEq] at e
  rw [e]; simp
theorem ret_int {k : IntKind} {a b : Int} (h : a = b) : Ending.returned (.int k a) = .returned (.int k b) := by rw [h]

end Go.Proofs.Ytkdhifofdghbbaa
