/- SLICES OF ints THAT A CALL MADE, and the walks of the laws' own helpers over them: eqIntS, sameInts, markIntS, heldIntS. -/
import Derived.Test.YtkdhifofdghbbaaChecked
import Derived.Test.YtkdhifofdghbbaaCells
import Derived.Deep.QuietTactic
import Derived.BigQuiet
namespace Go.Proofs.Ytkdhifofdghbbaa
open Go.RowKit

/-- the value is a slice of these numbers: of length 0, or at the head of a block of its own from lo on -/
def IntsV (lo : Nat) (w : World) (v : Value) (l : List Int) : Prop :=
  (∃ a cap, v = .slice a 0 cap ∧ l = []) ∨ (∃ g cap, v = .slice (some ⟨g, 0, none⟩) l.length cap ∧ l.length ≤ cap ∧ lo ≤ g ∧ g < w.heap.size ∧ CellsAt w g (l.map (.int .i64)))

theorem IntsV.below {lo : Nat} {w w' : World} {v : Value} {l : List Int} (h : IntsV lo w v l) {B : Nat} (hb : Below B w w') (hB : w.heap.size ≤ B) : IntsV lo w' v l := by
  rcases h with h | ⟨g, cap, rfl, h1, h2, h3, h4⟩
  · exact .inl h
  · exact .inr ⟨g, cap, rfl, h1, h2, Nat.lt_of_lt_of_le h3 hb.size, h4.below hb (by omega)⟩
theorem IntsV.mono {lo lo' : Nat} {w : World} {v : Value} {l : List Int} (h : IntsV lo w v l) (hl : lo' ≤ lo) : IntsV lo' w v l := by
  rcases h with h | ⟨g, cap, rfl, h1, h2, h3, h4⟩
  · exact .inl h
  · exact .inr ⟨g, cap, rfl, h1, by omega, h3, h4⟩
theorem IntsV.of_owns {w : World} {base e n : Nat} {v : Value} {l : List Int} (h : w.ownsRow base e 1 v n (l.map (.int .i64))) : IntsV base w v l := by
  have hl : l.length = n := by have := h.1; simpa using this
  have hlt := h.lt
  rcases h.2 with ⟨rfl, rfl⟩ | ⟨g, cap, cur, rfl, hb, hg, hnc, hcm, hcs, htake⟩
  · exact .inl ⟨_, _, rfl, List.eq_nil_of_length_eq_zero hl⟩
  · exact .inr ⟨g, cap, by rw [hl], by omega, hb, (hlt g rfl).2, CellsAt.of_owns h⟩

/-- nothing has turned but the draws -/
def Quiet (w w' : World) : Prop := w'.heap.size = w.heap.size ∧ ∀ B, Below B w w'
theorem Quiet.refl (w : World) : Quiet w w := ⟨rfl, fun B => Below.refl B w⟩
theorem Quiet.drewN {w : World} (n : Nat) : Quiet w (w.drewN n) := ⟨rfl, fun _ => ⟨rfl, rfl, rfl, Nat.le_refl _, fun _ _ => rfl⟩⟩
theorem Quiet.trans {a b c : World} (h : Quiet a b) (k : Quiet b c) : Quiet a c := ⟨k.1.trans h.1, fun B => (h.2 B).trans (k.2 B)⟩
theorem Quiet.cells {w w' : World} (h : Quiet w w') {g : Nat} {l : List Value} (hc : CellsAt w g l) : CellsAt w' g l := hc.below (h.2 (g + 1)) (by omega)
theorem Quiet.ints {w w' : World} (h : Quiet w w') {lo : Nat} {v : Value} {l : List Int} (hc : IntsV lo w v l) : IntsV lo w' v l := hc.below (h.2 w.heap.size) (Nat.le_refl _)

/-- k, k + 1, .. -/
def marks (k : Int) (n : Nat) : List Int := (List.range n).map fun (j : Nat) => k + (j : Int)

set_option maxHeartbeats 400000 in
theorem sameInts_two (g g' cap cap' : Nat) (l : List Int) (w : World) (hm : l.length ≤ maxLen) (hc : CellsAt w g (l.map (.int .i64))) (hc' : CellsAt w g' (l.map (.int .i64))) :
    Calls Try.prog 24 #[.slice (some ⟨g, 0, none⟩) l.length cap, .slice (some ⟨g', 0, none⟩) l.length cap'] w fun e w' => e = .returned (.bool true) ∧ Quiet w w' := by
  unfold maxLen at hm
  obtain ⟨n, hn⟩ : ∃ n, n = l.length := ⟨_, rfl⟩
  have HN := hide hn
  have HC := hide hc
  have HC' := hide hc'
  rw [← hn] at hm ⊢
  clear hn hc hc'
  go_enter Try.func24, Try.ntmps24
  go_wp2
  go_loopw [5] (fun i wr => ∃ k : Nat, k ≤ n ∧ i = .int .i64 k ∧ Hid (Quiet w wr)) (fun i _ => n - (intOf i).toNat)
  case atStart => exact ⟨0, Nat.zero_le _, rfl, Quiet.refl w⟩
  case round =>
    obtain ⟨k, hk, rfl, HQ⟩ := hrel
    by_cases hlt : k < n
    · obtain ⟨x, hx⟩ : ∃ x, l[k]? = some x := ⟨_, List.getElem?_eq_getElem (by rw [← HN.out]; exact hlt)⟩
      have c1 : wr.cell? ⟨g, k, none⟩ = some (.int .i64 x) := ((HQ.out.cells HC.out) k (.int .i64 x) (by simp [hx])).1
      have c2 : wr.cell? ⟨g', k, none⟩ = some (.int .i64 x) := ((HQ.out.cells HC'.out) k (.int .i64 x) (by simp [hx])).1
      clear hx
      have hi0 : (0 : Int) ≤ (k : Int) := by omega
      have hi1 : (k : Int) < (n : Int) := by omega
      have hb : ((x : Int) != x) = false := by simp
      go_wp2
      go_quiet (fail)
      go_wp2
      go_roundw
      case rel => exact ⟨k + 1, by omega, by go_num, HQ.out.trans (Quiet.drewN _)⟩
      case measure => simp [intOf]; omega
    · go_wp2
      go_ret
      exact ⟨rfl, HQ.out⟩

theorem sameInts_none (a a' : Option Addr) (cap cap' : Nat) (w : World) :
    Calls Try.prog 24 #[.slice a 0 cap, .slice a' 0 cap'] w fun e w' => e = .returned (.bool true) ∧ Quiet w w' := by
  go_enter Try.func24, Try.ntmps24
  go_wp2
  go_loopw [5] (fun i wr => i = .int .i64 0 ∧ Hid (Quiet w wr)) (fun _ _ => 0)
  case atStart => exact ⟨rfl, Quiet.refl w⟩
  case round =>
    obtain ⟨rfl, HQ⟩ := hrel
    go_wp2
    go_ret
    exact ⟨rfl, HQ.out⟩

theorem sameInts_same {lo lo' : Nat} {w : World} {v v' : Value} {l : List Int} (hm : l.length ≤ maxLen) (h : IntsV lo w v l) (h' : IntsV lo' w v' l) :
    Calls Try.prog 24 #[v, v'] w fun e w' => e = .returned (.bool true) ∧ Quiet w w' := by
  rcases h with ⟨a, cap, rfl, rfl⟩ | ⟨g, cap, rfl, _, _, _, hc⟩ <;> rcases h' with ⟨a', cap', rfl, h0⟩ | ⟨g', cap', rfl, _, _, _, hc'⟩
  · exact sameInts_none _ _ _ _ _
  · exact sameInts_none _ _ _ _ _
  · subst h0; exact sameInts_none _ _ _ _ _
  · exact sameInts_two g g' cap cap' l w hm hc hc'


theorem marks_length (k : Int) (n : Nat) : (marks k n).length = n := by simp [marks]
theorem marks_getElem (k : Int) (n j : Nat) (h : j < n) : (marks k n)[j]? = some (k + (j : Int)) := by simp [marks, h]
theorem mark_step (l xs : List Int) (k0 : Int) (k : Nat) (h : k < l.length) (hx : xs.length = l.length) (ht : xs.take k = (marks k0 l.length).take k) :
    (xs.set k (k0 + (k : Int))).take (k + 1) = (marks k0 l.length).take (k + 1) := by
  have hb : k < (marks k0 l.length).length := by rw [marks_length]; exact h
  rw [List.take_succ_eq_append_getElem (by simp; omega), List.take_succ_eq_append_getElem hb, List.take_set_of_le (Nat.le_refl _), ht]
  have e := marks_getElem k0 l.length k h
  rw [List.getElem?_eq_getElem hb] at e
  simp only [Option.some.injEq] at e
  rw [e]; simp
theorem ret_int {k : IntKind} {a b : Int} (h : a = b) : Ending.returned (.int k a) = .returned (.int k b) := by rw [h]

end Go.Proofs.Ytkdhifofdghbbaa
