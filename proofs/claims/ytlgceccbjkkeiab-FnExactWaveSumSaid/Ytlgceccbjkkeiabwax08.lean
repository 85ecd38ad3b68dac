/- TEXTS RowShift. -/
import Derived.Test.Ytlgceccbjkkeiabwax04
import Derived.Test.Ytlgceccbjkkeiabwax05
/- THE WALKS of RowShift, of the model and of the program, and of its exact law. -/
namespace Go.Proofs.Ytlgceccbjkkeiab
open Go.RowKit

theorem tl_rep (n : Nat) : tl (List.replicate n false) = 0 := by
  have := tl_pad [] n; simpa [tl_nil] using this
theorem tl_pre (n : Nat) (l : List Bool) : tl (List.replicate n false ++ l) = if tl l = 0 then 0 else n + tl l := by
  have g : ∀ m : List Bool, tl (List.replicate n false ++ m.reverse) = if tl m.reverse = 0 then 0 else n + tl m.reverse := by
    intro m
    induction m with
    | nil => simp [tl_rep, tl_nil]
    | cons b m ih =>
      rw [List.reverse_cons, ← List.append_assoc, tl_snoc, tl_snoc]
      cases b
      · simpa using ih
      · simp; omega
  have := g l.reverse
  rwa [List.reverse_reverse] at this
/-- the boxes with n empty ones ahead, up to the last ball -/
def shB (n : Nat) (l : List Bool) : List Bool := List.replicate n false ++ cut l
theorem shB_length (n : Nat) (l : List Bool) : (shB n l).length = n + tl l := by simp [shB, cut_length]
theorem cut_pre (n : Nat) (l : List Bool) (h : tl l ≠ 0) : cut (List.replicate n false ++ l) = shB n l := by
  have e : cut (List.replicate n false ++ l) = (List.replicate n false ++ l).take (tl (List.replicate n false ++ l)) := rfl
  rw [e, tl_pre, if_neg h, List.take_append, List.take_of_length_le (by simp)]
  simp [shB, cut]
theorem cut_shB (n : Nat) (l : List Bool) (h : tl l ≠ 0) : cut (shB n l) = shB n l := by
  have h2 : tl (cut l) ≠ 0 := by rw [tl_cut]; exact h
  have := cut_pre n (cut l) h2
  unfold shB at this ⊢
  rw [this, cut_cut]

/-- what RowShift answers -/
def shOk (s : ByteArray) (n : Int) : Bool := vld s && decide (0 ≤ n) && (decide (tl (bits s) = 0) || decide (n + (tl (bits s) : Int) ≤ 120))
def shS (s : ByteArray) (n : Int) : ByteArray := if shOk s n && !decide (tl (bits s) = 0) then ofBits (shB n.toNat (bits s)) else ByteArray.empty

theorem CellsAt.src {w : World} {g : Nat} {l : List Value} (h : CellsAt w g l) : ∀ j u, l[j]? = some u → w.cell? ((⟨g, 0, none⟩ : Addr).add j) = some u := by
  intro j u hu
  rw [Addr.add_lit, Nat.zero_add]; exact (h j u hu).1
theorem below_none {w w' : World} (h : w.grownBy w' none) : Below w.heap.size w w' := (Below.refl _ _).grown h (Nat.le_refl _) (fun k e => by cases e)
theorem ownsRow_form {w : World} {base e n : Nat} {v : Value} {xs : List Value} (h : w.ownsRow base e 1 v n xs) (hn : 0 < n) : ∃ g cap, v = .slice (some ⟨g, 0, none⟩) n cap ∧ base ≤ g ∧ n ≤ cap ∧ cap ≤ maxLen := by
  rcases h.2 with ⟨_, rfl⟩ | ⟨g, cap, cur, rfl, hb, _, hc, hm, _⟩
  · omega
  · exact ⟨g, cap, rfl, hb, hc, hm⟩

end Go.Proofs.Ytlgceccbjkkeiab
