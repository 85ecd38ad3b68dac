/- THE DRAWING of coloured rows. -/
import Derived.Test.YtkdhifofdghbbaaDrawR
import Derived.Test.YtkdhifofdghbbaaSCol4
namespace Go.Proofs.Ytkdhifofdghbbaa
open Go.RowKit Go.Lib

/-- one of a list of texts -/
def PickedOf (w : World) (R : Nat) (a : Option Addr) (len cap : Nat) (z : List Int) (p : Nat) (m : Nat) (e : Ending) (w' : World) : Prop :=
  ∃ t : ByteArray, e = .returned (.string t) ∧ t.size ≤ m ∧ Rd w' R a len cap z (p + 1) ∧ Below R w w' ∧ w.grownBy w' (some R)

set_option maxHeartbeats 1000000 in
theorem of_any (w : World) (R : Nat) (a : Option Addr) (len cap : Nat) (z : List Int) (p : Nat) (g n c m : Nat) (hrd : Rd w R a len cap z p) (hp : p ≤ 1000) (hn : 1 ≤ n ∧ n ≤ 1000) (hg : g ≠ R) (hc : ∀ j, j < n → ∃ t : ByteArray, t.size ≤ m ∧ w.cell? ⟨g, j, none⟩ = some (.string t)) :
    Calls Try.prog 58 #[.pointer (some ⟨R, 0, none⟩), .slice (some ⟨g, 0, none⟩) n c] w (PickedOf w R a len cap z p m) := by
  obtain ⟨n0, n1⟩ := hn
  have HC := hide hc
  have HP := hide (pick2_any w R a len cap z p (n : Int) hrd (by omega) (by omega) (by omega))
  clear hc hrd
  go_enter Try.func58, Try.ntmps58
  go_wp2_with fail
  refine HP.out.mono ?_
  rintro e w1 ⟨v, rfl, v0, v1, hr, hb, hz, hgr⟩
  obtain ⟨j, rfl⟩ := Int.eq_ofNat_of_zero_le v0
  obtain ⟨t, ht, hcell⟩ := HC.out j (by omega)
  have c1 := grown_cell hgr hg hcell
  have HR := hide hr
  have HB := hide hb
  have HG := hide hgr
  clear hr hb hz hgr hcell
  go_wp2
  go_ret
  exact ⟨t, rfl, ht, HR.out, HB.out, HG.out⟩

/-- what the drawing of a coloured row leaves -/
def DrawnC (w : World) (R : Nat) (a : Option Addr) (len cap : Nat) (z : List Int) (p : Nat) (e : Ending) (w' : World) : Prop :=
  ∃ (s : ByteArray) (q : Nat), e = .returned (.string s) ∧ s.size ≤ 300 ∧ q ≤ p + 60 ∧ Rd w' R a len cap z q ∧ Below R w w' ∧ w.grownBy w' (some R)
theorem lit7 (w : World) (t : TypeId) (j : Nat) (hj : j < 7) : ∃ x : ByteArray, x.size ≤ 1 ∧ (w.alloc (.cells #[.string ⟨#[48]⟩, .string ⟨#[48]⟩, .string ⟨#[48]⟩, .string ⟨#[49]⟩, .string ⟨#[50]⟩, .string ⟨#[51]⟩, .string ⟨#[49]⟩] t)).cell? ⟨w.heap.size, j, none⟩ = some (.string x) := by
  rcases (show j = 0 ∨ j = 1 ∨ j = 2 ∨ j = 3 ∨ j = 4 ∨ j = 5 ∨ j = 6 by omega) with rfl | rfl | rfl | rfl | rfl | rfl | rfl
  · exact ⟨⟨#[48]⟩, by decide, by rw [World.cell?_alloc_at _ _ _ _ rfl]; rfl⟩
  · exact ⟨⟨#[48]⟩, by decide, by rw [World.cell?_alloc_at _ _ _ _ rfl]; rfl⟩
  · exact ⟨⟨#[48]⟩, by decide, by rw [World.cell?_alloc_at _ _ _ _ rfl]; rfl⟩
  · exact ⟨⟨#[49]⟩, by decide, by rw [World.cell?_alloc_at _ _ _ _ rfl]; rfl⟩
  · exact ⟨⟨#[50]⟩, by decide, by rw [World.cell?_alloc_at _ _ _ _ rfl]; rfl⟩
  · exact ⟨⟨#[51]⟩, by decide, by rw [World.cell?_alloc_at _ _ _ _ rfl]; rfl⟩
  · exact ⟨⟨#[49]⟩, by decide, by rw [World.cell?_alloc_at _ _ _ _ rfl]; rfl⟩

/-- a drawing of a text and a number -/
def DrawnSN (w : World) (e : Ending) (w' : World) : Prop := ∃ (s : ByteArray) (n : Int), e = .returned (.tuple #[.string s, .int .i64 n]) ∧ s.size ≤ 300 ∧ -3 ≤ n ∧ n ≤ 3 ∧ Below w.heap.size w w'
theorem tdiv19b (v : Int) (h1 : 0 ≤ v) (h2 : v < 20) : 0 ≤ v.tdiv 19 ∧ v.tdiv 19 ≤ 1 := by
  obtain ⟨n, rfl⟩ := Int.eq_ofNat_of_zero_le h1
  have e : (n : Int).tdiv 19 = ((n / 19 : Nat) : Int) := rfl
  rw [e]
  omega

end Go.Proofs.Ytkdhifofdghbbaa
