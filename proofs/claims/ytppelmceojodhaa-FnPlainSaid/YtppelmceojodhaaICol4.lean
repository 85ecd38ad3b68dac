/- THE WALKS of the method move of each colour and of the program's method movedBack. -/
import Derived.Test.YtppelmceojodhaaICol3
namespace Go.Proofs.Ytppelmceojodhaa
open Go.RowKit Go.Lib

theorem own_mono {w : World} {B B' e size n : Nat} {v : Value} {xs : List Value} (h : w.ownsRow B e size v n xs) (hB : B' ≤ B) : w.ownsRow B' e size v n xs :=
  ⟨h.1, h.2.imp (fun h => h) (fun ⟨g, cap, cur, a, b, r⟩ => ⟨g, cap, cur, a, Nat.le_trans hB b, r⟩)⟩
theorem OwnC.mono {B B' : Nat} {w : World} {v : Value} {l : List UInt8} (h : OwnC B w v l) (hB : B' ≤ B) : OwnC B' w v l := by
  obtain ⟨g, cp, h1, h2, h3, h4, h5, h6⟩ := h
  exact ⟨g, cp, h1, Nat.le_trans hB h2, h3, h4, h5, own_mono h6 hB⟩

/-- what the method move of a colour does -/
def MoveSpec (f : FuncId) (c : UInt8) : Prop := ∀ (g n cap : Nat) (l : List UInt8) (w : World), l.length = n → n ≤ 120 → (∀ x ∈ l, sg3 x = true) → CellsAt w g (cV l) →
    Calls Try.prog f #[.agg #[], .slice (some ⟨g, 0, none⟩) n cap] w fun e w' => ∃ v, e = .returned v ∧ OwnC w.heap.size w' v (mvU c l) ∧ Below w.heap.size w w'

/-- a row of boxes in a block of its own, told by its cells -/
def HasC (B : Nat) (w : World) (v : Value) (l : List UInt8) : Prop := ∃ g cp, v = .slice (some ⟨g, 0, none⟩) l.length cp ∧ B ≤ g ∧ g < w.heap.size ∧ l.length ≤ cp ∧ cp ≤ maxLen ∧ CellsAt w g (cV l)
theorem HasC.mono {B B' : Nat} {w : World} {v : Value} {l : List UInt8} (h : HasC B w v l) (hB : B' ≤ B) : HasC B' w v l := by
  obtain ⟨g, cp, h1, h2, h3⟩ := h
  exact ⟨g, cp, h1, Nat.le_trans hB h2, h3⟩
theorem OwnC.has {B : Nat} {w : World} {v : Value} {l : List UInt8} (h : OwnC B w v l) : HasC B w v l := by
  obtain ⟨g, cp, h1, h2, h3, h4, h5, h6⟩ := h
  subst h1
  exact ⟨g, cp, rfl, h2, h3, h4, h5, CellsAt.of_owns h6⟩
theorem HasC.below {B : Nat} {w w' : World} {v : Value} {l : List UInt8} (h : HasC B w v l) (hb : Below w.heap.size w w') : HasC B w' v l := by
  obtain ⟨g, cp, h1, h2, h3, h4, h5, h6⟩ := h
  exact ⟨g, cp, h1, h2, Nat.lt_of_lt_of_le h3 hb.size, h4, h5, h6.below hb h3⟩

/-- an interface value of a colour: its method is found -/
structure MoveAt (u : TypeId) (f : FuncId) (c : UInt8) : Prop where
  spec : MoveSpec f c
  meth : ∀ W : World, (method 196 u (.agg #[]) "loop.example/boxball/impl.move").run Try.prog W = .ok (f, .agg #[]) W
  ent : ∀ args W, (callFunc f args).run Try.prog W = .ok (.enter f args) W
  val : cv c = .iface u (.agg #[])
end Go.Proofs.Ytppelmceojodhaa
