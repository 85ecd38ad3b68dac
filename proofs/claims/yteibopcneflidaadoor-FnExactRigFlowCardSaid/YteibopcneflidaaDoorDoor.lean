/- THE ONE VARIABLE THAT THE PROGRAM READS, errors.errorType: what the rows' condition gives of it, a world that meets the condition. -/
import Derived.Test.YteibopcneflidaaDoorChecked
import Derived.Test.YteibopcneflidaaDoorRows
import Derived.WalkKit
import Derived.ProofKit
import Derived.OpenShut
import Derived.Below
import Derived.LaidLaws
import Derived.LaidHandle
import Derived.Stop.Joined
import Derived.ChangeVars
import Derived.JoinedOf
namespace Go.Proofs.YteibopcneflidaaDoor
open Go.ChangeShapes Go.WideShapes Go.RowKit

/-- the variable's cell: the handle of the type 'error' -/
def EtAt (w : World) : Prop := w.cell? ⟨0, 0, none⟩ = some (.iface 136 (.agg #[.pointer (some ⟨2, 52, none⟩)]))
theorem EtAt.lt {w : World} (h : EtAt w) : 0 < w.heap.size := World.block_lt_of_cell? w _ h
theorem EtAt.below {w w' : World} {B : Nat} (h : EtAt w) (hb : Below B w w') (hB : w.heap.size ≤ B) : EtAt w' :=
  (hb.cell (p := ⟨0, 0, none⟩) (by have := h.lt; show 0 < B; omega)).trans h

abbrev doorList : List (String × DataW Unit) := [("errors.errorType", Rows.laid_errors_errorType)]
theorem doorOwn : ownKnob Tryd.prog.godebug = none := by kernel_rfl
theorem doorLaidOut : laidOutB Tryd.prog = true := by kernel_rfl
theorem doorVar : Tryd.prog.globalNamed "errors.errorType" = some 0 := by kernel_rfl
theorem doorRt : (Tryd.prog.cutTypes.find? (·.1 == "internal/reflectlite.rtype")).map (·.2) = some 136 := by kernel_rfl
theorem doorRow : ((List.range Tryd.prog.types.size).filter fun t => Tryd.prog.rowNamed t [101, 114, 114, 111, 114]) = [52] := by kernel_rfl
theorem et_of_laid {W : World} (h : laidMetH Tryd.prog doorList W) : EtAt W := by
  have h' : laidMet Tryd.prog [] W ∧ handlesMet Tryd.prog doorList W := h
  obtain ⟨name, u, ty, e1, e2, e3, e4, e5⟩ := h'.2 _ (List.mem_singleton.2 rfl)
  have en : name = [101, 114, 114, 111, 114] := (Option.some.inj e1).symm
  subst en
  obtain rfl := Option.some.inj (doorRt.symm.trans e2)
  have hm : ty ∈ (List.range Tryd.prog.types.size).filter fun t => Tryd.prog.rowNamed t [101, 114, 114, 111, 114] := List.mem_filter.2 ⟨List.mem_range.2 e3, e4⟩
  rw [doorRow] at hm
  obtain rfl := List.mem_singleton.1 hm
  have hh : typeHandle Tryd.prog 52 = .pointer (some ⟨2, 52, none⟩) := by kernel_rfl
  rw [hh] at e5
  have := World.var?_cell doorVar e5 0
  simpa [EtAt] using this
noncomputable def doorWorld (os : Os) : World :=
  let w0 := World.holding Tryd.prog os ⟨#[], #[], []⟩
  { w0 with heap := w0.heap.modify 0 fun
      | .cells _ t frozen => .cells #[.iface 136 (.agg #[.pointer (some ⟨2, 52, none⟩)])] t frozen
      | o => o }
theorem doorWorld_met (os : Os) (args : Array Value) : laidMetH Tryd.prog doorList ((doorWorld os).forCall (fun _ _ => 0) ⟨#[], args, []⟩).memory :=
  laidMetH_of_parts (laidMet_nil _ _) (by kernel_rfl)
end Go.Proofs.YteibopcneflidaaDoor
