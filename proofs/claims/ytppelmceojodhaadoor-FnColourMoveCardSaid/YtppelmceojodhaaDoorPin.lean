/- THE VARIABLES THAT THE ROWS LIST (tables of unicode/utf8; no walk reads them): a world that holds them as they are laid. -/
import Derived.Test.YtppelmceojodhaaDoorChecked
import Derived.Test.YtppelmceojodhaaDoorRows
import Derived.WalkKit
import Derived.ProofKit
import Derived.OpenShut
import Derived.LaidMore
import Derived.Lay
import Derived.Stop.Joined
namespace Go.Proofs.YtppelmceojodhaaDoor
open Go.ChangeShapes Go.WideShapes Go.RowKit

abbrev pinList : List (String × DataW Unit) := [("unicode/utf8.acceptRanges", Rows.laid_unicode_utf8_acceptRanges), ("unicode/utf8.first", Rows.laid_unicode_utf8_first)]
theorem pinOwn : ownKnob Tryd.prog.godebug = none := by kernel_rfl
theorem pinLaidOut : laidOutB Tryd.prog = true := by kernel_rfl
theorem pin_shaped (os : Os) (args : Array Value) : ((World.laidAll Tryd.prog os pinList).forCall (fun _ _ => 0) ⟨#[], args, []⟩).Shaped Tryd.prog :=
  World.shaped_of_ZipB (by kernel_rfl) (by kernel_rfl)
theorem pin_met (os : Os) (args : Array Value) : laidMetH Tryd.prog pinList ((World.laidAll Tryd.prog os pinList).forCall (fun _ _ => 0) ⟨#[], args, []⟩).memory := by
  rw [MakeChecks.laidMetH_plain _ _ _ (by kernel_rfl)]
  exact laidMet_laidAll _ (by kernel_rfl) (by kernel_rfl)
end Go.Proofs.YtppelmceojodhaaDoor
