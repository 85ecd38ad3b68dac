/- slices.Collect over the balls of a row: the indexes, in ascending order, in memory of its own. -/
import Derived.Test.YtnaofghngpojgacRowBalls
import Derived.Test.YtnaofghngpojgacLevels
import Derived.Maps.AppendAt
namespace Go.Proofs.Ytnaofghngpojgac
open Go.RowKit Go.Shelf

attribute [local go_sem] Oper.semAt_some

theorem balls_any (a : Option Addr) (len cap : Nat) (w : World) :
    Calls Try.prog 29 #[.slice a len cap] w fun e w' => e = .returned (.func (.func 40) #[] #[.pointer (some ⟨w.heap.size, 0, none⟩)]) ∧ w' = w.alloc (.cells #[.slice a len cap] 38) :=
  callsIn_wide.1 (balls_in Fence.wide 1 trivial rfl a len cap w)
end Go.Proofs.Ytnaofghngpojgac
