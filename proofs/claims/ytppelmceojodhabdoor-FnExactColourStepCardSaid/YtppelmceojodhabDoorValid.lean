/- THE WALKS of RowValid, of the model and of the program: both answer 'vld s'. -/
import Derived.Test.YtppelmceojodhabDoorChecked
import Derived.Test.YtppelmceojodhabDoorPlain
import Derived.WalkKit
import Derived.WalkSpells
import Derived.WalkLawsBesides
namespace Go.Proofs.YtppelmceojodhabDoor
open Go.RowKit

theorem ret_bool {a b : Bool} (h : a = b) : Ending.returned (.bool a) = .returned (.bool b) := by rw [h]

end Go.Proofs.YtppelmceojodhabDoor
