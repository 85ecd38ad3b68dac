/- THE WALKS of RowValid, of the model and of the program: both answer 'vld s'. -/
import Derived.Test.YtppelmceojodhabChecked
import Derived.Test.YtppelmceojodhabPlain
import Derived.WalkKit
import Derived.WalkSpells
import Derived.WalkLawsBesides
namespace Go.Proofs.Ytppelmceojodhab
open Go.RowKit

theorem ret_bool {a b : Bool} (h : a = b) : Ending.returned (.bool a) = .returned (.bool b) := by rw [h]

end Go.Proofs.Ytppelmceojodhab
