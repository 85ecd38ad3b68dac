/-
  No cell of these rows narrows 'for every input' (looked for: loops, veiled, ifaces, maps, wideKeys, modest, calm, conditions, laid).
  DERIVED. THE GIVEN ROWS OF THIS SEAT. 3 by the template 'for every input the law returns true; each argument reads behind the call as it read before'; 0 by the template 'total and deterministic' (their statements: YtlfiipkbkhpmnacTotals.lean).
  GIVEN WITH THE SEED: the statements are not yours to turn. If you find one false, say at which input.
  Laid BY PROGRAM, IN A SANDBOX (cutbox-rows.mjs): the forced cells as the released guide's own fill.sh prints them over the translation 8a30b7f703df8b6e… (all of the seat's roots in one cut). By AI agents, Wed Nov 11 2026. No macro, syntax, notation, axiom, sorry.
-/
import Derived.Test.YtlfiipkbkhpmnacChecked
import GoSem.Claim
import GoSem.ClaimJoined
import GoSem.ClaimMapViews
import Derived.JoinedTies
import Derived.KernelRfl
namespace Go.Proofs.Ytlfiipkbkhpmnac
/- THE CELL 'sum', in the pinned program and in every row, IS THE sha256 OF THE DUMP (.gsa) THAT YtlfiipkbkhpmnacProg.lean LOADS. Nothing in Lean hashes anything: it is a label: what it is worth is what the hold of that sum in a sandbox is worth. -/
noncomputable def Try.pinned : Pinned := { name := "ytlfiipkbkhpmnac", sum := "8a30b7f703df8b6e8b4b7bf4db9bb00ddf0ad0f2a71b24c2f306d725341beefa", checked := Try.checked }
namespace Rows
def none {H : Type} : Left H := { results := [], args := [] }

/-- 'laws.FnApart': WHATEVER THE INPUT: true; the input reads as it did. -/
def fnApartSpec : ChangeSpec := { name := "fnApart", fn := fun _ => fun
  | [d] => { results := [.lit (.bool true)], args := [d] }
  | _ => none }
def fnApartRow : OpenClaim := { program := "ytlfiipkbkhpmnac", sum := "8a30b7f703df8b6e8b4b7bf4db9bb00ddf0ad0f2a71b24c2f306d725341beefa", func := "loop.example/boxball/laws.FnApart", spec := "fnApart", inPlace := ["internal/bytealg.MakeNoZero"], unfollowed := true, recurses := true, apart := false }
def FnApartSaid : Prop := fnApartRow.holds Try.pinned (OpenSpec.ofChange fnApartSpec)

/-- ITS FALSE NEIGHBOUR: 'it returns false'. Refute it at one input. -/
def fnApartWrong : ChangeSpec := { name := "fnApart", fn := fun _ => fun
  | [d] => { results := [.lit (.bool false)], args := [d] }
  | _ => none }
def FnApartWrongFalsely : Prop := fnApartRow.holds Try.pinned (OpenSpec.ofChange fnApartWrong)

/-- 'laws.FnShapeRow': WHATEVER THE INPUT: true; the input reads as it did. -/
def fnShapeRowSpec : ChangeSpec := { name := "fnShapeRow", fn := fun _ => fun
  | [d] => { results := [.lit (.bool true)], args := [d] }
  | _ => none }
def fnShapeRowRow : OpenClaim := { program := "ytlfiipkbkhpmnac", sum := "8a30b7f703df8b6e8b4b7bf4db9bb00ddf0ad0f2a71b24c2f306d725341beefa", func := "loop.example/boxball/laws.FnShapeRow", spec := "fnShapeRow", inPlace := ["internal/bytealg.MakeNoZero"], unfollowed := true, recurses := true, apart := false }
def FnShapeRowSaid : Prop := fnShapeRowRow.holds Try.pinned (OpenSpec.ofChange fnShapeRowSpec)

/-- ITS FALSE NEIGHBOUR: 'it returns false'. Refute it at one input. -/
def fnShapeRowWrong : ChangeSpec := { name := "fnShapeRow", fn := fun _ => fun
  | [d] => { results := [.lit (.bool false)], args := [d] }
  | _ => none }
def FnShapeRowWrongFalsely : Prop := fnShapeRowRow.holds Try.pinned (OpenSpec.ofChange fnShapeRowWrong)

/-- 'laws.FnTime': WHATEVER THE INPUT: true; the input reads as it did. -/
def fnTimeSpec : ChangeSpec := { name := "fnTime", fn := fun _ => fun
  | [d] => { results := [.lit (.bool true)], args := [d] }
  | _ => none }
def fnTimeRow : OpenClaim := { program := "ytlfiipkbkhpmnac", sum := "8a30b7f703df8b6e8b4b7bf4db9bb00ddf0ad0f2a71b24c2f306d725341beefa", func := "loop.example/boxball/laws.FnTime", spec := "fnTime", inPlace := ["internal/bytealg.MakeNoZero"], unfollowed := true, recurses := true, apart := false }
def FnTimeSaid : Prop := fnTimeRow.holds Try.pinned (OpenSpec.ofChange fnTimeSpec)

/-- ITS FALSE NEIGHBOUR: 'it returns false'. Refute it at one input. -/
def fnTimeWrong : ChangeSpec := { name := "fnTime", fn := fun _ => fun
  | [d] => { results := [.lit (.bool false)], args := [d] }
  | _ => none }
def FnTimeWrongFalsely : Prop := fnTimeRow.holds Try.pinned (OpenSpec.ofChange fnTimeWrong)

/- THE SECOND FORM. 'bulk': how many values and letters a reading holds, each counted each time it is reached (what is shared counts as often as it is met; a slice's spare places count too). A statement '..UptoSaid' is the law's where the arguments, and the package variables that the reading takes, are together of bulk at most 1048576: NARROWER than '..Said'. Prove '..Said' where nothing that the law and all that it calls make is longer than what came in: it says more and counts as full. Else prove '..UptoSaid'. A law counts once. -/
mutual
def uptoBulk {H : Type} : DataW H → Nat
  | .lit (.string bytes) => bytes.length + 1
  | .lit _ => 1
  | .nil => 1
  | .ptr d => uptoBulk d + 1
  | .slice elems spare => uptoBulkAll elems + uptoBulkAll spare + 1
  | .agg parts => uptoBulkAll parts + 1
  | .iface _ d => uptoBulk d + 1
  | .map entries => uptoBulkEntries entries + 1
  | .held _ => 1
def uptoBulkAll {H : Type} : List (DataW H) → Nat
  | [] => 0
  | d :: r => uptoBulk d + uptoBulkAll r
def uptoBulkEntries {H : Type} : List (Lit × DataW H) → Nat
  | [] => 0
  | x :: r => uptoBulkEntry x + uptoBulkEntries r
def uptoBulkEntry {H : Type} : Lit × DataW H → Nat
  | (.string bytes, d) => bytes.length + uptoBulk d + 1
  | (_, d) => uptoBulk d + 1
 end
def uptoSmall : (H : Type) → List (DataW H) → Bool := fun _ ds => decide (uptoBulkAll ds ≤ 1048576)
def OpenSpec.upto (s : _root_.Go.ChangeSpec) : _root_.Go.OpenSpec := { _root_.Go.OpenSpec.ofChange s with cond := some uptoSmall }

/-- 'laws.FnApart', WHERE WHAT IT READS IS OF BULK AT MOST 1048576: true; the input reads as it did. -/
def fnApartUptoRow : OpenClaim := { program := "ytlfiipkbkhpmnac", sum := "8a30b7f703df8b6e8b4b7bf4db9bb00ddf0ad0f2a71b24c2f306d725341beefa", func := "loop.example/boxball/laws.FnApart", spec := "fnApart", inPlace := ["internal/bytealg.MakeNoZero"], unfollowed := true, recurses := true, apart := false, narrowed := true }
def FnApartUptoSaid : Prop := fnApartUptoRow.holds Try.pinned (OpenSpec.upto fnApartSpec)

/-- 'laws.FnShapeRow', WHERE WHAT IT READS IS OF BULK AT MOST 1048576: true; the input reads as it did. -/
def fnShapeRowUptoRow : OpenClaim := { program := "ytlfiipkbkhpmnac", sum := "8a30b7f703df8b6e8b4b7bf4db9bb00ddf0ad0f2a71b24c2f306d725341beefa", func := "loop.example/boxball/laws.FnShapeRow", spec := "fnShapeRow", inPlace := ["internal/bytealg.MakeNoZero"], unfollowed := true, recurses := true, apart := false, narrowed := true }
def FnShapeRowUptoSaid : Prop := fnShapeRowUptoRow.holds Try.pinned (OpenSpec.upto fnShapeRowSpec)

/-- 'laws.FnTime', WHERE WHAT IT READS IS OF BULK AT MOST 1048576: true; the input reads as it did. -/
def fnTimeUptoRow : OpenClaim := { program := "ytlfiipkbkhpmnac", sum := "8a30b7f703df8b6e8b4b7bf4db9bb00ddf0ad0f2a71b24c2f306d725341beefa", func := "loop.example/boxball/laws.FnTime", spec := "fnTime", inPlace := ["internal/bytealg.MakeNoZero"], unfollowed := true, recurses := true, apart := false, narrowed := true }
def FnTimeUptoSaid : Prop := fnTimeUptoRow.holds Try.pinned (OpenSpec.upto fnTimeSpec)

end Rows
end Go.Proofs.Ytlfiipkbkhpmnac
