/-
  No cell of these rows narrows 'for every input' (looked for: loops, veiled, ifaces, maps, wideKeys, modest, calm, conditions, laid).
  DERIVED. THE GIVEN ROWS OF THIS SEAT. 7 by the template 'for every input the law returns true; each argument reads behind the call as it read before'; 0 by the template 'total and deterministic' (their statements: YtkdhifofdghbbaaTotals.lean).
  GIVEN WITH THE SEED: the statements are not yours to turn. If you find one false, say at which input.
  Laid BY PROGRAM, IN A SANDBOX (cutbox-rows.mjs): the forced cells as the released guide's own fill.sh prints them over the translation 0a3af18a43b34fda… (all of the seat's roots in one cut). By AI agents, Wed Nov 11 2026. No macro, syntax, notation, axiom, sorry.
-/
import Derived.Test.YtkdhifofdghbbaaChecked
import GoSem.Claim
import GoSem.ClaimJoined
import GoSem.ClaimMapViews
import Derived.JoinedTies
import Derived.KernelRfl
namespace Go.Proofs.Ytkdhifofdghbbaa
/- THE CELL 'sum', in the pinned program and in every row, IS THE sha256 OF THE DUMP (.gsa) THAT YtkdhifofdghbbaaProg.lean LOADS. Nothing in Lean hashes anything: it is a label: what it is worth is what the hold of that sum in a sandbox is worth. -/
noncomputable def Try.pinned : Pinned := { name := "ytkdhifofdghbbaa", sum := "0a3af18a43b34fda2a3b03c6476017263d4e3eda14fd6ea99963ee7540399a3c", checked := Try.checked }
namespace Rows
def none {H : Type} : Left H := { results := [], args := [] }

/-- 'laws.FnCircle': WHATEVER THE INPUT: true; the input reads as it did. -/
def fnCircleSpec : ChangeSpec := { name := "fnCircle", fn := fun _ => fun
  | [d] => { results := [.lit (.bool true)], args := [d] }
  | _ => none }
def fnCircleRow : OpenClaim := { program := "ytkdhifofdghbbaa", sum := "0a3af18a43b34fda2a3b03c6476017263d4e3eda14fd6ea99963ee7540399a3c", func := "loop.example/boxball/laws.FnCircle", spec := "fnCircle", unfollowed := true, recurses := true, apart := false }
def FnCircleSaid : Prop := fnCircleRow.holds Try.pinned (OpenSpec.ofChange fnCircleSpec)

/-- ITS FALSE NEIGHBOUR: 'it returns false'. Refute it at one input. -/
def fnCircleWrong : ChangeSpec := { name := "fnCircle", fn := fun _ => fun
  | [d] => { results := [.lit (.bool false)], args := [d] }
  | _ => none }
def FnCircleWrongFalsely : Prop := fnCircleRow.holds Try.pinned (OpenSpec.ofChange fnCircleWrong)

/-- 'laws.FnTurn': WHATEVER THE INPUT: true; the input reads as it did. -/
def fnTurnSpec : ChangeSpec := { name := "fnTurn", fn := fun _ => fun
  | [d] => { results := [.lit (.bool true)], args := [d] }
  | _ => none }
def fnTurnRow : OpenClaim := { program := "ytkdhifofdghbbaa", sum := "0a3af18a43b34fda2a3b03c6476017263d4e3eda14fd6ea99963ee7540399a3c", func := "loop.example/boxball/laws.FnTurn", spec := "fnTurn", unfollowed := true, recurses := true, apart := false }
def FnTurnSaid : Prop := fnTurnRow.holds Try.pinned (OpenSpec.ofChange fnTurnSpec)

/-- ITS FALSE NEIGHBOUR: 'it returns false'. Refute it at one input. -/
def fnTurnWrong : ChangeSpec := { name := "fnTurn", fn := fun _ => fun
  | [d] => { results := [.lit (.bool false)], args := [d] }
  | _ => none }
def FnTurnWrongFalsely : Prop := fnTurnRow.holds Try.pinned (OpenSpec.ofChange fnTurnWrong)

/-- 'laws.FnCircleBack': WHATEVER THE INPUT: true; the input reads as it did. -/
def fnCircleBackSpec : ChangeSpec := { name := "fnCircleBack", fn := fun _ => fun
  | [d] => { results := [.lit (.bool true)], args := [d] }
  | _ => none }
def fnCircleBackRow : OpenClaim := { program := "ytkdhifofdghbbaa", sum := "0a3af18a43b34fda2a3b03c6476017263d4e3eda14fd6ea99963ee7540399a3c", func := "loop.example/boxball/laws.FnCircleBack", spec := "fnCircleBack", unfollowed := true, recurses := true, apart := false }
def FnCircleBackSaid : Prop := fnCircleBackRow.holds Try.pinned (OpenSpec.ofChange fnCircleBackSpec)

/-- ITS FALSE NEIGHBOUR: 'it returns false'. Refute it at one input. -/
def fnCircleBackWrong : ChangeSpec := { name := "fnCircleBack", fn := fun _ => fun
  | [d] => { results := [.lit (.bool false)], args := [d] }
  | _ => none }
def FnCircleBackWrongFalsely : Prop := fnCircleBackRow.holds Try.pinned (OpenSpec.ofChange fnCircleBackWrong)

/-- 'laws.FnRotate': WHATEVER THE INPUT: true; the input reads as it did. -/
def fnRotateSpec : ChangeSpec := { name := "fnRotate", fn := fun _ => fun
  | [d] => { results := [.lit (.bool true)], args := [d] }
  | _ => none }
def fnRotateRow : OpenClaim := { program := "ytkdhifofdghbbaa", sum := "0a3af18a43b34fda2a3b03c6476017263d4e3eda14fd6ea99963ee7540399a3c", func := "loop.example/boxball/laws.FnRotate", spec := "fnRotate", unfollowed := true, recurses := true, apart := false }
def FnRotateSaid : Prop := fnRotateRow.holds Try.pinned (OpenSpec.ofChange fnRotateSpec)

/-- ITS FALSE NEIGHBOUR: 'it returns false'. Refute it at one input. -/
def fnRotateWrong : ChangeSpec := { name := "fnRotate", fn := fun _ => fun
  | [d] => { results := [.lit (.bool false)], args := [d] }
  | _ => none }
def FnRotateWrongFalsely : Prop := fnRotateRow.holds Try.pinned (OpenSpec.ofChange fnRotateWrong)

/-- 'laws.FnCircleShape': WHATEVER THE INPUT: true; the input reads as it did. -/
def fnCircleShapeSpec : ChangeSpec := { name := "fnCircleShape", fn := fun _ => fun
  | [d] => { results := [.lit (.bool true)], args := [d] }
  | _ => none }
def fnCircleShapeRow : OpenClaim := { program := "ytkdhifofdghbbaa", sum := "0a3af18a43b34fda2a3b03c6476017263d4e3eda14fd6ea99963ee7540399a3c", func := "loop.example/boxball/laws.FnCircleShape", spec := "fnCircleShape", unfollowed := true, recurses := true, apart := false }
def FnCircleShapeSaid : Prop := fnCircleShapeRow.holds Try.pinned (OpenSpec.ofChange fnCircleShapeSpec)

/-- ITS FALSE NEIGHBOUR: 'it returns false'. Refute it at one input. -/
def fnCircleShapeWrong : ChangeSpec := { name := "fnCircleShape", fn := fun _ => fun
  | [d] => { results := [.lit (.bool false)], args := [d] }
  | _ => none }
def FnCircleShapeWrongFalsely : Prop := fnCircleShapeRow.holds Try.pinned (OpenSpec.ofChange fnCircleShapeWrong)

/-- 'laws.FnPeriod': WHATEVER THE INPUT: true; the input reads as it did. -/
def fnPeriodSpec : ChangeSpec := { name := "fnPeriod", fn := fun _ => fun
  | [d] => { results := [.lit (.bool true)], args := [d] }
  | _ => none }
def fnPeriodRow : OpenClaim := { program := "ytkdhifofdghbbaa", sum := "0a3af18a43b34fda2a3b03c6476017263d4e3eda14fd6ea99963ee7540399a3c", func := "loop.example/boxball/laws.FnPeriod", spec := "fnPeriod", unfollowed := true, recurses := true, apart := false }
def FnPeriodSaid : Prop := fnPeriodRow.holds Try.pinned (OpenSpec.ofChange fnPeriodSpec)

/-- ITS FALSE NEIGHBOUR: 'it returns false'. Refute it at one input. -/
def fnPeriodWrong : ChangeSpec := { name := "fnPeriod", fn := fun _ => fun
  | [d] => { results := [.lit (.bool false)], args := [d] }
  | _ => none }
def FnPeriodWrongFalsely : Prop := fnPeriodRow.holds Try.pinned (OpenSpec.ofChange fnPeriodWrong)

/-- 'laws.FnLong': WHATEVER THE INPUT: true; the input reads as it did. -/
def fnLongSpec : ChangeSpec := { name := "fnLong", fn := fun _ => fun
  | [d] => { results := [.lit (.bool true)], args := [d] }
  | _ => none }
def fnLongRow : OpenClaim := { program := "ytkdhifofdghbbaa", sum := "0a3af18a43b34fda2a3b03c6476017263d4e3eda14fd6ea99963ee7540399a3c", func := "loop.example/boxball/laws.FnLong", spec := "fnLong", inPlace := ["internal/bytealg.MakeNoZero"], unfollowed := true, recurses := true, apart := false }
def FnLongSaid : Prop := fnLongRow.holds Try.pinned (OpenSpec.ofChange fnLongSpec)

/-- ITS FALSE NEIGHBOUR: 'it returns false'. Refute it at one input. -/
def fnLongWrong : ChangeSpec := { name := "fnLong", fn := fun _ => fun
  | [d] => { results := [.lit (.bool false)], args := [d] }
  | _ => none }
def FnLongWrongFalsely : Prop := fnLongRow.holds Try.pinned (OpenSpec.ofChange fnLongWrong)

/- THE SECOND FORM. 'bulk': how many values and letters a reading holds, each counted each time it is reached (what is shared counts as often as it is met; a slice's spare places count too). A statement '..UptoSaid' is the law's where the arguments, and the package variables that the reading takes, are together of bulk at most 1048576: NARROWER than '..Said'. Prove '..Said' where nothing that the law and all that it calls make is longer than what came in: it says more and counts as full. Else prove '..UptoSaid'. A law counts once. -/
mutual
def uptoBulk {H : Type} : DataW H → Nat
  | .lit (.string bytes) => bytes.length + 1
  | .lit _ => 1
  | .nil => 1
  | .ptr d => uptoBulk d + 1
  | .slice elems spare => uptoBulkAll elems + uptoBulkAll spare + 1
  | .agg parts => uptoBulkAll parts + 1
  | .iface _ d => uptoBulk d + 1
  | .map entries => uptoBulkEntries entries + 1
  | .held _ => 1
def uptoBulkAll {H : Type} : List (DataW H) → Nat
  | [] => 0
  | d :: r => uptoBulk d + uptoBulkAll r
def uptoBulkEntries {H : Type} : List (Lit × DataW H) → Nat
  | [] => 0
  | x :: r => uptoBulkEntry x + uptoBulkEntries r
def uptoBulkEntry {H : Type} : Lit × DataW H → Nat
  | (.string bytes, d) => bytes.length + uptoBulk d + 1
  | (_, d) => uptoBulk d + 1
 end
def uptoSmall : (H : Type) → List (DataW H) → Bool := fun _ ds => decide (uptoBulkAll ds ≤ 1048576)
def OpenSpec.upto (s : _root_.Go.ChangeSpec) : _root_.Go.OpenSpec := { _root_.Go.OpenSpec.ofChange s with cond := some uptoSmall }

/-- 'laws.FnCircle', WHERE WHAT IT READS IS OF BULK AT MOST 1048576: true; the input reads as it did. -/
def fnCircleUptoRow : OpenClaim := { program := "ytkdhifofdghbbaa", sum := "0a3af18a43b34fda2a3b03c6476017263d4e3eda14fd6ea99963ee7540399a3c", func := "loop.example/boxball/laws.FnCircle", spec := "fnCircle", unfollowed := true, recurses := true, apart := false, narrowed := true }
def FnCircleUptoSaid : Prop := fnCircleUptoRow.holds Try.pinned (OpenSpec.upto fnCircleSpec)

/-- 'laws.FnTurn', WHERE WHAT IT READS IS OF BULK AT MOST 1048576: true; the input reads as it did. -/
def fnTurnUptoRow : OpenClaim := { program := "ytkdhifofdghbbaa", sum := "0a3af18a43b34fda2a3b03c6476017263d4e3eda14fd6ea99963ee7540399a3c", func := "loop.example/boxball/laws.FnTurn", spec := "fnTurn", unfollowed := true, recurses := true, apart := false, narrowed := true }
def FnTurnUptoSaid : Prop := fnTurnUptoRow.holds Try.pinned (OpenSpec.upto fnTurnSpec)

/-- 'laws.FnCircleBack', WHERE WHAT IT READS IS OF BULK AT MOST 1048576: true; the input reads as it did. -/
def fnCircleBackUptoRow : OpenClaim := { program := "ytkdhifofdghbbaa", sum := "0a3af18a43b34fda2a3b03c6476017263d4e3eda14fd6ea99963ee7540399a3c", func := "loop.example/boxball/laws.FnCircleBack", spec := "fnCircleBack", unfollowed := true, recurses := true, apart := false, narrowed := true }
def FnCircleBackUptoSaid : Prop := fnCircleBackUptoRow.holds Try.pinned (OpenSpec.upto fnCircleBackSpec)

/-- 'laws.FnRotate', WHERE WHAT IT READS IS OF BULK AT MOST 1048576: true; the input reads as it did. -/
def fnRotateUptoRow : OpenClaim := { program := "ytkdhifofdghbbaa", sum := "0a3af18a43b34fda2a3b03c6476017263d4e3eda14fd6ea99963ee7540399a3c", func := "loop.example/boxball/laws.FnRotate", spec := "fnRotate", unfollowed := true, recurses := true, apart := false, narrowed := true }
def FnRotateUptoSaid : Prop := fnRotateUptoRow.holds Try.pinned (OpenSpec.upto fnRotateSpec)

/-- 'laws.FnCircleShape', WHERE WHAT IT READS IS OF BULK AT MOST 1048576: true; the input reads as it did. -/
def fnCircleShapeUptoRow : OpenClaim := { program := "ytkdhifofdghbbaa", sum := "0a3af18a43b34fda2a3b03c6476017263d4e3eda14fd6ea99963ee7540399a3c", func := "loop.example/boxball/laws.FnCircleShape", spec := "fnCircleShape", unfollowed := true, recurses := true, apart := false, narrowed := true }
def FnCircleShapeUptoSaid : Prop := fnCircleShapeUptoRow.holds Try.pinned (OpenSpec.upto fnCircleShapeSpec)

/-- 'laws.FnPeriod', WHERE WHAT IT READS IS OF BULK AT MOST 1048576: true; the input reads as it did. -/
def fnPeriodUptoRow : OpenClaim := { program := "ytkdhifofdghbbaa", sum := "0a3af18a43b34fda2a3b03c6476017263d4e3eda14fd6ea99963ee7540399a3c", func := "loop.example/boxball/laws.FnPeriod", spec := "fnPeriod", unfollowed := true, recurses := true, apart := false, narrowed := true }
def FnPeriodUptoSaid : Prop := fnPeriodUptoRow.holds Try.pinned (OpenSpec.upto fnPeriodSpec)

/-- 'laws.FnLong', WHERE WHAT IT READS IS OF BULK AT MOST 1048576: true; the input reads as it did. -/
def fnLongUptoRow : OpenClaim := { program := "ytkdhifofdghbbaa", sum := "0a3af18a43b34fda2a3b03c6476017263d4e3eda14fd6ea99963ee7540399a3c", func := "loop.example/boxball/laws.FnLong", spec := "fnLong", inPlace := ["internal/bytealg.MakeNoZero"], unfollowed := true, recurses := true, apart := false, narrowed := true }
def FnLongUptoSaid : Prop := fnLongUptoRow.holds Try.pinned (OpenSpec.upto fnLongSpec)

end Rows
end Go.Proofs.Ytkdhifofdghbbaa
