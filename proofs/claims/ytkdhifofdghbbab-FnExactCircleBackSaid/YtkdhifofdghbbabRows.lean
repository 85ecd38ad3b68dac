/-
  No cell of these rows narrows 'for every input' (looked for: loops, veiled, ifaces, maps, wideKeys, modest, calm, conditions, laid).
  DERIVED. THE GIVEN ROWS OF THIS SEAT. 6 by the template 'for every input the law returns true; each argument reads behind the call as it read before'; 0 by the template 'total and deterministic' (their statements: YtkdhifofdghbbabTotals.lean).
  GIVEN WITH THE SEED: the statements are not yours to turn. If you find one false, say at which input.
  Laid BY PROGRAM, IN A SANDBOX (cutbox-rows.mjs): the forced cells as the released guide's own fill.sh prints them over the translation b459ce01bda33543… (all of the seat's roots in one cut). By AI agents, Wed Nov 11 2026. No macro, syntax, notation, axiom, sorry.
-/
import Derived.Test.YtkdhifofdghbbabChecked
import GoSem.Claim
import GoSem.ClaimJoined
import GoSem.ClaimMapViews
import Derived.JoinedTies
import Derived.KernelRfl
namespace Go.Proofs.Ytkdhifofdghbbab
/- THE CELL 'sum', in the pinned program and in every row, IS THE sha256 OF THE DUMP (.gsa) THAT YtkdhifofdghbbabProg.lean LOADS. Nothing in Lean hashes anything: it is a label: what it is worth is what the hold of that sum in a sandbox is worth. -/
noncomputable def Try.pinned : Pinned := { name := "ytkdhifofdghbbab", sum := "b459ce01bda3354307ee4d2d1d0a41c0fb8b26309fd1621db186126694dcd128", checked := Try.checked }
namespace Rows
def none {H : Type} : Left H := { results := [], args := [] }

/-- 'laws.FnExactCircleIn': WHATEVER THE INPUT: true; the input reads as it did. -/
def fnExactCircleInSpec : ChangeSpec := { name := "fnExactCircleIn", fn := fun _ => fun
  | [d] => { results := [.lit (.bool true)], args := [d] }
  | _ => none }
def fnExactCircleInRow : OpenClaim := { program := "ytkdhifofdghbbab", sum := "b459ce01bda3354307ee4d2d1d0a41c0fb8b26309fd1621db186126694dcd128", func := "loop.example/boxball/laws.FnExactCircleIn", spec := "fnExactCircleIn", unfollowed := true, recurses := true, apart := false }
def FnExactCircleInSaid : Prop := fnExactCircleInRow.holds Try.pinned (OpenSpec.ofChange fnExactCircleInSpec)

/-- ITS FALSE NEIGHBOUR: 'it returns false'. Refute it at one input. -/
def fnExactCircleInWrong : ChangeSpec := { name := "fnExactCircleIn", fn := fun _ => fun
  | [d] => { results := [.lit (.bool false)], args := [d] }
  | _ => none }
def FnExactCircleInWrongFalsely : Prop := fnExactCircleInRow.holds Try.pinned (OpenSpec.ofChange fnExactCircleInWrong)

/-- 'laws.FnExactCircleTurn': WHATEVER THE INPUT: true; the input reads as it did. -/
def fnExactCircleTurnSpec : ChangeSpec := { name := "fnExactCircleTurn", fn := fun _ => fun
  | [d] => { results := [.lit (.bool true)], args := [d] }
  | _ => none }
def fnExactCircleTurnRow : OpenClaim := { program := "ytkdhifofdghbbab", sum := "b459ce01bda3354307ee4d2d1d0a41c0fb8b26309fd1621db186126694dcd128", func := "loop.example/boxball/laws.FnExactCircleTurn", spec := "fnExactCircleTurn", unfollowed := true, recurses := true, apart := false }
def FnExactCircleTurnSaid : Prop := fnExactCircleTurnRow.holds Try.pinned (OpenSpec.ofChange fnExactCircleTurnSpec)

/-- ITS FALSE NEIGHBOUR: 'it returns false'. Refute it at one input. -/
def fnExactCircleTurnWrong : ChangeSpec := { name := "fnExactCircleTurn", fn := fun _ => fun
  | [d] => { results := [.lit (.bool false)], args := [d] }
  | _ => none }
def FnExactCircleTurnWrongFalsely : Prop := fnExactCircleTurnRow.holds Try.pinned (OpenSpec.ofChange fnExactCircleTurnWrong)

/-- 'laws.FnExactCircleBack': WHATEVER THE INPUT: true; the input reads as it did. -/
def fnExactCircleBackSpec : ChangeSpec := { name := "fnExactCircleBack", fn := fun _ => fun
  | [d] => { results := [.lit (.bool true)], args := [d] }
  | _ => none }
def fnExactCircleBackRow : OpenClaim := { program := "ytkdhifofdghbbab", sum := "b459ce01bda3354307ee4d2d1d0a41c0fb8b26309fd1621db186126694dcd128", func := "loop.example/boxball/laws.FnExactCircleBack", spec := "fnExactCircleBack", unfollowed := true, recurses := true, apart := false }
def FnExactCircleBackSaid : Prop := fnExactCircleBackRow.holds Try.pinned (OpenSpec.ofChange fnExactCircleBackSpec)

/-- ITS FALSE NEIGHBOUR: 'it returns false'. Refute it at one input. -/
def fnExactCircleBackWrong : ChangeSpec := { name := "fnExactCircleBack", fn := fun _ => fun
  | [d] => { results := [.lit (.bool false)], args := [d] }
  | _ => none }
def FnExactCircleBackWrongFalsely : Prop := fnExactCircleBackRow.holds Try.pinned (OpenSpec.ofChange fnExactCircleBackWrong)

/-- 'laws.FnExactCircleRotate': WHATEVER THE INPUT: true; the input reads as it did. -/
def fnExactCircleRotateSpec : ChangeSpec := { name := "fnExactCircleRotate", fn := fun _ => fun
  | [d1, d2] => { results := [.lit (.bool true)], args := [d1, d2] }
  | _ => none }
def fnExactCircleRotateRow : OpenClaim := { program := "ytkdhifofdghbbab", sum := "b459ce01bda3354307ee4d2d1d0a41c0fb8b26309fd1621db186126694dcd128", func := "loop.example/boxball/laws.FnExactCircleRotate", spec := "fnExactCircleRotate", unfollowed := true, recurses := true, apart := false }
def FnExactCircleRotateSaid : Prop := fnExactCircleRotateRow.holds Try.pinned (OpenSpec.ofChange fnExactCircleRotateSpec)

/-- ITS FALSE NEIGHBOUR: 'it returns false'. Refute it at one input. -/
def fnExactCircleRotateWrong : ChangeSpec := { name := "fnExactCircleRotate", fn := fun _ => fun
  | [d1, d2] => { results := [.lit (.bool false)], args := [d1, d2] }
  | _ => none }
def FnExactCircleRotateWrongFalsely : Prop := fnExactCircleRotateRow.holds Try.pinned (OpenSpec.ofChange fnExactCircleRotateWrong)

/-- 'laws.FnExactCircleShape': WHATEVER THE INPUT: true; the input reads as it did. -/
def fnExactCircleShapeSpec : ChangeSpec := { name := "fnExactCircleShape", fn := fun _ => fun
  | [d] => { results := [.lit (.bool true)], args := [d] }
  | _ => none }
def fnExactCircleShapeRow : OpenClaim := { program := "ytkdhifofdghbbab", sum := "b459ce01bda3354307ee4d2d1d0a41c0fb8b26309fd1621db186126694dcd128", func := "loop.example/boxball/laws.FnExactCircleShape", spec := "fnExactCircleShape", unfollowed := true, recurses := true, apart := false }
def FnExactCircleShapeSaid : Prop := fnExactCircleShapeRow.holds Try.pinned (OpenSpec.ofChange fnExactCircleShapeSpec)

/-- ITS FALSE NEIGHBOUR: 'it returns false'. Refute it at one input. -/
def fnExactCircleShapeWrong : ChangeSpec := { name := "fnExactCircleShape", fn := fun _ => fun
  | [d] => { results := [.lit (.bool false)], args := [d] }
  | _ => none }
def FnExactCircleShapeWrongFalsely : Prop := fnExactCircleShapeRow.holds Try.pinned (OpenSpec.ofChange fnExactCircleShapeWrong)

/-- 'laws.FnExactCirclePeriod': WHATEVER THE INPUT: true; the input reads as it did. -/
def fnExactCirclePeriodSpec : ChangeSpec := { name := "fnExactCirclePeriod", fn := fun _ => fun
  | [d] => { results := [.lit (.bool true)], args := [d] }
  | _ => none }
def fnExactCirclePeriodRow : OpenClaim := { program := "ytkdhifofdghbbab", sum := "b459ce01bda3354307ee4d2d1d0a41c0fb8b26309fd1621db186126694dcd128", func := "loop.example/boxball/laws.FnExactCirclePeriod", spec := "fnExactCirclePeriod", unfollowed := true, recurses := true, apart := false }
def FnExactCirclePeriodSaid : Prop := fnExactCirclePeriodRow.holds Try.pinned (OpenSpec.ofChange fnExactCirclePeriodSpec)

/-- ITS FALSE NEIGHBOUR: 'it returns false'. Refute it at one input. -/
def fnExactCirclePeriodWrong : ChangeSpec := { name := "fnExactCirclePeriod", fn := fun _ => fun
  | [d] => { results := [.lit (.bool false)], args := [d] }
  | _ => none }
def FnExactCirclePeriodWrongFalsely : Prop := fnExactCirclePeriodRow.holds Try.pinned (OpenSpec.ofChange fnExactCirclePeriodWrong)

/- THE SECOND FORM. 'bulk': how many values and letters a reading holds, each counted each time it is reached (what is shared counts as often as it is met; a slice's spare places count too). A statement '..UptoSaid' is the law's where the arguments, and the package variables that the reading takes, are together of bulk at most 1048576: NARROWER than '..Said'. Prove '..Said' where nothing that the law and all that it calls make is longer than what came in: it says more and counts as full. Else prove '..UptoSaid'. A law counts once. -/
mutual
def uptoBulk {H : Type} : DataW H → Nat
  | .lit (.string bytes) => bytes.length + 1
  | .lit _ => 1
  | .nil => 1
  | .ptr d => uptoBulk d + 1
  | .slice elems spare => uptoBulkAll elems + uptoBulkAll spare + 1
  | .agg parts => uptoBulkAll parts + 1
  | .iface _ d => uptoBulk d + 1
  | .map entries => uptoBulkEntries entries + 1
  | .held _ => 1
def uptoBulkAll {H : Type} : List (DataW H) → Nat
  | [] => 0
  | d :: r => uptoBulk d + uptoBulkAll r
def uptoBulkEntries {H : Type} : List (Lit × DataW H) → Nat
  | [] => 0
  | x :: r => uptoBulkEntry x + uptoBulkEntries r
def uptoBulkEntry {H : Type} : Lit × DataW H → Nat
  | (.string bytes, d) => bytes.length + uptoBulk d + 1
  | (_, d) => uptoBulk d + 1
 end
def uptoSmall : (H : Type) → List (DataW H) → Bool := fun _ ds => decide (uptoBulkAll ds ≤ 1048576)
def OpenSpec.upto (s : _root_.Go.ChangeSpec) : _root_.Go.OpenSpec := { _root_.Go.OpenSpec.ofChange s with cond := some uptoSmall }

/-- 'laws.FnExactCircleIn', WHERE WHAT IT READS IS OF BULK AT MOST 1048576: true; the input reads as it did. -/
def fnExactCircleInUptoRow : OpenClaim := { program := "ytkdhifofdghbbab", sum := "b459ce01bda3354307ee4d2d1d0a41c0fb8b26309fd1621db186126694dcd128", func := "loop.example/boxball/laws.FnExactCircleIn", spec := "fnExactCircleIn", unfollowed := true, recurses := true, apart := false, narrowed := true }
def FnExactCircleInUptoSaid : Prop := fnExactCircleInUptoRow.holds Try.pinned (OpenSpec.upto fnExactCircleInSpec)

/-- 'laws.FnExactCircleTurn', WHERE WHAT IT READS IS OF BULK AT MOST 1048576: true; the input reads as it did. -/
def fnExactCircleTurnUptoRow : OpenClaim := { program := "ytkdhifofdghbbab", sum := "b459ce01bda3354307ee4d2d1d0a41c0fb8b26309fd1621db186126694dcd128", func := "loop.example/boxball/laws.FnExactCircleTurn", spec := "fnExactCircleTurn", unfollowed := true, recurses := true, apart := false, narrowed := true }
def FnExactCircleTurnUptoSaid : Prop := fnExactCircleTurnUptoRow.holds Try.pinned (OpenSpec.upto fnExactCircleTurnSpec)

/-- 'laws.FnExactCircleBack', WHERE WHAT IT READS IS OF BULK AT MOST 1048576: true; the input reads as it did. -/
def fnExactCircleBackUptoRow : OpenClaim := { program := "ytkdhifofdghbbab", sum := "b459ce01bda3354307ee4d2d1d0a41c0fb8b26309fd1621db186126694dcd128", func := "loop.example/boxball/laws.FnExactCircleBack", spec := "fnExactCircleBack", unfollowed := true, recurses := true, apart := false, narrowed := true }
def FnExactCircleBackUptoSaid : Prop := fnExactCircleBackUptoRow.holds Try.pinned (OpenSpec.upto fnExactCircleBackSpec)

/-- 'laws.FnExactCircleRotate', WHERE WHAT IT READS IS OF BULK AT MOST 1048576: true; the input reads as it did. -/
def fnExactCircleRotateUptoRow : OpenClaim := { program := "ytkdhifofdghbbab", sum := "b459ce01bda3354307ee4d2d1d0a41c0fb8b26309fd1621db186126694dcd128", func := "loop.example/boxball/laws.FnExactCircleRotate", spec := "fnExactCircleRotate", unfollowed := true, recurses := true, apart := false, narrowed := true }
def FnExactCircleRotateUptoSaid : Prop := fnExactCircleRotateUptoRow.holds Try.pinned (OpenSpec.upto fnExactCircleRotateSpec)

/-- 'laws.FnExactCircleShape', WHERE WHAT IT READS IS OF BULK AT MOST 1048576: true; the input reads as it did. -/
def fnExactCircleShapeUptoRow : OpenClaim := { program := "ytkdhifofdghbbab", sum := "b459ce01bda3354307ee4d2d1d0a41c0fb8b26309fd1621db186126694dcd128", func := "loop.example/boxball/laws.FnExactCircleShape", spec := "fnExactCircleShape", unfollowed := true, recurses := true, apart := false, narrowed := true }
def FnExactCircleShapeUptoSaid : Prop := fnExactCircleShapeUptoRow.holds Try.pinned (OpenSpec.upto fnExactCircleShapeSpec)

/-- 'laws.FnExactCirclePeriod', WHERE WHAT IT READS IS OF BULK AT MOST 1048576: true; the input reads as it did. -/
def fnExactCirclePeriodUptoRow : OpenClaim := { program := "ytkdhifofdghbbab", sum := "b459ce01bda3354307ee4d2d1d0a41c0fb8b26309fd1621db186126694dcd128", func := "loop.example/boxball/laws.FnExactCirclePeriod", spec := "fnExactCirclePeriod", unfollowed := true, recurses := true, apart := false, narrowed := true }
def FnExactCirclePeriodUptoSaid : Prop := fnExactCirclePeriodUptoRow.holds Try.pinned (OpenSpec.upto fnExactCirclePeriodSpec)

end Rows
end Go.Proofs.Ytkdhifofdghbbab
