/-
  No cell of these rows narrows 'for every input' (looked for: loops, veiled, ifaces, maps, wideKeys, modest, calm, conditions, laid).
  DERIVED. THE GIVEN ROWS OF THIS SEAT. 6 by the template 'for every input the law returns true; each argument reads behind the call as it read before'; 0 by the template 'total and deterministic' (their statements: YtnaofghngpojgaaTotals.lean).
  GIVEN WITH THE SEED: the statements are not yours to turn. If you find one false, say at which input.
  Laid BY PROGRAM, IN A SANDBOX (cutbox-rows.mjs): the forced cells as the released guide's own fill.sh prints them over the translation 1ecb110a295d4303… (all of the seat's roots in one cut). By AI agents, Wed Nov 11 2026. No macro, syntax, notation, axiom, sorry.
-/
import Derived.Test.YtnaofghngpojgaaChecked
import GoSem.Claim
import GoSem.ClaimJoined
import GoSem.ClaimMapViews
import Derived.JoinedTies
import Derived.KernelRfl
namespace Go.Proofs.Ytnaofghngpojgaa
/- THE CELL 'sum', in the pinned program and in every row, IS THE sha256 OF THE DUMP (.gsa) THAT YtnaofghngpojgaaProg.lean LOADS. Nothing in Lean hashes anything: it is a label: what it is worth is what the hold of that sum in a sandbox is worth. -/
noncomputable def Try.pinned : Pinned := { name := "ytnaofghngpojgaa", sum := "1ecb110a295d4303280d4fb8718595b8559301af15198450e23421c804d6109c", checked := Try.checked }
namespace Rows
def none {H : Type} : Left H := { results := [], args := [] }

/-- 'laws.FnExactStepOf': WHATEVER THE INPUT: true; the input reads as it did. -/
def fnExactStepOfSpec : ChangeSpec := { name := "fnExactStepOf", fn := fun _ => fun
  | [d1, d2] => { results := [.lit (.bool true)], args := [d1, d2] }
  | _ => none }
def fnExactStepOfRow : OpenClaim := { program := "ytnaofghngpojgaa", sum := "1ecb110a295d4303280d4fb8718595b8559301af15198450e23421c804d6109c", func := "loop.example/boxball/laws.FnExactStepOf", spec := "fnExactStepOf", inPlace := ["internal/bytealg.MakeNoZero"], unfollowed := true, recurses := true, apart := false }
def FnExactStepOfSaid : Prop := fnExactStepOfRow.holds Try.pinned (OpenSpec.ofChange fnExactStepOfSpec)

/-- ITS FALSE NEIGHBOUR: 'it returns false'. Refute it at one input. -/
def fnExactStepOfWrong : ChangeSpec := { name := "fnExactStepOf", fn := fun _ => fun
  | [d1, d2] => { results := [.lit (.bool false)], args := [d1, d2] }
  | _ => none }
def FnExactStepOfWrongFalsely : Prop := fnExactStepOfRow.holds Try.pinned (OpenSpec.ofChange fnExactStepOfWrong)

/-- 'laws.FnExactStepLoads': WHATEVER THE INPUT: true; the input reads as it did. -/
def fnExactStepLoadsSpec : ChangeSpec := { name := "fnExactStepLoads", fn := fun _ => fun
  | [d1, d2] => { results := [.lit (.bool true)], args := [d1, d2] }
  | _ => none }
def fnExactStepLoadsRow : OpenClaim := { program := "ytnaofghngpojgaa", sum := "1ecb110a295d4303280d4fb8718595b8559301af15198450e23421c804d6109c", func := "loop.example/boxball/laws.FnExactStepLoads", spec := "fnExactStepLoads", unfollowed := true, recurses := true, apart := false }
def FnExactStepLoadsSaid : Prop := fnExactStepLoadsRow.holds Try.pinned (OpenSpec.ofChange fnExactStepLoadsSpec)

/-- ITS FALSE NEIGHBOUR: 'it returns false'. Refute it at one input. -/
def fnExactStepLoadsWrong : ChangeSpec := { name := "fnExactStepLoads", fn := fun _ => fun
  | [d1, d2] => { results := [.lit (.bool false)], args := [d1, d2] }
  | _ => none }
def FnExactStepLoadsWrongFalsely : Prop := fnExactStepLoadsRow.holds Try.pinned (OpenSpec.ofChange fnExactStepLoadsWrong)

/-- 'laws.FnExactStepTaken': WHATEVER THE INPUT: true; the input reads as it did. -/
def fnExactStepTakenSpec : ChangeSpec := { name := "fnExactStepTaken", fn := fun _ => fun
  | [d1, d2] => { results := [.lit (.bool true)], args := [d1, d2] }
  | _ => none }
def fnExactStepTakenRow : OpenClaim := { program := "ytnaofghngpojgaa", sum := "1ecb110a295d4303280d4fb8718595b8559301af15198450e23421c804d6109c", func := "loop.example/boxball/laws.FnExactStepTaken", spec := "fnExactStepTaken", unfollowed := true, recurses := true, apart := false }
def FnExactStepTakenSaid : Prop := fnExactStepTakenRow.holds Try.pinned (OpenSpec.ofChange fnExactStepTakenSpec)

/-- ITS FALSE NEIGHBOUR: 'it returns false'. Refute it at one input. -/
def fnExactStepTakenWrong : ChangeSpec := { name := "fnExactStepTaken", fn := fun _ => fun
  | [d1, d2] => { results := [.lit (.bool false)], args := [d1, d2] }
  | _ => none }
def FnExactStepTakenWrongFalsely : Prop := fnExactStepTakenRow.holds Try.pinned (OpenSpec.ofChange fnExactStepTakenWrong)

/-- 'laws.FnExactStepBack': WHATEVER THE INPUT: true; the input reads as it did. -/
def fnExactStepBackSpec : ChangeSpec := { name := "fnExactStepBack", fn := fun _ => fun
  | [d1, d2] => { results := [.lit (.bool true)], args := [d1, d2] }
  | _ => none }
def fnExactStepBackRow : OpenClaim := { program := "ytnaofghngpojgaa", sum := "1ecb110a295d4303280d4fb8718595b8559301af15198450e23421c804d6109c", func := "loop.example/boxball/laws.FnExactStepBack", spec := "fnExactStepBack", inPlace := ["internal/bytealg.MakeNoZero"], unfollowed := true, recurses := true, apart := false }
def FnExactStepBackSaid : Prop := fnExactStepBackRow.holds Try.pinned (OpenSpec.ofChange fnExactStepBackSpec)

/-- ITS FALSE NEIGHBOUR: 'it returns false'. Refute it at one input. -/
def fnExactStepBackWrong : ChangeSpec := { name := "fnExactStepBack", fn := fun _ => fun
  | [d1, d2] => { results := [.lit (.bool false)], args := [d1, d2] }
  | _ => none }
def FnExactStepBackWrongFalsely : Prop := fnExactStepBackRow.holds Try.pinned (OpenSpec.ofChange fnExactStepBackWrong)

/-- 'laws.FnExactStepMany': WHATEVER THE INPUT: true; the input reads as it did. -/
def fnExactStepManySpec : ChangeSpec := { name := "fnExactStepMany", fn := fun _ => fun
  | [d1, d2, d3] => { results := [.lit (.bool true)], args := [d1, d2, d3] }
  | _ => none }
def fnExactStepManyRow : OpenClaim := { program := "ytnaofghngpojgaa", sum := "1ecb110a295d4303280d4fb8718595b8559301af15198450e23421c804d6109c", func := "loop.example/boxball/laws.FnExactStepMany", spec := "fnExactStepMany", inPlace := ["internal/bytealg.MakeNoZero"], unfollowed := true, recurses := true, apart := false }
def FnExactStepManySaid : Prop := fnExactStepManyRow.holds Try.pinned (OpenSpec.ofChange fnExactStepManySpec)

/-- ITS FALSE NEIGHBOUR: 'it returns false'. Refute it at one input. -/
def fnExactStepManyWrong : ChangeSpec := { name := "fnExactStepMany", fn := fun _ => fun
  | [d1, d2, d3] => { results := [.lit (.bool false)], args := [d1, d2, d3] }
  | _ => none }
def FnExactStepManyWrongFalsely : Prop := fnExactStepManyRow.holds Try.pinned (OpenSpec.ofChange fnExactStepManyWrong)

/-- 'laws.FnExactStepGreat': WHATEVER THE INPUT: true; the input reads as it did. -/
def fnExactStepGreatSpec : ChangeSpec := { name := "fnExactStepGreat", fn := fun _ => fun
  | [d] => { results := [.lit (.bool true)], args := [d] }
  | _ => none }
def fnExactStepGreatRow : OpenClaim := { program := "ytnaofghngpojgaa", sum := "1ecb110a295d4303280d4fb8718595b8559301af15198450e23421c804d6109c", func := "loop.example/boxball/laws.FnExactStepGreat", spec := "fnExactStepGreat", inPlace := ["internal/bytealg.MakeNoZero"], unfollowed := true, recurses := true, apart := false }
def FnExactStepGreatSaid : Prop := fnExactStepGreatRow.holds Try.pinned (OpenSpec.ofChange fnExactStepGreatSpec)

/-- ITS FALSE NEIGHBOUR: 'it returns false'. Refute it at one input. -/
def fnExactStepGreatWrong : ChangeSpec := { name := "fnExactStepGreat", fn := fun _ => fun
  | [d] => { results := [.lit (.bool false)], args := [d] }
  | _ => none }
def FnExactStepGreatWrongFalsely : Prop := fnExactStepGreatRow.holds Try.pinned (OpenSpec.ofChange fnExactStepGreatWrong)

/- THE SECOND FORM. 'bulk': how many values and letters a reading holds, each counted each time it is reached (what is shared counts as often as it is met; a slice's spare places count too). A statement '..UptoSaid' is the law's where the arguments, and the package variables that the reading takes, are together of bulk at most 1048576: NARROWER than '..Said'. Prove '..Said' where nothing that the law and all that it calls make is longer than what came in: it says more and counts as full. Else prove '..UptoSaid'. A law counts once. -/
mutual
def uptoBulk {H : Type} : DataW H → Nat
  | .lit (.string bytes) => bytes.length + 1
  | .lit _ => 1
  | .nil => 1
  | .ptr d => uptoBulk d + 1
  | .slice elems spare => uptoBulkAll elems + uptoBulkAll spare + 1
  | .agg parts => uptoBulkAll parts + 1
  | .iface _ d => uptoBulk d + 1
  | .map entries => uptoBulkEntries entries + 1
  | .held _ => 1
def uptoBulkAll {H : Type} : List (DataW H) → Nat
  | [] => 0
  | d :: r => uptoBulk d + uptoBulkAll r
def uptoBulkEntries {H : Type} : List (Lit × DataW H) → Nat
  | [] => 0
  | x :: r => uptoBulkEntry x + uptoBulkEntries r
def uptoBulkEntry {H : Type} : Lit × DataW H → Nat
  | (.string bytes, d) => bytes.length + uptoBulk d + 1
  | (_, d) => uptoBulk d + 1
 end
def uptoSmall : (H : Type) → List (DataW H) → Bool := fun _ ds => decide (uptoBulkAll ds ≤ 1048576)
def OpenSpec.upto (s : _root_.Go.ChangeSpec) : _root_.Go.OpenSpec := { _root_.Go.OpenSpec.ofChange s with cond := some uptoSmall }

/-- 'laws.FnExactStepOf', WHERE WHAT IT READS IS OF BULK AT MOST 1048576: true; the input reads as it did. -/
def fnExactStepOfUptoRow : OpenClaim := { program := "ytnaofghngpojgaa", sum := "1ecb110a295d4303280d4fb8718595b8559301af15198450e23421c804d6109c", func := "loop.example/boxball/laws.FnExactStepOf", spec := "fnExactStepOf", inPlace := ["internal/bytealg.MakeNoZero"], unfollowed := true, recurses := true, apart := false, narrowed := true }
def FnExactStepOfUptoSaid : Prop := fnExactStepOfUptoRow.holds Try.pinned (OpenSpec.upto fnExactStepOfSpec)

/-- 'laws.FnExactStepLoads', WHERE WHAT IT READS IS OF BULK AT MOST 1048576: true; the input reads as it did. -/
def fnExactStepLoadsUptoRow : OpenClaim := { program := "ytnaofghngpojgaa", sum := "1ecb110a295d4303280d4fb8718595b8559301af15198450e23421c804d6109c", func := "loop.example/boxball/laws.FnExactStepLoads", spec := "fnExactStepLoads", unfollowed := true, recurses := true, apart := false, narrowed := true }
def FnExactStepLoadsUptoSaid : Prop := fnExactStepLoadsUptoRow.holds Try.pinned (OpenSpec.upto fnExactStepLoadsSpec)

/-- 'laws.FnExactStepTaken', WHERE WHAT IT READS IS OF BULK AT MOST 1048576: true; the input reads as it did. -/
def fnExactStepTakenUptoRow : OpenClaim := { program := "ytnaofghngpojgaa", sum := "1ecb110a295d4303280d4fb8718595b8559301af15198450e23421c804d6109c", func := "loop.example/boxball/laws.FnExactStepTaken", spec := "fnExactStepTaken", unfollowed := true, recurses := true, apart := false, narrowed := true }
def FnExactStepTakenUptoSaid : Prop := fnExactStepTakenUptoRow.holds Try.pinned (OpenSpec.upto fnExactStepTakenSpec)

/-- 'laws.FnExactStepBack', WHERE WHAT IT READS IS OF BULK AT MOST 1048576: true; the input reads as it did. -/
def fnExactStepBackUptoRow : OpenClaim := { program := "ytnaofghngpojgaa", sum := "1ecb110a295d4303280d4fb8718595b8559301af15198450e23421c804d6109c", func := "loop.example/boxball/laws.FnExactStepBack", spec := "fnExactStepBack", inPlace := ["internal/bytealg.MakeNoZero"], unfollowed := true, recurses := true, apart := false, narrowed := true }
def FnExactStepBackUptoSaid : Prop := fnExactStepBackUptoRow.holds Try.pinned (OpenSpec.upto fnExactStepBackSpec)

/-- 'laws.FnExactStepMany', WHERE WHAT IT READS IS OF BULK AT MOST 1048576: true; the input reads as it did. -/
def fnExactStepManyUptoRow : OpenClaim := { program := "ytnaofghngpojgaa", sum := "1ecb110a295d4303280d4fb8718595b8559301af15198450e23421c804d6109c", func := "loop.example/boxball/laws.FnExactStepMany", spec := "fnExactStepMany", inPlace := ["internal/bytealg.MakeNoZero"], unfollowed := true, recurses := true, apart := false, narrowed := true }
def FnExactStepManyUptoSaid : Prop := fnExactStepManyUptoRow.holds Try.pinned (OpenSpec.upto fnExactStepManySpec)

/-- 'laws.FnExactStepGreat', WHERE WHAT IT READS IS OF BULK AT MOST 1048576: true; the input reads as it did. -/
def fnExactStepGreatUptoRow : OpenClaim := { program := "ytnaofghngpojgaa", sum := "1ecb110a295d4303280d4fb8718595b8559301af15198450e23421c804d6109c", func := "loop.example/boxball/laws.FnExactStepGreat", spec := "fnExactStepGreat", inPlace := ["internal/bytealg.MakeNoZero"], unfollowed := true, recurses := true, apart := false, narrowed := true }
def FnExactStepGreatUptoSaid : Prop := fnExactStepGreatUptoRow.holds Try.pinned (OpenSpec.upto fnExactStepGreatSpec)

end Rows
end Go.Proofs.Ytnaofghngpojgaa
