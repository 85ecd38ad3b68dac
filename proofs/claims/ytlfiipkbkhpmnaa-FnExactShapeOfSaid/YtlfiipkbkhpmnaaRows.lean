/-
  No cell of these rows narrows 'for every input' (looked for: loops, veiled, ifaces, maps, wideKeys, modest, calm, conditions, laid).
  DERIVED. THE GIVEN ROWS OF THIS SEAT. 6 by the template 'for every input the law returns true; each argument reads behind the call as it read before'; 0 by the template 'total and deterministic' (their statements: YtlfiipkbkhpmnaaTotals.lean).
  GIVEN WITH THE SEED: the statements are not yours to turn. If you find one false, say at which input.
  Laid BY PROGRAM, IN A SANDBOX (cutbox-rows.mjs): the forced cells as the released guide's own fill.sh prints them over the translation 8afd23c2b397f846… (all of the seat's roots in one cut). By AI agents, Wed Nov 11 2026. No macro, syntax, notation, axiom, sorry.
-/
import Derived.Test.YtlfiipkbkhpmnaaChecked
import GoSem.Claim
import GoSem.ClaimJoined
import GoSem.ClaimMapViews
import Derived.JoinedTies
import Derived.KernelRfl
namespace Go.Proofs.Ytlfiipkbkhpmnaa
/- THE CELL 'sum', in the pinned program and in every row, IS THE sha256 OF THE DUMP (.gsa) THAT YtlfiipkbkhpmnaaProg.lean LOADS. Nothing in Lean hashes anything: it is a label: what it is worth is what the hold of that sum in a sandbox is worth. -/
noncomputable def Try.pinned : Pinned := { name := "ytlfiipkbkhpmnaa", sum := "8afd23c2b397f84689ae2425d3e68b02fa47ca27e0e01fdde5d4d668a8af66ee", checked := Try.checked }
namespace Rows
def none {H : Type} : Left H := { results := [], args := [] }

/-- 'laws.FnExactShapeRounds': WHATEVER THE INPUT: true; the input reads as it did. -/
def fnExactShapeRoundsSpec : ChangeSpec := { name := "fnExactShapeRounds", fn := fun _ => fun
  | [d] => { results := [.lit (.bool true)], args := [d] }
  | _ => none }
def fnExactShapeRoundsRow : OpenClaim := { program := "ytlfiipkbkhpmnaa", sum := "8afd23c2b397f84689ae2425d3e68b02fa47ca27e0e01fdde5d4d668a8af66ee", func := "loop.example/boxball/laws.FnExactShapeRounds", spec := "fnExactShapeRounds", unfollowed := true, recurses := true, apart := false }
def FnExactShapeRoundsSaid : Prop := fnExactShapeRoundsRow.holds Try.pinned (OpenSpec.ofChange fnExactShapeRoundsSpec)

/-- ITS FALSE NEIGHBOUR: 'it returns false'. Refute it at one input. -/
def fnExactShapeRoundsWrong : ChangeSpec := { name := "fnExactShapeRounds", fn := fun _ => fun
  | [d] => { results := [.lit (.bool false)], args := [d] }
  | _ => none }
def FnExactShapeRoundsWrongFalsely : Prop := fnExactShapeRoundsRow.holds Try.pinned (OpenSpec.ofChange fnExactShapeRoundsWrong)

/-- 'laws.FnExactShapeOf': WHATEVER THE INPUT: true; the input reads as it did. -/
def fnExactShapeOfSpec : ChangeSpec := { name := "fnExactShapeOf", fn := fun _ => fun
  | [d] => { results := [.lit (.bool true)], args := [d] }
  | _ => none }
def fnExactShapeOfRow : OpenClaim := { program := "ytlfiipkbkhpmnaa", sum := "8afd23c2b397f84689ae2425d3e68b02fa47ca27e0e01fdde5d4d668a8af66ee", func := "loop.example/boxball/laws.FnExactShapeOf", spec := "fnExactShapeOf", unfollowed := true, recurses := true, apart := false }
def FnExactShapeOfSaid : Prop := fnExactShapeOfRow.holds Try.pinned (OpenSpec.ofChange fnExactShapeOfSpec)

/-- ITS FALSE NEIGHBOUR: 'it returns false'. Refute it at one input. -/
def fnExactShapeOfWrong : ChangeSpec := { name := "fnExactShapeOf", fn := fun _ => fun
  | [d] => { results := [.lit (.bool false)], args := [d] }
  | _ => none }
def FnExactShapeOfWrongFalsely : Prop := fnExactShapeOfRow.holds Try.pinned (OpenSpec.ofChange fnExactShapeOfWrong)

/-- 'laws.FnExactShapeEnergy': WHATEVER THE INPUT: true; the input reads as it did. -/
def fnExactShapeEnergySpec : ChangeSpec := { name := "fnExactShapeEnergy", fn := fun _ => fun
  | [d1, d2] => { results := [.lit (.bool true)], args := [d1, d2] }
  | _ => none }
def fnExactShapeEnergyRow : OpenClaim := { program := "ytlfiipkbkhpmnaa", sum := "8afd23c2b397f84689ae2425d3e68b02fa47ca27e0e01fdde5d4d668a8af66ee", func := "loop.example/boxball/laws.FnExactShapeEnergy", spec := "fnExactShapeEnergy", unfollowed := true, recurses := true, apart := false }
def FnExactShapeEnergySaid : Prop := fnExactShapeEnergyRow.holds Try.pinned (OpenSpec.ofChange fnExactShapeEnergySpec)

/-- ITS FALSE NEIGHBOUR: 'it returns false'. Refute it at one input. -/
def fnExactShapeEnergyWrong : ChangeSpec := { name := "fnExactShapeEnergy", fn := fun _ => fun
  | [d1, d2] => { results := [.lit (.bool false)], args := [d1, d2] }
  | _ => none }
def FnExactShapeEnergyWrongFalsely : Prop := fnExactShapeEnergyRow.holds Try.pinned (OpenSpec.ofChange fnExactShapeEnergyWrong)

/-- 'laws.FnExactShapeRuns': WHATEVER THE INPUT: true; the input reads as it did. -/
def fnExactShapeRunsSpec : ChangeSpec := { name := "fnExactShapeRuns", fn := fun _ => fun
  | [d] => { results := [.lit (.bool true)], args := [d] }
  | _ => none }
def fnExactShapeRunsRow : OpenClaim := { program := "ytlfiipkbkhpmnaa", sum := "8afd23c2b397f84689ae2425d3e68b02fa47ca27e0e01fdde5d4d668a8af66ee", func := "loop.example/boxball/laws.FnExactShapeRuns", spec := "fnExactShapeRuns", unfollowed := true, recurses := true, apart := false }
def FnExactShapeRunsSaid : Prop := fnExactShapeRunsRow.holds Try.pinned (OpenSpec.ofChange fnExactShapeRunsSpec)

/-- ITS FALSE NEIGHBOUR: 'it returns false'. Refute it at one input. -/
def fnExactShapeRunsWrong : ChangeSpec := { name := "fnExactShapeRuns", fn := fun _ => fun
  | [d] => { results := [.lit (.bool false)], args := [d] }
  | _ => none }
def FnExactShapeRunsWrongFalsely : Prop := fnExactShapeRunsRow.holds Try.pinned (OpenSpec.ofChange fnExactShapeRunsWrong)

/-- 'laws.FnExactShapeApart': WHATEVER THE INPUT: true; the input reads as it did. -/
def fnExactShapeApartSpec : ChangeSpec := { name := "fnExactShapeApart", fn := fun _ => fun
  | [d] => { results := [.lit (.bool true)], args := [d] }
  | _ => none }
def fnExactShapeApartRow : OpenClaim := { program := "ytlfiipkbkhpmnaa", sum := "8afd23c2b397f84689ae2425d3e68b02fa47ca27e0e01fdde5d4d668a8af66ee", func := "loop.example/boxball/laws.FnExactShapeApart", spec := "fnExactShapeApart", unfollowed := true, recurses := true, apart := false }
def FnExactShapeApartSaid : Prop := fnExactShapeApartRow.holds Try.pinned (OpenSpec.ofChange fnExactShapeApartSpec)

/-- ITS FALSE NEIGHBOUR: 'it returns false'. Refute it at one input. -/
def fnExactShapeApartWrong : ChangeSpec := { name := "fnExactShapeApart", fn := fun _ => fun
  | [d] => { results := [.lit (.bool false)], args := [d] }
  | _ => none }
def FnExactShapeApartWrongFalsely : Prop := fnExactShapeApartRow.holds Try.pinned (OpenSpec.ofChange fnExactShapeApartWrong)

/-- 'laws.FnExactShapeRow': WHATEVER THE INPUT: true; the input reads as it did. -/
def fnExactShapeRowSpec : ChangeSpec := { name := "fnExactShapeRow", fn := fun _ => fun
  | [d] => { results := [.lit (.bool true)], args := [d] }
  | _ => none }
def fnExactShapeRowRow : OpenClaim := { program := "ytlfiipkbkhpmnaa", sum := "8afd23c2b397f84689ae2425d3e68b02fa47ca27e0e01fdde5d4d668a8af66ee", func := "loop.example/boxball/laws.FnExactShapeRow", spec := "fnExactShapeRow", inPlace := ["internal/bytealg.MakeNoZero"], unfollowed := true, recurses := true, apart := false }
def FnExactShapeRowSaid : Prop := fnExactShapeRowRow.holds Try.pinned (OpenSpec.ofChange fnExactShapeRowSpec)

/-- ITS FALSE NEIGHBOUR: 'it returns false'. Refute it at one input. -/
def fnExactShapeRowWrong : ChangeSpec := { name := "fnExactShapeRow", fn := fun _ => fun
  | [d] => { results := [.lit (.bool false)], args := [d] }
  | _ => none }
def FnExactShapeRowWrongFalsely : Prop := fnExactShapeRowRow.holds Try.pinned (OpenSpec.ofChange fnExactShapeRowWrong)

/- THE SECOND FORM. 'bulk': how many values and letters a reading holds, each counted each time it is reached (what is shared counts as often as it is met; a slice's spare places count too). A statement '..UptoSaid' is the law's where the arguments, and the package variables that the reading takes, are together of bulk at most 1048576: NARROWER than '..Said'. Prove '..Said' where nothing that the law and all that it calls make is longer than what came in: it says more and counts as full. Else prove '..UptoSaid'. A law counts once. -/
mutual
def uptoBulk {H : Type} : DataW H → Nat
  | .lit (.string bytes) => bytes.length + 1
  | .lit _ => 1
  | .nil => 1
  | .ptr d => uptoBulk d + 1
  | .slice elems spare => uptoBulkAll elems + uptoBulkAll spare + 1
  | .agg parts => uptoBulkAll parts + 1
  | .iface _ d => uptoBulk d + 1
  | .map entries => uptoBulkEntries entries + 1
  | .held _ => 1
def uptoBulkAll {H : Type} : List (DataW H) → Nat
  | [] => 0
  | d :: r => uptoBulk d + uptoBulkAll r
def uptoBulkEntries {H : Type} : List (Lit × DataW H) → Nat
  | [] => 0
  | x :: r => uptoBulkEntry x + uptoBulkEntries r
def uptoBulkEntry {H : Type} : Lit × DataW H → Nat
  | (.string bytes, d) => bytes.length + uptoBulk d + 1
  | (_, d) => uptoBulk d + 1
 end
def uptoSmall : (H : Type) → List (DataW H) → Bool := fun _ ds => decide (uptoBulkAll ds ≤ 1048576)
def OpenSpec.upto (s : _root_.Go.ChangeSpec) : _root_.Go.OpenSpec := { _root_.Go.OpenSpec.ofChange s with cond := some uptoSmall }

/-- 'laws.FnExactShapeRounds', WHERE WHAT IT READS IS OF BULK AT MOST 1048576: true; the input reads as it did. -/
def fnExactShapeRoundsUptoRow : OpenClaim := { program := "ytlfiipkbkhpmnaa", sum := "8afd23c2b397f84689ae2425d3e68b02fa47ca27e0e01fdde5d4d668a8af66ee", func := "loop.example/boxball/laws.FnExactShapeRounds", spec := "fnExactShapeRounds", unfollowed := true, recurses := true, apart := false, narrowed := true }
def FnExactShapeRoundsUptoSaid : Prop := fnExactShapeRoundsUptoRow.holds Try.pinned (OpenSpec.upto fnExactShapeRoundsSpec)

/-- 'laws.FnExactShapeOf', WHERE WHAT IT READS IS OF BULK AT MOST 1048576: true; the input reads as it did. -/
def fnExactShapeOfUptoRow : OpenClaim := { program := "ytlfiipkbkhpmnaa", sum := "8afd23c2b397f84689ae2425d3e68b02fa47ca27e0e01fdde5d4d668a8af66ee", func := "loop.example/boxball/laws.FnExactShapeOf", spec := "fnExactShapeOf", unfollowed := true, recurses := true, apart := false, narrowed := true }
def FnExactShapeOfUptoSaid : Prop := fnExactShapeOfUptoRow.holds Try.pinned (OpenSpec.upto fnExactShapeOfSpec)

/-- 'laws.FnExactShapeEnergy', WHERE WHAT IT READS IS OF BULK AT MOST 1048576: true; the input reads as it did. -/
def fnExactShapeEnergyUptoRow : OpenClaim := { program := "ytlfiipkbkhpmnaa", sum := "8afd23c2b397f84689ae2425d3e68b02fa47ca27e0e01fdde5d4d668a8af66ee", func := "loop.example/boxball/laws.FnExactShapeEnergy", spec := "fnExactShapeEnergy", unfollowed := true, recurses := true, apart := false, narrowed := true }
def FnExactShapeEnergyUptoSaid : Prop := fnExactShapeEnergyUptoRow.holds Try.pinned (OpenSpec.upto fnExactShapeEnergySpec)

/-- 'laws.FnExactShapeRuns', WHERE WHAT IT READS IS OF BULK AT MOST 1048576: true; the input reads as it did. -/
def fnExactShapeRunsUptoRow : OpenClaim := { program := "ytlfiipkbkhpmnaa", sum := "8afd23c2b397f84689ae2425d3e68b02fa47ca27e0e01fdde5d4d668a8af66ee", func := "loop.example/boxball/laws.FnExactShapeRuns", spec := "fnExactShapeRuns", unfollowed := true, recurses := true, apart := false, narrowed := true }
def FnExactShapeRunsUptoSaid : Prop := fnExactShapeRunsUptoRow.holds Try.pinned (OpenSpec.upto fnExactShapeRunsSpec)

/-- 'laws.FnExactShapeApart', WHERE WHAT IT READS IS OF BULK AT MOST 1048576: true; the input reads as it did. -/
def fnExactShapeApartUptoRow : OpenClaim := { program := "ytlfiipkbkhpmnaa", sum := "8afd23c2b397f84689ae2425d3e68b02fa47ca27e0e01fdde5d4d668a8af66ee", func := "loop.example/boxball/laws.FnExactShapeApart", spec := "fnExactShapeApart", unfollowed := true, recurses := true, apart := false, narrowed := true }
def FnExactShapeApartUptoSaid : Prop := fnExactShapeApartUptoRow.holds Try.pinned (OpenSpec.upto fnExactShapeApartSpec)

/-- 'laws.FnExactShapeRow', WHERE WHAT IT READS IS OF BULK AT MOST 1048576: true; the input reads as it did. -/
def fnExactShapeRowUptoRow : OpenClaim := { program := "ytlfiipkbkhpmnaa", sum := "8afd23c2b397f84689ae2425d3e68b02fa47ca27e0e01fdde5d4d668a8af66ee", func := "loop.example/boxball/laws.FnExactShapeRow", spec := "fnExactShapeRow", inPlace := ["internal/bytealg.MakeNoZero"], unfollowed := true, recurses := true, apart := false, narrowed := true }
def FnExactShapeRowUptoSaid : Prop := fnExactShapeRowUptoRow.holds Try.pinned (OpenSpec.upto fnExactShapeRowSpec)

end Rows
end Go.Proofs.Ytlfiipkbkhpmnaa
