/-
  No cell of these rows narrows 'for every input' (looked for: loops, veiled, ifaces, maps, wideKeys, modest, calm, conditions, laid).
  DERIVED. THE GIVEN ROWS OF THIS SEAT. 5 by the template 'for every input the law returns true; each argument reads behind the call as it read before'; 0 by the template 'total and deterministic' (their statements: YtlgceccbjkkeiabTotals.lean).
  GIVEN WITH THE SEED: the statements are not yours to turn. If you find one false, say at which input.
  Laid BY PROGRAM, IN A SANDBOX (cutbox-rows.mjs): the forced cells as the released guide's own fill.sh prints them over the translation 8af02f140c8f8fc1… (all of the seat's roots in one cut). By AI agents, Wed Nov 11 2026. No macro, syntax, notation, axiom, sorry.
-/
import Derived.Test.YtlgceccbjkkeiabChecked
import GoSem.Claim
import GoSem.ClaimJoined
import GoSem.ClaimMapViews
import Derived.JoinedTies
import Derived.KernelRfl
namespace Go.Proofs.Ytlgceccbjkkeiab
/- THE CELL 'sum', in the pinned program and in every row, IS THE sha256 OF THE DUMP (.gsa) THAT YtlgceccbjkkeiabProg.lean LOADS. Nothing in Lean hashes anything: it is a label: what it is worth is what the hold of that sum in a sandbox is worth. -/
noncomputable def Try.pinned : Pinned := { name := "ytlgceccbjkkeiab", sum := "8af02f140c8f8fc1c2934bc876c001c43fdc5e077b26e11b3a7c2ae1c3b3f205", checked := Try.checked }
namespace Rows
def none {H : Type} : Left H := { results := [], args := [] }

/-- 'laws.FnExactWaveIn': WHATEVER THE INPUT: true; the input reads as it did. -/
def fnExactWaveInSpec : ChangeSpec := { name := "fnExactWaveIn", fn := fun _ => fun
  | [d1, d2, d3] => { results := [.lit (.bool true)], args := [d1, d2, d3] }
  | _ => none }
def fnExactWaveInRow : OpenClaim := { program := "ytlgceccbjkkeiab", sum := "8af02f140c8f8fc1c2934bc876c001c43fdc5e077b26e11b3a7c2ae1c3b3f205", func := "loop.example/boxball/laws.FnExactWaveIn", spec := "fnExactWaveIn", unfollowed := true, recurses := true, apart := false }
def FnExactWaveInSaid : Prop := fnExactWaveInRow.holds Try.pinned (OpenSpec.ofChange fnExactWaveInSpec)

/-- ITS FALSE NEIGHBOUR: 'it returns false'. Refute it at one input. -/
def fnExactWaveInWrong : ChangeSpec := { name := "fnExactWaveIn", fn := fun _ => fun
  | [d1, d2, d3] => { results := [.lit (.bool false)], args := [d1, d2, d3] }
  | _ => none }
def FnExactWaveInWrongFalsely : Prop := fnExactWaveInRow.holds Try.pinned (OpenSpec.ofChange fnExactWaveInWrong)

/-- 'laws.FnExactWaveOf': WHATEVER THE INPUT: true; the input reads as it did. -/
def fnExactWaveOfSpec : ChangeSpec := { name := "fnExactWaveOf", fn := fun _ => fun
  | [d] => { results := [.lit (.bool true)], args := [d] }
  | _ => none }
def fnExactWaveOfRow : OpenClaim := { program := "ytlgceccbjkkeiab", sum := "8af02f140c8f8fc1c2934bc876c001c43fdc5e077b26e11b3a7c2ae1c3b3f205", func := "loop.example/boxball/laws.FnExactWaveOf", spec := "fnExactWaveOf", unfollowed := true, recurses := true, apart := false }
def FnExactWaveOfSaid : Prop := fnExactWaveOfRow.holds Try.pinned (OpenSpec.ofChange fnExactWaveOfSpec)

/-- ITS FALSE NEIGHBOUR: 'it returns false'. Refute it at one input. -/
def fnExactWaveOfWrong : ChangeSpec := { name := "fnExactWaveOf", fn := fun _ => fun
  | [d] => { results := [.lit (.bool false)], args := [d] }
  | _ => none }
def FnExactWaveOfWrongFalsely : Prop := fnExactWaveOfRow.holds Try.pinned (OpenSpec.ofChange fnExactWaveOfWrong)

/-- 'laws.FnExactWaveRow': WHATEVER THE INPUT: true; the input reads as it did. -/
def fnExactWaveRowSpec : ChangeSpec := { name := "fnExactWaveRow", fn := fun _ => fun
  | [d1, d2, d3] => { results := [.lit (.bool true)], args := [d1, d2, d3] }
  | _ => none }
def fnExactWaveRowRow : OpenClaim := { program := "ytlgceccbjkkeiab", sum := "8af02f140c8f8fc1c2934bc876c001c43fdc5e077b26e11b3a7c2ae1c3b3f205", func := "loop.example/boxball/laws.FnExactWaveRow", spec := "fnExactWaveRow", inPlace := ["internal/bytealg.MakeNoZero"], unfollowed := true, recurses := true, apart := false }
def FnExactWaveRowSaid : Prop := fnExactWaveRowRow.holds Try.pinned (OpenSpec.ofChange fnExactWaveRowSpec)

/-- ITS FALSE NEIGHBOUR: 'it returns false'. Refute it at one input. -/
def fnExactWaveRowWrong : ChangeSpec := { name := "fnExactWaveRow", fn := fun _ => fun
  | [d1, d2, d3] => { results := [.lit (.bool false)], args := [d1, d2, d3] }
  | _ => none }
def FnExactWaveRowWrongFalsely : Prop := fnExactWaveRowRow.holds Try.pinned (OpenSpec.ofChange fnExactWaveRowWrong)

/-- 'laws.FnExactWaveNext': WHATEVER THE INPUT: true; the input reads as it did. -/
def fnExactWaveNextSpec : ChangeSpec := { name := "fnExactWaveNext", fn := fun _ => fun
  | [d1, d2, d3] => { results := [.lit (.bool true)], args := [d1, d2, d3] }
  | _ => none }
def fnExactWaveNextRow : OpenClaim := { program := "ytlgceccbjkkeiab", sum := "8af02f140c8f8fc1c2934bc876c001c43fdc5e077b26e11b3a7c2ae1c3b3f205", func := "loop.example/boxball/laws.FnExactWaveNext", spec := "fnExactWaveNext", unfollowed := true, recurses := true, apart := false }
def FnExactWaveNextSaid : Prop := fnExactWaveNextRow.holds Try.pinned (OpenSpec.ofChange fnExactWaveNextSpec)

/-- ITS FALSE NEIGHBOUR: 'it returns false'. Refute it at one input. -/
def fnExactWaveNextWrong : ChangeSpec := { name := "fnExactWaveNext", fn := fun _ => fun
  | [d1, d2, d3] => { results := [.lit (.bool false)], args := [d1, d2, d3] }
  | _ => none }
def FnExactWaveNextWrongFalsely : Prop := fnExactWaveNextRow.holds Try.pinned (OpenSpec.ofChange fnExactWaveNextWrong)

/-- 'laws.FnExactWaveSum': WHATEVER THE INPUT: true; the input reads as it did. -/
def fnExactWaveSumSpec : ChangeSpec := { name := "fnExactWaveSum", fn := fun _ => fun
  | [d1, d2, d3] => { results := [.lit (.bool true)], args := [d1, d2, d3] }
  | _ => none }
def fnExactWaveSumRow : OpenClaim := { program := "ytlgceccbjkkeiab", sum := "8af02f140c8f8fc1c2934bc876c001c43fdc5e077b26e11b3a7c2ae1c3b3f205", func := "loop.example/boxball/laws.FnExactWaveSum", spec := "fnExactWaveSum", unfollowed := true, recurses := true, apart := false }
def FnExactWaveSumSaid : Prop := fnExactWaveSumRow.holds Try.pinned (OpenSpec.ofChange fnExactWaveSumSpec)

/-- ITS FALSE NEIGHBOUR: 'it returns false'. Refute it at one input. -/
def fnExactWaveSumWrong : ChangeSpec := { name := "fnExactWaveSum", fn := fun _ => fun
  | [d1, d2, d3] => { results := [.lit (.bool false)], args := [d1, d2, d3] }
  | _ => none }
def FnExactWaveSumWrongFalsely : Prop := fnExactWaveSumRow.holds Try.pinned (OpenSpec.ofChange fnExactWaveSumWrong)

/- THE SECOND FORM. 'bulk': how many values and letters a reading holds, each counted each time it is reached (what is shared counts as often as it is met; a slice's spare places count too). A statement '..UptoSaid' is the law's where the arguments, and the package variables that the reading takes, are together of bulk at most 1048576: NARROWER than '..Said'. Prove '..Said' where nothing that the law and all that it calls make is longer than what came in: it says more and counts as full. Else prove '..UptoSaid'. A law counts once. -/
mutual
def uptoBulk {H : Type} : DataW H → Nat
  | .lit (.string bytes) => bytes.length + 1
  | .lit _ => 1
  | .nil => 1
  | .ptr d => uptoBulk d + 1
  | .slice elems spare => uptoBulkAll elems + uptoBulkAll spare + 1
  | .agg parts => uptoBulkAll parts + 1
  | .iface _ d => uptoBulk d + 1
  | .map entries => uptoBulkEntries entries + 1
  | .held _ => 1
def uptoBulkAll {H : Type} : List (DataW H) → Nat
  | [] => 0
  | d :: r => uptoBulk d + uptoBulkAll r
def uptoBulkEntries {H : Type} : List (Lit × DataW H) → Nat
  | [] => 0
  | x :: r => uptoBulkEntry x + uptoBulkEntries r
def uptoBulkEntry {H : Type} : Lit × DataW H → Nat
  | (.string bytes, d) => bytes.length + uptoBulk d + 1
  | (_, d) => uptoBulk d + 1
 end
def uptoSmall : (H : Type) → List (DataW H) → Bool := fun _ ds => decide (uptoBulkAll ds ≤ 1048576)
def OpenSpec.upto (s : _root_.Go.ChangeSpec) : _root_.Go.OpenSpec := { _root_.Go.OpenSpec.ofChange s with cond := some uptoSmall }

/-- 'laws.FnExactWaveIn', WHERE WHAT IT READS IS OF BULK AT MOST 1048576: true; the input reads as it did. -/
def fnExactWaveInUptoRow : OpenClaim := { program := "ytlgceccbjkkeiab", sum := "8af02f140c8f8fc1c2934bc876c001c43fdc5e077b26e11b3a7c2ae1c3b3f205", func := "loop.example/boxball/laws.FnExactWaveIn", spec := "fnExactWaveIn", unfollowed := true, recurses := true, apart := false, narrowed := true }
def FnExactWaveInUptoSaid : Prop := fnExactWaveInUptoRow.holds Try.pinned (OpenSpec.upto fnExactWaveInSpec)

/-- 'laws.FnExactWaveOf', WHERE WHAT IT READS IS OF BULK AT MOST 1048576: true; the input reads as it did. -/
def fnExactWaveOfUptoRow : OpenClaim := { program := "ytlgceccbjkkeiab", sum := "8af02f140c8f8fc1c2934bc876c001c43fdc5e077b26e11b3a7c2ae1c3b3f205", func := "loop.example/boxball/laws.FnExactWaveOf", spec := "fnExactWaveOf", unfollowed := true, recurses := true, apart := false, narrowed := true }
def FnExactWaveOfUptoSaid : Prop := fnExactWaveOfUptoRow.holds Try.pinned (OpenSpec.upto fnExactWaveOfSpec)

/-- 'laws.FnExactWaveRow', WHERE WHAT IT READS IS OF BULK AT MOST 1048576: true; the input reads as it did. -/
def fnExactWaveRowUptoRow : OpenClaim := { program := "ytlgceccbjkkeiab", sum := "8af02f140c8f8fc1c2934bc876c001c43fdc5e077b26e11b3a7c2ae1c3b3f205", func := "loop.example/boxball/laws.FnExactWaveRow", spec := "fnExactWaveRow", inPlace := ["internal/bytealg.MakeNoZero"], unfollowed := true, recurses := true, apart := false, narrowed := true }
def FnExactWaveRowUptoSaid : Prop := fnExactWaveRowUptoRow.holds Try.pinned (OpenSpec.upto fnExactWaveRowSpec)

/-- 'laws.FnExactWaveNext', WHERE WHAT IT READS IS OF BULK AT MOST 1048576: true; the input reads as it did. -/
def fnExactWaveNextUptoRow : OpenClaim := { program := "ytlgceccbjkkeiab", sum := "8af02f140c8f8fc1c2934bc876c001c43fdc5e077b26e11b3a7c2ae1c3b3f205", func := "loop.example/boxball/laws.FnExactWaveNext", spec := "fnExactWaveNext", unfollowed := true, recurses := true, apart := false, narrowed := true }
def FnExactWaveNextUptoSaid : Prop := fnExactWaveNextUptoRow.holds Try.pinned (OpenSpec.upto fnExactWaveNextSpec)

/-- 'laws.FnExactWaveSum', WHERE WHAT IT READS IS OF BULK AT MOST 1048576: true; the input reads as it did. -/
def fnExactWaveSumUptoRow : OpenClaim := { program := "ytlgceccbjkkeiab", sum := "8af02f140c8f8fc1c2934bc876c001c43fdc5e077b26e11b3a7c2ae1c3b3f205", func := "loop.example/boxball/laws.FnExactWaveSum", spec := "fnExactWaveSum", unfollowed := true, recurses := true, apart := false, narrowed := true }
def FnExactWaveSumUptoSaid : Prop := fnExactWaveSumUptoRow.holds Try.pinned (OpenSpec.upto fnExactWaveSumSpec)

end Rows
end Go.Proofs.Ytlgceccbjkkeiab
