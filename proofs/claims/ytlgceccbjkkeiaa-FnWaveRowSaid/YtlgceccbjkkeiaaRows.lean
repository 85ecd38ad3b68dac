/-
  No cell of these rows narrows 'for every input' (looked for: loops, veiled, ifaces, maps, wideKeys, modest, calm, conditions, laid).
  DERIVED. THE GIVEN ROWS OF THIS SEAT. 5 by the template 'for every input the law returns true; each argument reads behind the call as it read before'; 0 by the template 'total and deterministic' (their statements: YtlgceccbjkkeiaaTotals.lean).
  GIVEN WITH THE SEED: the statements are not yours to turn. If you find one false, say at which input.
  Laid BY PROGRAM, IN A SANDBOX (cutbox-rows.mjs): the forced cells as the released guide's own fill.sh prints them over the translation 364135487211e74a… (all of the seat's roots in one cut). By AI agents, Wed Nov 11 2026. No macro, syntax, notation, axiom, sorry.
-/
import Derived.Test.YtlgceccbjkkeiaaChecked
import GoSem.Claim
import GoSem.ClaimJoined
import GoSem.ClaimMapViews
import Derived.JoinedTies
import Derived.KernelRfl
namespace Go.Proofs.Ytlgceccbjkkeiaa
/- THE CELL 'sum', in the pinned program and in every row, IS THE sha256 OF THE DUMP (.gsa) THAT YtlgceccbjkkeiaaProg.lean LOADS. Nothing in Lean hashes anything: it is a label: what it is worth is what the hold of that sum in a sandbox is worth. -/
noncomputable def Try.pinned : Pinned := { name := "ytlgceccbjkkeiaa", sum := "364135487211e74a5631d0f81c55f3800a9a6d6ae90887d178047f74b1ee067d", checked := Try.checked }
namespace Rows
def none {H : Type} : Left H := { results := [], args := [] }

/-- 'laws.FnWave': WHATEVER THE INPUT: true; the input reads as it did. -/
def fnWaveSpec : ChangeSpec := { name := "fnWave", fn := fun _ => fun
  | [d] => { results := [.lit (.bool true)], args := [d] }
  | _ => none }
def fnWaveRow : OpenClaim := { program := "ytlgceccbjkkeiaa", sum := "364135487211e74a5631d0f81c55f3800a9a6d6ae90887d178047f74b1ee067d", func := "loop.example/boxball/laws.FnWave", spec := "fnWave", unfollowed := true, recurses := true, apart := false }
def FnWaveSaid : Prop := fnWaveRow.holds Try.pinned (OpenSpec.ofChange fnWaveSpec)

/-- ITS FALSE NEIGHBOUR: 'it returns false'. Refute it at one input. -/
def fnWaveWrong : ChangeSpec := { name := "fnWave", fn := fun _ => fun
  | [d] => { results := [.lit (.bool false)], args := [d] }
  | _ => none }
def FnWaveWrongFalsely : Prop := fnWaveRow.holds Try.pinned (OpenSpec.ofChange fnWaveWrong)

/-- 'laws.FnWaveOf': WHATEVER THE INPUT: true; the input reads as it did. -/
def fnWaveOfSpec : ChangeSpec := { name := "fnWaveOf", fn := fun _ => fun
  | [d] => { results := [.lit (.bool true)], args := [d] }
  | _ => none }
def fnWaveOfRow : OpenClaim := { program := "ytlgceccbjkkeiaa", sum := "364135487211e74a5631d0f81c55f3800a9a6d6ae90887d178047f74b1ee067d", func := "loop.example/boxball/laws.FnWaveOf", spec := "fnWaveOf", inPlace := ["internal/bytealg.MakeNoZero"], unfollowed := true, recurses := true, apart := false }
def FnWaveOfSaid : Prop := fnWaveOfRow.holds Try.pinned (OpenSpec.ofChange fnWaveOfSpec)

/-- ITS FALSE NEIGHBOUR: 'it returns false'. Refute it at one input. -/
def fnWaveOfWrong : ChangeSpec := { name := "fnWaveOf", fn := fun _ => fun
  | [d] => { results := [.lit (.bool false)], args := [d] }
  | _ => none }
def FnWaveOfWrongFalsely : Prop := fnWaveOfRow.holds Try.pinned (OpenSpec.ofChange fnWaveOfWrong)

/-- 'laws.FnWaveRow': WHATEVER THE INPUT: true; the input reads as it did. -/
def fnWaveRowSpec : ChangeSpec := { name := "fnWaveRow", fn := fun _ => fun
  | [d] => { results := [.lit (.bool true)], args := [d] }
  | _ => none }
def fnWaveRowRow : OpenClaim := { program := "ytlgceccbjkkeiaa", sum := "364135487211e74a5631d0f81c55f3800a9a6d6ae90887d178047f74b1ee067d", func := "loop.example/boxball/laws.FnWaveRow", spec := "fnWaveRow", inPlace := ["internal/bytealg.MakeNoZero"], unfollowed := true, recurses := true, apart := false }
def FnWaveRowSaid : Prop := fnWaveRowRow.holds Try.pinned (OpenSpec.ofChange fnWaveRowSpec)

/-- ITS FALSE NEIGHBOUR: 'it returns false'. Refute it at one input. -/
def fnWaveRowWrong : ChangeSpec := { name := "fnWaveRow", fn := fun _ => fun
  | [d] => { results := [.lit (.bool false)], args := [d] }
  | _ => none }
def FnWaveRowWrongFalsely : Prop := fnWaveRowRow.holds Try.pinned (OpenSpec.ofChange fnWaveRowWrong)

/-- 'laws.FnWaveNext': WHATEVER THE INPUT: true; the input reads as it did. -/
def fnWaveNextSpec : ChangeSpec := { name := "fnWaveNext", fn := fun _ => fun
  | [d] => { results := [.lit (.bool true)], args := [d] }
  | _ => none }
def fnWaveNextRow : OpenClaim := { program := "ytlgceccbjkkeiaa", sum := "364135487211e74a5631d0f81c55f3800a9a6d6ae90887d178047f74b1ee067d", func := "loop.example/boxball/laws.FnWaveNext", spec := "fnWaveNext", inPlace := ["internal/bytealg.MakeNoZero"], unfollowed := true, recurses := true, apart := false }
def FnWaveNextSaid : Prop := fnWaveNextRow.holds Try.pinned (OpenSpec.ofChange fnWaveNextSpec)

/-- ITS FALSE NEIGHBOUR: 'it returns false'. Refute it at one input. -/
def fnWaveNextWrong : ChangeSpec := { name := "fnWaveNext", fn := fun _ => fun
  | [d] => { results := [.lit (.bool false)], args := [d] }
  | _ => none }
def FnWaveNextWrongFalsely : Prop := fnWaveNextRow.holds Try.pinned (OpenSpec.ofChange fnWaveNextWrong)

/-- 'laws.FnWaveSum': WHATEVER THE INPUT: true; the input reads as it did. -/
def fnWaveSumSpec : ChangeSpec := { name := "fnWaveSum", fn := fun _ => fun
  | [d] => { results := [.lit (.bool true)], args := [d] }
  | _ => none }
def fnWaveSumRow : OpenClaim := { program := "ytlgceccbjkkeiaa", sum := "364135487211e74a5631d0f81c55f3800a9a6d6ae90887d178047f74b1ee067d", func := "loop.example/boxball/laws.FnWaveSum", spec := "fnWaveSum", inPlace := ["internal/bytealg.MakeNoZero"], unfollowed := true, recurses := true, apart := false }
def FnWaveSumSaid : Prop := fnWaveSumRow.holds Try.pinned (OpenSpec.ofChange fnWaveSumSpec)

/-- ITS FALSE NEIGHBOUR: 'it returns false'. Refute it at one input. -/
def fnWaveSumWrong : ChangeSpec := { name := "fnWaveSum", fn := fun _ => fun
  | [d] => { results := [.lit (.bool false)], args := [d] }
  | _ => none }
def FnWaveSumWrongFalsely : Prop := fnWaveSumRow.holds Try.pinned (OpenSpec.ofChange fnWaveSumWrong)

/- THE SECOND FORM. 'bulk': how many values and letters a reading holds, each counted each time it is reached (what is shared counts as often as it is met; a slice's spare places count too). A statement '..UptoSaid' is the law's where the arguments, and the package variables that the reading takes, are together of bulk at most 1048576: NARROWER than '..Said'. Prove '..Said' where nothing that the law and all that it calls make is longer than what came in: it says more and counts as full. Else prove '..UptoSaid'. A law counts once. -/
mutual
def uptoBulk {H : Type} : DataW H → Nat
  | .lit (.string bytes) => bytes.length + 1
  | .lit _ => 1
  | .nil => 1
  | .ptr d => uptoBulk d + 1
  | .slice elems spare => uptoBulkAll elems + uptoBulkAll spare + 1
  | .agg parts => uptoBulkAll parts + 1
  | .iface _ d => uptoBulk d + 1
  | .map entries => uptoBulkEntries entries + 1
  | .held _ => 1
def uptoBulkAll {H : Type} : List (DataW H) → Nat
  | [] => 0
  | d :: r => uptoBulk d + uptoBulkAll r
def uptoBulkEntries {H : Type} : List (Lit × DataW H) → Nat
  | [] => 0
  | x :: r => uptoBulkEntry x + uptoBulkEntries r
def uptoBulkEntry {H : Type} : Lit × DataW H → Nat
  | (.string bytes, d) => bytes.length + uptoBulk d + 1
  | (_, d) => uptoBulk d + 1
 end
def uptoSmall : (H : Type) → List (DataW H) → Bool := fun _ ds => decide (uptoBulkAll ds ≤ 1048576)
def OpenSpec.upto (s : _root_.Go.ChangeSpec) : _root_.Go.OpenSpec := { _root_.Go.OpenSpec.ofChange s with cond := some uptoSmall }

/-- 'laws.FnWave', WHERE WHAT IT READS IS OF BULK AT MOST 1048576: true; the input reads as it did. -/
def fnWaveUptoRow : OpenClaim := { program := "ytlgceccbjkkeiaa", sum := "364135487211e74a5631d0f81c55f3800a9a6d6ae90887d178047f74b1ee067d", func := "loop.example/boxball/laws.FnWave", spec := "fnWave", unfollowed := true, recurses := true, apart := false, narrowed := true }
def FnWaveUptoSaid : Prop := fnWaveUptoRow.holds Try.pinned (OpenSpec.upto fnWaveSpec)

/-- 'laws.FnWaveOf', WHERE WHAT IT READS IS OF BULK AT MOST 1048576: true; the input reads as it did. -/
def fnWaveOfUptoRow : OpenClaim := { program := "ytlgceccbjkkeiaa", sum := "364135487211e74a5631d0f81c55f3800a9a6d6ae90887d178047f74b1ee067d", func := "loop.example/boxball/laws.FnWaveOf", spec := "fnWaveOf", inPlace := ["internal/bytealg.MakeNoZero"], unfollowed := true, recurses := true, apart := false, narrowed := true }
def FnWaveOfUptoSaid : Prop := fnWaveOfUptoRow.holds Try.pinned (OpenSpec.upto fnWaveOfSpec)

/-- 'laws.FnWaveRow', WHERE WHAT IT READS IS OF BULK AT MOST 1048576: true; the input reads as it did. -/
def fnWaveRowUptoRow : OpenClaim := { program := "ytlgceccbjkkeiaa", sum := "364135487211e74a5631d0f81c55f3800a9a6d6ae90887d178047f74b1ee067d", func := "loop.example/boxball/laws.FnWaveRow", spec := "fnWaveRow", inPlace := ["internal/bytealg.MakeNoZero"], unfollowed := true, recurses := true, apart := false, narrowed := true }
def FnWaveRowUptoSaid : Prop := fnWaveRowUptoRow.holds Try.pinned (OpenSpec.upto fnWaveRowSpec)

/-- 'laws.FnWaveNext', WHERE WHAT IT READS IS OF BULK AT MOST 1048576: true; the input reads as it did. -/
def fnWaveNextUptoRow : OpenClaim := { program := "ytlgceccbjkkeiaa", sum := "364135487211e74a5631d0f81c55f3800a9a6d6ae90887d178047f74b1ee067d", func := "loop.example/boxball/laws.FnWaveNext", spec := "fnWaveNext", inPlace := ["internal/bytealg.MakeNoZero"], unfollowed := true, recurses := true, apart := false, narrowed := true }
def FnWaveNextUptoSaid : Prop := fnWaveNextUptoRow.holds Try.pinned (OpenSpec.upto fnWaveNextSpec)

/-- 'laws.FnWaveSum', WHERE WHAT IT READS IS OF BULK AT MOST 1048576: true; the input reads as it did. -/
def fnWaveSumUptoRow : OpenClaim := { program := "ytlgceccbjkkeiaa", sum := "364135487211e74a5631d0f81c55f3800a9a6d6ae90887d178047f74b1ee067d", func := "loop.example/boxball/laws.FnWaveSum", spec := "fnWaveSum", inPlace := ["internal/bytealg.MakeNoZero"], unfollowed := true, recurses := true, apart := false, narrowed := true }
def FnWaveSumUptoSaid : Prop := fnWaveSumUptoRow.holds Try.pinned (OpenSpec.upto fnWaveSumSpec)

end Rows
end Go.Proofs.Ytlgceccbjkkeiaa
