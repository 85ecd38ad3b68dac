/-
  No cell of these rows narrows 'for every input' (looked for: loops, veiled, ifaces, maps, wideKeys, modest, calm, conditions, laid).
  DERIVED. THE GIVEN ROWS OF THIS SEAT. 6 by the template 'for every input the law returns true; each argument reads behind the call as it read before'; 0 by the template 'total and deterministic' (their statements: YtaonngmjfemadaaTotals.lean).
  GIVEN WITH THE SEED: the statements are not yours to turn. If you find one false, say at which input.
  Laid BY PROGRAM, IN A SANDBOX (cutbox-rows.mjs): the forced cells as the released guide's own fill.sh prints them over the translation a1965958fd5ddeae… (all of the seat's roots in one cut). By AI agents, Wed Nov 11 2026. No macro, syntax, notation, axiom, sorry.
-/
import Derived.Test.YtaonngmjfemadaaChecked
import GoSem.Claim
import GoSem.ClaimJoined
import GoSem.ClaimMapViews
import Derived.JoinedTies
import Derived.KernelRfl
namespace Go.Proofs.Ytaonngmjfemadaa
/- THE CELL 'sum', in the pinned program and in every row, IS THE sha256 OF THE DUMP (.gsa) THAT YtaonngmjfemadaaProg.lean LOADS. Nothing in Lean hashes anything: it is a label: what it is worth is what the hold of that sum in a sandbox is worth. -/
noncomputable def Try.pinned : Pinned := { name := "ytaonngmjfemadaa", sum := "a1965958fd5ddeae4233ec5b49b9710a37bcc476d7172f184cf5b593890d2f3b", checked := Try.checked }
namespace Rows
def none {H : Type} : Left H := { results := [], args := [] }

/-- 'laws.FnExactRowValid': WHATEVER THE INPUT: true; the input reads as it did. -/
def fnExactRowValidSpec : ChangeSpec := { name := "fnExactRowValid", fn := fun _ => fun
  | [d] => { results := [.lit (.bool true)], args := [d] }
  | _ => none }
def fnExactRowValidRow : OpenClaim := { program := "ytaonngmjfemadaa", sum := "a1965958fd5ddeae4233ec5b49b9710a37bcc476d7172f184cf5b593890d2f3b", func := "loop.example/boxball/laws.FnExactRowValid", spec := "fnExactRowValid", apart := false }
def FnExactRowValidSaid : Prop := fnExactRowValidRow.holds Try.pinned (OpenSpec.ofChange fnExactRowValidSpec)

/-- ITS FALSE NEIGHBOUR: 'it returns false'. Refute it at one input. -/
def fnExactRowValidWrong : ChangeSpec := { name := "fnExactRowValid", fn := fun _ => fun
  | [d] => { results := [.lit (.bool false)], args := [d] }
  | _ => none }
def FnExactRowValidWrongFalsely : Prop := fnExactRowValidRow.holds Try.pinned (OpenSpec.ofChange fnExactRowValidWrong)

/-- 'laws.FnExactRowLevels': WHATEVER THE INPUT: true; the input reads as it did. -/
def fnExactRowLevelsSpec : ChangeSpec := { name := "fnExactRowLevels", fn := fun _ => fun
  | [d] => { results := [.lit (.bool true)], args := [d] }
  | _ => none }
def fnExactRowLevelsRow : OpenClaim := { program := "ytaonngmjfemadaa", sum := "a1965958fd5ddeae4233ec5b49b9710a37bcc476d7172f184cf5b593890d2f3b", func := "loop.example/boxball/laws.FnExactRowLevels", spec := "fnExactRowLevels", apart := false }
def FnExactRowLevelsSaid : Prop := fnExactRowLevelsRow.holds Try.pinned (OpenSpec.ofChange fnExactRowLevelsSpec)

/-- ITS FALSE NEIGHBOUR: 'it returns false'. Refute it at one input. -/
def fnExactRowLevelsWrong : ChangeSpec := { name := "fnExactRowLevels", fn := fun _ => fun
  | [d] => { results := [.lit (.bool false)], args := [d] }
  | _ => none }
def FnExactRowLevelsWrongFalsely : Prop := fnExactRowLevelsRow.holds Try.pinned (OpenSpec.ofChange fnExactRowLevelsWrong)

/-- 'laws.FnExactRowHigh': WHATEVER THE INPUT: true; the input reads as it did. -/
def fnExactRowHighSpec : ChangeSpec := { name := "fnExactRowHigh", fn := fun _ => fun
  | [d] => { results := [.lit (.bool true)], args := [d] }
  | _ => none }
def fnExactRowHighRow : OpenClaim := { program := "ytaonngmjfemadaa", sum := "a1965958fd5ddeae4233ec5b49b9710a37bcc476d7172f184cf5b593890d2f3b", func := "loop.example/boxball/laws.FnExactRowHigh", spec := "fnExactRowHigh", apart := false }
def FnExactRowHighSaid : Prop := fnExactRowHighRow.holds Try.pinned (OpenSpec.ofChange fnExactRowHighSpec)

/-- ITS FALSE NEIGHBOUR: 'it returns false'. Refute it at one input. -/
def fnExactRowHighWrong : ChangeSpec := { name := "fnExactRowHigh", fn := fun _ => fun
  | [d] => { results := [.lit (.bool false)], args := [d] }
  | _ => none }
def FnExactRowHighWrongFalsely : Prop := fnExactRowHighRow.holds Try.pinned (OpenSpec.ofChange fnExactRowHighWrong)

/-- 'laws.FnExactRowBalls': WHATEVER THE INPUT: true; the input reads as it did. -/
def fnExactRowBallsSpec : ChangeSpec := { name := "fnExactRowBalls", fn := fun _ => fun
  | [d] => { results := [.lit (.bool true)], args := [d] }
  | _ => none }
def fnExactRowBallsRow : OpenClaim := { program := "ytaonngmjfemadaa", sum := "a1965958fd5ddeae4233ec5b49b9710a37bcc476d7172f184cf5b593890d2f3b", func := "loop.example/boxball/laws.FnExactRowBalls", spec := "fnExactRowBalls", unfollowed := true, recurses := true, apart := false }
def FnExactRowBallsSaid : Prop := fnExactRowBallsRow.holds Try.pinned (OpenSpec.ofChange fnExactRowBallsSpec)

/-- ITS FALSE NEIGHBOUR: 'it returns false'. Refute it at one input. -/
def fnExactRowBallsWrong : ChangeSpec := { name := "fnExactRowBalls", fn := fun _ => fun
  | [d] => { results := [.lit (.bool false)], args := [d] }
  | _ => none }
def FnExactRowBallsWrongFalsely : Prop := fnExactRowBallsRow.holds Try.pinned (OpenSpec.ofChange fnExactRowBallsWrong)

/-- 'laws.FnExactRowAt': WHATEVER THE INPUT: true; the input reads as it did. -/
def fnExactRowAtSpec : ChangeSpec := { name := "fnExactRowAt", fn := fun _ => fun
  | [d] => { results := [.lit (.bool true)], args := [d] }
  | _ => none }
def fnExactRowAtRow : OpenClaim := { program := "ytaonngmjfemadaa", sum := "a1965958fd5ddeae4233ec5b49b9710a37bcc476d7172f184cf5b593890d2f3b", func := "loop.example/boxball/laws.FnExactRowAt", spec := "fnExactRowAt", unfollowed := true, recurses := true, apart := false }
def FnExactRowAtSaid : Prop := fnExactRowAtRow.holds Try.pinned (OpenSpec.ofChange fnExactRowAtSpec)

/-- ITS FALSE NEIGHBOUR: 'it returns false'. Refute it at one input. -/
def fnExactRowAtWrong : ChangeSpec := { name := "fnExactRowAt", fn := fun _ => fun
  | [d] => { results := [.lit (.bool false)], args := [d] }
  | _ => none }
def FnExactRowAtWrongFalsely : Prop := fnExactRowAtRow.holds Try.pinned (OpenSpec.ofChange fnExactRowAtWrong)

/-- 'laws.FnExactRowTidy': WHATEVER THE INPUT: true; the input reads as it did. -/
def fnExactRowTidySpec : ChangeSpec := { name := "fnExactRowTidy", fn := fun _ => fun
  | [d] => { results := [.lit (.bool true)], args := [d] }
  | _ => none }
def fnExactRowTidyRow : OpenClaim := { program := "ytaonngmjfemadaa", sum := "a1965958fd5ddeae4233ec5b49b9710a37bcc476d7172f184cf5b593890d2f3b", func := "loop.example/boxball/laws.FnExactRowTidy", spec := "fnExactRowTidy", inPlace := ["internal/bytealg.MakeNoZero"], unfollowed := true, recurses := true, apart := false }
def FnExactRowTidySaid : Prop := fnExactRowTidyRow.holds Try.pinned (OpenSpec.ofChange fnExactRowTidySpec)

/-- ITS FALSE NEIGHBOUR: 'it returns false'. Refute it at one input. -/
def fnExactRowTidyWrong : ChangeSpec := { name := "fnExactRowTidy", fn := fun _ => fun
  | [d] => { results := [.lit (.bool false)], args := [d] }
  | _ => none }
def FnExactRowTidyWrongFalsely : Prop := fnExactRowTidyRow.holds Try.pinned (OpenSpec.ofChange fnExactRowTidyWrong)

/- THE SECOND FORM. 'bulk': how many values and letters a reading holds, each counted each time it is reached (what is shared counts as often as it is met; a slice's spare places count too). A statement '..UptoSaid' is the law's where the arguments, and the package variables that the reading takes, are together of bulk at most 1048576: NARROWER than '..Said'. Prove '..Said' where nothing that the law and all that it calls make is longer than what came in: it says more and counts as full. Else prove '..UptoSaid'. A law counts once. -/
mutual
def uptoBulk {H : Type} : DataW H → Nat
  | .lit (.string bytes) => bytes.length + 1
  | .lit _ => 1
  | .nil => 1
  | .ptr d => uptoBulk d + 1
  | .slice elems spare => uptoBulkAll elems + uptoBulkAll spare + 1
  | .agg parts => uptoBulkAll parts + 1
  | .iface _ d => uptoBulk d + 1
  | .map entries => uptoBulkEntries entries + 1
  | .held _ => 1
def uptoBulkAll {H : Type} : List (DataW H) → Nat
  | [] => 0
  | d :: r => uptoBulk d + uptoBulkAll r
def uptoBulkEntries {H : Type} : List (Lit × DataW H) → Nat
  | [] => 0
  | x :: r => uptoBulkEntry x + uptoBulkEntries r
def uptoBulkEntry {H : Type} : Lit × DataW H → Nat
  | (.string bytes, d) => bytes.length + uptoBulk d + 1
  | (_, d) => uptoBulk d + 1
 end
def uptoSmall : (H : Type) → List (DataW H) → Bool := fun _ ds => decide (uptoBulkAll ds ≤ 1048576)
def OpenSpec.upto (s : _root_.Go.ChangeSpec) : _root_.Go.OpenSpec := { _root_.Go.OpenSpec.ofChange s with cond := some uptoSmall }

/-- 'laws.FnExactRowValid', WHERE WHAT IT READS IS OF BULK AT MOST 1048576: true; the input reads as it did. -/
def fnExactRowValidUptoRow : OpenClaim := { program := "ytaonngmjfemadaa", sum := "a1965958fd5ddeae4233ec5b49b9710a37bcc476d7172f184cf5b593890d2f3b", func := "loop.example/boxball/laws.FnExactRowValid", spec := "fnExactRowValid", apart := false, narrowed := true }
def FnExactRowValidUptoSaid : Prop := fnExactRowValidUptoRow.holds Try.pinned (OpenSpec.upto fnExactRowValidSpec)

/-- 'laws.FnExactRowLevels', WHERE WHAT IT READS IS OF BULK AT MOST 1048576: true; the input reads as it did. -/
def fnExactRowLevelsUptoRow : OpenClaim := { program := "ytaonngmjfemadaa", sum := "a1965958fd5ddeae4233ec5b49b9710a37bcc476d7172f184cf5b593890d2f3b", func := "loop.example/boxball/laws.FnExactRowLevels", spec := "fnExactRowLevels", apart := false, narrowed := true }
def FnExactRowLevelsUptoSaid : Prop := fnExactRowLevelsUptoRow.holds Try.pinned (OpenSpec.upto fnExactRowLevelsSpec)

/-- 'laws.FnExactRowHigh', WHERE WHAT IT READS IS OF BULK AT MOST 1048576: true; the input reads as it did. -/
def fnExactRowHighUptoRow : OpenClaim := { program := "ytaonngmjfemadaa", sum := "a1965958fd5ddeae4233ec5b49b9710a37bcc476d7172f184cf5b593890d2f3b", func := "loop.example/boxball/laws.FnExactRowHigh", spec := "fnExactRowHigh", apart := false, narrowed := true }
def FnExactRowHighUptoSaid : Prop := fnExactRowHighUptoRow.holds Try.pinned (OpenSpec.upto fnExactRowHighSpec)

/-- 'laws.FnExactRowBalls', WHERE WHAT IT READS IS OF BULK AT MOST 1048576: true; the input reads as it did. -/
def fnExactRowBallsUptoRow : OpenClaim := { program := "ytaonngmjfemadaa", sum := "a1965958fd5ddeae4233ec5b49b9710a37bcc476d7172f184cf5b593890d2f3b", func := "loop.example/boxball/laws.FnExactRowBalls", spec := "fnExactRowBalls", unfollowed := true, recurses := true, apart := false, narrowed := true }
def FnExactRowBallsUptoSaid : Prop := fnExactRowBallsUptoRow.holds Try.pinned (OpenSpec.upto fnExactRowBallsSpec)

/-- 'laws.FnExactRowAt', WHERE WHAT IT READS IS OF BULK AT MOST 1048576: true; the input reads as it did. -/
def fnExactRowAtUptoRow : OpenClaim := { program := "ytaonngmjfemadaa", sum := "a1965958fd5ddeae4233ec5b49b9710a37bcc476d7172f184cf5b593890d2f3b", func := "loop.example/boxball/laws.FnExactRowAt", spec := "fnExactRowAt", unfollowed := true, recurses := true, apart := false, narrowed := true }
def FnExactRowAtUptoSaid : Prop := fnExactRowAtUptoRow.holds Try.pinned (OpenSpec.upto fnExactRowAtSpec)

/-- 'laws.FnExactRowTidy', WHERE WHAT IT READS IS OF BULK AT MOST 1048576: true; the input reads as it did. -/
def fnExactRowTidyUptoRow : OpenClaim := { program := "ytaonngmjfemadaa", sum := "a1965958fd5ddeae4233ec5b49b9710a37bcc476d7172f184cf5b593890d2f3b", func := "loop.example/boxball/laws.FnExactRowTidy", spec := "fnExactRowTidy", inPlace := ["internal/bytealg.MakeNoZero"], unfollowed := true, recurses := true, apart := false, narrowed := true }
def FnExactRowTidyUptoSaid : Prop := fnExactRowTidyUptoRow.holds Try.pinned (OpenSpec.upto fnExactRowTidySpec)

end Rows
end Go.Proofs.Ytaonngmjfemadaa
