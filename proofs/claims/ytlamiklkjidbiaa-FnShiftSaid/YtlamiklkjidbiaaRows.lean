/-
  No cell of these rows narrows 'for every input' (looked for: loops, veiled, ifaces, maps, wideKeys, modest, calm, conditions, laid).
  DERIVED. THE GIVEN ROWS OF THIS SEAT. 18 by the template 'for every input the law returns true; each argument reads behind the call as it read before'; 0 by the template 'total and deterministic' (their statements: YtlamiklkjidbiaaTotals.lean).
  GIVEN WITH THE SEED: the statements are not yours to turn. If you find one false, say at which input.
  Laid BY PROGRAM, IN A SANDBOX (cutbox-rows.mjs): the forced cells as the released guide's own fill.sh prints them over the translation 34549f7441993028… (all of the seat's roots in one cut). By AI agents, Wed Nov 11 2026. No macro, syntax, notation, axiom, sorry.
-/
import Derived.Test.YtlamiklkjidbiaaChecked
import GoSem.Claim
import GoSem.ClaimJoined
import GoSem.ClaimMapViews
import Derived.JoinedTies
import Derived.KernelRfl
namespace Go.Proofs.Ytlamiklkjidbiaa
/- THE CELL 'sum', in the pinned program and in every row, IS THE sha256 OF THE DUMP (.gsa) THAT YtlamiklkjidbiaaProg.lean LOADS. Nothing in Lean hashes anything: it is a label: what it is worth is what the hold of that sum in a sandbox is worth. -/
noncomputable def Try.pinned : Pinned := { name := "ytlamiklkjidbiaa", sum := "34549f7441993028a3c3c66f701aa572738be70850819a25ac39d671bc06300c", checked := Try.checked }
namespace Rows
def none {H : Type} : Left H := { results := [], args := [] }

/-- 'laws.FnTidy': WHATEVER THE INPUT: true; the input reads as it did. -/
def fnTidySpec : ChangeSpec := { name := "fnTidy", fn := fun _ => fun
  | [d] => { results := [.lit (.bool true)], args := [d] }
  | _ => none }
def fnTidyRow : OpenClaim := { program := "ytlamiklkjidbiaa", sum := "34549f7441993028a3c3c66f701aa572738be70850819a25ac39d671bc06300c", func := "loop.example/boxball/laws.FnTidy", spec := "fnTidy", inPlace := ["internal/bytealg.MakeNoZero"], unfollowed := true, recurses := true, apart := false }
def FnTidySaid : Prop := fnTidyRow.holds Try.pinned (OpenSpec.ofChange fnTidySpec)

/-- ITS FALSE NEIGHBOUR: 'it returns false'. Refute it at one input. -/
def fnTidyWrong : ChangeSpec := { name := "fnTidy", fn := fun _ => fun
  | [d] => { results := [.lit (.bool false)], args := [d] }
  | _ => none }
def FnTidyWrongFalsely : Prop := fnTidyRow.holds Try.pinned (OpenSpec.ofChange fnTidyWrong)

/-- 'laws.FnExactRowValid': WHATEVER THE INPUT: true; the input reads as it did. -/
def fnExactRowValidSpec : ChangeSpec := { name := "fnExactRowValid", fn := fun _ => fun
  | [d] => { results := [.lit (.bool true)], args := [d] }
  | _ => none }
def fnExactRowValidRow : OpenClaim := { program := "ytlamiklkjidbiaa", sum := "34549f7441993028a3c3c66f701aa572738be70850819a25ac39d671bc06300c", func := "loop.example/boxball/laws.FnExactRowValid", spec := "fnExactRowValid", apart := false }
def FnExactRowValidSaid : Prop := fnExactRowValidRow.holds Try.pinned (OpenSpec.ofChange fnExactRowValidSpec)

/-- ITS FALSE NEIGHBOUR: 'it returns false'. Refute it at one input. -/
def fnExactRowValidWrong : ChangeSpec := { name := "fnExactRowValid", fn := fun _ => fun
  | [d] => { results := [.lit (.bool false)], args := [d] }
  | _ => none }
def FnExactRowValidWrongFalsely : Prop := fnExactRowValidRow.holds Try.pinned (OpenSpec.ofChange fnExactRowValidWrong)

/-- 'laws.FnExactRowTidy': WHATEVER THE INPUT: true; the input reads as it did. -/
def fnExactRowTidySpec : ChangeSpec := { name := "fnExactRowTidy", fn := fun _ => fun
  | [d] => { results := [.lit (.bool true)], args := [d] }
  | _ => none }
def fnExactRowTidyRow : OpenClaim := { program := "ytlamiklkjidbiaa", sum := "34549f7441993028a3c3c66f701aa572738be70850819a25ac39d671bc06300c", func := "loop.example/boxball/laws.FnExactRowTidy", spec := "fnExactRowTidy", inPlace := ["internal/bytealg.MakeNoZero"], unfollowed := true, recurses := true, apart := false }
def FnExactRowTidySaid : Prop := fnExactRowTidyRow.holds Try.pinned (OpenSpec.ofChange fnExactRowTidySpec)

/-- ITS FALSE NEIGHBOUR: 'it returns false'. Refute it at one input. -/
def fnExactRowTidyWrong : ChangeSpec := { name := "fnExactRowTidy", fn := fun _ => fun
  | [d] => { results := [.lit (.bool false)], args := [d] }
  | _ => none }
def FnExactRowTidyWrongFalsely : Prop := fnExactRowTidyRow.holds Try.pinned (OpenSpec.ofChange fnExactRowTidyWrong)

/-- 'laws.FnExactRowBalls': WHATEVER THE INPUT: true; the input reads as it did. -/
def fnExactRowBallsSpec : ChangeSpec := { name := "fnExactRowBalls", fn := fun _ => fun
  | [d] => { results := [.lit (.bool true)], args := [d] }
  | _ => none }
def fnExactRowBallsRow : OpenClaim := { program := "ytlamiklkjidbiaa", sum := "34549f7441993028a3c3c66f701aa572738be70850819a25ac39d671bc06300c", func := "loop.example/boxball/laws.FnExactRowBalls", spec := "fnExactRowBalls", unfollowed := true, recurses := true, apart := false }
def FnExactRowBallsSaid : Prop := fnExactRowBallsRow.holds Try.pinned (OpenSpec.ofChange fnExactRowBallsSpec)

/-- ITS FALSE NEIGHBOUR: 'it returns false'. Refute it at one input. -/
def fnExactRowBallsWrong : ChangeSpec := { name := "fnExactRowBalls", fn := fun _ => fun
  | [d] => { results := [.lit (.bool false)], args := [d] }
  | _ => none }
def FnExactRowBallsWrongFalsely : Prop := fnExactRowBallsRow.holds Try.pinned (OpenSpec.ofChange fnExactRowBallsWrong)

/-- 'laws.FnExactRowOf': WHATEVER THE INPUT: true; the input reads as it did. -/
def fnExactRowOfSpec : ChangeSpec := { name := "fnExactRowOf", fn := fun _ => fun
  | [d] => { results := [.lit (.bool true)], args := [d] }
  | _ => none }
def fnExactRowOfRow : OpenClaim := { program := "ytlamiklkjidbiaa", sum := "34549f7441993028a3c3c66f701aa572738be70850819a25ac39d671bc06300c", func := "loop.example/boxball/laws.FnExactRowOf", spec := "fnExactRowOf", inPlace := ["internal/bytealg.MakeNoZero"], unfollowed := true, recurses := true, apart := false }
def FnExactRowOfSaid : Prop := fnExactRowOfRow.holds Try.pinned (OpenSpec.ofChange fnExactRowOfSpec)

/-- ITS FALSE NEIGHBOUR: 'it returns false'. Refute it at one input. -/
def fnExactRowOfWrong : ChangeSpec := { name := "fnExactRowOf", fn := fun _ => fun
  | [d] => { results := [.lit (.bool false)], args := [d] }
  | _ => none }
def FnExactRowOfWrongFalsely : Prop := fnExactRowOfRow.holds Try.pinned (OpenSpec.ofChange fnExactRowOfWrong)

/-- 'laws.FnExactRowAt': WHATEVER THE INPUT: true; the input reads as it did. -/
def fnExactRowAtSpec : ChangeSpec := { name := "fnExactRowAt", fn := fun _ => fun
  | [d] => { results := [.lit (.bool true)], args := [d] }
  | _ => none }
def fnExactRowAtRow : OpenClaim := { program := "ytlamiklkjidbiaa", sum := "34549f7441993028a3c3c66f701aa572738be70850819a25ac39d671bc06300c", func := "loop.example/boxball/laws.FnExactRowAt", spec := "fnExactRowAt", unfollowed := true, recurses := true, apart := false }
def FnExactRowAtSaid : Prop := fnExactRowAtRow.holds Try.pinned (OpenSpec.ofChange fnExactRowAtSpec)

/-- ITS FALSE NEIGHBOUR: 'it returns false'. Refute it at one input. -/
def fnExactRowAtWrong : ChangeSpec := { name := "fnExactRowAt", fn := fun _ => fun
  | [d] => { results := [.lit (.bool false)], args := [d] }
  | _ => none }
def FnExactRowAtWrongFalsely : Prop := fnExactRowAtRow.holds Try.pinned (OpenSpec.ofChange fnExactRowAtWrong)

/-- 'laws.FnExactRowShift': WHATEVER THE INPUT: true; the input reads as it did. -/
def fnExactRowShiftSpec : ChangeSpec := { name := "fnExactRowShift", fn := fun _ => fun
  | [d1, d2] => { results := [.lit (.bool true)], args := [d1, d2] }
  | _ => none }
def fnExactRowShiftRow : OpenClaim := { program := "ytlamiklkjidbiaa", sum := "34549f7441993028a3c3c66f701aa572738be70850819a25ac39d671bc06300c", func := "loop.example/boxball/laws.FnExactRowShift", spec := "fnExactRowShift", inPlace := ["internal/bytealg.MakeNoZero"], unfollowed := true, recurses := true, apart := false }
def FnExactRowShiftSaid : Prop := fnExactRowShiftRow.holds Try.pinned (OpenSpec.ofChange fnExactRowShiftSpec)

/-- ITS FALSE NEIGHBOUR: 'it returns false'. Refute it at one input. -/
def fnExactRowShiftWrong : ChangeSpec := { name := "fnExactRowShift", fn := fun _ => fun
  | [d1, d2] => { results := [.lit (.bool false)], args := [d1, d2] }
  | _ => none }
def FnExactRowShiftWrongFalsely : Prop := fnExactRowShiftRow.holds Try.pinned (OpenSpec.ofChange fnExactRowShiftWrong)

/-- 'laws.FnExactRowTurned': WHATEVER THE INPUT: true; the input reads as it did. -/
def fnExactRowTurnedSpec : ChangeSpec := { name := "fnExactRowTurned", fn := fun _ => fun
  | [d] => { results := [.lit (.bool true)], args := [d] }
  | _ => none }
def fnExactRowTurnedRow : OpenClaim := { program := "ytlamiklkjidbiaa", sum := "34549f7441993028a3c3c66f701aa572738be70850819a25ac39d671bc06300c", func := "loop.example/boxball/laws.FnExactRowTurned", spec := "fnExactRowTurned", inPlace := ["internal/bytealg.MakeNoZero"], unfollowed := true, recurses := true, apart := false }
def FnExactRowTurnedSaid : Prop := fnExactRowTurnedRow.holds Try.pinned (OpenSpec.ofChange fnExactRowTurnedSpec)

/-- ITS FALSE NEIGHBOUR: 'it returns false'. Refute it at one input. -/
def fnExactRowTurnedWrong : ChangeSpec := { name := "fnExactRowTurned", fn := fun _ => fun
  | [d] => { results := [.lit (.bool false)], args := [d] }
  | _ => none }
def FnExactRowTurnedWrongFalsely : Prop := fnExactRowTurnedRow.holds Try.pinned (OpenSpec.ofChange fnExactRowTurnedWrong)

/-- 'laws.FnExactRowLevels': WHATEVER THE INPUT: true; the input reads as it did. -/
def fnExactRowLevelsSpec : ChangeSpec := { name := "fnExactRowLevels", fn := fun _ => fun
  | [d] => { results := [.lit (.bool true)], args := [d] }
  | _ => none }
def fnExactRowLevelsRow : OpenClaim := { program := "ytlamiklkjidbiaa", sum := "34549f7441993028a3c3c66f701aa572738be70850819a25ac39d671bc06300c", func := "loop.example/boxball/laws.FnExactRowLevels", spec := "fnExactRowLevels", apart := false }
def FnExactRowLevelsSaid : Prop := fnExactRowLevelsRow.holds Try.pinned (OpenSpec.ofChange fnExactRowLevelsSpec)

/-- ITS FALSE NEIGHBOUR: 'it returns false'. Refute it at one input. -/
def fnExactRowLevelsWrong : ChangeSpec := { name := "fnExactRowLevels", fn := fun _ => fun
  | [d] => { results := [.lit (.bool false)], args := [d] }
  | _ => none }
def FnExactRowLevelsWrongFalsely : Prop := fnExactRowLevelsRow.holds Try.pinned (OpenSpec.ofChange fnExactRowLevelsWrong)

/-- 'laws.FnExactRowHigh': WHATEVER THE INPUT: true; the input reads as it did. -/
def fnExactRowHighSpec : ChangeSpec := { name := "fnExactRowHigh", fn := fun _ => fun
  | [d] => { results := [.lit (.bool true)], args := [d] }
  | _ => none }
def fnExactRowHighRow : OpenClaim := { program := "ytlamiklkjidbiaa", sum := "34549f7441993028a3c3c66f701aa572738be70850819a25ac39d671bc06300c", func := "loop.example/boxball/laws.FnExactRowHigh", spec := "fnExactRowHigh", apart := false }
def FnExactRowHighSaid : Prop := fnExactRowHighRow.holds Try.pinned (OpenSpec.ofChange fnExactRowHighSpec)

/-- ITS FALSE NEIGHBOUR: 'it returns false'. Refute it at one input. -/
def fnExactRowHighWrong : ChangeSpec := { name := "fnExactRowHigh", fn := fun _ => fun
  | [d] => { results := [.lit (.bool false)], args := [d] }
  | _ => none }
def FnExactRowHighWrongFalsely : Prop := fnExactRowHighRow.holds Try.pinned (OpenSpec.ofChange fnExactRowHighWrong)

/-- 'laws.FnRow': WHATEVER THE INPUT: true; the input reads as it did. -/
def fnRowSpec : ChangeSpec := { name := "fnRow", fn := fun _ => fun
  | [d] => { results := [.lit (.bool true)], args := [d] }
  | _ => none }
def fnRowRow : OpenClaim := { program := "ytlamiklkjidbiaa", sum := "34549f7441993028a3c3c66f701aa572738be70850819a25ac39d671bc06300c", func := "loop.example/boxball/laws.FnRow", spec := "fnRow", inPlace := ["internal/bytealg.MakeNoZero"], unfollowed := true, recurses := true, apart := false }
def FnRowSaid : Prop := fnRowRow.holds Try.pinned (OpenSpec.ofChange fnRowSpec)

/-- ITS FALSE NEIGHBOUR: 'it returns false'. Refute it at one input. -/
def fnRowWrong : ChangeSpec := { name := "fnRow", fn := fun _ => fun
  | [d] => { results := [.lit (.bool false)], args := [d] }
  | _ => none }
def FnRowWrongFalsely : Prop := fnRowRow.holds Try.pinned (OpenSpec.ofChange fnRowWrong)

/-- 'laws.FnBalls': WHATEVER THE INPUT: true; the input reads as it did. -/
def fnBallsSpec : ChangeSpec := { name := "fnBalls", fn := fun _ => fun
  | [d] => { results := [.lit (.bool true)], args := [d] }
  | _ => none }
def fnBallsRow : OpenClaim := { program := "ytlamiklkjidbiaa", sum := "34549f7441993028a3c3c66f701aa572738be70850819a25ac39d671bc06300c", func := "loop.example/boxball/laws.FnBalls", spec := "fnBalls", inPlace := ["internal/bytealg.MakeNoZero"], unfollowed := true, recurses := true, apart := false }
def FnBallsSaid : Prop := fnBallsRow.holds Try.pinned (OpenSpec.ofChange fnBallsSpec)

/-- ITS FALSE NEIGHBOUR: 'it returns false'. Refute it at one input. -/
def fnBallsWrong : ChangeSpec := { name := "fnBalls", fn := fun _ => fun
  | [d] => { results := [.lit (.bool false)], args := [d] }
  | _ => none }
def FnBallsWrongFalsely : Prop := fnBallsRow.holds Try.pinned (OpenSpec.ofChange fnBallsWrong)

/-- 'laws.FnRowOf': WHATEVER THE INPUT: true; the input reads as it did. -/
def fnRowOfSpec : ChangeSpec := { name := "fnRowOf", fn := fun _ => fun
  | [d] => { results := [.lit (.bool true)], args := [d] }
  | _ => none }
def fnRowOfRow : OpenClaim := { program := "ytlamiklkjidbiaa", sum := "34549f7441993028a3c3c66f701aa572738be70850819a25ac39d671bc06300c", func := "loop.example/boxball/laws.FnRowOf", spec := "fnRowOf", inPlace := ["internal/bytealg.MakeNoZero"], unfollowed := true, recurses := true, apart := false }
def FnRowOfSaid : Prop := fnRowOfRow.holds Try.pinned (OpenSpec.ofChange fnRowOfSpec)

/-- ITS FALSE NEIGHBOUR: 'it returns false'. Refute it at one input. -/
def fnRowOfWrong : ChangeSpec := { name := "fnRowOf", fn := fun _ => fun
  | [d] => { results := [.lit (.bool false)], args := [d] }
  | _ => none }
def FnRowOfWrongFalsely : Prop := fnRowOfRow.holds Try.pinned (OpenSpec.ofChange fnRowOfWrong)

/-- 'laws.FnAt': WHATEVER THE INPUT: true; the input reads as it did. -/
def fnAtSpec : ChangeSpec := { name := "fnAt", fn := fun _ => fun
  | [d] => { results := [.lit (.bool true)], args := [d] }
  | _ => none }
def fnAtRow : OpenClaim := { program := "ytlamiklkjidbiaa", sum := "34549f7441993028a3c3c66f701aa572738be70850819a25ac39d671bc06300c", func := "loop.example/boxball/laws.FnAt", spec := "fnAt", inPlace := ["internal/bytealg.MakeNoZero"], unfollowed := true, recurses := true, apart := false }
def FnAtSaid : Prop := fnAtRow.holds Try.pinned (OpenSpec.ofChange fnAtSpec)

/-- ITS FALSE NEIGHBOUR: 'it returns false'. Refute it at one input. -/
def fnAtWrong : ChangeSpec := { name := "fnAt", fn := fun _ => fun
  | [d] => { results := [.lit (.bool false)], args := [d] }
  | _ => none }
def FnAtWrongFalsely : Prop := fnAtRow.holds Try.pinned (OpenSpec.ofChange fnAtWrong)

/-- 'laws.FnShift': WHATEVER THE INPUT: true; the input reads as it did. -/
def fnShiftSpec : ChangeSpec := { name := "fnShift", fn := fun _ => fun
  | [d] => { results := [.lit (.bool true)], args := [d] }
  | _ => none }
def fnShiftRow : OpenClaim := { program := "ytlamiklkjidbiaa", sum := "34549f7441993028a3c3c66f701aa572738be70850819a25ac39d671bc06300c", func := "loop.example/boxball/laws.FnShift", spec := "fnShift", inPlace := ["internal/bytealg.MakeNoZero"], unfollowed := true, recurses := true, apart := false }
def FnShiftSaid : Prop := fnShiftRow.holds Try.pinned (OpenSpec.ofChange fnShiftSpec)

/-- ITS FALSE NEIGHBOUR: 'it returns false'. Refute it at one input. -/
def fnShiftWrong : ChangeSpec := { name := "fnShift", fn := fun _ => fun
  | [d] => { results := [.lit (.bool false)], args := [d] }
  | _ => none }
def FnShiftWrongFalsely : Prop := fnShiftRow.holds Try.pinned (OpenSpec.ofChange fnShiftWrong)

/-- 'laws.FnTurned': WHATEVER THE INPUT: true; the input reads as it did. -/
def fnTurnedSpec : ChangeSpec := { name := "fnTurned", fn := fun _ => fun
  | [d] => { results := [.lit (.bool true)], args := [d] }
  | _ => none }
def fnTurnedRow : OpenClaim := { program := "ytlamiklkjidbiaa", sum := "34549f7441993028a3c3c66f701aa572738be70850819a25ac39d671bc06300c", func := "loop.example/boxball/laws.FnTurned", spec := "fnTurned", inPlace := ["internal/bytealg.MakeNoZero"], unfollowed := true, recurses := true, apart := false }
def FnTurnedSaid : Prop := fnTurnedRow.holds Try.pinned (OpenSpec.ofChange fnTurnedSpec)

/-- ITS FALSE NEIGHBOUR: 'it returns false'. Refute it at one input. -/
def fnTurnedWrong : ChangeSpec := { name := "fnTurned", fn := fun _ => fun
  | [d] => { results := [.lit (.bool false)], args := [d] }
  | _ => none }
def FnTurnedWrongFalsely : Prop := fnTurnedRow.holds Try.pinned (OpenSpec.ofChange fnTurnedWrong)

/-- 'laws.FnLevels': WHATEVER THE INPUT: true; the input reads as it did. -/
def fnLevelsSpec : ChangeSpec := { name := "fnLevels", fn := fun _ => fun
  | [d] => { results := [.lit (.bool true)], args := [d] }
  | _ => none }
def fnLevelsRow : OpenClaim := { program := "ytlamiklkjidbiaa", sum := "34549f7441993028a3c3c66f701aa572738be70850819a25ac39d671bc06300c", func := "loop.example/boxball/laws.FnLevels", spec := "fnLevels", unfollowed := true, recurses := true, apart := false }
def FnLevelsSaid : Prop := fnLevelsRow.holds Try.pinned (OpenSpec.ofChange fnLevelsSpec)

/-- ITS FALSE NEIGHBOUR: 'it returns false'. Refute it at one input. -/
def fnLevelsWrong : ChangeSpec := { name := "fnLevels", fn := fun _ => fun
  | [d] => { results := [.lit (.bool false)], args := [d] }
  | _ => none }
def FnLevelsWrongFalsely : Prop := fnLevelsRow.holds Try.pinned (OpenSpec.ofChange fnLevelsWrong)

/-- 'laws.FnHigh': WHATEVER THE INPUT: true; the input reads as it did. -/
def fnHighSpec : ChangeSpec := { name := "fnHigh", fn := fun _ => fun
  | [d] => { results := [.lit (.bool true)], args := [d] }
  | _ => none }
def fnHighRow : OpenClaim := { program := "ytlamiklkjidbiaa", sum := "34549f7441993028a3c3c66f701aa572738be70850819a25ac39d671bc06300c", func := "loop.example/boxball/laws.FnHigh", spec := "fnHigh", inPlace := ["internal/bytealg.MakeNoZero"], unfollowed := true, recurses := true, apart := false }
def FnHighSaid : Prop := fnHighRow.holds Try.pinned (OpenSpec.ofChange fnHighSpec)

/-- ITS FALSE NEIGHBOUR: 'it returns false'. Refute it at one input. -/
def fnHighWrong : ChangeSpec := { name := "fnHigh", fn := fun _ => fun
  | [d] => { results := [.lit (.bool false)], args := [d] }
  | _ => none }
def FnHighWrongFalsely : Prop := fnHighRow.holds Try.pinned (OpenSpec.ofChange fnHighWrong)

/- THE SECOND FORM. 'bulk': how many values and letters a reading holds, each counted each time it is reached (what is shared counts as often as it is met; a slice's spare places count too). A statement '..UptoSaid' is the law's where the arguments, and the package variables that the reading takes, are together of bulk at most 1048576: NARROWER than '..Said'. Prove '..Said' where nothing that the law and all that it calls make is longer than what came in: it says more and counts as full. Else prove '..UptoSaid'. A law counts once. -/
mutual
def uptoBulk {H : Type} : DataW H → Nat
  | .lit (.string bytes) => bytes.length + 1
  | .lit _ => 1
  | .nil => 1
  | .ptr d => uptoBulk d + 1
  | .slice elems spare => uptoBulkAll elems + uptoBulkAll spare + 1
  | .agg parts => uptoBulkAll parts + 1
  | .iface _ d => uptoBulk d + 1
  | .map entries => uptoBulkEntries entries + 1
  | .held _ => 1
def uptoBulkAll {H : Type} : List (DataW H) → Nat
  | [] => 0
  | d :: r => uptoBulk d + uptoBulkAll r
def uptoBulkEntries {H : Type} : List (Lit × DataW H) → Nat
  | [] => 0
  | x :: r => uptoBulkEntry x + uptoBulkEntries r
def uptoBulkEntry {H : Type} : Lit × DataW H → Nat
  | (.string bytes, d) => bytes.length + uptoBulk d + 1
  | (_, d) => uptoBulk d + 1
 end
def uptoSmall : (H : Type) → List (DataW H) → Bool := fun _ ds => decide (uptoBulkAll ds ≤ 1048576)
def OpenSpec.upto (s : _root_.Go.ChangeSpec) : _root_.Go.OpenSpec := { _root_.Go.OpenSpec.ofChange s with cond := some uptoSmall }

/-- 'laws.FnTidy', WHERE WHAT IT READS IS OF BULK AT MOST 1048576: true; the input reads as it did. -/
def fnTidyUptoRow : OpenClaim := { program := "ytlamiklkjidbiaa", sum := "34549f7441993028a3c3c66f701aa572738be70850819a25ac39d671bc06300c", func := "loop.example/boxball/laws.FnTidy", spec := "fnTidy", inPlace := ["internal/bytealg.MakeNoZero"], unfollowed := true, recurses := true, apart := false, narrowed := true }
def FnTidyUptoSaid : Prop := fnTidyUptoRow.holds Try.pinned (OpenSpec.upto fnTidySpec)

/-- 'laws.FnExactRowValid', WHERE WHAT IT READS IS OF BULK AT MOST 1048576: true; the input reads as it did. -/
def fnExactRowValidUptoRow : OpenClaim := { program := "ytlamiklkjidbiaa", sum := "34549f7441993028a3c3c66f701aa572738be70850819a25ac39d671bc06300c", func := "loop.example/boxball/laws.FnExactRowValid", spec := "fnExactRowValid", apart := false, narrowed := true }
def FnExactRowValidUptoSaid : Prop := fnExactRowValidUptoRow.holds Try.pinned (OpenSpec.upto fnExactRowValidSpec)

/-- 'laws.FnExactRowTidy', WHERE WHAT IT READS IS OF BULK AT MOST 1048576: true; the input reads as it did. -/
def fnExactRowTidyUptoRow : OpenClaim := { program := "ytlamiklkjidbiaa", sum := "34549f7441993028a3c3c66f701aa572738be70850819a25ac39d671bc06300c", func := "loop.example/boxball/laws.FnExactRowTidy", spec := "fnExactRowTidy", inPlace := ["internal/bytealg.MakeNoZero"], unfollowed := true, recurses := true, apart := false, narrowed := true }
def FnExactRowTidyUptoSaid : Prop := fnExactRowTidyUptoRow.holds Try.pinned (OpenSpec.upto fnExactRowTidySpec)

/-- 'laws.FnExactRowBalls', WHERE WHAT IT READS IS OF BULK AT MOST 1048576: true; the input reads as it did. -/
def fnExactRowBallsUptoRow : OpenClaim := { program := "ytlamiklkjidbiaa", sum := "34549f7441993028a3c3c66f701aa572738be70850819a25ac39d671bc06300c", func := "loop.example/boxball/laws.FnExactRowBalls", spec := "fnExactRowBalls", unfollowed := true, recurses := true, apart := false, narrowed := true }
def FnExactRowBallsUptoSaid : Prop := fnExactRowBallsUptoRow.holds Try.pinned (OpenSpec.upto fnExactRowBallsSpec)

/-- 'laws.FnExactRowOf', WHERE WHAT IT READS IS OF BULK AT MOST 1048576: true; the input reads as it did. -/
def fnExactRowOfUptoRow : OpenClaim := { program := "ytlamiklkjidbiaa", sum := "34549f7441993028a3c3c66f701aa572738be70850819a25ac39d671bc06300c", func := "loop.example/boxball/laws.FnExactRowOf", spec := "fnExactRowOf", inPlace := ["internal/bytealg.MakeNoZero"], unfollowed := true, recurses := true, apart := false, narrowed := true }
def FnExactRowOfUptoSaid : Prop := fnExactRowOfUptoRow.holds Try.pinned (OpenSpec.upto fnExactRowOfSpec)

/-- 'laws.FnExactRowAt', WHERE WHAT IT READS IS OF BULK AT MOST 1048576: true; the input reads as it did. -/
def fnExactRowAtUptoRow : OpenClaim := { program := "ytlamiklkjidbiaa", sum := "34549f7441993028a3c3c66f701aa572738be70850819a25ac39d671bc06300c", func := "loop.example/boxball/laws.FnExactRowAt", spec := "fnExactRowAt", unfollowed := true, recurses := true, apart := false, narrowed := true }
def FnExactRowAtUptoSaid : Prop := fnExactRowAtUptoRow.holds Try.pinned (OpenSpec.upto fnExactRowAtSpec)

/-- 'laws.FnExactRowShift', WHERE WHAT IT READS IS OF BULK AT MOST 1048576: true; the input reads as it did. -/
def fnExactRowShiftUptoRow : OpenClaim := { program := "ytlamiklkjidbiaa", sum := "34549f7441993028a3c3c66f701aa572738be70850819a25ac39d671bc06300c", func := "loop.example/boxball/laws.FnExactRowShift", spec := "fnExactRowShift", inPlace := ["internal/bytealg.MakeNoZero"], unfollowed := true, recurses := true, apart := false, narrowed := true }
def FnExactRowShiftUptoSaid : Prop := fnExactRowShiftUptoRow.holds Try.pinned (OpenSpec.upto fnExactRowShiftSpec)

/-- 'laws.FnExactRowTurned', WHERE WHAT IT READS IS OF BULK AT MOST 1048576: true; the input reads as it did. -/
def fnExactRowTurnedUptoRow : OpenClaim := { program := "ytlamiklkjidbiaa", sum := "34549f7441993028a3c3c66f701aa572738be70850819a25ac39d671bc06300c", func := "loop.example/boxball/laws.FnExactRowTurned", spec := "fnExactRowTurned", inPlace := ["internal/bytealg.MakeNoZero"], unfollowed := true, recurses := true, apart := false, narrowed := true }
def FnExactRowTurnedUptoSaid : Prop := fnExactRowTurnedUptoRow.holds Try.pinned (OpenSpec.upto fnExactRowTurnedSpec)

/-- 'laws.FnExactRowLevels', WHERE WHAT IT READS IS OF BULK AT MOST 1048576: true; the input reads as it did. -/
def fnExactRowLevelsUptoRow : OpenClaim := { program := "ytlamiklkjidbiaa", sum := "34549f7441993028a3c3c66f701aa572738be70850819a25ac39d671bc06300c", func := "loop.example/boxball/laws.FnExactRowLevels", spec := "fnExactRowLevels", apart := false, narrowed := true }
def FnExactRowLevelsUptoSaid : Prop := fnExactRowLevelsUptoRow.holds Try.pinned (OpenSpec.upto fnExactRowLevelsSpec)

/-- 'laws.FnExactRowHigh', WHERE WHAT IT READS IS OF BULK AT MOST 1048576: true; the input reads as it did. -/
def fnExactRowHighUptoRow : OpenClaim := { program := "ytlamiklkjidbiaa", sum := "34549f7441993028a3c3c66f701aa572738be70850819a25ac39d671bc06300c", func := "loop.example/boxball/laws.FnExactRowHigh", spec := "fnExactRowHigh", apart := false, narrowed := true }
def FnExactRowHighUptoSaid : Prop := fnExactRowHighUptoRow.holds Try.pinned (OpenSpec.upto fnExactRowHighSpec)

/-- 'laws.FnRow', WHERE WHAT IT READS IS OF BULK AT MOST 1048576: true; the input reads as it did. -/
def fnRowUptoRow : OpenClaim := { program := "ytlamiklkjidbiaa", sum := "34549f7441993028a3c3c66f701aa572738be70850819a25ac39d671bc06300c", func := "loop.example/boxball/laws.FnRow", spec := "fnRow", inPlace := ["internal/bytealg.MakeNoZero"], unfollowed := true, recurses := true, apart := false, narrowed := true }
def FnRowUptoSaid : Prop := fnRowUptoRow.holds Try.pinned (OpenSpec.upto fnRowSpec)

/-- 'laws.FnBalls', WHERE WHAT IT READS IS OF BULK AT MOST 1048576: true; the input reads as it did. -/
def fnBallsUptoRow : OpenClaim := { program := "ytlamiklkjidbiaa", sum := "34549f7441993028a3c3c66f701aa572738be70850819a25ac39d671bc06300c", func := "loop.example/boxball/laws.FnBalls", spec := "fnBalls", inPlace := ["internal/bytealg.MakeNoZero"], unfollowed := true, recurses := true, apart := false, narrowed := true }
def FnBallsUptoSaid : Prop := fnBallsUptoRow.holds Try.pinned (OpenSpec.upto fnBallsSpec)

/-- 'laws.FnRowOf', WHERE WHAT IT READS IS OF BULK AT MOST 1048576: true; the input reads as it did. -/
def fnRowOfUptoRow : OpenClaim := { program := "ytlamiklkjidbiaa", sum := "34549f7441993028a3c3c66f701aa572738be70850819a25ac39d671bc06300c", func := "loop.example/boxball/laws.FnRowOf", spec := "fnRowOf", inPlace := ["internal/bytealg.MakeNoZero"], unfollowed := true, recurses := true, apart := false, narrowed := true }
def FnRowOfUptoSaid : Prop := fnRowOfUptoRow.holds Try.pinned (OpenSpec.upto fnRowOfSpec)

/-- 'laws.FnAt', WHERE WHAT IT READS IS OF BULK AT MOST 1048576: true; the input reads as it did. -/
def fnAtUptoRow : OpenClaim := { program := "ytlamiklkjidbiaa", sum := "34549f7441993028a3c3c66f701aa572738be70850819a25ac39d671bc06300c", func := "loop.example/boxball/laws.FnAt", spec := "fnAt", inPlace := ["internal/bytealg.MakeNoZero"], unfollowed := true, recurses := true, apart := false, narrowed := true }
def FnAtUptoSaid : Prop := fnAtUptoRow.holds Try.pinned (OpenSpec.upto fnAtSpec)

/-- 'laws.FnShift', WHERE WHAT IT READS IS OF BULK AT MOST 1048576: true; the input reads as it did. -/
def fnShiftUptoRow : OpenClaim := { program := "ytlamiklkjidbiaa", sum := "34549f7441993028a3c3c66f701aa572738be70850819a25ac39d671bc06300c", func := "loop.example/boxball/laws.FnShift", spec := "fnShift", inPlace := ["internal/bytealg.MakeNoZero"], unfollowed := true, recurses := true, apart := false, narrowed := true }
def FnShiftUptoSaid : Prop := fnShiftUptoRow.holds Try.pinned (OpenSpec.upto fnShiftSpec)

/-- 'laws.FnTurned', WHERE WHAT IT READS IS OF BULK AT MOST 1048576: true; the input reads as it did. -/
def fnTurnedUptoRow : OpenClaim := { program := "ytlamiklkjidbiaa", sum := "34549f7441993028a3c3c66f701aa572738be70850819a25ac39d671bc06300c", func := "loop.example/boxball/laws.FnTurned", spec := "fnTurned", inPlace := ["internal/bytealg.MakeNoZero"], unfollowed := true, recurses := true, apart := false, narrowed := true }
def FnTurnedUptoSaid : Prop := fnTurnedUptoRow.holds Try.pinned (OpenSpec.upto fnTurnedSpec)

/-- 'laws.FnLevels', WHERE WHAT IT READS IS OF BULK AT MOST 1048576: true; the input reads as it did. -/
def fnLevelsUptoRow : OpenClaim := { program := "ytlamiklkjidbiaa", sum := "34549f7441993028a3c3c66f701aa572738be70850819a25ac39d671bc06300c", func := "loop.example/boxball/laws.FnLevels", spec := "fnLevels", unfollowed := true, recurses := true, apart := false, narrowed := true }
def FnLevelsUptoSaid : Prop := fnLevelsUptoRow.holds Try.pinned (OpenSpec.upto fnLevelsSpec)

/-- 'laws.FnHigh', WHERE WHAT IT READS IS OF BULK AT MOST 1048576: true; the input reads as it did. -/
def fnHighUptoRow : OpenClaim := { program := "ytlamiklkjidbiaa", sum := "34549f7441993028a3c3c66f701aa572738be70850819a25ac39d671bc06300c", func := "loop.example/boxball/laws.FnHigh", spec := "fnHigh", inPlace := ["internal/bytealg.MakeNoZero"], unfollowed := true, recurses := true, apart := false, narrowed := true }
def FnHighUptoSaid : Prop := fnHighUptoRow.holds Try.pinned (OpenSpec.upto fnHighSpec)

end Rows
end Go.Proofs.Ytlamiklkjidbiaa
