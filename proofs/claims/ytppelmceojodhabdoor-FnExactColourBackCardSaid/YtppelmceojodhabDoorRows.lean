/-
  NARROWER THAN 'FOR EVERY INPUT', by the rows' own cells (each row's printed sentence says how): FnExactColourMove: laid · FnExactColourStep: laid · FnExactColourBack: laid.
  DERIVED. THE GIVEN ROWS OF THIS SEAT. 3 by the template 'for every input the law returns true; each argument reads behind the call as it read before'; 0 by the template 'total and deterministic' (their statements: YtppelmceojodhabDoorTotals.lean).
  GIVEN WITH THE SEED: the statements are not yours to turn. If you find one false, say at which input.
  Laid BY PROGRAM, IN A SANDBOX (cutbox-rows.mjs): the forced cells as the released guide's own fill.sh prints them over the translation 9cd39d61bd7f9d3a… (all of the seat's roots in one cut). By AI agents, Wed Nov 11 2026. No macro, syntax, notation, axiom, sorry.
-/
import Derived.Test.YtppelmceojodhabDoorChecked
import GoSem.PinnedTables
import GoSem.Claim
import GoSem.ClaimJoined
import GoSem.ClaimMapViews
import Derived.JoinedTies
import Derived.KernelRfl
namespace Go.Proofs.YtppelmceojodhabDoor
/- THE CELL 'sum', in the pinned program and in every row, IS THE sha256 OF THE DUMP (.gsa) THAT YtppelmceojodhabDoorProg.lean LOADS. Nothing in Lean hashes anything: it is a label: what it is worth is what the hold of that sum in a sandbox is worth. -/
noncomputable def Tryd.pinned : Pinned := { name := "ytppelmceojodhabdoor", sum := "9cd39d61bd7f9d3ae5ebd9f4410251f3e0ecab7a7d2b0ca456c74f43a4ca4477", checked := Tryd.checked }
namespace Rows
def none {H : Type} : Left H := { results := [], args := [] }

/- WHAT THE LISTED PACKAGE-LEVEL VARIABLES READ AS WHEN THE CALL BEGINS. Each datum BY PROGRAM (the guide's laid-datum.mjs) off the statement by which the dump's own 'gosem.cut.vars' lays the variable. In a bare row this is a premise. The card (YtppelmceojodhabDoorCards.lean) ties it to the program's text. -/
def laid_unicode_utf8_acceptRanges {H : Type} : DataW H := .agg [.agg [.lit (.int .u8 128), .lit (.int .u8 191)], .agg [.lit (.int .u8 160), .lit (.int .u8 191)], .agg [.lit (.int .u8 128), .lit (.int .u8 159)], .agg [.lit (.int .u8 144), .lit (.int .u8 191)], .agg [.lit (.int .u8 128), .lit (.int .u8 143)], .agg [.lit (.int .u8 0), .lit (.int .u8 0)], .agg [.lit (.int .u8 0), .lit (.int .u8 0)], .agg [.lit (.int .u8 0), .lit (.int .u8 0)], .agg [.lit (.int .u8 0), .lit (.int .u8 0)], .agg [.lit (.int .u8 0), .lit (.int .u8 0)], .agg [.lit (.int .u8 0), .lit (.int .u8 0)], .agg [.lit (.int .u8 0), .lit (.int .u8 0)], .agg [.lit (.int .u8 0), .lit (.int .u8 0)], .agg [.lit (.int .u8 0), .lit (.int .u8 0)], .agg [.lit (.int .u8 0), .lit (.int .u8 0)], .agg [.lit (.int .u8 0), .lit (.int .u8 0)]]
/-- One of Go's own tables, pinned by name: the form's constant. -/
def laid_unicode_utf8_first : DataW Unit := Go.Pinned.utf8First

/-- 'laws.FnExactColourMove': WHATEVER THE INPUT: true; the input reads as it did. -/
def fnExactColourMoveSpec : ChangeSpec := { name := "fnExactColourMove", fn := fun _ => fun
  | [d1, d2] => { results := [.lit (.bool true)], args := [d1, d2] }
  | _ => none }
def fnExactColourMoveRow : OpenClaim := { program := "ytppelmceojodhabdoor", sum := "9cd39d61bd7f9d3ae5ebd9f4410251f3e0ecab7a7d2b0ca456c74f43a4ca4477", func := "loop.example/boxball/laws.FnExactColourMove", spec := "fnExactColourMove", unfollowed := true, recurses := true, named := ["unicode/utf8.first", "unicode/utf8.acceptRanges"], apart := false, laid := [("unicode/utf8.acceptRanges", laid_unicode_utf8_acceptRanges), ("unicode/utf8.first", laid_unicode_utf8_first)] }
def FnExactColourMoveSaid : Prop := fnExactColourMoveRow.holds Tryd.pinned (OpenSpec.ofChange fnExactColourMoveSpec)

/-- ITS FALSE NEIGHBOUR: 'it returns false'. Refute it at one input. -/
def fnExactColourMoveWrong : ChangeSpec := { name := "fnExactColourMove", fn := fun _ => fun
  | [d1, d2] => { results := [.lit (.bool false)], args := [d1, d2] }
  | _ => none }
def FnExactColourMoveWrongFalsely : Prop := fnExactColourMoveRow.holds Tryd.pinned (OpenSpec.ofChange fnExactColourMoveWrong)

/-- 'laws.FnExactColourStep': WHATEVER THE INPUT: true; the input reads as it did. -/
def fnExactColourStepSpec : ChangeSpec := { name := "fnExactColourStep", fn := fun _ => fun
  | [d] => { results := [.lit (.bool true)], args := [d] }
  | _ => none }
def fnExactColourStepRow : OpenClaim := { program := "ytppelmceojodhabdoor", sum := "9cd39d61bd7f9d3ae5ebd9f4410251f3e0ecab7a7d2b0ca456c74f43a4ca4477", func := "loop.example/boxball/laws.FnExactColourStep", spec := "fnExactColourStep", unfollowed := true, recurses := true, named := ["unicode/utf8.first", "unicode/utf8.acceptRanges"], apart := false, laid := [("unicode/utf8.acceptRanges", laid_unicode_utf8_acceptRanges), ("unicode/utf8.first", laid_unicode_utf8_first)] }
def FnExactColourStepSaid : Prop := fnExactColourStepRow.holds Tryd.pinned (OpenSpec.ofChange fnExactColourStepSpec)

/-- ITS FALSE NEIGHBOUR: 'it returns false'. Refute it at one input. -/
def fnExactColourStepWrong : ChangeSpec := { name := "fnExactColourStep", fn := fun _ => fun
  | [d] => { results := [.lit (.bool false)], args := [d] }
  | _ => none }
def FnExactColourStepWrongFalsely : Prop := fnExactColourStepRow.holds Tryd.pinned (OpenSpec.ofChange fnExactColourStepWrong)

/-- 'laws.FnExactColourBack': WHATEVER THE INPUT: true; the input reads as it did. -/
def fnExactColourBackSpec : ChangeSpec := { name := "fnExactColourBack", fn := fun _ => fun
  | [d] => { results := [.lit (.bool true)], args := [d] }
  | _ => none }
def fnExactColourBackRow : OpenClaim := { program := "ytppelmceojodhabdoor", sum := "9cd39d61bd7f9d3ae5ebd9f4410251f3e0ecab7a7d2b0ca456c74f43a4ca4477", func := "loop.example/boxball/laws.FnExactColourBack", spec := "fnExactColourBack", unfollowed := true, recurses := true, named := ["unicode/utf8.first", "unicode/utf8.acceptRanges"], apart := false, laid := [("unicode/utf8.acceptRanges", laid_unicode_utf8_acceptRanges), ("unicode/utf8.first", laid_unicode_utf8_first)] }
def FnExactColourBackSaid : Prop := fnExactColourBackRow.holds Tryd.pinned (OpenSpec.ofChange fnExactColourBackSpec)

/-- ITS FALSE NEIGHBOUR: 'it returns false'. Refute it at one input. -/
def fnExactColourBackWrong : ChangeSpec := { name := "fnExactColourBack", fn := fun _ => fun
  | [d] => { results := [.lit (.bool false)], args := [d] }
  | _ => none }
def FnExactColourBackWrongFalsely : Prop := fnExactColourBackRow.holds Tryd.pinned (OpenSpec.ofChange fnExactColourBackWrong)

/- THE SECOND FORM. 'bulk': how many values and letters a reading holds, each counted each time it is reached (what is shared counts as often as it is met; a slice's spare places count too). A statement '..UptoSaid' is the law's where the arguments, and the package variables that the reading takes, are together of bulk at most 1048576: NARROWER than '..Said'. Prove '..Said' where nothing that the law and all that it calls make is longer than what came in: it says more and counts as full. Else prove '..UptoSaid'. A law counts once. -/
mutual
def uptoBulk {H : Type} : DataW H → Nat
  | .lit (.string bytes) => bytes.length + 1
  | .lit _ => 1
  | .nil => 1
  | .ptr d => uptoBulk d + 1
  | .slice elems spare => uptoBulkAll elems + uptoBulkAll spare + 1
  | .agg parts => uptoBulkAll parts + 1
  | .iface _ d => uptoBulk d + 1
  | .map entries => uptoBulkEntries entries + 1
  | .held _ => 1
def uptoBulkAll {H : Type} : List (DataW H) → Nat
  | [] => 0
  | d :: r => uptoBulk d + uptoBulkAll r
def uptoBulkEntries {H : Type} : List (Lit × DataW H) → Nat
  | [] => 0
  | x :: r => uptoBulkEntry x + uptoBulkEntries r
def uptoBulkEntry {H : Type} : Lit × DataW H → Nat
  | (.string bytes, d) => bytes.length + uptoBulk d + 1
  | (_, d) => uptoBulk d + 1
 end
def uptoSmall : (H : Type) → List (DataW H) → Bool := fun _ ds => decide (uptoBulkAll ds ≤ 1048576)
def OpenSpec.upto (s : _root_.Go.ChangeSpec) : _root_.Go.OpenSpec := { _root_.Go.OpenSpec.ofChange s with cond := some uptoSmall }

/-- 'laws.FnExactColourMove', WHERE WHAT IT READS IS OF BULK AT MOST 1048576: true; the input reads as it did. -/
def fnExactColourMoveUptoRow : OpenClaim := { program := "ytppelmceojodhabdoor", sum := "9cd39d61bd7f9d3ae5ebd9f4410251f3e0ecab7a7d2b0ca456c74f43a4ca4477", func := "loop.example/boxball/laws.FnExactColourMove", spec := "fnExactColourMove", unfollowed := true, recurses := true, named := ["unicode/utf8.first", "unicode/utf8.acceptRanges"], apart := false, laid := [("unicode/utf8.acceptRanges", laid_unicode_utf8_acceptRanges), ("unicode/utf8.first", laid_unicode_utf8_first)], narrowed := true }
def FnExactColourMoveUptoSaid : Prop := fnExactColourMoveUptoRow.holds Tryd.pinned (OpenSpec.upto fnExactColourMoveSpec)

/-- 'laws.FnExactColourStep', WHERE WHAT IT READS IS OF BULK AT MOST 1048576: true; the input reads as it did. -/
def fnExactColourStepUptoRow : OpenClaim := { program := "ytppelmceojodhabdoor", sum := "9cd39d61bd7f9d3ae5ebd9f4410251f3e0ecab7a7d2b0ca456c74f43a4ca4477", func := "loop.example/boxball/laws.FnExactColourStep", spec := "fnExactColourStep", unfollowed := true, recurses := true, named := ["unicode/utf8.first", "unicode/utf8.acceptRanges"], apart := false, laid := [("unicode/utf8.acceptRanges", laid_unicode_utf8_acceptRanges), ("unicode/utf8.first", laid_unicode_utf8_first)], narrowed := true }
def FnExactColourStepUptoSaid : Prop := fnExactColourStepUptoRow.holds Tryd.pinned (OpenSpec.upto fnExactColourStepSpec)

/-- 'laws.FnExactColourBack', WHERE WHAT IT READS IS OF BULK AT MOST 1048576: true; the input reads as it did. -/
def fnExactColourBackUptoRow : OpenClaim := { program := "ytppelmceojodhabdoor", sum := "9cd39d61bd7f9d3ae5ebd9f4410251f3e0ecab7a7d2b0ca456c74f43a4ca4477", func := "loop.example/boxball/laws.FnExactColourBack", spec := "fnExactColourBack", unfollowed := true, recurses := true, named := ["unicode/utf8.first", "unicode/utf8.acceptRanges"], apart := false, laid := [("unicode/utf8.acceptRanges", laid_unicode_utf8_acceptRanges), ("unicode/utf8.first", laid_unicode_utf8_first)], narrowed := true }
def FnExactColourBackUptoSaid : Prop := fnExactColourBackUptoRow.holds Tryd.pinned (OpenSpec.upto fnExactColourBackSpec)

end Rows
end Go.Proofs.YtppelmceojodhabDoor
