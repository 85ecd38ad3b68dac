/-
  NARROWER THAN 'FOR EVERY INPUT', by the rows' own cells (each row's printed sentence says how): FnExactRigIn: laid · FnExactRigRoom: laid · FnExactRigFits: laid · FnExactRigSizes: laid · FnRig: laid · FnRoom: laid.
  DERIVED. THE GIVEN ROWS OF THIS SEAT. 6 by the template 'for every input the law returns true; each argument reads behind the call as it read before'; 0 by the template 'total and deterministic' (their statements: YtgdjcfnmpljaiaaDoorTotals.lean).
  GIVEN WITH THE SEED: the statements are not yours to turn. If you find one false, say at which input.
  Laid BY PROGRAM, IN A SANDBOX (cutbox-rows.mjs): the forced cells as the released guide's own fill.sh prints them over the translation e0af0d27ebc754fb… (all of the seat's roots in one cut). By AI agents, Wed Nov 11 2026. No macro, syntax, notation, axiom, sorry.
-/
import Derived.Test.YtgdjcfnmpljaiaaDoorChecked
import GoSem.Claim
import GoSem.ClaimJoined
import GoSem.ClaimMapViews
import Derived.JoinedTies
import Derived.KernelRfl
namespace Go.Proofs.YtgdjcfnmpljaiaaDoor
/- THE CELL 'sum', in the pinned program and in every row, IS THE sha256 OF THE DUMP (.gsa) THAT YtgdjcfnmpljaiaaDoorProg.lean LOADS. Nothing in Lean hashes anything: it is a label: what it is worth is what the hold of that sum in a sandbox is worth. -/
noncomputable def Tryd.pinned : Pinned := { name := "ytgdjcfnmpljaiaadoor", sum := "e0af0d27ebc754fb7eab8ea1d14d82d5299be95250a10c3de3ade42736e56e06", checked := Tryd.checked }
namespace Rows
def none {H : Type} : Left H := { results := [], args := [] }

/- WHAT THE LISTED PACKAGE-LEVEL VARIABLES READ AS WHEN THE CALL BEGINS. Each datum BY PROGRAM (the guide's laid-datum.mjs) off the statement by which the dump's own 'gosem.cut.vars' lays the variable. In a bare row this is a premise. The card (YtgdjcfnmpljaiaaDoorCards.lean) ties it to the program's text. -/
def laid_errors_errorType {H : Type} : DataW H := .iface "internal/reflectlite.rtype" (.agg [.ptr (.lit (.string [101, 114, 114, 111, 114]))])

/-- 'laws.FnExactRigIn': WHATEVER THE INPUT: true; the input reads as it did. -/
def fnExactRigInSpec : ChangeSpec := { name := "fnExactRigIn", fn := fun _ => fun
  | [d] => { results := [.lit (.bool true)], args := [d] }
  | _ => none }
def fnExactRigInRow : OpenClaim := { program := "ytgdjcfnmpljaiaadoor", sum := "e0af0d27ebc754fb7eab8ea1d14d82d5299be95250a10c3de3ade42736e56e06", func := "loop.example/boxball/laws.FnExactRigIn", spec := "fnExactRigIn", inPlace := ["internal/reflectlite.ValueOf", "(internal/reflectlite.Value).Type", "(internal/reflectlite.Value).IsNil", "internal/reflectlite.TypeOf", "(internal/reflectlite.Value).Elem", "(internal/reflectlite.Value).Set"], unfollowed := true, recurses := true, named := ["errors.errorType"], apart := false, laid := [("errors.errorType", laid_errors_errorType)] }
def FnExactRigInSaid : Prop := fnExactRigInRow.holds Tryd.pinned (OpenSpec.ofChange fnExactRigInSpec)

/-- ITS FALSE NEIGHBOUR: 'it returns false'. Refute it at one input. -/
def fnExactRigInWrong : ChangeSpec := { name := "fnExactRigIn", fn := fun _ => fun
  | [d] => { results := [.lit (.bool false)], args := [d] }
  | _ => none }
def FnExactRigInWrongFalsely : Prop := fnExactRigInRow.holds Tryd.pinned (OpenSpec.ofChange fnExactRigInWrong)

/-- 'laws.FnExactRigRoom': WHATEVER THE INPUT: true; the input reads as it did. -/
def fnExactRigRoomSpec : ChangeSpec := { name := "fnExactRigRoom", fn := fun _ => fun
  | [d1, d2, d3] => { results := [.lit (.bool true)], args := [d1, d2, d3] }
  | _ => none }
def fnExactRigRoomRow : OpenClaim := { program := "ytgdjcfnmpljaiaadoor", sum := "e0af0d27ebc754fb7eab8ea1d14d82d5299be95250a10c3de3ade42736e56e06", func := "loop.example/boxball/laws.FnExactRigRoom", spec := "fnExactRigRoom", inPlace := ["slices.overlaps[loop.example/boxball/impl.Part]", "internal/reflectlite.ValueOf", "(internal/reflectlite.Value).Type", "(internal/reflectlite.Value).IsNil", "internal/reflectlite.TypeOf", "(internal/reflectlite.Value).Elem", "(internal/reflectlite.Value).Set"], unfollowed := true, recurses := true, named := ["errors.errorType"], apart := false, laid := [("errors.errorType", laid_errors_errorType)] }
def FnExactRigRoomSaid : Prop := fnExactRigRoomRow.holds Tryd.pinned (OpenSpec.ofChange fnExactRigRoomSpec)

/-- ITS FALSE NEIGHBOUR: 'it returns false'. Refute it at one input. -/
def fnExactRigRoomWrong : ChangeSpec := { name := "fnExactRigRoom", fn := fun _ => fun
  | [d1, d2, d3] => { results := [.lit (.bool false)], args := [d1, d2, d3] }
  | _ => none }
def FnExactRigRoomWrongFalsely : Prop := fnExactRigRoomRow.holds Tryd.pinned (OpenSpec.ofChange fnExactRigRoomWrong)

/-- 'laws.FnExactRigFits': WHATEVER THE INPUT: true; the input reads as it did. -/
def fnExactRigFitsSpec : ChangeSpec := { name := "fnExactRigFits", fn := fun _ => fun
  | [d1, d2] => { results := [.lit (.bool true)], args := [d1, d2] }
  | _ => none }
def fnExactRigFitsRow : OpenClaim := { program := "ytgdjcfnmpljaiaadoor", sum := "e0af0d27ebc754fb7eab8ea1d14d82d5299be95250a10c3de3ade42736e56e06", func := "loop.example/boxball/laws.FnExactRigFits", spec := "fnExactRigFits", inPlace := ["slices.overlaps[loop.example/boxball/impl.Part]", "internal/reflectlite.ValueOf", "(internal/reflectlite.Value).Type", "(internal/reflectlite.Value).IsNil", "internal/reflectlite.TypeOf", "(internal/reflectlite.Value).Elem", "(internal/reflectlite.Value).Set"], unfollowed := true, recurses := true, named := ["errors.errorType"], apart := false, laid := [("errors.errorType", laid_errors_errorType)] }
def FnExactRigFitsSaid : Prop := fnExactRigFitsRow.holds Tryd.pinned (OpenSpec.ofChange fnExactRigFitsSpec)

/-- ITS FALSE NEIGHBOUR: 'it returns false'. Refute it at one input. -/
def fnExactRigFitsWrong : ChangeSpec := { name := "fnExactRigFits", fn := fun _ => fun
  | [d1, d2] => { results := [.lit (.bool false)], args := [d1, d2] }
  | _ => none }
def FnExactRigFitsWrongFalsely : Prop := fnExactRigFitsRow.holds Tryd.pinned (OpenSpec.ofChange fnExactRigFitsWrong)

/-- 'laws.FnExactRigSizes': WHATEVER THE INPUT: true; the input reads as it did. -/
def fnExactRigSizesSpec : ChangeSpec := { name := "fnExactRigSizes", fn := fun _ => fun
  | [d] => { results := [.lit (.bool true)], args := [d] }
  | _ => none }
def fnExactRigSizesRow : OpenClaim := { program := "ytgdjcfnmpljaiaadoor", sum := "e0af0d27ebc754fb7eab8ea1d14d82d5299be95250a10c3de3ade42736e56e06", func := "loop.example/boxball/laws.FnExactRigSizes", spec := "fnExactRigSizes", inPlace := ["internal/reflectlite.ValueOf", "(internal/reflectlite.Value).Type", "(internal/reflectlite.Value).IsNil", "internal/reflectlite.TypeOf", "(internal/reflectlite.Value).Elem", "(internal/reflectlite.Value).Set"], unfollowed := true, recurses := true, named := ["errors.errorType"], apart := false, laid := [("errors.errorType", laid_errors_errorType)] }
def FnExactRigSizesSaid : Prop := fnExactRigSizesRow.holds Tryd.pinned (OpenSpec.ofChange fnExactRigSizesSpec)

/-- ITS FALSE NEIGHBOUR: 'it returns false'. Refute it at one input. -/
def fnExactRigSizesWrong : ChangeSpec := { name := "fnExactRigSizes", fn := fun _ => fun
  | [d] => { results := [.lit (.bool false)], args := [d] }
  | _ => none }
def FnExactRigSizesWrongFalsely : Prop := fnExactRigSizesRow.holds Tryd.pinned (OpenSpec.ofChange fnExactRigSizesWrong)

/-- 'laws.FnRig': WHATEVER THE INPUT: true; the input reads as it did. -/
def fnRigSpec : ChangeSpec := { name := "fnRig", fn := fun _ => fun
  | [d] => { results := [.lit (.bool true)], args := [d] }
  | _ => none }
def fnRigRow : OpenClaim := { program := "ytgdjcfnmpljaiaadoor", sum := "e0af0d27ebc754fb7eab8ea1d14d82d5299be95250a10c3de3ade42736e56e06", func := "loop.example/boxball/laws.FnRig", spec := "fnRig", inPlace := ["internal/reflectlite.ValueOf", "(internal/reflectlite.Value).Type", "(internal/reflectlite.Value).IsNil", "internal/reflectlite.TypeOf", "(internal/reflectlite.Value).Elem", "(internal/reflectlite.Value).Set"], unfollowed := true, recurses := true, named := ["errors.errorType"], apart := false, laid := [("errors.errorType", laid_errors_errorType)] }
def FnRigSaid : Prop := fnRigRow.holds Tryd.pinned (OpenSpec.ofChange fnRigSpec)

/-- ITS FALSE NEIGHBOUR: 'it returns false'. Refute it at one input. -/
def fnRigWrong : ChangeSpec := { name := "fnRig", fn := fun _ => fun
  | [d] => { results := [.lit (.bool false)], args := [d] }
  | _ => none }
def FnRigWrongFalsely : Prop := fnRigRow.holds Tryd.pinned (OpenSpec.ofChange fnRigWrong)

/-- 'laws.FnRoom': WHATEVER THE INPUT: true; the input reads as it did. -/
def fnRoomSpec : ChangeSpec := { name := "fnRoom", fn := fun _ => fun
  | [d] => { results := [.lit (.bool true)], args := [d] }
  | _ => none }
def fnRoomRow : OpenClaim := { program := "ytgdjcfnmpljaiaadoor", sum := "e0af0d27ebc754fb7eab8ea1d14d82d5299be95250a10c3de3ade42736e56e06", func := "loop.example/boxball/laws.FnRoom", spec := "fnRoom", inPlace := ["slices.overlaps[loop.example/boxball/impl.Part]", "internal/reflectlite.ValueOf", "(internal/reflectlite.Value).Type", "(internal/reflectlite.Value).IsNil", "internal/reflectlite.TypeOf", "(internal/reflectlite.Value).Elem", "(internal/reflectlite.Value).Set"], unfollowed := true, recurses := true, named := ["errors.errorType"], apart := false, laid := [("errors.errorType", laid_errors_errorType)] }
def FnRoomSaid : Prop := fnRoomRow.holds Tryd.pinned (OpenSpec.ofChange fnRoomSpec)

/-- ITS FALSE NEIGHBOUR: 'it returns false'. Refute it at one input. -/
def fnRoomWrong : ChangeSpec := { name := "fnRoom", fn := fun _ => fun
  | [d] => { results := [.lit (.bool false)], args := [d] }
  | _ => none }
def FnRoomWrongFalsely : Prop := fnRoomRow.holds Tryd.pinned (OpenSpec.ofChange fnRoomWrong)

/- THE SECOND FORM. 'bulk': how many values and letters a reading holds, each counted each time it is reached (what is shared counts as often as it is met; a slice's spare places count too). A statement '..UptoSaid' is the law's where the arguments, and the package variables that the reading takes, are together of bulk at most 1048576: NARROWER than '..Said'. Prove '..Said' where nothing that the law and all that it calls make is longer than what came in: it says more and counts as full. Else prove '..UptoSaid'. A law counts once. -/
mutual
def uptoBulk {H : Type} : DataW H → Nat
  | .lit (.string bytes) => bytes.length + 1
  | .lit _ => 1
  | .nil => 1
  | .ptr d => uptoBulk d + 1
  | .slice elems spare => uptoBulkAll elems + uptoBulkAll spare + 1
  | .agg parts => uptoBulkAll parts + 1
  | .iface _ d => uptoBulk d + 1
  | .map entries => uptoBulkEntries entries + 1
  | .held _ => 1
def uptoBulkAll {H : Type} : List (DataW H) → Nat
  | [] => 0
  | d :: r => uptoBulk d + uptoBulkAll r
def uptoBulkEntries {H : Type} : List (Lit × DataW H) → Nat
  | [] => 0
  | x :: r => uptoBulkEntry x + uptoBulkEntries r
def uptoBulkEntry {H : Type} : Lit × DataW H → Nat
  | (.string bytes, d) => bytes.length + uptoBulk d + 1
  | (_, d) => uptoBulk d + 1
 end
def uptoSmall : (H : Type) → List (DataW H) → Bool := fun _ ds => decide (uptoBulkAll ds ≤ 1048576)
def OpenSpec.upto (s : _root_.Go.ChangeSpec) : _root_.Go.OpenSpec := { _root_.Go.OpenSpec.ofChange s with cond := some uptoSmall }

/-- 'laws.FnExactRigIn', WHERE WHAT IT READS IS OF BULK AT MOST 1048576: true; the input reads as it did. -/
def fnExactRigInUptoRow : OpenClaim := { program := "ytgdjcfnmpljaiaadoor", sum := "e0af0d27ebc754fb7eab8ea1d14d82d5299be95250a10c3de3ade42736e56e06", func := "loop.example/boxball/laws.FnExactRigIn", spec := "fnExactRigIn", inPlace := ["internal/reflectlite.ValueOf", "(internal/reflectlite.Value).Type", "(internal/reflectlite.Value).IsNil", "internal/reflectlite.TypeOf", "(internal/reflectlite.Value).Elem", "(internal/reflectlite.Value).Set"], unfollowed := true, recurses := true, named := ["errors.errorType"], apart := false, laid := [("errors.errorType", laid_errors_errorType)], narrowed := true }
def FnExactRigInUptoSaid : Prop := fnExactRigInUptoRow.holds Tryd.pinned (OpenSpec.upto fnExactRigInSpec)

/-- 'laws.FnExactRigRoom', WHERE WHAT IT READS IS OF BULK AT MOST 1048576: true; the input reads as it did. -/
def fnExactRigRoomUptoRow : OpenClaim := { program := "ytgdjcfnmpljaiaadoor", sum := "e0af0d27ebc754fb7eab8ea1d14d82d5299be95250a10c3de3ade42736e56e06", func := "loop.example/boxball/laws.FnExactRigRoom", spec := "fnExactRigRoom", inPlace := ["slices.overlaps[loop.example/boxball/impl.Part]", "internal/reflectlite.ValueOf", "(internal/reflectlite.Value).Type", "(internal/reflectlite.Value).IsNil", "internal/reflectlite.TypeOf", "(internal/reflectlite.Value).Elem", "(internal/reflectlite.Value).Set"], unfollowed := true, recurses := true, named := ["errors.errorType"], apart := false, laid := [("errors.errorType", laid_errors_errorType)], narrowed := true }
def FnExactRigRoomUptoSaid : Prop := fnExactRigRoomUptoRow.holds Tryd.pinned (OpenSpec.upto fnExactRigRoomSpec)

/-- 'laws.FnExactRigFits', WHERE WHAT IT READS IS OF BULK AT MOST 1048576: true; the input reads as it did. -/
def fnExactRigFitsUptoRow : OpenClaim := { program := "ytgdjcfnmpljaiaadoor", sum := "e0af0d27ebc754fb7eab8ea1d14d82d5299be95250a10c3de3ade42736e56e06", func := "loop.example/boxball/laws.FnExactRigFits", spec := "fnExactRigFits", inPlace := ["slices.overlaps[loop.example/boxball/impl.Part]", "internal/reflectlite.ValueOf", "(internal/reflectlite.Value).Type", "(internal/reflectlite.Value).IsNil", "internal/reflectlite.TypeOf", "(internal/reflectlite.Value).Elem", "(internal/reflectlite.Value).Set"], unfollowed := true, recurses := true, named := ["errors.errorType"], apart := false, laid := [("errors.errorType", laid_errors_errorType)], narrowed := true }
def FnExactRigFitsUptoSaid : Prop := fnExactRigFitsUptoRow.holds Tryd.pinned (OpenSpec.upto fnExactRigFitsSpec)

/-- 'laws.FnExactRigSizes', WHERE WHAT IT READS IS OF BULK AT MOST 1048576: true; the input reads as it did. -/
def fnExactRigSizesUptoRow : OpenClaim := { program := "ytgdjcfnmpljaiaadoor", sum := "e0af0d27ebc754fb7eab8ea1d14d82d5299be95250a10c3de3ade42736e56e06", func := "loop.example/boxball/laws.FnExactRigSizes", spec := "fnExactRigSizes", inPlace := ["internal/reflectlite.ValueOf", "(internal/reflectlite.Value).Type", "(internal/reflectlite.Value).IsNil", "internal/reflectlite.TypeOf", "(internal/reflectlite.Value).Elem", "(internal/reflectlite.Value).Set"], unfollowed := true, recurses := true, named := ["errors.errorType"], apart := false, laid := [("errors.errorType", laid_errors_errorType)], narrowed := true }
def FnExactRigSizesUptoSaid : Prop := fnExactRigSizesUptoRow.holds Tryd.pinned (OpenSpec.upto fnExactRigSizesSpec)

/-- 'laws.FnRig', WHERE WHAT IT READS IS OF BULK AT MOST 1048576: true; the input reads as it did. -/
def fnRigUptoRow : OpenClaim := { program := "ytgdjcfnmpljaiaadoor", sum := "e0af0d27ebc754fb7eab8ea1d14d82d5299be95250a10c3de3ade42736e56e06", func := "loop.example/boxball/laws.FnRig", spec := "fnRig", inPlace := ["internal/reflectlite.ValueOf", "(internal/reflectlite.Value).Type", "(internal/reflectlite.Value).IsNil", "internal/reflectlite.TypeOf", "(internal/reflectlite.Value).Elem", "(internal/reflectlite.Value).Set"], unfollowed := true, recurses := true, named := ["errors.errorType"], apart := false, laid := [("errors.errorType", laid_errors_errorType)], narrowed := true }
def FnRigUptoSaid : Prop := fnRigUptoRow.holds Tryd.pinned (OpenSpec.upto fnRigSpec)

/-- 'laws.FnRoom', WHERE WHAT IT READS IS OF BULK AT MOST 1048576: true; the input reads as it did. -/
def fnRoomUptoRow : OpenClaim := { program := "ytgdjcfnmpljaiaadoor", sum := "e0af0d27ebc754fb7eab8ea1d14d82d5299be95250a10c3de3ade42736e56e06", func := "loop.example/boxball/laws.FnRoom", spec := "fnRoom", inPlace := ["slices.overlaps[loop.example/boxball/impl.Part]", "internal/reflectlite.ValueOf", "(internal/reflectlite.Value).Type", "(internal/reflectlite.Value).IsNil", "internal/reflectlite.TypeOf", "(internal/reflectlite.Value).Elem", "(internal/reflectlite.Value).Set"], unfollowed := true, recurses := true, named := ["errors.errorType"], apart := false, laid := [("errors.errorType", laid_errors_errorType)], narrowed := true }
def FnRoomUptoSaid : Prop := fnRoomUptoRow.holds Tryd.pinned (OpenSpec.upto fnRoomSpec)

end Rows
end Go.Proofs.YtgdjcfnmpljaiaaDoor
