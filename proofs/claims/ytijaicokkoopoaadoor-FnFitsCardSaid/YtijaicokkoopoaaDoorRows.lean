/-
  NARROWER THAN 'FOR EVERY INPUT', by the rows' own cells (each row's printed sentence says how): FnFits: laid · FnFlow: laid · FnRigSizes: laid · FnExactRigOf: laid · FnExactRigRow: laid · FnExactRigFlow: laid.
  DERIVED. THE GIVEN ROWS OF THIS SEAT. 6 by the template 'for every input the law returns true; each argument reads behind the call as it read before'; 0 by the template 'total and deterministic' (their statements: YtijaicokkoopoaaDoorTotals.lean).
  GIVEN WITH THE SEED: the statements are not yours to turn. If you find one false, say at which input.
  Laid BY PROGRAM, IN A SANDBOX (cutbox-rows.mjs): the forced cells as the released guide's own fill.sh prints them over the translation 1544f0dea6eb9981… (all of the seat's roots in one cut). By AI agents, Wed Nov 11 2026. No macro, syntax, notation, axiom, sorry.
-/
import Derived.Test.YtijaicokkoopoaaDoorChecked
import GoSem.Claim
import GoSem.ClaimJoined
import GoSem.ClaimMapViews
import Derived.JoinedTies
import Derived.KernelRfl
namespace Go.Proofs.YtijaicokkoopoaaDoor
/- THE CELL 'sum', in the pinned program and in every row, IS THE sha256 OF THE DUMP (.gsa) THAT YtijaicokkoopoaaDoorProg.lean LOADS. Nothing in Lean hashes anything: it is a label: what it is worth is what the hold of that sum in a sandbox is worth. -/
noncomputable def Tryd.pinned : Pinned := { name := "ytijaicokkoopoaadoor", sum := "1544f0dea6eb998129b6fb6cd8d7e18a2873051b0ed07d7593cd8794965914b6", checked := Tryd.checked }
namespace Rows
def none {H : Type} : Left H := { results := [], args := [] }

/- WHAT THE LISTED PACKAGE-LEVEL VARIABLES READ AS WHEN THE CALL BEGINS. Each datum BY PROGRAM (the guide's laid-datum.mjs) off the statement by which the dump's own 'gosem.cut.vars' lays the variable. In a bare row this is a premise. The card (YtijaicokkoopoaaDoorCards.lean) ties it to the program's text. -/
def laid_errors_errorType {H : Type} : DataW H := .iface "internal/reflectlite.rtype" (.agg [.ptr (.lit (.string [101, 114, 114, 111, 114]))])

/-- 'laws.FnFits': WHATEVER THE INPUT: true; the input reads as it did. -/
def fnFitsSpec : ChangeSpec := { name := "fnFits", fn := fun _ => fun
  | [d] => { results := [.lit (.bool true)], args := [d] }
  | _ => none }
def fnFitsRow : OpenClaim := { program := "ytijaicokkoopoaadoor", sum := "1544f0dea6eb998129b6fb6cd8d7e18a2873051b0ed07d7593cd8794965914b6", func := "loop.example/boxball/laws.FnFits", spec := "fnFits", inPlace := ["slices.overlaps[loop.example/boxball/impl.Part]", "internal/reflectlite.ValueOf", "(internal/reflectlite.Value).Type", "(internal/reflectlite.Value).IsNil", "internal/reflectlite.TypeOf", "(internal/reflectlite.Value).Elem", "(internal/reflectlite.Value).Set"], unfollowed := true, recurses := true, named := ["errors.errorType"], apart := false, laid := [("errors.errorType", laid_errors_errorType)] }
def FnFitsSaid : Prop := fnFitsRow.holds Tryd.pinned (OpenSpec.ofChange fnFitsSpec)

/-- ITS FALSE NEIGHBOUR: 'it returns false'. Refute it at one input. -/
def fnFitsWrong : ChangeSpec := { name := "fnFits", fn := fun _ => fun
  | [d] => { results := [.lit (.bool false)], args := [d] }
  | _ => none }
def FnFitsWrongFalsely : Prop := fnFitsRow.holds Tryd.pinned (OpenSpec.ofChange fnFitsWrong)

/-- 'laws.FnFlow': WHATEVER THE INPUT: true; the input reads as it did. -/
def fnFlowSpec : ChangeSpec := { name := "fnFlow", fn := fun _ => fun
  | [d] => { results := [.lit (.bool true)], args := [d] }
  | _ => none }
def fnFlowRow : OpenClaim := { program := "ytijaicokkoopoaadoor", sum := "1544f0dea6eb998129b6fb6cd8d7e18a2873051b0ed07d7593cd8794965914b6", func := "loop.example/boxball/laws.FnFlow", spec := "fnFlow", inPlace := ["slices.overlaps[loop.example/boxball/impl.Part]", "internal/reflectlite.ValueOf", "(internal/reflectlite.Value).Type", "(internal/reflectlite.Value).IsNil", "internal/reflectlite.TypeOf", "(internal/reflectlite.Value).Elem", "(internal/reflectlite.Value).Set"], unfollowed := true, recurses := true, named := ["errors.errorType"], apart := false, laid := [("errors.errorType", laid_errors_errorType)] }
def FnFlowSaid : Prop := fnFlowRow.holds Tryd.pinned (OpenSpec.ofChange fnFlowSpec)

/-- ITS FALSE NEIGHBOUR: 'it returns false'. Refute it at one input. -/
def fnFlowWrong : ChangeSpec := { name := "fnFlow", fn := fun _ => fun
  | [d] => { results := [.lit (.bool false)], args := [d] }
  | _ => none }
def FnFlowWrongFalsely : Prop := fnFlowRow.holds Tryd.pinned (OpenSpec.ofChange fnFlowWrong)

/-- 'laws.FnRigSizes': WHATEVER THE INPUT: true; the input reads as it did. -/
def fnRigSizesSpec : ChangeSpec := { name := "fnRigSizes", fn := fun _ => fun
  | [d] => { results := [.lit (.bool true)], args := [d] }
  | _ => none }
def fnRigSizesRow : OpenClaim := { program := "ytijaicokkoopoaadoor", sum := "1544f0dea6eb998129b6fb6cd8d7e18a2873051b0ed07d7593cd8794965914b6", func := "loop.example/boxball/laws.FnRigSizes", spec := "fnRigSizes", inPlace := ["internal/reflectlite.ValueOf", "(internal/reflectlite.Value).Type", "(internal/reflectlite.Value).IsNil", "internal/reflectlite.TypeOf", "(internal/reflectlite.Value).Elem", "(internal/reflectlite.Value).Set"], unfollowed := true, recurses := true, named := ["errors.errorType"], apart := false, laid := [("errors.errorType", laid_errors_errorType)] }
def FnRigSizesSaid : Prop := fnRigSizesRow.holds Tryd.pinned (OpenSpec.ofChange fnRigSizesSpec)

/-- ITS FALSE NEIGHBOUR: 'it returns false'. Refute it at one input. -/
def fnRigSizesWrong : ChangeSpec := { name := "fnRigSizes", fn := fun _ => fun
  | [d] => { results := [.lit (.bool false)], args := [d] }
  | _ => none }
def FnRigSizesWrongFalsely : Prop := fnRigSizesRow.holds Tryd.pinned (OpenSpec.ofChange fnRigSizesWrong)

/-- 'laws.FnExactRigOf': WHATEVER THE INPUT: true; the input reads as it did. -/
def fnExactRigOfSpec : ChangeSpec := { name := "fnExactRigOf", fn := fun _ => fun
  | [d] => { results := [.lit (.bool true)], args := [d] }
  | _ => none }
def fnExactRigOfRow : OpenClaim := { program := "ytijaicokkoopoaadoor", sum := "1544f0dea6eb998129b6fb6cd8d7e18a2873051b0ed07d7593cd8794965914b6", func := "loop.example/boxball/laws.FnExactRigOf", spec := "fnExactRigOf", inPlace := ["slices.overlaps[loop.example/boxball/impl.Part]", "internal/reflectlite.ValueOf", "(internal/reflectlite.Value).Type", "(internal/reflectlite.Value).IsNil", "internal/reflectlite.TypeOf", "(internal/reflectlite.Value).Elem", "(internal/reflectlite.Value).Set"], unfollowed := true, recurses := true, named := ["errors.errorType"], apart := false, laid := [("errors.errorType", laid_errors_errorType)] }
def FnExactRigOfSaid : Prop := fnExactRigOfRow.holds Tryd.pinned (OpenSpec.ofChange fnExactRigOfSpec)

/-- ITS FALSE NEIGHBOUR: 'it returns false'. Refute it at one input. -/
def fnExactRigOfWrong : ChangeSpec := { name := "fnExactRigOf", fn := fun _ => fun
  | [d] => { results := [.lit (.bool false)], args := [d] }
  | _ => none }
def FnExactRigOfWrongFalsely : Prop := fnExactRigOfRow.holds Tryd.pinned (OpenSpec.ofChange fnExactRigOfWrong)

/-- 'laws.FnExactRigRow': WHATEVER THE INPUT: true; the input reads as it did. -/
def fnExactRigRowSpec : ChangeSpec := { name := "fnExactRigRow", fn := fun _ => fun
  | [d1, d2] => { results := [.lit (.bool true)], args := [d1, d2] }
  | _ => none }
def fnExactRigRowRow : OpenClaim := { program := "ytijaicokkoopoaadoor", sum := "1544f0dea6eb998129b6fb6cd8d7e18a2873051b0ed07d7593cd8794965914b6", func := "loop.example/boxball/laws.FnExactRigRow", spec := "fnExactRigRow", inPlace := ["slices.overlaps[loop.example/boxball/impl.Part]", "internal/reflectlite.ValueOf", "(internal/reflectlite.Value).Type", "(internal/reflectlite.Value).IsNil", "internal/reflectlite.TypeOf", "(internal/reflectlite.Value).Elem", "(internal/reflectlite.Value).Set", "internal/bytealg.MakeNoZero"], unfollowed := true, recurses := true, named := ["errors.errorType"], apart := false, laid := [("errors.errorType", laid_errors_errorType)] }
def FnExactRigRowSaid : Prop := fnExactRigRowRow.holds Tryd.pinned (OpenSpec.ofChange fnExactRigRowSpec)

/-- ITS FALSE NEIGHBOUR: 'it returns false'. Refute it at one input. -/
def fnExactRigRowWrong : ChangeSpec := { name := "fnExactRigRow", fn := fun _ => fun
  | [d1, d2] => { results := [.lit (.bool false)], args := [d1, d2] }
  | _ => none }
def FnExactRigRowWrongFalsely : Prop := fnExactRigRowRow.holds Tryd.pinned (OpenSpec.ofChange fnExactRigRowWrong)

/-- 'laws.FnExactRigFlow': WHATEVER THE INPUT: true; the input reads as it did. -/
def fnExactRigFlowSpec : ChangeSpec := { name := "fnExactRigFlow", fn := fun _ => fun
  | [d1, d2] => { results := [.lit (.bool true)], args := [d1, d2] }
  | _ => none }
def fnExactRigFlowRow : OpenClaim := { program := "ytijaicokkoopoaadoor", sum := "1544f0dea6eb998129b6fb6cd8d7e18a2873051b0ed07d7593cd8794965914b6", func := "loop.example/boxball/laws.FnExactRigFlow", spec := "fnExactRigFlow", inPlace := ["slices.overlaps[loop.example/boxball/impl.Part]", "internal/reflectlite.ValueOf", "(internal/reflectlite.Value).Type", "(internal/reflectlite.Value).IsNil", "internal/reflectlite.TypeOf", "(internal/reflectlite.Value).Elem", "(internal/reflectlite.Value).Set"], unfollowed := true, recurses := true, named := ["errors.errorType"], apart := false, laid := [("errors.errorType", laid_errors_errorType)] }
def FnExactRigFlowSaid : Prop := fnExactRigFlowRow.holds Tryd.pinned (OpenSpec.ofChange fnExactRigFlowSpec)

/-- ITS FALSE NEIGHBOUR: 'it returns false'. Refute it at one input. -/
def fnExactRigFlowWrong : ChangeSpec := { name := "fnExactRigFlow", fn := fun _ => fun
  | [d1, d2] => { results := [.lit (.bool false)], args := [d1, d2] }
  | _ => none }
def FnExactRigFlowWrongFalsely : Prop := fnExactRigFlowRow.holds Tryd.pinned (OpenSpec.ofChange fnExactRigFlowWrong)

/- THE SECOND FORM. 'bulk': how many values and letters a reading holds, each counted each time it is reached (what is shared counts as often as it is met; a slice's spare places count too). A statement '..UptoSaid' is the law's where the arguments, and the package variables that the reading takes, are together of bulk at most 1048576: NARROWER than '..Said'. Prove '..Said' where nothing that the law and all that it calls make is longer than what came in: it says more and counts as full. Else prove '..UptoSaid'. A law counts once. -/
mutual
def uptoBulk {H : Type} : DataW H → Nat
  | .lit (.string bytes) => bytes.length + 1
  | .lit _ => 1
  | .nil => 1
  | .ptr d => uptoBulk d + 1
  | .slice elems spare => uptoBulkAll elems + uptoBulkAll spare + 1
  | .agg parts => uptoBulkAll parts + 1
  | .iface _ d => uptoBulk d + 1
  | .map entries => uptoBulkEntries entries + 1
  | .held _ => 1
def uptoBulkAll {H : Type} : List (DataW H) → Nat
  | [] => 0
  | d :: r => uptoBulk d + uptoBulkAll r
def uptoBulkEntries {H : Type} : List (Lit × DataW H) → Nat
  | [] => 0
  | x :: r => uptoBulkEntry x + uptoBulkEntries r
def uptoBulkEntry {H : Type} : Lit × DataW H → Nat
  | (.string bytes, d) => bytes.length + uptoBulk d + 1
  | (_, d) => uptoBulk d + 1
 end
def uptoSmall : (H : Type) → List (DataW H) → Bool := fun _ ds => decide (uptoBulkAll ds ≤ 1048576)
def OpenSpec.upto (s : _root_.Go.ChangeSpec) : _root_.Go.OpenSpec := { _root_.Go.OpenSpec.ofChange s with cond := some uptoSmall }

/-- 'laws.FnFits', WHERE WHAT IT READS IS OF BULK AT MOST 1048576: true; the input reads as it did. -/
def fnFitsUptoRow : OpenClaim := { program := "ytijaicokkoopoaadoor", sum := "1544f0dea6eb998129b6fb6cd8d7e18a2873051b0ed07d7593cd8794965914b6", func := "loop.example/boxball/laws.FnFits", spec := "fnFits", inPlace := ["slices.overlaps[loop.example/boxball/impl.Part]", "internal/reflectlite.ValueOf", "(internal/reflectlite.Value).Type", "(internal/reflectlite.Value).IsNil", "internal/reflectlite.TypeOf", "(internal/reflectlite.Value).Elem", "(internal/reflectlite.Value).Set"], unfollowed := true, recurses := true, named := ["errors.errorType"], apart := false, laid := [("errors.errorType", laid_errors_errorType)], narrowed := true }
def FnFitsUptoSaid : Prop := fnFitsUptoRow.holds Tryd.pinned (OpenSpec.upto fnFitsSpec)

/-- 'laws.FnFlow', WHERE WHAT IT READS IS OF BULK AT MOST 1048576: true; the input reads as it did. -/
def fnFlowUptoRow : OpenClaim := { program := "ytijaicokkoopoaadoor", sum := "1544f0dea6eb998129b6fb6cd8d7e18a2873051b0ed07d7593cd8794965914b6", func := "loop.example/boxball/laws.FnFlow", spec := "fnFlow", inPlace := ["slices.overlaps[loop.example/boxball/impl.Part]", "internal/reflectlite.ValueOf", "(internal/reflectlite.Value).Type", "(internal/reflectlite.Value).IsNil", "internal/reflectlite.TypeOf", "(internal/reflectlite.Value).Elem", "(internal/reflectlite.Value).Set"], unfollowed := true, recurses := true, named := ["errors.errorType"], apart := false, laid := [("errors.errorType", laid_errors_errorType)], narrowed := true }
def FnFlowUptoSaid : Prop := fnFlowUptoRow.holds Tryd.pinned (OpenSpec.upto fnFlowSpec)

/-- 'laws.FnRigSizes', WHERE WHAT IT READS IS OF BULK AT MOST 1048576: true; the input reads as it did. -/
def fnRigSizesUptoRow : OpenClaim := { program := "ytijaicokkoopoaadoor", sum := "1544f0dea6eb998129b6fb6cd8d7e18a2873051b0ed07d7593cd8794965914b6", func := "loop.example/boxball/laws.FnRigSizes", spec := "fnRigSizes", inPlace := ["internal/reflectlite.ValueOf", "(internal/reflectlite.Value).Type", "(internal/reflectlite.Value).IsNil", "internal/reflectlite.TypeOf", "(internal/reflectlite.Value).Elem", "(internal/reflectlite.Value).Set"], unfollowed := true, recurses := true, named := ["errors.errorType"], apart := false, laid := [("errors.errorType", laid_errors_errorType)], narrowed := true }
def FnRigSizesUptoSaid : Prop := fnRigSizesUptoRow.holds Tryd.pinned (OpenSpec.upto fnRigSizesSpec)

/-- 'laws.FnExactRigOf', WHERE WHAT IT READS IS OF BULK AT MOST 1048576: true; the input reads as it did. -/
def fnExactRigOfUptoRow : OpenClaim := { program := "ytijaicokkoopoaadoor", sum := "1544f0dea6eb998129b6fb6cd8d7e18a2873051b0ed07d7593cd8794965914b6", func := "loop.example/boxball/laws.FnExactRigOf", spec := "fnExactRigOf", inPlace := ["slices.overlaps[loop.example/boxball/impl.Part]", "internal/reflectlite.ValueOf", "(internal/reflectlite.Value).Type", "(internal/reflectlite.Value).IsNil", "internal/reflectlite.TypeOf", "(internal/reflectlite.Value).Elem", "(internal/reflectlite.Value).Set"], unfollowed := true, recurses := true, named := ["errors.errorType"], apart := false, laid := [("errors.errorType", laid_errors_errorType)], narrowed := true }
def FnExactRigOfUptoSaid : Prop := fnExactRigOfUptoRow.holds Tryd.pinned (OpenSpec.upto fnExactRigOfSpec)

/-- 'laws.FnExactRigRow', WHERE WHAT IT READS IS OF BULK AT MOST 1048576: true; the input reads as it did. -/
def fnExactRigRowUptoRow : OpenClaim := { program := "ytijaicokkoopoaadoor", sum := "1544f0dea6eb998129b6fb6cd8d7e18a2873051b0ed07d7593cd8794965914b6", func := "loop.example/boxball/laws.FnExactRigRow", spec := "fnExactRigRow", inPlace := ["slices.overlaps[loop.example/boxball/impl.Part]", "internal/reflectlite.ValueOf", "(internal/reflectlite.Value).Type", "(internal/reflectlite.Value).IsNil", "internal/reflectlite.TypeOf", "(internal/reflectlite.Value).Elem", "(internal/reflectlite.Value).Set", "internal/bytealg.MakeNoZero"], unfollowed := true, recurses := true, named := ["errors.errorType"], apart := false, laid := [("errors.errorType", laid_errors_errorType)], narrowed := true }
def FnExactRigRowUptoSaid : Prop := fnExactRigRowUptoRow.holds Tryd.pinned (OpenSpec.upto fnExactRigRowSpec)

/-- 'laws.FnExactRigFlow', WHERE WHAT IT READS IS OF BULK AT MOST 1048576: true; the input reads as it did. -/
def fnExactRigFlowUptoRow : OpenClaim := { program := "ytijaicokkoopoaadoor", sum := "1544f0dea6eb998129b6fb6cd8d7e18a2873051b0ed07d7593cd8794965914b6", func := "loop.example/boxball/laws.FnExactRigFlow", spec := "fnExactRigFlow", inPlace := ["slices.overlaps[loop.example/boxball/impl.Part]", "internal/reflectlite.ValueOf", "(internal/reflectlite.Value).Type", "(internal/reflectlite.Value).IsNil", "internal/reflectlite.TypeOf", "(internal/reflectlite.Value).Elem", "(internal/reflectlite.Value).Set"], unfollowed := true, recurses := true, named := ["errors.errorType"], apart := false, laid := [("errors.errorType", laid_errors_errorType)], narrowed := true }
def FnExactRigFlowUptoSaid : Prop := fnExactRigFlowUptoRow.holds Tryd.pinned (OpenSpec.upto fnExactRigFlowSpec)

end Rows
end Go.Proofs.YtijaicokkoopoaaDoor
