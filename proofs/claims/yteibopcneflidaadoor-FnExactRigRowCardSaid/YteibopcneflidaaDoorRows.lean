/-
  NARROWER THAN 'FOR EVERY INPUT', by the rows' own cells (each row's printed sentence says how): FnExactRigFlow: laid · FnFlow: laid · FnExactRigOf: laid · FnExactRigRow: laid · FnFitsRow: laid · FnRigRow: laid.
  DERIVED. THE GIVEN ROWS OF THIS SEAT. 6 by the template 'for every input the law returns true; each argument reads behind the call as it read before'; 0 by the template 'total and deterministic' (their statements: YteibopcneflidaaDoorTotals.lean).
  GIVEN WITH THE SEED: the statements are not yours to turn. If you find one false, say at which input.
  Laid BY PROGRAM, IN A SANDBOX (cutbox-rows.mjs): the forced cells as the released guide's own fill.sh prints them over the translation 50600be712696b66… (all of the seat's roots in one cut). By AI agents, Wed Nov 11 2026. No macro, syntax, notation, axiom, sorry.
-/
import Derived.Test.YteibopcneflidaaDoorChecked
import GoSem.Claim
import GoSem.ClaimJoined
import GoSem.ClaimMapViews
import Derived.JoinedTies
import Derived.KernelRfl
namespace Go.Proofs.YteibopcneflidaaDoor
/- THE CELL 'sum', in the pinned program and in every row, IS THE sha256 OF THE DUMP (.gsa) THAT YteibopcneflidaaDoorProg.lean LOADS. Nothing in Lean hashes anything: it is a label: what it is worth is what the hold of that sum in a sandbox is worth. -/
noncomputable def Tryd.pinned : Pinned := { name := "yteibopcneflidaadoor", sum := "50600be712696b66fe49f2dabc4a2a10ede717f636ed5ea318a2c17cbdb250ff", checked := Tryd.checked }
namespace Rows
def none {H : Type} : Left H := { results := [], args := [] }

/- WHAT THE LISTED PACKAGE-LEVEL VARIABLES READ AS WHEN THE CALL BEGINS. Each datum BY PROGRAM (the guide's laid-datum.mjs) off the statement by which the dump's own 'gosem.cut.vars' lays the variable. In a bare row this is a premise. The card (YteibopcneflidaaDoorCards.lean) ties it to the program's text. -/
def laid_errors_errorType {H : Type} : DataW H := .iface "internal/reflectlite.rtype" (.agg [.ptr (.lit (.string [101, 114, 114, 111, 114]))])

/-- 'laws.FnExactRigFlow': WHATEVER THE INPUT: true; the input reads as it did. -/
def fnExactRigFlowSpec : ChangeSpec := { name := "fnExactRigFlow", fn := fun _ => fun
  | [d1, d2] => { results := [.lit (.bool true)], args := [d1, d2] }
  | _ => none }
def fnExactRigFlowRow : OpenClaim := { program := "yteibopcneflidaadoor", sum := "50600be712696b66fe49f2dabc4a2a10ede717f636ed5ea318a2c17cbdb250ff", func := "loop.example/boxball/laws.FnExactRigFlow", spec := "fnExactRigFlow", inPlace := ["slices.overlaps[loop.example/boxball/impl.Part]", "internal/reflectlite.ValueOf", "(internal/reflectlite.Value).Type", "(internal/reflectlite.Value).IsNil", "internal/reflectlite.TypeOf", "(internal/reflectlite.Value).Elem", "(internal/reflectlite.Value).Set"], unfollowed := true, recurses := true, named := ["errors.errorType"], apart := false, laid := [("errors.errorType", laid_errors_errorType)] }
def FnExactRigFlowSaid : Prop := fnExactRigFlowRow.holds Tryd.pinned (OpenSpec.ofChange fnExactRigFlowSpec)

/-- ITS FALSE NEIGHBOUR: 'it returns false'. Refute it at one input. -/
def fnExactRigFlowWrong : ChangeSpec := { name := "fnExactRigFlow", fn := fun _ => fun
  | [d1, d2] => { results := [.lit (.bool false)], args := [d1, d2] }
  | _ => none }
def FnExactRigFlowWrongFalsely : Prop := fnExactRigFlowRow.holds Tryd.pinned (OpenSpec.ofChange fnExactRigFlowWrong)

/-- 'laws.FnFlow': WHATEVER THE INPUT: true; the input reads as it did. -/
def fnFlowSpec : ChangeSpec := { name := "fnFlow", fn := fun _ => fun
  | [d] => { results := [.lit (.bool true)], args := [d] }
  | _ => none }
def fnFlowRow : OpenClaim := { program := "yteibopcneflidaadoor", sum := "50600be712696b66fe49f2dabc4a2a10ede717f636ed5ea318a2c17cbdb250ff", func := "loop.example/boxball/laws.FnFlow", spec := "fnFlow", inPlace := ["slices.overlaps[loop.example/boxball/impl.Part]", "internal/reflectlite.ValueOf", "(internal/reflectlite.Value).Type", "(internal/reflectlite.Value).IsNil", "internal/reflectlite.TypeOf", "(internal/reflectlite.Value).Elem", "(internal/reflectlite.Value).Set"], unfollowed := true, recurses := true, named := ["errors.errorType"], apart := false, laid := [("errors.errorType", laid_errors_errorType)] }
def FnFlowSaid : Prop := fnFlowRow.holds Tryd.pinned (OpenSpec.ofChange fnFlowSpec)

/-- ITS FALSE NEIGHBOUR: 'it returns false'. Refute it at one input. -/
def fnFlowWrong : ChangeSpec := { name := "fnFlow", fn := fun _ => fun
  | [d] => { results := [.lit (.bool false)], args := [d] }
  | _ => none }
def FnFlowWrongFalsely : Prop := fnFlowRow.holds Tryd.pinned (OpenSpec.ofChange fnFlowWrong)

/-- 'laws.FnExactRigOf': WHATEVER THE INPUT: true; the input reads as it did. -/
def fnExactRigOfSpec : ChangeSpec := { name := "fnExactRigOf", fn := fun _ => fun
  | [d] => { results := [.lit (.bool true)], args := [d] }
  | _ => none }
def fnExactRigOfRow : OpenClaim := { program := "yteibopcneflidaadoor", sum := "50600be712696b66fe49f2dabc4a2a10ede717f636ed5ea318a2c17cbdb250ff", func := "loop.example/boxball/laws.FnExactRigOf", spec := "fnExactRigOf", inPlace := ["slices.overlaps[loop.example/boxball/impl.Part]", "internal/reflectlite.ValueOf", "(internal/reflectlite.Value).Type", "(internal/reflectlite.Value).IsNil", "internal/reflectlite.TypeOf", "(internal/reflectlite.Value).Elem", "(internal/reflectlite.Value).Set"], unfollowed := true, recurses := true, named := ["errors.errorType"], apart := false, laid := [("errors.errorType", laid_errors_errorType)] }
def FnExactRigOfSaid : Prop := fnExactRigOfRow.holds Tryd.pinned (OpenSpec.ofChange fnExactRigOfSpec)

/-- ITS FALSE NEIGHBOUR: 'it returns false'. Refute it at one input. -/
def fnExactRigOfWrong : ChangeSpec := { name := "fnExactRigOf", fn := fun _ => fun
  | [d] => { results := [.lit (.bool false)], args := [d] }
  | _ => none }
def FnExactRigOfWrongFalsely : Prop := fnExactRigOfRow.holds Tryd.pinned (OpenSpec.ofChange fnExactRigOfWrong)

/-- 'laws.FnExactRigRow': WHATEVER THE INPUT: true; the input reads as it did. -/
def fnExactRigRowSpec : ChangeSpec := { name := "fnExactRigRow", fn := fun _ => fun
  | [d1, d2] => { results := [.lit (.bool true)], args := [d1, d2] }
  | _ => none }
def fnExactRigRowRow : OpenClaim := { program := "yteibopcneflidaadoor", sum := "50600be712696b66fe49f2dabc4a2a10ede717f636ed5ea318a2c17cbdb250ff", func := "loop.example/boxball/laws.FnExactRigRow", spec := "fnExactRigRow", inPlace := ["slices.overlaps[loop.example/boxball/impl.Part]", "internal/reflectlite.ValueOf", "(internal/reflectlite.Value).Type", "(internal/reflectlite.Value).IsNil", "internal/reflectlite.TypeOf", "(internal/reflectlite.Value).Elem", "(internal/reflectlite.Value).Set", "internal/bytealg.MakeNoZero"], unfollowed := true, recurses := true, named := ["errors.errorType"], apart := false, laid := [("errors.errorType", laid_errors_errorType)] }
def FnExactRigRowSaid : Prop := fnExactRigRowRow.holds Tryd.pinned (OpenSpec.ofChange fnExactRigRowSpec)

/-- ITS FALSE NEIGHBOUR: 'it returns false'. Refute it at one input. -/
def fnExactRigRowWrong : ChangeSpec := { name := "fnExactRigRow", fn := fun _ => fun
  | [d1, d2] => { results := [.lit (.bool false)], args := [d1, d2] }
  | _ => none }
def FnExactRigRowWrongFalsely : Prop := fnExactRigRowRow.holds Tryd.pinned (OpenSpec.ofChange fnExactRigRowWrong)

/-- 'laws.FnFitsRow': WHATEVER THE INPUT: true; the input reads as it did. -/
def fnFitsRowSpec : ChangeSpec := { name := "fnFitsRow", fn := fun _ => fun
  | [d] => { results := [.lit (.bool true)], args := [d] }
  | _ => none }
def fnFitsRowRow : OpenClaim := { program := "yteibopcneflidaadoor", sum := "50600be712696b66fe49f2dabc4a2a10ede717f636ed5ea318a2c17cbdb250ff", func := "loop.example/boxball/laws.FnFitsRow", spec := "fnFitsRow", inPlace := ["slices.overlaps[loop.example/boxball/impl.Part]", "internal/reflectlite.ValueOf", "(internal/reflectlite.Value).Type", "(internal/reflectlite.Value).IsNil", "internal/reflectlite.TypeOf", "(internal/reflectlite.Value).Elem", "(internal/reflectlite.Value).Set", "internal/bytealg.MakeNoZero"], unfollowed := true, recurses := true, named := ["errors.errorType"], apart := false, laid := [("errors.errorType", laid_errors_errorType)] }
def FnFitsRowSaid : Prop := fnFitsRowRow.holds Tryd.pinned (OpenSpec.ofChange fnFitsRowSpec)

/-- ITS FALSE NEIGHBOUR: 'it returns false'. Refute it at one input. -/
def fnFitsRowWrong : ChangeSpec := { name := "fnFitsRow", fn := fun _ => fun
  | [d] => { results := [.lit (.bool false)], args := [d] }
  | _ => none }
def FnFitsRowWrongFalsely : Prop := fnFitsRowRow.holds Tryd.pinned (OpenSpec.ofChange fnFitsRowWrong)

/-- 'laws.FnRigRow': WHATEVER THE INPUT: true; the input reads as it did. -/
def fnRigRowSpec : ChangeSpec := { name := "fnRigRow", fn := fun _ => fun
  | [d] => { results := [.lit (.bool true)], args := [d] }
  | _ => none }
def fnRigRowRow : OpenClaim := { program := "yteibopcneflidaadoor", sum := "50600be712696b66fe49f2dabc4a2a10ede717f636ed5ea318a2c17cbdb250ff", func := "loop.example/boxball/laws.FnRigRow", spec := "fnRigRow", inPlace := ["slices.overlaps[loop.example/boxball/impl.Part]", "internal/reflectlite.ValueOf", "(internal/reflectlite.Value).Type", "(internal/reflectlite.Value).IsNil", "internal/reflectlite.TypeOf", "(internal/reflectlite.Value).Elem", "(internal/reflectlite.Value).Set", "internal/bytealg.MakeNoZero"], unfollowed := true, recurses := true, named := ["errors.errorType"], apart := false, laid := [("errors.errorType", laid_errors_errorType)] }
def FnRigRowSaid : Prop := fnRigRowRow.holds Tryd.pinned (OpenSpec.ofChange fnRigRowSpec)

/-- ITS FALSE NEIGHBOUR: 'it returns false'. Refute it at one input. -/
def fnRigRowWrong : ChangeSpec := { name := "fnRigRow", fn := fun _ => fun
  | [d] => { results := [.lit (.bool false)], args := [d] }
  | _ => none }
def FnRigRowWrongFalsely : Prop := fnRigRowRow.holds Tryd.pinned (OpenSpec.ofChange fnRigRowWrong)

/- THE SECOND FORM. 'bulk': how many values and letters a reading holds, each counted each time it is reached (what is shared counts as often as it is met; a slice's spare places count too). A statement '..UptoSaid' is the law's where the arguments, and the package variables that the reading takes, are together of bulk at most 1048576: NARROWER than '..Said'. Prove '..Said' where nothing that the law and all that it calls make is longer than what came in: it says more and counts as full. Else prove '..UptoSaid'. A law counts once. -/
mutual
def uptoBulk {H : Type} : DataW H → Nat
  | .lit (.string bytes) => bytes.length + 1
  | .lit _ => 1
  | .nil => 1
  | .ptr d => uptoBulk d + 1
  | .slice elems spare => uptoBulkAll elems + uptoBulkAll spare + 1
  | .agg parts => uptoBulkAll parts + 1
  | .iface _ d => uptoBulk d + 1
  | .map entries => uptoBulkEntries entries + 1
  | .held _ => 1
def uptoBulkAll {H : Type} : List (DataW H) → Nat
  | [] => 0
  | d :: r => uptoBulk d + uptoBulkAll r
def uptoBulkEntries {H : Type} : List (Lit × DataW H) → Nat
  | [] => 0
  | x :: r => uptoBulkEntry x + uptoBulkEntries r
def uptoBulkEntry {H : Type} : Lit × DataW H → Nat
  | (.string bytes, d) => bytes.length + uptoBulk d + 1
  | (_, d) => uptoBulk d + 1
 end
def uptoSmall : (H : Type) → List (DataW H) → Bool := fun _ ds => decide (uptoBulkAll ds ≤ 1048576)
def OpenSpec.upto (s : _root_.Go.ChangeSpec) : _root_.Go.OpenSpec := { _root_.Go.OpenSpec.ofChange s with cond := some uptoSmall }

/-- 'laws.FnExactRigFlow', WHERE WHAT IT READS IS OF BULK AT MOST 1048576: true; the input reads as it did. -/
def fnExactRigFlowUptoRow : OpenClaim := { program := "yteibopcneflidaadoor", sum := "50600be712696b66fe49f2dabc4a2a10ede717f636ed5ea318a2c17cbdb250ff", func := "loop.example/boxball/laws.FnExactRigFlow", spec := "fnExactRigFlow", inPlace := ["slices.overlaps[loop.example/boxball/impl.Part]", "internal/reflectlite.ValueOf", "(internal/reflectlite.Value).Type", "(internal/reflectlite.Value).IsNil", "internal/reflectlite.TypeOf", "(internal/reflectlite.Value).Elem", "(internal/reflectlite.Value).Set"], unfollowed := true, recurses := true, named := ["errors.errorType"], apart := false, laid := [("errors.errorType", laid_errors_errorType)], narrowed := true }
def FnExactRigFlowUptoSaid : Prop := fnExactRigFlowUptoRow.holds Tryd.pinned (OpenSpec.upto fnExactRigFlowSpec)

/-- 'laws.FnFlow', WHERE WHAT IT READS IS OF BULK AT MOST 1048576: true; the input reads as it did. -/
def fnFlowUptoRow : OpenClaim := { program := "yteibopcneflidaadoor", sum := "50600be712696b66fe49f2dabc4a2a10ede717f636ed5ea318a2c17cbdb250ff", func := "loop.example/boxball/laws.FnFlow", spec := "fnFlow", inPlace := ["slices.overlaps[loop.example/boxball/impl.Part]", "internal/reflectlite.ValueOf", "(internal/reflectlite.Value).Type", "(internal/reflectlite.Value).IsNil", "internal/reflectlite.TypeOf", "(internal/reflectlite.Value).Elem", "(internal/reflectlite.Value).Set"], unfollowed := true, recurses := true, named := ["errors.errorType"], apart := false, laid := [("errors.errorType", laid_errors_errorType)], narrowed := true }
def FnFlowUptoSaid : Prop := fnFlowUptoRow.holds Tryd.pinned (OpenSpec.upto fnFlowSpec)

/-- 'laws.FnExactRigOf', WHERE WHAT IT READS IS OF BULK AT MOST 1048576: true; the input reads as it did. -/
def fnExactRigOfUptoRow : OpenClaim := { program := "yteibopcneflidaadoor", sum := "50600be712696b66fe49f2dabc4a2a10ede717f636ed5ea318a2c17cbdb250ff", func := "loop.example/boxball/laws.FnExactRigOf", spec := "fnExactRigOf", inPlace := ["slices.overlaps[loop.example/boxball/impl.Part]", "internal/reflectlite.ValueOf", "(internal/reflectlite.Value).Type", "(internal/reflectlite.Value).IsNil", "internal/reflectlite.TypeOf", "(internal/reflectlite.Value).Elem", "(internal/reflectlite.Value).Set"], unfollowed := true, recurses := true, named := ["errors.errorType"], apart := false, laid := [("errors.errorType", laid_errors_errorType)], narrowed := true }
def FnExactRigOfUptoSaid : Prop := fnExactRigOfUptoRow.holds Tryd.pinned (OpenSpec.upto fnExactRigOfSpec)

/-- 'laws.FnExactRigRow', WHERE WHAT IT READS IS OF BULK AT MOST 1048576: true; the input reads as it did. -/
def fnExactRigRowUptoRow : OpenClaim := { program := "yteibopcneflidaadoor", sum := "50600be712696b66fe49f2dabc4a2a10ede717f636ed5ea318a2c17cbdb250ff", func := "loop.example/boxball/laws.FnExactRigRow", spec := "fnExactRigRow", inPlace := ["slices.overlaps[loop.example/boxball/impl.Part]", "internal/reflectlite.ValueOf", "(internal/reflectlite.Value).Type", "(internal/reflectlite.Value).IsNil", "internal/reflectlite.TypeOf", "(internal/reflectlite.Value).Elem", "(internal/reflectlite.Value).Set", "internal/bytealg.MakeNoZero"], unfollowed := true, recurses := true, named := ["errors.errorType"], apart := false, laid := [("errors.errorType", laid_errors_errorType)], narrowed := true }
def FnExactRigRowUptoSaid : Prop := fnExactRigRowUptoRow.holds Tryd.pinned (OpenSpec.upto fnExactRigRowSpec)

/-- 'laws.FnFitsRow', WHERE WHAT IT READS IS OF BULK AT MOST 1048576: true; the input reads as it did. -/
def fnFitsRowUptoRow : OpenClaim := { program := "yteibopcneflidaadoor", sum := "50600be712696b66fe49f2dabc4a2a10ede717f636ed5ea318a2c17cbdb250ff", func := "loop.example/boxball/laws.FnFitsRow", spec := "fnFitsRow", inPlace := ["slices.overlaps[loop.example/boxball/impl.Part]", "internal/reflectlite.ValueOf", "(internal/reflectlite.Value).Type", "(internal/reflectlite.Value).IsNil", "internal/reflectlite.TypeOf", "(internal/reflectlite.Value).Elem", "(internal/reflectlite.Value).Set", "internal/bytealg.MakeNoZero"], unfollowed := true, recurses := true, named := ["errors.errorType"], apart := false, laid := [("errors.errorType", laid_errors_errorType)], narrowed := true }
def FnFitsRowUptoSaid : Prop := fnFitsRowUptoRow.holds Tryd.pinned (OpenSpec.upto fnFitsRowSpec)

/-- 'laws.FnRigRow', WHERE WHAT IT READS IS OF BULK AT MOST 1048576: true; the input reads as it did. -/
def fnRigRowUptoRow : OpenClaim := { program := "yteibopcneflidaadoor", sum := "50600be712696b66fe49f2dabc4a2a10ede717f636ed5ea318a2c17cbdb250ff", func := "loop.example/boxball/laws.FnRigRow", spec := "fnRigRow", inPlace := ["slices.overlaps[loop.example/boxball/impl.Part]", "internal/reflectlite.ValueOf", "(internal/reflectlite.Value).Type", "(internal/reflectlite.Value).IsNil", "internal/reflectlite.TypeOf", "(internal/reflectlite.Value).Elem", "(internal/reflectlite.Value).Set", "internal/bytealg.MakeNoZero"], unfollowed := true, recurses := true, named := ["errors.errorType"], apart := false, laid := [("errors.errorType", laid_errors_errorType)], narrowed := true }
def FnRigRowUptoSaid : Prop := fnRigRowUptoRow.holds Tryd.pinned (OpenSpec.upto fnRigRowSpec)

end Rows
end Go.Proofs.YteibopcneflidaaDoor
