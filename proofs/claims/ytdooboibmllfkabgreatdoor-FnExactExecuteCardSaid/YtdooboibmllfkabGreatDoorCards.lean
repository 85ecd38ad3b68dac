/-
  DERIVED. GIVEN WITH THE SEED: THE CARDS: each row of YtdooboibmllfkabGreatDoorRows.lean that lists a variable, with what it lists TIED to the program's text (the seventh form; the later family's looks); each row that meets fmt, with fmt's text TOLD by the authors' own Lean function (tested against real Go, not proved from fmt's source: count such statements apart). THE CARD IS WHAT COUNTS. Prove the row's statement (the work); the ties are given (YtdooboibmllfkabGreatDoorTie.lean); close each card by the builder's one call (the guide's Derived/Test/ToyasCard.lean, 'card_holds'). Laid BY PROGRAM, IN A SANDBOX (cutbox-door.mjs). By AI agents, Wed Nov 11 2026. No macro, syntax, notation, axiom, sorry.
-/
import Derived.Test.YtdooboibmllfkabGreatDoorRows
import GoSem.ClaimSeven
namespace Go.Proofs.YtdooboibmllfkabGreatDoor
namespace Rows

/-- THE TIED CARD OF 'laws.FnExecuteStep'. -/
def fnExecuteStepCard : Claim7 := { stood := { row := fnExecuteStepRow, standIns := [], harness := (true, "6957817cf2de909341b60c050b89c38a61f5b3da3cb725dc162cc0bdd518c919"), looks := true }, kinds := [], alts := [], laidByText := true, laidKinds := [.data, .data, .data, .data, .handle, .sentinel, .sentinel, .pinned], laidTests := true, laidLooks := .later }
def FnExecuteStepCardSaid : Prop := Claim7.holds Tryz.pinned (.plain (OpenSpec.ofChange fnExecuteStepSpec)) fnExecuteStepCard

/-- THE TIED CARD OF 'laws.FnExecuteHigh'. -/
def fnExecuteHighCard : Claim7 := { stood := { row := fnExecuteHighRow, standIns := [], harness := (true, "6957817cf2de909341b60c050b89c38a61f5b3da3cb725dc162cc0bdd518c919"), looks := true }, kinds := [], alts := [], laidByText := true, laidKinds := [.data, .data, .data, .data, .handle, .sentinel, .sentinel, .pinned], laidTests := true, laidLooks := .later }
def FnExecuteHighCardSaid : Prop := Claim7.holds Tryz.pinned (.plain (OpenSpec.ofChange fnExecuteHighSpec)) fnExecuteHighCard

/-- THE TIED CARD OF 'laws.FnExactExecute'. -/
def fnExactExecuteCard : Claim7 := { stood := { row := fnExactExecuteRow, standIns := [], harness := (true, "6957817cf2de909341b60c050b89c38a61f5b3da3cb725dc162cc0bdd518c919"), looks := true }, kinds := [], alts := [], laidByText := true, laidKinds := [.data, .data, .data, .data, .handle, .sentinel, .sentinel, .pinned], laidTests := true, laidLooks := .later }
def FnExactExecuteCardSaid : Prop := Claim7.holds Tryz.pinned (.plain (OpenSpec.ofChange fnExactExecuteSpec)) fnExactExecuteCard

/-- THE SECOND FORM's CARD OF 'laws.FnExecuteStep'. -/
def fnExecuteStepUptoCard : Claim7 := { stood := { row := fnExecuteStepUptoRow, standIns := [], harness := (true, "6957817cf2de909341b60c050b89c38a61f5b3da3cb725dc162cc0bdd518c919"), looks := true }, kinds := [], alts := [], laidByText := true, laidKinds := [.data, .data, .data, .data, .handle, .sentinel, .sentinel, .pinned], laidTests := true, laidLooks := .later }
def FnExecuteStepUptoCardSaid : Prop := Claim7.holds Tryz.pinned (.plain (OpenSpec.upto fnExecuteStepSpec)) fnExecuteStepUptoCard

/-- THE SECOND FORM's CARD OF 'laws.FnExecuteHigh'. -/
def fnExecuteHighUptoCard : Claim7 := { stood := { row := fnExecuteHighUptoRow, standIns := [], harness := (true, "6957817cf2de909341b60c050b89c38a61f5b3da3cb725dc162cc0bdd518c919"), looks := true }, kinds := [], alts := [], laidByText := true, laidKinds := [.data, .data, .data, .data, .handle, .sentinel, .sentinel, .pinned], laidTests := true, laidLooks := .later }
def FnExecuteHighUptoCardSaid : Prop := Claim7.holds Tryz.pinned (.plain (OpenSpec.upto fnExecuteHighSpec)) fnExecuteHighUptoCard

/-- THE SECOND FORM's CARD OF 'laws.FnExactExecute'. -/
def fnExactExecuteUptoCard : Claim7 := { stood := { row := fnExactExecuteUptoRow, standIns := [], harness := (true, "6957817cf2de909341b60c050b89c38a61f5b3da3cb725dc162cc0bdd518c919"), looks := true }, kinds := [], alts := [], laidByText := true, laidKinds := [.data, .data, .data, .data, .handle, .sentinel, .sentinel, .pinned], laidTests := true, laidLooks := .later }
def FnExactExecuteUptoCardSaid : Prop := Claim7.holds Tryz.pinned (.plain (OpenSpec.upto fnExactExecuteSpec)) fnExactExecuteUptoCard
end Rows
end Go.Proofs.YtdooboibmllfkabGreatDoor
