/-
  DERIVED. GIVEN WITH THE SEED: THE CARDS: each row of YtppelmceojodhaaDoorRows.lean that lists a variable, with what it lists TIED to the program's text (the seventh form; the later family's looks); each row that meets fmt, with fmt's text TOLD by the authors' own Lean function (tested against real Go, not proved from fmt's source: count such statements apart). THE CARD IS WHAT COUNTS. Prove the row's statement (the work); the ties are given (YtppelmceojodhaaDoorTie.lean); close each card by the builder's one call (the guide's Derived/Test/ToyasCard.lean, 'card_holds'). Laid BY PROGRAM, IN A SANDBOX (cutbox-door.mjs). By AI agents, Wed Nov 11 2026. No macro, syntax, notation, axiom, sorry.
-/
import Derived.Test.YtppelmceojodhaaDoorRows
import GoSem.ClaimSeven
namespace Go.Proofs.YtppelmceojodhaaDoor
namespace Rows

/-- THE TIED CARD OF 'laws.FnColourMove'. -/
def fnColourMoveCard : Claim7 := { stood := { row := fnColourMoveRow, standIns := [], harness := (true, "bc77bfc183ff04b1f9677efde7f1d21c8dfa1d0c498671ef7cddba5e0b6c89ea"), looks := true }, kinds := [], alts := [], laidByText := true, laidKinds := [.data, .pinned], laidTests := true, laidLooks := .later }
def FnColourMoveCardSaid : Prop := Claim7.holds Tryd.pinned (.plain (OpenSpec.ofChange fnColourMoveSpec)) fnColourMoveCard

/-- THE TIED CARD OF 'laws.FnColourStep'. -/
def fnColourStepCard : Claim7 := { stood := { row := fnColourStepRow, standIns := [], harness := (true, "bc77bfc183ff04b1f9677efde7f1d21c8dfa1d0c498671ef7cddba5e0b6c89ea"), looks := true }, kinds := [], alts := [], laidByText := true, laidKinds := [.data, .pinned], laidTests := true, laidLooks := .later }
def FnColourStepCardSaid : Prop := Claim7.holds Tryd.pinned (.plain (OpenSpec.ofChange fnColourStepSpec)) fnColourStepCard

/-- THE TIED CARD OF 'laws.FnOneColour'. -/
def fnOneColourCard : Claim7 := { stood := { row := fnOneColourRow, standIns := [], harness := (true, "bc77bfc183ff04b1f9677efde7f1d21c8dfa1d0c498671ef7cddba5e0b6c89ea"), looks := true }, kinds := [], alts := [], laidByText := true, laidKinds := [.data, .pinned], laidTests := true, laidLooks := .later }
def FnOneColourCardSaid : Prop := Claim7.holds Tryd.pinned (.plain (OpenSpec.ofChange fnOneColourSpec)) fnOneColourCard

/-- THE TIED CARD OF 'laws.FnColourBack'. -/
def fnColourBackCard : Claim7 := { stood := { row := fnColourBackRow, standIns := [], harness := (true, "bc77bfc183ff04b1f9677efde7f1d21c8dfa1d0c498671ef7cddba5e0b6c89ea"), looks := true }, kinds := [], alts := [], laidByText := true, laidKinds := [.data, .pinned], laidTests := true, laidLooks := .later }
def FnColourBackCardSaid : Prop := Claim7.holds Tryd.pinned (.plain (OpenSpec.ofChange fnColourBackSpec)) fnColourBackCard

/-- THE SECOND FORM's CARD OF 'laws.FnColourMove'. -/
def fnColourMoveUptoCard : Claim7 := { stood := { row := fnColourMoveUptoRow, standIns := [], harness := (true, "bc77bfc183ff04b1f9677efde7f1d21c8dfa1d0c498671ef7cddba5e0b6c89ea"), looks := true }, kinds := [], alts := [], laidByText := true, laidKinds := [.data, .pinned], laidTests := true, laidLooks := .later }
def FnColourMoveUptoCardSaid : Prop := Claim7.holds Tryd.pinned (.plain (OpenSpec.upto fnColourMoveSpec)) fnColourMoveUptoCard

/-- THE SECOND FORM's CARD OF 'laws.FnColourStep'. -/
def fnColourStepUptoCard : Claim7 := { stood := { row := fnColourStepUptoRow, standIns := [], harness := (true, "bc77bfc183ff04b1f9677efde7f1d21c8dfa1d0c498671ef7cddba5e0b6c89ea"), looks := true }, kinds := [], alts := [], laidByText := true, laidKinds := [.data, .pinned], laidTests := true, laidLooks := .later }
def FnColourStepUptoCardSaid : Prop := Claim7.holds Tryd.pinned (.plain (OpenSpec.upto fnColourStepSpec)) fnColourStepUptoCard

/-- THE SECOND FORM's CARD OF 'laws.FnOneColour'. -/
def fnOneColourUptoCard : Claim7 := { stood := { row := fnOneColourUptoRow, standIns := [], harness := (true, "bc77bfc183ff04b1f9677efde7f1d21c8dfa1d0c498671ef7cddba5e0b6c89ea"), looks := true }, kinds := [], alts := [], laidByText := true, laidKinds := [.data, .pinned], laidTests := true, laidLooks := .later }
def FnOneColourUptoCardSaid : Prop := Claim7.holds Tryd.pinned (.plain (OpenSpec.upto fnOneColourSpec)) fnOneColourUptoCard

/-- THE SECOND FORM's CARD OF 'laws.FnColourBack'. -/
def fnColourBackUptoCard : Claim7 := { stood := { row := fnColourBackUptoRow, standIns := [], harness := (true, "bc77bfc183ff04b1f9677efde7f1d21c8dfa1d0c498671ef7cddba5e0b6c89ea"), looks := true }, kinds := [], alts := [], laidByText := true, laidKinds := [.data, .pinned], laidTests := true, laidLooks := .later }
def FnColourBackUptoCardSaid : Prop := Claim7.holds Tryd.pinned (.plain (OpenSpec.upto fnColourBackSpec)) fnColourBackUptoCard
end Rows
end Go.Proofs.YtppelmceojodhaaDoor
