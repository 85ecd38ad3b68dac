/-
  DERIVED. GIVEN WITH THE SEED: THE CARDS: each row of YtppelmceojodhabDoorRows.lean that lists a variable, with what it lists TIED to the program's text (the seventh form; the later family's looks); each row that meets fmt, with fmt's text TOLD by the authors' own Lean function (tested against real Go, not proved from fmt's source: count such statements apart). THE CARD IS WHAT COUNTS. Prove the row's statement (the work); the ties are given (YtppelmceojodhabDoorTie.lean); close each card by the builder's one call (the guide's Derived/Test/ToyasCard.lean, 'card_holds'). Laid BY PROGRAM, IN A SANDBOX (cutbox-door.mjs). By AI agents, Wed Nov 11 2026. No macro, syntax, notation, axiom, sorry.
-/
import Derived.Test.YtppelmceojodhabDoorRows
import GoSem.ClaimSeven
namespace Go.Proofs.YtppelmceojodhabDoor
namespace Rows

/-- THE TIED CARD OF 'laws.FnExactColourMove'. -/
def fnExactColourMoveCard : Claim7 := { stood := { row := fnExactColourMoveRow, standIns := [], harness := (true, "9f2494930466c48143167edbe9f8dfbf50949e21a0d7155e923b461dfaff2f9f"), looks := true }, kinds := [], alts := [], laidByText := true, laidKinds := [.data, .pinned], laidTests := true, laidLooks := .later }
def FnExactColourMoveCardSaid : Prop := Claim7.holds Tryd.pinned (.plain (OpenSpec.ofChange fnExactColourMoveSpec)) fnExactColourMoveCard

/-- THE TIED CARD OF 'laws.FnExactColourStep'. -/
def fnExactColourStepCard : Claim7 := { stood := { row := fnExactColourStepRow, standIns := [], harness := (true, "9f2494930466c48143167edbe9f8dfbf50949e21a0d7155e923b461dfaff2f9f"), looks := true }, kinds := [], alts := [], laidByText := true, laidKinds := [.data, .pinned], laidTests := true, laidLooks := .later }
def FnExactColourStepCardSaid : Prop := Claim7.holds Tryd.pinned (.plain (OpenSpec.ofChange fnExactColourStepSpec)) fnExactColourStepCard

/-- THE TIED CARD OF 'laws.FnExactColourBack'. -/
def fnExactColourBackCard : Claim7 := { stood := { row := fnExactColourBackRow, standIns := [], harness := (true, "9f2494930466c48143167edbe9f8dfbf50949e21a0d7155e923b461dfaff2f9f"), looks := true }, kinds := [], alts := [], laidByText := true, laidKinds := [.data, .pinned], laidTests := true, laidLooks := .later }
def FnExactColourBackCardSaid : Prop := Claim7.holds Tryd.pinned (.plain (OpenSpec.ofChange fnExactColourBackSpec)) fnExactColourBackCard

/-- THE SECOND FORM's CARD OF 'laws.FnExactColourMove'. -/
def fnExactColourMoveUptoCard : Claim7 := { stood := { row := fnExactColourMoveUptoRow, standIns := [], harness := (true, "9f2494930466c48143167edbe9f8dfbf50949e21a0d7155e923b461dfaff2f9f"), looks := true }, kinds := [], alts := [], laidByText := true, laidKinds := [.data, .pinned], laidTests := true, laidLooks := .later }
def FnExactColourMoveUptoCardSaid : Prop := Claim7.holds Tryd.pinned (.plain (OpenSpec.upto fnExactColourMoveSpec)) fnExactColourMoveUptoCard

/-- THE SECOND FORM's CARD OF 'laws.FnExactColourStep'. -/
def fnExactColourStepUptoCard : Claim7 := { stood := { row := fnExactColourStepUptoRow, standIns := [], harness := (true, "9f2494930466c48143167edbe9f8dfbf50949e21a0d7155e923b461dfaff2f9f"), looks := true }, kinds := [], alts := [], laidByText := true, laidKinds := [.data, .pinned], laidTests := true, laidLooks := .later }
def FnExactColourStepUptoCardSaid : Prop := Claim7.holds Tryd.pinned (.plain (OpenSpec.upto fnExactColourStepSpec)) fnExactColourStepUptoCard

/-- THE SECOND FORM's CARD OF 'laws.FnExactColourBack'. -/
def fnExactColourBackUptoCard : Claim7 := { stood := { row := fnExactColourBackUptoRow, standIns := [], harness := (true, "9f2494930466c48143167edbe9f8dfbf50949e21a0d7155e923b461dfaff2f9f"), looks := true }, kinds := [], alts := [], laidByText := true, laidKinds := [.data, .pinned], laidTests := true, laidLooks := .later }
def FnExactColourBackUptoCardSaid : Prop := Claim7.holds Tryd.pinned (.plain (OpenSpec.upto fnExactColourBackSpec)) fnExactColourBackUptoCard
end Rows
end Go.Proofs.YtppelmceojodhabDoor
