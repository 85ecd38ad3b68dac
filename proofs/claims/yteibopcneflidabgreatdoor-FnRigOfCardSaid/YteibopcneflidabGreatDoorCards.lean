/-
  DERIVED. GIVEN WITH THE SEED: THE CARDS: each row of YteibopcneflidabGreatDoorRows.lean that lists a variable, with what it lists TIED to the program's text (the seventh form; the later family's looks); each row that meets fmt, with fmt's text TOLD by the authors' own Lean function (tested against real Go, not proved from fmt's source: count such statements apart). THE CARD IS WHAT COUNTS. Prove the row's statement (the work); the ties are given (YteibopcneflidabGreatDoorTie.lean); close each card by the builder's one call (the guide's Derived/Test/ToyasCard.lean, 'card_holds'). Laid BY PROGRAM, IN A SANDBOX (cutbox-door.mjs). By AI agents, Wed Nov 11 2026. No macro, syntax, notation, axiom, sorry.
-/
import Derived.Test.YteibopcneflidabGreatDoorRows
import GoSem.ClaimSeven
namespace Go.Proofs.YteibopcneflidabGreatDoor
namespace Rows

/-- THE TIED CARD OF 'laws.FnRigOf'. -/
def fnRigOfCard : Claim7 := { stood := { row := fnRigOfRow, standIns := [], harness := (true, "095ef3a2945024b01c11fc97756defb74594311cc1eee0f5a1f7638080028364"), looks := true }, kinds := [], alts := [], laidByText := true, laidKinds := [.handle], laidTests := true, laidLooks := .later }
def FnRigOfCardSaid : Prop := Claim7.holds Tryz.pinned (.plain (OpenSpec.ofChange fnRigOfSpec)) fnRigOfCard

/-- THE SECOND FORM's CARD OF 'laws.FnRigOf'. -/
def fnRigOfUptoCard : Claim7 := { stood := { row := fnRigOfUptoRow, standIns := [], harness := (true, "095ef3a2945024b01c11fc97756defb74594311cc1eee0f5a1f7638080028364"), looks := true }, kinds := [], alts := [], laidByText := true, laidKinds := [.handle], laidTests := true, laidLooks := .later }
def FnRigOfUptoCardSaid : Prop := Claim7.holds Tryz.pinned (.plain (OpenSpec.upto fnRigOfSpec)) fnRigOfUptoCard
end Rows
end Go.Proofs.YteibopcneflidabGreatDoor
