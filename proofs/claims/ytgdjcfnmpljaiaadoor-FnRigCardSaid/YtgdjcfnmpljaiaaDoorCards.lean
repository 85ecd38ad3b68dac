/-
  DERIVED. GIVEN WITH THE SEED: THE CARDS: each row of YtgdjcfnmpljaiaaDoorRows.lean that lists a variable, with what it lists TIED to the program's text (the seventh form; the later family's looks); each row that meets fmt, with fmt's text TOLD by the authors' own Lean function (tested against real Go, not proved from fmt's source: count such statements apart). THE CARD IS WHAT COUNTS. Prove the row's statement (the work); the ties are given (YtgdjcfnmpljaiaaDoorTie.lean); close each card by the builder's one call (the guide's Derived/Test/ToyasCard.lean, 'card_holds'). Laid BY PROGRAM, IN A SANDBOX (cutbox-door.mjs). By AI agents, Wed Nov 11 2026. No macro, syntax, notation, axiom, sorry.
-/
import Derived.Test.YtgdjcfnmpljaiaaDoorRows
import GoSem.ClaimSeven
namespace Go.Proofs.YtgdjcfnmpljaiaaDoor
namespace Rows

/-- THE TIED CARD OF 'laws.FnExactRigIn'. -/
def fnExactRigInCard : Claim7 := { stood := { row := fnExactRigInRow, standIns := [], harness := (true, "2e6ccaf99ad01b02b29fdc5db14152f3066edef12c489745044dbcbc1ada4676"), looks := true }, kinds := [], alts := [], laidByText := true, laidKinds := [.handle], laidTests := true, laidLooks := .later }
def FnExactRigInCardSaid : Prop := Claim7.holds Tryd.pinned (.plain (OpenSpec.ofChange fnExactRigInSpec)) fnExactRigInCard

/-- THE TIED CARD OF 'laws.FnExactRigRoom'. -/
def fnExactRigRoomCard : Claim7 := { stood := { row := fnExactRigRoomRow, standIns := [], harness := (true, "2e6ccaf99ad01b02b29fdc5db14152f3066edef12c489745044dbcbc1ada4676"), looks := true }, kinds := [], alts := [], laidByText := true, laidKinds := [.handle], laidTests := true, laidLooks := .later }
def FnExactRigRoomCardSaid : Prop := Claim7.holds Tryd.pinned (.plain (OpenSpec.ofChange fnExactRigRoomSpec)) fnExactRigRoomCard

/-- THE TIED CARD OF 'laws.FnExactRigFits'. -/
def fnExactRigFitsCard : Claim7 := { stood := { row := fnExactRigFitsRow, standIns := [], harness := (true, "2e6ccaf99ad01b02b29fdc5db14152f3066edef12c489745044dbcbc1ada4676"), looks := true }, kinds := [], alts := [], laidByText := true, laidKinds := [.handle], laidTests := true, laidLooks := .later }
def FnExactRigFitsCardSaid : Prop := Claim7.holds Tryd.pinned (.plain (OpenSpec.ofChange fnExactRigFitsSpec)) fnExactRigFitsCard

/-- THE TIED CARD OF 'laws.FnExactRigSizes'. -/
def fnExactRigSizesCard : Claim7 := { stood := { row := fnExactRigSizesRow, standIns := [], harness := (true, "2e6ccaf99ad01b02b29fdc5db14152f3066edef12c489745044dbcbc1ada4676"), looks := true }, kinds := [], alts := [], laidByText := true, laidKinds := [.handle], laidTests := true, laidLooks := .later }
def FnExactRigSizesCardSaid : Prop := Claim7.holds Tryd.pinned (.plain (OpenSpec.ofChange fnExactRigSizesSpec)) fnExactRigSizesCard

/-- THE TIED CARD OF 'laws.FnRig'. -/
def fnRigCard : Claim7 := { stood := { row := fnRigRow, standIns := [], harness := (true, "2e6ccaf99ad01b02b29fdc5db14152f3066edef12c489745044dbcbc1ada4676"), looks := true }, kinds := [], alts := [], laidByText := true, laidKinds := [.handle], laidTests := true, laidLooks := .later }
def FnRigCardSaid : Prop := Claim7.holds Tryd.pinned (.plain (OpenSpec.ofChange fnRigSpec)) fnRigCard

/-- THE TIED CARD OF 'laws.FnRoom'. -/
def fnRoomCard : Claim7 := { stood := { row := fnRoomRow, standIns := [], harness := (true, "2e6ccaf99ad01b02b29fdc5db14152f3066edef12c489745044dbcbc1ada4676"), looks := true }, kinds := [], alts := [], laidByText := true, laidKinds := [.handle], laidTests := true, laidLooks := .later }
def FnRoomCardSaid : Prop := Claim7.holds Tryd.pinned (.plain (OpenSpec.ofChange fnRoomSpec)) fnRoomCard

/-- THE SECOND FORM's CARD OF 'laws.FnExactRigIn'. -/
def fnExactRigInUptoCard : Claim7 := { stood := { row := fnExactRigInUptoRow, standIns := [], harness := (true, "2e6ccaf99ad01b02b29fdc5db14152f3066edef12c489745044dbcbc1ada4676"), looks := true }, kinds := [], alts := [], laidByText := true, laidKinds := [.handle], laidTests := true, laidLooks := .later }
def FnExactRigInUptoCardSaid : Prop := Claim7.holds Tryd.pinned (.plain (OpenSpec.upto fnExactRigInSpec)) fnExactRigInUptoCard

/-- THE SECOND FORM's CARD OF 'laws.FnExactRigRoom'. -/
def fnExactRigRoomUptoCard : Claim7 := { stood := { row := fnExactRigRoomUptoRow, standIns := [], harness := (true, "2e6ccaf99ad01b02b29fdc5db14152f3066edef12c489745044dbcbc1ada4676"), looks := true }, kinds := [], alts := [], laidByText := true, laidKinds := [.handle], laidTests := true, laidLooks := .later }
def FnExactRigRoomUptoCardSaid : Prop := Claim7.holds Tryd.pinned (.plain (OpenSpec.upto fnExactRigRoomSpec)) fnExactRigRoomUptoCard

/-- THE SECOND FORM's CARD OF 'laws.FnExactRigFits'. -/
def fnExactRigFitsUptoCard : Claim7 := { stood := { row := fnExactRigFitsUptoRow, standIns := [], harness := (true, "2e6ccaf99ad01b02b29fdc5db14152f3066edef12c489745044dbcbc1ada4676"), looks := true }, kinds := [], alts := [], laidByText := true, laidKinds := [.handle], laidTests := true, laidLooks := .later }
def FnExactRigFitsUptoCardSaid : Prop := Claim7.holds Tryd.pinned (.plain (OpenSpec.upto fnExactRigFitsSpec)) fnExactRigFitsUptoCard

/-- THE SECOND FORM's CARD OF 'laws.FnExactRigSizes'. -/
def fnExactRigSizesUptoCard : Claim7 := { stood := { row := fnExactRigSizesUptoRow, standIns := [], harness := (true, "2e6ccaf99ad01b02b29fdc5db14152f3066edef12c489745044dbcbc1ada4676"), looks := true }, kinds := [], alts := [], laidByText := true, laidKinds := [.handle], laidTests := true, laidLooks := .later }
def FnExactRigSizesUptoCardSaid : Prop := Claim7.holds Tryd.pinned (.plain (OpenSpec.upto fnExactRigSizesSpec)) fnExactRigSizesUptoCard

/-- THE SECOND FORM's CARD OF 'laws.FnRig'. -/
def fnRigUptoCard : Claim7 := { stood := { row := fnRigUptoRow, standIns := [], harness := (true, "2e6ccaf99ad01b02b29fdc5db14152f3066edef12c489745044dbcbc1ada4676"), looks := true }, kinds := [], alts := [], laidByText := true, laidKinds := [.handle], laidTests := true, laidLooks := .later }
def FnRigUptoCardSaid : Prop := Claim7.holds Tryd.pinned (.plain (OpenSpec.upto fnRigSpec)) fnRigUptoCard

/-- THE SECOND FORM's CARD OF 'laws.FnRoom'. -/
def fnRoomUptoCard : Claim7 := { stood := { row := fnRoomUptoRow, standIns := [], harness := (true, "2e6ccaf99ad01b02b29fdc5db14152f3066edef12c489745044dbcbc1ada4676"), looks := true }, kinds := [], alts := [], laidByText := true, laidKinds := [.handle], laidTests := true, laidLooks := .later }
def FnRoomUptoCardSaid : Prop := Claim7.holds Tryd.pinned (.plain (OpenSpec.upto fnRoomSpec)) fnRoomUptoCard
end Rows
end Go.Proofs.YtgdjcfnmpljaiaaDoor
