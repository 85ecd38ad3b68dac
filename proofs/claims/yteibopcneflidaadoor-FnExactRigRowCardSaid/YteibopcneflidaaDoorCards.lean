/-
  DERIVED. GIVEN WITH THE SEED: THE CARDS: each row of YteibopcneflidaaDoorRows.lean that lists a variable, with what it lists TIED to the program's text (the seventh form; the later family's looks); each row that meets fmt, with fmt's text TOLD by the authors' own Lean function (tested against real Go, not proved from fmt's source: count such statements apart). THE CARD IS WHAT COUNTS. Prove the row's statement (the work); the ties are given (YteibopcneflidaaDoorTie.lean); close each card by the builder's one call (the guide's Derived/Test/ToyasCard.lean, 'card_holds'). Laid BY PROGRAM, IN A SANDBOX (cutbox-door.mjs). By AI agents, Wed Nov 11 2026. No macro, syntax, notation, axiom, sorry.
-/
import Derived.Test.YteibopcneflidaaDoorRows
import GoSem.ClaimSeven
namespace Go.Proofs.YteibopcneflidaaDoor
namespace Rows

/-- THE TIED CARD OF 'laws.FnExactRigFlow'. -/
def fnExactRigFlowCard : Claim7 := { stood := { row := fnExactRigFlowRow, standIns := [], harness := (true, "122fa11ef3ad8bd2923b3f877248301918dddbc38172d8fa9c1d42c4051c5863"), looks := true }, kinds := [], alts := [], laidByText := true, laidKinds := [.handle], laidTests := true, laidLooks := .later }
def FnExactRigFlowCardSaid : Prop := Claim7.holds Tryd.pinned (.plain (OpenSpec.ofChange fnExactRigFlowSpec)) fnExactRigFlowCard

/-- THE TIED CARD OF 'laws.FnFlow'. -/
def fnFlowCard : Claim7 := { stood := { row := fnFlowRow, standIns := [], harness := (true, "122fa11ef3ad8bd2923b3f877248301918dddbc38172d8fa9c1d42c4051c5863"), looks := true }, kinds := [], alts := [], laidByText := true, laidKinds := [.handle], laidTests := true, laidLooks := .later }
def FnFlowCardSaid : Prop := Claim7.holds Tryd.pinned (.plain (OpenSpec.ofChange fnFlowSpec)) fnFlowCard

/-- THE TIED CARD OF 'laws.FnExactRigOf'. -/
def fnExactRigOfCard : Claim7 := { stood := { row := fnExactRigOfRow, standIns := [], harness := (true, "122fa11ef3ad8bd2923b3f877248301918dddbc38172d8fa9c1d42c4051c5863"), looks := true }, kinds := [], alts := [], laidByText := true, laidKinds := [.handle], laidTests := true, laidLooks := .later }
def FnExactRigOfCardSaid : Prop := Claim7.holds Tryd.pinned (.plain (OpenSpec.ofChange fnExactRigOfSpec)) fnExactRigOfCard

/-- THE TIED CARD OF 'laws.FnExactRigRow'. -/
def fnExactRigRowCard : Claim7 := { stood := { row := fnExactRigRowRow, standIns := [], harness := (true, "122fa11ef3ad8bd2923b3f877248301918dddbc38172d8fa9c1d42c4051c5863"), looks := true }, kinds := [], alts := [], laidByText := true, laidKinds := [.handle], laidTests := true, laidLooks := .later }
def FnExactRigRowCardSaid : Prop := Claim7.holds Tryd.pinned (.plain (OpenSpec.ofChange fnExactRigRowSpec)) fnExactRigRowCard

/-- THE TIED CARD OF 'laws.FnFitsRow'. -/
def fnFitsRowCard : Claim7 := { stood := { row := fnFitsRowRow, standIns := [], harness := (true, "122fa11ef3ad8bd2923b3f877248301918dddbc38172d8fa9c1d42c4051c5863"), looks := true }, kinds := [], alts := [], laidByText := true, laidKinds := [.handle], laidTests := true, laidLooks := .later }
def FnFitsRowCardSaid : Prop := Claim7.holds Tryd.pinned (.plain (OpenSpec.ofChange fnFitsRowSpec)) fnFitsRowCard

/-- THE TIED CARD OF 'laws.FnRigRow'. -/
def fnRigRowCard : Claim7 := { stood := { row := fnRigRowRow, standIns := [], harness := (true, "122fa11ef3ad8bd2923b3f877248301918dddbc38172d8fa9c1d42c4051c5863"), looks := true }, kinds := [], alts := [], laidByText := true, laidKinds := [.handle], laidTests := true, laidLooks := .later }
def FnRigRowCardSaid : Prop := Claim7.holds Tryd.pinned (.plain (OpenSpec.ofChange fnRigRowSpec)) fnRigRowCard

/-- THE SECOND FORM's CARD OF 'laws.FnExactRigFlow'. -/
def fnExactRigFlowUptoCard : Claim7 := { stood := { row := fnExactRigFlowUptoRow, standIns := [], harness := (true, "122fa11ef3ad8bd2923b3f877248301918dddbc38172d8fa9c1d42c4051c5863"), looks := true }, kinds := [], alts := [], laidByText := true, laidKinds := [.handle], laidTests := true, laidLooks := .later }
def FnExactRigFlowUptoCardSaid : Prop := Claim7.holds Tryd.pinned (.plain (OpenSpec.upto fnExactRigFlowSpec)) fnExactRigFlowUptoCard

/-- THE SECOND FORM's CARD OF 'laws.FnFlow'. -/
def fnFlowUptoCard : Claim7 := { stood := { row := fnFlowUptoRow, standIns := [], harness := (true, "122fa11ef3ad8bd2923b3f877248301918dddbc38172d8fa9c1d42c4051c5863"), looks := true }, kinds := [], alts := [], laidByText := true, laidKinds := [.handle], laidTests := true, laidLooks := .later }
def FnFlowUptoCardSaid : Prop := Claim7.holds Tryd.pinned (.plain (OpenSpec.upto fnFlowSpec)) fnFlowUptoCard

/-- THE SECOND FORM's CARD OF 'laws.FnExactRigOf'. -/
def fnExactRigOfUptoCard : Claim7 := { stood := { row := fnExactRigOfUptoRow, standIns := [], harness := (true, "122fa11ef3ad8bd2923b3f877248301918dddbc38172d8fa9c1d42c4051c5863"), looks := true }, kinds := [], alts := [], laidByText := true, laidKinds := [.handle], laidTests := true, laidLooks := .later }
def FnExactRigOfUptoCardSaid : Prop := Claim7.holds Tryd.pinned (.plain (OpenSpec.upto fnExactRigOfSpec)) fnExactRigOfUptoCard

/-- THE SECOND FORM's CARD OF 'laws.FnExactRigRow'. -/
def fnExactRigRowUptoCard : Claim7 := { stood := { row := fnExactRigRowUptoRow, standIns := [], harness := (true, "122fa11ef3ad8bd2923b3f877248301918dddbc38172d8fa9c1d42c4051c5863"), looks := true }, kinds := [], alts := [], laidByText := true, laidKinds := [.handle], laidTests := true, laidLooks := .later }
def FnExactRigRowUptoCardSaid : Prop := Claim7.holds Tryd.pinned (.plain (OpenSpec.upto fnExactRigRowSpec)) fnExactRigRowUptoCard

/-- THE SECOND FORM's CARD OF 'laws.FnFitsRow'. -/
def fnFitsRowUptoCard : Claim7 := { stood := { row := fnFitsRowUptoRow, standIns := [], harness := (true, "122fa11ef3ad8bd2923b3f877248301918dddbc38172d8fa9c1d42c4051c5863"), looks := true }, kinds := [], alts := [], laidByText := true, laidKinds := [.handle], laidTests := true, laidLooks := .later }
def FnFitsRowUptoCardSaid : Prop := Claim7.holds Tryd.pinned (.plain (OpenSpec.upto fnFitsRowSpec)) fnFitsRowUptoCard

/-- THE SECOND FORM's CARD OF 'laws.FnRigRow'. -/
def fnRigRowUptoCard : Claim7 := { stood := { row := fnRigRowUptoRow, standIns := [], harness := (true, "122fa11ef3ad8bd2923b3f877248301918dddbc38172d8fa9c1d42c4051c5863"), looks := true }, kinds := [], alts := [], laidByText := true, laidKinds := [.handle], laidTests := true, laidLooks := .later }
def FnRigRowUptoCardSaid : Prop := Claim7.holds Tryd.pinned (.plain (OpenSpec.upto fnRigRowSpec)) fnRigRowUptoCard
end Rows
end Go.Proofs.YteibopcneflidaaDoor
