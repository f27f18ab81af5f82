/-
  DERIVED. GIVEN WITH THE SEED: THE CARDS: each row of YtjofejjfjnkbhaaDoorRows.lean that lists a variable, with what it lists TIED to the program's text (the seventh form; the later family's looks); each row that meets fmt, with fmt's text TOLD by the authors' own Lean function (tested against real Go, not proved from fmt's source: count such statements apart). THE CARD IS WHAT COUNTS. Prove the row's statement (the work); the ties are given (YtjofejjfjnkbhaaDoorTie.lean); close each card by the builder's one call (the guide's Derived/Test/ToyasCard.lean, 'card_holds'). Laid BY PROGRAM, IN A SANDBOX (cutbox-door.mjs). By AI agents, Wed Nov 11 2026. No macro, syntax, notation, axiom, sorry.
-/
import Derived.Test.YtjofejjfjnkbhaaDoorRows
import GoSem.ClaimSeven
namespace Go.Proofs.YtjofejjfjnkbhaaDoor
namespace Rows

/-- THE TIED CARD OF 'laws.FnExactExprParts'. -/
def fnExactExprPartsCard : Claim7 := { stood := { row := fnExactExprPartsRow, standIns := [], harness := (true, "baec48f12acedca2684e91d44753fe5d9375c813c91416af503ca98691635087"), looks := false }, kinds := [], alts := [], laidByText := true, laidKinds := [.data], laidTests := true, laidLooks := .later }
def FnExactExprPartsCardSaid : Prop := Claim7.holds Tryd.pinned (.plain (OpenSpec.ofChange fnExactExprPartsSpec)) fnExactExprPartsCard

/-- THE TIED CARD OF 'laws.FnExactRename'. -/
def fnExactRenameCard : Claim7 := { stood := { row := fnExactRenameRow, standIns := [], harness := (true, "baec48f12acedca2684e91d44753fe5d9375c813c91416af503ca98691635087"), looks := false }, kinds := [], alts := [], laidByText := true, laidKinds := [.data], laidTests := true, laidLooks := .later }
def FnExactRenameCardSaid : Prop := Claim7.holds Tryd.pinned (.plain (OpenSpec.ofChange fnExactRenameSpec)) fnExactRenameCard

/-- THE SECOND FORM's CARD OF 'laws.FnExactExprParts'. -/
def fnExactExprPartsUptoCard : Claim7 := { stood := { row := fnExactExprPartsUptoRow, standIns := [], harness := (true, "baec48f12acedca2684e91d44753fe5d9375c813c91416af503ca98691635087"), looks := false }, kinds := [], alts := [], laidByText := true, laidKinds := [.data], laidTests := true, laidLooks := .later }
def FnExactExprPartsUptoCardSaid : Prop := Claim7.holds Tryd.pinned (.plain (OpenSpec.upto fnExactExprPartsSpec)) fnExactExprPartsUptoCard

/-- THE SECOND FORM's CARD OF 'laws.FnExactRename'. -/
def fnExactRenameUptoCard : Claim7 := { stood := { row := fnExactRenameUptoRow, standIns := [], harness := (true, "baec48f12acedca2684e91d44753fe5d9375c813c91416af503ca98691635087"), looks := false }, kinds := [], alts := [], laidByText := true, laidKinds := [.data], laidTests := true, laidLooks := .later }
def FnExactRenameUptoCardSaid : Prop := Claim7.holds Tryd.pinned (.plain (OpenSpec.upto fnExactRenameSpec)) fnExactRenameUptoCard
end Rows
end Go.Proofs.YtjofejjfjnkbhaaDoor
