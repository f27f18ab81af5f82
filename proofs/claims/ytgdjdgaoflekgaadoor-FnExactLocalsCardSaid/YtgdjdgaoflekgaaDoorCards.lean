/-
  DERIVED. GIVEN WITH THE SEED: THE CARDS: each row of YtgdjdgaoflekgaaDoorRows.lean that lists a variable, with what it lists TIED to the program's text (the seventh form; the later family's looks); each row that meets fmt, with fmt's text TOLD by the authors' own Lean function (tested against real Go, not proved from fmt's source: count such statements apart). THE CARD IS WHAT COUNTS. Prove the row's statement (the work); the ties are given (YtgdjdgaoflekgaaDoorTie.lean); close each card by the builder's one call (the guide's Derived/Test/ToyasCard.lean, 'card_holds'). Laid BY PROGRAM, IN A SANDBOX (cutbox-door.mjs). By AI agents, Wed Nov 11 2026. No macro, syntax, notation, axiom, sorry.
-/
import Derived.Test.YtgdjdgaoflekgaaDoorRows
import GoSem.ClaimSeven
namespace Go.Proofs.YtgdjdgaoflekgaaDoor
namespace Rows

/-- THE TIED CARD OF 'laws.FnExactExprOk'. -/
def fnExactExprOkCard : Claim7 := { stood := { row := fnExactExprOkRow, standIns := [], harness := (true, "aac60d259416b0d49dccea92efa4720e73728c2084600410a2d371e35a059ff2"), looks := false }, kinds := [], alts := [], laidByText := true, laidKinds := [.data], laidTests := true, laidLooks := .later }
def FnExactExprOkCardSaid : Prop := Claim7.holds Tryd.pinned (.plain (OpenSpec.ofChange fnExactExprOkSpec)) fnExactExprOkCard

/-- THE TIED CARD OF 'laws.FnExactExprText'. -/
def fnExactExprTextCard : Claim7 := { stood := { row := fnExactExprTextRow, standIns := [], harness := (true, "aac60d259416b0d49dccea92efa4720e73728c2084600410a2d371e35a059ff2"), looks := false }, kinds := [], alts := [], laidByText := true, laidKinds := [.data, .data, .data, .data, .data, .data], laidTests := true, laidLooks := .later }
def FnExactExprTextCardSaid : Prop := Claim7.holds Tryd.pinned (.plain (OpenSpec.ofChange fnExactExprTextSpec)) fnExactExprTextCard

/-- THE TIED CARD OF 'laws.FnExactConfigOk'. -/
def fnExactConfigOkCard : Claim7 := { stood := { row := fnExactConfigOkRow, standIns := [], harness := (true, "aac60d259416b0d49dccea92efa4720e73728c2084600410a2d371e35a059ff2"), looks := false }, kinds := [], alts := [], laidByText := true, laidKinds := [.data], laidTests := true, laidLooks := .later }
def FnExactConfigOkCardSaid : Prop := Claim7.holds Tryd.pinned (.plain (OpenSpec.ofChange fnExactConfigOkSpec)) fnExactConfigOkCard

/-- THE TIED CARD OF 'laws.FnExactConfigText'. -/
def fnExactConfigTextCard : Claim7 := { stood := { row := fnExactConfigTextRow, standIns := [], harness := (true, "aac60d259416b0d49dccea92efa4720e73728c2084600410a2d371e35a059ff2"), looks := false }, kinds := [], alts := [], laidByText := true, laidKinds := [.data, .data, .data, .data, .data, .data, .data, .data], laidTests := true, laidLooks := .later }
def FnExactConfigTextCardSaid : Prop := Claim7.holds Tryd.pinned (.plain (OpenSpec.ofChange fnExactConfigTextSpec)) fnExactConfigTextCard

/-- THE TIED CARD OF 'laws.FnExactUses'. -/
def fnExactUsesCard : Claim7 := { stood := { row := fnExactUsesRow, standIns := [], harness := (true, "aac60d259416b0d49dccea92efa4720e73728c2084600410a2d371e35a059ff2"), looks := false }, kinds := [], alts := [], laidByText := true, laidKinds := [.data], laidTests := true, laidLooks := .later }
def FnExactUsesCardSaid : Prop := Claim7.holds Tryd.pinned (.plain (OpenSpec.ofChange fnExactUsesSpec)) fnExactUsesCard

/-- THE TIED CARD OF 'laws.FnExactLocals'. -/
def fnExactLocalsCard : Claim7 := { stood := { row := fnExactLocalsRow, standIns := [], harness := (true, "aac60d259416b0d49dccea92efa4720e73728c2084600410a2d371e35a059ff2"), looks := false }, kinds := [], alts := [], laidByText := true, laidKinds := [.data], laidTests := true, laidLooks := .later }
def FnExactLocalsCardSaid : Prop := Claim7.holds Tryd.pinned (.plain (OpenSpec.ofChange fnExactLocalsSpec)) fnExactLocalsCard

/-- THE SECOND FORM's CARD OF 'laws.FnExactExprOk'. -/
def fnExactExprOkUptoCard : Claim7 := { stood := { row := fnExactExprOkUptoRow, standIns := [], harness := (true, "aac60d259416b0d49dccea92efa4720e73728c2084600410a2d371e35a059ff2"), looks := false }, kinds := [], alts := [], laidByText := true, laidKinds := [.data], laidTests := true, laidLooks := .later }
def FnExactExprOkUptoCardSaid : Prop := Claim7.holds Tryd.pinned (.plain (OpenSpec.upto fnExactExprOkSpec)) fnExactExprOkUptoCard

/-- THE SECOND FORM's CARD OF 'laws.FnExactExprText'. -/
def fnExactExprTextUptoCard : Claim7 := { stood := { row := fnExactExprTextUptoRow, standIns := [], harness := (true, "aac60d259416b0d49dccea92efa4720e73728c2084600410a2d371e35a059ff2"), looks := false }, kinds := [], alts := [], laidByText := true, laidKinds := [.data, .data, .data, .data, .data, .data], laidTests := true, laidLooks := .later }
def FnExactExprTextUptoCardSaid : Prop := Claim7.holds Tryd.pinned (.plain (OpenSpec.upto fnExactExprTextSpec)) fnExactExprTextUptoCard

/-- THE SECOND FORM's CARD OF 'laws.FnExactConfigOk'. -/
def fnExactConfigOkUptoCard : Claim7 := { stood := { row := fnExactConfigOkUptoRow, standIns := [], harness := (true, "aac60d259416b0d49dccea92efa4720e73728c2084600410a2d371e35a059ff2"), looks := false }, kinds := [], alts := [], laidByText := true, laidKinds := [.data], laidTests := true, laidLooks := .later }
def FnExactConfigOkUptoCardSaid : Prop := Claim7.holds Tryd.pinned (.plain (OpenSpec.upto fnExactConfigOkSpec)) fnExactConfigOkUptoCard

/-- THE SECOND FORM's CARD OF 'laws.FnExactConfigText'. -/
def fnExactConfigTextUptoCard : Claim7 := { stood := { row := fnExactConfigTextUptoRow, standIns := [], harness := (true, "aac60d259416b0d49dccea92efa4720e73728c2084600410a2d371e35a059ff2"), looks := false }, kinds := [], alts := [], laidByText := true, laidKinds := [.data, .data, .data, .data, .data, .data, .data, .data], laidTests := true, laidLooks := .later }
def FnExactConfigTextUptoCardSaid : Prop := Claim7.holds Tryd.pinned (.plain (OpenSpec.upto fnExactConfigTextSpec)) fnExactConfigTextUptoCard

/-- THE SECOND FORM's CARD OF 'laws.FnExactUses'. -/
def fnExactUsesUptoCard : Claim7 := { stood := { row := fnExactUsesUptoRow, standIns := [], harness := (true, "aac60d259416b0d49dccea92efa4720e73728c2084600410a2d371e35a059ff2"), looks := false }, kinds := [], alts := [], laidByText := true, laidKinds := [.data], laidTests := true, laidLooks := .later }
def FnExactUsesUptoCardSaid : Prop := Claim7.holds Tryd.pinned (.plain (OpenSpec.upto fnExactUsesSpec)) fnExactUsesUptoCard

/-- THE SECOND FORM's CARD OF 'laws.FnExactLocals'. -/
def fnExactLocalsUptoCard : Claim7 := { stood := { row := fnExactLocalsUptoRow, standIns := [], harness := (true, "aac60d259416b0d49dccea92efa4720e73728c2084600410a2d371e35a059ff2"), looks := false }, kinds := [], alts := [], laidByText := true, laidKinds := [.data], laidTests := true, laidLooks := .later }
def FnExactLocalsUptoCardSaid : Prop := Claim7.holds Tryd.pinned (.plain (OpenSpec.upto fnExactLocalsSpec)) fnExactLocalsUptoCard
end Rows
end Go.Proofs.YtgdjdgaoflekgaaDoor
