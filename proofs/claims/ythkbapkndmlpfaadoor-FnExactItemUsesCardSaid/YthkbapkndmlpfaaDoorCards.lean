/-
  DERIVED. GIVEN WITH THE SEED: THE CARDS: each row of YthkbapkndmlpfaaDoorRows.lean that lists a variable, with what it lists TIED to the program's text (the seventh form; the later family's looks); each row that meets fmt, with fmt's text TOLD by the authors' own Lean function (tested against real Go, not proved from fmt's source: count such statements apart). THE CARD IS WHAT COUNTS. Prove the row's statement (the work); the ties are given (YthkbapkndmlpfaaDoorTie.lean); close each card by the builder's one call (the guide's Derived/Test/ToyasCard.lean, 'card_holds'). Laid BY PROGRAM, IN A SANDBOX (cutbox-door.mjs). By AI agents, Wed Nov 11 2026. No macro, syntax, notation, axiom, sorry.
-/
import Derived.Test.YthkbapkndmlpfaaDoorRows
import GoSem.ClaimSeven
namespace Go.Proofs.YthkbapkndmlpfaaDoor
namespace Rows

/-- THE TIED CARD OF 'laws.FnExactConfigOk'. -/
def fnExactConfigOkCard : Claim7 := { stood := { row := fnExactConfigOkRow, standIns := [], harness := (true, "a7a334b34893e62baeb807053c9ce9fd05caea452e293ab50b41f3af0250af57"), looks := false }, kinds := [], alts := [], laidByText := true, laidKinds := [.data], laidTests := true, laidLooks := .later }
def FnExactConfigOkCardSaid : Prop := Claim7.holds Tryd.pinned (.plain (OpenSpec.ofChange fnExactConfigOkSpec)) fnExactConfigOkCard

/-- THE TIED CARD OF 'laws.FnExactItemUses'. -/
def fnExactItemUsesCard : Claim7 := { stood := { row := fnExactItemUsesRow, standIns := [], harness := (true, "a7a334b34893e62baeb807053c9ce9fd05caea452e293ab50b41f3af0250af57"), looks := false }, kinds := [], alts := [], laidByText := true, laidKinds := [.data], laidTests := true, laidLooks := .later }
def FnExactItemUsesCardSaid : Prop := Claim7.holds Tryd.pinned (.plain (OpenSpec.ofChange fnExactItemUsesSpec)) fnExactItemUsesCard

/-- THE SECOND FORM's CARD OF 'laws.FnExactConfigOk'. -/
def fnExactConfigOkUptoCard : Claim7 := { stood := { row := fnExactConfigOkUptoRow, standIns := [], harness := (true, "a7a334b34893e62baeb807053c9ce9fd05caea452e293ab50b41f3af0250af57"), looks := false }, kinds := [], alts := [], laidByText := true, laidKinds := [.data], laidTests := true, laidLooks := .later }
def FnExactConfigOkUptoCardSaid : Prop := Claim7.holds Tryd.pinned (.plain (OpenSpec.upto fnExactConfigOkSpec)) fnExactConfigOkUptoCard

/-- THE SECOND FORM's CARD OF 'laws.FnExactItemUses'. -/
def fnExactItemUsesUptoCard : Claim7 := { stood := { row := fnExactItemUsesUptoRow, standIns := [], harness := (true, "a7a334b34893e62baeb807053c9ce9fd05caea452e293ab50b41f3af0250af57"), looks := false }, kinds := [], alts := [], laidByText := true, laidKinds := [.data], laidTests := true, laidLooks := .later }
def FnExactItemUsesUptoCardSaid : Prop := Claim7.holds Tryd.pinned (.plain (OpenSpec.upto fnExactItemUsesSpec)) fnExactItemUsesUptoCard
end Rows
end Go.Proofs.YthkbapkndmlpfaaDoor
