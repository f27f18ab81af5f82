/-
  DERIVED. GIVEN WITH THE SEED: THE CARDS: each row of YtfokidhamjphfaaDoorRows.lean that lists a variable, with what it lists TIED to the program's text (the seventh form; the later family's looks); each row that meets fmt, with fmt's text TOLD by the authors' own Lean function (tested against real Go, not proved from fmt's source: count such statements apart). THE CARD IS WHAT COUNTS. Prove the row's statement (the work); the ties are given (YtfokidhamjphfaaDoorTie.lean); close each card by the builder's one call (the guide's Derived/Test/ToyasCard.lean, 'card_holds'). Laid BY PROGRAM, IN A SANDBOX (cutbox-door.mjs). By AI agents, Wed Nov 11 2026. No macro, syntax, notation, axiom, sorry.
-/
import Derived.Test.YtfokidhamjphfaaDoorRows
import GoSem.ClaimSeven
namespace Go.Proofs.YtfokidhamjphfaaDoor
namespace Rows

/-- THE TIED CARD OF 'laws.FnRenames'. -/
def fnRenamesCard : Claim7 := { stood := { row := fnRenamesRow, standIns := [], harness := (true, "7478572505b26dfd8148537019dd0b5040013880a7d4b49428dc4801f03f1208"), looks := false }, kinds := [], alts := [], laidByText := true, laidKinds := [.data], laidTests := true, laidLooks := .later }
def FnRenamesCardSaid : Prop := Claim7.holds Tryd.pinned (.plain (OpenSpec.ofChange fnRenamesSpec)) fnRenamesCard

/-- THE TIED CARD OF 'laws.FnExactRename'. -/
def fnExactRenameCard : Claim7 := { stood := { row := fnExactRenameRow, standIns := [], harness := (true, "7478572505b26dfd8148537019dd0b5040013880a7d4b49428dc4801f03f1208"), looks := false }, kinds := [], alts := [], laidByText := true, laidKinds := [.data], laidTests := true, laidLooks := .later }
def FnExactRenameCardSaid : Prop := Claim7.holds Tryd.pinned (.plain (OpenSpec.ofChange fnExactRenameSpec)) fnExactRenameCard

/-- THE SECOND FORM's CARD OF 'laws.FnRenames'. -/
def fnRenamesUptoCard : Claim7 := { stood := { row := fnRenamesUptoRow, standIns := [], harness := (true, "7478572505b26dfd8148537019dd0b5040013880a7d4b49428dc4801f03f1208"), looks := false }, kinds := [], alts := [], laidByText := true, laidKinds := [.data], laidTests := true, laidLooks := .later }
def FnRenamesUptoCardSaid : Prop := Claim7.holds Tryd.pinned (.plain (OpenSpec.upto fnRenamesSpec)) fnRenamesUptoCard

/-- THE SECOND FORM's CARD OF 'laws.FnExactRename'. -/
def fnExactRenameUptoCard : Claim7 := { stood := { row := fnExactRenameUptoRow, standIns := [], harness := (true, "7478572505b26dfd8148537019dd0b5040013880a7d4b49428dc4801f03f1208"), looks := false }, kinds := [], alts := [], laidByText := true, laidKinds := [.data], laidTests := true, laidLooks := .later }
def FnExactRenameUptoCardSaid : Prop := Claim7.holds Tryd.pinned (.plain (OpenSpec.upto fnExactRenameSpec)) fnExactRenameUptoCard
end Rows
end Go.Proofs.YtfokidhamjphfaaDoor
