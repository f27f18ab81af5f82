/-
  DERIVED. GIVEN WITH THE SEED: THE CARDS: each row of YtcgmfmdoconecaaDoorRows.lean that lists a variable, with what it lists TIED to the program's text (the seventh form; the later family's looks); each row that meets fmt, with fmt's text TOLD by the authors' own Lean function (tested against real Go, not proved from fmt's source: count such statements apart). THE CARD IS WHAT COUNTS. Prove the row's statement (the work); the ties are given (YtcgmfmdoconecaaDoorTie.lean); close each card by the builder's one call (the guide's Derived/Test/ToyasCard.lean, 'card_holds'). Laid BY PROGRAM, IN A SANDBOX (cutbox-door.mjs). By AI agents, Wed Nov 11 2026. No macro, syntax, notation, axiom, sorry.
-/
import Derived.Test.YtcgmfmdoconecaaDoorRows
import GoSem.ClaimSeven
namespace Go.Proofs.YtcgmfmdoconecaaDoor
namespace Rows

/-- THE TIED CARD OF 'laws.FnExactUses'. -/
def fnExactUsesCard : Claim7 := { stood := { row := fnExactUsesRow, standIns := [], harness := (true, "8a5a5cfa0267faffb5e85a5b5f61496786416b69c80967c34405c09d542beabd"), looks := false }, kinds := [], alts := [], laidByText := true, laidKinds := [.data], laidTests := true, laidLooks := .later }
def FnExactUsesCardSaid : Prop := Claim7.holds Tryd.pinned (.plain (OpenSpec.ofChange fnExactUsesSpec)) fnExactUsesCard

/-- THE TIED CARD OF 'laws.FnExactLocals'. -/
def fnExactLocalsCard : Claim7 := { stood := { row := fnExactLocalsRow, standIns := [], harness := (true, "8a5a5cfa0267faffb5e85a5b5f61496786416b69c80967c34405c09d542beabd"), looks := false }, kinds := [], alts := [], laidByText := true, laidKinds := [.data], laidTests := true, laidLooks := .later }
def FnExactLocalsCardSaid : Prop := Claim7.holds Tryd.pinned (.plain (OpenSpec.ofChange fnExactLocalsSpec)) fnExactLocalsCard

/-- THE SECOND FORM's CARD OF 'laws.FnExactUses'. -/
def fnExactUsesUptoCard : Claim7 := { stood := { row := fnExactUsesUptoRow, standIns := [], harness := (true, "8a5a5cfa0267faffb5e85a5b5f61496786416b69c80967c34405c09d542beabd"), looks := false }, kinds := [], alts := [], laidByText := true, laidKinds := [.data], laidTests := true, laidLooks := .later }
def FnExactUsesUptoCardSaid : Prop := Claim7.holds Tryd.pinned (.plain (OpenSpec.upto fnExactUsesSpec)) fnExactUsesUptoCard

/-- THE SECOND FORM's CARD OF 'laws.FnExactLocals'. -/
def fnExactLocalsUptoCard : Claim7 := { stood := { row := fnExactLocalsUptoRow, standIns := [], harness := (true, "8a5a5cfa0267faffb5e85a5b5f61496786416b69c80967c34405c09d542beabd"), looks := false }, kinds := [], alts := [], laidByText := true, laidKinds := [.data], laidTests := true, laidLooks := .later }
def FnExactLocalsUptoCardSaid : Prop := Claim7.holds Tryd.pinned (.plain (OpenSpec.upto fnExactLocalsSpec)) fnExactLocalsUptoCard
end Rows
end Go.Proofs.YtcgmfmdoconecaaDoor
