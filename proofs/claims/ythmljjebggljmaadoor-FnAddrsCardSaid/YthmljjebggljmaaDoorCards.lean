/-
  DERIVED. GIVEN WITH THE SEED: THE CARDS: each row of YthmljjebggljmaaDoorRows.lean that lists a variable, with what it lists TIED to the program's text (the seventh form; the later family's looks); each row that meets fmt, with fmt's text TOLD by the authors' own Lean function (tested against real Go, not proved from fmt's source: count such statements apart). THE CARD IS WHAT COUNTS. Prove the row's statement (the work); the ties are given (YthmljjebggljmaaDoorTie.lean); close each card by the builder's one call (the guide's Derived/Test/ToyasCard.lean, 'card_holds'). Laid BY PROGRAM, IN A SANDBOX (cutbox-door.mjs). By AI agents, Wed Nov 11 2026. No macro, syntax, notation, axiom, sorry.
-/
import Derived.Test.YthmljjebggljmaaDoorRows
import GoSem.ClaimSeven
namespace Go.Proofs.YthmljjebggljmaaDoor
namespace Rows

/-- THE TIED CARD OF 'laws.FnAddrs'. -/
def fnAddrsCard : Claim7 := { stood := { row := fnAddrsRow, standIns := [], harness := (true, "f1b6f7e31b077db6ddbb22d0fd1e6ed632991521231bd3830d0d656daca55fd0"), looks := true }, kinds := [], alts := [], laidByText := true, laidKinds := [.data, .data, .data, .data, .sentinel, .sentinel, .pinned], laidTests := true, laidLooks := .later }
def FnAddrsCardSaid : Prop := Claim7.holds Tryd.pinned (.plain (OpenSpec.ofChange fnAddrsSpec)) fnAddrsCard

/-- THE TIED CARD OF 'laws.FnExactAddrOk'. -/
def fnExactAddrOkCard : Claim7 := { stood := { row := fnExactAddrOkRow, standIns := [], harness := (true, "f1b6f7e31b077db6ddbb22d0fd1e6ed632991521231bd3830d0d656daca55fd0"), looks := true }, kinds := [], alts := [], laidByText := true, laidKinds := [.data, .data, .data, .data, .sentinel, .sentinel, .pinned], laidTests := true, laidLooks := .later }
def FnExactAddrOkCardSaid : Prop := Claim7.holds Tryd.pinned (.plain (OpenSpec.ofChange fnExactAddrOkSpec)) fnExactAddrOkCard

/-- THE TIED CARD OF 'laws.FnExactAddrName'. -/
def fnExactAddrNameCard : Claim7 := { stood := { row := fnExactAddrNameRow, standIns := [], harness := (true, "f1b6f7e31b077db6ddbb22d0fd1e6ed632991521231bd3830d0d656daca55fd0"), looks := true }, kinds := [], alts := [], laidByText := true, laidKinds := [.data, .data, .data, .data, .sentinel, .sentinel, .pinned], laidTests := true, laidLooks := .later }
def FnExactAddrNameCardSaid : Prop := Claim7.holds Tryd.pinned (.plain (OpenSpec.ofChange fnExactAddrNameSpec)) fnExactAddrNameCard

/-- THE TIED CARD OF 'laws.FnExactAddrItem'. -/
def fnExactAddrItemCard : Claim7 := { stood := { row := fnExactAddrItemRow, standIns := [], harness := (true, "f1b6f7e31b077db6ddbb22d0fd1e6ed632991521231bd3830d0d656daca55fd0"), looks := true }, kinds := [], alts := [], laidByText := true, laidKinds := [.data, .data, .data], laidTests := true, laidLooks := .later }
def FnExactAddrItemCardSaid : Prop := Claim7.holds Tryd.pinned (.plain (OpenSpec.ofChange fnExactAddrItemSpec)) fnExactAddrItemCard

/-- THE SECOND FORM's CARD OF 'laws.FnAddrs'. -/
def fnAddrsUptoCard : Claim7 := { stood := { row := fnAddrsUptoRow, standIns := [], harness := (true, "f1b6f7e31b077db6ddbb22d0fd1e6ed632991521231bd3830d0d656daca55fd0"), looks := true }, kinds := [], alts := [], laidByText := true, laidKinds := [.data, .data, .data, .data, .sentinel, .sentinel, .pinned], laidTests := true, laidLooks := .later }
def FnAddrsUptoCardSaid : Prop := Claim7.holds Tryd.pinned (.plain (OpenSpec.upto fnAddrsSpec)) fnAddrsUptoCard

/-- THE SECOND FORM's CARD OF 'laws.FnExactAddrOk'. -/
def fnExactAddrOkUptoCard : Claim7 := { stood := { row := fnExactAddrOkUptoRow, standIns := [], harness := (true, "f1b6f7e31b077db6ddbb22d0fd1e6ed632991521231bd3830d0d656daca55fd0"), looks := true }, kinds := [], alts := [], laidByText := true, laidKinds := [.data, .data, .data, .data, .sentinel, .sentinel, .pinned], laidTests := true, laidLooks := .later }
def FnExactAddrOkUptoCardSaid : Prop := Claim7.holds Tryd.pinned (.plain (OpenSpec.upto fnExactAddrOkSpec)) fnExactAddrOkUptoCard

/-- THE SECOND FORM's CARD OF 'laws.FnExactAddrName'. -/
def fnExactAddrNameUptoCard : Claim7 := { stood := { row := fnExactAddrNameUptoRow, standIns := [], harness := (true, "f1b6f7e31b077db6ddbb22d0fd1e6ed632991521231bd3830d0d656daca55fd0"), looks := true }, kinds := [], alts := [], laidByText := true, laidKinds := [.data, .data, .data, .data, .sentinel, .sentinel, .pinned], laidTests := true, laidLooks := .later }
def FnExactAddrNameUptoCardSaid : Prop := Claim7.holds Tryd.pinned (.plain (OpenSpec.upto fnExactAddrNameSpec)) fnExactAddrNameUptoCard

/-- THE SECOND FORM's CARD OF 'laws.FnExactAddrItem'. -/
def fnExactAddrItemUptoCard : Claim7 := { stood := { row := fnExactAddrItemUptoRow, standIns := [], harness := (true, "f1b6f7e31b077db6ddbb22d0fd1e6ed632991521231bd3830d0d656daca55fd0"), looks := true }, kinds := [], alts := [], laidByText := true, laidKinds := [.data, .data, .data], laidTests := true, laidLooks := .later }
def FnExactAddrItemUptoCardSaid : Prop := Claim7.holds Tryd.pinned (.plain (OpenSpec.upto fnExactAddrItemSpec)) fnExactAddrItemUptoCard
end Rows
end Go.Proofs.YthmljjebggljmaaDoor
