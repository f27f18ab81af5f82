/-
  Texts that a law leans on, one behind the other; no statement is proved here.
-/
import Derived.Test.YtfokidhamjphfaaDoorPk25
/-
  What a value that may be is, by its depth: 'goodB'; how many parts it has: 'partsV'; what the specification's l2ok answers: 'okI'. Plain mathematics.
-/
namespace Go.Proofs.YtfokidhamjphfaaDoor
open Go.RowKit
set_option linter.unusedVariables false
set_option linter.unusedSimpArgs false

end Go.Proofs.YtfokidhamjphfaaDoor
