/-
  DERIVED. GIVEN WITH THE SEED: THE PROGRAM's TIES (one call each: nine closed facts by the kernel) AND EACH ROW's TIE, after the 31st guide's Derived/Test/Toyas{Tie, Card}.lean. No idea stands in it: it is a product of the set-up. Laid BY PROGRAM, IN A SANDBOX (cutbox-door.mjs). By AI agents, Wed Nov 11 2026. No macro, syntax, notation, axiom, sorry.
-/
import Derived.Test.YtgdjdgaoflekgaaDoorRows
import Derived.LaidByTextLater
import Derived.SevenTiedAt
import Derived.LaidSub
import Derived.LaidOnce
namespace Go.Proofs.YtgdjdgaoflekgaaDoor
open Go
set_option maxRecDepth 100000
theorem seatTie1 : Tryd.prog.laidByTextLater [("math/bits.deBruijn32tab", Rows.laid_math_bits_deBruijn32tab), ("math/bits.deBruijn64tab", Rows.laid_math_bits_deBruijn64tab), ("internal/strconv.uint64pow10", Rows.laid_internal_strconv_uint64pow10), ("loop.example/g00407/impl.shapes", Rows.laid_loop_example_g00407_impl_shapes), ("loop.example/g00407/impl.wordAtoms", Rows.laid_loop_example_g00407_impl_wordAtoms), ("loop.example/g00407/impl.operations", Rows.laid_loop_example_g00407_impl_operations), ("loop.example/g00407/impl.itemWords", Rows.laid_loop_example_g00407_impl_itemWords), ("loop.example/g00407/impl.manyWords", Rows.laid_loop_example_g00407_impl_manyWords)] [.data, .data, .data, .data, .data, .data, .data, .data] true :=
  Program.laidByTextLater_by_one 86 8 97 (by kernel_rfl) (by kernel_rfl) (by kernel_rfl) (by kernel_rfl) (by kernel_rfl) (by kernel_rfl) (fun _ _ => by kernel_rfl)
theorem noOwnUnsafe : Tryd.pinned.checked.prog.headLifts.contains "ownunsafe" = false := by kernel_rfl
theorem tie : Tryd.prog.laidByTextLater [("loop.example/g00407/impl.shapes", Rows.laid_loop_example_g00407_impl_shapes)] [.data] true :=
  Program.laidByTextLater.sub seatTie1 ["loop.example/g00407/impl.shapes"] (by kernel_rfl) (by kernel_rfl)
theorem fnExactExprOk_row_tie : Rows.fnExactExprOkRow.laidByTextAt .later Tryd.pinned [.data] true :=
  OpenClaim.laidByTextAt_later rfl rfl tie noOwnUnsafe
theorem fnExactConfigOk_row_tie : Rows.fnExactConfigOkRow.laidByTextAt .later Tryd.pinned [.data] true :=
  OpenClaim.laidByTextAt_later rfl rfl tie noOwnUnsafe
theorem fnExactUses_row_tie : Rows.fnExactUsesRow.laidByTextAt .later Tryd.pinned [.data] true :=
  OpenClaim.laidByTextAt_later rfl rfl tie noOwnUnsafe
theorem fnExactLocals_row_tie : Rows.fnExactLocalsRow.laidByTextAt .later Tryd.pinned [.data] true :=
  OpenClaim.laidByTextAt_later rfl rfl tie noOwnUnsafe
theorem tie2 : Tryd.prog.laidByTextLater [("math/bits.deBruijn32tab", Rows.laid_math_bits_deBruijn32tab), ("math/bits.deBruijn64tab", Rows.laid_math_bits_deBruijn64tab), ("internal/strconv.uint64pow10", Rows.laid_internal_strconv_uint64pow10), ("loop.example/g00407/impl.shapes", Rows.laid_loop_example_g00407_impl_shapes), ("loop.example/g00407/impl.wordAtoms", Rows.laid_loop_example_g00407_impl_wordAtoms), ("loop.example/g00407/impl.operations", Rows.laid_loop_example_g00407_impl_operations)] [.data, .data, .data, .data, .data, .data] true :=
  Program.laidByTextLater.sub seatTie1 ["math/bits.deBruijn32tab", "math/bits.deBruijn64tab", "internal/strconv.uint64pow10", "loop.example/g00407/impl.shapes", "loop.example/g00407/impl.wordAtoms", "loop.example/g00407/impl.operations"] (by kernel_rfl) (by kernel_rfl)
theorem fnExactExprText_row_tie : Rows.fnExactExprTextRow.laidByTextAt .later Tryd.pinned [.data, .data, .data, .data, .data, .data] true :=
  OpenClaim.laidByTextAt_later rfl rfl tie2 noOwnUnsafe
theorem tie3 : Tryd.prog.laidByTextLater [("math/bits.deBruijn32tab", Rows.laid_math_bits_deBruijn32tab), ("math/bits.deBruijn64tab", Rows.laid_math_bits_deBruijn64tab), ("internal/strconv.uint64pow10", Rows.laid_internal_strconv_uint64pow10), ("loop.example/g00407/impl.shapes", Rows.laid_loop_example_g00407_impl_shapes), ("loop.example/g00407/impl.wordAtoms", Rows.laid_loop_example_g00407_impl_wordAtoms), ("loop.example/g00407/impl.operations", Rows.laid_loop_example_g00407_impl_operations), ("loop.example/g00407/impl.itemWords", Rows.laid_loop_example_g00407_impl_itemWords), ("loop.example/g00407/impl.manyWords", Rows.laid_loop_example_g00407_impl_manyWords)] [.data, .data, .data, .data, .data, .data, .data, .data] true :=
  Program.laidByTextLater.sub seatTie1 ["math/bits.deBruijn32tab", "math/bits.deBruijn64tab", "internal/strconv.uint64pow10", "loop.example/g00407/impl.shapes", "loop.example/g00407/impl.wordAtoms", "loop.example/g00407/impl.operations", "loop.example/g00407/impl.itemWords", "loop.example/g00407/impl.manyWords"] (by kernel_rfl) (by kernel_rfl)
theorem fnExactConfigText_row_tie : Rows.fnExactConfigTextRow.laidByTextAt .later Tryd.pinned [.data, .data, .data, .data, .data, .data, .data, .data] true :=
  OpenClaim.laidByTextAt_later rfl rfl tie3 noOwnUnsafe
theorem fnExactExprOkUpto_row_tie : Rows.fnExactExprOkUptoRow.laidByTextAt .later Tryd.pinned [.data] true :=
  OpenClaim.laidByTextAt_later rfl rfl tie noOwnUnsafe
theorem fnExactExprTextUpto_row_tie : Rows.fnExactExprTextUptoRow.laidByTextAt .later Tryd.pinned [.data, .data, .data, .data, .data, .data] true :=
  OpenClaim.laidByTextAt_later rfl rfl tie2 noOwnUnsafe
theorem fnExactConfigOkUpto_row_tie : Rows.fnExactConfigOkUptoRow.laidByTextAt .later Tryd.pinned [.data] true :=
  OpenClaim.laidByTextAt_later rfl rfl tie noOwnUnsafe
theorem fnExactConfigTextUpto_row_tie : Rows.fnExactConfigTextUptoRow.laidByTextAt .later Tryd.pinned [.data, .data, .data, .data, .data, .data, .data, .data] true :=
  OpenClaim.laidByTextAt_later rfl rfl tie3 noOwnUnsafe
theorem fnExactUsesUpto_row_tie : Rows.fnExactUsesUptoRow.laidByTextAt .later Tryd.pinned [.data] true :=
  OpenClaim.laidByTextAt_later rfl rfl tie noOwnUnsafe
theorem fnExactLocalsUpto_row_tie : Rows.fnExactLocalsUptoRow.laidByTextAt .later Tryd.pinned [.data] true :=
  OpenClaim.laidByTextAt_later rfl rfl tie noOwnUnsafe
end Go.Proofs.YtgdjdgaoflekgaaDoor
