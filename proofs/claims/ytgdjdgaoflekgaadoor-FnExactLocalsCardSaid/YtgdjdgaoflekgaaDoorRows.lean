/-
  NARROWER THAN 'FOR EVERY INPUT', by the rows' own cells (each row's printed sentence says how): FnExactExprOk: loops, laid · FnExactExprText: loops, laid · FnExactConfigOk: loops, laid · FnExactConfigText: loops, laid · FnExactUses: loops, laid · FnExactLocals: loops, laid.
  DERIVED. THE GIVEN ROWS OF THIS SEAT. 6 by the template 'for every input the law returns true; each argument reads behind the call as it read before'; 0 by the template 'total and deterministic' (their statements: YtgdjdgaoflekgaaDoorTotals.lean).
  GIVEN WITH THE SEED: the statements are not yours to turn. If you find one false, say at which input.
  Laid BY PROGRAM, IN A SANDBOX (cutbox-rows.mjs): the forced cells as the released guide's own fill.sh prints them over the translation 807139e403449cdb… (all of the seat's roots in one cut). By AI agents, Wed Nov 11 2026. No macro, syntax, notation, axiom, sorry.
-/
import Derived.Test.YtgdjdgaoflekgaaDoorChecked
import GoSem.Claim
import GoSem.ClaimJoined
import GoSem.ClaimMapViews
import Derived.JoinedTies
import Derived.KernelRfl
namespace Go.Proofs.YtgdjdgaoflekgaaDoor
/- THE CELL 'sum', in the pinned program and in every row, IS THE sha256 OF THE DUMP (.gsa) THAT YtgdjdgaoflekgaaDoorProg.lean LOADS. Nothing in Lean hashes anything: it is a label: what it is worth is what the hold of that sum in a sandbox is worth. -/
noncomputable def Tryd.pinned : Pinned := { name := "ytgdjdgaoflekgaadoor", sum := "807139e403449cdb535b4fbf9cd66e04502b92a4f748c5714ba41c818e6252a3", checked := Tryd.checked }
namespace Rows
def none {H : Type} : Left H := { results := [], args := [] }

/- WHAT THE LISTED PACKAGE-LEVEL VARIABLES READ AS WHEN THE CALL BEGINS. Each datum BY PROGRAM (the guide's laid-datum.mjs) off the statement by which the dump's own 'gosem.cut.vars' lays the variable. In a bare row this is a premise. The card (YtgdjdgaoflekgaaDoorCards.lean) ties it to the program's text. -/
def laid_loop_example_g00407_impl_shapes {H : Type} : DataW H := .agg [.agg [.lit (.int .i64 0), .lit (.int .i64 0), .lit (.bool false), .lit (.int .i64 0)], .agg [.lit (.int .i64 1), .lit (.int .i64 0), .lit (.bool false), .lit (.int .i64 0)], .agg [.lit (.int .i64 1000000000000), .lit (.int .i64 0), .lit (.bool false), .lit (.int .i64 0)], .agg [.lit (.int .i64 0), .lit (.int .i64 1), .lit (.bool false), .lit (.int .i64 0)], .agg [.lit (.int .i64 0), .lit (.int .i64 0), .lit (.bool false), .lit (.int .i64 (-1))], .agg [.lit (.int .i64 0), .lit (.int .i64 0), .lit (.bool true), .lit (.int .i64 (-1))], .agg [.lit (.int .i64 0), .lit (.int .i64 2), .lit (.bool false), .lit (.int .i64 0)], .agg [.lit (.int .i64 0), .lit (.int .i64 3), .lit (.bool false), .lit (.int .i64 0)], .agg [.lit (.int .i64 0), .lit (.int .i64 2), .lit (.bool false), .lit (.int .i64 1)], .agg [.lit (.int .i64 0), .lit (.int .i64 0), .lit (.bool false), .lit (.int .i64 2)], .agg [.lit (.int .i64 0), .lit (.int .i64 0), .lit (.bool false), .lit (.int .i64 0)], .agg [.lit (.int .i64 0), .lit (.int .i64 0), .lit (.bool false), .lit (.int .i64 0)], .agg [.lit (.int .i64 0), .lit (.int .i64 0), .lit (.bool false), .lit (.int .i64 0)], .agg [.lit (.int .i64 0), .lit (.int .i64 0), .lit (.bool false), .lit (.int .i64 1)], .agg [.lit (.int .i64 0), .lit (.int .i64 0), .lit (.bool false), .lit (.int .i64 1)], .agg [.lit (.int .i64 0), .lit (.int .i64 0), .lit (.bool false), .lit (.int .i64 2)], .agg [.lit (.int .i64 0), .lit (.int .i64 0), .lit (.bool false), .lit (.int .i64 2)], .agg [.lit (.int .i64 0), .lit (.int .i64 0), .lit (.bool false), .lit (.int .i64 2)], .agg [.lit (.int .i64 0), .lit (.int .i64 0), .lit (.bool false), .lit (.int .i64 2)], .agg [.lit (.int .i64 0), .lit (.int .i64 0), .lit (.bool false), .lit (.int .i64 2)], .agg [.lit (.int .i64 0), .lit (.int .i64 0), .lit (.bool false), .lit (.int .i64 2)], .agg [.lit (.int .i64 0), .lit (.int .i64 0), .lit (.bool false), .lit (.int .i64 2)], .agg [.lit (.int .i64 0), .lit (.int .i64 0), .lit (.bool false), .lit (.int .i64 3)], .agg [.lit (.int .i64 0), .lit (.int .i64 3), .lit (.bool false), .lit (.int .i64 (-1))]]
def laid_math_bits_deBruijn32tab {H : Type} : DataW H := .agg [.lit (.int .u8 0), .lit (.int .u8 1), .lit (.int .u8 28), .lit (.int .u8 2), .lit (.int .u8 29), .lit (.int .u8 14), .lit (.int .u8 24), .lit (.int .u8 3), .lit (.int .u8 30), .lit (.int .u8 22), .lit (.int .u8 20), .lit (.int .u8 15), .lit (.int .u8 25), .lit (.int .u8 17), .lit (.int .u8 4), .lit (.int .u8 8), .lit (.int .u8 31), .lit (.int .u8 27), .lit (.int .u8 13), .lit (.int .u8 23), .lit (.int .u8 21), .lit (.int .u8 19), .lit (.int .u8 16), .lit (.int .u8 7), .lit (.int .u8 26), .lit (.int .u8 12), .lit (.int .u8 18), .lit (.int .u8 6), .lit (.int .u8 11), .lit (.int .u8 5), .lit (.int .u8 10), .lit (.int .u8 9)]
def laid_math_bits_deBruijn64tab {H : Type} : DataW H := .agg [.lit (.int .u8 0), .lit (.int .u8 1), .lit (.int .u8 56), .lit (.int .u8 2), .lit (.int .u8 57), .lit (.int .u8 49), .lit (.int .u8 28), .lit (.int .u8 3), .lit (.int .u8 61), .lit (.int .u8 58), .lit (.int .u8 42), .lit (.int .u8 50), .lit (.int .u8 38), .lit (.int .u8 29), .lit (.int .u8 17), .lit (.int .u8 4), .lit (.int .u8 62), .lit (.int .u8 47), .lit (.int .u8 59), .lit (.int .u8 36), .lit (.int .u8 45), .lit (.int .u8 43), .lit (.int .u8 51), .lit (.int .u8 22), .lit (.int .u8 53), .lit (.int .u8 39), .lit (.int .u8 33), .lit (.int .u8 30), .lit (.int .u8 24), .lit (.int .u8 18), .lit (.int .u8 12), .lit (.int .u8 5), .lit (.int .u8 63), .lit (.int .u8 55), .lit (.int .u8 48), .lit (.int .u8 27), .lit (.int .u8 60), .lit (.int .u8 41), .lit (.int .u8 37), .lit (.int .u8 16), .lit (.int .u8 46), .lit (.int .u8 35), .lit (.int .u8 44), .lit (.int .u8 21), .lit (.int .u8 52), .lit (.int .u8 32), .lit (.int .u8 23), .lit (.int .u8 11), .lit (.int .u8 54), .lit (.int .u8 26), .lit (.int .u8 40), .lit (.int .u8 15), .lit (.int .u8 34), .lit (.int .u8 20), .lit (.int .u8 31), .lit (.int .u8 10), .lit (.int .u8 25), .lit (.int .u8 14), .lit (.int .u8 19), .lit (.int .u8 9), .lit (.int .u8 13), .lit (.int .u8 8), .lit (.int .u8 7), .lit (.int .u8 6)]
def laid_internal_strconv_uint64pow10 {H : Type} : DataW H := .agg [.lit (.int .u64 1), .lit (.int .u64 10), .lit (.int .u64 100), .lit (.int .u64 1000), .lit (.int .u64 10000), .lit (.int .u64 100000), .lit (.int .u64 1000000), .lit (.int .u64 10000000), .lit (.int .u64 100000000), .lit (.int .u64 1000000000), .lit (.int .u64 10000000000), .lit (.int .u64 100000000000), .lit (.int .u64 1000000000000), .lit (.int .u64 10000000000000), .lit (.int .u64 100000000000000), .lit (.int .u64 1000000000000000), .lit (.int .u64 10000000000000000), .lit (.int .u64 100000000000000000), .lit (.int .u64 1000000000000000000), .lit (.int .u64 10000000000000000000)]
def laid_loop_example_g00407_impl_wordAtoms {H : Type} : DataW H := .agg [.agg [.lit (.string [110, 117, 108, 108]), .lit (.int .i64 0), .lit (.int .i64 0)], .agg [.lit (.string [116, 114, 117, 101]), .lit (.int .i64 1), .lit (.int .i64 1)], .agg [.lit (.string [102, 97, 108, 115, 101]), .lit (.int .i64 1), .lit (.int .i64 0)], .agg [.lit (.string [105, 110, 100, 101, 120]), .lit (.int .i64 10), .lit (.int .i64 0)], .agg [.lit (.string [107, 101, 121]), .lit (.int .i64 11), .lit (.int .i64 0)], .agg [.lit (.string [118, 97, 108]), .lit (.int .i64 12), .lit (.int .i64 0)]]
def laid_loop_example_g00407_impl_operations {H : Type} : DataW H := .agg [.agg [.lit (.int .i64 15), .lit (.string [42]), .lit (.int .i64 4)], .agg [.lit (.int .i64 16), .lit (.string [43]), .lit (.int .i64 3)], .agg [.lit (.int .i64 17), .lit (.string [45]), .lit (.int .i64 3)], .agg [.lit (.int .i64 18), .lit (.string [61, 61]), .lit (.int .i64 2)], .agg [.lit (.int .i64 19), .lit (.string [60]), .lit (.int .i64 2)], .agg [.lit (.int .i64 20), .lit (.string [38, 38]), .lit (.int .i64 1)], .agg [.lit (.int .i64 21), .lit (.string [124, 124]), .lit (.int .i64 0)]]
def laid_loop_example_g00407_impl_itemWords {H : Type} : DataW H := .agg [.lit (.string [108, 111, 99, 97, 108]), .lit (.string [114, 101, 115]), .lit (.string [111, 117, 116])]
def laid_loop_example_g00407_impl_manyWords {H : Type} : DataW H := .agg [.lit (.string []), .lit (.string [99, 111, 117, 110, 116]), .lit (.string [101, 97, 99, 104])]

/-- 'laws.FnExactExprOk': WHATEVER THE INPUT: true; the input reads as it did. -/
def fnExactExprOkSpec : ChangeSpec := { name := "fnExactExprOk", vars := ["loop.example/g00407/impl.shapes"], fn := fun _ => fun
  | [d, g1] => { results := [.lit (.bool true)], args := [d], vars := [g1] }
  | _ => none }
def fnExactExprOkRow : OpenClaim := { program := "ytgdjdgaoflekgaadoor", sum := "807139e403449cdb535b4fbf9cd66e04502b92a4f748c5714ba41c818e6252a3", func := "loop.example/g00407/laws.FnExactExprOk", spec := "fnExactExprOk", inPlace := ["internal/bytealg.Compare"], recurses := true, named := ["loop.example/g00407/impl.shapes"], loops := true, apart := false, laid := [("loop.example/g00407/impl.shapes", laid_loop_example_g00407_impl_shapes)] }
def FnExactExprOkSaid : Prop := fnExactExprOkRow.holds Tryd.pinned (OpenSpec.ofChange fnExactExprOkSpec)

/-- ITS FALSE NEIGHBOUR: 'it returns false'. Refute it at one input. -/
def fnExactExprOkWrong : ChangeSpec := { name := "fnExactExprOk", vars := ["loop.example/g00407/impl.shapes"], fn := fun _ => fun
  | [d, g1] => { results := [.lit (.bool false)], args := [d], vars := [g1] }
  | _ => none }
def FnExactExprOkWrongFalsely : Prop := fnExactExprOkRow.holds Tryd.pinned (OpenSpec.ofChange fnExactExprOkWrong)

/-- 'laws.FnExactExprText': WHATEVER THE INPUT: true; the input reads as it did. -/
def fnExactExprTextSpec : ChangeSpec := { name := "fnExactExprText", vars := ["loop.example/g00407/impl.shapes", "loop.example/g00407/impl.operations", "loop.example/g00407/impl.wordAtoms"], fn := fun _ => fun
  | [d, g1, g2, g3] => { results := [.lit (.bool true)], args := [d], vars := [g1, g2, g3] }
  | _ => none }
def fnExactExprTextRow : OpenClaim := { program := "ytgdjdgaoflekgaadoor", sum := "807139e403449cdb535b4fbf9cd66e04502b92a4f748c5714ba41c818e6252a3", func := "loop.example/g00407/laws.FnExactExprText", spec := "fnExactExprText", inPlace := ["internal/bytealg.Compare"], recurses := true, named := ["loop.example/g00407/impl.shapes", "loop.example/g00407/impl.operations", "internal/strconv.uint64pow10", "math/bits.deBruijn32tab", "math/bits.deBruijn64tab", "loop.example/g00407/impl.wordAtoms"], loops := true, apart := false, laid := [("math/bits.deBruijn32tab", laid_math_bits_deBruijn32tab), ("math/bits.deBruijn64tab", laid_math_bits_deBruijn64tab), ("internal/strconv.uint64pow10", laid_internal_strconv_uint64pow10), ("loop.example/g00407/impl.shapes", laid_loop_example_g00407_impl_shapes), ("loop.example/g00407/impl.wordAtoms", laid_loop_example_g00407_impl_wordAtoms), ("loop.example/g00407/impl.operations", laid_loop_example_g00407_impl_operations)] }
def FnExactExprTextSaid : Prop := fnExactExprTextRow.holds Tryd.pinned (OpenSpec.ofChange fnExactExprTextSpec)

/-- ITS FALSE NEIGHBOUR: 'it returns false'. Refute it at one input. -/
def fnExactExprTextWrong : ChangeSpec := { name := "fnExactExprText", vars := ["loop.example/g00407/impl.shapes", "loop.example/g00407/impl.operations", "loop.example/g00407/impl.wordAtoms"], fn := fun _ => fun
  | [d, g1, g2, g3] => { results := [.lit (.bool false)], args := [d], vars := [g1, g2, g3] }
  | _ => none }
def FnExactExprTextWrongFalsely : Prop := fnExactExprTextRow.holds Tryd.pinned (OpenSpec.ofChange fnExactExprTextWrong)

/-- 'laws.FnExactConfigOk': WHATEVER THE INPUT: true; the input reads as it did. -/
def fnExactConfigOkSpec : ChangeSpec := { name := "fnExactConfigOk", vars := ["loop.example/g00407/impl.shapes"], fn := fun _ => fun
  | [d, g1] => { results := [.lit (.bool true)], args := [d], vars := [g1] }
  | _ => none }
def fnExactConfigOkRow : OpenClaim := { program := "ytgdjdgaoflekgaadoor", sum := "807139e403449cdb535b4fbf9cd66e04502b92a4f748c5714ba41c818e6252a3", func := "loop.example/g00407/laws.FnExactConfigOk", spec := "fnExactConfigOk", inPlace := ["internal/bytealg.Compare"], unfollowed := true, recurses := true, named := ["loop.example/g00407/impl.shapes"], loops := true, apart := false, laid := [("loop.example/g00407/impl.shapes", laid_loop_example_g00407_impl_shapes)] }
def FnExactConfigOkSaid : Prop := fnExactConfigOkRow.holds Tryd.pinned (OpenSpec.ofChange fnExactConfigOkSpec)

/-- ITS FALSE NEIGHBOUR: 'it returns false'. Refute it at one input. -/
def fnExactConfigOkWrong : ChangeSpec := { name := "fnExactConfigOk", vars := ["loop.example/g00407/impl.shapes"], fn := fun _ => fun
  | [d, g1] => { results := [.lit (.bool false)], args := [d], vars := [g1] }
  | _ => none }
def FnExactConfigOkWrongFalsely : Prop := fnExactConfigOkRow.holds Tryd.pinned (OpenSpec.ofChange fnExactConfigOkWrong)

/-- 'laws.FnExactConfigText': WHATEVER THE INPUT: true; the input reads as it did. -/
def fnExactConfigTextSpec : ChangeSpec := { name := "fnExactConfigText", vars := ["loop.example/g00407/impl.shapes", "loop.example/g00407/impl.itemWords", "loop.example/g00407/impl.manyWords", "loop.example/g00407/impl.operations", "loop.example/g00407/impl.wordAtoms"], fn := fun _ => fun
  | [d, g1, g2, g3, g4, g5] => { results := [.lit (.bool true)], args := [d], vars := [g1, g2, g3, g4, g5] }
  | _ => none }
def fnExactConfigTextRow : OpenClaim := { program := "ytgdjdgaoflekgaadoor", sum := "807139e403449cdb535b4fbf9cd66e04502b92a4f748c5714ba41c818e6252a3", func := "loop.example/g00407/laws.FnExactConfigText", spec := "fnExactConfigText", inPlace := ["internal/bytealg.Compare"], unfollowed := true, recurses := true, named := ["loop.example/g00407/impl.shapes", "loop.example/g00407/impl.itemWords", "loop.example/g00407/impl.manyWords", "loop.example/g00407/impl.operations", "internal/strconv.uint64pow10", "math/bits.deBruijn32tab", "math/bits.deBruijn64tab", "loop.example/g00407/impl.wordAtoms"], loops := true, apart := false, laid := [("math/bits.deBruijn32tab", laid_math_bits_deBruijn32tab), ("math/bits.deBruijn64tab", laid_math_bits_deBruijn64tab), ("internal/strconv.uint64pow10", laid_internal_strconv_uint64pow10), ("loop.example/g00407/impl.shapes", laid_loop_example_g00407_impl_shapes), ("loop.example/g00407/impl.wordAtoms", laid_loop_example_g00407_impl_wordAtoms), ("loop.example/g00407/impl.operations", laid_loop_example_g00407_impl_operations), ("loop.example/g00407/impl.itemWords", laid_loop_example_g00407_impl_itemWords), ("loop.example/g00407/impl.manyWords", laid_loop_example_g00407_impl_manyWords)] }
def FnExactConfigTextSaid : Prop := fnExactConfigTextRow.holds Tryd.pinned (OpenSpec.ofChange fnExactConfigTextSpec)

/-- ITS FALSE NEIGHBOUR: 'it returns false'. Refute it at one input. -/
def fnExactConfigTextWrong : ChangeSpec := { name := "fnExactConfigText", vars := ["loop.example/g00407/impl.shapes", "loop.example/g00407/impl.itemWords", "loop.example/g00407/impl.manyWords", "loop.example/g00407/impl.operations", "loop.example/g00407/impl.wordAtoms"], fn := fun _ => fun
  | [d, g1, g2, g3, g4, g5] => { results := [.lit (.bool false)], args := [d], vars := [g1, g2, g3, g4, g5] }
  | _ => none }
def FnExactConfigTextWrongFalsely : Prop := fnExactConfigTextRow.holds Tryd.pinned (OpenSpec.ofChange fnExactConfigTextWrong)

/-- 'laws.FnExactUses': WHATEVER THE INPUT: true; the input reads as it did. -/
def fnExactUsesSpec : ChangeSpec := { name := "fnExactUses", vars := ["loop.example/g00407/impl.shapes"], fn := fun _ => fun
  | [d, g1] => { results := [.lit (.bool true)], args := [d], vars := [g1] }
  | _ => none }
def fnExactUsesRow : OpenClaim := { program := "ytgdjdgaoflekgaadoor", sum := "807139e403449cdb535b4fbf9cd66e04502b92a4f748c5714ba41c818e6252a3", func := "loop.example/g00407/laws.FnExactUses", spec := "fnExactUses", inPlace := ["internal/bytealg.Compare"], recurses := true, named := ["loop.example/g00407/impl.shapes"], loops := true, apart := false, laid := [("loop.example/g00407/impl.shapes", laid_loop_example_g00407_impl_shapes)] }
def FnExactUsesSaid : Prop := fnExactUsesRow.holds Tryd.pinned (OpenSpec.ofChange fnExactUsesSpec)

/-- ITS FALSE NEIGHBOUR: 'it returns false'. Refute it at one input. -/
def fnExactUsesWrong : ChangeSpec := { name := "fnExactUses", vars := ["loop.example/g00407/impl.shapes"], fn := fun _ => fun
  | [d, g1] => { results := [.lit (.bool false)], args := [d], vars := [g1] }
  | _ => none }
def FnExactUsesWrongFalsely : Prop := fnExactUsesRow.holds Tryd.pinned (OpenSpec.ofChange fnExactUsesWrong)

/-- 'laws.FnExactLocals': WHATEVER THE INPUT: true; the input reads as it did. -/
def fnExactLocalsSpec : ChangeSpec := { name := "fnExactLocals", vars := ["loop.example/g00407/impl.shapes"], fn := fun _ => fun
  | [d, g1] => { results := [.lit (.bool true)], args := [d], vars := [g1] }
  | _ => none }
def fnExactLocalsRow : OpenClaim := { program := "ytgdjdgaoflekgaadoor", sum := "807139e403449cdb535b4fbf9cd66e04502b92a4f748c5714ba41c818e6252a3", func := "loop.example/g00407/laws.FnExactLocals", spec := "fnExactLocals", inPlace := ["internal/bytealg.Compare"], recurses := true, named := ["loop.example/g00407/impl.shapes"], loops := true, apart := false, laid := [("loop.example/g00407/impl.shapes", laid_loop_example_g00407_impl_shapes)] }
def FnExactLocalsSaid : Prop := fnExactLocalsRow.holds Tryd.pinned (OpenSpec.ofChange fnExactLocalsSpec)

/-- ITS FALSE NEIGHBOUR: 'it returns false'. Refute it at one input. -/
def fnExactLocalsWrong : ChangeSpec := { name := "fnExactLocals", vars := ["loop.example/g00407/impl.shapes"], fn := fun _ => fun
  | [d, g1] => { results := [.lit (.bool false)], args := [d], vars := [g1] }
  | _ => none }
def FnExactLocalsWrongFalsely : Prop := fnExactLocalsRow.holds Tryd.pinned (OpenSpec.ofChange fnExactLocalsWrong)

/- THE SECOND FORM. 'bulk': how many values and letters a reading holds, each counted each time it is reached (what is shared counts as often as it is met; a slice's spare places count too). A statement '..UptoSaid' is the law's where the arguments, and the package variables that the reading takes, are together of bulk at most 1048576: NARROWER than '..Said'. Prove '..Said' where nothing that the law and all that it calls make is longer than what came in: it says more and counts as full. Else prove '..UptoSaid'. A law counts once. -/
mutual
def uptoBulk {H : Type} : DataW H → Nat
  | .lit (.string bytes) => bytes.length + 1
  | .lit _ => 1
  | .nil => 1
  | .ptr d => uptoBulk d + 1
  | .slice elems spare => uptoBulkAll elems + uptoBulkAll spare + 1
  | .agg parts => uptoBulkAll parts + 1
  | .iface _ d => uptoBulk d + 1
  | .map entries => uptoBulkEntries entries + 1
  | .held _ => 1
def uptoBulkAll {H : Type} : List (DataW H) → Nat
  | [] => 0
  | d :: r => uptoBulk d + uptoBulkAll r
def uptoBulkEntries {H : Type} : List (Lit × DataW H) → Nat
  | [] => 0
  | x :: r => uptoBulkEntry x + uptoBulkEntries r
def uptoBulkEntry {H : Type} : Lit × DataW H → Nat
  | (.string bytes, d) => bytes.length + uptoBulk d + 1
  | (_, d) => uptoBulk d + 1
 end
def uptoSmall : (H : Type) → List (DataW H) → Bool := fun _ ds => decide (uptoBulkAll ds ≤ 1048576)
def OpenSpec.upto (s : _root_.Go.ChangeSpec) : _root_.Go.OpenSpec := { _root_.Go.OpenSpec.ofChange s with cond := some uptoSmall }

/-- 'laws.FnExactExprOk', WHERE WHAT IT READS IS OF BULK AT MOST 1048576: true; the input reads as it did. -/
def fnExactExprOkUptoRow : OpenClaim := { program := "ytgdjdgaoflekgaadoor", sum := "807139e403449cdb535b4fbf9cd66e04502b92a4f748c5714ba41c818e6252a3", func := "loop.example/g00407/laws.FnExactExprOk", spec := "fnExactExprOk", inPlace := ["internal/bytealg.Compare"], recurses := true, named := ["loop.example/g00407/impl.shapes"], loops := true, apart := false, laid := [("loop.example/g00407/impl.shapes", laid_loop_example_g00407_impl_shapes)], narrowed := true }
def FnExactExprOkUptoSaid : Prop := fnExactExprOkUptoRow.holds Tryd.pinned (OpenSpec.upto fnExactExprOkSpec)

/-- 'laws.FnExactExprText', WHERE WHAT IT READS IS OF BULK AT MOST 1048576: true; the input reads as it did. -/
def fnExactExprTextUptoRow : OpenClaim := { program := "ytgdjdgaoflekgaadoor", sum := "807139e403449cdb535b4fbf9cd66e04502b92a4f748c5714ba41c818e6252a3", func := "loop.example/g00407/laws.FnExactExprText", spec := "fnExactExprText", inPlace := ["internal/bytealg.Compare"], recurses := true, named := ["loop.example/g00407/impl.shapes", "loop.example/g00407/impl.operations", "internal/strconv.uint64pow10", "math/bits.deBruijn32tab", "math/bits.deBruijn64tab", "loop.example/g00407/impl.wordAtoms"], loops := true, apart := false, laid := [("math/bits.deBruijn32tab", laid_math_bits_deBruijn32tab), ("math/bits.deBruijn64tab", laid_math_bits_deBruijn64tab), ("internal/strconv.uint64pow10", laid_internal_strconv_uint64pow10), ("loop.example/g00407/impl.shapes", laid_loop_example_g00407_impl_shapes), ("loop.example/g00407/impl.wordAtoms", laid_loop_example_g00407_impl_wordAtoms), ("loop.example/g00407/impl.operations", laid_loop_example_g00407_impl_operations)], narrowed := true }
def FnExactExprTextUptoSaid : Prop := fnExactExprTextUptoRow.holds Tryd.pinned (OpenSpec.upto fnExactExprTextSpec)

/-- 'laws.FnExactConfigOk', WHERE WHAT IT READS IS OF BULK AT MOST 1048576: true; the input reads as it did. -/
def fnExactConfigOkUptoRow : OpenClaim := { program := "ytgdjdgaoflekgaadoor", sum := "807139e403449cdb535b4fbf9cd66e04502b92a4f748c5714ba41c818e6252a3", func := "loop.example/g00407/laws.FnExactConfigOk", spec := "fnExactConfigOk", inPlace := ["internal/bytealg.Compare"], unfollowed := true, recurses := true, named := ["loop.example/g00407/impl.shapes"], loops := true, apart := false, laid := [("loop.example/g00407/impl.shapes", laid_loop_example_g00407_impl_shapes)], narrowed := true }
def FnExactConfigOkUptoSaid : Prop := fnExactConfigOkUptoRow.holds Tryd.pinned (OpenSpec.upto fnExactConfigOkSpec)

/-- 'laws.FnExactConfigText', WHERE WHAT IT READS IS OF BULK AT MOST 1048576: true; the input reads as it did. -/
def fnExactConfigTextUptoRow : OpenClaim := { program := "ytgdjdgaoflekgaadoor", sum := "807139e403449cdb535b4fbf9cd66e04502b92a4f748c5714ba41c818e6252a3", func := "loop.example/g00407/laws.FnExactConfigText", spec := "fnExactConfigText", inPlace := ["internal/bytealg.Compare"], unfollowed := true, recurses := true, named := ["loop.example/g00407/impl.shapes", "loop.example/g00407/impl.itemWords", "loop.example/g00407/impl.manyWords", "loop.example/g00407/impl.operations", "internal/strconv.uint64pow10", "math/bits.deBruijn32tab", "math/bits.deBruijn64tab", "loop.example/g00407/impl.wordAtoms"], loops := true, apart := false, laid := [("math/bits.deBruijn32tab", laid_math_bits_deBruijn32tab), ("math/bits.deBruijn64tab", laid_math_bits_deBruijn64tab), ("internal/strconv.uint64pow10", laid_internal_strconv_uint64pow10), ("loop.example/g00407/impl.shapes", laid_loop_example_g00407_impl_shapes), ("loop.example/g00407/impl.wordAtoms", laid_loop_example_g00407_impl_wordAtoms), ("loop.example/g00407/impl.operations", laid_loop_example_g00407_impl_operations), ("loop.example/g00407/impl.itemWords", laid_loop_example_g00407_impl_itemWords), ("loop.example/g00407/impl.manyWords", laid_loop_example_g00407_impl_manyWords)], narrowed := true }
def FnExactConfigTextUptoSaid : Prop := fnExactConfigTextUptoRow.holds Tryd.pinned (OpenSpec.upto fnExactConfigTextSpec)

/-- 'laws.FnExactUses', WHERE WHAT IT READS IS OF BULK AT MOST 1048576: true; the input reads as it did. -/
def fnExactUsesUptoRow : OpenClaim := { program := "ytgdjdgaoflekgaadoor", sum := "807139e403449cdb535b4fbf9cd66e04502b92a4f748c5714ba41c818e6252a3", func := "loop.example/g00407/laws.FnExactUses", spec := "fnExactUses", inPlace := ["internal/bytealg.Compare"], recurses := true, named := ["loop.example/g00407/impl.shapes"], loops := true, apart := false, laid := [("loop.example/g00407/impl.shapes", laid_loop_example_g00407_impl_shapes)], narrowed := true }
def FnExactUsesUptoSaid : Prop := fnExactUsesUptoRow.holds Tryd.pinned (OpenSpec.upto fnExactUsesSpec)

/-- 'laws.FnExactLocals', WHERE WHAT IT READS IS OF BULK AT MOST 1048576: true; the input reads as it did. -/
def fnExactLocalsUptoRow : OpenClaim := { program := "ytgdjdgaoflekgaadoor", sum := "807139e403449cdb535b4fbf9cd66e04502b92a4f748c5714ba41c818e6252a3", func := "loop.example/g00407/laws.FnExactLocals", spec := "fnExactLocals", inPlace := ["internal/bytealg.Compare"], recurses := true, named := ["loop.example/g00407/impl.shapes"], loops := true, apart := false, laid := [("loop.example/g00407/impl.shapes", laid_loop_example_g00407_impl_shapes)], narrowed := true }
def FnExactLocalsUptoSaid : Prop := fnExactLocalsUptoRow.holds Tryd.pinned (OpenSpec.upto fnExactLocalsSpec)

end Rows
end Go.Proofs.YtgdjdgaoflekgaaDoor
