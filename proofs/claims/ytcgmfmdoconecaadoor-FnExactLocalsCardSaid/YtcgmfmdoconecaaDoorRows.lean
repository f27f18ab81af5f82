/-
  NARROWER THAN 'FOR EVERY INPUT', by the rows' own cells (each row's printed sentence says how): FnExactUses: loops, laid · FnExactLocals: loops, laid.
  DERIVED. THE GIVEN ROWS OF THIS SEAT. 2 by the template 'for every input the law returns true; each argument reads behind the call as it read before'; 0 by the template 'total and deterministic' (their statements: YtcgmfmdoconecaaDoorTotals.lean).
  GIVEN WITH THE SEED: the statements are not yours to turn. If you find one false, say at which input.
  Laid BY PROGRAM, IN A SANDBOX (cutbox-rows.mjs): the forced cells as the released guide's own fill.sh prints them over the translation f2253e6747f6e799… (all of the seat's roots in one cut). By AI agents, Wed Nov 11 2026. No macro, syntax, notation, axiom, sorry.
-/
import Derived.Test.YtcgmfmdoconecaaDoorChecked
import GoSem.Claim
import GoSem.ClaimJoined
import GoSem.ClaimMapViews
import Derived.JoinedTies
import Derived.KernelRfl
namespace Go.Proofs.YtcgmfmdoconecaaDoor
/- THE CELL 'sum', in the pinned program and in every row, IS THE sha256 OF THE DUMP (.gsa) THAT YtcgmfmdoconecaaDoorProg.lean LOADS. Nothing in Lean hashes anything: it is a label: what it is worth is what the hold of that sum in a sandbox is worth. -/
noncomputable def Tryd.pinned : Pinned := { name := "ytcgmfmdoconecaadoor", sum := "f2253e6747f6e7995435386064f54264cc9650ca855656be035d232eacf75775", checked := Tryd.checked }
namespace Rows
def none {H : Type} : Left H := { results := [], args := [] }

/- WHAT THE LISTED PACKAGE-LEVEL VARIABLES READ AS WHEN THE CALL BEGINS. Each datum BY PROGRAM (the guide's laid-datum.mjs) off the statement by which the dump's own 'gosem.cut.vars' lays the variable. In a bare row this is a premise. The card (YtcgmfmdoconecaaDoorCards.lean) ties it to the program's text. -/
def laid_loop_example_g00407_impl_shapes {H : Type} : DataW H := .agg [.agg [.lit (.int .i64 0), .lit (.int .i64 0), .lit (.bool false), .lit (.int .i64 0)], .agg [.lit (.int .i64 1), .lit (.int .i64 0), .lit (.bool false), .lit (.int .i64 0)], .agg [.lit (.int .i64 1000000000000), .lit (.int .i64 0), .lit (.bool false), .lit (.int .i64 0)], .agg [.lit (.int .i64 0), .lit (.int .i64 1), .lit (.bool false), .lit (.int .i64 0)], .agg [.lit (.int .i64 0), .lit (.int .i64 0), .lit (.bool false), .lit (.int .i64 (-1))], .agg [.lit (.int .i64 0), .lit (.int .i64 0), .lit (.bool true), .lit (.int .i64 (-1))], .agg [.lit (.int .i64 0), .lit (.int .i64 2), .lit (.bool false), .lit (.int .i64 0)], .agg [.lit (.int .i64 0), .lit (.int .i64 3), .lit (.bool false), .lit (.int .i64 0)], .agg [.lit (.int .i64 0), .lit (.int .i64 2), .lit (.bool false), .lit (.int .i64 1)], .agg [.lit (.int .i64 0), .lit (.int .i64 0), .lit (.bool false), .lit (.int .i64 2)], .agg [.lit (.int .i64 0), .lit (.int .i64 0), .lit (.bool false), .lit (.int .i64 0)], .agg [.lit (.int .i64 0), .lit (.int .i64 0), .lit (.bool false), .lit (.int .i64 0)], .agg [.lit (.int .i64 0), .lit (.int .i64 0), .lit (.bool false), .lit (.int .i64 0)], .agg [.lit (.int .i64 0), .lit (.int .i64 0), .lit (.bool false), .lit (.int .i64 1)], .agg [.lit (.int .i64 0), .lit (.int .i64 0), .lit (.bool false), .lit (.int .i64 1)], .agg [.lit (.int .i64 0), .lit (.int .i64 0), .lit (.bool false), .lit (.int .i64 2)], .agg [.lit (.int .i64 0), .lit (.int .i64 0), .lit (.bool false), .lit (.int .i64 2)], .agg [.lit (.int .i64 0), .lit (.int .i64 0), .lit (.bool false), .lit (.int .i64 2)], .agg [.lit (.int .i64 0), .lit (.int .i64 0), .lit (.bool false), .lit (.int .i64 2)], .agg [.lit (.int .i64 0), .lit (.int .i64 0), .lit (.bool false), .lit (.int .i64 2)], .agg [.lit (.int .i64 0), .lit (.int .i64 0), .lit (.bool false), .lit (.int .i64 2)], .agg [.lit (.int .i64 0), .lit (.int .i64 0), .lit (.bool false), .lit (.int .i64 2)], .agg [.lit (.int .i64 0), .lit (.int .i64 0), .lit (.bool false), .lit (.int .i64 3)], .agg [.lit (.int .i64 0), .lit (.int .i64 3), .lit (.bool false), .lit (.int .i64 (-1))]]

/-- 'laws.FnExactUses': WHATEVER THE INPUT: true; the input reads as it did. -/
def fnExactUsesSpec : ChangeSpec := { name := "fnExactUses", vars := ["loop.example/g00407/impl.shapes"], fn := fun _ => fun
  | [d, g1] => { results := [.lit (.bool true)], args := [d], vars := [g1] }
  | _ => none }
def fnExactUsesRow : OpenClaim := { program := "ytcgmfmdoconecaadoor", sum := "f2253e6747f6e7995435386064f54264cc9650ca855656be035d232eacf75775", func := "loop.example/g00407/laws.FnExactUses", spec := "fnExactUses", inPlace := ["internal/bytealg.Compare"], recurses := true, named := ["loop.example/g00407/impl.shapes"], loops := true, apart := false, laid := [("loop.example/g00407/impl.shapes", laid_loop_example_g00407_impl_shapes)] }
def FnExactUsesSaid : Prop := fnExactUsesRow.holds Tryd.pinned (OpenSpec.ofChange fnExactUsesSpec)

/-- ITS FALSE NEIGHBOUR: 'it returns false'. Refute it at one input. -/
def fnExactUsesWrong : ChangeSpec := { name := "fnExactUses", vars := ["loop.example/g00407/impl.shapes"], fn := fun _ => fun
  | [d, g1] => { results := [.lit (.bool false)], args := [d], vars := [g1] }
  | _ => none }
def FnExactUsesWrongFalsely : Prop := fnExactUsesRow.holds Tryd.pinned (OpenSpec.ofChange fnExactUsesWrong)

/-- 'laws.FnExactLocals': WHATEVER THE INPUT: true; the input reads as it did. -/
def fnExactLocalsSpec : ChangeSpec := { name := "fnExactLocals", vars := ["loop.example/g00407/impl.shapes"], fn := fun _ => fun
  | [d, g1] => { results := [.lit (.bool true)], args := [d], vars := [g1] }
  | _ => none }
def fnExactLocalsRow : OpenClaim := { program := "ytcgmfmdoconecaadoor", sum := "f2253e6747f6e7995435386064f54264cc9650ca855656be035d232eacf75775", func := "loop.example/g00407/laws.FnExactLocals", spec := "fnExactLocals", inPlace := ["internal/bytealg.Compare"], recurses := true, named := ["loop.example/g00407/impl.shapes"], loops := true, apart := false, laid := [("loop.example/g00407/impl.shapes", laid_loop_example_g00407_impl_shapes)] }
def FnExactLocalsSaid : Prop := fnExactLocalsRow.holds Tryd.pinned (OpenSpec.ofChange fnExactLocalsSpec)

/-- ITS FALSE NEIGHBOUR: 'it returns false'. Refute it at one input. -/
def fnExactLocalsWrong : ChangeSpec := { name := "fnExactLocals", vars := ["loop.example/g00407/impl.shapes"], fn := fun _ => fun
  | [d, g1] => { results := [.lit (.bool false)], args := [d], vars := [g1] }
  | _ => none }
def FnExactLocalsWrongFalsely : Prop := fnExactLocalsRow.holds Tryd.pinned (OpenSpec.ofChange fnExactLocalsWrong)

/- THE SECOND FORM. 'bulk': how many values and letters a reading holds, each counted each time it is reached (what is shared counts as often as it is met; a slice's spare places count too). A statement '..UptoSaid' is the law's where the arguments, and the package variables that the reading takes, are together of bulk at most 1048576: NARROWER than '..Said'. Prove '..Said' where nothing that the law and all that it calls make is longer than what came in: it says more and counts as full. Else prove '..UptoSaid'. A law counts once. -/
mutual
def uptoBulk {H : Type} : DataW H → Nat
  | .lit (.string bytes) => bytes.length + 1
  | .lit _ => 1
  | .nil => 1
  | .ptr d => uptoBulk d + 1
  | .slice elems spare => uptoBulkAll elems + uptoBulkAll spare + 1
  | .agg parts => uptoBulkAll parts + 1
  | .iface _ d => uptoBulk d + 1
  | .map entries => uptoBulkEntries entries + 1
  | .held _ => 1
def uptoBulkAll {H : Type} : List (DataW H) → Nat
  | [] => 0
  | d :: r => uptoBulk d + uptoBulkAll r
def uptoBulkEntries {H : Type} : List (Lit × DataW H) → Nat
  | [] => 0
  | x :: r => uptoBulkEntry x + uptoBulkEntries r
def uptoBulkEntry {H : Type} : Lit × DataW H → Nat
  | (.string bytes, d) => bytes.length + uptoBulk d + 1
  | (_, d) => uptoBulk d + 1
 end
def uptoSmall : (H : Type) → List (DataW H) → Bool := fun _ ds => decide (uptoBulkAll ds ≤ 1048576)
def OpenSpec.upto (s : _root_.Go.ChangeSpec) : _root_.Go.OpenSpec := { _root_.Go.OpenSpec.ofChange s with cond := some uptoSmall }

/-- 'laws.FnExactUses', WHERE WHAT IT READS IS OF BULK AT MOST 1048576: true; the input reads as it did. -/
def fnExactUsesUptoRow : OpenClaim := { program := "ytcgmfmdoconecaadoor", sum := "f2253e6747f6e7995435386064f54264cc9650ca855656be035d232eacf75775", func := "loop.example/g00407/laws.FnExactUses", spec := "fnExactUses", inPlace := ["internal/bytealg.Compare"], recurses := true, named := ["loop.example/g00407/impl.shapes"], loops := true, apart := false, laid := [("loop.example/g00407/impl.shapes", laid_loop_example_g00407_impl_shapes)], narrowed := true }
def FnExactUsesUptoSaid : Prop := fnExactUsesUptoRow.holds Tryd.pinned (OpenSpec.upto fnExactUsesSpec)

/-- 'laws.FnExactLocals', WHERE WHAT IT READS IS OF BULK AT MOST 1048576: true; the input reads as it did. -/
def fnExactLocalsUptoRow : OpenClaim := { program := "ytcgmfmdoconecaadoor", sum := "f2253e6747f6e7995435386064f54264cc9650ca855656be035d232eacf75775", func := "loop.example/g00407/laws.FnExactLocals", spec := "fnExactLocals", inPlace := ["internal/bytealg.Compare"], recurses := true, named := ["loop.example/g00407/impl.shapes"], loops := true, apart := false, laid := [("loop.example/g00407/impl.shapes", laid_loop_example_g00407_impl_shapes)], narrowed := true }
def FnExactLocalsUptoSaid : Prop := fnExactLocalsUptoRow.holds Tryd.pinned (OpenSpec.upto fnExactLocalsSpec)

end Rows
end Go.Proofs.YtcgmfmdoconecaaDoor
