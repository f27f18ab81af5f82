/-
  NARROWER THAN 'FOR EVERY INPUT', by the rows' own cells (each row's printed sentence says how): FnExactValSet: loops · FnExactValMerge: loops · FnExactAt: loops.
  DERIVED. THE GIVEN ROWS OF THIS SEAT. 3 by the template 'for every input the law returns true; each argument reads behind the call as it read before'; 0 by the template 'total and deterministic' (their statements: YtpknhmegoldppaaTotals.lean).
  GIVEN WITH THE SEED: the statements are not yours to turn. If you find one false, say at which input.
  Laid BY PROGRAM, IN A SANDBOX (cutbox-rows.mjs): the forced cells as the released guide's own fill.sh prints them over the translation c360da5c8b452bf0… (all of the seat's roots in one cut). By AI agents, Wed Nov 11 2026. No macro, syntax, notation, axiom, sorry.
-/
import Derived.Test.YtpknhmegoldppaaChecked
import GoSem.Claim
import GoSem.ClaimJoined
import GoSem.ClaimMapViews
import Derived.JoinedTies
import Derived.KernelRfl
namespace Go.Proofs.Ytpknhmegoldppaa
/- THE CELL 'sum', in the pinned program and in every row, IS THE sha256 OF THE DUMP (.gsa) THAT YtpknhmegoldppaaProg.lean LOADS. Nothing in Lean hashes anything: it is a label: what it is worth is what the hold of that sum in a sandbox is worth. -/
noncomputable def Try.pinned : Pinned := { name := "ytpknhmegoldppaa", sum := "c360da5c8b452bf0e88a93d7f6e7df6a2b7bdc93405dd6d89f714604a8556345", checked := Try.checked }
namespace Rows
def none {H : Type} : Left H := { results := [], args := [] }

/-- 'laws.FnExactValSet': WHATEVER THE INPUT: true; the input reads as it did. -/
def fnExactValSetSpec : ChangeSpec := { name := "fnExactValSet", fn := fun _ => fun
  | [d1, d2, d3] => { results := [.lit (.bool true)], args := [d1, d2, d3] }
  | _ => none }
def fnExactValSetRow : OpenClaim := { program := "ytpknhmegoldppaa", sum := "c360da5c8b452bf0e88a93d7f6e7df6a2b7bdc93405dd6d89f714604a8556345", func := "loop.example/g00407/laws.FnExactValSet", spec := "fnExactValSet", inPlace := ["internal/bytealg.Compare", "internal/reflectlite.ValueOf", "internal/reflectlite.Swapper", "(internal/reflectlite.Value).Len"], unfollowed := true, recurses := true, loops := true, apart := false }
def FnExactValSetSaid : Prop := fnExactValSetRow.holds Try.pinned (OpenSpec.ofChange fnExactValSetSpec)

/-- ITS FALSE NEIGHBOUR: 'it returns false'. Refute it at one input. -/
def fnExactValSetWrong : ChangeSpec := { name := "fnExactValSet", fn := fun _ => fun
  | [d1, d2, d3] => { results := [.lit (.bool false)], args := [d1, d2, d3] }
  | _ => none }
def FnExactValSetWrongFalsely : Prop := fnExactValSetRow.holds Try.pinned (OpenSpec.ofChange fnExactValSetWrong)

/-- 'laws.FnExactValMerge': WHATEVER THE INPUT: true; the input reads as it did. -/
def fnExactValMergeSpec : ChangeSpec := { name := "fnExactValMerge", fn := fun _ => fun
  | [d1, d2] => { results := [.lit (.bool true)], args := [d1, d2] }
  | _ => none }
def fnExactValMergeRow : OpenClaim := { program := "ytpknhmegoldppaa", sum := "c360da5c8b452bf0e88a93d7f6e7df6a2b7bdc93405dd6d89f714604a8556345", func := "loop.example/g00407/laws.FnExactValMerge", spec := "fnExactValMerge", inPlace := ["internal/bytealg.Compare", "internal/reflectlite.ValueOf", "internal/reflectlite.Swapper", "(internal/reflectlite.Value).Len"], unfollowed := true, recurses := true, loops := true, apart := false }
def FnExactValMergeSaid : Prop := fnExactValMergeRow.holds Try.pinned (OpenSpec.ofChange fnExactValMergeSpec)

/-- ITS FALSE NEIGHBOUR: 'it returns false'. Refute it at one input. -/
def fnExactValMergeWrong : ChangeSpec := { name := "fnExactValMerge", fn := fun _ => fun
  | [d1, d2] => { results := [.lit (.bool false)], args := [d1, d2] }
  | _ => none }
def FnExactValMergeWrongFalsely : Prop := fnExactValMergeRow.holds Try.pinned (OpenSpec.ofChange fnExactValMergeWrong)

/-- 'laws.FnExactAt': WHATEVER THE INPUT: true; the input reads as it did. -/
def fnExactAtSpec : ChangeSpec := { name := "fnExactAt", fn := fun _ => fun
  | [d1, d2] => { results := [.lit (.bool true)], args := [d1, d2] }
  | _ => none }
def fnExactAtRow : OpenClaim := { program := "ytpknhmegoldppaa", sum := "c360da5c8b452bf0e88a93d7f6e7df6a2b7bdc93405dd6d89f714604a8556345", func := "loop.example/g00407/laws.FnExactAt", spec := "fnExactAt", inPlace := ["internal/bytealg.Compare", "internal/reflectlite.ValueOf", "internal/reflectlite.Swapper", "(internal/reflectlite.Value).Len"], unfollowed := true, recurses := true, loops := true, apart := false }
def FnExactAtSaid : Prop := fnExactAtRow.holds Try.pinned (OpenSpec.ofChange fnExactAtSpec)

/-- ITS FALSE NEIGHBOUR: 'it returns false'. Refute it at one input. -/
def fnExactAtWrong : ChangeSpec := { name := "fnExactAt", fn := fun _ => fun
  | [d1, d2] => { results := [.lit (.bool false)], args := [d1, d2] }
  | _ => none }
def FnExactAtWrongFalsely : Prop := fnExactAtRow.holds Try.pinned (OpenSpec.ofChange fnExactAtWrong)

/- THE SECOND FORM. 'bulk': how many values and letters a reading holds, each counted each time it is reached (what is shared counts as often as it is met; a slice's spare places count too). A statement '..UptoSaid' is the law's where the arguments, and the package variables that the reading takes, are together of bulk at most 1048576: NARROWER than '..Said'. Prove '..Said' where nothing that the law and all that it calls make is longer than what came in: it says more and counts as full. Else prove '..UptoSaid'. A law counts once. -/
mutual
def uptoBulk {H : Type} : DataW H → Nat
  | .lit (.string bytes) => bytes.length + 1
  | .lit _ => 1
  | .nil => 1
  | .ptr d => uptoBulk d + 1
  | .slice elems spare => uptoBulkAll elems + uptoBulkAll spare + 1
  | .agg parts => uptoBulkAll parts + 1
  | .iface _ d => uptoBulk d + 1
  | .map entries => uptoBulkEntries entries + 1
  | .held _ => 1
def uptoBulkAll {H : Type} : List (DataW H) → Nat
  | [] => 0
  | d :: r => uptoBulk d + uptoBulkAll r
def uptoBulkEntries {H : Type} : List (Lit × DataW H) → Nat
  | [] => 0
  | x :: r => uptoBulkEntry x + uptoBulkEntries r
def uptoBulkEntry {H : Type} : Lit × DataW H → Nat
  | (.string bytes, d) => bytes.length + uptoBulk d + 1
  | (_, d) => uptoBulk d + 1
 end
def uptoSmall : (H : Type) → List (DataW H) → Bool := fun _ ds => decide (uptoBulkAll ds ≤ 1048576)
def OpenSpec.upto (s : _root_.Go.ChangeSpec) : _root_.Go.OpenSpec := { _root_.Go.OpenSpec.ofChange s with cond := some uptoSmall }

/-- 'laws.FnExactValSet', WHERE WHAT IT READS IS OF BULK AT MOST 1048576: true; the input reads as it did. -/
def fnExactValSetUptoRow : OpenClaim := { program := "ytpknhmegoldppaa", sum := "c360da5c8b452bf0e88a93d7f6e7df6a2b7bdc93405dd6d89f714604a8556345", func := "loop.example/g00407/laws.FnExactValSet", spec := "fnExactValSet", inPlace := ["internal/bytealg.Compare", "internal/reflectlite.ValueOf", "internal/reflectlite.Swapper", "(internal/reflectlite.Value).Len"], unfollowed := true, recurses := true, loops := true, apart := false, narrowed := true }
def FnExactValSetUptoSaid : Prop := fnExactValSetUptoRow.holds Try.pinned (OpenSpec.upto fnExactValSetSpec)

/-- 'laws.FnExactValMerge', WHERE WHAT IT READS IS OF BULK AT MOST 1048576: true; the input reads as it did. -/
def fnExactValMergeUptoRow : OpenClaim := { program := "ytpknhmegoldppaa", sum := "c360da5c8b452bf0e88a93d7f6e7df6a2b7bdc93405dd6d89f714604a8556345", func := "loop.example/g00407/laws.FnExactValMerge", spec := "fnExactValMerge", inPlace := ["internal/bytealg.Compare", "internal/reflectlite.ValueOf", "internal/reflectlite.Swapper", "(internal/reflectlite.Value).Len"], unfollowed := true, recurses := true, loops := true, apart := false, narrowed := true }
def FnExactValMergeUptoSaid : Prop := fnExactValMergeUptoRow.holds Try.pinned (OpenSpec.upto fnExactValMergeSpec)

/-- 'laws.FnExactAt', WHERE WHAT IT READS IS OF BULK AT MOST 1048576: true; the input reads as it did. -/
def fnExactAtUptoRow : OpenClaim := { program := "ytpknhmegoldppaa", sum := "c360da5c8b452bf0e88a93d7f6e7df6a2b7bdc93405dd6d89f714604a8556345", func := "loop.example/g00407/laws.FnExactAt", spec := "fnExactAt", inPlace := ["internal/bytealg.Compare", "internal/reflectlite.ValueOf", "internal/reflectlite.Swapper", "(internal/reflectlite.Value).Len"], unfollowed := true, recurses := true, loops := true, apart := false, narrowed := true }
def FnExactAtUptoSaid : Prop := fnExactAtUptoRow.holds Try.pinned (OpenSpec.upto fnExactAtSpec)

end Rows
end Go.Proofs.Ytpknhmegoldppaa
