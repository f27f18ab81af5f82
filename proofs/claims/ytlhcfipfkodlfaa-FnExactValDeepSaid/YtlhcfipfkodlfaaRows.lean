/-
  NARROWER THAN 'FOR EVERY INPUT', by the rows' own cells (each row's printed sentence says how): FnExactValParts: loops · FnExactValDeep: loops · FnExactValKnown: loops.
  DERIVED. THE GIVEN ROWS OF THIS SEAT. 3 by the template 'for every input the law returns true; each argument reads behind the call as it read before'; 0 by the template 'total and deterministic' (their statements: YtlhcfipfkodlfaaTotals.lean).
  GIVEN WITH THE SEED: the statements are not yours to turn. If you find one false, say at which input.
  Laid BY PROGRAM, IN A SANDBOX (cutbox-rows.mjs): the forced cells as the released guide's own fill.sh prints them over the translation 27c0ea974372912e… (all of the seat's roots in one cut). By AI agents, Wed Nov 11 2026. No macro, syntax, notation, axiom, sorry.
-/
import Derived.Test.YtlhcfipfkodlfaaChecked
import GoSem.Claim
import GoSem.ClaimJoined
import GoSem.ClaimMapViews
import Derived.JoinedTies
import Derived.KernelRfl
namespace Go.Proofs.Ytlhcfipfkodlfaa
/- THE CELL 'sum', in the pinned program and in every row, IS THE sha256 OF THE DUMP (.gsa) THAT YtlhcfipfkodlfaaProg.lean LOADS. Nothing in Lean hashes anything: it is a label: what it is worth is what the hold of that sum in a sandbox is worth. -/
noncomputable def Try.pinned : Pinned := { name := "ytlhcfipfkodlfaa", sum := "27c0ea974372912e9cf6073f5b93edfe0bbc5354dba0564dacaa431c0ec39c6a", checked := Try.checked }
namespace Rows
def none {H : Type} : Left H := { results := [], args := [] }

/-- 'laws.FnExactValParts': WHATEVER THE INPUT: true; the input reads as it did. -/
def fnExactValPartsSpec : ChangeSpec := { name := "fnExactValParts", fn := fun _ => fun
  | [d] => { results := [.lit (.bool true)], args := [d] }
  | _ => none }
def fnExactValPartsRow : OpenClaim := { program := "ytlhcfipfkodlfaa", sum := "27c0ea974372912e9cf6073f5b93edfe0bbc5354dba0564dacaa431c0ec39c6a", func := "loop.example/g00407/laws.FnExactValParts", spec := "fnExactValParts", inPlace := ["internal/bytealg.Compare", "internal/reflectlite.ValueOf", "internal/reflectlite.Swapper", "(internal/reflectlite.Value).Len"], unfollowed := true, recurses := true, loops := true, apart := false }
def FnExactValPartsSaid : Prop := fnExactValPartsRow.holds Try.pinned (OpenSpec.ofChange fnExactValPartsSpec)

/-- ITS FALSE NEIGHBOUR: 'it returns false'. Refute it at one input. -/
def fnExactValPartsWrong : ChangeSpec := { name := "fnExactValParts", fn := fun _ => fun
  | [d] => { results := [.lit (.bool false)], args := [d] }
  | _ => none }
def FnExactValPartsWrongFalsely : Prop := fnExactValPartsRow.holds Try.pinned (OpenSpec.ofChange fnExactValPartsWrong)

/-- 'laws.FnExactValDeep': WHATEVER THE INPUT: true; the input reads as it did. -/
def fnExactValDeepSpec : ChangeSpec := { name := "fnExactValDeep", fn := fun _ => fun
  | [d] => { results := [.lit (.bool true)], args := [d] }
  | _ => none }
def fnExactValDeepRow : OpenClaim := { program := "ytlhcfipfkodlfaa", sum := "27c0ea974372912e9cf6073f5b93edfe0bbc5354dba0564dacaa431c0ec39c6a", func := "loop.example/g00407/laws.FnExactValDeep", spec := "fnExactValDeep", inPlace := ["internal/bytealg.Compare", "internal/reflectlite.ValueOf", "internal/reflectlite.Swapper", "(internal/reflectlite.Value).Len"], unfollowed := true, recurses := true, loops := true, apart := false }
def FnExactValDeepSaid : Prop := fnExactValDeepRow.holds Try.pinned (OpenSpec.ofChange fnExactValDeepSpec)

/-- ITS FALSE NEIGHBOUR: 'it returns false'. Refute it at one input. -/
def fnExactValDeepWrong : ChangeSpec := { name := "fnExactValDeep", fn := fun _ => fun
  | [d] => { results := [.lit (.bool false)], args := [d] }
  | _ => none }
def FnExactValDeepWrongFalsely : Prop := fnExactValDeepRow.holds Try.pinned (OpenSpec.ofChange fnExactValDeepWrong)

/-- 'laws.FnExactValKnown': WHATEVER THE INPUT: true; the input reads as it did. -/
def fnExactValKnownSpec : ChangeSpec := { name := "fnExactValKnown", fn := fun _ => fun
  | [d] => { results := [.lit (.bool true)], args := [d] }
  | _ => none }
def fnExactValKnownRow : OpenClaim := { program := "ytlhcfipfkodlfaa", sum := "27c0ea974372912e9cf6073f5b93edfe0bbc5354dba0564dacaa431c0ec39c6a", func := "loop.example/g00407/laws.FnExactValKnown", spec := "fnExactValKnown", inPlace := ["internal/bytealg.Compare", "internal/reflectlite.ValueOf", "internal/reflectlite.Swapper", "(internal/reflectlite.Value).Len"], unfollowed := true, recurses := true, loops := true, apart := false }
def FnExactValKnownSaid : Prop := fnExactValKnownRow.holds Try.pinned (OpenSpec.ofChange fnExactValKnownSpec)

/-- ITS FALSE NEIGHBOUR: 'it returns false'. Refute it at one input. -/
def fnExactValKnownWrong : ChangeSpec := { name := "fnExactValKnown", fn := fun _ => fun
  | [d] => { results := [.lit (.bool false)], args := [d] }
  | _ => none }
def FnExactValKnownWrongFalsely : Prop := fnExactValKnownRow.holds Try.pinned (OpenSpec.ofChange fnExactValKnownWrong)

/- THE SECOND FORM. 'bulk': how many values and letters a reading holds, each counted each time it is reached (what is shared counts as often as it is met; a slice's spare places count too). A statement '..UptoSaid' is the law's where the arguments, and the package variables that the reading takes, are together of bulk at most 1048576: NARROWER than '..Said'. Prove '..Said' where nothing that the law and all that it calls make is longer than what came in: it says more and counts as full. Else prove '..UptoSaid'. A law counts once. -/
mutual
def uptoBulk {H : Type} : DataW H → Nat
  | .lit (.string bytes) => bytes.length + 1
  | .lit _ => 1
  | .nil => 1
  | .ptr d => uptoBulk d + 1
  | .slice elems spare => uptoBulkAll elems + uptoBulkAll spare + 1
  | .agg parts => uptoBulkAll parts + 1
  | .iface _ d => uptoBulk d + 1
  | .map entries => uptoBulkEntries entries + 1
  | .held _ => 1
def uptoBulkAll {H : Type} : List (DataW H) → Nat
  | [] => 0
  | d :: r => uptoBulk d + uptoBulkAll r
def uptoBulkEntries {H : Type} : List (Lit × DataW H) → Nat
  | [] => 0
  | x :: r => uptoBulkEntry x + uptoBulkEntries r
def uptoBulkEntry {H : Type} : Lit × DataW H → Nat
  | (.string bytes, d) => bytes.length + uptoBulk d + 1
  | (_, d) => uptoBulk d + 1
 end
def uptoSmall : (H : Type) → List (DataW H) → Bool := fun _ ds => decide (uptoBulkAll ds ≤ 1048576)
def OpenSpec.upto (s : _root_.Go.ChangeSpec) : _root_.Go.OpenSpec := { _root_.Go.OpenSpec.ofChange s with cond := some uptoSmall }

/-- 'laws.FnExactValParts', WHERE WHAT IT READS IS OF BULK AT MOST 1048576: true; the input reads as it did. -/
def fnExactValPartsUptoRow : OpenClaim := { program := "ytlhcfipfkodlfaa", sum := "27c0ea974372912e9cf6073f5b93edfe0bbc5354dba0564dacaa431c0ec39c6a", func := "loop.example/g00407/laws.FnExactValParts", spec := "fnExactValParts", inPlace := ["internal/bytealg.Compare", "internal/reflectlite.ValueOf", "internal/reflectlite.Swapper", "(internal/reflectlite.Value).Len"], unfollowed := true, recurses := true, loops := true, apart := false, narrowed := true }
def FnExactValPartsUptoSaid : Prop := fnExactValPartsUptoRow.holds Try.pinned (OpenSpec.upto fnExactValPartsSpec)

/-- 'laws.FnExactValDeep', WHERE WHAT IT READS IS OF BULK AT MOST 1048576: true; the input reads as it did. -/
def fnExactValDeepUptoRow : OpenClaim := { program := "ytlhcfipfkodlfaa", sum := "27c0ea974372912e9cf6073f5b93edfe0bbc5354dba0564dacaa431c0ec39c6a", func := "loop.example/g00407/laws.FnExactValDeep", spec := "fnExactValDeep", inPlace := ["internal/bytealg.Compare", "internal/reflectlite.ValueOf", "internal/reflectlite.Swapper", "(internal/reflectlite.Value).Len"], unfollowed := true, recurses := true, loops := true, apart := false, narrowed := true }
def FnExactValDeepUptoSaid : Prop := fnExactValDeepUptoRow.holds Try.pinned (OpenSpec.upto fnExactValDeepSpec)

/-- 'laws.FnExactValKnown', WHERE WHAT IT READS IS OF BULK AT MOST 1048576: true; the input reads as it did. -/
def fnExactValKnownUptoRow : OpenClaim := { program := "ytlhcfipfkodlfaa", sum := "27c0ea974372912e9cf6073f5b93edfe0bbc5354dba0564dacaa431c0ec39c6a", func := "loop.example/g00407/laws.FnExactValKnown", spec := "fnExactValKnown", inPlace := ["internal/bytealg.Compare", "internal/reflectlite.ValueOf", "internal/reflectlite.Swapper", "(internal/reflectlite.Value).Len"], unfollowed := true, recurses := true, loops := true, apart := false, narrowed := true }
def FnExactValKnownUptoSaid : Prop := fnExactValKnownUptoRow.holds Try.pinned (OpenSpec.upto fnExactValKnownSpec)

end Rows
end Go.Proofs.Ytlhcfipfkodlfaa
