/-
  NARROWER THAN 'FOR EVERY INPUT', by the rows' own cells (each row's printed sentence says how): FnExactValGet: loops · FnExactValDrop: loops · FnExactValKeys: loops.
  DERIVED. THE GIVEN ROWS OF THIS SEAT. 3 by the template 'for every input the law returns true; each argument reads behind the call as it read before'; 0 by the template 'total and deterministic' (their statements: YtbeekbkambkgoaaTotals.lean).
  GIVEN WITH THE SEED: the statements are not yours to turn. If you find one false, say at which input.
  Laid BY PROGRAM, IN A SANDBOX (cutbox-rows.mjs): the forced cells as the released guide's own fill.sh prints them over the translation fa4697bb0c0496ec… (all of the seat's roots in one cut). By AI agents, Wed Nov 11 2026. No macro, syntax, notation, axiom, sorry.
-/
import Derived.Test.YtbeekbkambkgoaaChecked
import GoSem.Claim
import GoSem.ClaimJoined
import GoSem.ClaimMapViews
import Derived.JoinedTies
import Derived.KernelRfl
namespace Go.Proofs.Ytbeekbkambkgoaa
/- THE CELL 'sum', in the pinned program and in every row, IS THE sha256 OF THE DUMP (.gsa) THAT YtbeekbkambkgoaaProg.lean LOADS. Nothing in Lean hashes anything: it is a label: what it is worth is what the hold of that sum in a sandbox is worth. -/
noncomputable def Try.pinned : Pinned := { name := "ytbeekbkambkgoaa", sum := "fa4697bb0c0496ec3a6f66094160c1bd158fa08613beaf95c1876b595314cd5a", checked := Try.checked }
namespace Rows
def none {H : Type} : Left H := { results := [], args := [] }

/-- 'laws.FnExactValGet': WHATEVER THE INPUT: true; the input reads as it did. -/
def fnExactValGetSpec : ChangeSpec := { name := "fnExactValGet", fn := fun _ => fun
  | [d1, d2] => { results := [.lit (.bool true)], args := [d1, d2] }
  | _ => none }
def fnExactValGetRow : OpenClaim := { program := "ytbeekbkambkgoaa", sum := "fa4697bb0c0496ec3a6f66094160c1bd158fa08613beaf95c1876b595314cd5a", func := "loop.example/g00407/laws.FnExactValGet", spec := "fnExactValGet", inPlace := ["internal/bytealg.Compare", "internal/reflectlite.ValueOf", "internal/reflectlite.Swapper", "(internal/reflectlite.Value).Len"], unfollowed := true, recurses := true, loops := true, apart := false }
def FnExactValGetSaid : Prop := fnExactValGetRow.holds Try.pinned (OpenSpec.ofChange fnExactValGetSpec)

/-- ITS FALSE NEIGHBOUR: 'it returns false'. Refute it at one input. -/
def fnExactValGetWrong : ChangeSpec := { name := "fnExactValGet", fn := fun _ => fun
  | [d1, d2] => { results := [.lit (.bool false)], args := [d1, d2] }
  | _ => none }
def FnExactValGetWrongFalsely : Prop := fnExactValGetRow.holds Try.pinned (OpenSpec.ofChange fnExactValGetWrong)

/-- 'laws.FnExactValDrop': WHATEVER THE INPUT: true; the input reads as it did. -/
def fnExactValDropSpec : ChangeSpec := { name := "fnExactValDrop", fn := fun _ => fun
  | [d1, d2] => { results := [.lit (.bool true)], args := [d1, d2] }
  | _ => none }
def fnExactValDropRow : OpenClaim := { program := "ytbeekbkambkgoaa", sum := "fa4697bb0c0496ec3a6f66094160c1bd158fa08613beaf95c1876b595314cd5a", func := "loop.example/g00407/laws.FnExactValDrop", spec := "fnExactValDrop", inPlace := ["internal/bytealg.Compare", "internal/reflectlite.ValueOf", "internal/reflectlite.Swapper", "(internal/reflectlite.Value).Len"], unfollowed := true, recurses := true, loops := true, apart := false }
def FnExactValDropSaid : Prop := fnExactValDropRow.holds Try.pinned (OpenSpec.ofChange fnExactValDropSpec)

/-- ITS FALSE NEIGHBOUR: 'it returns false'. Refute it at one input. -/
def fnExactValDropWrong : ChangeSpec := { name := "fnExactValDrop", fn := fun _ => fun
  | [d1, d2] => { results := [.lit (.bool false)], args := [d1, d2] }
  | _ => none }
def FnExactValDropWrongFalsely : Prop := fnExactValDropRow.holds Try.pinned (OpenSpec.ofChange fnExactValDropWrong)

/-- 'laws.FnExactValKeys': WHATEVER THE INPUT: true; the input reads as it did. -/
def fnExactValKeysSpec : ChangeSpec := { name := "fnExactValKeys", fn := fun _ => fun
  | [d] => { results := [.lit (.bool true)], args := [d] }
  | _ => none }
def fnExactValKeysRow : OpenClaim := { program := "ytbeekbkambkgoaa", sum := "fa4697bb0c0496ec3a6f66094160c1bd158fa08613beaf95c1876b595314cd5a", func := "loop.example/g00407/laws.FnExactValKeys", spec := "fnExactValKeys", inPlace := ["internal/bytealg.Compare", "internal/reflectlite.ValueOf", "internal/reflectlite.Swapper", "(internal/reflectlite.Value).Len"], unfollowed := true, recurses := true, loops := true, apart := false }
def FnExactValKeysSaid : Prop := fnExactValKeysRow.holds Try.pinned (OpenSpec.ofChange fnExactValKeysSpec)

/-- ITS FALSE NEIGHBOUR: 'it returns false'. Refute it at one input. -/
def fnExactValKeysWrong : ChangeSpec := { name := "fnExactValKeys", fn := fun _ => fun
  | [d] => { results := [.lit (.bool false)], args := [d] }
  | _ => none }
def FnExactValKeysWrongFalsely : Prop := fnExactValKeysRow.holds Try.pinned (OpenSpec.ofChange fnExactValKeysWrong)

/- THE SECOND FORM. 'bulk': how many values and letters a reading holds, each counted each time it is reached (what is shared counts as often as it is met; a slice's spare places count too). A statement '..UptoSaid' is the law's where the arguments, and the package variables that the reading takes, are together of bulk at most 1048576: NARROWER than '..Said'. Prove '..Said' where nothing that the law and all that it calls make is longer than what came in: it says more and counts as full. Else prove '..UptoSaid'. A law counts once. -/
mutual
def uptoBulk {H : Type} : DataW H → Nat
  | .lit (.string bytes) => bytes.length + 1
  | .lit _ => 1
  | .nil => 1
  | .ptr d => uptoBulk d + 1
  | .slice elems spare => uptoBulkAll elems + uptoBulkAll spare + 1
  | .agg parts => uptoBulkAll parts + 1
  | .iface _ d => uptoBulk d + 1
  | .map entries => uptoBulkEntries entries + 1
  | .held _ => 1
def uptoBulkAll {H : Type} : List (DataW H) → Nat
  | [] => 0
  | d :: r => uptoBulk d + uptoBulkAll r
def uptoBulkEntries {H : Type} : List (Lit × DataW H) → Nat
  | [] => 0
  | x :: r => uptoBulkEntry x + uptoBulkEntries r
def uptoBulkEntry {H : Type} : Lit × DataW H → Nat
  | (.string bytes, d) => bytes.length + uptoBulk d + 1
  | (_, d) => uptoBulk d + 1
 end
def uptoSmall : (H : Type) → List (DataW H) → Bool := fun _ ds => decide (uptoBulkAll ds ≤ 1048576)
def OpenSpec.upto (s : _root_.Go.ChangeSpec) : _root_.Go.OpenSpec := { _root_.Go.OpenSpec.ofChange s with cond := some uptoSmall }

/-- 'laws.FnExactValGet', WHERE WHAT IT READS IS OF BULK AT MOST 1048576: true; the input reads as it did. -/
def fnExactValGetUptoRow : OpenClaim := { program := "ytbeekbkambkgoaa", sum := "fa4697bb0c0496ec3a6f66094160c1bd158fa08613beaf95c1876b595314cd5a", func := "loop.example/g00407/laws.FnExactValGet", spec := "fnExactValGet", inPlace := ["internal/bytealg.Compare", "internal/reflectlite.ValueOf", "internal/reflectlite.Swapper", "(internal/reflectlite.Value).Len"], unfollowed := true, recurses := true, loops := true, apart := false, narrowed := true }
def FnExactValGetUptoSaid : Prop := fnExactValGetUptoRow.holds Try.pinned (OpenSpec.upto fnExactValGetSpec)

/-- 'laws.FnExactValDrop', WHERE WHAT IT READS IS OF BULK AT MOST 1048576: true; the input reads as it did. -/
def fnExactValDropUptoRow : OpenClaim := { program := "ytbeekbkambkgoaa", sum := "fa4697bb0c0496ec3a6f66094160c1bd158fa08613beaf95c1876b595314cd5a", func := "loop.example/g00407/laws.FnExactValDrop", spec := "fnExactValDrop", inPlace := ["internal/bytealg.Compare", "internal/reflectlite.ValueOf", "internal/reflectlite.Swapper", "(internal/reflectlite.Value).Len"], unfollowed := true, recurses := true, loops := true, apart := false, narrowed := true }
def FnExactValDropUptoSaid : Prop := fnExactValDropUptoRow.holds Try.pinned (OpenSpec.upto fnExactValDropSpec)

/-- 'laws.FnExactValKeys', WHERE WHAT IT READS IS OF BULK AT MOST 1048576: true; the input reads as it did. -/
def fnExactValKeysUptoRow : OpenClaim := { program := "ytbeekbkambkgoaa", sum := "fa4697bb0c0496ec3a6f66094160c1bd158fa08613beaf95c1876b595314cd5a", func := "loop.example/g00407/laws.FnExactValKeys", spec := "fnExactValKeys", inPlace := ["internal/bytealg.Compare", "internal/reflectlite.ValueOf", "internal/reflectlite.Swapper", "(internal/reflectlite.Value).Len"], unfollowed := true, recurses := true, loops := true, apart := false, narrowed := true }
def FnExactValKeysUptoSaid : Prop := fnExactValKeysUptoRow.holds Try.pinned (OpenSpec.upto fnExactValKeysSpec)

end Rows
end Go.Proofs.Ytbeekbkambkgoaa
