/-
  NARROWER THAN 'FOR EVERY INPUT', by the rows' own cells (each row's printed sentence says how): FnExactValOk: loops · FnExactValCmp: loops · FnExactValParts: loops · FnExactValDeep: loops · FnExactValKnown: loops · FnExactValGet: loops · FnExactValSet: loops · FnExactValDrop: loops · FnExactValBytes: loops · FnExactValMerge: loops · FnExactValKeys: loops.
  DERIVED. THE GIVEN ROWS OF THIS SEAT. 16 by the template 'for every input the law returns true; each argument reads behind the call as it read before'; 0 by the template 'total and deterministic' (their statements: YtnfbpdncamhccaaTotals.lean).
  GIVEN WITH THE SEED: the statements are not yours to turn. If you find one false, say at which input.
  Laid BY PROGRAM, IN A SANDBOX (cutbox-rows.mjs): the forced cells as the released guide's own fill.sh prints them over the translation a21871c5d6393449… (all of the seat's roots in one cut). By AI agents, Wed Nov 11 2026. No macro, syntax, notation, axiom, sorry.
-/
import Derived.Test.YtnfbpdncamhccaaChecked
import GoSem.Claim
import GoSem.ClaimJoined
import GoSem.ClaimMapViews
import Derived.JoinedTies
import Derived.KernelRfl
namespace Go.Proofs.Ytnfbpdncamhccaa
/- THE CELL 'sum', in the pinned program and in every row, IS THE sha256 OF THE DUMP (.gsa) THAT YtnfbpdncamhccaaProg.lean LOADS. Nothing in Lean hashes anything: it is a label: what it is worth is what the hold of that sum in a sandbox is worth. -/
noncomputable def Try.pinned : Pinned := { name := "ytnfbpdncamhccaa", sum := "a21871c5d63934492728932823a70dd0267a72d44772dbc706fb3f01c3cc251f", checked := Try.checked }
namespace Rows
def none {H : Type} : Left H := { results := [], args := [] }

/-- 'laws.FnOrder': WHATEVER THE INPUT: true; the input reads as it did. -/
def fnOrderSpec : ChangeSpec := { name := "fnOrder", fn := fun _ => fun
  | [d] => { results := [.lit (.bool true)], args := [d] }
  | _ => none }
def fnOrderRow : OpenClaim := { program := "ytnfbpdncamhccaa", sum := "a21871c5d63934492728932823a70dd0267a72d44772dbc706fb3f01c3cc251f", func := "loop.example/g00407/laws.FnOrder", spec := "fnOrder", inPlace := ["internal/bytealg.Compare", "internal/bytealg.abigen_runtime_cmpstring", "internal/reflectlite.ValueOf", "internal/reflectlite.Swapper", "(internal/reflectlite.Value).Len"], unfollowed := true, recurses := true, apart := false }
def FnOrderSaid : Prop := fnOrderRow.holds Try.pinned (OpenSpec.ofChange fnOrderSpec)

/-- ITS FALSE NEIGHBOUR: 'it returns false'. Refute it at one input. -/
def fnOrderWrong : ChangeSpec := { name := "fnOrder", fn := fun _ => fun
  | [d] => { results := [.lit (.bool false)], args := [d] }
  | _ => none }
def FnOrderWrongFalsely : Prop := fnOrderRow.holds Try.pinned (OpenSpec.ofChange fnOrderWrong)

/-- 'laws.FnSets': WHATEVER THE INPUT: true; the input reads as it did. -/
def fnSetsSpec : ChangeSpec := { name := "fnSets", fn := fun _ => fun
  | [d] => { results := [.lit (.bool true)], args := [d] }
  | _ => none }
def fnSetsRow : OpenClaim := { program := "ytnfbpdncamhccaa", sum := "a21871c5d63934492728932823a70dd0267a72d44772dbc706fb3f01c3cc251f", func := "loop.example/g00407/laws.FnSets", spec := "fnSets", inPlace := ["internal/bytealg.Compare", "internal/reflectlite.ValueOf", "internal/reflectlite.Swapper", "(internal/reflectlite.Value).Len"], unfollowed := true, recurses := true, apart := false }
def FnSetsSaid : Prop := fnSetsRow.holds Try.pinned (OpenSpec.ofChange fnSetsSpec)

/-- ITS FALSE NEIGHBOUR: 'it returns false'. Refute it at one input. -/
def fnSetsWrong : ChangeSpec := { name := "fnSets", fn := fun _ => fun
  | [d] => { results := [.lit (.bool false)], args := [d] }
  | _ => none }
def FnSetsWrongFalsely : Prop := fnSetsRow.holds Try.pinned (OpenSpec.ofChange fnSetsWrong)

/-- 'laws.FnMerges': WHATEVER THE INPUT: true; the input reads as it did. -/
def fnMergesSpec : ChangeSpec := { name := "fnMerges", fn := fun _ => fun
  | [d] => { results := [.lit (.bool true)], args := [d] }
  | _ => none }
def fnMergesRow : OpenClaim := { program := "ytnfbpdncamhccaa", sum := "a21871c5d63934492728932823a70dd0267a72d44772dbc706fb3f01c3cc251f", func := "loop.example/g00407/laws.FnMerges", spec := "fnMerges", inPlace := ["internal/bytealg.Compare", "internal/reflectlite.ValueOf", "internal/reflectlite.Swapper", "(internal/reflectlite.Value).Len"], unfollowed := true, recurses := true, apart := false }
def FnMergesSaid : Prop := fnMergesRow.holds Try.pinned (OpenSpec.ofChange fnMergesSpec)

/-- ITS FALSE NEIGHBOUR: 'it returns false'. Refute it at one input. -/
def fnMergesWrong : ChangeSpec := { name := "fnMerges", fn := fun _ => fun
  | [d] => { results := [.lit (.bool false)], args := [d] }
  | _ => none }
def FnMergesWrongFalsely : Prop := fnMergesRow.holds Try.pinned (OpenSpec.ofChange fnMergesWrong)

/-- 'laws.FnExactNameOk': WHATEVER THE INPUT: true; the input reads as it did. -/
def fnExactNameOkSpec : ChangeSpec := { name := "fnExactNameOk", fn := fun _ => fun
  | [d] => { results := [.lit (.bool true)], args := [d] }
  | _ => none }
def fnExactNameOkRow : OpenClaim := { program := "ytnfbpdncamhccaa", sum := "a21871c5d63934492728932823a70dd0267a72d44772dbc706fb3f01c3cc251f", func := "loop.example/g00407/laws.FnExactNameOk", spec := "fnExactNameOk", apart := false }
def FnExactNameOkSaid : Prop := fnExactNameOkRow.holds Try.pinned (OpenSpec.ofChange fnExactNameOkSpec)

/-- ITS FALSE NEIGHBOUR: 'it returns false'. Refute it at one input. -/
def fnExactNameOkWrong : ChangeSpec := { name := "fnExactNameOk", fn := fun _ => fun
  | [d] => { results := [.lit (.bool false)], args := [d] }
  | _ => none }
def FnExactNameOkWrongFalsely : Prop := fnExactNameOkRow.holds Try.pinned (OpenSpec.ofChange fnExactNameOkWrong)

/-- 'laws.FnExactValOk': WHATEVER THE INPUT: true; the input reads as it did. -/
def fnExactValOkSpec : ChangeSpec := { name := "fnExactValOk", fn := fun _ => fun
  | [d] => { results := [.lit (.bool true)], args := [d] }
  | _ => none }
def fnExactValOkRow : OpenClaim := { program := "ytnfbpdncamhccaa", sum := "a21871c5d63934492728932823a70dd0267a72d44772dbc706fb3f01c3cc251f", func := "loop.example/g00407/laws.FnExactValOk", spec := "fnExactValOk", inPlace := ["internal/bytealg.Compare"], recurses := true, loops := true, apart := false }
def FnExactValOkSaid : Prop := fnExactValOkRow.holds Try.pinned (OpenSpec.ofChange fnExactValOkSpec)

/-- ITS FALSE NEIGHBOUR: 'it returns false'. Refute it at one input. -/
def fnExactValOkWrong : ChangeSpec := { name := "fnExactValOk", fn := fun _ => fun
  | [d] => { results := [.lit (.bool false)], args := [d] }
  | _ => none }
def FnExactValOkWrongFalsely : Prop := fnExactValOkRow.holds Try.pinned (OpenSpec.ofChange fnExactValOkWrong)

/-- 'laws.FnExactValCmp': WHATEVER THE INPUT: true; the input reads as it did. -/
def fnExactValCmpSpec : ChangeSpec := { name := "fnExactValCmp", fn := fun _ => fun
  | [d1, d2] => { results := [.lit (.bool true)], args := [d1, d2] }
  | _ => none }
def fnExactValCmpRow : OpenClaim := { program := "ytnfbpdncamhccaa", sum := "a21871c5d63934492728932823a70dd0267a72d44772dbc706fb3f01c3cc251f", func := "loop.example/g00407/laws.FnExactValCmp", spec := "fnExactValCmp", inPlace := ["internal/bytealg.Compare", "internal/bytealg.abigen_runtime_cmpstring", "internal/reflectlite.ValueOf", "internal/reflectlite.Swapper", "(internal/reflectlite.Value).Len"], unfollowed := true, recurses := true, loops := true, apart := false }
def FnExactValCmpSaid : Prop := fnExactValCmpRow.holds Try.pinned (OpenSpec.ofChange fnExactValCmpSpec)

/-- ITS FALSE NEIGHBOUR: 'it returns false'. Refute it at one input. -/
def fnExactValCmpWrong : ChangeSpec := { name := "fnExactValCmp", fn := fun _ => fun
  | [d1, d2] => { results := [.lit (.bool false)], args := [d1, d2] }
  | _ => none }
def FnExactValCmpWrongFalsely : Prop := fnExactValCmpRow.holds Try.pinned (OpenSpec.ofChange fnExactValCmpWrong)

/-- 'laws.FnExactValParts': WHATEVER THE INPUT: true; the input reads as it did. -/
def fnExactValPartsSpec : ChangeSpec := { name := "fnExactValParts", fn := fun _ => fun
  | [d] => { results := [.lit (.bool true)], args := [d] }
  | _ => none }
def fnExactValPartsRow : OpenClaim := { program := "ytnfbpdncamhccaa", sum := "a21871c5d63934492728932823a70dd0267a72d44772dbc706fb3f01c3cc251f", func := "loop.example/g00407/laws.FnExactValParts", spec := "fnExactValParts", inPlace := ["internal/bytealg.Compare", "internal/reflectlite.ValueOf", "internal/reflectlite.Swapper", "(internal/reflectlite.Value).Len"], unfollowed := true, recurses := true, loops := true, apart := false }
def FnExactValPartsSaid : Prop := fnExactValPartsRow.holds Try.pinned (OpenSpec.ofChange fnExactValPartsSpec)

/-- ITS FALSE NEIGHBOUR: 'it returns false'. Refute it at one input. -/
def fnExactValPartsWrong : ChangeSpec := { name := "fnExactValParts", fn := fun _ => fun
  | [d] => { results := [.lit (.bool false)], args := [d] }
  | _ => none }
def FnExactValPartsWrongFalsely : Prop := fnExactValPartsRow.holds Try.pinned (OpenSpec.ofChange fnExactValPartsWrong)

/-- 'laws.FnExactValDeep': WHATEVER THE INPUT: true; the input reads as it did. -/
def fnExactValDeepSpec : ChangeSpec := { name := "fnExactValDeep", fn := fun _ => fun
  | [d] => { results := [.lit (.bool true)], args := [d] }
  | _ => none }
def fnExactValDeepRow : OpenClaim := { program := "ytnfbpdncamhccaa", sum := "a21871c5d63934492728932823a70dd0267a72d44772dbc706fb3f01c3cc251f", func := "loop.example/g00407/laws.FnExactValDeep", spec := "fnExactValDeep", inPlace := ["internal/bytealg.Compare", "internal/reflectlite.ValueOf", "internal/reflectlite.Swapper", "(internal/reflectlite.Value).Len"], unfollowed := true, recurses := true, loops := true, apart := false }
def FnExactValDeepSaid : Prop := fnExactValDeepRow.holds Try.pinned (OpenSpec.ofChange fnExactValDeepSpec)

/-- ITS FALSE NEIGHBOUR: 'it returns false'. Refute it at one input. -/
def fnExactValDeepWrong : ChangeSpec := { name := "fnExactValDeep", fn := fun _ => fun
  | [d] => { results := [.lit (.bool false)], args := [d] }
  | _ => none }
def FnExactValDeepWrongFalsely : Prop := fnExactValDeepRow.holds Try.pinned (OpenSpec.ofChange fnExactValDeepWrong)

/-- 'laws.FnExactValKnown': WHATEVER THE INPUT: true; the input reads as it did. -/
def fnExactValKnownSpec : ChangeSpec := { name := "fnExactValKnown", fn := fun _ => fun
  | [d] => { results := [.lit (.bool true)], args := [d] }
  | _ => none }
def fnExactValKnownRow : OpenClaim := { program := "ytnfbpdncamhccaa", sum := "a21871c5d63934492728932823a70dd0267a72d44772dbc706fb3f01c3cc251f", func := "loop.example/g00407/laws.FnExactValKnown", spec := "fnExactValKnown", inPlace := ["internal/bytealg.Compare", "internal/reflectlite.ValueOf", "internal/reflectlite.Swapper", "(internal/reflectlite.Value).Len"], unfollowed := true, recurses := true, loops := true, apart := false }
def FnExactValKnownSaid : Prop := fnExactValKnownRow.holds Try.pinned (OpenSpec.ofChange fnExactValKnownSpec)

/-- ITS FALSE NEIGHBOUR: 'it returns false'. Refute it at one input. -/
def fnExactValKnownWrong : ChangeSpec := { name := "fnExactValKnown", fn := fun _ => fun
  | [d] => { results := [.lit (.bool false)], args := [d] }
  | _ => none }
def FnExactValKnownWrongFalsely : Prop := fnExactValKnownRow.holds Try.pinned (OpenSpec.ofChange fnExactValKnownWrong)

/-- 'laws.FnExactValGet': WHATEVER THE INPUT: true; the input reads as it did. -/
def fnExactValGetSpec : ChangeSpec := { name := "fnExactValGet", fn := fun _ => fun
  | [d1, d2] => { results := [.lit (.bool true)], args := [d1, d2] }
  | _ => none }
def fnExactValGetRow : OpenClaim := { program := "ytnfbpdncamhccaa", sum := "a21871c5d63934492728932823a70dd0267a72d44772dbc706fb3f01c3cc251f", func := "loop.example/g00407/laws.FnExactValGet", spec := "fnExactValGet", inPlace := ["internal/bytealg.Compare", "internal/reflectlite.ValueOf", "internal/reflectlite.Swapper", "(internal/reflectlite.Value).Len"], unfollowed := true, recurses := true, loops := true, apart := false }
def FnExactValGetSaid : Prop := fnExactValGetRow.holds Try.pinned (OpenSpec.ofChange fnExactValGetSpec)

/-- ITS FALSE NEIGHBOUR: 'it returns false'. Refute it at one input. -/
def fnExactValGetWrong : ChangeSpec := { name := "fnExactValGet", fn := fun _ => fun
  | [d1, d2] => { results := [.lit (.bool false)], args := [d1, d2] }
  | _ => none }
def FnExactValGetWrongFalsely : Prop := fnExactValGetRow.holds Try.pinned (OpenSpec.ofChange fnExactValGetWrong)

/-- 'laws.FnExactValSet': WHATEVER THE INPUT: true; the input reads as it did. -/
def fnExactValSetSpec : ChangeSpec := { name := "fnExactValSet", fn := fun _ => fun
  | [d1, d2, d3] => { results := [.lit (.bool true)], args := [d1, d2, d3] }
  | _ => none }
def fnExactValSetRow : OpenClaim := { program := "ytnfbpdncamhccaa", sum := "a21871c5d63934492728932823a70dd0267a72d44772dbc706fb3f01c3cc251f", func := "loop.example/g00407/laws.FnExactValSet", spec := "fnExactValSet", inPlace := ["internal/bytealg.Compare", "internal/reflectlite.ValueOf", "internal/reflectlite.Swapper", "(internal/reflectlite.Value).Len"], unfollowed := true, recurses := true, loops := true, apart := false }
def FnExactValSetSaid : Prop := fnExactValSetRow.holds Try.pinned (OpenSpec.ofChange fnExactValSetSpec)

/-- ITS FALSE NEIGHBOUR: 'it returns false'. Refute it at one input. -/
def fnExactValSetWrong : ChangeSpec := { name := "fnExactValSet", fn := fun _ => fun
  | [d1, d2, d3] => { results := [.lit (.bool false)], args := [d1, d2, d3] }
  | _ => none }
def FnExactValSetWrongFalsely : Prop := fnExactValSetRow.holds Try.pinned (OpenSpec.ofChange fnExactValSetWrong)

/-- 'laws.FnExactValDrop': WHATEVER THE INPUT: true; the input reads as it did. -/
def fnExactValDropSpec : ChangeSpec := { name := "fnExactValDrop", fn := fun _ => fun
  | [d1, d2] => { results := [.lit (.bool true)], args := [d1, d2] }
  | _ => none }
def fnExactValDropRow : OpenClaim := { program := "ytnfbpdncamhccaa", sum := "a21871c5d63934492728932823a70dd0267a72d44772dbc706fb3f01c3cc251f", func := "loop.example/g00407/laws.FnExactValDrop", spec := "fnExactValDrop", inPlace := ["internal/bytealg.Compare", "internal/reflectlite.ValueOf", "internal/reflectlite.Swapper", "(internal/reflectlite.Value).Len"], unfollowed := true, recurses := true, loops := true, apart := false }
def FnExactValDropSaid : Prop := fnExactValDropRow.holds Try.pinned (OpenSpec.ofChange fnExactValDropSpec)

/-- ITS FALSE NEIGHBOUR: 'it returns false'. Refute it at one input. -/
def fnExactValDropWrong : ChangeSpec := { name := "fnExactValDrop", fn := fun _ => fun
  | [d1, d2] => { results := [.lit (.bool false)], args := [d1, d2] }
  | _ => none }
def FnExactValDropWrongFalsely : Prop := fnExactValDropRow.holds Try.pinned (OpenSpec.ofChange fnExactValDropWrong)

/-- 'laws.FnExactValBytes': WHATEVER THE INPUT: true; the input reads as it did. -/
def fnExactValBytesSpec : ChangeSpec := { name := "fnExactValBytes", fn := fun _ => fun
  | [d] => { results := [.lit (.bool true)], args := [d] }
  | _ => none }
def fnExactValBytesRow : OpenClaim := { program := "ytnfbpdncamhccaa", sum := "a21871c5d63934492728932823a70dd0267a72d44772dbc706fb3f01c3cc251f", func := "loop.example/g00407/laws.FnExactValBytes", spec := "fnExactValBytes", inPlace := ["internal/bytealg.Compare", "internal/reflectlite.ValueOf", "internal/reflectlite.Swapper", "(internal/reflectlite.Value).Len"], unfollowed := true, recurses := true, loops := true, apart := false }
def FnExactValBytesSaid : Prop := fnExactValBytesRow.holds Try.pinned (OpenSpec.ofChange fnExactValBytesSpec)

/-- ITS FALSE NEIGHBOUR: 'it returns false'. Refute it at one input. -/
def fnExactValBytesWrong : ChangeSpec := { name := "fnExactValBytes", fn := fun _ => fun
  | [d] => { results := [.lit (.bool false)], args := [d] }
  | _ => none }
def FnExactValBytesWrongFalsely : Prop := fnExactValBytesRow.holds Try.pinned (OpenSpec.ofChange fnExactValBytesWrong)

/-- 'laws.FnExactValRead': WHATEVER THE INPUT: true; the input reads as it did. -/
def fnExactValReadSpec : ChangeSpec := { name := "fnExactValRead", fn := fun _ => fun
  | [d] => { results := [.lit (.bool true)], args := [d] }
  | _ => none }
def fnExactValReadRow : OpenClaim := { program := "ytnfbpdncamhccaa", sum := "a21871c5d63934492728932823a70dd0267a72d44772dbc706fb3f01c3cc251f", func := "loop.example/g00407/laws.FnExactValRead", spec := "fnExactValRead", inPlace := ["internal/bytealg.Compare", "internal/reflectlite.ValueOf", "internal/reflectlite.Swapper", "(internal/reflectlite.Value).Len"], unfollowed := true, recurses := true, apart := false }
def FnExactValReadSaid : Prop := fnExactValReadRow.holds Try.pinned (OpenSpec.ofChange fnExactValReadSpec)

/-- ITS FALSE NEIGHBOUR: 'it returns false'. Refute it at one input. -/
def fnExactValReadWrong : ChangeSpec := { name := "fnExactValRead", fn := fun _ => fun
  | [d] => { results := [.lit (.bool false)], args := [d] }
  | _ => none }
def FnExactValReadWrongFalsely : Prop := fnExactValReadRow.holds Try.pinned (OpenSpec.ofChange fnExactValReadWrong)

/-- 'laws.FnExactValMerge': WHATEVER THE INPUT: true; the input reads as it did. -/
def fnExactValMergeSpec : ChangeSpec := { name := "fnExactValMerge", fn := fun _ => fun
  | [d1, d2] => { results := [.lit (.bool true)], args := [d1, d2] }
  | _ => none }
def fnExactValMergeRow : OpenClaim := { program := "ytnfbpdncamhccaa", sum := "a21871c5d63934492728932823a70dd0267a72d44772dbc706fb3f01c3cc251f", func := "loop.example/g00407/laws.FnExactValMerge", spec := "fnExactValMerge", inPlace := ["internal/bytealg.Compare", "internal/reflectlite.ValueOf", "internal/reflectlite.Swapper", "(internal/reflectlite.Value).Len"], unfollowed := true, recurses := true, loops := true, apart := false }
def FnExactValMergeSaid : Prop := fnExactValMergeRow.holds Try.pinned (OpenSpec.ofChange fnExactValMergeSpec)

/-- ITS FALSE NEIGHBOUR: 'it returns false'. Refute it at one input. -/
def fnExactValMergeWrong : ChangeSpec := { name := "fnExactValMerge", fn := fun _ => fun
  | [d1, d2] => { results := [.lit (.bool false)], args := [d1, d2] }
  | _ => none }
def FnExactValMergeWrongFalsely : Prop := fnExactValMergeRow.holds Try.pinned (OpenSpec.ofChange fnExactValMergeWrong)

/-- 'laws.FnExactValKeys': WHATEVER THE INPUT: true; the input reads as it did. -/
def fnExactValKeysSpec : ChangeSpec := { name := "fnExactValKeys", fn := fun _ => fun
  | [d] => { results := [.lit (.bool true)], args := [d] }
  | _ => none }
def fnExactValKeysRow : OpenClaim := { program := "ytnfbpdncamhccaa", sum := "a21871c5d63934492728932823a70dd0267a72d44772dbc706fb3f01c3cc251f", func := "loop.example/g00407/laws.FnExactValKeys", spec := "fnExactValKeys", inPlace := ["internal/bytealg.Compare", "internal/reflectlite.ValueOf", "internal/reflectlite.Swapper", "(internal/reflectlite.Value).Len"], unfollowed := true, recurses := true, loops := true, apart := false }
def FnExactValKeysSaid : Prop := fnExactValKeysRow.holds Try.pinned (OpenSpec.ofChange fnExactValKeysSpec)

/-- ITS FALSE NEIGHBOUR: 'it returns false'. Refute it at one input. -/
def fnExactValKeysWrong : ChangeSpec := { name := "fnExactValKeys", fn := fun _ => fun
  | [d] => { results := [.lit (.bool false)], args := [d] }
  | _ => none }
def FnExactValKeysWrongFalsely : Prop := fnExactValKeysRow.holds Try.pinned (OpenSpec.ofChange fnExactValKeysWrong)

/- THE SECOND FORM. 'bulk': how many values and letters a reading holds, each counted each time it is reached (what is shared counts as often as it is met; a slice's spare places count too). A statement '..UptoSaid' is the law's where the arguments, and the package variables that the reading takes, are together of bulk at most 1048576: NARROWER than '..Said'. Prove '..Said' where nothing that the law and all that it calls make is longer than what came in: it says more and counts as full. Else prove '..UptoSaid'. A law counts once. -/
mutual
def uptoBulk {H : Type} : DataW H → Nat
  | .lit (.string bytes) => bytes.length + 1
  | .lit _ => 1
  | .nil => 1
  | .ptr d => uptoBulk d + 1
  | .slice elems spare => uptoBulkAll elems + uptoBulkAll spare + 1
  | .agg parts => uptoBulkAll parts + 1
  | .iface _ d => uptoBulk d + 1
  | .map entries => uptoBulkEntries entries + 1
  | .held _ => 1
def uptoBulkAll {H : Type} : List (DataW H) → Nat
  | [] => 0
  | d :: r => uptoBulk d + uptoBulkAll r
def uptoBulkEntries {H : Type} : List (Lit × DataW H) → Nat
  | [] => 0
  | x :: r => uptoBulkEntry x + uptoBulkEntries r
def uptoBulkEntry {H : Type} : Lit × DataW H → Nat
  | (.string bytes, d) => bytes.length + uptoBulk d + 1
  | (_, d) => uptoBulk d + 1
 end
def uptoSmall : (H : Type) → List (DataW H) → Bool := fun _ ds => decide (uptoBulkAll ds ≤ 1048576)
def OpenSpec.upto (s : _root_.Go.ChangeSpec) : _root_.Go.OpenSpec := { _root_.Go.OpenSpec.ofChange s with cond := some uptoSmall }

/-- 'laws.FnOrder', WHERE WHAT IT READS IS OF BULK AT MOST 1048576: true; the input reads as it did. -/
def fnOrderUptoRow : OpenClaim := { program := "ytnfbpdncamhccaa", sum := "a21871c5d63934492728932823a70dd0267a72d44772dbc706fb3f01c3cc251f", func := "loop.example/g00407/laws.FnOrder", spec := "fnOrder", inPlace := ["internal/bytealg.Compare", "internal/bytealg.abigen_runtime_cmpstring", "internal/reflectlite.ValueOf", "internal/reflectlite.Swapper", "(internal/reflectlite.Value).Len"], unfollowed := true, recurses := true, apart := false, narrowed := true }
def FnOrderUptoSaid : Prop := fnOrderUptoRow.holds Try.pinned (OpenSpec.upto fnOrderSpec)

/-- 'laws.FnSets', WHERE WHAT IT READS IS OF BULK AT MOST 1048576: true; the input reads as it did. -/
def fnSetsUptoRow : OpenClaim := { program := "ytnfbpdncamhccaa", sum := "a21871c5d63934492728932823a70dd0267a72d44772dbc706fb3f01c3cc251f", func := "loop.example/g00407/laws.FnSets", spec := "fnSets", inPlace := ["internal/bytealg.Compare", "internal/reflectlite.ValueOf", "internal/reflectlite.Swapper", "(internal/reflectlite.Value).Len"], unfollowed := true, recurses := true, apart := false, narrowed := true }
def FnSetsUptoSaid : Prop := fnSetsUptoRow.holds Try.pinned (OpenSpec.upto fnSetsSpec)

/-- 'laws.FnMerges', WHERE WHAT IT READS IS OF BULK AT MOST 1048576: true; the input reads as it did. -/
def fnMergesUptoRow : OpenClaim := { program := "ytnfbpdncamhccaa", sum := "a21871c5d63934492728932823a70dd0267a72d44772dbc706fb3f01c3cc251f", func := "loop.example/g00407/laws.FnMerges", spec := "fnMerges", inPlace := ["internal/bytealg.Compare", "internal/reflectlite.ValueOf", "internal/reflectlite.Swapper", "(internal/reflectlite.Value).Len"], unfollowed := true, recurses := true, apart := false, narrowed := true }
def FnMergesUptoSaid : Prop := fnMergesUptoRow.holds Try.pinned (OpenSpec.upto fnMergesSpec)

/-- 'laws.FnExactNameOk', WHERE WHAT IT READS IS OF BULK AT MOST 1048576: true; the input reads as it did. -/
def fnExactNameOkUptoRow : OpenClaim := { program := "ytnfbpdncamhccaa", sum := "a21871c5d63934492728932823a70dd0267a72d44772dbc706fb3f01c3cc251f", func := "loop.example/g00407/laws.FnExactNameOk", spec := "fnExactNameOk", apart := false, narrowed := true }
def FnExactNameOkUptoSaid : Prop := fnExactNameOkUptoRow.holds Try.pinned (OpenSpec.upto fnExactNameOkSpec)

/-- 'laws.FnExactValOk', WHERE WHAT IT READS IS OF BULK AT MOST 1048576: true; the input reads as it did. -/
def fnExactValOkUptoRow : OpenClaim := { program := "ytnfbpdncamhccaa", sum := "a21871c5d63934492728932823a70dd0267a72d44772dbc706fb3f01c3cc251f", func := "loop.example/g00407/laws.FnExactValOk", spec := "fnExactValOk", inPlace := ["internal/bytealg.Compare"], recurses := true, loops := true, apart := false, narrowed := true }
def FnExactValOkUptoSaid : Prop := fnExactValOkUptoRow.holds Try.pinned (OpenSpec.upto fnExactValOkSpec)

/-- 'laws.FnExactValCmp', WHERE WHAT IT READS IS OF BULK AT MOST 1048576: true; the input reads as it did. -/
def fnExactValCmpUptoRow : OpenClaim := { program := "ytnfbpdncamhccaa", sum := "a21871c5d63934492728932823a70dd0267a72d44772dbc706fb3f01c3cc251f", func := "loop.example/g00407/laws.FnExactValCmp", spec := "fnExactValCmp", inPlace := ["internal/bytealg.Compare", "internal/bytealg.abigen_runtime_cmpstring", "internal/reflectlite.ValueOf", "internal/reflectlite.Swapper", "(internal/reflectlite.Value).Len"], unfollowed := true, recurses := true, loops := true, apart := false, narrowed := true }
def FnExactValCmpUptoSaid : Prop := fnExactValCmpUptoRow.holds Try.pinned (OpenSpec.upto fnExactValCmpSpec)

/-- 'laws.FnExactValParts', WHERE WHAT IT READS IS OF BULK AT MOST 1048576: true; the input reads as it did. -/
def fnExactValPartsUptoRow : OpenClaim := { program := "ytnfbpdncamhccaa", sum := "a21871c5d63934492728932823a70dd0267a72d44772dbc706fb3f01c3cc251f", func := "loop.example/g00407/laws.FnExactValParts", spec := "fnExactValParts", inPlace := ["internal/bytealg.Compare", "internal/reflectlite.ValueOf", "internal/reflectlite.Swapper", "(internal/reflectlite.Value).Len"], unfollowed := true, recurses := true, loops := true, apart := false, narrowed := true }
def FnExactValPartsUptoSaid : Prop := fnExactValPartsUptoRow.holds Try.pinned (OpenSpec.upto fnExactValPartsSpec)

/-- 'laws.FnExactValDeep', WHERE WHAT IT READS IS OF BULK AT MOST 1048576: true; the input reads as it did. -/
def fnExactValDeepUptoRow : OpenClaim := { program := "ytnfbpdncamhccaa", sum := "a21871c5d63934492728932823a70dd0267a72d44772dbc706fb3f01c3cc251f", func := "loop.example/g00407/laws.FnExactValDeep", spec := "fnExactValDeep", inPlace := ["internal/bytealg.Compare", "internal/reflectlite.ValueOf", "internal/reflectlite.Swapper", "(internal/reflectlite.Value).Len"], unfollowed := true, recurses := true, loops := true, apart := false, narrowed := true }
def FnExactValDeepUptoSaid : Prop := fnExactValDeepUptoRow.holds Try.pinned (OpenSpec.upto fnExactValDeepSpec)

/-- 'laws.FnExactValKnown', WHERE WHAT IT READS IS OF BULK AT MOST 1048576: true; the input reads as it did. -/
def fnExactValKnownUptoRow : OpenClaim := { program := "ytnfbpdncamhccaa", sum := "a21871c5d63934492728932823a70dd0267a72d44772dbc706fb3f01c3cc251f", func := "loop.example/g00407/laws.FnExactValKnown", spec := "fnExactValKnown", inPlace := ["internal/bytealg.Compare", "internal/reflectlite.ValueOf", "internal/reflectlite.Swapper", "(internal/reflectlite.Value).Len"], unfollowed := true, recurses := true, loops := true, apart := false, narrowed := true }
def FnExactValKnownUptoSaid : Prop := fnExactValKnownUptoRow.holds Try.pinned (OpenSpec.upto fnExactValKnownSpec)

/-- 'laws.FnExactValGet', WHERE WHAT IT READS IS OF BULK AT MOST 1048576: true; the input reads as it did. -/
def fnExactValGetUptoRow : OpenClaim := { program := "ytnfbpdncamhccaa", sum := "a21871c5d63934492728932823a70dd0267a72d44772dbc706fb3f01c3cc251f", func := "loop.example/g00407/laws.FnExactValGet", spec := "fnExactValGet", inPlace := ["internal/bytealg.Compare", "internal/reflectlite.ValueOf", "internal/reflectlite.Swapper", "(internal/reflectlite.Value).Len"], unfollowed := true, recurses := true, loops := true, apart := false, narrowed := true }
def FnExactValGetUptoSaid : Prop := fnExactValGetUptoRow.holds Try.pinned (OpenSpec.upto fnExactValGetSpec)

/-- 'laws.FnExactValSet', WHERE WHAT IT READS IS OF BULK AT MOST 1048576: true; the input reads as it did. -/
def fnExactValSetUptoRow : OpenClaim := { program := "ytnfbpdncamhccaa", sum := "a21871c5d63934492728932823a70dd0267a72d44772dbc706fb3f01c3cc251f", func := "loop.example/g00407/laws.FnExactValSet", spec := "fnExactValSet", inPlace := ["internal/bytealg.Compare", "internal/reflectlite.ValueOf", "internal/reflectlite.Swapper", "(internal/reflectlite.Value).Len"], unfollowed := true, recurses := true, loops := true, apart := false, narrowed := true }
def FnExactValSetUptoSaid : Prop := fnExactValSetUptoRow.holds Try.pinned (OpenSpec.upto fnExactValSetSpec)

/-- 'laws.FnExactValDrop', WHERE WHAT IT READS IS OF BULK AT MOST 1048576: true; the input reads as it did. -/
def fnExactValDropUptoRow : OpenClaim := { program := "ytnfbpdncamhccaa", sum := "a21871c5d63934492728932823a70dd0267a72d44772dbc706fb3f01c3cc251f", func := "loop.example/g00407/laws.FnExactValDrop", spec := "fnExactValDrop", inPlace := ["internal/bytealg.Compare", "internal/reflectlite.ValueOf", "internal/reflectlite.Swapper", "(internal/reflectlite.Value).Len"], unfollowed := true, recurses := true, loops := true, apart := false, narrowed := true }
def FnExactValDropUptoSaid : Prop := fnExactValDropUptoRow.holds Try.pinned (OpenSpec.upto fnExactValDropSpec)

/-- 'laws.FnExactValBytes', WHERE WHAT IT READS IS OF BULK AT MOST 1048576: true; the input reads as it did. -/
def fnExactValBytesUptoRow : OpenClaim := { program := "ytnfbpdncamhccaa", sum := "a21871c5d63934492728932823a70dd0267a72d44772dbc706fb3f01c3cc251f", func := "loop.example/g00407/laws.FnExactValBytes", spec := "fnExactValBytes", inPlace := ["internal/bytealg.Compare", "internal/reflectlite.ValueOf", "internal/reflectlite.Swapper", "(internal/reflectlite.Value).Len"], unfollowed := true, recurses := true, loops := true, apart := false, narrowed := true }
def FnExactValBytesUptoSaid : Prop := fnExactValBytesUptoRow.holds Try.pinned (OpenSpec.upto fnExactValBytesSpec)

/-- 'laws.FnExactValRead', WHERE WHAT IT READS IS OF BULK AT MOST 1048576: true; the input reads as it did. -/
def fnExactValReadUptoRow : OpenClaim := { program := "ytnfbpdncamhccaa", sum := "a21871c5d63934492728932823a70dd0267a72d44772dbc706fb3f01c3cc251f", func := "loop.example/g00407/laws.FnExactValRead", spec := "fnExactValRead", inPlace := ["internal/bytealg.Compare", "internal/reflectlite.ValueOf", "internal/reflectlite.Swapper", "(internal/reflectlite.Value).Len"], unfollowed := true, recurses := true, apart := false, narrowed := true }
def FnExactValReadUptoSaid : Prop := fnExactValReadUptoRow.holds Try.pinned (OpenSpec.upto fnExactValReadSpec)

/-- 'laws.FnExactValMerge', WHERE WHAT IT READS IS OF BULK AT MOST 1048576: true; the input reads as it did. -/
def fnExactValMergeUptoRow : OpenClaim := { program := "ytnfbpdncamhccaa", sum := "a21871c5d63934492728932823a70dd0267a72d44772dbc706fb3f01c3cc251f", func := "loop.example/g00407/laws.FnExactValMerge", spec := "fnExactValMerge", inPlace := ["internal/bytealg.Compare", "internal/reflectlite.ValueOf", "internal/reflectlite.Swapper", "(internal/reflectlite.Value).Len"], unfollowed := true, recurses := true, loops := true, apart := false, narrowed := true }
def FnExactValMergeUptoSaid : Prop := fnExactValMergeUptoRow.holds Try.pinned (OpenSpec.upto fnExactValMergeSpec)

/-- 'laws.FnExactValKeys', WHERE WHAT IT READS IS OF BULK AT MOST 1048576: true; the input reads as it did. -/
def fnExactValKeysUptoRow : OpenClaim := { program := "ytnfbpdncamhccaa", sum := "a21871c5d63934492728932823a70dd0267a72d44772dbc706fb3f01c3cc251f", func := "loop.example/g00407/laws.FnExactValKeys", spec := "fnExactValKeys", inPlace := ["internal/bytealg.Compare", "internal/reflectlite.ValueOf", "internal/reflectlite.Swapper", "(internal/reflectlite.Value).Len"], unfollowed := true, recurses := true, loops := true, apart := false, narrowed := true }
def FnExactValKeysUptoSaid : Prop := fnExactValKeysUptoRow.holds Try.pinned (OpenSpec.upto fnExactValKeysSpec)

end Rows
end Go.Proofs.Ytnfbpdncamhccaa
