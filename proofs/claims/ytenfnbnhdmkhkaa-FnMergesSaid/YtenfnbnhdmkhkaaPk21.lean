/-
  Texts that a law leans on, one behind the other; no statement is proved here.
-/
import Derived.Test.YtenfnbnhdmkhkaaPk20
import Derived.Test.YtenfnbnhdmkhkaaPk17
import Derived.Deep.RegionWith
import Derived.Maps.AppendAt
/-
  The kind of a part: a method of an interface value, by the value's own type.
-/
namespace Go.Proofs.Ytenfnbnhdmkhkaa
open Go.RowKit Go.Shelf
set_option linter.unusedVariables false
set_option linter.unusedSimpArgs false

theorem meth_nullPart (x : Value) (w : World) : (method 264 102 x "loop.example/g00407/impl.kind").run Try.prog w = .ok (121, x) w := by kernel_rfl
theorem calls_nullPart (args : Array Value) (w : World) : (callFunc 121 args).run Try.prog w = .ok (.enter 121 args) w := enters_of Try.func121 (by kernel_rfl) rfl args w
theorem meth_unknownPart (x : Value) (w : World) : (method 264 103 x "loop.example/g00407/impl.kind").run Try.prog w = .ok (122, x) w := by kernel_rfl
theorem calls_unknownPart (args : Array Value) (w : World) : (callFunc 122 args).run Try.prog w = .ok (.enter 122 args) w := enters_of Try.func122 (by kernel_rfl) rfl args w
theorem meth_boolPart (x : Value) (w : World) : (method 264 77 x "loop.example/g00407/impl.kind").run Try.prog w = .ok (117, x) w := by kernel_rfl
theorem calls_boolPart (args : Array Value) (w : World) : (callFunc 117 args).run Try.prog w = .ok (.enter 117 args) w := enters_of Try.func117 (by kernel_rfl) rfl args w
theorem meth_intPart (x : Value) (w : World) : (method 264 78 x "loop.example/g00407/impl.kind").run Try.prog w = .ok (118, x) w := by kernel_rfl
theorem calls_intPart (args : Array Value) (w : World) : (callFunc 118 args).run Try.prog w = .ok (.enter 118 args) w := enters_of Try.func118 (by kernel_rfl) rfl args w
theorem meth_textPart (x : Value) (w : World) : (method 264 80 x "loop.example/g00407/impl.kind").run Try.prog w = .ok (119, x) w := by kernel_rfl
theorem calls_textPart (args : Array Value) (w : World) : (callFunc 119 args).run Try.prog w = .ok (.enter 119 args) w := enters_of Try.func119 (by kernel_rfl) rfl args w
theorem meth_listPart (x : Value) (w : World) : (method 264 84 x "loop.example/g00407/impl.kind").run Try.prog w = .ok (120, x) w := by kernel_rfl
theorem calls_listPart (args : Array Value) (w : World) : (callFunc 120 args).run Try.prog w = .ok (.enter 120 args) w := enters_of Try.func120 (by kernel_rfl) rfl args w
theorem meth_mapPart (x : Value) (w : World) : (method 264 60 x "loop.example/g00407/impl.kind").run Try.prog w = .ok (116, x) w := by kernel_rfl
theorem calls_mapPart (args : Array Value) (w : World) : (callFunc 116 args).run Try.prog w = .ok (.enter 116 args) w := enters_of Try.func116 (by kernel_rfl) rfl args w

set_option maxHeartbeats 800000 in
theorem kind_nullPart (w : World) : Calls Try.prog 121 #[.agg #[]] w fun e w' => e = .returned (.int .i64 0) ∧ Below w.heap.size w w' := by
  have Hb : Hid (∀ o : Obj, Below w.heap.size w (w.alloc o)) := fun o => (Below.refl _ _).alloc (Nat.le_refl _) o
  go_enter Try.func121, Try.ntmps121
  go_wp2
  go_ret
  exact ⟨rfl, Hb.out _⟩
set_option maxHeartbeats 800000 in
theorem kind_unknownPart (w : World) : Calls Try.prog 122 #[.agg #[]] w fun e w' => e = .returned (.int .i64 6) ∧ Below w.heap.size w w' := by
  have Hb : Hid (∀ o : Obj, Below w.heap.size w (w.alloc o)) := fun o => (Below.refl _ _).alloc (Nat.le_refl _) o
  go_enter Try.func122, Try.ntmps122
  go_wp2
  go_ret
  exact ⟨rfl, Hb.out _⟩
set_option maxHeartbeats 800000 in
theorem kind_boolPart (n : Int) (w : World) : Calls Try.prog 117 #[.agg #[.int .i64 n]] w fun e w' => e = .returned (.int .i64 1) ∧ Below w.heap.size w w' := by
  have Hb : Hid (∀ o : Obj, Below w.heap.size w (w.alloc o)) := fun o => (Below.refl _ _).alloc (Nat.le_refl _) o
  go_enter Try.func117, Try.ntmps117
  go_wp2
  go_ret
  exact ⟨rfl, Hb.out _⟩
set_option maxHeartbeats 800000 in
theorem kind_intPart (n : Int) (w : World) : Calls Try.prog 118 #[.agg #[.int .i64 n]] w fun e w' => e = .returned (.int .i64 2) ∧ Below w.heap.size w w' := by
  have Hb : Hid (∀ o : Obj, Below w.heap.size w (w.alloc o)) := fun o => (Below.refl _ _).alloc (Nat.le_refl _) o
  go_enter Try.func118, Try.ntmps118
  go_wp2
  go_ret
  exact ⟨rfl, Hb.out _⟩
set_option maxHeartbeats 800000 in
theorem kind_textPart (s : ByteArray) (w : World) : Calls Try.prog 119 #[.agg #[.string s]] w fun e w' => e = .returned (.int .i64 3) ∧ Below w.heap.size w w' := by
  have Hb : Hid (∀ o : Obj, Below w.heap.size w (w.alloc o)) := fun o => (Below.refl _ _).alloc (Nat.le_refl _) o
  go_enter Try.func119, Try.ntmps119
  go_wp2
  go_ret
  exact ⟨rfl, Hb.out _⟩
set_option maxHeartbeats 800000 in
theorem kind_listPart (a : Option Addr) (n c : Nat) (w : World) : Calls Try.prog 120 #[.agg #[.slice a n c]] w fun e w' => e = .returned (.int .i64 4) ∧ Below w.heap.size w w' := by
  have Hb : Hid (∀ o : Obj, Below w.heap.size w (w.alloc o)) := fun o => (Below.refl _ _).alloc (Nat.le_refl _) o
  go_enter Try.func120, Try.ntmps120
  go_wp2
  go_ret
  exact ⟨rfl, Hb.out _⟩
set_option maxHeartbeats 800000 in
theorem kind_mapPart (b : Nat) (w : World) : Calls Try.prog 116 #[.agg #[.map (some b)]] w fun e w' => e = .returned (.int .i64 5) ∧ Below w.heap.size w w' := by
  have Hb : Hid (∀ o : Obj, Below w.heap.size w (w.alloc o)) := fun o => (Below.refl _ _).alloc (Nat.le_refl _) o
  go_enter Try.func116, Try.ntmps116
  go_wp2
  go_ret
  exact ⟨rfl, Hb.out _⟩

/-- What a call of kind leans on. -/
def KindOf (pt : TypeId) (px : Value) (vk : Int) : Prop := ∃ f : Nat, (∀ w, (method 264 pt px "loop.example/g00407/impl.kind").run Try.prog w = .ok (f, px) w) ∧ (∀ args w, (callFunc f args).run Try.prog w = .ok (.enter f args) w) ∧ ∀ w, Calls Try.prog f #[px] w fun e w' => e = .returned (.int .i64 vk) ∧ Below w.heap.size w w'

theorem kind_of {R : Nat → Prop} {w : World} {d : Nat} {pt : TypeId} {px : Value} {v : Vl (d + 1)} (h : PSeg R w (d + 1) (.iface pt px) v) : KindOf pt px v.1 := by
  rcases h with ⟨hk, e⟩ | ⟨hk, e⟩ | ⟨hk, e⟩ | ⟨hk, e⟩ | ⟨hk, e⟩ | ⟨hk, a, cap, e, _⟩ | ⟨hk, b, ps, e, _⟩ <;>
    simp only [Value.iface.injEq] at e <;> obtain ⟨rfl, rfl⟩ := e <;> rw [hk]
  · exact ⟨_, meth_nullPart _, calls_nullPart, kind_nullPart⟩
  · exact ⟨_, meth_unknownPart _, calls_unknownPart, kind_unknownPart⟩
  · exact ⟨_, meth_boolPart _, calls_boolPart, kind_boolPart _⟩
  · exact ⟨_, meth_intPart _, calls_intPart, kind_intPart _⟩
  · exact ⟨_, meth_textPart _, calls_textPart, kind_textPart _⟩
  · exact ⟨_, meth_listPart _, calls_listPart, kind_listPart _ _ _⟩
  · exact ⟨_, meth_mapPart _, calls_mapPart, kind_mapPart _⟩
end Go.Proofs.Ytenfnbnhdmkhkaa
/-
  strings.Compare: the order of two texts.
-/
namespace Go.Proofs.Ytenfnbnhdmkhkaa
open Go.RowKit
set_option linter.unusedVariables false
set_option linter.unusedSimpArgs false

theorem run_cmpS (xs ys : List Int) (w : World) : (Extern.BytealgCompare.compare #[.string (strOf xs), .string (strOf ys)]).run Try.prog w = .ok (.int .i64 (bytesC xs ys)) w := Lib.run_compareString (strOf xs) (strOf ys) w

set_option maxHeartbeats 800000 in
set_option maxRecDepth 100000 in
theorem bytealg_CompareString_any (xs ys : List Int) (w : World) : Calls Try.prog 59 #[.string (strOf xs), .string (strOf ys)] w fun e w' => e = .returned (.int .i64 (bytesC xs ys)) ∧ w = w' := by
  go_enter Try.func59, Try.ntmps59
  go_wp2
  rw [run_callFunc_extern Try.func67 (by kernel_rfl) (by kernel_rfl) (by kernel_rfl) (e := Extern.BytealgCompare.compare) (by kernel_rfl), run_cmpS]
  simp only [Result.andThen]
  rw [Oper.upon_value]
  go_wp2
  go_ret
  exact ⟨rfl, rfl⟩

set_option maxHeartbeats 800000 in
theorem strings_Compare_any (xs ys : List Int) (w : World) : Calls Try.prog 41 #[.string (strOf xs), .string (strOf ys)] w fun e w' => e = .returned (.int .i64 (bytesC xs ys)) ∧ w = w' := by
  have H := hide' (bytealg_CompareString_any xs ys w)
  go_enter Try.func41, Try.ntmps41
  go_wp2_with fail
  refine H.out.mono ?_
  rintro e w1 ⟨rfl, e1⟩
  obtain rfl := e1
  go_wp2
  go_ret
  exact ⟨rfl, rfl⟩
end Go.Proofs.Ytenfnbnhdmkhkaa
/-
  cmpParts of the program: parts of different kinds; what has no parts.
-/
namespace Go.Proofs.Ytenfnbnhdmkhkaa
open Go.RowKit Go.Shelf
set_option linter.unusedVariables false
set_option linter.unusedSimpArgs false

set_option maxHeartbeats 3200000 in
set_option maxRecDepth 100000 in
theorem cmp_kinds {pt qt : TypeId} {px qx : Value} {ak bk : Int} (h1 : KindOf pt px ak) (h2 : KindOf qt qx bk) (hne : ak ≠ bk) (w : World) :
    Calls Try.prog 27 #[.iface pt px, .iface qt qx] w fun e w' => e = .returned (.int .i64 (numC ak bk)) ∧ Below w.heap.size w w' := by
  obtain ⟨f, m1, hcf, k1⟩ := h1
  obtain ⟨g, m2, hcg, k2⟩ := h2
  have HK1 := hide' k1
  have HK2 := hide' k2
  have hn0 : (numC ak bk != 0) = true := by
    unfold numC
    split
    · decide
    · split
      · decide
      · omega
  have HC := hide' (cmpInt_any ak bk)
  generalize numC ak bk = nc at *
  clear k1 k2
  go_enter Try.func27, Try.ntmps27
  go_wp2_with (first
    | (go_at_fn f; refine (HK1.out _).mono ?_; rintro e w1 ⟨rfl, b1⟩)
    | (go_at_fn g; refine (HK2.out _).mono ?_; rintro e w2 ⟨rfl, b2⟩)
    | (go_at_call 40; refine (HC.out _).mono ?_; rintro e w3 ⟨rfl, e3⟩; obtain rfl := e3))
  go_ret
  exact ⟨rfl, Below.on b1 b2⟩

theorem yes_boolPart (x : Value) (w : World) : (Instr.typeAssert (.iface 77 x) 49 77 true).run Try.prog w = .ok (.tuple #[x, .bool true]) w := by kernel_rfl
theorem yes_intPart (x : Value) (w : World) : (Instr.typeAssert (.iface 78 x) 49 78 true).run Try.prog w = .ok (.tuple #[x, .bool true]) w := by kernel_rfl
theorem yes_textPart (x : Value) (w : World) : (Instr.typeAssert (.iface 80 x) 49 80 true).run Try.prog w = .ok (.tuple #[x, .bool true]) w := by kernel_rfl
theorem yes_listPart (x : Value) (w : World) : (Instr.typeAssert (.iface 84 x) 49 84 true).run Try.prog w = .ok (.tuple #[x, .bool true]) w := by kernel_rfl
theorem yes_mapPart (x : Value) (w : World) : (Instr.typeAssert (.iface 60 x) 49 60 true).run Try.prog w = .ok (.tuple #[x, .bool true]) w := by kernel_rfl
theorem must_boolPart (x : Value) (w : World) : (Instr.typeAssert (.iface 77 x) 49 77 false).run Try.prog w = .ok x w := by kernel_rfl
theorem must_intPart (x : Value) (w : World) : (Instr.typeAssert (.iface 78 x) 49 78 false).run Try.prog w = .ok x w := by kernel_rfl
theorem must_textPart (x : Value) (w : World) : (Instr.typeAssert (.iface 80 x) 49 80 false).run Try.prog w = .ok x w := by kernel_rfl
theorem must_listPart (x : Value) (w : World) : (Instr.typeAssert (.iface 84 x) 49 84 false).run Try.prog w = .ok x w := by kernel_rfl
theorem must_mapPart (x : Value) (w : World) : (Instr.typeAssert (.iface 60 x) 49 60 false).run Try.prog w = .ok x w := by kernel_rfl
theorem fld_boolPart (x : Value) (w : World) : (Instr.field 77 (.agg #[x]) 0).run Try.prog w = .ok x w := by kernel_rfl
theorem fld_intPart (x : Value) (w : World) : (Instr.field 78 (.agg #[x]) 0).run Try.prog w = .ok x w := by kernel_rfl
theorem fld_textPart (x : Value) (w : World) : (Instr.field 80 (.agg #[x]) 0).run Try.prog w = .ok x w := by kernel_rfl
theorem fld_listPart (x : Value) (w : World) : (Instr.field 84 (.agg #[x]) 0).run Try.prog w = .ok x w := by kernel_rfl
theorem no_bool_nullPart (x : Value) (w : World) : (Instr.typeAssert (.iface 102 x) 49 77 true).run Try.prog w = .ok (.tuple #[.agg #[.int .i64 0], .bool false]) w := by kernel_rfl
theorem no_bool_unknownPart (x : Value) (w : World) : (Instr.typeAssert (.iface 103 x) 49 77 true).run Try.prog w = .ok (.tuple #[.agg #[.int .i64 0], .bool false]) w := by kernel_rfl
theorem no_bool_intPart (x : Value) (w : World) : (Instr.typeAssert (.iface 78 x) 49 77 true).run Try.prog w = .ok (.tuple #[.agg #[.int .i64 0], .bool false]) w := by kernel_rfl
theorem no_bool_textPart (x : Value) (w : World) : (Instr.typeAssert (.iface 80 x) 49 77 true).run Try.prog w = .ok (.tuple #[.agg #[.int .i64 0], .bool false]) w := by kernel_rfl
theorem no_bool_listPart (x : Value) (w : World) : (Instr.typeAssert (.iface 84 x) 49 77 true).run Try.prog w = .ok (.tuple #[.agg #[.int .i64 0], .bool false]) w := by kernel_rfl
theorem no_bool_mapPart (x : Value) (w : World) : (Instr.typeAssert (.iface 60 x) 49 77 true).run Try.prog w = .ok (.tuple #[.agg #[.int .i64 0], .bool false]) w := by kernel_rfl
theorem no_int_nullPart (x : Value) (w : World) : (Instr.typeAssert (.iface 102 x) 49 78 true).run Try.prog w = .ok (.tuple #[.agg #[.int .i64 0], .bool false]) w := by kernel_rfl
theorem no_int_unknownPart (x : Value) (w : World) : (Instr.typeAssert (.iface 103 x) 49 78 true).run Try.prog w = .ok (.tuple #[.agg #[.int .i64 0], .bool false]) w := by kernel_rfl
theorem no_int_textPart (x : Value) (w : World) : (Instr.typeAssert (.iface 80 x) 49 78 true).run Try.prog w = .ok (.tuple #[.agg #[.int .i64 0], .bool false]) w := by kernel_rfl
theorem no_int_listPart (x : Value) (w : World) : (Instr.typeAssert (.iface 84 x) 49 78 true).run Try.prog w = .ok (.tuple #[.agg #[.int .i64 0], .bool false]) w := by kernel_rfl
theorem no_int_mapPart (x : Value) (w : World) : (Instr.typeAssert (.iface 60 x) 49 78 true).run Try.prog w = .ok (.tuple #[.agg #[.int .i64 0], .bool false]) w := by kernel_rfl
theorem no_text_nullPart (x : Value) (w : World) : (Instr.typeAssert (.iface 102 x) 49 80 true).run Try.prog w = .ok (.tuple #[.agg #[.string ⟨#[]⟩], .bool false]) w := by kernel_rfl
theorem no_text_unknownPart (x : Value) (w : World) : (Instr.typeAssert (.iface 103 x) 49 80 true).run Try.prog w = .ok (.tuple #[.agg #[.string ⟨#[]⟩], .bool false]) w := by kernel_rfl
theorem no_text_listPart (x : Value) (w : World) : (Instr.typeAssert (.iface 84 x) 49 80 true).run Try.prog w = .ok (.tuple #[.agg #[.string ⟨#[]⟩], .bool false]) w := by kernel_rfl
theorem no_text_mapPart (x : Value) (w : World) : (Instr.typeAssert (.iface 60 x) 49 80 true).run Try.prog w = .ok (.tuple #[.agg #[.string ⟨#[]⟩], .bool false]) w := by kernel_rfl
theorem no_list_nullPart (x : Value) (w : World) : (Instr.typeAssert (.iface 102 x) 49 84 true).run Try.prog w = .ok (.tuple #[.agg #[.slice none 0 0], .bool false]) w := by kernel_rfl
theorem no_list_unknownPart (x : Value) (w : World) : (Instr.typeAssert (.iface 103 x) 49 84 true).run Try.prog w = .ok (.tuple #[.agg #[.slice none 0 0], .bool false]) w := by kernel_rfl
theorem no_list_mapPart (x : Value) (w : World) : (Instr.typeAssert (.iface 60 x) 49 84 true).run Try.prog w = .ok (.tuple #[.agg #[.slice none 0 0], .bool false]) w := by kernel_rfl
theorem no_map_nullPart (x : Value) (w : World) : (Instr.typeAssert (.iface 102 x) 49 60 true).run Try.prog w = .ok (.tuple #[.agg #[.map none], .bool false]) w := by kernel_rfl
theorem no_map_unknownPart (x : Value) (w : World) : (Instr.typeAssert (.iface 103 x) 49 60 true).run Try.prog w = .ok (.tuple #[.agg #[.map none], .bool false]) w := by kernel_rfl

set_option maxHeartbeats 3200000 in
set_option maxRecDepth 100000 in
theorem cmp_nullPart (w : World) : Calls Try.prog 27 #[.iface 102 (.agg #[]), .iface 102 (.agg #[])] w fun e w' => e = .returned (.int .i64 0) ∧ Below w.heap.size w w' := by
  have m1 := meth_nullPart (.agg #[])
  have HK := hide' kind_nullPart
  have t1 := no_bool_nullPart (.agg #[])
  have t2 := no_int_nullPart (.agg #[])
  have t3 := no_text_nullPart (.agg #[])
  have t4 := no_list_nullPart (.agg #[])
  have t5 := no_map_nullPart (.agg #[])
  have HC := hide' (fun a => cmpInt_any a a)
  have HZ := hide' numC_eq
  go_enter Try.func27, Try.ntmps27
  go_wp2_with fail
  refine (HK.out _).mono ?_
  rintro e w1 ⟨rfl, b1⟩
  go_wp2_with fail
  refine (HK.out _).mono ?_
  rintro e w2 ⟨rfl, b2⟩
  go_wp2_with fail
  refine (HC.out _ _).mono ?_
  rw [HZ.out]
  rintro e w3 ⟨rfl, e3⟩
  obtain rfl := e3
  go_wp2
  go_ret
  exact ⟨rfl, Below.on b1 b2⟩
set_option maxHeartbeats 3200000 in
set_option maxRecDepth 100000 in
theorem cmp_unknownPart (w : World) : Calls Try.prog 27 #[.iface 103 (.agg #[]), .iface 103 (.agg #[])] w fun e w' => e = .returned (.int .i64 0) ∧ Below w.heap.size w w' := by
  have m1 := meth_unknownPart (.agg #[])
  have HK := hide' kind_unknownPart
  have t1 := no_bool_unknownPart (.agg #[])
  have t2 := no_int_unknownPart (.agg #[])
  have t3 := no_text_unknownPart (.agg #[])
  have t4 := no_list_unknownPart (.agg #[])
  have t5 := no_map_unknownPart (.agg #[])
  have HC := hide' (fun a => cmpInt_any a a)
  have HZ := hide' numC_eq
  go_enter Try.func27, Try.ntmps27
  go_wp2_with fail
  refine (HK.out _).mono ?_
  rintro e w1 ⟨rfl, b1⟩
  go_wp2_with fail
  refine (HK.out _).mono ?_
  rintro e w2 ⟨rfl, b2⟩
  go_wp2_with fail
  refine (HC.out _ _).mono ?_
  rw [HZ.out]
  rintro e w3 ⟨rfl, e3⟩
  obtain rfl := e3
  go_wp2
  go_ret
  exact ⟨rfl, Below.on b1 b2⟩

set_option maxHeartbeats 3200000 in
set_option maxRecDepth 100000 in
theorem cmp_boolPart (n m : Int) (w : World) : Calls Try.prog 27 #[.iface 77 (.agg #[.int .i64 n]), .iface 77 (.agg #[.int .i64 m])] w fun e w' => e = .returned (.int .i64 (numC n m)) ∧ Below w.heap.size w w' := by
  have m1 := meth_boolPart (.agg #[.int .i64 n])
  have m2 := meth_boolPart (.agg #[.int .i64 m])
  have HK := hide' (kind_boolPart n)
  have HK2 := hide' (kind_boolPart m)
  have ty := yes_boolPart (.agg #[.int .i64 n])
  have tm := must_boolPart (.agg #[.int .i64 m])
  have tf := fld_boolPart (.int .i64 m)
  have HC := hide' (fun a => cmpInt_any a a)
  have HZ := hide' numC_eq
  have HQ := hide' (cmpInt_any n m)
  have Hb : Hid (∀ (wx : World) (o : Obj), Below wx.heap.size wx (wx.alloc o)) := fun wx o => (Below.refl _ _).alloc (Nat.le_refl _) o
  generalize numC n m = ans at *
  go_enter Try.func27, Try.ntmps27
  go_wp2_with fail
  refine (HK.out _).mono ?_
  rintro e w1 ⟨rfl, b1⟩
  go_wp2_with fail
  refine (HK2.out _).mono ?_
  rintro e w2 ⟨rfl, b2⟩
  have B2 := hide' (Below.on b1 b2)
  clear b1 b2
  go_wp2_with fail
  refine (HC.out _ _).mono ?_
  rw [HZ.out]
  rintro e w3 ⟨rfl, e3⟩
  obtain rfl := e3
  go_wp2_with fail
  go_quiet ((go_at_call 40; exact quiet_same (HQ.out _)))
  go_wp2
  go_ret
  exact ⟨rfl, below_drewN (Below.on B2.out (Hb.out _ _)) _⟩

set_option maxHeartbeats 3200000 in
set_option maxRecDepth 100000 in
theorem cmp_intPart (n m : Int) (w : World) : Calls Try.prog 27 #[.iface 78 (.agg #[.int .i64 n]), .iface 78 (.agg #[.int .i64 m])] w fun e w' => e = .returned (.int .i64 (numC n m)) ∧ Below w.heap.size w w' := by
  have m1 := meth_intPart (.agg #[.int .i64 n])
  have m2 := meth_intPart (.agg #[.int .i64 m])
  have HK := hide' (kind_intPart n)
  have HK2 := hide' (kind_intPart m)
  have t1 := no_bool_intPart (.agg #[.int .i64 n])
  have ty := yes_intPart (.agg #[.int .i64 n])
  have tm := must_intPart (.agg #[.int .i64 m])
  have tf := fld_intPart (.int .i64 m)
  have HC := hide' (fun a => cmpInt_any a a)
  have HZ := hide' numC_eq
  have HQ := hide' (cmpInt_any n m)
  have Hb : Hid (∀ (wx : World) (o : Obj), Below wx.heap.size wx (wx.alloc o)) := fun wx o => (Below.refl _ _).alloc (Nat.le_refl _) o
  generalize numC n m = ans at *
  go_enter Try.func27, Try.ntmps27
  go_wp2_with fail
  refine (HK.out _).mono ?_
  rintro e w1 ⟨rfl, b1⟩
  go_wp2_with fail
  refine (HK2.out _).mono ?_
  rintro e w2 ⟨rfl, b2⟩
  have B2 := hide' (Below.on b1 b2)
  clear b1 b2
  go_wp2_with fail
  refine (HC.out _ _).mono ?_
  rw [HZ.out]
  rintro e w3 ⟨rfl, e3⟩
  obtain rfl := e3
  go_wp2_with fail
  go_quiet ((go_at_call 40; exact quiet_same (HQ.out _)))
  go_wp2
  go_ret
  exact ⟨rfl, below_drewN (Below.on B2.out (Hb.out _ _)) _⟩

set_option maxHeartbeats 3200000 in
set_option maxRecDepth 100000 in
theorem cmp_textPart (xs ys : List Int) (w : World) : Calls Try.prog 27 #[.iface 80 (.agg #[.string (strOf xs)]), .iface 80 (.agg #[.string (strOf ys)])] w fun e w' => e = .returned (.int .i64 (bytesC xs ys)) ∧ Below w.heap.size w w' := by
  have m1 := meth_textPart (.agg #[.string (strOf xs)])
  have m2 := meth_textPart (.agg #[.string (strOf ys)])
  have HK := hide' (kind_textPart (strOf xs))
  have HK2 := hide' (kind_textPart (strOf ys))
  have t1 := no_bool_textPart (.agg #[.string (strOf xs)])
  have t2 := no_int_textPart (.agg #[.string (strOf xs)])
  have ty := yes_textPart (.agg #[.string (strOf xs)])
  have tm := must_textPart (.agg #[.string (strOf ys)])
  have tf := fld_textPart (.string (strOf ys))
  have HC := hide' (fun a => cmpInt_any a a)
  have HZ := hide' numC_eq
  have HQ := hide' (strings_Compare_any xs ys)
  have Hb : Hid (∀ (wx : World) (o : Obj), Below wx.heap.size wx (wx.alloc o)) := fun wx o => (Below.refl _ _).alloc (Nat.le_refl _) o
  generalize bytesC xs ys = ans at *
  go_enter Try.func27, Try.ntmps27
  go_wp2_with fail
  refine (HK.out _).mono ?_
  rintro e w1 ⟨rfl, b1⟩
  go_wp2_with fail
  refine (HK2.out _).mono ?_
  rintro e w2 ⟨rfl, b2⟩
  have B2 := hide' (Below.on b1 b2)
  clear b1 b2
  go_wp2_with fail
  refine (HC.out _ _).mono ?_
  rw [HZ.out]
  rintro e w3 ⟨rfl, e3⟩
  obtain rfl := e3
  go_wp2_with fail
  go_quiet ((go_at_call 41; exact quiet_same (HQ.out _)))
  go_wp2
  go_ret
  exact ⟨rfl, below_drewN (Below.on B2.out (Hb.out _ _)) _⟩
end Go.Proofs.Ytenfnbnhdmkhkaa
/-
  takeAll of the program: it takes a list of values in, out of what take does at one.
-/
namespace Go.Proofs.Ytenfnbnhdmkhkaa
open Go.RowKit
set_option linter.unusedVariables false
set_option linter.unusedSimpArgs false

theorem grownBy_fresh {w w1 w2 : World} {r r' : Option Nat} (h : w.grownBy w1 r) (k : w1.grownBy w2 r') (hr : ∀ j, r' = some j → w.heap.size ≤ j) : w.grownBy w2 r :=
  ⟨k.os.trans h.os, k.tape.trans h.tape, k.output.trans h.output, Nat.le_trans h.size k.size, fun i hi hne => (k.block i (Nat.lt_of_lt_of_le hi h.size) (fun e => by have := hr i e.symm; omega)).trans (h.block i hi hne)⟩

theorem parts_one (d : Nat) (v : Vl d) : 1 ≤ partsV d v := by
  cases d with
  | zero => exact v.elim
  | succ d => exact parts_pos d v

theorem pre_ge (d : Nat) (l : List (Vl d)) (k : Nat) (h : k ≤ l.length) : k ≤ pre (partsV d) l k := by
  induction k with
  | zero => omega
  | succ k ih =>
    have := pre_succ (partsV d) l k (by omega)
    have := parts_one d l[k]
    have := ih (by omega)
    omega

theorem Cnt.keep {w w' : World} {q n : Nat} {r : Option Nat} (h : Cnt w q n) (hg : w.grownBy w' r) (hr : some q ≠ r) : Cnt w' q n :=
  (hg.block q (Array.getElem?_eq_some_iff.1 h).1 hr).trans h

/-- What holds after k rounds of takeAll. -/
def TA (d : Nat) (l : List (Vl d)) (deep n q : Nat) (w wr : World) (k : Nat) (y : Value) (ps : List Value) : Prop :=
  k ≤ l.length ∧ ps.length = k ∧ wr.ownsRow w.heap.size 49 1 y k ps ∧ (∀ j (h : j < l.length), j < k → goodB d l[j] deep = true) ∧ n + pre (partsV d) l k ≤ 40 ∧ Cnt wr q (n + pre (partsV d) l k) ∧
    (∀ j (h : j < l.length), j < k → PSeg (fun b => w.heap.size ≤ b ∧ b < wr.heap.size ∧ some b ≠ y.ownBlock) wr d (ps.getD j .nilIface) l[j]) ∧ w.grownBy wr (some q)

theorem TA_zero {d : Nat} {l : List (Vl d)} {deep n q : Nat} {w : World} (hc : Cnt w q n) (hn : n ≤ 40) : TA d l deep n q w w 0 (.slice none 0 0) [] :=
  ⟨Nat.zero_le _, rfl, World.ownsRow_nil w _ _ _, fun j _ h => by omega, by rw [pre_zero]; omega, by rw [pre_zero]; exact hc, fun j _ h => by omega, World.grownBy.refl _ _⟩

theorem own_ne {w : World} {base e n q : Nat} {y : Value} {xs : List Value} (h : w.ownsRow base e 1 y n xs) (hq : q < base) : some q ≠ y.ownBlock := fun e => by
  have := h.lt q e.symm
  omega

theorem TA_none {d : Nat} {l : List (Vl d)} {deep n q : Nat} {w wr W : World} {k : Nat} {y : Value} {ps : List Value} (h : TA d l deep n q w wr k y ps) (hg : wr.grownBy W none) : TA d l deep n q w W k y ps := by
  obtain ⟨h1, h2, h3, h4, h5, h6, h7, h8⟩ := h
  refine ⟨h1, h2, h3.kept hg ?_, h4, h5, h6.keep hg (by simp), fun j hj hjk => ?_, grownBy_fresh h8 hg (by simp)⟩
  · cases hy : y.ownBlock with
    | none => exact .inl rfl
    | some z => exact .inr (by simp)
  · refine PSeg.carry (fun b hb => ⟨hb.1, Nat.lt_of_lt_of_le hb.2.1 hg.size, hb.2.2⟩) (fun b hb => hg.block b hb.2.1 (by simp)) d (h7 j hj hjk)

/-- Behind take: the same, but for the counter. -/
theorem TA_row {d : Nat} {l : List (Vl d)} {deep n q : Nat} {w wr w1 : World} {k : Nat} {y : Value} {ps : List Value} (h : TA d l deep n q w wr k y ps) (hq : q < w.heap.size) (hg : wr.grownBy w1 (some q)) (o : Obj) : (w1.alloc o).ownsRow w.heap.size 49 1 y k ps := by
  obtain ⟨h1, h2, h3, h4, h5, h6, h7, h8⟩ := h
  have := h3.kept hg (.inr (fun e => own_ne h3 hq e.symm))
  exact this.alloc o

theorem TA_next {d : Nat} {l : List (Vl d)} {deep n q : Nat} {w wr w1 w2 : World} {k : Nat} {y y' p : Value} {ps : List Value} {T : TypeId} (h : TA d l deep n q w wr k y ps) (hq : q < w.heap.size) (hk : k < l.length) (hg : wr.grownBy w1 (some q))
    (ht : Took d l[k] deep (n + pre (partsV d) l k) q wr w1 p) (hown : w2.ownsRow w.heap.size 49 1 y' (k + 1) (ps ++ [p])) (hg2 : (w1.alloc (.cells #[p] T)).grownBy w2 y.ownBlock) (hloc : y'.ownBlock = y.ownBlock ∨ y'.ownBlock = some (w1.alloc (.cells #[p] T)).heap.size) :
    TA d l deep n q w w2 (k + 1) y' (ps ++ [p]) := by
  obtain ⟨h1, h2, h3, h4, h5, h6, h7, h8⟩ := h
  obtain ⟨t1, t2, t3, t4⟩ := ht
  have hps := pre_succ (partsV d) l k hk
  have hal : w1.grownBy (w1.alloc (.cells #[p] T)) none := World.grownBy_alloc w1 _ none
  have hsz : (w1.alloc (.cells #[p] T)).heap.size = w1.heap.size + 1 := by simp
  have hyb : ∀ j, y.ownBlock = some j → w.heap.size ≤ j ∧ j < wr.heap.size := fun j hj => h3.lt j hj
  have hs1 := hg.size
  have hs2 := hg2.size
  have hs8 := h8.size
  refine ⟨hk, by simp [h2], hown, fun j hj hjk => ?_, by rw [hps]; omega, ?_, fun j hj hjk => ?_, ?_⟩
  · by_cases e : j = k
    · subst e; exact t1
    · exact h4 j hj (by omega)
  · rw [hps, ← Nat.add_assoc]
    exact (t3.keep hal (by simp)).keep hg2 (fun e => by have := hyb q e.symm; omega)
  · by_cases e : j = k
    · subst e
      have : (ps ++ [p]).getD j .nilIface = p := by simp [List.getD_eq_getElem?_getD, ← h2]
      rw [this]
      refine PSeg.carry (fun b hb => ⟨by omega, by omega, fun e => ?_⟩) (fun b hb => (hg2.block b (by omega) (fun e => by have := hyb b e.symm; omega)).trans (hal.block b hb.2 (by simp))) d t4
      rcases hloc with e2 | e2
      · have := hyb b (e2.symm.trans e.symm); omega
      · rw [e2] at e; simp at e; omega
    · have hjk' : j < k := by omega
      have : (ps ++ [p]).getD j .nilIface = ps.getD j .nilIface := by
        simp only [List.getD_eq_getElem?_getD]
        rw [List.getElem?_append_left (by omega)]
      rw [this]
      refine PSeg.carry (fun b hb => ⟨hb.1, by omega, fun e => ?_⟩) (fun b hb => (hg2.block b (by omega) hb.2.2).trans ((hal.block b (by omega) (by simp)).trans (hg.block b hb.2.1 (by simp; omega)))) d (h7 j hj hjk')
      rcases hloc with e2 | e2
      · exact hb.2.2 (e.trans e2)
      · rw [e2] at e; simp at e; omega
  · exact grownBy_fresh (grownBy_fresh (grownBy_trans h8 hg) hal (by simp)) hg2 (fun j hj => (hyb j hj).1)

/-- What a good takeAll has brought about. -/
def TookAll (d : Nat) (l : List (Vl d)) (deep n q : Nat) (w w' : World) (y : Value) : Prop :=
  (∀ j (h : j < l.length), goodB d l[j] deep = true) ∧ n + pre (partsV d) l l.length ≤ 40 ∧ Cnt w' q (n + pre (partsV d) l l.length) ∧
    ∃ (a : Option Addr) (cap : Nat) (ps : List Value), y = .slice a l.length cap ∧ (l = [] ∨ ∃ b, a = some ⟨b, 0, none⟩ ∧ w.heap.size ≤ b ∧ b < w'.heap.size ∧ ∀ i, i < l.length → w'.cell? ⟨b, i, none⟩ = some (ps.getD i .nilIface)) ∧ ∀ i (h : i < l.length), PSeg (fun b => w.heap.size ≤ b ∧ b < w'.heap.size) w' d (ps.getD i .nilIface) l[i]

theorem TA_end {d : Nat} {l : List (Vl d)} {deep n q : Nat} {w wr : World} {y : Value} {ps : List Value} (h : TA d l deep n q w wr l.length y ps) : TookAll d l deep n q w wr y := by
  obtain ⟨h1, h2, h3, h4, h5, h6, h7, h8⟩ := h
  have hcell := fun g (hg : y.ownBlock = some g) => h3.lt g hg
  refine ⟨fun j hj => h4 j hj hj, h5, h6, ?_⟩
  have h3' := h3
  rcases h3.2 with ⟨rfl, e0⟩ | ⟨g, cap, cur, rfl, hg, hh, hle, hm, hsz, htk⟩
  · exact ⟨none, 0, ps, by rw [e0], .inl (List.eq_nil_of_length_eq_zero e0), fun i hi => by omega⟩
  · refine ⟨some ⟨g, 0, none⟩, cap, ps, rfl, .inr ⟨g, rfl, hg, (Array.getElem?_eq_some_iff.1 hh).1, fun i hi => ?_⟩, fun i hi => PSeg.carry (fun b hb => ⟨hb.1, hb.2.1⟩) (fun b _ => rfl) d (h7 i hi hi)⟩
    have := World.ownsRow.cellAt h3' i (by omega)
    rw [this]
    simp [List.getD_eq_getElem?_getD, show i < ps.length from by omega]

end Go.Proofs.Ytenfnbnhdmkhkaa
/-
  takeAll of the program, walked.
-/
namespace Go.Proofs.Ytenfnbnhdmkhkaa
open Go.RowKit
set_option linter.unusedVariables false
set_option linter.unusedSimpArgs false

theorem PSeg.shape {R : Nat → Prop} {w : World} {d : Nat} {p : Value} {v : Vl d} (h : PSeg R w d p v) : ∃ t x, p = .iface t x := by
  cases d with
  | zero => exact h.elim
  | succ d =>
    rcases h with ⟨_, rfl⟩ | ⟨_, rfl⟩ | ⟨_, rfl⟩ | ⟨_, rfl⟩ | ⟨_, rfl⟩ | ⟨_, _, _, rfl, _⟩ | ⟨_, _, _, rfl, _⟩ <;> exact ⟨_, _, rfl⟩

set_option maxHeartbeats 4000000 in
theorem takeAll_of (d : Nat) (ih : TakeAt d) (N q n : Nat) (x : Value) (l : List (Vl d)) (deep : Nat) (w : World) (hx : LSeg (fun b => b < N) w d x l) (hNq : N ≤ q) (hq : q < w.heap.size) (hc : Cnt w q n) (hn : n ≤ 40) (hd : deep ≤ 6) :
    Calls Try.prog 56 #[.pointer (some ⟨q, 0, none⟩), x, .int .i64 deep] w fun e w' =>
      w.grownBy w' (some q) ∧ ((∃ y, e = .returned (.tuple #[y, .bool true]) ∧ TookAll d l deep n q w w' y) ∨ (e = .returned (.tuple #[.slice none 0 0, .bool false]) ∧ ¬ ((∀ j (h : j < l.length), goodB d l[j] deep = true) ∧ n + pre (partsV d) l l.length ≤ 40))) := by
  have HX := hide' hx
  obtain ⟨a4, p4, rfl, hlc, hcm, ka, _⟩ := hx
  unfold maxLen at hcm
  have HI := hide' ih
  have H0 : Hid (TA d l deep n q w w 0 (.slice none 0 0) []) := TA_zero hc hn
  obtain ⟨i0, hi, hz0, hz1, hz2⟩ := info_parts info_part
  clear ih hc
  go_enter Try.func56, Try.ntmps56
  go_wp2
  go_loopw [8, 15] (fun y i wr => ∃ (k : Nat) (ps : List Value), i = .int .i64 k ∧ TA d l deep n q w wr k y ps) (fun _ i _ => l.length - (intOf i).toNat)
  case atStart => exact ⟨0, [], rfl, H0.out⟩
  case round =>
    obtain ⟨k, ps, rfl, hT⟩ := hrel
    have HT := hide' hT
    obtain ⟨hk, hps, hown, hgood, hple, hcnt, hpseg, hgr⟩ := hT
    clear hgood hpseg hcnt
    by_cases hlt : k < l.length
    · have hlt' : (k : Int) < (l.length : Int) := by omega
      have hag := agree_grown hgr hNq hq
      have hcell : ∃ b off c, a4 = some ⟨b, off, none⟩ ∧ Five wr b (off + k * 5) c ∧ VSeg (fun b => b < N) wr d c (l[k]) := by
        obtain ⟨a', cap', e1, _, _, _, h5⟩ := HX.out
        simp only [Value.slice.injEq] at e1
        obtain ⟨rfl, _, _⟩ := e1
        rcases h5 with h0 | ⟨b, off, rfl, hR, hcc⟩
        · rw [h0] at hlt; simp at hlt
        · obtain ⟨c, h5, hv⟩ := hcc k hlt
          exact ⟨b, off, c, rfl, h5.agree hag hR, VSeg.agree hag d hv⟩
      obtain ⟨b, off, c, rfl, h5', hv⟩ := hcell
      obtain ⟨c0, c1, c2, c3, c4⟩ := c
      obtain ⟨q0, q1, q2, q3, q4⟩ := h5'
      simp only at q0 q1 q2 q3 q4
      have HV := hide' hv
      have hs := hgr.size
      obtain ⟨ck, cn, s2, l2, e2, s3, l3, e3, s4, l4, e4, rfl, rfl, rfl, rfl, rfl⟩ := VSeg.form d hv
      have hgW := World.grownBy_alloc wr (.cells #[.int .i64 ck, .int .i64 cn, .slice s2 l2 e2, .slice s3 l3 e3, .slice s4 l4 e4] 26) none
      have hTW := TA_none HT.out hgW
      have hC := HI.out N q (n + pre (partsV d) l k) _ l[k] deep _ (VSeg.agree (fun b hb => hgW.block b (by omega) (by simp)) d hv) hNq (by simp; omega) hTW.2.2.2.2.2.1 hple hd
      have HC := hide' hC
      have HTW := hide' hTW
      clear hv hag hgr hTW hC hgW
      go_wp2_with fail
      refine HC.out.mono ?_
      rintro e w1 ⟨hg1, hcase⟩
      clear q0 q1 q2 q3 q4
      rcases hcase with ⟨p, rfl, htook⟩ | ⟨rfl, hbad⟩
      · obtain ⟨pt, px, rfl⟩ := htook.2.2.2.shape
        have hrw := TA_row HTW.out hq hg1 (.cells #[.iface pt px] 49)
        have h63 : k + 1 ≤ 40 := by have := pre_ge d l (k + 1) hlt; have := pre_succ (partsV d) l k hlt; have := htook.2.1; omega
        have hs1 := hg1.size
        have hsW := HTW.out.2.2.2.2.2.2.2.size
        have HK := hide' htook
        clear htook hown
        go_wp2_with (at_builtin; refine wpList_append_own_at _ rfl _ _ 82 rfl w.heap.size 49 i0 .nilIface 1 16 Try.underlying82 hi hz0 hz1 hz2 rfl (by decide) _ k ps rfl hrw ⟨w1.heap.size, 0, none⟩ 1 1 [.iface pt px] rfl rfl (cell_one_new _ _ _) (by intro u hu; simp at hu; rw [hu]; rfl) (by unfold maxLen; omega) (by omega) (by simp; omega) ?_; intro y' w2 hown' hg2 hnil hloc)
        have hN := TA_next HTW.out hq hlt hg1 HK.out hown' hg2 hloc
        clear hown' hg2 hnil hloc hrw HK HTW HC
        go_wp2
        go_roundw
        case rel => exact ⟨k + 1, _, by go_num, hN⟩
        case measure => simp [intOf]; omega
      · have hgf := grownBy_trans HTW.out.2.2.2.2.2.2.2 hg1
        have hno : ¬ ((∀ j (h : j < l.length), goodB d l[j] deep = true) ∧ n + pre (partsV d) l l.length ≤ 40) := fun ⟨h1, h2⟩ => hbad ⟨h1 k hlt, by
          have h3 := pre_succ (partsV d) l k hlt
          have h4 := pre_le (partsV d) l (k + 1)
          have h5 := pre_all (partsV d) l
          omega⟩
        go_wp2
        go_ret2
        exact ⟨hgf, .inr ⟨rfl, hno⟩⟩
    · have hkn : k = l.length := by omega
      have hlt' : ¬ (k : Int) < (l.length : Int) := by omega
      rw [hkn] at HT
      have hE := TA_end HT.out
      have hgf := HT.out.2.2.2.2.2.2.2
      clear hkn
      go_wp2
      go_ret2
      exact ⟨hgf, .inl ⟨_, rfl, hE⟩⟩
end Go.Proofs.Ytenfnbnhdmkhkaa
