/-
  cmpParts of the program: parts of different kinds; what has no parts.
-/
import Derived.Test.YtdelgidbacglbaaKindP
import Derived.Test.YtdelgidbacglbaaCmpT
import Derived.Test.YtdelgidbacglbaaCmpV
import Derived.Deep.RegionWith
namespace Go.Proofs.Ytdelgidbacglbaa
open Go.RowKit Go.Shelf
set_option linter.unusedVariables false
set_option linter.unusedSimpArgs false

set_option maxHeartbeats 3200000 in
set_option maxRecDepth 100000 in
theorem cmp_kinds {pt qt : TypeId} {px qx : Value} {ak bk : Int} (h1 : KindOf pt px ak) (h2 : KindOf qt qx bk) (hne : ak ≠ bk) (w : World) :
    Calls Try.prog 18 #[.iface pt px, .iface qt qx] w fun e w' => e = .returned (.int .i64 (numC ak bk)) ∧ Below w.heap.size w w' := by
  obtain ⟨f, m1, hcf, k1⟩ := h1
  obtain ⟨g, m2, hcg, k2⟩ := h2
  have HK1 := hide' k1
  have HK2 := hide' k2
  have hn0 : (numC ak bk != 0) = true := by
    unfold numC
    split
    · decide
    · split
      · decide
      · omega
  have HC := hide' (cmpInt_any ak bk)
  generalize numC ak bk = nc at *
  clear k1 k2
  go_enter Try.func18, Try.ntmps18
  go_wp2_with (first
    | (go_at_fn f; refine (HK1.out _).mono ?_; rintro e w1 ⟨rfl, b1⟩)
    | (go_at_fn g; refine (HK2.out _).mono ?_; rintro e w2 ⟨rfl, b2⟩)
    | (go_at_call 26; refine (HC.out _).mono ?_; rintro e w3 ⟨rfl, e3⟩; obtain rfl := e3))
  go_ret
  exact ⟨rfl, Below.on b1 b2⟩

theorem yes_boolPart (x : Value) (w : World) : (Instr.typeAssert (.iface 59 x) 43 59 true).run Try.prog w = .ok (.tuple #[x, .bool true]) w := by kernel_rfl
theorem yes_intPart (x : Value) (w : World) : (Instr.typeAssert (.iface 60 x) 43 60 true).run Try.prog w = .ok (.tuple #[x, .bool true]) w := by kernel_rfl
theorem yes_textPart (x : Value) (w : World) : (Instr.typeAssert (.iface 62 x) 43 62 true).run Try.prog w = .ok (.tuple #[x, .bool true]) w := by kernel_rfl
theorem yes_listPart (x : Value) (w : World) : (Instr.typeAssert (.iface 66 x) 43 66 true).run Try.prog w = .ok (.tuple #[x, .bool true]) w := by kernel_rfl
theorem yes_mapPart (x : Value) (w : World) : (Instr.typeAssert (.iface 70 x) 43 70 true).run Try.prog w = .ok (.tuple #[x, .bool true]) w := by kernel_rfl
theorem must_boolPart (x : Value) (w : World) : (Instr.typeAssert (.iface 59 x) 43 59 false).run Try.prog w = .ok x w := by kernel_rfl
theorem must_intPart (x : Value) (w : World) : (Instr.typeAssert (.iface 60 x) 43 60 false).run Try.prog w = .ok x w := by kernel_rfl
theorem must_textPart (x : Value) (w : World) : (Instr.typeAssert (.iface 62 x) 43 62 false).run Try.prog w = .ok x w := by kernel_rfl
theorem must_listPart (x : Value) (w : World) : (Instr.typeAssert (.iface 66 x) 43 66 false).run Try.prog w = .ok x w := by kernel_rfl
theorem must_mapPart (x : Value) (w : World) : (Instr.typeAssert (.iface 70 x) 43 70 false).run Try.prog w = .ok x w := by kernel_rfl
theorem fld_boolPart (x : Value) (w : World) : (Instr.field 59 (.agg #[x]) 0).run Try.prog w = .ok x w := by kernel_rfl
theorem fld_intPart (x : Value) (w : World) : (Instr.field 60 (.agg #[x]) 0).run Try.prog w = .ok x w := by kernel_rfl
theorem fld_textPart (x : Value) (w : World) : (Instr.field 62 (.agg #[x]) 0).run Try.prog w = .ok x w := by kernel_rfl
theorem fld_listPart (x : Value) (w : World) : (Instr.field 66 (.agg #[x]) 0).run Try.prog w = .ok x w := by kernel_rfl
theorem no_bool_nullPart (x : Value) (w : World) : (Instr.typeAssert (.iface 80 x) 43 59 true).run Try.prog w = .ok (.tuple #[.agg #[.int .i64 0], .bool false]) w := by kernel_rfl
theorem no_bool_unknownPart (x : Value) (w : World) : (Instr.typeAssert (.iface 81 x) 43 59 true).run Try.prog w = .ok (.tuple #[.agg #[.int .i64 0], .bool false]) w := by kernel_rfl
theorem no_bool_intPart (x : Value) (w : World) : (Instr.typeAssert (.iface 60 x) 43 59 true).run Try.prog w = .ok (.tuple #[.agg #[.int .i64 0], .bool false]) w := by kernel_rfl
theorem no_bool_textPart (x : Value) (w : World) : (Instr.typeAssert (.iface 62 x) 43 59 true).run Try.prog w = .ok (.tuple #[.agg #[.int .i64 0], .bool false]) w := by kernel_rfl
theorem no_bool_listPart (x : Value) (w : World) : (Instr.typeAssert (.iface 66 x) 43 59 true).run Try.prog w = .ok (.tuple #[.agg #[.int .i64 0], .bool false]) w := by kernel_rfl
theorem no_bool_mapPart (x : Value) (w : World) : (Instr.typeAssert (.iface 70 x) 43 59 true).run Try.prog w = .ok (.tuple #[.agg #[.int .i64 0], .bool false]) w := by kernel_rfl
theorem no_int_nullPart (x : Value) (w : World) : (Instr.typeAssert (.iface 80 x) 43 60 true).run Try.prog w = .ok (.tuple #[.agg #[.int .i64 0], .bool false]) w := by kernel_rfl
theorem no_int_unknownPart (x : Value) (w : World) : (Instr.typeAssert (.iface 81 x) 43 60 true).run Try.prog w = .ok (.tuple #[.agg #[.int .i64 0], .bool false]) w := by kernel_rfl
theorem no_int_textPart (x : Value) (w : World) : (Instr.typeAssert (.iface 62 x) 43 60 true).run Try.prog w = .ok (.tuple #[.agg #[.int .i64 0], .bool false]) w := by kernel_rfl
theorem no_int_listPart (x : Value) (w : World) : (Instr.typeAssert (.iface 66 x) 43 60 true).run Try.prog w = .ok (.tuple #[.agg #[.int .i64 0], .bool false]) w := by kernel_rfl
theorem no_int_mapPart (x : Value) (w : World) : (Instr.typeAssert (.iface 70 x) 43 60 true).run Try.prog w = .ok (.tuple #[.agg #[.int .i64 0], .bool false]) w := by kernel_rfl
theorem no_text_nullPart (x : Value) (w : World) : (Instr.typeAssert (.iface 80 x) 43 62 true).run Try.prog w = .ok (.tuple #[.agg #[.string ⟨#[]⟩], .bool false]) w := by kernel_rfl
theorem no_text_unknownPart (x : Value) (w : World) : (Instr.typeAssert (.iface 81 x) 43 62 true).run Try.prog w = .ok (.tuple #[.agg #[.string ⟨#[]⟩], .bool false]) w := by kernel_rfl
theorem no_text_listPart (x : Value) (w : World) : (Instr.typeAssert (.iface 66 x) 43 62 true).run Try.prog w = .ok (.tuple #[.agg #[.string ⟨#[]⟩], .bool false]) w := by kernel_rfl
theorem no_text_mapPart (x : Value) (w : World) : (Instr.typeAssert (.iface 70 x) 43 62 true).run Try.prog w = .ok (.tuple #[.agg #[.string ⟨#[]⟩], .bool false]) w := by kernel_rfl
theorem no_list_nullPart (x : Value) (w : World) : (Instr.typeAssert (.iface 80 x) 43 66 true).run Try.prog w = .ok (.tuple #[.agg #[.slice none 0 0], .bool false]) w := by kernel_rfl
theorem no_list_unknownPart (x : Value) (w : World) : (Instr.typeAssert (.iface 81 x) 43 66 true).run Try.prog w = .ok (.tuple #[.agg #[.slice none 0 0], .bool false]) w := by kernel_rfl
theorem no_list_mapPart (x : Value) (w : World) : (Instr.typeAssert (.iface 70 x) 43 66 true).run Try.prog w = .ok (.tuple #[.agg #[.slice none 0 0], .bool false]) w := by kernel_rfl
theorem no_map_nullPart (x : Value) (w : World) : (Instr.typeAssert (.iface 80 x) 43 70 true).run Try.prog w = .ok (.tuple #[.agg #[.map none], .bool false]) w := by kernel_rfl
theorem no_map_unknownPart (x : Value) (w : World) : (Instr.typeAssert (.iface 81 x) 43 70 true).run Try.prog w = .ok (.tuple #[.agg #[.map none], .bool false]) w := by kernel_rfl

set_option maxHeartbeats 3200000 in
set_option maxRecDepth 100000 in
theorem cmp_nullPart (w : World) : Calls Try.prog 18 #[.iface 80 (.agg #[]), .iface 80 (.agg #[])] w fun e w' => e = .returned (.int .i64 0) ∧ Below w.heap.size w w' := by
  have m1 := meth_nullPart (.agg #[])
  have HK := hide' kind_nullPart
  have t1 := no_bool_nullPart (.agg #[])
  have t2 := no_int_nullPart (.agg #[])
  have t3 := no_text_nullPart (.agg #[])
  have t4 := no_list_nullPart (.agg #[])
  have t5 := no_map_nullPart (.agg #[])
  have HC := hide' (fun a => cmpInt_any a a)
  have HZ := hide' numC_eq
  go_enter Try.func18, Try.ntmps18
  go_wp2_with fail
  refine (HK.out _).mono ?_
  rintro e w1 ⟨rfl, b1⟩
  go_wp2_with fail
  refine (HK.out _).mono ?_
  rintro e w2 ⟨rfl, b2⟩
  go_wp2_with fail
  refine (HC.out _ _).mono ?_
  rw [HZ.out]
  rintro e w3 ⟨rfl, e3⟩
  obtain rfl := e3
  go_wp2
  go_ret
  exact ⟨rfl, Below.on b1 b2⟩
set_option maxHeartbeats 3200000 in
set_option maxRecDepth 100000 in
theorem cmp_unknownPart (w : World) : Calls Try.prog 18 #[.iface 81 (.agg #[]), .iface 81 (.agg #[])] w fun e w' => e = .returned (.int .i64 0) ∧ Below w.heap.size w w' := by
  have m1 := meth_unknownPart (.agg #[])
  have HK := hide' kind_unknownPart
  have t1 := no_bool_unknownPart (.agg #[])
  have t2 := no_int_unknownPart (.agg #[])
  have t3 := no_text_unknownPart (.agg #[])
  have t4 := no_list_unknownPart (.agg #[])
  have t5 := no_map_unknownPart (.agg #[])
  have HC := hide' (fun a => cmpInt_any a a)
  have HZ := hide' numC_eq
  go_enter Try.func18, Try.ntmps18
  go_wp2_with fail
  refine (HK.out _).mono ?_
  rintro e w1 ⟨rfl, b1⟩
  go_wp2_with fail
  refine (HK.out _).mono ?_
  rintro e w2 ⟨rfl, b2⟩
  go_wp2_with fail
  refine (HC.out _ _).mono ?_
  rw [HZ.out]
  rintro e w3 ⟨rfl, e3⟩
  obtain rfl := e3
  go_wp2
  go_ret
  exact ⟨rfl, Below.on b1 b2⟩

set_option maxHeartbeats 3200000 in
set_option maxRecDepth 100000 in
theorem cmp_boolPart (n m : Int) (w : World) : Calls Try.prog 18 #[.iface 59 (.agg #[.int .i64 n]), .iface 59 (.agg #[.int .i64 m])] w fun e w' => e = .returned (.int .i64 (numC n m)) ∧ Below w.heap.size w w' := by
  have m1 := meth_boolPart (.agg #[.int .i64 n])
  have m2 := meth_boolPart (.agg #[.int .i64 m])
  have HK := hide' (kind_boolPart n)
  have HK2 := hide' (kind_boolPart m)
  have ty := yes_boolPart (.agg #[.int .i64 n])
  have tm := must_boolPart (.agg #[.int .i64 m])
  have tf := fld_boolPart (.int .i64 m)
  have HC := hide' (fun a => cmpInt_any a a)
  have HZ := hide' numC_eq
  have HQ := hide' (cmpInt_any n m)
  have Hb : Hid (∀ (wx : World) (o : Obj), Below wx.heap.size wx (wx.alloc o)) := fun wx o => (Below.refl _ _).alloc (Nat.le_refl _) o
  generalize numC n m = ans at *
  go_enter Try.func18, Try.ntmps18
  go_wp2_with fail
  refine (HK.out _).mono ?_
  rintro e w1 ⟨rfl, b1⟩
  go_wp2_with fail
  refine (HK2.out _).mono ?_
  rintro e w2 ⟨rfl, b2⟩
  have B2 := hide' (Below.on b1 b2)
  clear b1 b2
  go_wp2_with fail
  refine (HC.out _ _).mono ?_
  rw [HZ.out]
  rintro e w3 ⟨rfl, e3⟩
  obtain rfl := e3
  go_wp2_with fail
  go_quiet ((go_at_call 26; exact quiet_same (HQ.out _)))
  go_wp2
  go_ret
  exact ⟨rfl, below_drewN (Below.on B2.out (Hb.out _ _)) _⟩

set_option maxHeartbeats 3200000 in
set_option maxRecDepth 100000 in
theorem cmp_intPart (n m : Int) (w : World) : Calls Try.prog 18 #[.iface 60 (.agg #[.int .i64 n]), .iface 60 (.agg #[.int .i64 m])] w fun e w' => e = .returned (.int .i64 (numC n m)) ∧ Below w.heap.size w w' := by
  have m1 := meth_intPart (.agg #[.int .i64 n])
  have m2 := meth_intPart (.agg #[.int .i64 m])
  have HK := hide' (kind_intPart n)
  have HK2 := hide' (kind_intPart m)
  have t1 := no_bool_intPart (.agg #[.int .i64 n])
  have ty := yes_intPart (.agg #[.int .i64 n])
  have tm := must_intPart (.agg #[.int .i64 m])
  have tf := fld_intPart (.int .i64 m)
  have HC := hide' (fun a => cmpInt_any a a)
  have HZ := hide' numC_eq
  have HQ := hide' (cmpInt_any n m)
  have Hb : Hid (∀ (wx : World) (o : Obj), Below wx.heap.size wx (wx.alloc o)) := fun wx o => (Below.refl _ _).alloc (Nat.le_refl _) o
  generalize numC n m = ans at *
  go_enter Try.func18, Try.ntmps18
  go_wp2_with fail
  refine (HK.out _).mono ?_
  rintro e w1 ⟨rfl, b1⟩
  go_wp2_with fail
  refine (HK2.out _).mono ?_
  rintro e w2 ⟨rfl, b2⟩
  have B2 := hide' (Below.on b1 b2)
  clear b1 b2
  go_wp2_with fail
  refine (HC.out _ _).mono ?_
  rw [HZ.out]
  rintro e w3 ⟨rfl, e3⟩
  obtain rfl := e3
  go_wp2_with fail
  go_quiet ((go_at_call 26; exact quiet_same (HQ.out _)))
  go_wp2
  go_ret
  exact ⟨rfl, below_drewN (Below.on B2.out (Hb.out _ _)) _⟩

set_option maxHeartbeats 3200000 in
set_option maxRecDepth 100000 in
theorem cmp_textPart (xs ys : List Int) (w : World) : Calls Try.prog 18 #[.iface 62 (.agg #[.string (strOf xs)]), .iface 62 (.agg #[.string (strOf ys)])] w fun e w' => e = .returned (.int .i64 (bytesC xs ys)) ∧ Below w.heap.size w w' := by
  have m1 := meth_textPart (.agg #[.string (strOf xs)])
  have m2 := meth_textPart (.agg #[.string (strOf ys)])
  have HK := hide' (kind_textPart (strOf xs))
  have HK2 := hide' (kind_textPart (strOf ys))
  have t1 := no_bool_textPart (.agg #[.string (strOf xs)])
  have t2 := no_int_textPart (.agg #[.string (strOf xs)])
  have ty := yes_textPart (.agg #[.string (strOf xs)])
  have tm := must_textPart (.agg #[.string (strOf ys)])
  have tf := fld_textPart (.string (strOf ys))
  have HC := hide' (fun a => cmpInt_any a a)
  have HZ := hide' numC_eq
  have HQ := hide' (strings_Compare_any xs ys)
  have Hb : Hid (∀ (wx : World) (o : Obj), Below wx.heap.size wx (wx.alloc o)) := fun wx o => (Below.refl _ _).alloc (Nat.le_refl _) o
  generalize bytesC xs ys = ans at *
  go_enter Try.func18, Try.ntmps18
  go_wp2_with fail
  refine (HK.out _).mono ?_
  rintro e w1 ⟨rfl, b1⟩
  go_wp2_with fail
  refine (HK2.out _).mono ?_
  rintro e w2 ⟨rfl, b2⟩
  have B2 := hide' (Below.on b1 b2)
  clear b1 b2
  go_wp2_with fail
  refine (HC.out _ _).mono ?_
  rw [HZ.out]
  rintro e w3 ⟨rfl, e3⟩
  obtain rfl := e3
  go_wp2_with fail
  go_quiet ((go_at_call 27; exact quiet_same (HQ.out _)))
  go_wp2
  go_ret
  exact ⟨rfl, below_drewN (Below.on B2.out (Hb.out _ _)) _⟩
end Go.Proofs.Ytdelgidbacglbaa
