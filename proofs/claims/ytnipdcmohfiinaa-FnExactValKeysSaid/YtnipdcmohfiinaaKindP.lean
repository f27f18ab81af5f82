/-
  The kind of a part: a method of an interface value, by the value's own type.
-/
import Derived.Test.YtnipdcmohfiinaaPart
import Derived.Test.YtnipdcmohfiinaaShelf
namespace Go.Proofs.Ytnipdcmohfiinaa
open Go.RowKit Go.Shelf
set_option linter.unusedVariables false
set_option linter.unusedSimpArgs false

theorem meth_nullPart (x : Value) (w : World) : (method 244 86 x "loop.example/g00407/impl.kind").run Try.prog w = .ok (105, x) w := by kernel_rfl
theorem calls_nullPart (args : Array Value) (w : World) : (callFunc 105 args).run Try.prog w = .ok (.enter 105 args) w := enters_of Try.func105 (by kernel_rfl) rfl args w
theorem meth_unknownPart (x : Value) (w : World) : (method 244 87 x "loop.example/g00407/impl.kind").run Try.prog w = .ok (106, x) w := by kernel_rfl
theorem calls_unknownPart (args : Array Value) (w : World) : (callFunc 106 args).run Try.prog w = .ok (.enter 106 args) w := enters_of Try.func106 (by kernel_rfl) rfl args w
theorem meth_boolPart (x : Value) (w : World) : (method 244 66 x "loop.example/g00407/impl.kind").run Try.prog w = .ok (101, x) w := by kernel_rfl
theorem calls_boolPart (args : Array Value) (w : World) : (callFunc 101 args).run Try.prog w = .ok (.enter 101 args) w := enters_of Try.func101 (by kernel_rfl) rfl args w
theorem meth_intPart (x : Value) (w : World) : (method 244 67 x "loop.example/g00407/impl.kind").run Try.prog w = .ok (102, x) w := by kernel_rfl
theorem calls_intPart (args : Array Value) (w : World) : (callFunc 102 args).run Try.prog w = .ok (.enter 102 args) w := enters_of Try.func102 (by kernel_rfl) rfl args w
theorem meth_textPart (x : Value) (w : World) : (method 244 69 x "loop.example/g00407/impl.kind").run Try.prog w = .ok (103, x) w := by kernel_rfl
theorem calls_textPart (args : Array Value) (w : World) : (callFunc 103 args).run Try.prog w = .ok (.enter 103 args) w := enters_of Try.func103 (by kernel_rfl) rfl args w
theorem meth_listPart (x : Value) (w : World) : (method 244 72 x "loop.example/g00407/impl.kind").run Try.prog w = .ok (104, x) w := by kernel_rfl
theorem calls_listPart (args : Array Value) (w : World) : (callFunc 104 args).run Try.prog w = .ok (.enter 104 args) w := enters_of Try.func104 (by kernel_rfl) rfl args w
theorem meth_mapPart (x : Value) (w : World) : (method 244 50 x "loop.example/g00407/impl.kind").run Try.prog w = .ok (100, x) w := by kernel_rfl
theorem calls_mapPart (args : Array Value) (w : World) : (callFunc 100 args).run Try.prog w = .ok (.enter 100 args) w := enters_of Try.func100 (by kernel_rfl) rfl args w

set_option maxHeartbeats 800000 in
theorem kind_nullPart (w : World) : Calls Try.prog 105 #[.agg #[]] w fun e w' => e = .returned (.int .i64 0) ∧ Below w.heap.size w w' := by
  have Hb : Hid (∀ o : Obj, Below w.heap.size w (w.alloc o)) := fun o => (Below.refl _ _).alloc (Nat.le_refl _) o
  go_enter Try.func105, Try.ntmps105
  go_wp2
  go_ret
  exact ⟨rfl, Hb.out _⟩
set_option maxHeartbeats 800000 in
theorem kind_unknownPart (w : World) : Calls Try.prog 106 #[.agg #[]] w fun e w' => e = .returned (.int .i64 6) ∧ Below w.heap.size w w' := by
  have Hb : Hid (∀ o : Obj, Below w.heap.size w (w.alloc o)) := fun o => (Below.refl _ _).alloc (Nat.le_refl _) o
  go_enter Try.func106, Try.ntmps106
  go_wp2
  go_ret
  exact ⟨rfl, Hb.out _⟩
set_option maxHeartbeats 800000 in
theorem kind_boolPart (n : Int) (w : World) : Calls Try.prog 101 #[.agg #[.int .i64 n]] w fun e w' => e = .returned (.int .i64 1) ∧ Below w.heap.size w w' := by
  have Hb : Hid (∀ o : Obj, Below w.heap.size w (w.alloc o)) := fun o => (Below.refl _ _).alloc (Nat.le_refl _) o
  go_enter Try.func101, Try.ntmps101
  go_wp2
  go_ret
  exact ⟨rfl, Hb.out _⟩
set_option maxHeartbeats 800000 in
theorem kind_intPart (n : Int) (w : World) : Calls Try.prog 102 #[.agg #[.int .i64 n]] w fun e w' => e = .returned (.int .i64 2) ∧ Below w.heap.size w w' := by
  have Hb : Hid (∀ o : Obj, Below w.heap.size w (w.alloc o)) := fun o => (Below.refl _ _).alloc (Nat.le_refl _) o
  go_enter Try.func102, Try.ntmps102
  go_wp2
  go_ret
  exact ⟨rfl, Hb.out _⟩
set_option maxHeartbeats 800000 in
theorem kind_textPart (s : ByteArray) (w : World) : Calls Try.prog 103 #[.agg #[.string s]] w fun e w' => e = .returned (.int .i64 3) ∧ Below w.heap.size w w' := by
  have Hb : Hid (∀ o : Obj, Below w.heap.size w (w.alloc o)) := fun o => (Below.refl _ _).alloc (Nat.le_refl _) o
  go_enter Try.func103, Try.ntmps103
  go_wp2
  go_ret
  exact ⟨rfl, Hb.out _⟩
set_option maxHeartbeats 800000 in
theorem kind_listPart (a : Option Addr) (n c : Nat) (w : World) : Calls Try.prog 104 #[.agg #[.slice a n c]] w fun e w' => e = .returned (.int .i64 4) ∧ Below w.heap.size w w' := by
  have Hb : Hid (∀ o : Obj, Below w.heap.size w (w.alloc o)) := fun o => (Below.refl _ _).alloc (Nat.le_refl _) o
  go_enter Try.func104, Try.ntmps104
  go_wp2
  go_ret
  exact ⟨rfl, Hb.out _⟩
set_option maxHeartbeats 800000 in
theorem kind_mapPart (b : Nat) (w : World) : Calls Try.prog 100 #[.agg #[.map (some b)]] w fun e w' => e = .returned (.int .i64 5) ∧ Below w.heap.size w w' := by
  have Hb : Hid (∀ o : Obj, Below w.heap.size w (w.alloc o)) := fun o => (Below.refl _ _).alloc (Nat.le_refl _) o
  go_enter Try.func100, Try.ntmps100
  go_wp2
  go_ret
  exact ⟨rfl, Hb.out _⟩

/-- What a call of kind leans on. -/
def KindOf (pt : TypeId) (px : Value) (vk : Int) : Prop := ∃ f : Nat, (∀ w, (method 244 pt px "loop.example/g00407/impl.kind").run Try.prog w = .ok (f, px) w) ∧ (∀ args w, (callFunc f args).run Try.prog w = .ok (.enter f args) w) ∧ ∀ w, Calls Try.prog f #[px] w fun e w' => e = .returned (.int .i64 vk) ∧ Below w.heap.size w w'

theorem kind_of {R : Nat → Prop} {w : World} {d : Nat} {pt : TypeId} {px : Value} {v : Vl (d + 1)} (h : PSeg R w (d + 1) (.iface pt px) v) : KindOf pt px v.1 := by
  rcases h with ⟨hk, e⟩ | ⟨hk, e⟩ | ⟨hk, e⟩ | ⟨hk, e⟩ | ⟨hk, e⟩ | ⟨hk, a, cap, e, _⟩ | ⟨hk, b, ps, e, _⟩ <;>
    simp only [Value.iface.injEq] at e <;> obtain ⟨rfl, rfl⟩ := e <;> rw [hk]
  · exact ⟨_, meth_nullPart _, calls_nullPart, kind_nullPart⟩
  · exact ⟨_, meth_unknownPart _, calls_unknownPart, kind_unknownPart⟩
  · exact ⟨_, meth_boolPart _, calls_boolPart, kind_boolPart _⟩
  · exact ⟨_, meth_intPart _, calls_intPart, kind_intPart _⟩
  · exact ⟨_, meth_textPart _, calls_textPart, kind_textPart _⟩
  · exact ⟨_, meth_listPart _, calls_listPart, kind_listPart _ _ _⟩
  · exact ⟨_, meth_mapPart _, calls_mapPart, kind_mapPart _⟩
end Go.Proofs.Ytnipdcmohfiinaa
