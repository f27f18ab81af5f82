/-
  Texts that a law leans on, one behind the other; no statement is proved here.
-/
import Derived.Test.YteafpgaefphkfaaGreatDoorPk17
/-
  l2ok of the specification, at every depth: 'okI'.
-/
namespace Go.Proofs.YteafpgaefphkfaaGreatDoor
open Go.RowKit
set_option linter.unusedVariables false
set_option linter.unusedSimpArgs false

/-- The contract of l2ok at depth d. -/
def OkAt (d : Nat) : Prop := ∀ (N : Nat) (c : Value × Value × Value × Value × Value) (v : Vl d) (deep : Nat) (left : Int) (w : World), VSeg (fun b => b < N) w d c v → N ≤ w.heap.size → deep ≤ 6 → 0 ≤ left → left ≤ 40 →
  Calls Tryz.prog 30 #[.agg #[c.1, c.2.1, c.2.2.1, c.2.2.2.1, c.2.2.2.2], .int .i64 deep, .int .i64 left] w fun e w' => e = .returned (.int .i64 (okI d v deep left)) ∧ Below w.heap.size w w'

/-- One of two answers. -/
def sel (p : Bool) (x : Int) : Int := cond p x (-1)
theorem sel_yes {p : Bool} (x : Int) (h : p = true) : sel p x = x := by rw [h]; rfl
theorem sel_no {p : Bool} (x : Int) (h : p = false) : sel p x = -1 := by rw [h]; rfl

set_option maxHeartbeats 4000000 in
set_option maxRecDepth 100000 in
theorem l2ok_null (vk : Int) (hvk : vk = 0 ∨ vk = 6) (a2 a3 a4 : Option Addr) (p2 p3 p4 : Nat) (deep : Nat) (left : Int) (w : World) (h1 : 1 ≤ left) (h2 : left ≤ 40) (h3 : deep ≤ 5) :
    Calls Tryz.prog 30 #[.agg #[.int .i64 vk, .int .i64 0, .slice a2 0 p2, .slice a3 0 p3, .slice a4 0 p4], .int .i64 deep, .int .i64 left] w fun e w' => e = .returned (.int .i64 (left - 1)) ∧ Below w.heap.size w w' := by
  have Hb : Hid (∀ o : Obj, Below w.heap.size w (w.alloc o)) := fun o => (Below.refl _ _).alloc (Nat.le_refl _) o
  have h4 : ¬ left - 1 < 0 := by omega
  have h5 : ¬ (5 : Int) < (deep : Int) := by omega
  rcases hvk with rfl | rfl <;>
  · go_enter Tryz.func30, Tryz.ntmps30
    go_wp2
    go_ret
    exact ⟨rfl, Hb.out _⟩

set_option maxHeartbeats 4000000 in
set_option maxRecDepth 100000 in
theorem l2ok_none (vk : Int) (k0 : ¬ vk = 0) (k1 : ¬ vk = 1) (k2 : ¬ vk = 2) (k3 : ¬ vk = 3) (k4 : ¬ vk = 4) (k5 : ¬ vk = 5) (k6 : ¬ vk = 6) (a2 a3 a4 : Option Addr) (p2 p3 p4 : Nat) (deep : Nat) (left : Int) (w : World) (h1 : 1 ≤ left) (h2 : left ≤ 40) (h3 : deep ≤ 5) :
    Calls Tryz.prog 30 #[.agg #[.int .i64 vk, .int .i64 0, .slice a2 0 p2, .slice a3 0 p3, .slice a4 0 p4], .int .i64 deep, .int .i64 left] w fun e w' => e = .returned (.int .i64 (-1)) ∧ Below w.heap.size w w' := by
  have Hb : Hid (∀ o : Obj, Below w.heap.size w (w.alloc o)) := fun o => (Below.refl _ _).alloc (Nat.le_refl _) o
  have h4 : ¬ left - 1 < 0 := by omega
  have h5 : ¬ (5 : Int) < (deep : Int) := by omega
  go_enter Tryz.func30, Tryz.ntmps30
  go_wp2
  go_ret
  exact ⟨rfl, Hb.out _⟩

set_option maxHeartbeats 4000000 in
set_option maxRecDepth 100000 in
theorem l2ok_bool (vn : Int) (a2 a3 a4 : Option Addr) (p2 p3 p4 : Nat) (deep : Nat) (left : Int) (w : World) (h1 : 1 ≤ left) (h2 : left ≤ 40) (h3 : deep ≤ 5) :
    Calls Tryz.prog 30 #[.agg #[.int .i64 1, .int .i64 vn, .slice a2 0 p2, .slice a3 0 p3, .slice a4 0 p4], .int .i64 deep, .int .i64 left] w fun e w' => e = .returned (.int .i64 (sel (decide (vn = 0) || decide (vn = 1)) (left - 1))) ∧ Below w.heap.size w w' := by
  have Hb : Hid (∀ o : Obj, Below w.heap.size w (w.alloc o)) := fun o => (Below.refl _ _).alloc (Nat.le_refl _) o
  have h4 : ¬ left - 1 < 0 := by omega
  have h5 : ¬ (5 : Int) < (deep : Int) := by omega
  by_cases hn : vn < 0
  · have HO : Hid ((sel (decide (vn = 0) || decide (vn = 1)) (left - 1)) = -1) := sel_no _ (by simp; omega)
    go_enter Tryz.func30, Tryz.ntmps30
    go_wp2
    go_ret
    exact ⟨ret_i64 (by rw [HO.out]), Hb.out _⟩
  by_cases hm : 1 < vn
  · have HO : Hid ((sel (decide (vn = 0) || decide (vn = 1)) (left - 1)) = -1) := sel_no _ (by simp; omega)
    go_enter Tryz.func30, Tryz.ntmps30
    go_wp2
    go_ret
    exact ⟨ret_i64 (by rw [HO.out]), Hb.out _⟩
  have HO : Hid ((sel (decide (vn = 0) || decide (vn = 1)) (left - 1)) = left - 1) := sel_yes _ (by simp; omega)
  go_enter Tryz.func30, Tryz.ntmps30
  go_wp2
  go_ret
  exact ⟨ret_i64 (by rw [HO.out]), Hb.out _⟩

set_option maxHeartbeats 4000000 in
set_option maxRecDepth 100000 in
theorem l2ok_int (vn : Int) (a2 a3 a4 : Option Addr) (p2 p3 p4 : Nat) (deep : Nat) (left : Int) (w : World) (h1 : 1 ≤ left) (h2 : left ≤ 40) (h3 : deep ≤ 5) :
    Calls Tryz.prog 30 #[.agg #[.int .i64 2, .int .i64 vn, .slice a2 0 p2, .slice a3 0 p3, .slice a4 0 p4], .int .i64 deep, .int .i64 left] w fun e w' => e = .returned (.int .i64 (sel (intB vn) (left - 1))) ∧ Below w.heap.size w w' := by
  have Hb : Hid (∀ o : Obj, Below w.heap.size w (w.alloc o)) := fun o => (Below.refl _ _).alloc (Nat.le_refl _) o
  have h4 : ¬ left - 1 < 0 := by omega
  have h5 : ¬ (5 : Int) < (deep : Int) := by omega
  have HI : Hid (∀ wx, Calls Tryz.prog 45 #[.int .i64 vn] wx fun e w' => e = .returned (.bool (intB vn)) ∧ wx = w') := fun wx => spec_l2int_any vn wx
  by_cases hi : intB vn = true
  · have HO : Hid ((sel (intB vn) (left - 1)) = left - 1) := sel_yes _ hi
    rw [hi] at HI
    clear hi
    go_enter Tryz.func30, Tryz.ntmps30
    go_wp2_with fail
    refine (HI.out _).mono ?_
    rintro e w1 ⟨rfl, e1⟩
    obtain rfl := e1
    go_wp2
    go_ret
    exact ⟨ret_i64 (by rw [HO.out]), Hb.out _⟩
  · have HO : Hid ((sel (intB vn) (left - 1)) = -1) := sel_no _ (by simpa using hi)
    have hi' : intB vn = false := by simpa using hi
    rw [hi'] at HI
    clear hi hi'
    go_enter Tryz.func30, Tryz.ntmps30
    go_wp2_with fail
    refine (HI.out _).mono ?_
    rintro e w1 ⟨rfl, e1⟩
    obtain rfl := e1
    go_wp2
    go_ret
    exact ⟨ret_i64 (by rw [HO.out]), Hb.out _⟩

set_option maxHeartbeats 4000000 in
set_option maxRecDepth 100000 in
theorem l2ok_text (vs : List Int) (a2 a3 a4 : Option Addr) (p2 p3 p4 : Nat) (deep : Nat) (left : Int) (w : World) (hs : Seg w a2 vs) (hm : vs.length ≤ maxLen) (h1 : 1 ≤ left) (h2 : left ≤ 40) (h3 : deep ≤ 5) :
    Calls Tryz.prog 30 #[.agg #[.int .i64 3, .int .i64 0, .slice a2 vs.length p2, .slice a3 0 p3, .slice a4 0 p4], .int .i64 deep, .int .i64 left] w fun e w' => e = .returned (.int .i64 (sel (textB vs) (left - 1))) ∧ Below w.heap.size w w' := by
  have b0 : ∀ o : Obj, Below w.heap.size w (w.alloc o) := fun o => (Below.refl _ _).alloc (Nat.le_refl _) o
  have Hb : Hid (∀ o : Obj, Below w.heap.size w (w.alloc o)) := b0
  have h4 : ¬ left - 1 < 0 := by omega
  have h5 : ¬ (5 : Int) < (deep : Int) := by omega
  have HI : Hid (∀ o : Obj, Calls Tryz.prog 46 #[.slice a2 vs.length p2] (w.alloc o) fun e w' => e = .returned (.bool (textB vs)) ∧ (w.alloc o) = w') := fun o => spec_l2text_any a2 p2 vs _ (hs.grow (b0 o)) hm
  by_cases hi : textB vs = true
  · have HO : Hid ((sel (textB vs) (left - 1)) = left - 1) := sel_yes _ hi
    rw [hi] at HI
    clear hi b0 hs
    go_enter Tryz.func30, Tryz.ntmps30
    go_wp2_with fail
    refine (HI.out _).mono ?_
    rintro e w1 ⟨rfl, e1⟩
    obtain rfl := e1
    go_wp2
    go_ret
    exact ⟨ret_i64 (by rw [HO.out]), Hb.out _⟩
  · have HO : Hid ((sel (textB vs) (left - 1)) = -1) := sel_no _ (by simpa using hi)
    have hi' : textB vs = false := by simpa using hi
    rw [hi'] at HI
    clear hi hi' b0 hs
    go_enter Tryz.func30, Tryz.ntmps30
    go_wp2_with fail
    refine (HI.out _).mono ?_
    rintro e w1 ⟨rfl, e1⟩
    obtain rfl := e1
    go_wp2
    go_ret
    exact ⟨ret_i64 (by rw [HO.out]), Hb.out _⟩
end Go.Proofs.YteafpgaefphkfaaGreatDoor
