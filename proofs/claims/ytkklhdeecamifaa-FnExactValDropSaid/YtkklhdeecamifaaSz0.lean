/-
  szByteS of the laws: what is left of a bound behind a text's weight, or -1.
-/
import Derived.Test.YtkklhdeecamifaaVal
namespace Go.Proofs.Ytkklhdeecamifaa
open Go.RowKit
set_option linter.unusedVariables false

/-- What is left. -/
def less (l : Int) (n : Nat) : Int := if l < n then -1 else l - n
theorem less_no (l : Int) (n : Nat) (h : l < n) : less l n = -1 := by simp [less, h]
theorem less_yes (l : Int) (n : Nat) (h : ¬ l < n) : less l n = l - n := by simp [less, h]

/-- The weight of the first k. -/
def pre {α : Type} (f : α → Nat) (l : List α) (k : Nat) : Nat := ((l.take k).map f).sum
theorem pre_zero {α : Type} (f : α → Nat) (l : List α) : pre f l 0 = 0 := by simp [pre]
theorem pre_succ {α : Type} (f : α → Nat) (l : List α) (k : Nat) (h : k < l.length) : pre f l (k + 1) = pre f l k + f l[k] := by
  unfold pre
  rw [List.take_succ_eq_append_getElem h, List.map_append, List.sum_append]
  simp only [List.map_cons, List.map_nil, List.sum_cons, List.sum_nil, Nat.add_zero]
theorem pre_all {α : Type} (f : α → Nat) (l : List α) : pre f l l.length = (l.map f).sum := by simp [pre]
theorem pre_le {α : Type} (f : α → Nat) (l : List α) (k : Nat) : pre f l k ≤ (l.map f).sum := by
  unfold pre
  have : (l.map f).sum = ((l.take k).map f).sum + ((l.drop k).map f).sum := by
    rw [← List.sum_append, ← List.map_append, List.take_append_drop]
  omega

set_option maxHeartbeats 800000 in
theorem szByteS_any (a : Option Addr) (n cap : Nat) (l : Int) (w : World) (h0 : 0 ≤ l) (h1 : l ≤ 1048576) (hn : n ≤ maxLen) :
    Calls Try.prog 23 #[.slice a n cap, .int .i64 l] w fun e w' => e = .returned (.int .i64 (less l n)) ∧ w = w' := by
  unfold maxLen at hn
  by_cases h : l < n
  · have HO : Hid (less l n = -1) := less_no l n h
    have h' : l - (n : Int) < 0 := by omega
    go_enter Try.func23, Try.ntmps23
    go_wp2
    go_ret
    exact ⟨ret_i64 (by rw [HO.out]), rfl⟩
  · have HO : Hid (less l n = l - n) := less_yes l n h
    have h' : ¬ l - (n : Int) < 0 := by omega
    go_enter Try.func23, Try.ntmps23
    go_wp2
    go_ret
    exact ⟨ret_i64 (by rw [HO.out]), rfl⟩

theorem less_less (l : Int) (a b : Nat) (h : ¬ l < a) : less (l - a) b = less l (a + b) := by
  unfold less
  by_cases h2 : l - a < b
  · rw [if_pos h2, if_pos (by omega)]
  · rw [if_neg h2, if_neg (by omega)]
    omega

theorem grown1 (w : World) (g j : Nat) (v : Value) : w.grownBy (w.setCell ⟨g, j, none⟩ v) (some g) :=
  ⟨rfl, rfl, rfl, by simp [World.setCell], fun k _ hk => Below.heap_setCell w ⟨g, j, none⟩ v k (fun e => hk (by simp [e]))⟩

theorem size2 (w : World) (o o' : Obj) : ((w.alloc o).alloc o').heap.size = w.heap.size + 2 := by simp
theorem two_boxes (w : World) (o o' : Obj) : ((w.alloc o).alloc o').heap[w.heap.size]? = some o ∧ ((w.alloc o).alloc o').heap[w.heap.size + 1]? = some o' := by
  have e : (w.alloc o).heap.size = w.heap.size + 1 := by simp
  constructor
  · exact (((Below.refl (w.alloc o).heap.size (w.alloc o)).alloc (Nat.le_refl _) o').block w.heap.size (by omega)).trans (MapKept.heap_alloc w o).1
  · have h := (MapKept.heap_alloc (w.alloc o) o').1
    rw [e] at h
    exact h


end Go.Proofs.Ytkklhdeecamifaa
