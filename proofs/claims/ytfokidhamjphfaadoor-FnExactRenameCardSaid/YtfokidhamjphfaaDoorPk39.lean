/-
  Texts that a law leans on, one behind the other; no statement is proved here.
-/
import Derived.Test.YtfokidhamjphfaaDoorPk34
/-
  l6expr of the specification at kinds without kids, where all is right.
-/
namespace Go.Proofs.YtfokidhamjphfaaDoor
open Go.RowKit
set_option linter.unusedVariables false
set_option linter.unusedSimpArgs false

set_option maxHeartbeats 4000000 in
set_option maxRecDepth 100000 in
theorem l6leaf_c1 (n : Int) (n0 : 0 ≤ n) (n1 : n ≤ 1) (a2 a3 a4 : Option Addr) (p2 p3 p4 : Nat) (deep : Nat) (left : Int) (w : World)
    (h1 : 1 ≤ left) (h2 : left ≤ 150) (h3 : deep ≤ 10) :
    Calls Tryd.prog 28 #[.agg #[.int .i64 1, .int .i64 n, .slice a2 0 p2, .slice a3 0 p3, .slice a4 0 p4], .int .i64 deep, .int .i64 left] w fun e w' => e = .returned (.int .i64 (left - 1)) ∧ Below w.heap.size w w' := by
  have b0 : ∀ o : Obj, Below w.heap.size w (w.alloc o) := fun o => (Below.refl _ _).alloc (Nat.le_refl _) o
  have Hb := hide' b0
  have HAr : Hid (∀ wx, Calls Tryd.prog 54 #[.int .i64 1] wx fun e w' => e = .returned (.int .i64 (0)) ∧ wx = w') := fun wx => l6arity_any 1 wx
  have d1 : ¬ left - 1 < 0 := by omega
  have d2 : ¬ (10 : Int) < (deep : Int) := by omega
  clear b0
  go_enter Tryd.func28, Tryd.ntmps28
  go_wp2_with (first | (go_at_call 54; refine (HAr.out _).mono ?_; rintro e w1 ⟨rfl, e1⟩; obtain rfl := e1))
  have B1 := Hb.out (.cells #[.int .i64 1, .int .i64 n, .slice a2 0 p2, .slice a3 0 p3, .slice a4 0 p4] 26)
  go_loopw [2, 8] (fun l i wr => l = .int .i64 (left - 1) ∧ i = .int .i64 0 ∧ wr = w.alloc (.cells #[.int .i64 1, .int .i64 n, .slice a2 0 p2, .slice a3 0 p3, .slice a4 0 p4] 26)) (fun _ _ _ => 0)
  case atStart => exact ⟨rfl, rfl, rfl⟩
  case round =>
    obtain ⟨rfl, rfl, rfl⟩ := hrel
    go_wp2
    go_ret
    exact ⟨rfl, B1⟩

set_option maxHeartbeats 4000000 in
set_option maxRecDepth 100000 in
theorem l6leaf_c2 (n : Int) (n0 : 0 ≤ n) (n1 : n ≤ 1000000000000) (a2 a3 a4 : Option Addr) (p2 p3 p4 : Nat) (deep : Nat) (left : Int) (w : World)
    (h1 : 1 ≤ left) (h2 : left ≤ 150) (h3 : deep ≤ 10) :
    Calls Tryd.prog 28 #[.agg #[.int .i64 2, .int .i64 n, .slice a2 0 p2, .slice a3 0 p3, .slice a4 0 p4], .int .i64 deep, .int .i64 left] w fun e w' => e = .returned (.int .i64 (left - 1)) ∧ Below w.heap.size w w' := by
  have b0 : ∀ o : Obj, Below w.heap.size w (w.alloc o) := fun o => (Below.refl _ _).alloc (Nat.le_refl _) o
  have Hb := hide' b0
  have HAr : Hid (∀ wx, Calls Tryd.prog 54 #[.int .i64 2] wx fun e w' => e = .returned (.int .i64 (0)) ∧ wx = w') := fun wx => l6arity_any 2 wx
  have d1 : ¬ left - 1 < 0 := by omega
  have d2 : ¬ (10 : Int) < (deep : Int) := by omega
  clear b0
  go_enter Tryd.func28, Tryd.ntmps28
  go_wp2_with (first | (go_at_call 54; refine (HAr.out _).mono ?_; rintro e w1 ⟨rfl, e1⟩; obtain rfl := e1))
  have B1 := Hb.out (.cells #[.int .i64 2, .int .i64 n, .slice a2 0 p2, .slice a3 0 p3, .slice a4 0 p4] 26)
  go_loopw [2, 8] (fun l i wr => l = .int .i64 (left - 1) ∧ i = .int .i64 0 ∧ wr = w.alloc (.cells #[.int .i64 2, .int .i64 n, .slice a2 0 p2, .slice a3 0 p3, .slice a4 0 p4] 26)) (fun _ _ _ => 0)
  case atStart => exact ⟨rfl, rfl, rfl⟩
  case round =>
    obtain ⟨rfl, rfl, rfl⟩ := hrel
    go_wp2
    go_ret
    exact ⟨rfl, B1⟩

set_option maxHeartbeats 4000000 in
set_option maxRecDepth 100000 in
theorem l6leaf_c3 (a2 a3 a4 : Option Addr) (p2 p3 p4 : Nat) (vs : List Int) (deep : Nat) (left : Int) (w : World)
    (h1 : 1 ≤ left) (h2 : left ≤ 150) (h3 : deep ≤ 10) (s2 : Seg w a2 vs) (hl2 : vs.length ≤ maxLen) (hs : textB vs = true) :
    Calls Tryd.prog 28 #[.agg #[.int .i64 3, .int .i64 0, .slice a2 vs.length p2, .slice a3 0 p3, .slice a4 0 p4], .int .i64 deep, .int .i64 left] w fun e w' => e = .returned (.int .i64 (left - 1)) ∧ Below w.heap.size w w' := by
  have b0 : ∀ o : Obj, Below w.heap.size w (w.alloc o) := fun o => (Below.refl _ _).alloc (Nat.le_refl _) o
  have Hb := hide' b0
  have HAr : Hid (∀ wx, Calls Tryd.prog 54 #[.int .i64 3] wx fun e w' => e = .returned (.int .i64 (0)) ∧ wx = w') := fun wx => l6arity_any 3 wx
  have HS : Hid (∀ wx, Below w.heap.size w wx → Calls Tryd.prog 55 #[.slice a2 vs.length p2] wx fun e w' => e = .returned (.bool (textB vs)) ∧ wx = w') := fun wx hb => spec_l2text_any a2 p2 vs wx (s2.grow hb) hl2
  rw [hs] at HS
  have d1 : ¬ left - 1 < 0 := by omega
  have d2 : ¬ (10 : Int) < (deep : Int) := by omega
  unfold maxLen at hl2
  clear s2 hs
  clear b0
  go_enter Tryd.func28, Tryd.ntmps28
  go_wp2_with (first | (go_at_call 54; refine (HAr.out _).mono ?_; rintro e w1 ⟨rfl, e1⟩; obtain rfl := e1) | (go_at_call 55; refine (HS.out _ (Hb.out _)).mono ?_; rintro e w1 ⟨rfl, e1⟩; obtain rfl := e1))
  have B1 := Hb.out (.cells #[.int .i64 3, .int .i64 0, .slice a2 vs.length p2, .slice a3 0 p3, .slice a4 0 p4] 26)
  go_loopw [2, 8] (fun l i wr => l = .int .i64 (left - 1) ∧ i = .int .i64 0 ∧ wr = w.alloc (.cells #[.int .i64 3, .int .i64 0, .slice a2 vs.length p2, .slice a3 0 p3, .slice a4 0 p4] 26)) (fun _ _ _ => 0)
  case atStart => exact ⟨rfl, rfl, rfl⟩
  case round =>
    obtain ⟨rfl, rfl, rfl⟩ := hrel
    go_wp2
    go_ret
    exact ⟨rfl, B1⟩

set_option maxHeartbeats 4000000 in
set_option maxRecDepth 100000 in
theorem l6leaf_c6 (a2 a3 a4 : Option Addr) (p2 p3 p4 : Nat) (vs : List Int) (deep : Nat) (left : Int) (w : World)
    (h1 : 1 ≤ left) (h2 : left ≤ 150) (h3 : deep ≤ 10) (s2 : Seg w a2 vs) (hl2 : vs.length ≤ maxLen) (hs : nameB vs = true) :
    Calls Tryd.prog 28 #[.agg #[.int .i64 6, .int .i64 0, .slice a2 vs.length p2, .slice a3 0 p3, .slice a4 0 p4], .int .i64 deep, .int .i64 left] w fun e w' => e = .returned (.int .i64 (left - 1)) ∧ Below w.heap.size w w' := by
  have b0 : ∀ o : Obj, Below w.heap.size w (w.alloc o) := fun o => (Below.refl _ _).alloc (Nat.le_refl _) o
  have Hb := hide' b0
  have HAr : Hid (∀ wx, Calls Tryd.prog 54 #[.int .i64 6] wx fun e w' => e = .returned (.int .i64 (0)) ∧ wx = w') := fun wx => l6arity_any 6 wx
  have HS : Hid (∀ wx, Below w.heap.size w wx → Calls Tryd.prog 35 #[.slice a2 vs.length p2] wx fun e w' => e = .returned (.bool (nameB vs)) ∧ wx = w') := fun wx hb => spec_NameOk_any a2 p2 vs wx (s2.grow hb) hl2
  rw [hs] at HS
  have d1 : ¬ left - 1 < 0 := by omega
  have d2 : ¬ (10 : Int) < (deep : Int) := by omega
  unfold maxLen at hl2
  clear s2 hs
  clear b0
  go_enter Tryd.func28, Tryd.ntmps28
  go_wp2_with (first | (go_at_call 54; refine (HAr.out _).mono ?_; rintro e w1 ⟨rfl, e1⟩; obtain rfl := e1) | (go_at_call 35; refine (HS.out _ (Hb.out _)).mono ?_; rintro e w1 ⟨rfl, e1⟩; obtain rfl := e1))
  have B1 := Hb.out (.cells #[.int .i64 6, .int .i64 0, .slice a2 vs.length p2, .slice a3 0 p3, .slice a4 0 p4] 26)
  go_loopw [2, 8] (fun l i wr => l = .int .i64 (left - 1) ∧ i = .int .i64 0 ∧ wr = w.alloc (.cells #[.int .i64 6, .int .i64 0, .slice a2 vs.length p2, .slice a3 0 p3, .slice a4 0 p4] 26)) (fun _ _ _ => 0)
  case atStart => exact ⟨rfl, rfl, rfl⟩
  case round =>
    obtain ⟨rfl, rfl, rfl⟩ := hrel
    go_wp2
    go_ret
    exact ⟨rfl, B1⟩

set_option maxHeartbeats 4000000 in
set_option maxRecDepth 100000 in
theorem l6leaf_c7 (a2 a3 a4 : Option Addr) (p2 p3 p4 : Nat) (vs : List Int) (deep : Nat) (left : Int) (w : World)
    (h1 : 1 ≤ left) (h2 : left ≤ 150) (h3 : deep ≤ 10) (s2 : Seg w a2 vs) (hl2 : vs.length ≤ maxLen) (hs : wordB vs = true) :
    Calls Tryd.prog 28 #[.agg #[.int .i64 7, .int .i64 0, .slice a2 vs.length p2, .slice a3 0 p3, .slice a4 0 p4], .int .i64 deep, .int .i64 left] w fun e w' => e = .returned (.int .i64 (left - 1)) ∧ Below w.heap.size w w' := by
  have b0 : ∀ o : Obj, Below w.heap.size w (w.alloc o) := fun o => (Below.refl _ _).alloc (Nat.le_refl _) o
  have Hb := hide' b0
  have HAr : Hid (∀ wx, Calls Tryd.prog 54 #[.int .i64 7] wx fun e w' => e = .returned (.int .i64 (0)) ∧ wx = w') := fun wx => l6arity_any 7 wx
  have HS : Hid (∀ wx, Below w.heap.size w wx → Calls Tryd.prog 57 #[.slice a2 vs.length p2] wx fun e w' => e = .returned (.bool (wordB vs)) ∧ Below wx.heap.size wx w') := fun wx hb => spec_l6free_any a2 p2 vs wx (s2.grow hb) hl2
  rw [hs] at HS
  have d1 : ¬ left - 1 < 0 := by omega
  have d2 : ¬ (10 : Int) < (deep : Int) := by omega
  unfold maxLen at hl2
  clear s2 hs
  clear b0
  go_enter Tryd.func28, Tryd.ntmps28
  go_wp2_with (first | (go_at_call 54; refine (HAr.out _).mono ?_; rintro e w1 ⟨rfl, e1⟩; obtain rfl := e1) | (go_at_call 57; refine (HS.out _ (Hb.out _)).mono ?_; rintro e w1 ⟨rfl, bw⟩))
  have B1 := Below.on (Hb.out _) bw
  obtain ⟨y0, y1, y2, y3, y4, _⟩ := row5 (box_row bw)
  clear bw
  go_wp2
  go_loopw [2, 8] (fun l i wr => l = .int .i64 (left - 1) ∧ i = .int .i64 0 ∧ wr = w1) (fun _ _ _ => 0)
  case atStart => exact ⟨rfl, rfl, rfl⟩
  case round =>
    obtain ⟨rfl, rfl, rfl⟩ := hrel
    go_wp2
    go_ret
    exact ⟨rfl, B1⟩
end Go.Proofs.YtfokidhamjphfaaDoor
