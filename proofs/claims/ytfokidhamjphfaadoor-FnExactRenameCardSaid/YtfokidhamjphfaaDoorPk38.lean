/-
  Texts that a law leans on, one behind the other; no statement is proved here.
-/
import Derived.Test.YtfokidhamjphfaaDoorPk34
/-
  l6expr of the specification where something is wrong ahead of the kids: -1.
-/
namespace Go.Proofs.YtfokidhamjphfaaDoor
open Go.RowKit
set_option linter.unusedVariables false
set_option linter.unusedSimpArgs false

set_option maxHeartbeats 4000000 in
set_option maxRecDepth 100000 in
theorem l6bad_c1 (n : Int) (a2 a3 a4 : Option Addr) (p2 p3 p4 l3 l4 : Nat) (vs : List Int) (deep : Nat) (left : Int) (w : World)
    (h1 : 1 ≤ left) (h2 : left ≤ 150) (h3 : deep ≤ 10) (s2 : Seg w a2 vs) (hl2 : vs.length ≤ maxLen) (hl3 : l3 ≤ maxLen) (hl4 : l4 ≤ maxLen) (hbad : hdR false (0) 1 n l3 l4 (decide (vs.length = 0)) = false) :
    Calls Tryd.prog 28 #[.agg #[.int .i64 1, .int .i64 n, .slice a2 vs.length p2, .slice a3 l3 p3, .slice a4 l4 p4], .int .i64 deep, .int .i64 left] w fun e w' => e = .returned (.int .i64 (-1)) ∧ Below w.heap.size w w' := by
  have b0 : ∀ o : Obj, Below w.heap.size w (w.alloc o) := fun o => (Below.refl _ _).alloc (Nat.le_refl _) o
  have Hb := hide' b0
  have HAr : Hid (∀ wx, Calls Tryd.prog 54 #[.int .i64 1] wx fun e w' => e = .returned (.int .i64 (0)) ∧ wx = w') := fun wx => l6arity_any 1 wx
  have Hbad := hide' hbad
  have d1 : ¬ left - 1 < 0 := by omega
  have d2 : ¬ (10 : Int) < (deep : Int) := by omega
  unfold maxLen at hl2 hl3 hl4
  clear b0 hbad s2
  go_enter Tryd.func28, Tryd.ntmps28
  go_wp2_with (first | (go_at_call 54; refine (HAr.out _).mono ?_; rintro e w1 ⟨rfl, e1⟩; obtain rfl := e1))
  all_goals first
    | (go_ret; exact ⟨rfl, Hb.out _⟩)
    | (exfalso; have hbad := Hbad.out; clear Hbad HAr Hb; go_light; simp [hdR] at hbad; simp_all <;> omega)

set_option maxHeartbeats 4000000 in
set_option maxRecDepth 100000 in
theorem l6bad_c2 (n : Int) (a2 a3 a4 : Option Addr) (p2 p3 p4 l3 l4 : Nat) (vs : List Int) (deep : Nat) (left : Int) (w : World)
    (h1 : 1 ≤ left) (h2 : left ≤ 150) (h3 : deep ≤ 10) (s2 : Seg w a2 vs) (hl2 : vs.length ≤ maxLen) (hl3 : l3 ≤ maxLen) (hl4 : l4 ≤ maxLen) (hbad : hdR false (0) 1000000000000 n l3 l4 (decide (vs.length = 0)) = false) :
    Calls Tryd.prog 28 #[.agg #[.int .i64 2, .int .i64 n, .slice a2 vs.length p2, .slice a3 l3 p3, .slice a4 l4 p4], .int .i64 deep, .int .i64 left] w fun e w' => e = .returned (.int .i64 (-1)) ∧ Below w.heap.size w w' := by
  have b0 : ∀ o : Obj, Below w.heap.size w (w.alloc o) := fun o => (Below.refl _ _).alloc (Nat.le_refl _) o
  have Hb := hide' b0
  have HAr : Hid (∀ wx, Calls Tryd.prog 54 #[.int .i64 2] wx fun e w' => e = .returned (.int .i64 (0)) ∧ wx = w') := fun wx => l6arity_any 2 wx
  have Hbad := hide' hbad
  have d1 : ¬ left - 1 < 0 := by omega
  have d2 : ¬ (10 : Int) < (deep : Int) := by omega
  unfold maxLen at hl2 hl3 hl4
  clear b0 hbad s2
  go_enter Tryd.func28, Tryd.ntmps28
  go_wp2_with (first | (go_at_call 54; refine (HAr.out _).mono ?_; rintro e w1 ⟨rfl, e1⟩; obtain rfl := e1))
  all_goals first
    | (go_ret; exact ⟨rfl, Hb.out _⟩)
    | (exfalso; have hbad := Hbad.out; clear Hbad HAr Hb; go_light; simp [hdR] at hbad; simp_all <;> omega)

set_option maxHeartbeats 4000000 in
set_option maxRecDepth 100000 in
theorem l6bad_c3 (n : Int) (a2 a3 a4 : Option Addr) (p2 p3 p4 l3 l4 : Nat) (vs : List Int) (deep : Nat) (left : Int) (w : World)
    (h1 : 1 ≤ left) (h2 : left ≤ 150) (h3 : deep ≤ 10) (s2 : Seg w a2 vs) (hl2 : vs.length ≤ maxLen) (hl3 : l3 ≤ maxLen) (hl4 : l4 ≤ maxLen) (hbad : hdR false (0) 0 n l3 l4 (textB vs) = false) :
    Calls Tryd.prog 28 #[.agg #[.int .i64 3, .int .i64 n, .slice a2 vs.length p2, .slice a3 l3 p3, .slice a4 l4 p4], .int .i64 deep, .int .i64 left] w fun e w' => e = .returned (.int .i64 (-1)) ∧ Below w.heap.size w w' := by
  have b0 : ∀ o : Obj, Below w.heap.size w (w.alloc o) := fun o => (Below.refl _ _).alloc (Nat.le_refl _) o
  have Hb := hide' b0
  have HAr : Hid (∀ wx, Calls Tryd.prog 54 #[.int .i64 3] wx fun e w' => e = .returned (.int .i64 (0)) ∧ wx = w') := fun wx => l6arity_any 3 wx
  have HS : Hid (∀ wx, Below w.heap.size w wx → Calls Tryd.prog 55 #[.slice a2 vs.length p2] wx fun e w' => e = .returned (.bool (textB vs)) ∧ wx = w') := fun wx hb => spec_l2text_any a2 p2 vs wx (s2.grow hb) hl2
  generalize textB vs = sb at *
  have Hbad := hide' hbad
  have d1 : ¬ left - 1 < 0 := by omega
  have d2 : ¬ (10 : Int) < (deep : Int) := by omega
  unfold maxLen at hl2 hl3 hl4
  clear b0 hbad s2
  cases sb
  all_goals
    go_enter Tryd.func28, Tryd.ntmps28
    go_wp2_with (first | (go_at_call 54; refine (HAr.out _).mono ?_; rintro e w1 ⟨rfl, e1⟩; obtain rfl := e1) | (go_at_call 55; refine (HS.out _ (Hb.out _)).mono ?_; rintro e w1 ⟨rfl, e1⟩; obtain rfl := e1))
    all_goals first
      | (go_ret; exact ⟨rfl, Hb.out _⟩)
      | (exfalso; have hbad := Hbad.out; clear Hbad HAr Hb; go_light; simp [hdR] at hbad; simp_all <;> omega)

set_option maxHeartbeats 4000000 in
set_option maxRecDepth 100000 in
theorem l6bad_c4 (n : Int) (a2 a3 a4 : Option Addr) (p2 p3 p4 l3 l4 : Nat) (vs : List Int) (deep : Nat) (left : Int) (w : World)
    (h1 : 1 ≤ left) (h2 : left ≤ 150) (h3 : deep ≤ 10) (s2 : Seg w a2 vs) (hl2 : vs.length ≤ maxLen) (hl3 : l3 ≤ maxLen) (hl4 : l4 ≤ maxLen) (hbad : hdR false (-1) 0 n l3 l4 (decide (vs.length = 0)) = false) :
    Calls Tryd.prog 28 #[.agg #[.int .i64 4, .int .i64 n, .slice a2 vs.length p2, .slice a3 l3 p3, .slice a4 l4 p4], .int .i64 deep, .int .i64 left] w fun e w' => e = .returned (.int .i64 (-1)) ∧ Below w.heap.size w w' := by
  have b0 : ∀ o : Obj, Below w.heap.size w (w.alloc o) := fun o => (Below.refl _ _).alloc (Nat.le_refl _) o
  have Hb := hide' b0
  have HAr : Hid (∀ wx, Calls Tryd.prog 54 #[.int .i64 4] wx fun e w' => e = .returned (.int .i64 (-1)) ∧ wx = w') := fun wx => l6arity_any 4 wx
  have Hbad := hide' hbad
  have d1 : ¬ left - 1 < 0 := by omega
  have d2 : ¬ (10 : Int) < (deep : Int) := by omega
  unfold maxLen at hl2 hl3 hl4
  clear b0 hbad s2
  go_enter Tryd.func28, Tryd.ntmps28
  go_wp2_with (first | (go_at_call 54; refine (HAr.out _).mono ?_; rintro e w1 ⟨rfl, e1⟩; obtain rfl := e1))
  all_goals first
    | (go_ret; exact ⟨rfl, Hb.out _⟩)
    | (exfalso; have hbad := Hbad.out; clear Hbad HAr Hb; go_light; simp [hdR] at hbad; simp_all <;> omega)

set_option maxHeartbeats 4000000 in
set_option maxRecDepth 100000 in
theorem l6bad_c5 (n : Int) (a2 a3 a4 : Option Addr) (p2 p3 p4 l3 l4 : Nat) (vs : List Int) (deep : Nat) (left : Int) (w : World)
    (h1 : 1 ≤ left) (h2 : left ≤ 150) (h3 : deep ≤ 10) (s2 : Seg w a2 vs) (hl2 : vs.length ≤ maxLen) (hl3 : l3 ≤ maxLen) (hl4 : l4 ≤ maxLen) (hbad : hdR true (-1) 0 n l3 l4 (decide (vs.length = 0)) = false) :
    Calls Tryd.prog 28 #[.agg #[.int .i64 5, .int .i64 n, .slice a2 vs.length p2, .slice a3 l3 p3, .slice a4 l4 p4], .int .i64 deep, .int .i64 left] w fun e w' => e = .returned (.int .i64 (-1)) ∧ Below w.heap.size w w' := by
  have b0 : ∀ o : Obj, Below w.heap.size w (w.alloc o) := fun o => (Below.refl _ _).alloc (Nat.le_refl _) o
  have Hb := hide' b0
  have HAr : Hid (∀ wx, Calls Tryd.prog 54 #[.int .i64 5] wx fun e w' => e = .returned (.int .i64 (-1)) ∧ wx = w') := fun wx => l6arity_any 5 wx
  have Hbad := hide' hbad
  have d1 : ¬ left - 1 < 0 := by omega
  have d2 : ¬ (10 : Int) < (deep : Int) := by omega
  unfold maxLen at hl2 hl3 hl4
  clear b0 hbad s2
  go_enter Tryd.func28, Tryd.ntmps28
  go_wp2_with (first | (go_at_call 54; refine (HAr.out _).mono ?_; rintro e w1 ⟨rfl, e1⟩; obtain rfl := e1))
  all_goals first
    | (go_ret; exact ⟨rfl, Hb.out _⟩)
    | (exfalso; have hbad := Hbad.out; clear Hbad HAr Hb; go_light; simp [hdR] at hbad; simp_all <;> omega)

set_option maxHeartbeats 4000000 in
set_option maxRecDepth 100000 in
theorem l6bad_c6 (n : Int) (a2 a3 a4 : Option Addr) (p2 p3 p4 l3 l4 : Nat) (vs : List Int) (deep : Nat) (left : Int) (w : World)
    (h1 : 1 ≤ left) (h2 : left ≤ 150) (h3 : deep ≤ 10) (s2 : Seg w a2 vs) (hl2 : vs.length ≤ maxLen) (hl3 : l3 ≤ maxLen) (hl4 : l4 ≤ maxLen) (hbad : hdR false (0) 0 n l3 l4 (nameB vs) = false) :
    Calls Tryd.prog 28 #[.agg #[.int .i64 6, .int .i64 n, .slice a2 vs.length p2, .slice a3 l3 p3, .slice a4 l4 p4], .int .i64 deep, .int .i64 left] w fun e w' => e = .returned (.int .i64 (-1)) ∧ Below w.heap.size w w' := by
  have b0 : ∀ o : Obj, Below w.heap.size w (w.alloc o) := fun o => (Below.refl _ _).alloc (Nat.le_refl _) o
  have Hb := hide' b0
  have HAr : Hid (∀ wx, Calls Tryd.prog 54 #[.int .i64 6] wx fun e w' => e = .returned (.int .i64 (0)) ∧ wx = w') := fun wx => l6arity_any 6 wx
  have HS : Hid (∀ wx, Below w.heap.size w wx → Calls Tryd.prog 35 #[.slice a2 vs.length p2] wx fun e w' => e = .returned (.bool (nameB vs)) ∧ wx = w') := fun wx hb => spec_NameOk_any a2 p2 vs wx (s2.grow hb) hl2
  generalize nameB vs = sb at *
  have Hbad := hide' hbad
  have d1 : ¬ left - 1 < 0 := by omega
  have d2 : ¬ (10 : Int) < (deep : Int) := by omega
  unfold maxLen at hl2 hl3 hl4
  clear b0 hbad s2
  cases sb
  all_goals
    go_enter Tryd.func28, Tryd.ntmps28
    go_wp2_with (first | (go_at_call 54; refine (HAr.out _).mono ?_; rintro e w1 ⟨rfl, e1⟩; obtain rfl := e1) | (go_at_call 35; refine (HS.out _ (Hb.out _)).mono ?_; rintro e w1 ⟨rfl, e1⟩; obtain rfl := e1))
    all_goals first
      | (go_ret; exact ⟨rfl, Hb.out _⟩)
      | (exfalso; have hbad := Hbad.out; clear Hbad HAr Hb; go_light; simp [hdR] at hbad; simp_all <;> omega)

set_option maxHeartbeats 4000000 in
set_option maxRecDepth 100000 in
theorem l6bad_c7 (n : Int) (a2 a3 a4 : Option Addr) (p2 p3 p4 l3 l4 : Nat) (vs : List Int) (deep : Nat) (left : Int) (w : World)
    (h1 : 1 ≤ left) (h2 : left ≤ 150) (h3 : deep ≤ 10) (s2 : Seg w a2 vs) (hl2 : vs.length ≤ maxLen) (hl3 : l3 ≤ maxLen) (hl4 : l4 ≤ maxLen) (hbad : hdR false (0) 0 n l3 l4 (wordB vs) = false) :
    Calls Tryd.prog 28 #[.agg #[.int .i64 7, .int .i64 n, .slice a2 vs.length p2, .slice a3 l3 p3, .slice a4 l4 p4], .int .i64 deep, .int .i64 left] w fun e w' => e = .returned (.int .i64 (-1)) ∧ Below w.heap.size w w' := by
  have b0 : ∀ o : Obj, Below w.heap.size w (w.alloc o) := fun o => (Below.refl _ _).alloc (Nat.le_refl _) o
  have Hb := hide' b0
  have HAr : Hid (∀ wx, Calls Tryd.prog 54 #[.int .i64 7] wx fun e w' => e = .returned (.int .i64 (0)) ∧ wx = w') := fun wx => l6arity_any 7 wx
  have HS : Hid (∀ wx, Below w.heap.size w wx → Calls Tryd.prog 57 #[.slice a2 vs.length p2] wx fun e w' => e = .returned (.bool (wordB vs)) ∧ Below wx.heap.size wx w') := fun wx hb => spec_l6free_any a2 p2 vs wx (s2.grow hb) hl2
  generalize wordB vs = sb at *
  have Hbad := hide' hbad
  have d1 : ¬ left - 1 < 0 := by omega
  have d2 : ¬ (10 : Int) < (deep : Int) := by omega
  unfold maxLen at hl2 hl3 hl4
  clear b0 hbad s2
  cases sb
  all_goals
    go_enter Tryd.func28, Tryd.ntmps28
    go_wp2_with (first | (go_at_call 54; refine (HAr.out _).mono ?_; rintro e w1 ⟨rfl, e1⟩; obtain rfl := e1) | (go_at_call 57; refine (HS.out _ (Hb.out _)).mono ?_; rintro e w1 ⟨rfl, bw⟩))
    all_goals first
      | (go_ret; exact ⟨rfl, Hb.out _⟩)
      | (go_ret; exact ⟨rfl, Below.on (Hb.out _) bw⟩)
      | (exfalso; have hbad := Hbad.out; clear Hbad HAr Hb; go_light; simp [hdR] at hbad; simp_all <;> omega)

set_option maxHeartbeats 4000000 in
set_option maxRecDepth 100000 in
theorem l6bad_c8 (n : Int) (a2 a3 a4 : Option Addr) (p2 p3 p4 l3 l4 : Nat) (vs : List Int) (deep : Nat) (left : Int) (w : World)
    (h1 : 1 ≤ left) (h2 : left ≤ 150) (h3 : deep ≤ 10) (s2 : Seg w a2 vs) (hl2 : vs.length ≤ maxLen) (hl3 : l3 ≤ maxLen) (hl4 : l4 ≤ maxLen) (hbad : hdR false (1) 0 n l3 l4 (nameB vs) = false) :
    Calls Tryd.prog 28 #[.agg #[.int .i64 8, .int .i64 n, .slice a2 vs.length p2, .slice a3 l3 p3, .slice a4 l4 p4], .int .i64 deep, .int .i64 left] w fun e w' => e = .returned (.int .i64 (-1)) ∧ Below w.heap.size w w' := by
  have b0 : ∀ o : Obj, Below w.heap.size w (w.alloc o) := fun o => (Below.refl _ _).alloc (Nat.le_refl _) o
  have Hb := hide' b0
  have HAr : Hid (∀ wx, Calls Tryd.prog 54 #[.int .i64 8] wx fun e w' => e = .returned (.int .i64 (1)) ∧ wx = w') := fun wx => l6arity_any 8 wx
  have HS : Hid (∀ wx, Below w.heap.size w wx → Calls Tryd.prog 35 #[.slice a2 vs.length p2] wx fun e w' => e = .returned (.bool (nameB vs)) ∧ wx = w') := fun wx hb => spec_NameOk_any a2 p2 vs wx (s2.grow hb) hl2
  generalize nameB vs = sb at *
  have Hbad := hide' hbad
  have d1 : ¬ left - 1 < 0 := by omega
  have d2 : ¬ (10 : Int) < (deep : Int) := by omega
  unfold maxLen at hl2 hl3 hl4
  clear b0 hbad s2
  cases sb
  all_goals
    go_enter Tryd.func28, Tryd.ntmps28
    go_wp2_with (first | (go_at_call 54; refine (HAr.out _).mono ?_; rintro e w1 ⟨rfl, e1⟩; obtain rfl := e1) | (go_at_call 35; refine (HS.out _ (Hb.out _)).mono ?_; rintro e w1 ⟨rfl, e1⟩; obtain rfl := e1))
    all_goals first
      | (go_ret; exact ⟨rfl, Hb.out _⟩)
      | (exfalso; have hbad := Hbad.out; clear Hbad HAr Hb; go_light; simp [hdR] at hbad; simp_all <;> omega)

set_option maxHeartbeats 4000000 in
set_option maxRecDepth 100000 in
theorem l6bad_c23 (n : Int) (a2 a3 a4 : Option Addr) (p2 p3 p4 l3 l4 : Nat) (vs : List Int) (deep : Nat) (left : Int) (w : World)
    (h1 : 1 ≤ left) (h2 : left ≤ 150) (h3 : deep ≤ 10) (s2 : Seg w a2 vs) (hl2 : vs.length ≤ maxLen) (hl3 : l3 ≤ maxLen) (hl4 : l4 ≤ maxLen) (hbad : hdR false (-1) 0 n l3 l4 (wordB vs) = false) :
    Calls Tryd.prog 28 #[.agg #[.int .i64 23, .int .i64 n, .slice a2 vs.length p2, .slice a3 l3 p3, .slice a4 l4 p4], .int .i64 deep, .int .i64 left] w fun e w' => e = .returned (.int .i64 (-1)) ∧ Below w.heap.size w w' := by
  have b0 : ∀ o : Obj, Below w.heap.size w (w.alloc o) := fun o => (Below.refl _ _).alloc (Nat.le_refl _) o
  have Hb := hide' b0
  have HAr : Hid (∀ wx, Calls Tryd.prog 54 #[.int .i64 23] wx fun e w' => e = .returned (.int .i64 (-1)) ∧ wx = w') := fun wx => l6arity_any 23 wx
  have HS : Hid (∀ wx, Below w.heap.size w wx → Calls Tryd.prog 35 #[.slice a2 vs.length p2] wx fun e w' => e = .returned (.bool (nameB vs)) ∧ wx = w') := fun wx hb => spec_NameOk_any a2 p2 vs wx (s2.grow hb) hl2
  have HS2 : Hid (∀ wx, Below w.heap.size w wx → Calls Tryd.prog 56 #[.slice a2 vs.length p2] wx fun e w' => e = .returned (.bool (keptB vs)) ∧ Below wx.heap.size wx w') := fun wx hb => spec_l6kept_any a2 p2 vs wx (s2.grow hb)
  have hw : wordB vs = (nameB vs && !keptB vs) := rfl
  rw [hw] at hbad
  clear hw
  generalize nameB vs = sb at *
  generalize keptB vs = kp at *
  have Hbad := hide' hbad
  have d1 : ¬ left - 1 < 0 := by omega
  have d2 : ¬ (10 : Int) < (deep : Int) := by omega
  unfold maxLen at hl2 hl3 hl4
  clear b0 hbad s2
  cases sb <;> cases kp
  all_goals
    go_enter Tryd.func28, Tryd.ntmps28
    go_wp2_with (first | (go_at_call 54; refine (HAr.out _).mono ?_; rintro e w1 ⟨rfl, e1⟩; obtain rfl := e1) | (go_at_call 35; refine (HS.out _ (Hb.out _)).mono ?_; rintro e w1 ⟨rfl, e1⟩; obtain rfl := e1) | (go_at_call 56; refine (HS2.out _ (Hb.out _)).mono ?_; rintro e w1 ⟨rfl, bw⟩))
    all_goals first
      | (go_ret; exact ⟨rfl, Hb.out _⟩)
      | (go_ret; exact ⟨rfl, Below.on (Hb.out _) bw⟩)
      | (exfalso; have hbad := Hbad.out; clear Hbad HAr Hb; go_light; simp [hdR] at hbad; simp_all <;> omega)
end Go.Proofs.YtfokidhamjphfaaDoor
