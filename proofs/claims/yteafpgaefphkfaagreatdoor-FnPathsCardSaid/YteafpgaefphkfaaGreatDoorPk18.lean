/-
  Texts that a law leans on, one behind the other; no statement is proved here.
-/
import Derived.Test.YteafpgaefphkfaaGreatDoorPk17
/-
  l2ok of the specification, its ways out ahead of the kinds: too many parts, too deep, a field that the kind does not have.
-/
namespace Go.Proofs.YteafpgaefphkfaaGreatDoor
open Go.RowKit
set_option linter.unusedVariables false
set_option linter.unusedSimpArgs false

set_option maxHeartbeats 4000000 in
set_option maxRecDepth 100000 in
theorem l2ok_left (vk vn : Int) (a2 a3 a4 : Option Addr) (n2 n3 n4 p2 p3 p4 : Nat) (deep : Nat) (left : Int) (w : World) (h1 : left < 1) (h2 : 0 ≤ left) :
    Calls Tryz.prog 30 #[.agg #[.int .i64 vk, .int .i64 vn, .slice a2 n2 p2, .slice a3 n3 p3, .slice a4 n4 p4], .int .i64 deep, .int .i64 left] w fun e w' => e = .returned (.int .i64 (-1)) ∧ Below w.heap.size w w' := by
  have Hb : Hid (∀ o : Obj, Below w.heap.size w (w.alloc o)) := fun o => (Below.refl _ _).alloc (Nat.le_refl _) o
  have h3 : left - 1 < 0 := by omega
  go_enter Tryz.func30, Tryz.ntmps30
  go_wp2
  go_ret
  exact ⟨rfl, Hb.out _⟩

set_option maxHeartbeats 4000000 in
set_option maxRecDepth 100000 in
theorem l2ok_deep (vk vn : Int) (a2 a3 a4 : Option Addr) (n2 n3 n4 p2 p3 p4 : Nat) (deep : Nat) (left : Int) (w : World) (h1 : 1 ≤ left) (h2 : left ≤ 40) (h3 : 5 < deep) :
    Calls Tryz.prog 30 #[.agg #[.int .i64 vk, .int .i64 vn, .slice a2 n2 p2, .slice a3 n3 p3, .slice a4 n4 p4], .int .i64 deep, .int .i64 left] w fun e w' => e = .returned (.int .i64 (-1)) ∧ Below w.heap.size w w' := by
  have Hb : Hid (∀ o : Obj, Below w.heap.size w (w.alloc o)) := fun o => (Below.refl _ _).alloc (Nat.le_refl _) o
  have h4 : ¬ left - 1 < 0 := by omega
  have h5 : (5 : Int) < (deep : Int) := by omega
  go_enter Tryz.func30, Tryz.ntmps30
  go_wp2
  go_ret
  exact ⟨rfl, Hb.out _⟩

set_option maxHeartbeats 8000000 in
set_option maxRecDepth 100000 in
theorem l2ok_bare (vk vn : Int) (a2 a3 a4 : Option Addr) (n2 n3 n4 p2 p3 p4 : Nat) (deep : Nat) (left : Int) (w : World) (h1 : 1 ≤ left) (h2 : left ≤ 40) (h3 : deep ≤ 5) (hbare : bareB vk vn n2 n3 n4 = false) :
    Calls Tryz.prog 30 #[.agg #[.int .i64 vk, .int .i64 vn, .slice a2 n2 p2, .slice a3 n3 p3, .slice a4 n4 p4], .int .i64 deep, .int .i64 left] w fun e w' => e = .returned (.int .i64 (-1)) ∧ Below w.heap.size w w' := by
  have Hb : Hid (∀ o : Obj, Below w.heap.size w (w.alloc o)) := fun o => (Below.refl _ _).alloc (Nat.le_refl _) o
  have h4 : ¬ left - 1 < 0 := by omega
  have h5 : ¬ (5 : Int) < (deep : Int) := by omega
  by_cases k1 : vk = 1
  · subst k1
    by_cases an2 : n2 = 0
    · subst an2
      by_cases an3 : n3 = 0
      · subst an3
        by_cases an4 : n4 = 0
        · subst an4
          simp [bareB, *] at hbare
        · have bn4 : (0 : Int) < (n4 : Int) := by omega
          clear hbare
          go_enter Tryz.func30, Tryz.ntmps30
          go_wp2
          go_ret
          exact ⟨rfl, Hb.out _⟩
      · have bn3 : (0 : Int) < (n3 : Int) := by omega
        clear hbare
        go_enter Tryz.func30, Tryz.ntmps30
        go_wp2
        go_ret
        exact ⟨rfl, Hb.out _⟩
    · have bn2 : (0 : Int) < (n2 : Int) := by omega
      clear hbare
      go_enter Tryz.func30, Tryz.ntmps30
      go_wp2
      go_ret
      exact ⟨rfl, Hb.out _⟩
  by_cases k2 : vk = 2
  · subst k2
    by_cases an2 : n2 = 0
    · subst an2
      by_cases an3 : n3 = 0
      · subst an3
        by_cases an4 : n4 = 0
        · subst an4
          simp [bareB, *] at hbare
        · have bn4 : (0 : Int) < (n4 : Int) := by omega
          clear hbare
          go_enter Tryz.func30, Tryz.ntmps30
          go_wp2
          go_ret
          exact ⟨rfl, Hb.out _⟩
      · have bn3 : (0 : Int) < (n3 : Int) := by omega
        clear hbare
        go_enter Tryz.func30, Tryz.ntmps30
        go_wp2
        go_ret
        exact ⟨rfl, Hb.out _⟩
    · have bn2 : (0 : Int) < (n2 : Int) := by omega
      clear hbare
      go_enter Tryz.func30, Tryz.ntmps30
      go_wp2
      go_ret
      exact ⟨rfl, Hb.out _⟩
  by_cases k3 : vk = 3
  · subst k3
    by_cases an3 : n3 = 0
    · subst an3
      by_cases an : vn = 0
      · subst an
        by_cases an4 : n4 = 0
        · subst an4
          simp [bareB, *] at hbare
        · have bn4 : (0 : Int) < (n4 : Int) := by omega
          clear hbare
          go_enter Tryz.func30, Tryz.ntmps30
          go_wp2
          go_ret
          exact ⟨rfl, Hb.out _⟩
      · clear hbare
        go_enter Tryz.func30, Tryz.ntmps30
        go_wp2
        go_ret
        exact ⟨rfl, Hb.out _⟩
    · have bn3 : (0 : Int) < (n3 : Int) := by omega
      clear hbare
      go_enter Tryz.func30, Tryz.ntmps30
      go_wp2
      go_ret
      exact ⟨rfl, Hb.out _⟩
  by_cases k4 : vk = 4
  · subst k4
    by_cases an2 : n2 = 0
    · subst an2
      by_cases an3 : n3 = 0
      · subst an3
        by_cases an : vn = 0
        · subst an
          simp [bareB, *] at hbare
        · clear hbare
          go_enter Tryz.func30, Tryz.ntmps30
          go_wp2
          go_ret
          exact ⟨rfl, Hb.out _⟩
      · have bn3 : (0 : Int) < (n3 : Int) := by omega
        clear hbare
        go_enter Tryz.func30, Tryz.ntmps30
        go_wp2
        go_ret
        exact ⟨rfl, Hb.out _⟩
    · have bn2 : (0 : Int) < (n2 : Int) := by omega
      clear hbare
      go_enter Tryz.func30, Tryz.ntmps30
      go_wp2
      go_ret
      exact ⟨rfl, Hb.out _⟩
  by_cases k5 : vk = 5
  · subst k5
    by_cases an2 : n2 = 0
    · subst an2
      by_cases an : vn = 0
      · subst an
        simp [bareB, *] at hbare
      · clear hbare
        go_enter Tryz.func30, Tryz.ntmps30
        go_wp2
        go_ret
        exact ⟨rfl, Hb.out _⟩
    · have bn2 : (0 : Int) < (n2 : Int) := by omega
      clear hbare
      go_enter Tryz.func30, Tryz.ntmps30
      go_wp2
      go_ret
      exact ⟨rfl, Hb.out _⟩
  have q1 : (vk != 1) = true := by simp [k1]
  have q2 : (vk != 2) = true := by simp [k2]
  have q3 : (vk != 3) = true := by simp [k3]
  have q4 : (vk != 4) = true := by simp [k4]
  have q5 : (vk != 5) = true := by simp [k5]
  by_cases an2 : n2 = 0
  · subst an2
    by_cases an3 : n3 = 0
    · subst an3
      by_cases an : vn = 0
      · subst an
        by_cases an4 : n4 = 0
        · subst an4
          simp [bareB, *] at hbare
        · have bn4 : (0 : Int) < (n4 : Int) := by omega
          clear hbare
          go_enter Tryz.func30, Tryz.ntmps30
          go_wp2
          go_ret
          exact ⟨rfl, Hb.out _⟩
      · clear hbare
        go_enter Tryz.func30, Tryz.ntmps30
        go_wp2
        go_ret
        exact ⟨rfl, Hb.out _⟩
    · have bn3 : (0 : Int) < (n3 : Int) := by omega
      clear hbare
      go_enter Tryz.func30, Tryz.ntmps30
      go_wp2
      go_ret
      exact ⟨rfl, Hb.out _⟩
  · have bn2 : (0 : Int) < (n2 : Int) := by omega
    clear hbare
    go_enter Tryz.func30, Tryz.ntmps30
    go_wp2
    go_ret
    exact ⟨rfl, Hb.out _⟩
end Go.Proofs.YteafpgaefphkfaaGreatDoor
