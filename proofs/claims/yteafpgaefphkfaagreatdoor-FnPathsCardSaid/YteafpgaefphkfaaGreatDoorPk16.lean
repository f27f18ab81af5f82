/-
  Texts that a law leans on, one behind the other; no statement is proved here.
-/
import Derived.Test.YteafpgaefphkfaaGreatDoorPk14
/-
  bare of the program: it tells whether all fields are nought that a kind does not have.
-/
namespace Go.Proofs.YteafpgaefphkfaaGreatDoor
open Go.RowKit
set_option linter.unusedVariables false
set_option linter.unusedSimpArgs false

/-- All fields are nought that the kind does not have. -/
def bareB (vk vn : Int) (n2 n3 n4 : Nat) : Bool := (decide (vk = 1) || decide (vk = 2) || decide (vn = 0)) && (decide (vk = 3) || decide (n2 = 0)) && (decide (vk = 5) || decide (n3 = 0)) && (decide (vk = 4) || decide (vk = 5) || decide (n4 = 0))

set_option maxHeartbeats 4000000 in
theorem impl_bare_any (vk vn : Int) (a2 a3 a4 : Option Addr) (n2 n3 n4 p2 p3 p4 : Nat) (w : World) :
    Calls Tryz.prog 52 #[.agg #[.int .i64 vk, .int .i64 vn, .slice a2 n2 p2, .slice a3 n3 p3, .slice a4 n4 p4]] w fun e w' => e = .returned (.bool (bareB vk vn n2 n3 n4)) ∧ Below w.heap.size w w' := by
  have Hb : Hid (∀ o : Obj, Below w.heap.size w (w.alloc o)) := fun o => (Below.refl _ _).alloc (Nat.le_refl _) o
  by_cases k1 : vk = 1
  · subst k1
    by_cases an2 : n2 = 0
    · subst an2
      by_cases an3 : n3 = 0
      · subst an3
        by_cases an4 : n4 = 0
        · subst an4
          go_enter Tryz.func52, Tryz.ntmps52
          go_wp2
          go_ret
          exact ⟨ret_bool (by simp [bareB, *]), Hb.out _⟩
        · have bn4 : ¬ (n4 : Int) = 0 := by omega
          go_enter Tryz.func52, Tryz.ntmps52
          go_wp2
          go_ret
          exact ⟨ret_bool (by simp [bareB, *]), Hb.out _⟩
      · have bn3 : ¬ (n3 : Int) = 0 := by omega
        go_enter Tryz.func52, Tryz.ntmps52
        go_wp2
        go_ret
        exact ⟨ret_bool (by simp [bareB, *]), Hb.out _⟩
    · have bn2 : ¬ (n2 : Int) = 0 := by omega
      go_enter Tryz.func52, Tryz.ntmps52
      go_wp2
      go_ret
      exact ⟨ret_bool (by simp [bareB, *]), Hb.out _⟩
  by_cases k2 : vk = 2
  · subst k2
    by_cases an2 : n2 = 0
    · subst an2
      by_cases an3 : n3 = 0
      · subst an3
        by_cases an4 : n4 = 0
        · subst an4
          go_enter Tryz.func52, Tryz.ntmps52
          go_wp2
          go_ret
          exact ⟨ret_bool (by simp [bareB, *]), Hb.out _⟩
        · have bn4 : ¬ (n4 : Int) = 0 := by omega
          go_enter Tryz.func52, Tryz.ntmps52
          go_wp2
          go_ret
          exact ⟨ret_bool (by simp [bareB, *]), Hb.out _⟩
      · have bn3 : ¬ (n3 : Int) = 0 := by omega
        go_enter Tryz.func52, Tryz.ntmps52
        go_wp2
        go_ret
        exact ⟨ret_bool (by simp [bareB, *]), Hb.out _⟩
    · have bn2 : ¬ (n2 : Int) = 0 := by omega
      go_enter Tryz.func52, Tryz.ntmps52
      go_wp2
      go_ret
      exact ⟨ret_bool (by simp [bareB, *]), Hb.out _⟩
  by_cases k3 : vk = 3
  · subst k3
    by_cases an : vn = 0
    · subst an
      by_cases an3 : n3 = 0
      · subst an3
        by_cases an4 : n4 = 0
        · subst an4
          go_enter Tryz.func52, Tryz.ntmps52
          go_wp2
          go_ret
          exact ⟨ret_bool (by simp [bareB, *]), Hb.out _⟩
        · have bn4 : ¬ (n4 : Int) = 0 := by omega
          go_enter Tryz.func52, Tryz.ntmps52
          go_wp2
          go_ret
          exact ⟨ret_bool (by simp [bareB, *]), Hb.out _⟩
      · have bn3 : ¬ (n3 : Int) = 0 := by omega
        go_enter Tryz.func52, Tryz.ntmps52
        go_wp2
        go_ret
        exact ⟨ret_bool (by simp [bareB, *]), Hb.out _⟩
    · go_enter Tryz.func52, Tryz.ntmps52
      go_wp2
      go_ret
      exact ⟨ret_bool (by simp [bareB, *]), Hb.out _⟩
  by_cases k4 : vk = 4
  · subst k4
    by_cases an : vn = 0
    · subst an
      by_cases an2 : n2 = 0
      · subst an2
        by_cases an3 : n3 = 0
        · subst an3
          go_enter Tryz.func52, Tryz.ntmps52
          go_wp2
          go_ret
          exact ⟨ret_bool (by simp [bareB, *]), Hb.out _⟩
        · have bn3 : ¬ (n3 : Int) = 0 := by omega
          go_enter Tryz.func52, Tryz.ntmps52
          go_wp2
          go_ret
          exact ⟨ret_bool (by simp [bareB, *]), Hb.out _⟩
      · have bn2 : ¬ (n2 : Int) = 0 := by omega
        go_enter Tryz.func52, Tryz.ntmps52
        go_wp2
        go_ret
        exact ⟨ret_bool (by simp [bareB, *]), Hb.out _⟩
    · go_enter Tryz.func52, Tryz.ntmps52
      go_wp2
      go_ret
      exact ⟨ret_bool (by simp [bareB, *]), Hb.out _⟩
  by_cases k5 : vk = 5
  · subst k5
    by_cases an : vn = 0
    · subst an
      by_cases an2 : n2 = 0
      · subst an2
        go_enter Tryz.func52, Tryz.ntmps52
        go_wp2
        go_ret
        exact ⟨ret_bool (by simp [bareB, *]), Hb.out _⟩
      · have bn2 : ¬ (n2 : Int) = 0 := by omega
        go_enter Tryz.func52, Tryz.ntmps52
        go_wp2
        go_ret
        exact ⟨ret_bool (by simp [bareB, *]), Hb.out _⟩
    · go_enter Tryz.func52, Tryz.ntmps52
      go_wp2
      go_ret
      exact ⟨ret_bool (by simp [bareB, *]), Hb.out _⟩
  by_cases an : vn = 0
  · subst an
    by_cases an2 : n2 = 0
    · subst an2
      by_cases an3 : n3 = 0
      · subst an3
        by_cases an4 : n4 = 0
        · subst an4
          go_enter Tryz.func52, Tryz.ntmps52
          go_wp2
          go_ret
          exact ⟨ret_bool (by simp [bareB, *]), Hb.out _⟩
        · have bn4 : ¬ (n4 : Int) = 0 := by omega
          go_enter Tryz.func52, Tryz.ntmps52
          go_wp2
          go_ret
          exact ⟨ret_bool (by simp [bareB, *]), Hb.out _⟩
      · have bn3 : ¬ (n3 : Int) = 0 := by omega
        go_enter Tryz.func52, Tryz.ntmps52
        go_wp2
        go_ret
        exact ⟨ret_bool (by simp [bareB, *]), Hb.out _⟩
    · have bn2 : ¬ (n2 : Int) = 0 := by omega
      go_enter Tryz.func52, Tryz.ntmps52
      go_wp2
      go_ret
      exact ⟨ret_bool (by simp [bareB, *]), Hb.out _⟩
  · go_enter Tryz.func52, Tryz.ntmps52
    go_wp2
    go_ret
    exact ⟨ret_bool (by simp [bareB, *]), Hb.out _⟩
end Go.Proofs.YteafpgaefphkfaaGreatDoor
