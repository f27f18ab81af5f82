/-
  A value that may be has few keys, and short ones.
-/
import Derived.Test.YtkklhdeecamifaaValA
namespace Go.Proofs.Ytkklhdeecamifaa
open Go.RowKit Go.Shelf
set_option linter.unusedVariables false
set_option linter.unusedSimpArgs false

theorem keys_bound {d : Nat} {vk vn : Int} {vs : List Int} {vK : List (List Int)} {vL : List (Vl d)} (hok : okB (d + 1) (vk, vn, vs, vK, vL) = true) : vK.length ≤ 40 ∧ ∀ i, i < vK.length → (vK.getD i []).length ≤ 1000 := by
  simp only [okB, Bool.and_eq_true, decide_eq_true_eq] at hok
  obtain ⟨_, hsh, hgk⟩ := (good_succ _ _ _ _ _ _ _).1 hok.1
  rcases (shape_zero hsh).2.2.1 with h5 | h5
  · subst h5
    obtain ⟨hkl, hasc⟩ := shape_mapB hsh
    have hlen : vL.length ≤ 40 := by
      cases d with
      | zero =>
        cases vL with
        | nil => simp
        | cons x r => have := hgk 0 (by simp); exact absurd this (by simp [goodB])
      | succ d => exact parts_many hok.2
    refine ⟨by omega, fun i hi => (step_name ?_).2⟩
    rw [ascB, List.all_eq_true] at hasc
    exact hasc i (List.mem_range.2 hi)
  · subst h5
    exact ⟨by simp, by simp⟩

end Go.Proofs.Ytkklhdeecamifaa
