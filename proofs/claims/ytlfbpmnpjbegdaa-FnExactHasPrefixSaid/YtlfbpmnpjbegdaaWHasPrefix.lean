/-
  FnExactHasPrefix answers true, whatever two slices of bytes it is handed; it makes new memory and turns nothing old.
-/
import Derived.Test.YtlfbpmnpjbegdaaStrs
namespace Go.Proofs.Ytlfbpmnpjbegdaa
open Go.RowKit
set_option linter.unusedVariables false

set_option maxHeartbeats 800000 in
theorem walk_FnExactHasPrefix (a b : Option Addr) (c1 c2 : Nat) (xs ys : List Int) (w : World) (ha : Seg w a xs) (hb : Seg w b ys) (hm1 : xs.length ≤ maxLen) (hm2 : ys.length ≤ maxLen) :
    Calls Try.prog 10 #[.slice a xs.length c1, .slice b ys.length c2] w fun e w' => e = .returned (.bool true) ∧ Below w.heap.size w w' := by
  unfold maxLen at hm1 hm2
  by_cases hg1 : 1048576 < xs.length
  · have hg1' : (1048576 : Int) < (xs.length : Int) := by omega
    go_enter Try.func10, Try.ntmps10
    go_wp2
    go_ret
    exact ⟨rfl, Below.refl _ _⟩
  · by_cases hg2 : 1048576 < ys.length
    · have hg2' : (1048576 : Int) < (ys.length : Int) := by omega
      go_enter Try.func10, Try.ntmps10
      go_wp2
      go_ret
      exact ⟨rfl, Below.refl _ _⟩
    · go_enter Try.func10, Try.ntmps10
      go_wp2_with fail
      refine (toByteS_any _ _ xs _ ha (by omega)).mono ?_
      rintro e w1 ⟨rfl, hx1, b1⟩
      go_wp2_with fail
      refine (toByteS_any _ _ ys _ (hb.grow b1) (by omega)).mono ?_
      rintro e w2 ⟨rfl, hy2, b2⟩
      go_wp2_with fail
      refine (spec_HasPrefix_any _ _ _ _ xs ys _ (hx1.grow b2).seg hy2.seg (Nat.le_refl _) (by unfold maxLen; omega) (by unfold maxLen; omega)).mono ?_
      rintro e w3 ⟨rfl, b3⟩
      have B3 := Below.on (Below.on b1 b2) b3
      clear hx1 hy2 b1 b2 b3
      go_wp2_with fail
      refine (toByteS_any _ _ xs _ (ha.grow B3) (by omega)).mono ?_
      rintro e w4 ⟨rfl, hx4, b4⟩
      go_wp2_with fail
      refine (toByteS_any _ _ ys _ (hb.grow (Below.on B3 b4)) (by omega)).mono ?_
      rintro e w5 ⟨rfl, hy5, b5⟩
      have hx5 := hx4.grow b5
      go_wp2_with fail
      refine (impl_HasPrefix_any _ _ _ _ xs ys _ hx5.seg hy5.seg (Nat.le_refl _) (by unfold maxLen; omega) (by unfold maxLen; omega)).mono ?_
      rintro e w6 ⟨rfl, e6⟩
      have b6 : Below w5.heap.size w5 w6 := by rw [e6]; exact Below.refl _ _
      clear e6
      generalize hasPre xs ys = hp at *
      have hx6 := hx5.grow b6
      have hy6 := hy5.grow b6
      have B6 := Below.on (Below.on (Below.on B3 b4) b5) b6
      clear hx4 hx5 hy5 b4 b5 b6 B3
      go_wp2_with fail
      refine (toByteS_any _ _ xs _ (ha.grow B6) (by omega)).mono ?_
      rintro e w7 ⟨rfl, hx7, b7⟩
      go_wp2_with fail
      refine (eqByteS_same _ _ _ _ xs _ (hx6.grow b7).seg hx7.seg (by omega)).mono ?_
      rintro e w8 ⟨rfl, b8⟩
      have B8 := Below.on (Below.on B6 b7) b8
      have hy8 := (hy6.grow b7).grow b8
      clear hx6 hx7 b7 b8 B6
      go_wp2_with fail
      refine (toByteS_any _ _ ys _ (hb.grow B8) (by omega)).mono ?_
      rintro e w9 ⟨rfl, hy9, b9⟩
      go_wp2_with fail
      refine (eqByteS_same _ _ _ _ ys _ (hy8.grow b9).seg hy9.seg (by omega)).mono ?_
      rintro e w10 ⟨rfl, b10⟩
      have B10 := Below.on (Below.on B8 b9) b10
      go_wp2
      go_ret
      exact ⟨rfl, B10⟩
end Go.Proofs.Ytlfbpmnpjbegdaa
