/-
  FnExactGetNum answers true, whatever slice of bytes and place it is handed; it makes new memory and turns nothing old.
-/
import Derived.Test.YtlfbpmnpjbegdaaImplGet
namespace Go.Proofs.Ytlfbpmnpjbegdaa
open Go.RowKit
set_option linter.unusedVariables false

set_option maxHeartbeats 1600000 in
theorem walk_FnExactGetNum (a : Option Addr) (c1 : Nat) (xs : List Int) (n : Int) (w : World) (ha : Seg w a xs) (hm1 : xs.length ≤ maxLen) (hn : n ≤ 9223372036854775807) :
    Calls Try.prog 6 #[.slice a xs.length c1, .int .i64 n] w fun e w' => e = .returned (.bool true) ∧ Below w.heap.size w w' := by
  unfold maxLen at hm1
  by_cases hg1 : 1048576 < xs.length
  · have hg1' : (1048576 : Int) < (xs.length : Int) := by omega
    go_enter Try.func6, Try.ntmps6
    go_wp2
    go_ret
    exact ⟨rfl, Below.refl _ _⟩
  · go_enter Try.func6, Try.ntmps6
    go_wp2_with fail
    refine (toByteS_any _ _ xs _ ha (by omega)).mono ?_
    rintro e w1 ⟨rfl, hx1, b1⟩
    go_wp2_with fail
    refine (spec_GetNum_any _ _ xs n _ hx1.seg (by omega) hn).mono ?_
    rintro e w2 ⟨rfl, b2⟩
    have B2 := Below.on b1 b2
    clear hx1 b1 b2
    go_wp2_with fail
    refine (toByteS_any _ _ xs _ (ha.grow B2) (by omega)).mono ?_
    rintro e w3 ⟨rfl, hx3, b3⟩
    have B3 := Below.on B2 b3
    go_wp2_with fail
    refine (impl_GetNum_any _ _ xs n _ hx3.seg (by omega) hn).mono ?_
    rintro e w4 ⟨rfl, b4⟩
    have B4 := Below.on B3 b4
    have hx4 := hx3.grow b4
    generalize getNum xs n = r at *
    clear hx3 B3 B2 b3 b4
    go_wp2_with fail
    refine (toByteS_any _ _ xs _ (ha.grow B4) (by omega)).mono ?_
    rintro e w5 ⟨rfl, hx5, b5⟩
    go_wp2_with fail
    refine (eqByteS_same _ _ _ _ xs _ (hx4.grow b5).seg hx5.seg (by omega)).mono ?_
    rintro e w6 ⟨rfl, b6⟩
    have B6 := Below.on (Below.on B4 b5) b6
    go_wp2
    go_ret
    exact ⟨rfl, B6⟩
end Go.Proofs.Ytlfbpmnpjbegdaa
