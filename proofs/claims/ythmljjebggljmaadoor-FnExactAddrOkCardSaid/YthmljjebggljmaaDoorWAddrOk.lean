/-
  FnExactAddrOk answers true, whatever slice of bytes it is handed, where the library's two sentinels hold something; it makes new memory and turns nothing old.
-/
import Derived.Test.YthmljjebggljmaaDoorAdN
import Derived.Test.YthmljjebggljmaaDoorAdO
namespace Go.Proofs.YthmljjebggljmaaDoor
open Go.RowKit
set_option linter.unusedVariables false

set_option maxHeartbeats 800000 in
theorem walk_FnExactAddrOk (a : Option Addr) (c1 : Nat) (xs : List Int) (w : World) (ha : Seg w a xs) (hm1 : xs.length ≤ maxLen) (hE : Errs w) :
    Calls Tryd.prog 4 #[.slice a xs.length c1] w fun e w' => e = .returned (.bool true) ∧ Below w.heap.size w w' := by
  unfold maxLen at hm1
  by_cases hg1 : 1048576 < xs.length
  · have hg1' : (1048576 : Int) < (xs.length : Int) := by omega
    go_enter Tryd.func4, Tryd.ntmps4
    go_wp2
    go_ret
    exact ⟨rfl, Below.refl _ _⟩
  · go_enter Tryd.func4, Tryd.ntmps4
    go_wp2_with fail
    refine (toByteS_any _ _ xs _ ha (by omega)).mono ?_
    rintro e w1 ⟨rfl, hx1, b1⟩
    go_wp2_with fail
    refine (spec_AddrOk_any _ _ xs _ hx1.seg (Nat.le_refl _) (by unfold maxLen; omega) (by simp)).mono ?_
    rintro e w3 ⟨rfl, e3⟩
    subst e3
    have B3 := b1
    clear hx1 b1
    go_wp2_with fail
    refine (toByteS_any _ _ xs _ (ha.grow B3) (by omega)).mono ?_
    rintro e w4 ⟨rfl, hx4, b4⟩
    go_wp2_with fail
    refine (impl_AddrOk_any _ _ xs _ hx4.seg (by omega) (Nat.le_refl _) (by unfold maxLen; omega) (by simp) (hE.grow (Below.on B3 b4))).mono ?_
    rintro e w6 ⟨rfl, b6⟩
    generalize addrB xs = hp at *
    have hx6 := hx4.grow b6
    have B6 := Below.on (Below.on B3 b4) b6
    clear hx4 b4 B3
    go_wp2_with fail
    refine (toByteS_any _ _ xs _ (ha.grow B6) (by omega)).mono ?_
    rintro e w7 ⟨rfl, hx7, b7⟩
    go_wp2_with fail
    refine (eqByteS_same _ _ _ _ xs _ (hx6.grow b7).seg hx7.seg (by omega)).mono ?_
    rintro e w8 ⟨rfl, b8⟩
    have B8 := Below.on (Below.on B6 b7) b8
    go_wp2
    go_ret
    exact ⟨rfl, B8⟩
end Go.Proofs.YthmljjebggljmaaDoor
