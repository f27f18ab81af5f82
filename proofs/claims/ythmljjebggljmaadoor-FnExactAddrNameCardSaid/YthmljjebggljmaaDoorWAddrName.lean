/-
  FnExactAddrName answers true, whatever slice of bytes it is handed, where the library's two sentinels hold something; it makes new memory and turns nothing old.
-/
import Derived.Test.YthmljjebggljmaaDoorAdN
import Derived.Test.YthmljjebggljmaaDoorAdO
import Derived.Test.YthmljjebggljmaaDoorHelpC
namespace Go.Proofs.YthmljjebggljmaaDoor
open Go.RowKit
set_option linter.unusedVariables false

set_option maxHeartbeats 1600000 in
theorem walk_FnExactAddrName (a : Option Addr) (c1 : Nat) (xs : List Int) (w : World) (ha : Seg w a xs) (hm1 : xs.length ≤ maxLen) (hE : Errs w) :
    Calls Tryd.prog 5 #[.slice a xs.length c1] w fun e w' => e = .returned (.bool true) ∧ Below w.heap.size w w' := by
  unfold maxLen at hm1
  by_cases hg1 : 1048576 < xs.length
  · have hg1' : (1048576 : Int) < (xs.length : Int) := by omega
    go_enter Tryd.func5, Tryd.ntmps5
    go_wp2
    go_ret
    exact ⟨rfl, Below.refl _ _⟩
  · have hPl := addrN_short xs
    go_enter Tryd.func5, Tryd.ntmps5
    go_wp2_with fail
    refine (toByteS_any _ _ xs _ ha (by omega)).mono ?_
    rintro e w1 ⟨rfl, hx1, b1⟩
    go_wp2_with fail
    refine (spec_AddrName_any _ _ xs _ hx1.seg (Nat.le_refl _) (by unfold maxLen; omega) (by simp)).mono ?_
    rintro e w2 ⟨vw, rfl, hW, b2⟩
    obtain ⟨aw, cw, rfl, _, _, _, _, _⟩ := hW.shape
    have B2 := Below.on b1 b2
    have ltW := hW.lt
    have z1 := b1.size
    clear hx1 b1 b2
    go_wp2_with fail
    refine (toByteS_any _ _ xs _ (ha.grow B2) (by omega)).mono ?_
    rintro e w3 ⟨rfl, hx3, b3⟩
    have B3 := Below.on B2 b3
    have hW3 := hW.grow b3
    have z2 := B2.size
    have ltX := hx3.lt _ rfl
    clear hW
    go_wp2_with fail
    refine (impl_AddrName_any _ _ xs _ hx3.seg (by omega) (Nat.le_refl _) (by unfold maxLen; omega) (by simp) (hE.grow B3)).mono ?_
    rintro e w4 ⟨vg, rfl, hG, b4⟩
    obtain ⟨ag, cg, rfl, _, _, _, _, _⟩ := hG.shape
    have B4 := Below.on B3 b4
    have hW4 := hW3.grow b4
    have hx4 := hx3.grow b4
    have ltG := hG.lt
    clear hx3 hW3 B3 b3 b4
    go_wp2_with fail
    refine (eqByteS_same _ _ _ _ (addrN xs) _ hG.seg hW4.seg (by omega)).mono ?_
    rintro e w5 ⟨rfl, b5⟩
    have B5 := Below.on B4 b5
    have hG5 := hG.grow b5
    have hW5 := hW4.grow b5
    have hx5 := hx4.grow b5
    clear B4 hG hW4 hx4 b5
    go_wp2_with fail
    refine (toByteS_any _ _ xs _ (ha.grow B5) (by omega)).mono ?_
    rintro e w6 ⟨rfl, hy6, b6⟩
    have B6 := Below.on B5 b6
    have hG6 := hG5.grow b6
    have hW6 := hW5.grow b6
    have hx6 := hx5.grow b6
    clear B5 hG5 hW5 hx5 b6
    go_wp2_with fail
    refine (eqByteS_same _ _ _ _ xs _ hx6.seg hy6.seg (by omega)).mono ?_
    rintro e w7 ⟨rfl, b7⟩
    have B7 := Below.on B6 b7
    have hG7 := hG6.grow b7
    have hW7 := hW6.grow b7
    have hx7 := hx6.grow b7
    clear B6 hG6 hW6 hx6 b7 hy6
    go_wp2_with fail
    refine (markByteS_any _ _ _ xs 1 _ hx7 (by omega) (by omega)).mono ?_
    rintro e w8 ⟨rfl, hx8, g8⟩
    have B8 : Below w.heap.size w w8 := Below.marked B7 g8 (by rintro x hx; simp at hx; subst hx; exact z2)
    have hW8 := hW7.away g8 (by intro x hx; have := ltW x hx; simp [Value.ownBlock]; omega)
    have hG8 := hG7.away g8 (by intro x hx; have := ltG x hx; simp [Value.ownBlock]; omega)
    clear B7 hG7 hW7 hx7 hx8 g8
    go_wp2_with fail
    refine (eqByteS_same _ _ _ _ (addrN xs) _ hG8.seg hW8.seg (by omega)).mono ?_
    rintro e w9 ⟨rfl, b9⟩
    have B9 := Below.on B8 b9
    have hG9 := hG8.grow b9
    have hW9 := hW8.grow b9
    clear B8 hG8 hW8 b9
    go_wp2_with fail
    refine (markByteS_any _ _ _ (addrN xs) 1 _ hG9 (by omega) (by omega)).mono ?_
    rintro e w10 ⟨rfl, hG10, g10⟩
    have B10 : Below w.heap.size w w10 := Below.marked B9 g10 (by intro x hx; have := ltG x hx; omega)
    have hW10 := hW9.away g10 (by
      intro x hx
      have h1 := ltW x hx
      cases ag with
      | none => simp [Value.ownBlock]
      | some y => have h2 := ltG y rfl; simp [Value.ownBlock]; omega)
    clear B9 hG9 hW9 g10
    go_wp2_with fail
    refine (heldByteS_any _ _ 1 (addrN xs).length _ hG10.seg (by omega) (by omega)).mono ?_
    rintro e w11 ⟨rfl, b11⟩
    have B11 := Below.on B10 b11
    have hG11 := hG10.grow b11
    have hW11 := hW10.grow b11
    clear B10 hG10 hW10 b11
    go_wp2_with fail
    refine (toByteS_any _ _ xs _ (ha.grow B11) (by omega)).mono ?_
    rintro e w12 ⟨rfl, hx12, b12⟩
    go_wp2_with fail
    refine (impl_AddrName_any _ _ xs _ hx12.seg (by omega) (Nat.le_refl _) (by unfold maxLen; omega) (by simp) (hE.grow (Below.on B11 b12))).mono ?_
    rintro e w13 ⟨vh, rfl, hH, b13⟩
    obtain ⟨ah, ch, rfl, _, _, _, _, _⟩ := hH.shape
    have B13 := Below.on (Below.on B11 b12) b13
    have hG13 := (hG11.grow b12).grow b13
    have hW13 := (hW11.grow b12).grow b13
    clear B11 hG11 hW11 b12 b13 hx12
    go_wp2_with fail
    refine (eqByteS_same _ _ _ _ (addrN xs) _ hH.seg hW13.seg (by omega)).mono ?_
    rintro e w14 ⟨rfl, b14⟩
    have B14 := Below.on B13 b14
    have hG14 := hG13.grow b14
    clear B13 hG13 hW13 b14 hH
    go_wp2_with fail
    refine (heldByteS_any _ _ 1 (addrN xs).length _ hG14.seg (by omega) (by omega)).mono ?_
    rintro e w15 ⟨rfl, b15⟩
    have B15 := Below.on B14 b15
    go_wp2
    go_ret
    exact ⟨rfl, B15⟩

end Go.Proofs.YthmljjebggljmaaDoor
