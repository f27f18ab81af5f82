/-
  FnExactPathOk answers true, whatever path it is handed; it makes new memory and turns nothing old.
-/
import Derived.Test.YtliheeiooppnbaaPthOk
namespace Go.Proofs.Ytliheeiooppnbaa
open Go.RowKit
set_option linter.unusedVariables false

/-- A path that came in is of this shape. -/
theorem PthSeg.form {R : Nat → Prop} {w : World} {x : Value} {l : List Stp} (h : PthSeg R w x l) : ∃ a n p, x = .slice a n p := by
  obtain ⟨a, cap, h1, _⟩ := h
  exact ⟨_, _, _, h1⟩

set_option maxHeartbeats 1600000 in
theorem walk_FnExactPathOk (x : Value) (l : List Stp) (w : World) (hx : PthSeg (fun b => b < w.heap.size) w x l) :
    Calls Try.prog 3 #[x] w fun e w' => e = .returned (.bool true) ∧ Below w.heap.size w w' := by
  have HV : Hid (∀ wx, Below w.heap.size w wx → PthSeg (fun b => b < w.heap.size) wx x l) := fun wx hb => hx.agree (agree_below hb)
  have HS : Hid (Calls Try.prog 5 #[x, .int .i64 1048576] w fun e w' => e = .returned (.int .i64 (less 1048576 (szP l))) ∧ Below w.heap.size w w') :=
    szStepS_any w.heap.size x l 1048576 w hx (Nat.le_refl _) (by omega) (by omega)
  obtain ⟨a, n, p, rfl⟩ := hx.form
  clear hx
  by_cases hz : (1048576 : Int) < szP l
  · have hl : less 1048576 (szP l) = -1 := less_no _ _ hz
    rw [hl] at HS
    clear hl
    go_enter Try.func3, Try.ntmps3
    go_wp2_with fail
    refine HS.out.mono ?_
    rintro e w1 ⟨rfl, B1⟩
    go_wp2
    go_ret
    exact ⟨rfl, B1⟩
  · have hl : less 1048576 (szP l) = 1048576 - szP l := less_yes _ _ hz
    rw [hl] at HS
    have hz0 : 0 ≤ (1048576 : Int) - szP l := by omega
    have hz1 : (1048576 : Int) - szP l ≤ 1048576 := by omega
    have HZ : Hid (szP l ≤ 1048576) := by show szP l ≤ 1048576; omega
    have HT : Hid (∀ wx, Below w.heap.size w wx → Calls Try.prog 7 #[.slice a n p] wx fun e w' => ∃ u, e = .returned u ∧ ∃ B, PthOwn w' u l B ∧ (∀ b ∈ B, wx.heap.size ≤ b ∧ b < w'.heap.size) ∧ Below wx.heap.size wx w') := fun wx hb =>
      toStepS_any w.heap.size _ l wx (HV.out wx hb) hb.size HZ.out
    have HEq : Hid (∀ (N : Nat) (y z : Value) (wx : World), PthSeg (fun b => b < N) wx y l → PthSeg (fun b => b < N) wx z l → N ≤ wx.heap.size → Calls Try.prog 9 #[y, z] wx fun e w' => e = .returned (.bool true) ∧ Below wx.heap.size wx w') := fun N y z wx h1 h2 h3 => eqStepS_same N y z l wx h1 h2 h3 HZ.out
    generalize szP l = sz at *
    clear hl hz HV
    go_enter Try.func3, Try.ntmps3
    go_wp2_with fail
    refine HS.out.mono ?_
    rintro e w1 ⟨rfl, B1⟩
    have HT1 := hide' (HT.out w1 B1)
    have HB1 := hide' B1
    clear B1 HS
    go_wp2_with fail
    refine HT1.out.mono ?_
    rintro e w2 ⟨u, rfl, B, hO2, hB2, b2⟩
    have hS2 := hide' (spec_PathOk_any w2.heap.size u l w2 (hO2.below (Below.refl _ _)) (Nat.le_refl _))
    have B2 := hide' (Below.on HB1.out b2)
    obtain ⟨ua, un, up, rfl⟩ := hO2.seg.form
    clear HT1 HB1 hO2 hB2 b2
    go_wp2_with fail
    refine hS2.out.mono ?_
    rintro e w3 ⟨rfl, b3⟩
    have B3 := hide' (Below.on B2.out b3)
    have HT3 := hide' (HT.out w3 B3.out)
    clear b3 B2 hS2
    go_wp2_with fail
    refine HT3.out.mono ?_
    rintro e w4 ⟨v, rfl, B', hO4, hB4, b4⟩
    have hI4 := hide' (impl_PathOk_any w4.heap.size v l w4 (hO4.below (Below.refl _ _)) (Nat.le_refl _))
    have B4 := hide' (Below.on B3.out b4)
    obtain ⟨va, vn, vp, rfl⟩ := hO4.seg.form
    have HO4 := hide' hO4
    clear HT3 b4 hB4 hO4 B3
    go_wp2_with fail
    refine hI4.out.mono ?_
    rintro e w5 ⟨rfl, b5⟩
    have B5 := Below.on B4.out b5
    have HT5 := hide' (HT.out w5 B5)
    have Hb5 := hide' b5
    have HB5 := hide' B5
    clear hI4 b5 B5 B4
    generalize pathB l = ok at *
    go_wp2_with fail
    refine HT5.out.mono ?_
    rintro e w6 ⟨z, rfl, B6, hO6, hB6, b6⟩
    have b46 := Below.on Hb5.out b6
    have B6' := Below.on HB5.out b6
    have hE := hide' (HEq.out w6.heap.size (.slice va vn vp) z w6 ((HO4.out.below b46).mono fun b hb => Nat.lt_of_lt_of_le hb b46.size) (hO6.below (Below.refl _ _)) (Nat.le_refl _))
    obtain ⟨za, zn, zp, rfl⟩ := hO6.seg.form
    clear hO6 hB6 b6 b46 HT5 Hb5 HB5
    go_wp2_with fail
    refine hE.out.mono ?_
    rintro e w7 ⟨rfl, b7⟩
    have B7 := Below.on B6' b7
    go_wp2
    go_ret
    exact ⟨rfl, B7⟩
end Go.Proofs.Ytliheeiooppnbaa
