/-
  FnExactPathCmp answers true, whatever two paths it is handed; it makes new memory and turns nothing old.
-/
import Derived.Test.YtliheeiooppnbaaCmp2
import Derived.Test.YtliheeiooppnbaaWPathOk
namespace Go.Proofs.Ytliheeiooppnbaa
open Go.RowKit
set_option linter.unusedVariables false
set_option linter.unusedSimpArgs false

/-- What PathCmp answers. -/
def pcI (l m : List Stp) : Int := if pathB l = true ∧ pathB m = true then pthC l m else 0
theorem pcI_no1 {l m : List Stp} (h : pathB l = false) : pcI l m = 0 := by simp [pcI, h]
theorem pcI_no2 {l m : List Stp} (h : pathB m = false) : pcI l m = 0 := by simp [pcI, h]
theorem pcI_yes {l m : List Stp} (h : pathB l = true) (h' : pathB m = true) : pcI l m = pthC l m := by simp [pcI, h, h']
theorem pathB_each {l : List Stp} (h : pathB l = true) : l.all stpB = true := by
  unfold pathB at h
  simp only [Bool.and_eq_true] at h
  exact h.2

set_option maxHeartbeats 1600000 in
theorem spec_PathCmp_any (N : Nat) (x y : Value) (l m : List Stp) (w : World) (hx : PthSeg (fun b => b < N) w x l) (hy : PthSeg (fun b => b < N) w y m) (hN : N ≤ w.heap.size) :
    Calls Try.prog 10 #[x, y] w fun e w' => e = .returned (.int .i64 (pcI l m)) ∧ Below w.heap.size w w' := by
  have H1 : Hid (Calls Try.prog 6 #[x] w fun e w' => e = .returned (.bool (pathB l)) ∧ Below w.heap.size w w') := spec_PathOk_any N x l w hx hN
  have H2 : Hid (∀ w1, Below w.heap.size w w1 → Calls Try.prog 6 #[y] w1 fun e w' => e = .returned (.bool (pathB m)) ∧ Below w1.heap.size w1 w') := fun w1 hb => spec_PathOk_any N y m w1 (hy.agree (agree_below (hb.mono hN))) (by have := hb.size; omega)
  have H3 : Hid (pathB l = true → pathB m = true → ∀ w1, Below w.heap.size w w1 → CmpEnd_spec x y l m w1) := fun h1 h2 w1 hb => cmpEnd_spec N x y l m w1 (hx.agree (agree_below (hb.mono hN))) (hy.agree (agree_below (hb.mono hN))) (by have := hb.size; omega) (pathB_each h1) (pathB_each h2)
  obtain ⟨xa, xn, xp, rfl⟩ := hx.form
  obtain ⟨ya, yn, yp, rfl⟩ := hy.form
  clear hx hy
  cases hp1 : pathB l
  · have HO := hide' (pcI_no1 (m := m) hp1)
    rw [hp1] at H1
    clear hp1 H2 H3
    go_enter Try.func10, Try.ntmps10
    go_wp2_with fail
    refine H1.out.mono ?_
    rintro e w1 ⟨rfl, B1⟩
    go_wp2
    go_ret
    exact ⟨ret_i64 (by rw [HO.out]), B1⟩
  · rw [hp1] at H1
    cases hp2 : pathB m
    · have HO := hide' (pcI_no2 (l := l) hp2)
      rw [hp2] at H2
      clear hp1 hp2 H3
      go_enter Try.func10, Try.ntmps10
      go_wp2_with fail
      refine H1.out.mono ?_
      rintro e w1 ⟨rfl, B1⟩
      have HB1 := hide' B1
      have H2' := hide' (H2.out w1 B1)
      clear B1 H2
      go_wp2_with fail
      refine H2'.out.mono ?_
      rintro e w2 ⟨rfl, b2⟩
      have B2 := Below.on HB1.out b2
      go_wp2
      go_ret
      exact ⟨ret_i64 (by rw [HO.out]), B2⟩
    · have HO := hide' (pcI_yes hp1 hp2)
      have H4 := hide' (H3.out hp1 hp2)
      rw [hp2] at H2
      clear hp1 hp2 H3
      go_enter Try.func10, Try.ntmps10
      go_wp2_with fail
      refine H1.out.mono ?_
      rintro e w1 ⟨rfl, B1⟩
      have HB1 := hide' B1
      have H2' := hide' (H2.out w1 B1)
      clear B1 H2
      go_wp2_with fail
      refine H2'.out.mono ?_
      rintro e w2 ⟨rfl, b2⟩
      have B2 := Below.on HB1.out b2
      have HB2 := hide' B2
      have H5 := H4.out w2 B2
      unfold CmpEnd_spec at H5
      have H5' := hide' H5
      clear B2 b2 HB1 H4 H5 H2'
      go_wp2_with fail
      refine H5'.out.mono ?_
      rintro e w3 ⟨rfl, b3⟩
      have B3 := Below.on HB2.out b3
      go_wp2
      go_ret
      exact ⟨ret_i64 (by rw [HO.out]), B3⟩

set_option maxHeartbeats 1600000 in
theorem impl_PathCmp_any (N : Nat) (x y : Value) (l m : List Stp) (w : World) (hx : PthSeg (fun b => b < N) w x l) (hy : PthSeg (fun b => b < N) w y m) (hN : N ≤ w.heap.size) :
    Calls Try.prog 11 #[x, y] w fun e w' => e = .returned (.int .i64 (pcI l m)) ∧ Below w.heap.size w w' := by
  have H1 : Hid (Calls Try.prog 8 #[x] w fun e w' => e = .returned (.bool (pathB l)) ∧ Below w.heap.size w w') := impl_PathOk_any N x l w hx hN
  have H2 : Hid (∀ w1, Below w.heap.size w w1 → Calls Try.prog 8 #[y] w1 fun e w' => e = .returned (.bool (pathB m)) ∧ Below w1.heap.size w1 w') := fun w1 hb => impl_PathOk_any N y m w1 (hy.agree (agree_below (hb.mono hN))) (by have := hb.size; omega)
  have H3 : Hid (pathB l = true → pathB m = true → ∀ w1, Below w.heap.size w w1 → CmpEnd_impl x y l m w1) := fun h1 h2 w1 hb => cmpEnd_impl N x y l m w1 (hx.agree (agree_below (hb.mono hN))) (hy.agree (agree_below (hb.mono hN))) (by have := hb.size; omega) (pathB_each h1) (pathB_each h2)
  obtain ⟨xa, xn, xp, rfl⟩ := hx.form
  obtain ⟨ya, yn, yp, rfl⟩ := hy.form
  clear hx hy
  cases hp1 : pathB l
  · have HO := hide' (pcI_no1 (m := m) hp1)
    rw [hp1] at H1
    clear hp1 H2 H3
    go_enter Try.func11, Try.ntmps11
    go_wp2_with fail
    refine H1.out.mono ?_
    rintro e w1 ⟨rfl, B1⟩
    go_wp2
    go_ret
    exact ⟨ret_i64 (by rw [HO.out]), B1⟩
  · rw [hp1] at H1
    cases hp2 : pathB m
    · have HO := hide' (pcI_no2 (l := l) hp2)
      rw [hp2] at H2
      clear hp1 hp2 H3
      go_enter Try.func11, Try.ntmps11
      go_wp2_with fail
      refine H1.out.mono ?_
      rintro e w1 ⟨rfl, B1⟩
      have HB1 := hide' B1
      have H2' := hide' (H2.out w1 B1)
      clear B1 H2
      go_wp2_with fail
      refine H2'.out.mono ?_
      rintro e w2 ⟨rfl, b2⟩
      have B2 := Below.on HB1.out b2
      go_wp2
      go_ret
      exact ⟨ret_i64 (by rw [HO.out]), B2⟩
    · have HO := hide' (pcI_yes hp1 hp2)
      have H4 := hide' (H3.out hp1 hp2)
      rw [hp2] at H2
      clear hp1 hp2 H3
      go_enter Try.func11, Try.ntmps11
      go_wp2_with fail
      refine H1.out.mono ?_
      rintro e w1 ⟨rfl, B1⟩
      have HB1 := hide' B1
      have H2' := hide' (H2.out w1 B1)
      clear B1 H2
      go_wp2_with fail
      refine H2'.out.mono ?_
      rintro e w2 ⟨rfl, b2⟩
      have B2 := Below.on HB1.out b2
      have HB2 := hide' B2
      have H5 := H4.out w2 B2
      unfold CmpEnd_impl at H5
      have H5' := hide' H5
      clear B2 b2 HB1 H4 H5 H2'
      go_wp2_with fail
      refine H5'.out.mono ?_
      rintro e w3 ⟨rfl, b3⟩
      have B3 := Below.on HB2.out b3
      go_wp2
      go_ret
      exact ⟨ret_i64 (by rw [HO.out]), B3⟩

set_option maxHeartbeats 1600000 in
theorem walk_FnExactPathCmp (x y : Value) (l m : List Stp) (w : World) (hx : PthSeg (fun b => b < w.heap.size) w x l) (hy : PthSeg (fun b => b < w.heap.size) w y m) :
    Calls Try.prog 4 #[x, y] w fun e w' => e = .returned (.bool true) ∧ Below w.heap.size w w' := by
  have HV : Hid (∀ wx, Below w.heap.size w wx → PthSeg (fun b => b < w.heap.size) wx x l ∧ PthSeg (fun b => b < w.heap.size) wx y m) := fun wx hb => ⟨hx.agree (agree_below hb), hy.agree (agree_below hb)⟩
  have HS : Hid (Calls Try.prog 5 #[x, .int .i64 1048576] w fun e w' => e = .returned (.int .i64 (less 1048576 (szP l))) ∧ Below w.heap.size w w') :=
    szStepS_any w.heap.size x l 1048576 w hx (Nat.le_refl _) (by omega) (by omega)
  have HS2 : Hid (∀ wx (k : Int), Below w.heap.size w wx → 0 ≤ k → k ≤ 1048576 → Calls Try.prog 5 #[y, .int .i64 k] wx fun e w' => e = .returned (.int .i64 (less k (szP m))) ∧ Below wx.heap.size wx w') := fun wx k hb h0 h1 =>
    szStepS_any w.heap.size y m k wx (HV.out wx hb).2 hb.size h0 h1
  obtain ⟨a, n, p, rfl⟩ := hx.form
  obtain ⟨a', n', p', rfl⟩ := hy.form
  clear hx hy
  by_cases hz : (1048576 : Int) < szP l
  · have hl : less 1048576 (szP l) = -1 := less_no _ _ hz
    rw [hl] at HS
    clear hl HS2
    go_enter Try.func4, Try.ntmps4
    go_wp2_with fail
    refine HS.out.mono ?_
    rintro e w1 ⟨rfl, B1⟩
    go_wp2
    go_ret
    exact ⟨rfl, B1⟩
  · have hl : less 1048576 (szP l) = 1048576 - szP l := less_yes _ _ hz
    rw [hl] at HS
    have hz0 : ¬ (1048576 : Int) - szP l < 0 := by omega
    have HZ : Hid (szP l ≤ 1048576) := by show szP l ≤ 1048576; omega
    have HS3 : Hid (∀ wx, Below w.heap.size w wx → Calls Try.prog 5 #[.slice a' n' p', .int .i64 (1048576 - szP l)] wx fun e w' => e = .returned (.int .i64 (less (1048576 - szP l) (szP m))) ∧ Below wx.heap.size wx w') := fun wx hb => HS2.out wx _ hb (by omega) (by omega)
    clear HS2
    by_cases hz2 : (1048576 : Int) - szP l < szP m
    · have hl2 : less (1048576 - szP l) (szP m) = -1 := less_no _ _ hz2
      rw [hl2] at HS3
      generalize szP l = sz at *
      clear hl hl2 hz
      go_enter Try.func4, Try.ntmps4
      go_wp2_with fail
      refine HS.out.mono ?_
      rintro e w1 ⟨rfl, B1⟩
      have HB1 := hide' B1
      have HS4 := hide' (HS3.out w1 B1)
      clear B1
      go_wp2_with fail
      refine HS4.out.mono ?_
      rintro e w2 ⟨rfl, b2⟩
      have B2 := Below.on HB1.out b2
      go_wp2
      go_ret
      exact ⟨rfl, B2⟩
    · have hl2 : less (1048576 - szP l) (szP m) = 1048576 - szP l - szP m := less_yes _ _ hz2
      rw [hl2] at HS3
      have hz3 : ¬ (1048576 : Int) - szP l - szP m < 0 := by omega
      have HZ2 : Hid (szP m ≤ 1048576) := by show szP m ≤ 1048576; omega
      have HT : Hid (∀ wx, Below w.heap.size w wx → Calls Try.prog 7 #[.slice a n p] wx fun e w' => ∃ u, e = .returned u ∧ ∃ B, PthOwn w' u l B ∧ (∀ b ∈ B, wx.heap.size ≤ b ∧ b < w'.heap.size) ∧ Below wx.heap.size wx w') := fun wx hb =>
        toStepS_any w.heap.size _ l wx (HV.out wx hb).1 hb.size HZ.out
      have HT' : Hid (∀ wx, Below w.heap.size w wx → Calls Try.prog 7 #[.slice a' n' p'] wx fun e w' => ∃ u, e = .returned u ∧ ∃ B, PthOwn w' u m B ∧ (∀ b ∈ B, wx.heap.size ≤ b ∧ b < w'.heap.size) ∧ Below wx.heap.size wx w') := fun wx hb =>
        toStepS_any w.heap.size _ m wx (HV.out wx hb).2 hb.size HZ2.out
      have HEq : Hid (∀ (N : Nat) (y z : Value) (wx : World), PthSeg (fun b => b < N) wx y l → PthSeg (fun b => b < N) wx z l → N ≤ wx.heap.size → Calls Try.prog 9 #[y, z] wx fun e w' => e = .returned (.bool true) ∧ Below wx.heap.size wx w') := fun N y z wx h1 h2 h3 => eqStepS_same N y z l wx h1 h2 h3 HZ.out
      have HEq' : Hid (∀ (N : Nat) (y z : Value) (wx : World), PthSeg (fun b => b < N) wx y m → PthSeg (fun b => b < N) wx z m → N ≤ wx.heap.size → Calls Try.prog 9 #[y, z] wx fun e w' => e = .returned (.bool true) ∧ Below wx.heap.size wx w') := fun N y z wx h1 h2 h3 => eqStepS_same N y z m wx h1 h2 h3 HZ2.out
      generalize szP l = sz at *
      generalize szP m = sz2 at *
      clear hl hl2 hz hz2 HV
      go_enter Try.func4, Try.ntmps4
      go_wp2_with fail
      refine HS.out.mono ?_
      rintro e w1 ⟨rfl, B1⟩
      have HB1 := hide' B1
      have HS4 := hide' (HS3.out w1 B1)
      clear B1 HS3 HS
      go_wp2_with fail
      refine HS4.out.mono ?_
      rintro e w2 ⟨rfl, b2⟩
      have HB2 := hide' (Below.on HB1.out b2)
      have HT2 := hide' (HT.out w2 HB2.out)
      clear b2 HB1 HS4
      go_wp2_with fail
      refine HT2.out.mono ?_
      rintro e w3 ⟨u, rfl, B, hO3, _, b3⟩
      have HB3 := hide' (Below.on HB2.out b3)
      have HT3 := hide' (HT'.out w3 HB3.out)
      obtain ⟨ua, un, up, rfl⟩ := hO3.seg.form
      have HO3 := hide' hO3
      clear b3 hO3 HB2 HT2
      go_wp2_with fail
      refine HT3.out.mono ?_
      rintro e w4 ⟨v, rfl, B', hO4, _, b4⟩
      have HB4 := hide' (Below.on HB3.out b4)
      have hC := hide' (spec_PathCmp_any w4.heap.size (.slice ua un up) v l m w4 ((HO3.out.below b4).mono fun b hb => Nat.lt_of_lt_of_le hb b4.size) (hO4.below (Below.refl _ _)) (Nat.le_refl _))
      obtain ⟨va, vn, vp, rfl⟩ := hO4.seg.form
      clear b4 hO4 HB3 HT3 HO3
      go_wp2_with fail
      refine hC.out.mono ?_
      rintro e w5 ⟨rfl, b5⟩
      have HB5 := hide' (Below.on HB4.out b5)
      have HT5 := hide' (HT.out w5 HB5.out)
      clear b5 HB4 hC
      go_wp2_with fail
      refine HT5.out.mono ?_
      rintro e w6 ⟨x0, rfl, B0, hO6, _, b6⟩
      have HB6 := hide' (Below.on HB5.out b6)
      have HT6 := hide' (HT'.out w6 HB6.out)
      obtain ⟨xa, xn, xp, rfl⟩ := hO6.seg.form
      have HO6 := hide' hO6
      clear b6 hO6 HB5 HT5
      go_wp2_with fail
      refine HT6.out.mono ?_
      rintro e w7 ⟨x1, rfl, B1, hO7, _, b7⟩
      have HB7 := hide' (Below.on HB6.out b7)
      have hC := hide' (impl_PathCmp_any w7.heap.size (.slice xa xn xp) x1 l m w7 ((HO6.out.below b7).mono fun b hb => Nat.lt_of_lt_of_le hb b7.size) (hO7.below (Below.refl _ _)) (Nat.le_refl _))
      obtain ⟨ya, yn, yp, rfl⟩ := hO7.seg.form
      have HO7 := hide' hO7
      have Hb7 := hide' b7
      clear b7 hO7 HB6 HT6
      go_wp2_with fail
      refine hC.out.mono ?_
      rintro e w8 ⟨rfl, b8⟩
      have HB8 := hide' (Below.on HB7.out b8)
      have Hb78 := hide' (Below.on Hb7.out b8)
      have Hb8 := hide' b8
      have HT8 := hide' (HT.out w8 HB8.out)
      clear b8 HB7 hC Hb7
      generalize pcI l m = pc at *
      go_wp2_with fail
      refine HT8.out.mono ?_
      rintro e w9 ⟨z, rfl, B9, hO9, _, b9⟩
      have b69 := Below.on Hb78.out b9
      have HB9 := hide' (Below.on HB8.out b9)
      have Hb79 := hide' (Below.on Hb8.out b9)
      have hE := hide' (HEq.out w9.heap.size (.slice xa xn xp) z w9 ((HO6.out.below b69).mono fun b hb => Nat.lt_of_lt_of_le hb b69.size) (hO9.below (Below.refl _ _)) (Nat.le_refl _))
      obtain ⟨za, zn, zp, rfl⟩ := hO9.seg.form
      clear hO9 b9 b69 HT8 Hb78 HB8 Hb8 HO6
      go_wp2_with fail
      refine hE.out.mono ?_
      rintro e w10 ⟨rfl, b10⟩
      have HB10 := hide' (Below.on HB9.out b10)
      have Hb10 := hide' (Below.on Hb79.out b10)
      have HT10 := hide' (HT'.out w10 HB10.out)
      clear b10 HB9 Hb79 hE
      go_wp2_with fail
      refine HT10.out.mono ?_
      rintro e w11 ⟨z, rfl, B11, hO11, _, b11⟩
      have b711 := Below.on Hb10.out b11
      have HB11 := hide' (Below.on HB10.out b11)
      have hE := hide' (HEq'.out w11.heap.size (.slice ya yn yp) z w11 ((HO7.out.below b711).mono fun b hb => Nat.lt_of_lt_of_le hb b711.size) (hO11.below (Below.refl _ _)) (Nat.le_refl _))
      obtain ⟨ta, tn, tp, rfl⟩ := hO11.seg.form
      clear hO11 b11 b711 HT10 Hb10 HB10 HO7
      go_wp2_with fail
      refine hE.out.mono ?_
      rintro e w12 ⟨rfl, b12⟩
      have B12 := Below.on HB11.out b12
      go_wp2
      go_ret
      exact ⟨rfl, B12⟩
end Go.Proofs.Ytliheeiooppnbaa
