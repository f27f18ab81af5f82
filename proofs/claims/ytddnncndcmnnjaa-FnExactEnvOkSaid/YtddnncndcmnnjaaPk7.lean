/-
  Texts that a law leans on, one behind the other; no statement is proved here.
-/
import Derived.Test.YtddnncndcmnnjaaPk2
import Derived.Test.YtddnncndcmnnjaaPk6
/-
  EnvOk of the specification.
-/
namespace Go.Proofs.Ytddnncndcmnnjaa
open Go.RowKit
set_option linter.unusedVariables false
set_option linter.unusedSimpArgs false

/-- What EnvOk answers. -/
def envB (d : Nat) (v0 v1 v2 v3 v4 : Vl d) : Bool := okB d v0 && (decide (kindV d v0 = 5) && (okB d v1 && (decide (kindV d v1 = 5) && (okB d v2 && (okB d v3 && okB d v4)))))

theorem VSeg.kind {R : Nat → Prop} {w : World} (d : Nat) {c0 c1 c2 c3 c4 : Value} {v : Vl d} (h : VSeg R w d (c0, c1, c2, c3, c4) v) : c0 = .int .i64 (kindV d v) := by
  cases d with
  | zero => exact h.elim
  | succ d => exact h.1

set_option maxHeartbeats 6400000 in
set_option maxRecDepth 100000 in
theorem spec_EnvOk_any (d N : Nat) (c00 c01 c02 c03 c04 c10 c11 c12 c13 c14 c20 c21 c22 c23 c24 c30 c31 c32 c33 c34 c40 c41 c42 c43 c44 : Value) (v0 v1 v2 v3 v4 : Vl d) (w : World) (hv0 : VSeg (fun b => b < N) w d (c00, c01, c02, c03, c04) v0) (hv1 : VSeg (fun b => b < N) w d (c10, c11, c12, c13, c14) v1) (hv2 : VSeg (fun b => b < N) w d (c20, c21, c22, c23, c24) v2) (hv3 : VSeg (fun b => b < N) w d (c30, c31, c32, c33, c34) v3) (hv4 : VSeg (fun b => b < N) w d (c40, c41, c42, c43, c44) v4) (hN : N ≤ w.heap.size) :
    Calls Try.prog 5 #[.agg #[c00, c01, c02, c03, c04, c10, c11, c12, c13, c14, c20, c21, c22, c23, c24, c30, c31, c32, c33, c34, c40, c41, c42, c43, c44]] w fun e w' => e = .returned (.bool (envB d v0 v1 v2 v3 v4)) ∧ Below w.heap.size w w' := by
  have b0 : ∀ o : Obj, Below w.heap.size w (w.alloc o) := fun o => (Below.refl _ _).alloc (Nat.le_refl _) o
  have Hb := hide' b0
  have Hbox : Hid (∀ o wx, Below (w.alloc o).heap.size (w.alloc o) wx → wx.heap[w.heap.size]? = some o) := fun o wx h => box_row h
  have HS0 : Hid (∀ wx, Below w.heap.size w wx → Calls Try.prog 10 #[.agg #[c00, c01, c02, c03, c04]] wx fun e w' => e = .returned (.bool (okB d v0)) ∧ Below wx.heap.size wx w') := fun wx hb =>
    spec_ValOk_any d N c00 c01 c02 c03 c04 v0 wx (VSeg.agree (agree_below (hb.mono hN)) d hv0) (by have := hb.size; omega)
  have HS1 : Hid (∀ wx, Below w.heap.size w wx → Calls Try.prog 10 #[.agg #[c10, c11, c12, c13, c14]] wx fun e w' => e = .returned (.bool (okB d v1)) ∧ Below wx.heap.size wx w') := fun wx hb =>
    spec_ValOk_any d N c10 c11 c12 c13 c14 v1 wx (VSeg.agree (agree_below (hb.mono hN)) d hv1) (by have := hb.size; omega)
  have HS2 : Hid (∀ wx, Below w.heap.size w wx → Calls Try.prog 10 #[.agg #[c20, c21, c22, c23, c24]] wx fun e w' => e = .returned (.bool (okB d v2)) ∧ Below wx.heap.size wx w') := fun wx hb =>
    spec_ValOk_any d N c20 c21 c22 c23 c24 v2 wx (VSeg.agree (agree_below (hb.mono hN)) d hv2) (by have := hb.size; omega)
  have HS3 : Hid (∀ wx, Below w.heap.size w wx → Calls Try.prog 10 #[.agg #[c30, c31, c32, c33, c34]] wx fun e w' => e = .returned (.bool (okB d v3)) ∧ Below wx.heap.size wx w') := fun wx hb =>
    spec_ValOk_any d N c30 c31 c32 c33 c34 v3 wx (VSeg.agree (agree_below (hb.mono hN)) d hv3) (by have := hb.size; omega)
  have HS4 : Hid (∀ wx, Below w.heap.size w wx → Calls Try.prog 10 #[.agg #[c40, c41, c42, c43, c44]] wx fun e w' => e = .returned (.bool (okB d v4)) ∧ Below wx.heap.size wx w') := fun wx hb =>
    spec_ValOk_any d N c40 c41 c42 c43 c44 v4 wx (VSeg.agree (agree_below (hb.mono hN)) d hv4) (by have := hb.size; omega)
  have hk0 := VSeg.kind d hv0
  have hk1 := VSeg.kind d hv1
  obtain ⟨ck0, cn0, ca0, cl0, cp0, cb0, cm0, cq0, cd0, co0, cr0, rfl, rfl, rfl, rfl, rfl⟩ := VSeg.form d hv0
  obtain ⟨ck1, cn1, ca1, cl1, cp1, cb1, cm1, cq1, cd1, co1, cr1, rfl, rfl, rfl, rfl, rfl⟩ := VSeg.form d hv1
  obtain ⟨ck2, cn2, ca2, cl2, cp2, cb2, cm2, cq2, cd2, co2, cr2, rfl, rfl, rfl, rfl, rfl⟩ := VSeg.form d hv2
  obtain ⟨ck3, cn3, ca3, cl3, cp3, cb3, cm3, cq3, cd3, co3, cr3, rfl, rfl, rfl, rfl, rfl⟩ := VSeg.form d hv3
  obtain ⟨ck4, cn4, ca4, cl4, cp4, cb4, cm4, cq4, cd4, co4, cr4, rfl, rfl, rfl, rfl, rfl⟩ := VSeg.form d hv4
  simp only [Value.int.injEq, true_and] at hk0
  simp only [Value.int.injEq, true_and] at hk1
  unfold envB
  rw [← hk0]
  rw [← hk1]
  clear b0 hk0 hk1 hv0 hv1 hv2 hv3 hv4
  generalize okB d v0 = o0 at *
  generalize okB d v1 = o1 at *
  generalize okB d v2 = o2 at *
  generalize okB d v3 = o3 at *
  generalize okB d v4 = o4 at *
  by_cases t0 : o0 = false
  · subst t0
    go_enter Try.func5, Try.ntmps5
    go_wp2_with fail
    refine (HS0.out _ (Hb.out _)).mono ?_
    rintro e w1 ⟨rfl, b1⟩
    have B1 := hide' b1
    have hrow := Hbox.out _ _ B1.out
    have y100 : w1.cell? ⟨w.heap.size, 0, none⟩ = some (.int .i64 ck0) := by rw [cell_of_row w1 w.heap.size 0 _ _ _ hrow]; rfl
    have y110 : w1.cell? ⟨w.heap.size, 5, none⟩ = some (.int .i64 ck1) := by rw [cell_of_row w1 w.heap.size 5 _ _ _ hrow]; rfl
    have y111 : w1.cell? ⟨w.heap.size, 6, none⟩ = some (.int .i64 cn1) := by rw [cell_of_row w1 w.heap.size 6 _ _ _ hrow]; rfl
    have y112 : w1.cell? ⟨w.heap.size, 7, none⟩ = some (.slice ca1 cl1 cp1) := by rw [cell_of_row w1 w.heap.size 7 _ _ _ hrow]; rfl
    have y113 : w1.cell? ⟨w.heap.size, 8, none⟩ = some (.slice cb1 cm1 cq1) := by rw [cell_of_row w1 w.heap.size 8 _ _ _ hrow]; rfl
    have y114 : w1.cell? ⟨w.heap.size, 9, none⟩ = some (.slice cd1 co1 cr1) := by rw [cell_of_row w1 w.heap.size 9 _ _ _ hrow]; rfl
    clear hrow b1
    go_wp2
    go_ret
    exact ⟨ret_bool (by simp), Below.on (Hb.out _) B1.out⟩
  replace t0 : o0 = true := by simpa using t0
  subst t0
  by_cases t1 : ¬ ck0 = 5
  · go_enter Try.func5, Try.ntmps5
    go_wp2_with fail
    refine (HS0.out _ (Hb.out _)).mono ?_
    rintro e w1 ⟨rfl, b1⟩
    have B1 := hide' b1
    have hrow := Hbox.out _ _ B1.out
    have y100 : w1.cell? ⟨w.heap.size, 0, none⟩ = some (.int .i64 ck0) := by rw [cell_of_row w1 w.heap.size 0 _ _ _ hrow]; rfl
    have y110 : w1.cell? ⟨w.heap.size, 5, none⟩ = some (.int .i64 ck1) := by rw [cell_of_row w1 w.heap.size 5 _ _ _ hrow]; rfl
    have y111 : w1.cell? ⟨w.heap.size, 6, none⟩ = some (.int .i64 cn1) := by rw [cell_of_row w1 w.heap.size 6 _ _ _ hrow]; rfl
    have y112 : w1.cell? ⟨w.heap.size, 7, none⟩ = some (.slice ca1 cl1 cp1) := by rw [cell_of_row w1 w.heap.size 7 _ _ _ hrow]; rfl
    have y113 : w1.cell? ⟨w.heap.size, 8, none⟩ = some (.slice cb1 cm1 cq1) := by rw [cell_of_row w1 w.heap.size 8 _ _ _ hrow]; rfl
    have y114 : w1.cell? ⟨w.heap.size, 9, none⟩ = some (.slice cd1 co1 cr1) := by rw [cell_of_row w1 w.heap.size 9 _ _ _ hrow]; rfl
    clear hrow b1
    go_wp2
    go_ret
    exact ⟨ret_bool (by simp [t1]), Below.on (Hb.out _) B1.out⟩
  replace t1 : ck0 = 5 := by simpa using t1
  subst t1
  by_cases t2 : o1 = false
  · subst t2
    go_enter Try.func5, Try.ntmps5
    go_wp2_with fail
    refine (HS0.out _ (Hb.out _)).mono ?_
    rintro e w1 ⟨rfl, b1⟩
    have B1 := hide' b1
    have hrow := Hbox.out _ _ B1.out
    have y100 : w1.cell? ⟨w.heap.size, 0, none⟩ = some (.int .i64 5) := by rw [cell_of_row w1 w.heap.size 0 _ _ _ hrow]; rfl
    have y110 : w1.cell? ⟨w.heap.size, 5, none⟩ = some (.int .i64 ck1) := by rw [cell_of_row w1 w.heap.size 5 _ _ _ hrow]; rfl
    have y111 : w1.cell? ⟨w.heap.size, 6, none⟩ = some (.int .i64 cn1) := by rw [cell_of_row w1 w.heap.size 6 _ _ _ hrow]; rfl
    have y112 : w1.cell? ⟨w.heap.size, 7, none⟩ = some (.slice ca1 cl1 cp1) := by rw [cell_of_row w1 w.heap.size 7 _ _ _ hrow]; rfl
    have y113 : w1.cell? ⟨w.heap.size, 8, none⟩ = some (.slice cb1 cm1 cq1) := by rw [cell_of_row w1 w.heap.size 8 _ _ _ hrow]; rfl
    have y114 : w1.cell? ⟨w.heap.size, 9, none⟩ = some (.slice cd1 co1 cr1) := by rw [cell_of_row w1 w.heap.size 9 _ _ _ hrow]; rfl
    clear hrow b1
    go_wp2_with fail
    refine (HS1.out _ (Below.on (Hb.out _) B1.out)).mono ?_
    rintro e w2 ⟨rfl, b2⟩
    have B2 := hide' (Below.on B1.out b2)
    have hrow := Hbox.out _ _ B2.out
    have y210 : w2.cell? ⟨w.heap.size, 5, none⟩ = some (.int .i64 ck1) := by rw [cell_of_row w2 w.heap.size 5 _ _ _ hrow]; rfl
    have y220 : w2.cell? ⟨w.heap.size, 10, none⟩ = some (.int .i64 ck2) := by rw [cell_of_row w2 w.heap.size 10 _ _ _ hrow]; rfl
    have y221 : w2.cell? ⟨w.heap.size, 11, none⟩ = some (.int .i64 cn2) := by rw [cell_of_row w2 w.heap.size 11 _ _ _ hrow]; rfl
    have y222 : w2.cell? ⟨w.heap.size, 12, none⟩ = some (.slice ca2 cl2 cp2) := by rw [cell_of_row w2 w.heap.size 12 _ _ _ hrow]; rfl
    have y223 : w2.cell? ⟨w.heap.size, 13, none⟩ = some (.slice cb2 cm2 cq2) := by rw [cell_of_row w2 w.heap.size 13 _ _ _ hrow]; rfl
    have y224 : w2.cell? ⟨w.heap.size, 14, none⟩ = some (.slice cd2 co2 cr2) := by rw [cell_of_row w2 w.heap.size 14 _ _ _ hrow]; rfl
    clear hrow b2
    go_wp2
    go_ret
    exact ⟨ret_bool (by simp), Below.on (Hb.out _) B2.out⟩
  replace t2 : o1 = true := by simpa using t2
  subst t2
  by_cases t3 : ¬ ck1 = 5
  · go_enter Try.func5, Try.ntmps5
    go_wp2_with fail
    refine (HS0.out _ (Hb.out _)).mono ?_
    rintro e w1 ⟨rfl, b1⟩
    have B1 := hide' b1
    have hrow := Hbox.out _ _ B1.out
    have y100 : w1.cell? ⟨w.heap.size, 0, none⟩ = some (.int .i64 5) := by rw [cell_of_row w1 w.heap.size 0 _ _ _ hrow]; rfl
    have y110 : w1.cell? ⟨w.heap.size, 5, none⟩ = some (.int .i64 ck1) := by rw [cell_of_row w1 w.heap.size 5 _ _ _ hrow]; rfl
    have y111 : w1.cell? ⟨w.heap.size, 6, none⟩ = some (.int .i64 cn1) := by rw [cell_of_row w1 w.heap.size 6 _ _ _ hrow]; rfl
    have y112 : w1.cell? ⟨w.heap.size, 7, none⟩ = some (.slice ca1 cl1 cp1) := by rw [cell_of_row w1 w.heap.size 7 _ _ _ hrow]; rfl
    have y113 : w1.cell? ⟨w.heap.size, 8, none⟩ = some (.slice cb1 cm1 cq1) := by rw [cell_of_row w1 w.heap.size 8 _ _ _ hrow]; rfl
    have y114 : w1.cell? ⟨w.heap.size, 9, none⟩ = some (.slice cd1 co1 cr1) := by rw [cell_of_row w1 w.heap.size 9 _ _ _ hrow]; rfl
    clear hrow b1
    go_wp2_with fail
    refine (HS1.out _ (Below.on (Hb.out _) B1.out)).mono ?_
    rintro e w2 ⟨rfl, b2⟩
    have B2 := hide' (Below.on B1.out b2)
    have hrow := Hbox.out _ _ B2.out
    have y210 : w2.cell? ⟨w.heap.size, 5, none⟩ = some (.int .i64 ck1) := by rw [cell_of_row w2 w.heap.size 5 _ _ _ hrow]; rfl
    have y220 : w2.cell? ⟨w.heap.size, 10, none⟩ = some (.int .i64 ck2) := by rw [cell_of_row w2 w.heap.size 10 _ _ _ hrow]; rfl
    have y221 : w2.cell? ⟨w.heap.size, 11, none⟩ = some (.int .i64 cn2) := by rw [cell_of_row w2 w.heap.size 11 _ _ _ hrow]; rfl
    have y222 : w2.cell? ⟨w.heap.size, 12, none⟩ = some (.slice ca2 cl2 cp2) := by rw [cell_of_row w2 w.heap.size 12 _ _ _ hrow]; rfl
    have y223 : w2.cell? ⟨w.heap.size, 13, none⟩ = some (.slice cb2 cm2 cq2) := by rw [cell_of_row w2 w.heap.size 13 _ _ _ hrow]; rfl
    have y224 : w2.cell? ⟨w.heap.size, 14, none⟩ = some (.slice cd2 co2 cr2) := by rw [cell_of_row w2 w.heap.size 14 _ _ _ hrow]; rfl
    clear hrow b2
    go_wp2
    go_ret
    exact ⟨ret_bool (by simp [t3]), Below.on (Hb.out _) B2.out⟩
  replace t3 : ck1 = 5 := by simpa using t3
  subst t3
  by_cases t4 : o2 = false
  · subst t4
    go_enter Try.func5, Try.ntmps5
    go_wp2_with fail
    refine (HS0.out _ (Hb.out _)).mono ?_
    rintro e w1 ⟨rfl, b1⟩
    have B1 := hide' b1
    have hrow := Hbox.out _ _ B1.out
    have y100 : w1.cell? ⟨w.heap.size, 0, none⟩ = some (.int .i64 5) := by rw [cell_of_row w1 w.heap.size 0 _ _ _ hrow]; rfl
    have y110 : w1.cell? ⟨w.heap.size, 5, none⟩ = some (.int .i64 5) := by rw [cell_of_row w1 w.heap.size 5 _ _ _ hrow]; rfl
    have y111 : w1.cell? ⟨w.heap.size, 6, none⟩ = some (.int .i64 cn1) := by rw [cell_of_row w1 w.heap.size 6 _ _ _ hrow]; rfl
    have y112 : w1.cell? ⟨w.heap.size, 7, none⟩ = some (.slice ca1 cl1 cp1) := by rw [cell_of_row w1 w.heap.size 7 _ _ _ hrow]; rfl
    have y113 : w1.cell? ⟨w.heap.size, 8, none⟩ = some (.slice cb1 cm1 cq1) := by rw [cell_of_row w1 w.heap.size 8 _ _ _ hrow]; rfl
    have y114 : w1.cell? ⟨w.heap.size, 9, none⟩ = some (.slice cd1 co1 cr1) := by rw [cell_of_row w1 w.heap.size 9 _ _ _ hrow]; rfl
    clear hrow b1
    go_wp2_with fail
    refine (HS1.out _ (Below.on (Hb.out _) B1.out)).mono ?_
    rintro e w2 ⟨rfl, b2⟩
    have B2 := hide' (Below.on B1.out b2)
    have hrow := Hbox.out _ _ B2.out
    have y210 : w2.cell? ⟨w.heap.size, 5, none⟩ = some (.int .i64 5) := by rw [cell_of_row w2 w.heap.size 5 _ _ _ hrow]; rfl
    have y220 : w2.cell? ⟨w.heap.size, 10, none⟩ = some (.int .i64 ck2) := by rw [cell_of_row w2 w.heap.size 10 _ _ _ hrow]; rfl
    have y221 : w2.cell? ⟨w.heap.size, 11, none⟩ = some (.int .i64 cn2) := by rw [cell_of_row w2 w.heap.size 11 _ _ _ hrow]; rfl
    have y222 : w2.cell? ⟨w.heap.size, 12, none⟩ = some (.slice ca2 cl2 cp2) := by rw [cell_of_row w2 w.heap.size 12 _ _ _ hrow]; rfl
    have y223 : w2.cell? ⟨w.heap.size, 13, none⟩ = some (.slice cb2 cm2 cq2) := by rw [cell_of_row w2 w.heap.size 13 _ _ _ hrow]; rfl
    have y224 : w2.cell? ⟨w.heap.size, 14, none⟩ = some (.slice cd2 co2 cr2) := by rw [cell_of_row w2 w.heap.size 14 _ _ _ hrow]; rfl
    clear hrow b2
    go_wp2_with fail
    refine (HS2.out _ (Below.on (Hb.out _) B2.out)).mono ?_
    rintro e w3 ⟨rfl, b3⟩
    have B3 := hide' (Below.on B2.out b3)
    have hrow := Hbox.out _ _ B3.out
    have y330 : w3.cell? ⟨w.heap.size, 15, none⟩ = some (.int .i64 ck3) := by rw [cell_of_row w3 w.heap.size 15 _ _ _ hrow]; rfl
    have y331 : w3.cell? ⟨w.heap.size, 16, none⟩ = some (.int .i64 cn3) := by rw [cell_of_row w3 w.heap.size 16 _ _ _ hrow]; rfl
    have y332 : w3.cell? ⟨w.heap.size, 17, none⟩ = some (.slice ca3 cl3 cp3) := by rw [cell_of_row w3 w.heap.size 17 _ _ _ hrow]; rfl
    have y333 : w3.cell? ⟨w.heap.size, 18, none⟩ = some (.slice cb3 cm3 cq3) := by rw [cell_of_row w3 w.heap.size 18 _ _ _ hrow]; rfl
    have y334 : w3.cell? ⟨w.heap.size, 19, none⟩ = some (.slice cd3 co3 cr3) := by rw [cell_of_row w3 w.heap.size 19 _ _ _ hrow]; rfl
    clear hrow b3
    go_wp2
    go_ret
    exact ⟨ret_bool (by simp), Below.on (Hb.out _) B3.out⟩
  replace t4 : o2 = true := by simpa using t4
  subst t4
  by_cases t5 : o3 = false
  · subst t5
    go_enter Try.func5, Try.ntmps5
    go_wp2_with fail
    refine (HS0.out _ (Hb.out _)).mono ?_
    rintro e w1 ⟨rfl, b1⟩
    have B1 := hide' b1
    have hrow := Hbox.out _ _ B1.out
    have y100 : w1.cell? ⟨w.heap.size, 0, none⟩ = some (.int .i64 5) := by rw [cell_of_row w1 w.heap.size 0 _ _ _ hrow]; rfl
    have y110 : w1.cell? ⟨w.heap.size, 5, none⟩ = some (.int .i64 5) := by rw [cell_of_row w1 w.heap.size 5 _ _ _ hrow]; rfl
    have y111 : w1.cell? ⟨w.heap.size, 6, none⟩ = some (.int .i64 cn1) := by rw [cell_of_row w1 w.heap.size 6 _ _ _ hrow]; rfl
    have y112 : w1.cell? ⟨w.heap.size, 7, none⟩ = some (.slice ca1 cl1 cp1) := by rw [cell_of_row w1 w.heap.size 7 _ _ _ hrow]; rfl
    have y113 : w1.cell? ⟨w.heap.size, 8, none⟩ = some (.slice cb1 cm1 cq1) := by rw [cell_of_row w1 w.heap.size 8 _ _ _ hrow]; rfl
    have y114 : w1.cell? ⟨w.heap.size, 9, none⟩ = some (.slice cd1 co1 cr1) := by rw [cell_of_row w1 w.heap.size 9 _ _ _ hrow]; rfl
    clear hrow b1
    go_wp2_with fail
    refine (HS1.out _ (Below.on (Hb.out _) B1.out)).mono ?_
    rintro e w2 ⟨rfl, b2⟩
    have B2 := hide' (Below.on B1.out b2)
    have hrow := Hbox.out _ _ B2.out
    have y210 : w2.cell? ⟨w.heap.size, 5, none⟩ = some (.int .i64 5) := by rw [cell_of_row w2 w.heap.size 5 _ _ _ hrow]; rfl
    have y220 : w2.cell? ⟨w.heap.size, 10, none⟩ = some (.int .i64 ck2) := by rw [cell_of_row w2 w.heap.size 10 _ _ _ hrow]; rfl
    have y221 : w2.cell? ⟨w.heap.size, 11, none⟩ = some (.int .i64 cn2) := by rw [cell_of_row w2 w.heap.size 11 _ _ _ hrow]; rfl
    have y222 : w2.cell? ⟨w.heap.size, 12, none⟩ = some (.slice ca2 cl2 cp2) := by rw [cell_of_row w2 w.heap.size 12 _ _ _ hrow]; rfl
    have y223 : w2.cell? ⟨w.heap.size, 13, none⟩ = some (.slice cb2 cm2 cq2) := by rw [cell_of_row w2 w.heap.size 13 _ _ _ hrow]; rfl
    have y224 : w2.cell? ⟨w.heap.size, 14, none⟩ = some (.slice cd2 co2 cr2) := by rw [cell_of_row w2 w.heap.size 14 _ _ _ hrow]; rfl
    clear hrow b2
    go_wp2_with fail
    refine (HS2.out _ (Below.on (Hb.out _) B2.out)).mono ?_
    rintro e w3 ⟨rfl, b3⟩
    have B3 := hide' (Below.on B2.out b3)
    have hrow := Hbox.out _ _ B3.out
    have y330 : w3.cell? ⟨w.heap.size, 15, none⟩ = some (.int .i64 ck3) := by rw [cell_of_row w3 w.heap.size 15 _ _ _ hrow]; rfl
    have y331 : w3.cell? ⟨w.heap.size, 16, none⟩ = some (.int .i64 cn3) := by rw [cell_of_row w3 w.heap.size 16 _ _ _ hrow]; rfl
    have y332 : w3.cell? ⟨w.heap.size, 17, none⟩ = some (.slice ca3 cl3 cp3) := by rw [cell_of_row w3 w.heap.size 17 _ _ _ hrow]; rfl
    have y333 : w3.cell? ⟨w.heap.size, 18, none⟩ = some (.slice cb3 cm3 cq3) := by rw [cell_of_row w3 w.heap.size 18 _ _ _ hrow]; rfl
    have y334 : w3.cell? ⟨w.heap.size, 19, none⟩ = some (.slice cd3 co3 cr3) := by rw [cell_of_row w3 w.heap.size 19 _ _ _ hrow]; rfl
    clear hrow b3
    go_wp2_with fail
    refine (HS3.out _ (Below.on (Hb.out _) B3.out)).mono ?_
    rintro e w4 ⟨rfl, b4⟩
    have B4 := hide' (Below.on B3.out b4)
    have hrow := Hbox.out _ _ B4.out
    have y440 : w4.cell? ⟨w.heap.size, 20, none⟩ = some (.int .i64 ck4) := by rw [cell_of_row w4 w.heap.size 20 _ _ _ hrow]; rfl
    have y441 : w4.cell? ⟨w.heap.size, 21, none⟩ = some (.int .i64 cn4) := by rw [cell_of_row w4 w.heap.size 21 _ _ _ hrow]; rfl
    have y442 : w4.cell? ⟨w.heap.size, 22, none⟩ = some (.slice ca4 cl4 cp4) := by rw [cell_of_row w4 w.heap.size 22 _ _ _ hrow]; rfl
    have y443 : w4.cell? ⟨w.heap.size, 23, none⟩ = some (.slice cb4 cm4 cq4) := by rw [cell_of_row w4 w.heap.size 23 _ _ _ hrow]; rfl
    have y444 : w4.cell? ⟨w.heap.size, 24, none⟩ = some (.slice cd4 co4 cr4) := by rw [cell_of_row w4 w.heap.size 24 _ _ _ hrow]; rfl
    clear hrow b4
    go_wp2
    go_ret
    exact ⟨ret_bool (by simp), Below.on (Hb.out _) B4.out⟩
  replace t5 : o3 = true := by simpa using t5
  subst t5
  by_cases t6 : o4 = false
  · subst t6
    go_enter Try.func5, Try.ntmps5
    go_wp2_with fail
    refine (HS0.out _ (Hb.out _)).mono ?_
    rintro e w1 ⟨rfl, b1⟩
    have B1 := hide' b1
    have hrow := Hbox.out _ _ B1.out
    have y100 : w1.cell? ⟨w.heap.size, 0, none⟩ = some (.int .i64 5) := by rw [cell_of_row w1 w.heap.size 0 _ _ _ hrow]; rfl
    have y110 : w1.cell? ⟨w.heap.size, 5, none⟩ = some (.int .i64 5) := by rw [cell_of_row w1 w.heap.size 5 _ _ _ hrow]; rfl
    have y111 : w1.cell? ⟨w.heap.size, 6, none⟩ = some (.int .i64 cn1) := by rw [cell_of_row w1 w.heap.size 6 _ _ _ hrow]; rfl
    have y112 : w1.cell? ⟨w.heap.size, 7, none⟩ = some (.slice ca1 cl1 cp1) := by rw [cell_of_row w1 w.heap.size 7 _ _ _ hrow]; rfl
    have y113 : w1.cell? ⟨w.heap.size, 8, none⟩ = some (.slice cb1 cm1 cq1) := by rw [cell_of_row w1 w.heap.size 8 _ _ _ hrow]; rfl
    have y114 : w1.cell? ⟨w.heap.size, 9, none⟩ = some (.slice cd1 co1 cr1) := by rw [cell_of_row w1 w.heap.size 9 _ _ _ hrow]; rfl
    clear hrow b1
    go_wp2_with fail
    refine (HS1.out _ (Below.on (Hb.out _) B1.out)).mono ?_
    rintro e w2 ⟨rfl, b2⟩
    have B2 := hide' (Below.on B1.out b2)
    have hrow := Hbox.out _ _ B2.out
    have y210 : w2.cell? ⟨w.heap.size, 5, none⟩ = some (.int .i64 5) := by rw [cell_of_row w2 w.heap.size 5 _ _ _ hrow]; rfl
    have y220 : w2.cell? ⟨w.heap.size, 10, none⟩ = some (.int .i64 ck2) := by rw [cell_of_row w2 w.heap.size 10 _ _ _ hrow]; rfl
    have y221 : w2.cell? ⟨w.heap.size, 11, none⟩ = some (.int .i64 cn2) := by rw [cell_of_row w2 w.heap.size 11 _ _ _ hrow]; rfl
    have y222 : w2.cell? ⟨w.heap.size, 12, none⟩ = some (.slice ca2 cl2 cp2) := by rw [cell_of_row w2 w.heap.size 12 _ _ _ hrow]; rfl
    have y223 : w2.cell? ⟨w.heap.size, 13, none⟩ = some (.slice cb2 cm2 cq2) := by rw [cell_of_row w2 w.heap.size 13 _ _ _ hrow]; rfl
    have y224 : w2.cell? ⟨w.heap.size, 14, none⟩ = some (.slice cd2 co2 cr2) := by rw [cell_of_row w2 w.heap.size 14 _ _ _ hrow]; rfl
    clear hrow b2
    go_wp2_with fail
    refine (HS2.out _ (Below.on (Hb.out _) B2.out)).mono ?_
    rintro e w3 ⟨rfl, b3⟩
    have B3 := hide' (Below.on B2.out b3)
    have hrow := Hbox.out _ _ B3.out
    have y330 : w3.cell? ⟨w.heap.size, 15, none⟩ = some (.int .i64 ck3) := by rw [cell_of_row w3 w.heap.size 15 _ _ _ hrow]; rfl
    have y331 : w3.cell? ⟨w.heap.size, 16, none⟩ = some (.int .i64 cn3) := by rw [cell_of_row w3 w.heap.size 16 _ _ _ hrow]; rfl
    have y332 : w3.cell? ⟨w.heap.size, 17, none⟩ = some (.slice ca3 cl3 cp3) := by rw [cell_of_row w3 w.heap.size 17 _ _ _ hrow]; rfl
    have y333 : w3.cell? ⟨w.heap.size, 18, none⟩ = some (.slice cb3 cm3 cq3) := by rw [cell_of_row w3 w.heap.size 18 _ _ _ hrow]; rfl
    have y334 : w3.cell? ⟨w.heap.size, 19, none⟩ = some (.slice cd3 co3 cr3) := by rw [cell_of_row w3 w.heap.size 19 _ _ _ hrow]; rfl
    clear hrow b3
    go_wp2_with fail
    refine (HS3.out _ (Below.on (Hb.out _) B3.out)).mono ?_
    rintro e w4 ⟨rfl, b4⟩
    have B4 := hide' (Below.on B3.out b4)
    have hrow := Hbox.out _ _ B4.out
    have y440 : w4.cell? ⟨w.heap.size, 20, none⟩ = some (.int .i64 ck4) := by rw [cell_of_row w4 w.heap.size 20 _ _ _ hrow]; rfl
    have y441 : w4.cell? ⟨w.heap.size, 21, none⟩ = some (.int .i64 cn4) := by rw [cell_of_row w4 w.heap.size 21 _ _ _ hrow]; rfl
    have y442 : w4.cell? ⟨w.heap.size, 22, none⟩ = some (.slice ca4 cl4 cp4) := by rw [cell_of_row w4 w.heap.size 22 _ _ _ hrow]; rfl
    have y443 : w4.cell? ⟨w.heap.size, 23, none⟩ = some (.slice cb4 cm4 cq4) := by rw [cell_of_row w4 w.heap.size 23 _ _ _ hrow]; rfl
    have y444 : w4.cell? ⟨w.heap.size, 24, none⟩ = some (.slice cd4 co4 cr4) := by rw [cell_of_row w4 w.heap.size 24 _ _ _ hrow]; rfl
    clear hrow b4
    go_wp2_with fail
    refine (HS4.out _ (Below.on (Hb.out _) B4.out)).mono ?_
    rintro e w5 ⟨rfl, b5⟩
    have B5 := hide' (Below.on B4.out b5)
    have hrow := Hbox.out _ _ B5.out
    clear hrow b5
    go_wp2
    go_ret
    exact ⟨ret_bool (by simp), Below.on (Hb.out _) B5.out⟩
  replace t6 : o4 = true := by simpa using t6
  subst t6
  go_enter Try.func5, Try.ntmps5
  go_wp2_with fail
  refine (HS0.out _ (Hb.out _)).mono ?_
  rintro e w1 ⟨rfl, b1⟩
  have B1 := hide' b1
  have hrow := Hbox.out _ _ B1.out
  have y100 : w1.cell? ⟨w.heap.size, 0, none⟩ = some (.int .i64 5) := by rw [cell_of_row w1 w.heap.size 0 _ _ _ hrow]; rfl
  have y110 : w1.cell? ⟨w.heap.size, 5, none⟩ = some (.int .i64 5) := by rw [cell_of_row w1 w.heap.size 5 _ _ _ hrow]; rfl
  have y111 : w1.cell? ⟨w.heap.size, 6, none⟩ = some (.int .i64 cn1) := by rw [cell_of_row w1 w.heap.size 6 _ _ _ hrow]; rfl
  have y112 : w1.cell? ⟨w.heap.size, 7, none⟩ = some (.slice ca1 cl1 cp1) := by rw [cell_of_row w1 w.heap.size 7 _ _ _ hrow]; rfl
  have y113 : w1.cell? ⟨w.heap.size, 8, none⟩ = some (.slice cb1 cm1 cq1) := by rw [cell_of_row w1 w.heap.size 8 _ _ _ hrow]; rfl
  have y114 : w1.cell? ⟨w.heap.size, 9, none⟩ = some (.slice cd1 co1 cr1) := by rw [cell_of_row w1 w.heap.size 9 _ _ _ hrow]; rfl
  clear hrow b1
  go_wp2_with fail
  refine (HS1.out _ (Below.on (Hb.out _) B1.out)).mono ?_
  rintro e w2 ⟨rfl, b2⟩
  have B2 := hide' (Below.on B1.out b2)
  have hrow := Hbox.out _ _ B2.out
  have y210 : w2.cell? ⟨w.heap.size, 5, none⟩ = some (.int .i64 5) := by rw [cell_of_row w2 w.heap.size 5 _ _ _ hrow]; rfl
  have y220 : w2.cell? ⟨w.heap.size, 10, none⟩ = some (.int .i64 ck2) := by rw [cell_of_row w2 w.heap.size 10 _ _ _ hrow]; rfl
  have y221 : w2.cell? ⟨w.heap.size, 11, none⟩ = some (.int .i64 cn2) := by rw [cell_of_row w2 w.heap.size 11 _ _ _ hrow]; rfl
  have y222 : w2.cell? ⟨w.heap.size, 12, none⟩ = some (.slice ca2 cl2 cp2) := by rw [cell_of_row w2 w.heap.size 12 _ _ _ hrow]; rfl
  have y223 : w2.cell? ⟨w.heap.size, 13, none⟩ = some (.slice cb2 cm2 cq2) := by rw [cell_of_row w2 w.heap.size 13 _ _ _ hrow]; rfl
  have y224 : w2.cell? ⟨w.heap.size, 14, none⟩ = some (.slice cd2 co2 cr2) := by rw [cell_of_row w2 w.heap.size 14 _ _ _ hrow]; rfl
  clear hrow b2
  go_wp2_with fail
  refine (HS2.out _ (Below.on (Hb.out _) B2.out)).mono ?_
  rintro e w3 ⟨rfl, b3⟩
  have B3 := hide' (Below.on B2.out b3)
  have hrow := Hbox.out _ _ B3.out
  have y330 : w3.cell? ⟨w.heap.size, 15, none⟩ = some (.int .i64 ck3) := by rw [cell_of_row w3 w.heap.size 15 _ _ _ hrow]; rfl
  have y331 : w3.cell? ⟨w.heap.size, 16, none⟩ = some (.int .i64 cn3) := by rw [cell_of_row w3 w.heap.size 16 _ _ _ hrow]; rfl
  have y332 : w3.cell? ⟨w.heap.size, 17, none⟩ = some (.slice ca3 cl3 cp3) := by rw [cell_of_row w3 w.heap.size 17 _ _ _ hrow]; rfl
  have y333 : w3.cell? ⟨w.heap.size, 18, none⟩ = some (.slice cb3 cm3 cq3) := by rw [cell_of_row w3 w.heap.size 18 _ _ _ hrow]; rfl
  have y334 : w3.cell? ⟨w.heap.size, 19, none⟩ = some (.slice cd3 co3 cr3) := by rw [cell_of_row w3 w.heap.size 19 _ _ _ hrow]; rfl
  clear hrow b3
  go_wp2_with fail
  refine (HS3.out _ (Below.on (Hb.out _) B3.out)).mono ?_
  rintro e w4 ⟨rfl, b4⟩
  have B4 := hide' (Below.on B3.out b4)
  have hrow := Hbox.out _ _ B4.out
  have y440 : w4.cell? ⟨w.heap.size, 20, none⟩ = some (.int .i64 ck4) := by rw [cell_of_row w4 w.heap.size 20 _ _ _ hrow]; rfl
  have y441 : w4.cell? ⟨w.heap.size, 21, none⟩ = some (.int .i64 cn4) := by rw [cell_of_row w4 w.heap.size 21 _ _ _ hrow]; rfl
  have y442 : w4.cell? ⟨w.heap.size, 22, none⟩ = some (.slice ca4 cl4 cp4) := by rw [cell_of_row w4 w.heap.size 22 _ _ _ hrow]; rfl
  have y443 : w4.cell? ⟨w.heap.size, 23, none⟩ = some (.slice cb4 cm4 cq4) := by rw [cell_of_row w4 w.heap.size 23 _ _ _ hrow]; rfl
  have y444 : w4.cell? ⟨w.heap.size, 24, none⟩ = some (.slice cd4 co4 cr4) := by rw [cell_of_row w4 w.heap.size 24 _ _ _ hrow]; rfl
  clear hrow b4
  go_wp2_with fail
  refine (HS4.out _ (Below.on (Hb.out _) B4.out)).mono ?_
  rintro e w5 ⟨rfl, b5⟩
  have B5 := hide' (Below.on B4.out b5)
  have hrow := Hbox.out _ _ B5.out
  clear hrow b5
  go_wp2
  go_ret
  exact ⟨ret_bool (by simp), Below.on (Hb.out _) B5.out⟩
end Go.Proofs.Ytddnncndcmnnjaa
/-
  What a call has made for itself can be read by whoever comes behind it.
-/
namespace Go.Proofs.Ytddnncndcmnnjaa
open Go.RowKit
set_option linter.unusedVariables false

/-- What a call has made for itself can be read by whoever comes behind it. -/
theorem VOwn.below {w w' : World} {d : Nat} {c : Value × Value × Value × Value × Value} {v : Vl d} {B : List Nat} (h : VOwn w d c v B) (hb : Below w.heap.size w w') : VSeg (fun b => b < w.heap.size) w' d c v :=
  VSeg.agree (agree_below hb) d (VSeg.mono (fun b hb => VOwn.lt d h b hb) d (VOwn.seg d h))
end Go.Proofs.Ytddnncndcmnnjaa
