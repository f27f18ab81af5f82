/-
  Texts that a law leans on, one behind the other; no statement is proved here.
-/
import Derived.Test.YtddnncndcmnnjaaPk10
import Derived.Deep.Cut
import Derived.Deep.MidRow
import Derived.Deep.RegionHeld3
import Derived.Test.YtddnncndcmnnjaaPk0
import Derived.WalkKit
import Derived.ProofKit
import Derived.ChangeSlices
import Derived.ChangeArms
/-
  FnExactEnvOk answers true, whatever it is handed; it makes new memory and turns nothing old.
-/
namespace Go.Proofs.Ytddnncndcmnnjaa
open Go.RowKit
set_option linter.unusedVariables false
set_option linter.unusedSimpArgs false

/-- Five values, as the cells of one struct. -/
def EnX (d : Nat) (v0 v1 v2 v3 v4 : Vl d) (X : Array Value) (w : World) : Prop := ∃ c00 c01 c02 c03 c04 c10 c11 c12 c13 c14 c20 c21 c22 c23 c24 c30 c31 c32 c33 c34 c40 c41 c42 c43 c44, X = #[c00, c01, c02, c03, c04, c10, c11, c12, c13, c14, c20, c21, c22, c23, c24, c30, c31, c32, c33, c34, c40, c41, c42, c43, c44] ∧ VSeg (fun b => b < w.heap.size) w d (c00, c01, c02, c03, c04) v0 ∧ VSeg (fun b => b < w.heap.size) w d (c10, c11, c12, c13, c14) v1 ∧ VSeg (fun b => b < w.heap.size) w d (c20, c21, c22, c23, c24) v2 ∧ VSeg (fun b => b < w.heap.size) w d (c30, c31, c32, c33, c34) v3 ∧ VSeg (fun b => b < w.heap.size) w d (c40, c41, c42, c43, c44) v4
variable {d : Nat} {v0 v1 v2 v3 v4 : Vl d} {X Y : Array Value} {w w' : World}
theorem EnX.on (h : EnX d v0 v1 v2 v3 v4 X w) (hb : Below w.heap.size w w') : EnX d v0 v1 v2 v3 v4 X w' := by
  obtain ⟨c00, c01, c02, c03, c04, c10, c11, c12, c13, c14, c20, c21, c22, c23, c24, c30, c31, c32, c33, c34, c40, c41, c42, c43, c44, rfl, h0, h1, h2, h3, h4⟩ := h
  exact ⟨c00, c01, c02, c03, c04, c10, c11, c12, c13, c14, c20, c21, c22, c23, c24, c30, c31, c32, c33, c34, c40, c41, c42, c43, c44, rfl, VSeg.mono (fun b h => Nat.lt_of_lt_of_le h hb.size) d (VSeg.agree (agree_below hb) d h0), VSeg.mono (fun b h => Nat.lt_of_lt_of_le h hb.size) d (VSeg.agree (agree_below hb) d h1), VSeg.mono (fun b h => Nat.lt_of_lt_of_le h hb.size) d (VSeg.agree (agree_below hb) d h2), VSeg.mono (fun b h => Nat.lt_of_lt_of_le h hb.size) d (VSeg.agree (agree_below hb) d h3), VSeg.mono (fun b h => Nat.lt_of_lt_of_le h hb.size) d (VSeg.agree (agree_below hb) d h4)⟩
theorem EnX.size (h : EnX d v0 v1 v2 v3 v4 X w) : X.size = 25 := by
  obtain ⟨c00, c01, c02, c03, c04, c10, c11, c12, c13, c14, c20, c21, c22, c23, c24, c30, c31, c32, c33, c34, c40, c41, c42, c43, c44, rfl, h0, h1, h2, h3, h4⟩ := h
  rfl
theorem EnX.one (h : EnX d v0 v1 v2 v3 v4 X w) : ∀ v ∈ X.toList, v.oneCell' = true := by
  obtain ⟨c00, c01, c02, c03, c04, c10, c11, c12, c13, c14, c20, c21, c22, c23, c24, c30, c31, c32, c33, c34, c40, c41, c42, c43, c44, rfl, h0, h1, h2, h3, h4⟩ := h
  obtain ⟨ck0, cn0, ca0, cl0, cp0, cb0, cm0, cq0, cd0, co0, cr0, rfl, rfl, rfl, rfl, rfl⟩ := VSeg.form d h0
  obtain ⟨ck1, cn1, ca1, cl1, cp1, cb1, cm1, cq1, cd1, co1, cr1, rfl, rfl, rfl, rfl, rfl⟩ := VSeg.form d h1
  obtain ⟨ck2, cn2, ca2, cl2, cp2, cb2, cm2, cq2, cd2, co2, cr2, rfl, rfl, rfl, rfl, rfl⟩ := VSeg.form d h2
  obtain ⟨ck3, cn3, ca3, cl3, cp3, cb3, cm3, cq3, cd3, co3, cr3, rfl, rfl, rfl, rfl, rfl⟩ := VSeg.form d h3
  obtain ⟨ck4, cn4, ca4, cl4, cp4, cb4, cm4, cq4, cd4, co4, cr4, rfl, rfl, rfl, rfl, rfl⟩ := VSeg.form d h4
  intro v hv
  simp only [List.mem_cons, List.not_mem_nil, or_false] at hv
  rcases hv with rfl | rfl | rfl | rfl | rfl | rfl | rfl | rfl | rfl | rfl | rfl | rfl | rfl | rfl | rfl | rfl | rfl | rfl | rfl | rfl | rfl | rfl | rfl | rfl | rfl <;> rfl
theorem EnX.sz (h : EnX d v0 v1 v2 v3 v4 X w) : Calls Try.prog 4 #[.agg X, .int .i64 1048576] w fun e w' => (e = .returned (.int .i64 (-1)) ∨ ∃ n : Int, 0 ≤ n ∧ n ≤ 1048576 ∧ e = .returned (.int .i64 n) ∧ AllSz d v0 v1 v2 v3 v4) ∧ Below w.heap.size w w' := by
  obtain ⟨c00, c01, c02, c03, c04, c10, c11, c12, c13, c14, c20, c21, c22, c23, c24, c30, c31, c32, c33, c34, c40, c41, c42, c43, c44, rfl, h0, h1, h2, h3, h4⟩ := h
  exact szEnv_any d w.heap.size c00 c01 c02 c03 c04 c10 c11 c12 c13 c14 c20 c21 c22 c23 c24 c30 c31 c32 c33 c34 c40 c41 c42 c43 c44 v0 v1 v2 v3 v4 w h0 h1 h2 h3 h4 (Nat.le_refl _)
theorem EnX.to (h : EnX d v0 v1 v2 v3 v4 X w) (hz : AllSz d v0 v1 v2 v3 v4) : Calls Try.prog 6 #[.agg X] w fun e w' => ∃ Y, e = .returned (.agg Y) ∧ EnX d v0 v1 v2 v3 v4 Y w' ∧ Below w.heap.size w w' := by
  obtain ⟨c00, c01, c02, c03, c04, c10, c11, c12, c13, c14, c20, c21, c22, c23, c24, c30, c31, c32, c33, c34, c40, c41, c42, c43, c44, rfl, h0, h1, h2, h3, h4⟩ := h
  refine (toEnv_any d w.heap.size c00 c01 c02 c03 c04 c10 c11 c12 c13 c14 c20 c21 c22 c23 c24 c30 c31 c32 c33 c34 c40 c41 c42 c43 c44 v0 v1 v2 v3 v4 w h0 h1 h2 h3 h4 (Nat.le_refl _) hz).mono ?_
  rintro e w' ⟨u00, u01, u02, u03, u04, u10, u11, u12, u13, u14, u20, u21, u22, u23, u24, u30, u31, u32, u33, u34, u40, u41, u42, u43, u44, rfl, hb, k0, k1, k2, k3, k4⟩
  exact ⟨_, rfl, ⟨u00, u01, u02, u03, u04, u10, u11, u12, u13, u14, u20, u21, u22, u23, u24, u30, u31, u32, u33, u34, u40, u41, u42, u43, u44, rfl, k0, k1, k2, k3, k4⟩, hb⟩
theorem EnX.spec (h : EnX d v0 v1 v2 v3 v4 X w) : Calls Try.prog 5 #[.agg X] w fun e w' => e = .returned (.bool (envB d v0 v1 v2 v3 v4)) ∧ Below w.heap.size w w' := by
  obtain ⟨c00, c01, c02, c03, c04, c10, c11, c12, c13, c14, c20, c21, c22, c23, c24, c30, c31, c32, c33, c34, c40, c41, c42, c43, c44, rfl, h0, h1, h2, h3, h4⟩ := h
  exact spec_EnvOk_any d w.heap.size c00 c01 c02 c03 c04 c10 c11 c12 c13 c14 c20 c21 c22 c23 c24 c30 c31 c32 c33 c34 c40 c41 c42 c43 c44 v0 v1 v2 v3 v4 w h0 h1 h2 h3 h4 (Nat.le_refl _)
theorem EnX.impl (h : EnX d v0 v1 v2 v3 v4 X w) : Calls Try.prog 7 #[.agg X] w fun e w' => e = .returned (.bool (envB d v0 v1 v2 v3 v4)) ∧ Below w.heap.size w w' := by
  obtain ⟨c00, c01, c02, c03, c04, c10, c11, c12, c13, c14, c20, c21, c22, c23, c24, c30, c31, c32, c33, c34, c40, c41, c42, c43, c44, rfl, h0, h1, h2, h3, h4⟩ := h
  exact impl_EnvOk_any d w.heap.size c00 c01 c02 c03 c04 c10 c11 c12 c13 c14 c20 c21 c22 c23 c24 c30 c31 c32 c33 c34 c40 c41 c42 c43 c44 v0 v1 v2 v3 v4 w h0 h1 h2 h3 h4 (Nat.le_refl _)
theorem EnX.eq (h : EnX d v0 v1 v2 v3 v4 X w) (k : EnX d v0 v1 v2 v3 v4 Y w) (hz : AllSz d v0 v1 v2 v3 v4) : Calls Try.prog 8 #[.agg X, .agg Y] w fun e w' => e = .returned (.bool true) ∧ Below w.heap.size w w' := by
  obtain ⟨c00, c01, c02, c03, c04, c10, c11, c12, c13, c14, c20, c21, c22, c23, c24, c30, c31, c32, c33, c34, c40, c41, c42, c43, c44, rfl, h0, h1, h2, h3, h4⟩ := h
  obtain ⟨x00, x01, x02, x03, x04, x10, x11, x12, x13, x14, x20, x21, x22, x23, x24, x30, x31, x32, x33, x34, x40, x41, x42, x43, x44, rfl, k0, k1, k2, k3, k4⟩ := k
  exact eqEnv_any d w.heap.size c00 c01 c02 c03 c04 c10 c11 c12 c13 c14 c20 c21 c22 c23 c24 c30 c31 c32 c33 c34 c40 c41 c42 c43 c44 x00 x01 x02 x03 x04 x10 x11 x12 x13 x14 x20 x21 x22 x23 x24 x30 x31 x32 x33 x34 x40 x41 x42 x43 x44 v0 v1 v2 v3 v4 w h0 h1 h2 h3 h4 k0 k1 k2 k3 k4 (Nat.le_refl _) hz

theorem range_on {w w' : World} {g : Nat} {cs : Array Value} {T : TypeId} {fr : Nat × Nat} (h : w.heap[g]? = some (.cells cs T fr)) (hb : Below w.heap.size w w') : w'.rangeAt g 0 cs.toList :=
  range_of_row (T := T) (fr := fr) (((hb.block g (Array.getElem?_eq_some_iff.1 h).1).trans h).trans (by simp))

theorem range_below {w w' : World} {g : Nat} {cs : List Value} (h : w.rangeAt g 0 cs) (hg : g < w.heap.size) (hb : Below w.heap.size w w') : w'.rangeAt g 0 cs := fun j v hv => (World.cell?_of_block (hb.block g hg)).trans (h j v hv)

set_option maxHeartbeats 3200000 in
set_option maxRecDepth 100000 in
theorem walk_FnExactEnvOk (A : Array Value) (hA : EnX d v0 v1 v2 v3 v4 A w) :
    Calls Try.prog 3 #[.agg A] w fun e w' => e = .returned (.bool true) ∧ Below w.heap.size w w' := by
  have b0 : Hid (∀ o : Obj, Below w.heap.size w (w.alloc o)) := fun o => (Below.refl _ _).alloc (Nat.le_refl _) o
  have HA := hide' hA
  have has := hA.size
  have HR : Hid (∀ wx, Below (w.alloc (.cells A 28)).heap.size (w.alloc (.cells A 28)) wx → wx.rangeAt w.heap.size 0 A.toList) := fun wx hb => range_on (MapKept.heap_alloc w _).1 hb
  have hi28 : (Try.prog.info? 28).map (·.size) = some A.toList.length := by rw [Array.length_toList, has]; kernel_rfl
  have r0 := HR.out _ (Below.refl _ _)
  have HS0 := hide' ((hA.on (b0.out (.cells A 28))).sz)
  clear hA
  go_enter Try.func3, Try.ntmps3
  go_wp2_with (refine wpList_load_mid rfl 28 (.tmp 1) (by rfl) w.heap.size 0 (by rfl) A.toList _ r0 Try.underlying28 rfl hi28 ?_; rw [Array.toArray_toList])
  refine HS0.out.mono ?_
  rintro e w1 ⟨hcase, b1⟩
  have B1 := hide' b1
  clear b1 HS0 r0
  rcases hcase with rfl | ⟨n, hn0, hn1, rfl, hz⟩
  · go_wp2
    go_ret
    exact ⟨rfl, Below.on (b0.out _) B1.out⟩
  have HZ := hide' hz
  have r1 := HR.out _ B1.out
  have HT1 := hide' ((HA.out.on (Below.on (b0.out (.cells A 28)) B1.out)).to hz)
  clear hz
  go_wp2_with (refine wpList_load_mid rfl 28 (.tmp 1) (by rfl) w.heap.size 0 (by rfl) A.toList _ r1 Try.underlying28 rfl hi28 ?_; rw [Array.toArray_toList])
  refine HT1.out.mono ?_
  rintro e w2 ⟨X2, rfl, hX2, b2⟩
  have B2 := hide' (Below.on B1.out b2)
  have HS2 := hide' hX2.spec
  clear hX2 b2 HT1 r1
  go_wp2_with fail
  refine HS2.out.mono ?_
  rintro e w3 ⟨rfl, b3⟩
  have B3 := hide' (Below.on B2.out b3)
  have r3 := HR.out _ B3.out
  have HT3 := hide' ((HA.out.on (Below.on (b0.out (.cells A 28)) B3.out)).to HZ.out)
  clear b3 HS2 B2
  go_upto_region 6 with fail
  have hi35 : ∀ X : Array Value, X.size = 25 → (Try.prog.info? 35).map (·.size) = some X.toList.length := fun X h => by rw [Array.length_toList, h]; kernel_rfl
  have hi35' : ∀ X : Array Value, X.size = 25 → (Try.prog.info? 35).map (·.size) = some X.size := fun X h => by rw [h]; kernel_rfl
  have HI35 := hide' hi35
  have HI35' := hide' hi35'
  clear hi35 hi35'
  go_wp2_with (refine wpList_load_mid rfl 28 (.tmp 1) (by rfl) w.heap.size 0 (by rfl) A.toList _ r3 Try.underlying28 rfl hi28 ?_; rw [Array.toArray_toList])
  refine HT3.out.mono ?_
  rintro e w4 ⟨X, rfl, hX4, b4⟩
  have hXs := hX4.size
  have hth : (w4.alloc (.cells #[.int .i64 0, .int .i64 0, .slice none 0 0, .slice none 0 0, .slice none 0 0, .int .i64 0, .int .i64 0, .slice none 0 0, .slice none 0 0, .slice none 0 0, .int .i64 0, .int .i64 0, .slice none 0 0, .slice none 0 0, .slice none 0 0, .int .i64 0, .int .i64 0, .slice none 0 0, .slice none 0 0, .slice none 0 0, .int .i64 0, .int .i64 0, .slice none 0 0, .slice none 0 0, .slice none 0 0] 35)).there w4.heap.size 0 X.size := by rw [hXs]; exact there_of_row (MapKept.heap_alloc w4 _).1
  have hrs := World.rangeAt_setCells_same (w4.alloc (.cells #[.int .i64 0, .int .i64 0, .slice none 0 0, .slice none 0 0, .slice none 0 0, .int .i64 0, .int .i64 0, .slice none 0 0, .slice none 0 0, .slice none 0 0, .int .i64 0, .int .i64 0, .slice none 0 0, .slice none 0 0, .slice none 0 0, .int .i64 0, .int .i64 0, .slice none 0 0, .slice none 0 0, .slice none 0 0, .int .i64 0, .int .i64 0, .slice none 0 0, .slice none 0 0, .slice none 0 0] 35)) w4.heap.size 0 X.toList (by rw [Array.length_toList]; exact hth)
  have hg := grown_setCells w4.heap.size X.toList 0 (w4.alloc (.cells #[.int .i64 0, .int .i64 0, .slice none 0 0, .slice none 0 0, .slice none 0 0, .int .i64 0, .int .i64 0, .slice none 0 0, .slice none 0 0, .slice none 0 0, .int .i64 0, .int .i64 0, .slice none 0 0, .slice none 0 0, .slice none 0 0, .int .i64 0, .int .i64 0, .slice none 0 0, .slice none 0 0, .slice none 0 0, .int .i64 0, .int .i64 0, .slice none 0 0, .slice none 0 0, .slice none 0 0] 35))
  have b5 : Below w4.heap.size w4 ((w4.alloc (.cells #[.int .i64 0, .int .i64 0, .slice none 0 0, .slice none 0 0, .slice none 0 0, .int .i64 0, .int .i64 0, .slice none 0 0, .slice none 0 0, .slice none 0 0, .int .i64 0, .int .i64 0, .slice none 0 0, .slice none 0 0, .slice none 0 0, .int .i64 0, .int .i64 0, .slice none 0 0, .slice none 0 0, .slice none 0 0, .int .i64 0, .int .i64 0, .slice none 0 0, .slice none 0 0, .slice none 0 0] 35)).setCells w4.heap.size 0 X.toList) := ((Below.refl _ _).alloc (Nat.le_refl _) _).grown hg (by simp) (by intro k hk; simp at hk; omega)
  have hlt5 : w4.heap.size < ((w4.alloc (.cells #[.int .i64 0, .int .i64 0, .slice none 0 0, .slice none 0 0, .slice none 0 0, .int .i64 0, .int .i64 0, .slice none 0 0, .slice none 0 0, .slice none 0 0, .int .i64 0, .int .i64 0, .slice none 0 0, .slice none 0 0, .slice none 0 0, .int .i64 0, .int .i64 0, .slice none 0 0, .slice none 0 0, .slice none 0 0, .int .i64 0, .int .i64 0, .slice none 0 0, .slice none 0 0, .slice none 0 0] 35)).setCells w4.heap.size 0 X.toList).heap.size := by have := hg.size; simp at this; omega
  have hone := all_oneCell_toArray hX4.one
  rw [Array.toArray_toList] at hone
  have hst := HI35'.out X hXs
  have hlt := HI35.out X hXs
  have HX5 := hide' (hX4.on b5)
  have HI5 := hide' (hX4.on b5).impl
  have B5 := hide' (Below.on (Below.on B3.out b4) b5)
  generalize envB d v0 v1 v2 v3 v4 = ok at *
  clear b4 b5 hX4 HT3 r3 hg B3
  go_wp2_with (first | (refine wpList_store_mid rfl 35 (.tmp 5) (.tmp 16) (by rfl) w4.heap.size 0 X (by rfl) (by rfl) hth hst hone ?_) | (refine wpList_load_mid rfl 35 (.tmp 5) (by rfl) w4.heap.size 0 (by rfl) X.toList _ hrs Try.underlying35 rfl hlt ?_; rw [Array.toArray_toList]))
  refine HI5.out.mono ?_
  rintro e w6 ⟨rfl, b6⟩
  have B6 := hide' (Below.on B5.out b6)
  have hr6 := range_below hrs hlt5 b6
  have r6 := HR.out _ B6.out
  have HX6 := hide' (HX5.out.on b6)
  have hz6 : w4.heap.size < w6.heap.size := Nat.lt_of_lt_of_le hlt5 b6.size
  clear HI5 hrs hlt5 b6 HX5 B5 hth hone hst
  have HT6 : Hid (Calls Try.prog 6 #[.agg A] w6.drew fun e w7 => ∃ Y, e = .returned (.agg Y) ∧ (w7.rangeAt w.heap.size 0 A.toList ∧ w7.rangeAt w4.heap.size 0 X.toList) ∧ Hid (Calls Try.prog 8 #[.agg X, .agg Y] w7 fun e w8 => e = .returned (.bool true) ∧ (w8.rangeAt w.heap.size 0 A.toList ∧ w8.rangeAt w4.heap.size 0 X.toList) ∧ Hid (Below w.heap.size w w8))) := by
    refine ((HA.out.on (Below.on (b0.out (.cells A 28)) B6.out).drew).to HZ.out).mono ?_
    rintro e w7 ⟨Y, rfl, hY, b7⟩
    have b67 : Below w6.heap.size w6 w7 := Below.on (Below.refl _ w6).drew b7
    refine ⟨Y, rfl, ⟨HR.out _ (Below.on B6.out b67), range_below hr6 hz6 b67⟩, ?_⟩
    refine ((HX6.out.on b67).eq hY HZ.out).mono ?_
    rintro e w8 ⟨rfl, b8⟩
    have b68 := Below.on b67 b8
    exact ⟨rfl, ⟨HR.out _ (Below.on B6.out b68), range_below hr6 hz6 b68⟩, Below.on (Below.on (b0.out (.cells A 28)) B6.out) b68⟩
  go_upto_region 10 with fail
  refine wp_region_held_drew (S := fun wx => wx.rangeAt w.heap.size 0 A.toList ∧ wx.rangeAt w4.heap.size 0 X.toList) (by kernel_rfl) ⟨r6, hr6⟩ (fun hHeld => ?_)
  refine wpAnyH_take (i := 0) (oi := { dst := some 22, op := .load 35 (.tmp 5), type := 35, pos := "exact.go:5051", after := #[], guard := none }) rfl (by kernel_rfl) (by kernel_rfl) (by kernel_rfl) (fun _ _ _ h => h) (yieldsIf_load_mid (by rfl) 35 (.tmp 5) rfl w4.heap.size 0 (by rfl) X.toList _ (fun _ h => h.2) Try.underlying35 rfl hlt) hHeld ?_
  rw [show X.toList.toArray = X from Array.toArray_toList]
  simp only [Act.put, List.setIfInBounds_toArray, List.set_cons_zero, List.set_cons_succ]
  refine wpAnyH_take (i := 1) (oi := { dst := some 23, op := .load 28 (.tmp 1), type := 28, pos := "exact.go:5051", after := #[], guard := none }) rfl (by kernel_rfl) (by kernel_rfl) (by kernel_rfl) (fun _ _ _ h => h) (yieldsIf_load_mid (by rfl) 28 (.tmp 1) rfl w.heap.size 0 (by rfl) A.toList _ (fun _ h => h.1) Try.underlying28 rfl hi28) hHeld ?_
  rw [show A.toList.toArray = A from Array.toArray_toList]
  simp only [Act.put, List.setIfInBounds_toArray, List.set_cons_zero, List.set_cons_succ]
  refine wpAnyH_ready (rs := [2]) (by kernel_rfl) (by simp) ?_
  refine AllReadyH.cons (o := { dst := some 24, op := .call { callee := .value (.func 6), args := #[.tmp 23], argTypes := #[28] }, type := 35, pos := "exact.go:5051", after := #[{ on := 1, ground := .data }], guard := none }) rfl (fun K hK => ?_) AllReadyH.nil
  go_simp
  go_at_call 6
  refine HT6.out.mono ?_
  rintro e w7 ⟨Y, rfl, hS7, hE7⟩
  go_wp2_with fail
  refine hK.out _ _ hS7 (fun hHeld7 => ?_)
  clear hK
  (try simp only [Act.put, List.setIfInBounds_toArray, List.set_cons_zero, List.set_cons_succ])
  refine wpAnyH_ready (rs := [3]) (by kernel_rfl) (by simp) ?_
  refine AllReadyH.cons (o := { dst := some 25, op := .call { callee := .value (.func 8), args := #[.tmp 22, .tmp 24], argTypes := #[35, 35] }, type := 4, pos := "exact.go:5051", after := #[{ on := 0, ground := .data }, { on := 2, ground := .data }, { on := 2, ground := .chain }], guard := none }) rfl (fun K hK => ?_) AllReadyH.nil
  go_simp
  go_at_call 8
  refine hE7.out.mono ?_
  rintro e w8 ⟨rfl, hS8, hb8⟩
  go_wp2_with fail
  refine hK.out _ _ hS8 (fun hHeld8 => ?_)
  clear hK
  (try simp only [Act.put, List.setIfInBounds_toArray, List.set_cons_zero, List.set_cons_succ])
  refine wpAnyH_ready (rs := [4]) (by kernel_rfl) (by simp) ?_
  refine AllReadyH.cons (o := { dst := some 26, op := .unOp .not 4 (.tmp 25), type := 4, pos := "exact.go:5051", after := #[{ on := 3, ground := .data }], guard := none }) rfl (fun K hK => ?_) AllReadyH.nil
  go_simp
  refine hK.out _ _ hS8 (fun hHeld9 => ?_)
  clear hK
  (try simp only [Act.put, List.setIfInBounds_toArray, List.set_cons_zero, List.set_cons_succ])
  refine wpAnyH_done (by kernel_rfl) ?_ _
  go_wp2
  go_ret
  exact ⟨rfl, hb8.out⟩
end Go.Proofs.Ytddnncndcmnnjaa
/-
  A text that came in, as its reading has it, can be read: 'TSeg'.
-/
namespace Go.Proofs.Ytddnncndcmnnjaa
open Go.ChangeShapes Go.WideShapes Go.ChangeAt Go.RowKit
set_option linter.unusedVariables false
set_option linter.unusedSimpArgs false
set_option maxRecDepth 100000

theorem cellsT : Try.prog.cellsOf 22 = 1 := by kernel_rfl
theorem cellsI : Try.prog.cellsOf 3 = 1 := by kernel_rfl

theorem list_of {α : Type} {Q : Nat → α → Prop} : ∀ n, (∀ i, i < n → ∃ x, Q i x) → ∃ l : List α, l.length = n ∧ ∀ i (h : i < l.length), Q i l[i]
  | 0, _ => ⟨[], rfl, fun i h => by simp at h⟩
  | n + 1, hq => by
    obtain ⟨l, hl, hi⟩ := list_of n (fun i hi => hq i (by omega))
    obtain ⟨x, hx⟩ := hq n (by omega)
    refine ⟨l ++ [x], by simp [hl], fun i h => ?_⟩
    by_cases e : i < l.length
    · rw [List.getElem_append_left e]; exact hi i e
    · have : i = n := by simp at h; omega
      subst this
      rw [List.getElem_append_right (by omega)]
      simpa using hx

variable {H : Type} {enc : TypeId × Value → H} {w : World}

theorem read_text {fuel : Nat} {cs : List Value} {x : DataW H × List MemPlace} (h : DataW.trod enc Try.prog w 0 (fun _ => true) true fuel 22 cs = some x) : ∃ u xs, cs = [u] ∧ TSeg (fun b => b < w.heap.size) w u xs := by
  rcases open_ints Try.underlying22 Try.underlying5 (by kernel_rfl) h with ⟨rfl, _⟩ | ⟨a, len, cap, zs, rfl, _, hl, hm, hz, _, hcell, hwz⟩
  · exact ⟨_, [], rfl, none, 0, rfl, ⟨by simp, .inl rfl⟩, Nat.le_refl _, Nat.zero_le _, fun _ => rfl, by simp⟩
  · obtain ⟨xs, e, hs, h1, h2, h3⟩ := seg_of_row (w := w) (a := some a) (len := len) (cap := cap) (zs := zs) (.inr ⟨a, rfl, hl, hm, by simpa using hz, hcell, hwz⟩)
    subst e
    exact ⟨_, xs, rfl, some a, cap, rfl, hs, h1, h2, h3, hs.lt⟩

end Go.Proofs.Ytddnncndcmnnjaa
/-
  A value that came in, as its reading has it, can be read: 'VSeg'.
-/
namespace Go.Proofs.Ytddnncndcmnnjaa
open Go.ChangeShapes Go.WideShapes Go.ChangeAt Go.RowKit
set_option linter.unusedVariables false
set_option linter.unusedSimpArgs false
set_option maxRecDepth 100000

theorem cellsK : Try.prog.cellsOf 23 = 1 := by kernel_rfl
theorem cellsL : Try.prog.cellsOf 24 = 1 := by kernel_rfl
theorem cellsV : Try.prog.cellsOf 26 = 5 := by kernel_rfl
variable {H : Type} {enc : TypeId × Value → H} {w : World}

theorem read_keys {fuel : Nat} {cs : List Value} {x : DataW H × List MemPlace} (h : DataW.trod enc Try.prog w 0 (fun _ => true) true fuel 23 cs = some x) : ∃ u ks, cs = [u] ∧ KSeg (fun b => b < w.heap.size) w u ks := by
  rcases DataW.trod_slice Try.underlying23 h with ⟨rfl, _⟩ | ⟨a, len, cap, elems, rest, n, _, rfl, _, hb, hl, hm, hlen, hel, hsp, hns⟩
  · exact ⟨_, [], rfl, none, 0, rfl, Nat.le_refl _, Nat.zero_le _, fun _ => rfl, .inl rfl⟩
  · have hq : ∀ i, i < len → ∃ xs : List Int, ∃ u, w.cell? (a.add i) = some u ∧ TSeg (fun b => b < w.heap.size) w u xs := by
      intro i hi
      have h1 := hel i hi
      rw [cellsT, Nat.mul_one, List.getElem?_eq_getElem (by omega)] at h1
      obtain ⟨cs', hc, ht⟩ := Option.bind_eq_some_iff.1 h1
      obtain ⟨u, xs, rfl, hT⟩ := read_text ht
      exact ⟨xs, u, cell_of_cells?_one hc, hT⟩
    obtain ⟨ks, hkl, hks⟩ := list_of len hq
    subst hkl
    refine ⟨_, ks, rfl, some a, cap, rfl, hl, hm, by simp, ?_⟩
    by_cases he : ks = []
    · exact .inl he
    · have hp : 0 < ks.length := List.length_pos_iff.2 he
      obtain ⟨b, off, spot⟩ := a
      obtain ⟨u0, hu0, _⟩ := hks 0 hp
      have hspot : spot = none := by simpa [Addr.add] using World.cell?_spot hu0
      subst hspot
      refine .inr ⟨b, off, rfl, ?_, fun i hi => ?_⟩
      · have := World.block_lt_of_cell? w _ hu0
        simpa [Addr.add] using this
      · obtain ⟨u, hu, hT⟩ := hks i hi
        rw [Addr.add_lit] at hu
        exact ⟨u, hu, by simpa [List.getD_eq_getElem?_getD, hi] using hT⟩

theorem read_five {fuel : Nat} {cs : List Value} {x : DataW H × List MemPlace} (h : DataW.trod enc Try.prog w 0 (fun _ => true) true (fuel + 1) 26 cs = some x) :
    ∃ c0 c1 c2 c3 c4 y0 y1 y2 y3 y4, cs = [c0, c1, c2, c3, c4] ∧ DataW.trod enc Try.prog w 0 (fun _ => true) true fuel 3 [c0] = some y0 ∧ DataW.trod enc Try.prog w 0 (fun _ => true) true fuel 3 [c1] = some y1 ∧
      DataW.trod enc Try.prog w 0 (fun _ => true) true fuel 22 [c2] = some y2 ∧ DataW.trod enc Try.prog w 0 (fun _ => true) true fuel 23 [c3] = some y3 ∧ DataW.trod enc Try.prog w 0 (fun _ => true) true fuel 24 [c4] = some y4 := by
  unfold DataW.trod at h
  rw [Try.underlying26] at h
  simp only [cellsV] at h
  split at h
  · next hlen =>
    match cs, hlen with
    | [c0, c1, c2, c3, c4], _ =>
      simp [cellsT, cellsK, cellsL, cellsI, List.mapM_cons, Option.bind_eq_some_iff] at h
      obtain ⟨a0, b0, h0, _, ⟨a1, b1, h1, _, ⟨a2, b2, h2, _, ⟨a3, b3, h3, _, ⟨a4, b4, h4, _⟩, _⟩, _⟩, _⟩, _⟩ := h
      exact ⟨c0, c1, c2, c3, c4, _, _, _, _, _, rfl, h0, h1, h2, h3, h4⟩
  · simp at h

/-- How deep what is read with that fuel is at most. -/
def dep : Nat → Nat
  | 0 => 0
  | 1 => 0
  | f + 2 => dep f + 1

def ReadAt (enc : TypeId × Value → H) (w : World) (f : Nat) : Prop := ∀ (cs : List Value) (x : DataW H × List MemPlace), DataW.trod enc Try.prog w 0 (fun _ => true) true f 26 cs = some x →
  ∃ (c0 c1 c2 c3 c4 : Value) (v : Vl (dep f)), cs = [c0, c1, c2, c3, c4] ∧ VSeg (fun b => b < w.heap.size) w (dep f) (c0, c1, c2, c3, c4) v

theorem read_step (f : Nat) (ih : ReadAt enc w f) : ReadAt enc w (f + 2) := by
  intro cs x h
  obtain ⟨c0, c1, c2, c3, c4, y0, y1, y2, y3, y4, rfl, h0, h1, h2, h3, h4⟩ := read_five h
  obtain ⟨n0, e0, _, _⟩ := DataW.trod_int Try.underlying3 h0
  obtain ⟨n1, e1, _, _⟩ := DataW.trod_int Try.underlying3 h1
  obtain ⟨u2, xs, e2, hT⟩ := read_text h2
  obtain ⟨u3, ks, e3, hK⟩ := read_keys h3
  simp at e0 e1 e2 e3
  subst e0 e1 e2 e3
  have hL : ∃ l : List (Vl (dep f)), LSeg (fun b => b < w.heap.size) w (dep f) c4 l := by
    rcases DataW.trod_slice Try.underlying24 h4 with ⟨e, _⟩ | ⟨a, len, cap, elems, rest, n, hn, e, _, hb, hl, hm, hlen, hel, hsp, hns⟩
    · simp at e
      subst e
      exact ⟨[], none, 0, rfl, Nat.le_refl _, Nat.zero_le _, fun _ => rfl, .inl rfl⟩
    · simp at e
      subst e
      obtain rfl : n = f := by omega
      have hq : ∀ i, i < len → ∃ v : Vl (dep n), ∃ c0 c1 c2 c3 c4, (∀ j, j < 5 → w.cell? ((a.add (i * 5)).add j) = [c0, c1, c2, c3, c4][j]?) ∧ VSeg (fun b => b < w.heap.size) w (dep n) (c0, c1, c2, c3, c4) v := by
        intro i hi
        have h1 := hel i hi
        rw [cellsV, List.getElem?_eq_getElem (by omega)] at h1
        obtain ⟨cs', hc, ht⟩ := Option.bind_eq_some_iff.1 h1
        obtain ⟨d0, d1, d2, d3, d4, v, rfl, hv⟩ := ih cs' _ ht
        exact ⟨v, d0, d1, d2, d3, d4, (World.cells?_some hc).2.2, hv⟩
      obtain ⟨l, hll, hls⟩ := list_of len hq
      subst hll
      refine ⟨l, some a, cap, rfl, hl, hm, by simp, ?_⟩
      by_cases he : l = []
      · exact .inl he
      · have hp : 0 < l.length := List.length_pos_iff.2 he
        obtain ⟨b, off, spot⟩ := a
        obtain ⟨d0, d1, d2, d3, d4, hu0, _⟩ := hls 0 hp
        have hu := hu0 0 (by omega)
        simp [Addr.add] at hu
        have hspot : spot = none := by simpa using World.cell?_spot hu
        subst hspot
        refine .inr ⟨b, off, rfl, World.block_lt_of_cell? w _ hu, fun i hi => ?_⟩
        obtain ⟨d0, d1, d2, d3, d4, hu, hv⟩ := hls i hi
        have e : ∀ j, j < 5 → w.cell? ⟨b, off + i * 5 + j, none⟩ = [d0, d1, d2, d3, d4][j]? := by
          intro j hj
          have := hu j hj
          rw [Addr.add_lit, Addr.add_lit] at this
          exact this
        exact ⟨(d0, d1, d2, d3, d4), ⟨e 0 (by omega), e 1 (by omega), e 2 (by omega), e 3 (by omega), e 4 (by omega)⟩, hv⟩
  obtain ⟨l, hL⟩ := hL
  exact ⟨_, _, _, _, _, (n0, n1, xs, ks, l), rfl, (VSeg_succ _ _ _ _ _).2 ⟨rfl, rfl, hT, hK, hL⟩⟩

theorem read_both (f : Nat) : ReadAt enc w f ∧ ReadAt enc w (f + 1) := by
  induction f with
  | zero =>
    refine ⟨fun cs x h => by simp [DataW.trod] at h, fun cs x h => ?_⟩
    obtain ⟨_, _, _, _, _, _, _, _, _, _, _, h0, _⟩ := read_five h
    simp [DataW.trod] at h0
  | succ f ih => exact ⟨ih.2, read_step f ih.1⟩

/-- A value that came in. -/
theorem read_value {v : Value} {d : DataW H} {ps : List MemPlace} (h : DataW.Trod enc Try.prog w 0 (fun _ => true) true 26 v d ps) :
    ∃ c0 c1 c2 c3 c4 n, v = .agg #[c0, c1, c2, c3, c4] ∧ ∃ x : Vl n, VSeg (fun b => b < w.heap.size) w n (c0, c1, c2, c3, c4) x := by
  obtain ⟨fuel, hf⟩ := h
  obtain ⟨c0, c1, c2, c3, c4, x, e, hx⟩ := (read_both fuel).1 _ _ hf
  refine ⟨c0, c1, c2, c3, c4, dep fuel, ?_, x, hx⟩
  cases v <;> simp [Value.cells] at e
  rename_i cs
  cases cs
  simp at e
  simp [e]
end Go.Proofs.Ytddnncndcmnnjaa
/-
  An Env that came in can be read.
-/
namespace Go.Proofs.Ytddnncndcmnnjaa
open Go.RowKit
set_option linter.unusedVariables false
set_option linter.unusedSimpArgs false

open Go
variable {H : Type} {enc : TypeId × Value → H} {w : World}

theorem cellsEn : Try.prog.cellsOf 28 = 25 := by kernel_rfl

theorem agg_of {v : Value} {l : List Value} (e : v.cells.toList = l) (h : l.length ≠ 1) : v = .agg l.toArray := by
  cases v <;> simp [Value.cells] at e <;> first | (subst e; simp at h; done) | (subst e; simp)

/-- Five values that came in. -/
theorem read_env {v : Value} {d : DataW H} {ps : List MemPlace} (h : DataW.Trod enc Try.prog w 0 (fun _ => true) true 28 v d ps) :
    ∃ X n, v = .agg X ∧ ∃ v0 v1 v2 v3 v4 : Vl n, EnX n v0 v1 v2 v3 v4 X w := by
  obtain ⟨fuel, hf⟩ := h
  cases fuel with
  | zero => simp [DataW.trod] at hf
  | succ fuel =>
    unfold DataW.trod at hf
    rw [Try.underlying28] at hf
    simp only [cellsEn] at hf
    split at hf
    · next hlen =>
      generalize hcs : v.cells.toList = cs at hf hlen
      match cs, hlen with
      | [c00, c01, c02, c03, c04, c10, c11, c12, c13, c14, c20, c21, c22, c23, c24, c30, c31, c32, c33, c34, c40, c41, c42, c43, c44], _ =>
        simp [cellsV, List.mapM_cons, Option.bind_eq_some_iff] at hf
        obtain ⟨a0, b0, h0, _, ⟨a1, b1, h1, _, ⟨a2, b2, h2, _, ⟨a3, b3, h3, _, ⟨a4, b4, h4, _⟩, _⟩, _⟩, _⟩, _⟩ := hf
        obtain ⟨p0, p1, p2, p3, p4, v0, e, k0⟩ := (read_both fuel).1 _ _ h0
        simp only [List.cons.injEq, and_true] at e
        obtain ⟨rfl, rfl, rfl, rfl, rfl⟩ := e
        obtain ⟨p0, p1, p2, p3, p4, v1, e, k1⟩ := (read_both fuel).1 _ _ h1
        simp only [List.cons.injEq, and_true] at e
        obtain ⟨rfl, rfl, rfl, rfl, rfl⟩ := e
        obtain ⟨p0, p1, p2, p3, p4, v2, e, k2⟩ := (read_both fuel).1 _ _ h2
        simp only [List.cons.injEq, and_true] at e
        obtain ⟨rfl, rfl, rfl, rfl, rfl⟩ := e
        obtain ⟨p0, p1, p2, p3, p4, v3, e, k3⟩ := (read_both fuel).1 _ _ h3
        simp only [List.cons.injEq, and_true] at e
        obtain ⟨rfl, rfl, rfl, rfl, rfl⟩ := e
        obtain ⟨p0, p1, p2, p3, p4, v4, e, k4⟩ := (read_both fuel).1 _ _ h4
        simp only [List.cons.injEq, and_true] at e
        obtain ⟨rfl, rfl, rfl, rfl, rfl⟩ := e
        exact ⟨#[c00, c01, c02, c03, c04, c10, c11, c12, c13, c14, c20, c21, c22, c23, c24, c30, c31, c32, c33, c34, c40, c41, c42, c43, c44], dep fuel, agg_of hcs (by simp), v0, v1, v2, v3, v4, c00, c01, c02, c03, c04, c10, c11, c12, c13, c14, c20, c21, c22, c23, c24, c30, c31, c32, c33, c34, c40, c41, c42, c43, c44, rfl, k0, k1, k2, k3, k4⟩
    · simp at hf
end Go.Proofs.Ytddnncndcmnnjaa
