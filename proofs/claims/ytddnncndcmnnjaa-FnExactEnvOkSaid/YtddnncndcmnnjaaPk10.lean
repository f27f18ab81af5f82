/-
  Texts that a law leans on, one behind the other; no statement is proved here.
-/
import Derived.Test.YtddnncndcmnnjaaPk8
import Derived.Test.YtddnncndcmnnjaaPk9
import Derived.Test.YtddnncndcmnnjaaPk2
/-
  scopeOf, one way through it.
-/
namespace Go.Proofs.Ytddnncndcmnnjaa
open Go.RowKit
set_option linter.unusedVariables false
set_option linter.unusedSimpArgs false

set_option maxHeartbeats 6400000 in
set_option maxRecDepth 100000 in
theorem scopeOf_p4 (ck0 cn0 : Int) (ca0 cb0 cd0 : Option Addr) (cl0 cp0 cm0 cq0 co0 cr0 : Nat) (ck1 cn1 : Int) (ca1 cb1 cd1 : Option Addr) (cl1 cp1 cm1 cq1 co1 cr1 : Nat) (ck2 cn2 : Int) (ca2 cb2 cd2 : Option Addr) (cl2 cp2 cm2 cq2 co2 cr2 : Nat) (ck3 cn3 : Int) (ca3 cb3 cd3 : Option Addr) (cl3 cp3 cm3 cq3 co3 cr3 : Nat) (ck4 cn4 : Int) (ca4 cb4 cd4 : Option Addr) (cl4 cp4 cm4 cq4 co4 cr4 : Nat) (w : World) (HS0 : Hid (∀ wx, Below w.heap.size w wx → Calls Try.prog 21 #[.agg #[.int .i64 ck0, .int .i64 cn0, .slice ca0 cl0 cp0, .slice cb0 cm0 cq0, .slice cd0 co0 cr0]] wx fun e w' => ∃ mo f, e = .returned (.tuple #[.agg #[.map mo], .bool f]) ∧ f = true ∧ Below wx.heap.size wx w')) (HS1 : Hid (∀ wx, Below w.heap.size w wx → Calls Try.prog 21 #[.agg #[.int .i64 ck1, .int .i64 cn1, .slice ca1 cl1 cp1, .slice cb1 cm1 cq1, .slice cd1 co1 cr1]] wx fun e w' => ∃ mo f, e = .returned (.tuple #[.agg #[.map mo], .bool f]) ∧ f = true ∧ Below wx.heap.size wx w')) (HS2 : Hid (∀ wx, Below w.heap.size w wx → Calls Try.prog 22 #[.agg #[.int .i64 ck2, .int .i64 cn2, .slice ca2 cl2 cp2, .slice cb2 cm2 cq2, .slice cd2 co2 cr2]] wx fun e w' => ∃ p f, e = .returned (.tuple #[p, .bool f]) ∧ f = true ∧ One p ∧ Below wx.heap.size wx w')) (HS3 : Hid (∀ wx, Below w.heap.size w wx → Calls Try.prog 22 #[.agg #[.int .i64 ck3, .int .i64 cn3, .slice ca3 cl3 cp3, .slice cb3 cm3 cq3, .slice cd3 co3 cr3]] wx fun e w' => ∃ p f, e = .returned (.tuple #[p, .bool f]) ∧ f = true ∧ One p ∧ Below wx.heap.size wx w')) (HS4 : Hid (∀ wx, Below w.heap.size w wx → Calls Try.prog 22 #[.agg #[.int .i64 ck4, .int .i64 cn4, .slice ca4 cl4 cp4, .slice cb4 cm4 cq4, .slice cd4 co4 cr4]] wx fun e w' => ∃ p f, e = .returned (.tuple #[p, .bool f]) ∧ f = false ∧ One p ∧ Below wx.heap.size wx w')) :
    Calls Try.prog 12 #[.agg #[.int .i64 ck0, .int .i64 cn0, .slice ca0 cl0 cp0, .slice cb0 cm0 cq0, .slice cd0 co0 cr0, .int .i64 ck1, .int .i64 cn1, .slice ca1 cl1 cp1, .slice cb1 cm1 cq1, .slice cd1 co1 cr1, .int .i64 ck2, .int .i64 cn2, .slice ca2 cl2 cp2, .slice cb2 cm2 cq2, .slice cd2 co2 cr2, .int .i64 ck3, .int .i64 cn3, .slice ca3 cl3 cp3, .slice cb3 cm3 cq3, .slice cd3 co3 cr3, .int .i64 ck4, .int .i64 cn4, .slice ca4 cl4 cp4, .slice cb4 cm4 cq4, .slice cd4 co4 cr4]] w (ScEnd false w) := by
  have Hb : Hid (∀ o o' : Obj, Below w.heap.size w ((w.alloc o).alloc o')) := fun o o' => ((Below.refl _ _).alloc (Nat.le_refl _) o).alloc (by simp) o'
  have Hbox : Hid (∀ o o' wx, Below ((w.alloc o).alloc o').heap.size ((w.alloc o).alloc o') wx → wx.heap[w.heap.size]? = some o ∧ wx.heap[w.heap.size + 1]? = some o') := fun o o' wx h => ⟨(h.block _ (by simp; omega)).trans (two_boxes w o o').1, (h.block _ (by simp)).trans (two_boxes w o o').2⟩
  go_enter Try.func12, Try.ntmps12
  go_wp2_with fail
  refine (HS0.out _ (Hb.out _ _)).mono ?_
  rintro e w1 ⟨m0, f0, rfl, hf, b⟩
  subst hf
  have A1 := hide' b
  have BB1 := hide' (A1.out.alloc A1.out.size (.cells #[.map m0] 44))
  have hbx0 : Hid ((w1.alloc (.cells #[.map m0] 44)).heap[w1.heap.size]? = some (.cells #[.map m0] 44)) := (MapKept.heap_alloc w1 _).1
  obtain ⟨hr1, hr2⟩ := Hbox.out _ _ _ A1.out
  have y10 : w1.cell? ⟨w.heap.size, 5, none⟩ = some (.int .i64 ck1) := by rw [cell_of_row w1 w.heap.size 5 _ _ _ hr1]; rfl
  have y11 : w1.cell? ⟨w.heap.size, 6, none⟩ = some (.int .i64 cn1) := by rw [cell_of_row w1 w.heap.size 6 _ _ _ hr1]; rfl
  have y12 : w1.cell? ⟨w.heap.size, 7, none⟩ = some (.slice ca1 cl1 cp1) := by rw [cell_of_row w1 w.heap.size 7 _ _ _ hr1]; rfl
  have y13 : w1.cell? ⟨w.heap.size, 8, none⟩ = some (.slice cb1 cm1 cq1) := by rw [cell_of_row w1 w.heap.size 8 _ _ _ hr1]; rfl
  have y14 : w1.cell? ⟨w.heap.size, 9, none⟩ = some (.slice cd1 co1 cr1) := by rw [cell_of_row w1 w.heap.size 9 _ _ _ hr1]; rfl
  have hlt1 : w.heap.size < w1.heap.size := (Array.getElem?_eq_some_iff.1 hr1).1
  clear hr1 hr2 b HS0
  go_wp2_with fail
  refine (HS1.out _ (Below.on (Hb.out _ _) BB1.out)).mono ?_
  rintro e w2 ⟨m1, f1, rfl, hf, b⟩
  subst hf
  have A2 := hide' (Below.on BB1.out b)
  have BB2 := hide' (A2.out.alloc A2.out.size (.cells #[.map m1] 44))
  have hbx1 : Hid ((w2.alloc (.cells #[.map m1] 44)).heap[w2.heap.size]? = some (.cells #[.map m1] 44)) := (MapKept.heap_alloc w2 _).1
  have hbx0 : Hid ((w2.alloc (.cells #[.map m1] 44)).heap[w1.heap.size]? = some (.cells #[.map m0] 44)) := (Below.heap_alloc _ _ _ (by have := b.size; simp at this; omega)).trans ((b.block _ (by simp)).trans hbx0.out)
  obtain ⟨hr1, hr2⟩ := Hbox.out _ _ _ A2.out
  have y20 : w2.cell? ⟨w.heap.size, 10, none⟩ = some (.int .i64 ck2) := by rw [cell_of_row w2 w.heap.size 10 _ _ _ hr1]; rfl
  have y21 : w2.cell? ⟨w.heap.size, 11, none⟩ = some (.int .i64 cn2) := by rw [cell_of_row w2 w.heap.size 11 _ _ _ hr1]; rfl
  have y22 : w2.cell? ⟨w.heap.size, 12, none⟩ = some (.slice ca2 cl2 cp2) := by rw [cell_of_row w2 w.heap.size 12 _ _ _ hr1]; rfl
  have y23 : w2.cell? ⟨w.heap.size, 13, none⟩ = some (.slice cb2 cm2 cq2) := by rw [cell_of_row w2 w.heap.size 13 _ _ _ hr1]; rfl
  have y24 : w2.cell? ⟨w.heap.size, 14, none⟩ = some (.slice cd2 co2 cr2) := by rw [cell_of_row w2 w.heap.size 14 _ _ _ hr1]; rfl
  have hlt2 : w.heap.size < w2.heap.size := (Array.getElem?_eq_some_iff.1 hr1).1
  clear hr1 hr2 b HS1
  go_wp2_with fail
  refine (HS2.out _ (Below.on (Hb.out _ _) BB2.out)).mono ?_
  rintro e w3 ⟨p2, f2, rfl, hf, hp2, b⟩
  subst hf
  have A3 := hide' (Below.on BB2.out b)
  have BB3 := A3
  have hbx0 := hide' ((b.block _ (Array.getElem?_eq_some_iff.1 hbx0.out).1).trans hbx0.out)
  have hbx1 := hide' ((b.block _ (Array.getElem?_eq_some_iff.1 hbx1.out).1).trans hbx1.out)
  obtain ⟨hr1, hr2⟩ := Hbox.out _ _ _ A3.out
  have y30 : w3.cell? ⟨w.heap.size, 15, none⟩ = some (.int .i64 ck3) := by rw [cell_of_row w3 w.heap.size 15 _ _ _ hr1]; rfl
  have y31 : w3.cell? ⟨w.heap.size, 16, none⟩ = some (.int .i64 cn3) := by rw [cell_of_row w3 w.heap.size 16 _ _ _ hr1]; rfl
  have y32 : w3.cell? ⟨w.heap.size, 17, none⟩ = some (.slice ca3 cl3 cp3) := by rw [cell_of_row w3 w.heap.size 17 _ _ _ hr1]; rfl
  have y33 : w3.cell? ⟨w.heap.size, 18, none⟩ = some (.slice cb3 cm3 cq3) := by rw [cell_of_row w3 w.heap.size 18 _ _ _ hr1]; rfl
  have y34 : w3.cell? ⟨w.heap.size, 19, none⟩ = some (.slice cd3 co3 cr3) := by rw [cell_of_row w3 w.heap.size 19 _ _ _ hr1]; rfl
  have hlt3 : w.heap.size < w3.heap.size := (Array.getElem?_eq_some_iff.1 hr1).1
  clear hr1 hr2 b HS2
  go_wp2_with fail
  refine (HS3.out _ (Below.on (Hb.out _ _) BB3.out)).mono ?_
  rintro e w4 ⟨p3, f3, rfl, hf, hp3, b⟩
  subst hf
  have A4 := hide' (Below.on BB3.out b)
  have BB4 := A4
  have hbx0 := hide' ((b.block _ (Array.getElem?_eq_some_iff.1 hbx0.out).1).trans hbx0.out)
  have hbx1 := hide' ((b.block _ (Array.getElem?_eq_some_iff.1 hbx1.out).1).trans hbx1.out)
  obtain ⟨hr1, hr2⟩ := Hbox.out _ _ _ A4.out
  have y40 : w4.cell? ⟨w.heap.size, 20, none⟩ = some (.int .i64 ck4) := by rw [cell_of_row w4 w.heap.size 20 _ _ _ hr1]; rfl
  have y41 : w4.cell? ⟨w.heap.size, 21, none⟩ = some (.int .i64 cn4) := by rw [cell_of_row w4 w.heap.size 21 _ _ _ hr1]; rfl
  have y42 : w4.cell? ⟨w.heap.size, 22, none⟩ = some (.slice ca4 cl4 cp4) := by rw [cell_of_row w4 w.heap.size 22 _ _ _ hr1]; rfl
  have y43 : w4.cell? ⟨w.heap.size, 23, none⟩ = some (.slice cb4 cm4 cq4) := by rw [cell_of_row w4 w.heap.size 23 _ _ _ hr1]; rfl
  have y44 : w4.cell? ⟨w.heap.size, 24, none⟩ = some (.slice cd4 co4 cr4) := by rw [cell_of_row w4 w.heap.size 24 _ _ _ hr1]; rfl
  have hlt4 : w.heap.size < w4.heap.size := (Array.getElem?_eq_some_iff.1 hr1).1
  clear hr1 hr2 b HS3
  go_wp2_with fail
  refine (HS4.out _ (Below.on (Hb.out _ _) BB4.out)).mono ?_
  rintro e w5 ⟨p4, f4, rfl, hf, hp4, b⟩
  subst hf
  have A5 := hide' (Below.on BB4.out b)
  have BB5 := A5
  have hbx0 := hide' ((b.block _ (Array.getElem?_eq_some_iff.1 hbx0.out).1).trans hbx0.out)
  have hbx1 := hide' ((b.block _ (Array.getElem?_eq_some_iff.1 hbx1.out).1).trans hbx1.out)
  obtain ⟨hr1, hr2⟩ := Hbox.out _ _ _ A5.out
  have hlt5 : w.heap.size < w5.heap.size := (Array.getElem?_eq_some_iff.1 hr1).1
  have ht5 : w5.there (w.heap.size + 1) 0 5 := there_of_row hr2
  have k0 : w5.cell? ⟨w1.heap.size, 0, none⟩ = some (.map m0) := by rw [cell_of_row _ _ 0 _ _ _ hbx0.out]; rfl
  have k1 : w5.cell? ⟨w2.heap.size, 0, none⟩ = some (.map m1) := by rw [cell_of_row _ _ 0 _ _ _ hbx1.out]; rfl
  have hrz := hr2
  clear hr1 hr2 b HS4
  have HB := hide' (Below.on (Hb.out _ _) A5.out)
  have HP2 := hide' hp2
  have HP3 := hide' hp3
  have HP4 := hide' hp4
  have Ht5 := hide' hrz
  have hsz := HB.out.size
  have r0 : w5.cell? ⟨w.heap.size + 1, 0, none⟩ = some (.map none) := by rw [cell_of_row _ _ 0 _ _ _ hrz]; rfl
  have g0 : w5.frozen? ⟨w.heap.size + 1, 0, none⟩ = false := frozen_of_row _ _ _ _ _ hrz
  have r1 : w5.cell? ⟨w.heap.size + 1, 1, none⟩ = some (.map none) := by rw [cell_of_row _ _ 1 _ _ _ hrz]; rfl
  have g1 : w5.frozen? ⟨w.heap.size + 1, 1, none⟩ = false := frozen_of_row _ _ _ _ _ hrz
  have r2 : w5.cell? ⟨w.heap.size + 1, 2, none⟩ = some (.nilIface) := by rw [cell_of_row _ _ 2 _ _ _ hrz]; rfl
  have g2 : w5.frozen? ⟨w.heap.size + 1, 2, none⟩ = false := frozen_of_row _ _ _ _ _ hrz
  have r3 : w5.cell? ⟨w.heap.size + 1, 3, none⟩ = some (.nilIface) := by rw [cell_of_row _ _ 3 _ _ _ hrz]; rfl
  have g3 : w5.frozen? ⟨w.heap.size + 1, 3, none⟩ = false := frozen_of_row _ _ _ _ _ hrz
  have r4 : w5.cell? ⟨w.heap.size + 1, 4, none⟩ = some (.nilIface) := by rw [cell_of_row _ _ 4 _ _ _ hrz]; rfl
  have g4 : w5.frozen? ⟨w.heap.size + 1, 4, none⟩ = false := frozen_of_row _ _ _ _ _ hrz
  clear ht5 hrz BB1 BB2 BB3 BB4 BB5 A1 A2 A3 A4 hbx0 hbx1
  rcases hp2 with rfl | ⟨t2, x2, rfl⟩ <;> rcases hp3 with rfl | ⟨t3, x3, rfl⟩ <;> rcases hp4 with rfl | ⟨t4, x4, rfl⟩
  all_goals
    go_wp2
    exact sc_end false HB.out Ht5.out HP2.out HP3.out HP4.out (by rfl) (by rfl) (by rfl) rfl
end Go.Proofs.Ytddnncndcmnnjaa
/-
  scopeOf, one way through it.
-/
namespace Go.Proofs.Ytddnncndcmnnjaa
open Go.RowKit
set_option linter.unusedVariables false
set_option linter.unusedSimpArgs false

set_option maxHeartbeats 6400000 in
set_option maxRecDepth 100000 in
theorem scopeOf_p5 (ck0 cn0 : Int) (ca0 cb0 cd0 : Option Addr) (cl0 cp0 cm0 cq0 co0 cr0 : Nat) (ck1 cn1 : Int) (ca1 cb1 cd1 : Option Addr) (cl1 cp1 cm1 cq1 co1 cr1 : Nat) (ck2 cn2 : Int) (ca2 cb2 cd2 : Option Addr) (cl2 cp2 cm2 cq2 co2 cr2 : Nat) (ck3 cn3 : Int) (ca3 cb3 cd3 : Option Addr) (cl3 cp3 cm3 cq3 co3 cr3 : Nat) (ck4 cn4 : Int) (ca4 cb4 cd4 : Option Addr) (cl4 cp4 cm4 cq4 co4 cr4 : Nat) (w : World) (HS0 : Hid (∀ wx, Below w.heap.size w wx → Calls Try.prog 21 #[.agg #[.int .i64 ck0, .int .i64 cn0, .slice ca0 cl0 cp0, .slice cb0 cm0 cq0, .slice cd0 co0 cr0]] wx fun e w' => ∃ mo f, e = .returned (.tuple #[.agg #[.map mo], .bool f]) ∧ f = true ∧ Below wx.heap.size wx w')) (HS1 : Hid (∀ wx, Below w.heap.size w wx → Calls Try.prog 21 #[.agg #[.int .i64 ck1, .int .i64 cn1, .slice ca1 cl1 cp1, .slice cb1 cm1 cq1, .slice cd1 co1 cr1]] wx fun e w' => ∃ mo f, e = .returned (.tuple #[.agg #[.map mo], .bool f]) ∧ f = true ∧ Below wx.heap.size wx w')) (HS2 : Hid (∀ wx, Below w.heap.size w wx → Calls Try.prog 22 #[.agg #[.int .i64 ck2, .int .i64 cn2, .slice ca2 cl2 cp2, .slice cb2 cm2 cq2, .slice cd2 co2 cr2]] wx fun e w' => ∃ p f, e = .returned (.tuple #[p, .bool f]) ∧ f = true ∧ One p ∧ Below wx.heap.size wx w')) (HS3 : Hid (∀ wx, Below w.heap.size w wx → Calls Try.prog 22 #[.agg #[.int .i64 ck3, .int .i64 cn3, .slice ca3 cl3 cp3, .slice cb3 cm3 cq3, .slice cd3 co3 cr3]] wx fun e w' => ∃ p f, e = .returned (.tuple #[p, .bool f]) ∧ f = true ∧ One p ∧ Below wx.heap.size wx w')) (HS4 : Hid (∀ wx, Below w.heap.size w wx → Calls Try.prog 22 #[.agg #[.int .i64 ck4, .int .i64 cn4, .slice ca4 cl4 cp4, .slice cb4 cm4 cq4, .slice cd4 co4 cr4]] wx fun e w' => ∃ p f, e = .returned (.tuple #[p, .bool f]) ∧ f = true ∧ One p ∧ Below wx.heap.size wx w')) :
    Calls Try.prog 12 #[.agg #[.int .i64 ck0, .int .i64 cn0, .slice ca0 cl0 cp0, .slice cb0 cm0 cq0, .slice cd0 co0 cr0, .int .i64 ck1, .int .i64 cn1, .slice ca1 cl1 cp1, .slice cb1 cm1 cq1, .slice cd1 co1 cr1, .int .i64 ck2, .int .i64 cn2, .slice ca2 cl2 cp2, .slice cb2 cm2 cq2, .slice cd2 co2 cr2, .int .i64 ck3, .int .i64 cn3, .slice ca3 cl3 cp3, .slice cb3 cm3 cq3, .slice cd3 co3 cr3, .int .i64 ck4, .int .i64 cn4, .slice ca4 cl4 cp4, .slice cb4 cm4 cq4, .slice cd4 co4 cr4]] w (ScEnd true w) := by
  have Hb : Hid (∀ o o' : Obj, Below w.heap.size w ((w.alloc o).alloc o')) := fun o o' => ((Below.refl _ _).alloc (Nat.le_refl _) o).alloc (by simp) o'
  have Hbox : Hid (∀ o o' wx, Below ((w.alloc o).alloc o').heap.size ((w.alloc o).alloc o') wx → wx.heap[w.heap.size]? = some o ∧ wx.heap[w.heap.size + 1]? = some o') := fun o o' wx h => ⟨(h.block _ (by simp; omega)).trans (two_boxes w o o').1, (h.block _ (by simp)).trans (two_boxes w o o').2⟩
  go_enter Try.func12, Try.ntmps12
  go_wp2_with fail
  refine (HS0.out _ (Hb.out _ _)).mono ?_
  rintro e w1 ⟨m0, f0, rfl, hf, b⟩
  subst hf
  have A1 := hide' b
  have BB1 := hide' (A1.out.alloc A1.out.size (.cells #[.map m0] 44))
  have hbx0 : Hid ((w1.alloc (.cells #[.map m0] 44)).heap[w1.heap.size]? = some (.cells #[.map m0] 44)) := (MapKept.heap_alloc w1 _).1
  obtain ⟨hr1, hr2⟩ := Hbox.out _ _ _ A1.out
  have y10 : w1.cell? ⟨w.heap.size, 5, none⟩ = some (.int .i64 ck1) := by rw [cell_of_row w1 w.heap.size 5 _ _ _ hr1]; rfl
  have y11 : w1.cell? ⟨w.heap.size, 6, none⟩ = some (.int .i64 cn1) := by rw [cell_of_row w1 w.heap.size 6 _ _ _ hr1]; rfl
  have y12 : w1.cell? ⟨w.heap.size, 7, none⟩ = some (.slice ca1 cl1 cp1) := by rw [cell_of_row w1 w.heap.size 7 _ _ _ hr1]; rfl
  have y13 : w1.cell? ⟨w.heap.size, 8, none⟩ = some (.slice cb1 cm1 cq1) := by rw [cell_of_row w1 w.heap.size 8 _ _ _ hr1]; rfl
  have y14 : w1.cell? ⟨w.heap.size, 9, none⟩ = some (.slice cd1 co1 cr1) := by rw [cell_of_row w1 w.heap.size 9 _ _ _ hr1]; rfl
  have hlt1 : w.heap.size < w1.heap.size := (Array.getElem?_eq_some_iff.1 hr1).1
  clear hr1 hr2 b HS0
  go_wp2_with fail
  refine (HS1.out _ (Below.on (Hb.out _ _) BB1.out)).mono ?_
  rintro e w2 ⟨m1, f1, rfl, hf, b⟩
  subst hf
  have A2 := hide' (Below.on BB1.out b)
  have BB2 := hide' (A2.out.alloc A2.out.size (.cells #[.map m1] 44))
  have hbx1 : Hid ((w2.alloc (.cells #[.map m1] 44)).heap[w2.heap.size]? = some (.cells #[.map m1] 44)) := (MapKept.heap_alloc w2 _).1
  have hbx0 : Hid ((w2.alloc (.cells #[.map m1] 44)).heap[w1.heap.size]? = some (.cells #[.map m0] 44)) := (Below.heap_alloc _ _ _ (by have := b.size; simp at this; omega)).trans ((b.block _ (by simp)).trans hbx0.out)
  obtain ⟨hr1, hr2⟩ := Hbox.out _ _ _ A2.out
  have y20 : w2.cell? ⟨w.heap.size, 10, none⟩ = some (.int .i64 ck2) := by rw [cell_of_row w2 w.heap.size 10 _ _ _ hr1]; rfl
  have y21 : w2.cell? ⟨w.heap.size, 11, none⟩ = some (.int .i64 cn2) := by rw [cell_of_row w2 w.heap.size 11 _ _ _ hr1]; rfl
  have y22 : w2.cell? ⟨w.heap.size, 12, none⟩ = some (.slice ca2 cl2 cp2) := by rw [cell_of_row w2 w.heap.size 12 _ _ _ hr1]; rfl
  have y23 : w2.cell? ⟨w.heap.size, 13, none⟩ = some (.slice cb2 cm2 cq2) := by rw [cell_of_row w2 w.heap.size 13 _ _ _ hr1]; rfl
  have y24 : w2.cell? ⟨w.heap.size, 14, none⟩ = some (.slice cd2 co2 cr2) := by rw [cell_of_row w2 w.heap.size 14 _ _ _ hr1]; rfl
  have hlt2 : w.heap.size < w2.heap.size := (Array.getElem?_eq_some_iff.1 hr1).1
  clear hr1 hr2 b HS1
  go_wp2_with fail
  refine (HS2.out _ (Below.on (Hb.out _ _) BB2.out)).mono ?_
  rintro e w3 ⟨p2, f2, rfl, hf, hp2, b⟩
  subst hf
  have A3 := hide' (Below.on BB2.out b)
  have BB3 := A3
  have hbx0 := hide' ((b.block _ (Array.getElem?_eq_some_iff.1 hbx0.out).1).trans hbx0.out)
  have hbx1 := hide' ((b.block _ (Array.getElem?_eq_some_iff.1 hbx1.out).1).trans hbx1.out)
  obtain ⟨hr1, hr2⟩ := Hbox.out _ _ _ A3.out
  have y30 : w3.cell? ⟨w.heap.size, 15, none⟩ = some (.int .i64 ck3) := by rw [cell_of_row w3 w.heap.size 15 _ _ _ hr1]; rfl
  have y31 : w3.cell? ⟨w.heap.size, 16, none⟩ = some (.int .i64 cn3) := by rw [cell_of_row w3 w.heap.size 16 _ _ _ hr1]; rfl
  have y32 : w3.cell? ⟨w.heap.size, 17, none⟩ = some (.slice ca3 cl3 cp3) := by rw [cell_of_row w3 w.heap.size 17 _ _ _ hr1]; rfl
  have y33 : w3.cell? ⟨w.heap.size, 18, none⟩ = some (.slice cb3 cm3 cq3) := by rw [cell_of_row w3 w.heap.size 18 _ _ _ hr1]; rfl
  have y34 : w3.cell? ⟨w.heap.size, 19, none⟩ = some (.slice cd3 co3 cr3) := by rw [cell_of_row w3 w.heap.size 19 _ _ _ hr1]; rfl
  have hlt3 : w.heap.size < w3.heap.size := (Array.getElem?_eq_some_iff.1 hr1).1
  clear hr1 hr2 b HS2
  go_wp2_with fail
  refine (HS3.out _ (Below.on (Hb.out _ _) BB3.out)).mono ?_
  rintro e w4 ⟨p3, f3, rfl, hf, hp3, b⟩
  subst hf
  have A4 := hide' (Below.on BB3.out b)
  have BB4 := A4
  have hbx0 := hide' ((b.block _ (Array.getElem?_eq_some_iff.1 hbx0.out).1).trans hbx0.out)
  have hbx1 := hide' ((b.block _ (Array.getElem?_eq_some_iff.1 hbx1.out).1).trans hbx1.out)
  obtain ⟨hr1, hr2⟩ := Hbox.out _ _ _ A4.out
  have y40 : w4.cell? ⟨w.heap.size, 20, none⟩ = some (.int .i64 ck4) := by rw [cell_of_row w4 w.heap.size 20 _ _ _ hr1]; rfl
  have y41 : w4.cell? ⟨w.heap.size, 21, none⟩ = some (.int .i64 cn4) := by rw [cell_of_row w4 w.heap.size 21 _ _ _ hr1]; rfl
  have y42 : w4.cell? ⟨w.heap.size, 22, none⟩ = some (.slice ca4 cl4 cp4) := by rw [cell_of_row w4 w.heap.size 22 _ _ _ hr1]; rfl
  have y43 : w4.cell? ⟨w.heap.size, 23, none⟩ = some (.slice cb4 cm4 cq4) := by rw [cell_of_row w4 w.heap.size 23 _ _ _ hr1]; rfl
  have y44 : w4.cell? ⟨w.heap.size, 24, none⟩ = some (.slice cd4 co4 cr4) := by rw [cell_of_row w4 w.heap.size 24 _ _ _ hr1]; rfl
  have hlt4 : w.heap.size < w4.heap.size := (Array.getElem?_eq_some_iff.1 hr1).1
  clear hr1 hr2 b HS3
  go_wp2_with fail
  refine (HS4.out _ (Below.on (Hb.out _ _) BB4.out)).mono ?_
  rintro e w5 ⟨p4, f4, rfl, hf, hp4, b⟩
  subst hf
  have A5 := hide' (Below.on BB4.out b)
  have BB5 := A5
  have hbx0 := hide' ((b.block _ (Array.getElem?_eq_some_iff.1 hbx0.out).1).trans hbx0.out)
  have hbx1 := hide' ((b.block _ (Array.getElem?_eq_some_iff.1 hbx1.out).1).trans hbx1.out)
  obtain ⟨hr1, hr2⟩ := Hbox.out _ _ _ A5.out
  have hlt5 : w.heap.size < w5.heap.size := (Array.getElem?_eq_some_iff.1 hr1).1
  have ht5 : w5.there (w.heap.size + 1) 0 5 := there_of_row hr2
  have k0 : w5.cell? ⟨w1.heap.size, 0, none⟩ = some (.map m0) := by rw [cell_of_row _ _ 0 _ _ _ hbx0.out]; rfl
  have k1 : w5.cell? ⟨w2.heap.size, 0, none⟩ = some (.map m1) := by rw [cell_of_row _ _ 0 _ _ _ hbx1.out]; rfl
  have hrz := hr2
  clear hr1 hr2 b HS4
  have HB := hide' (Below.on (Hb.out _ _) A5.out)
  have HP2 := hide' hp2
  have HP3 := hide' hp3
  have HP4 := hide' hp4
  have Ht5 := hide' hrz
  have hsz := HB.out.size
  have r0 : w5.cell? ⟨w.heap.size + 1, 0, none⟩ = some (.map none) := by rw [cell_of_row _ _ 0 _ _ _ hrz]; rfl
  have g0 : w5.frozen? ⟨w.heap.size + 1, 0, none⟩ = false := frozen_of_row _ _ _ _ _ hrz
  have r1 : w5.cell? ⟨w.heap.size + 1, 1, none⟩ = some (.map none) := by rw [cell_of_row _ _ 1 _ _ _ hrz]; rfl
  have g1 : w5.frozen? ⟨w.heap.size + 1, 1, none⟩ = false := frozen_of_row _ _ _ _ _ hrz
  have r2 : w5.cell? ⟨w.heap.size + 1, 2, none⟩ = some (.nilIface) := by rw [cell_of_row _ _ 2 _ _ _ hrz]; rfl
  have g2 : w5.frozen? ⟨w.heap.size + 1, 2, none⟩ = false := frozen_of_row _ _ _ _ _ hrz
  have r3 : w5.cell? ⟨w.heap.size + 1, 3, none⟩ = some (.nilIface) := by rw [cell_of_row _ _ 3 _ _ _ hrz]; rfl
  have g3 : w5.frozen? ⟨w.heap.size + 1, 3, none⟩ = false := frozen_of_row _ _ _ _ _ hrz
  have r4 : w5.cell? ⟨w.heap.size + 1, 4, none⟩ = some (.nilIface) := by rw [cell_of_row _ _ 4 _ _ _ hrz]; rfl
  have g4 : w5.frozen? ⟨w.heap.size + 1, 4, none⟩ = false := frozen_of_row _ _ _ _ _ hrz
  clear ht5 hrz BB1 BB2 BB3 BB4 BB5 A1 A2 A3 A4 hbx0 hbx1
  rcases hp2 with rfl | ⟨t2, x2, rfl⟩ <;> rcases hp3 with rfl | ⟨t3, x3, rfl⟩ <;> rcases hp4 with rfl | ⟨t4, x4, rfl⟩
  all_goals
    go_wp2
    exact sc_end true HB.out Ht5.out HP2.out HP3.out HP4.out (by rfl) (by rfl) (by rfl) rfl
end Go.Proofs.Ytddnncndcmnnjaa
/-
  scopeOf and EnvOk of the program.
-/
namespace Go.Proofs.Ytddnncndcmnnjaa
open Go.RowKit
set_option linter.unusedVariables false
set_option linter.unusedSimpArgs false

theorem scopeOf_any (d N : Nat) (c00 c01 c02 c03 c04 c10 c11 c12 c13 c14 c20 c21 c22 c23 c24 c30 c31 c32 c33 c34 c40 c41 c42 c43 c44 : Value) (v0 v1 v2 v3 v4 : Vl d) (w : World) (hv0 : VSeg (fun b => b < N) w d (c00, c01, c02, c03, c04) v0) (hv1 : VSeg (fun b => b < N) w d (c10, c11, c12, c13, c14) v1) (hv2 : VSeg (fun b => b < N) w d (c20, c21, c22, c23, c24) v2) (hv3 : VSeg (fun b => b < N) w d (c30, c31, c32, c33, c34) v3) (hv4 : VSeg (fun b => b < N) w d (c40, c41, c42, c43, c44) v4) (hN : N ≤ w.heap.size) :
    Calls Try.prog 12 #[.agg #[c00, c01, c02, c03, c04, c10, c11, c12, c13, c14, c20, c21, c22, c23, c24, c30, c31, c32, c33, c34, c40, c41, c42, c43, c44]] w (ScEnd (envB d v0 v1 v2 v3 v4) w) := by
  have HS0 : Hid (∀ wx, Below w.heap.size w wx → Calls Try.prog 21 #[.agg #[c00, c01, c02, c03, c04]] wx fun e w' => ∃ mo f, e = .returned (.tuple #[.agg #[.map mo], .bool f]) ∧ f = (okB d v0 && decide (kindV d v0 = 5)) ∧ Below wx.heap.size wx w') := fun wx hb =>
    (mapOf_any d N c00 c01 c02 c03 c04 v0 wx (VSeg.agree (agree_below (hb.mono hN)) d hv0) (by have := hb.size; omega)).mono fun e w' h => mapOf_tell h
  have HS1 : Hid (∀ wx, Below w.heap.size w wx → Calls Try.prog 21 #[.agg #[c10, c11, c12, c13, c14]] wx fun e w' => ∃ mo f, e = .returned (.tuple #[.agg #[.map mo], .bool f]) ∧ f = (okB d v1 && decide (kindV d v1 = 5)) ∧ Below wx.heap.size wx w') := fun wx hb =>
    (mapOf_any d N c10 c11 c12 c13 c14 v1 wx (VSeg.agree (agree_below (hb.mono hN)) d hv1) (by have := hb.size; omega)).mono fun e w' h => mapOf_tell h
  have HS2 : Hid (∀ wx, Below w.heap.size w wx → Calls Try.prog 22 #[.agg #[c20, c21, c22, c23, c24]] wx fun e w' => ∃ p f, e = .returned (.tuple #[p, .bool f]) ∧ f = okB d v2 ∧ One p ∧ Below wx.heap.size wx w') := fun wx hb =>
    (partOf_any d N c20 c21 c22 c23 c24 v2 wx (VSeg.agree (agree_below (hb.mono hN)) d hv2) (by have := hb.size; omega)).mono fun e w' h => partOf_tell h
  have HS3 : Hid (∀ wx, Below w.heap.size w wx → Calls Try.prog 22 #[.agg #[c30, c31, c32, c33, c34]] wx fun e w' => ∃ p f, e = .returned (.tuple #[p, .bool f]) ∧ f = okB d v3 ∧ One p ∧ Below wx.heap.size wx w') := fun wx hb =>
    (partOf_any d N c30 c31 c32 c33 c34 v3 wx (VSeg.agree (agree_below (hb.mono hN)) d hv3) (by have := hb.size; omega)).mono fun e w' h => partOf_tell h
  have HS4 : Hid (∀ wx, Below w.heap.size w wx → Calls Try.prog 22 #[.agg #[c40, c41, c42, c43, c44]] wx fun e w' => ∃ p f, e = .returned (.tuple #[p, .bool f]) ∧ f = okB d v4 ∧ One p ∧ Below wx.heap.size wx w') := fun wx hb =>
    (partOf_any d N c40 c41 c42 c43 c44 v4 wx (VSeg.agree (agree_below (hb.mono hN)) d hv4) (by have := hb.size; omega)).mono fun e w' h => partOf_tell h
  obtain ⟨ck0, cn0, ca0, cl0, cp0, cb0, cm0, cq0, cd0, co0, cr0, rfl, rfl, rfl, rfl, rfl⟩ := VSeg.form d hv0
  obtain ⟨ck1, cn1, ca1, cl1, cp1, cb1, cm1, cq1, cd1, co1, cr1, rfl, rfl, rfl, rfl, rfl⟩ := VSeg.form d hv1
  obtain ⟨ck2, cn2, ca2, cl2, cp2, cb2, cm2, cq2, cd2, co2, cr2, rfl, rfl, rfl, rfl, rfl⟩ := VSeg.form d hv2
  obtain ⟨ck3, cn3, ca3, cl3, cp3, cb3, cm3, cq3, cd3, co3, cr3, rfl, rfl, rfl, rfl, rfl⟩ := VSeg.form d hv3
  obtain ⟨ck4, cn4, ca4, cl4, cp4, cb4, cm4, cq4, cd4, co4, cr4, rfl, rfl, rfl, rfl, rfl⟩ := VSeg.form d hv4
  have hE : envB d v0 v1 v2 v3 v4 = ((okB d v0 && decide (kindV d v0 = 5)) && (okB d v1 && decide (kindV d v1 = 5)) && okB d v2 && okB d v3 && okB d v4) := by simp only [envB, Bool.and_assoc]
  rw [hE]
  generalize (okB d v0 && decide (kindV d v0 = 5)) = o0 at *
  generalize (okB d v1 && decide (kindV d v1 = 5)) = o1 at *
  generalize okB d v2 = o2 at *
  generalize okB d v3 = o3 at *
  generalize okB d v4 = o4 at *
  clear hE hv0 hv1 hv2 hv3 hv4
  by_cases t0 : o0 = false
  · subst t0
    have h := scopeOf_p0 ck0 cn0 ca0 cb0 cd0 cl0 cp0 cm0 cq0 co0 cr0 ck1 cn1 ca1 cb1 cd1 cl1 cp1 cm1 cq1 co1 cr1 ck2 cn2 ca2 cb2 cd2 cl2 cp2 cm2 cq2 co2 cr2 ck3 cn3 ca3 cb3 cd3 cl3 cp3 cm3 cq3 co3 cr3 ck4 cn4 ca4 cb4 cd4 cl4 cp4 cm4 cq4 co4 cr4 o1 o2 o3 o4 w HS0 HS1 HS2 HS3 HS4
    simpa using h
  replace t0 : o0 = true := by simpa using t0
  subst t0
  by_cases t1 : o1 = false
  · subst t1
    have h := scopeOf_p1 ck0 cn0 ca0 cb0 cd0 cl0 cp0 cm0 cq0 co0 cr0 ck1 cn1 ca1 cb1 cd1 cl1 cp1 cm1 cq1 co1 cr1 ck2 cn2 ca2 cb2 cd2 cl2 cp2 cm2 cq2 co2 cr2 ck3 cn3 ca3 cb3 cd3 cl3 cp3 cm3 cq3 co3 cr3 ck4 cn4 ca4 cb4 cd4 cl4 cp4 cm4 cq4 co4 cr4 o2 o3 o4 w HS0 HS1 HS2 HS3 HS4
    simpa using h
  replace t1 : o1 = true := by simpa using t1
  subst t1
  by_cases t2 : o2 = false
  · subst t2
    have h := scopeOf_p2 ck0 cn0 ca0 cb0 cd0 cl0 cp0 cm0 cq0 co0 cr0 ck1 cn1 ca1 cb1 cd1 cl1 cp1 cm1 cq1 co1 cr1 ck2 cn2 ca2 cb2 cd2 cl2 cp2 cm2 cq2 co2 cr2 ck3 cn3 ca3 cb3 cd3 cl3 cp3 cm3 cq3 co3 cr3 ck4 cn4 ca4 cb4 cd4 cl4 cp4 cm4 cq4 co4 cr4 o3 o4 w HS0 HS1 HS2 HS3 HS4
    simpa using h
  replace t2 : o2 = true := by simpa using t2
  subst t2
  by_cases t3 : o3 = false
  · subst t3
    have h := scopeOf_p3 ck0 cn0 ca0 cb0 cd0 cl0 cp0 cm0 cq0 co0 cr0 ck1 cn1 ca1 cb1 cd1 cl1 cp1 cm1 cq1 co1 cr1 ck2 cn2 ca2 cb2 cd2 cl2 cp2 cm2 cq2 co2 cr2 ck3 cn3 ca3 cb3 cd3 cl3 cp3 cm3 cq3 co3 cr3 ck4 cn4 ca4 cb4 cd4 cl4 cp4 cm4 cq4 co4 cr4 o4 w HS0 HS1 HS2 HS3 HS4
    simpa using h
  replace t3 : o3 = true := by simpa using t3
  subst t3
  by_cases t4 : o4 = false
  · subst t4
    have h := scopeOf_p4 ck0 cn0 ca0 cb0 cd0 cl0 cp0 cm0 cq0 co0 cr0 ck1 cn1 ca1 cb1 cd1 cl1 cp1 cm1 cq1 co1 cr1 ck2 cn2 ca2 cb2 cd2 cl2 cp2 cm2 cq2 co2 cr2 ck3 cn3 ca3 cb3 cd3 cl3 cp3 cm3 cq3 co3 cr3 ck4 cn4 ca4 cb4 cd4 cl4 cp4 cm4 cq4 co4 cr4 w HS0 HS1 HS2 HS3 HS4
    simpa using h
  replace t4 : o4 = true := by simpa using t4
  subst t4
  exact scopeOf_p5 ck0 cn0 ca0 cb0 cd0 cl0 cp0 cm0 cq0 co0 cr0 ck1 cn1 ca1 cb1 cd1 cl1 cp1 cm1 cq1 co1 cr1 ck2 cn2 ca2 cb2 cd2 cl2 cp2 cm2 cq2 co2 cr2 ck3 cn3 ca3 cb3 cd3 cl3 cp3 cm3 cq3 co3 cr3 ck4 cn4 ca4 cb4 cd4 cl4 cp4 cm4 cq4 co4 cr4 w HS0 HS1 HS2 HS3 HS4

set_option maxHeartbeats 3200000 in
set_option maxRecDepth 100000 in
theorem impl_EnvOk_any (d N : Nat) (c00 c01 c02 c03 c04 c10 c11 c12 c13 c14 c20 c21 c22 c23 c24 c30 c31 c32 c33 c34 c40 c41 c42 c43 c44 : Value) (v0 v1 v2 v3 v4 : Vl d) (w : World) (hv0 : VSeg (fun b => b < N) w d (c00, c01, c02, c03, c04) v0) (hv1 : VSeg (fun b => b < N) w d (c10, c11, c12, c13, c14) v1) (hv2 : VSeg (fun b => b < N) w d (c20, c21, c22, c23, c24) v2) (hv3 : VSeg (fun b => b < N) w d (c30, c31, c32, c33, c34) v3) (hv4 : VSeg (fun b => b < N) w d (c40, c41, c42, c43, c44) v4) (hN : N ≤ w.heap.size) :
    Calls Try.prog 7 #[.agg #[c00, c01, c02, c03, c04, c10, c11, c12, c13, c14, c20, c21, c22, c23, c24, c30, c31, c32, c33, c34, c40, c41, c42, c43, c44]] w fun e w' => e = .returned (.bool (envB d v0 v1 v2 v3 v4)) ∧ Below w.heap.size w w' := by
  have b0 : ∀ o : Obj, Below w.heap.size w (w.alloc o) := fun o => (Below.refl _ _).alloc (Nat.le_refl _) o
  have Hb := hide' b0
  have HS : Hid (∀ wx, Below w.heap.size w wx → Calls Try.prog 12 #[.agg #[c00, c01, c02, c03, c04, c10, c11, c12, c13, c14, c20, c21, c22, c23, c24, c30, c31, c32, c33, c34, c40, c41, c42, c43, c44]] wx (ScEnd (envB d v0 v1 v2 v3 v4) wx)) := fun wx hb => scopeOf_any d N c00 c01 c02 c03 c04 c10 c11 c12 c13 c14 c20 c21 c22 c23 c24 c30 c31 c32 c33 c34 c40 c41 c42 c43 c44 v0 v1 v2 v3 v4 wx (VSeg.agree (agree_below (hb.mono hN)) d hv0) (VSeg.agree (agree_below (hb.mono hN)) d hv1) (VSeg.agree (agree_below (hb.mono hN)) d hv2) (VSeg.agree (agree_below (hb.mono hN)) d hv3) (VSeg.agree (agree_below (hb.mono hN)) d hv4) (by have := hb.size; omega)
  obtain ⟨ck0, cn0, ca0, cl0, cp0, cb0, cm0, cq0, cd0, co0, cr0, rfl, rfl, rfl, rfl, rfl⟩ := VSeg.form d hv0
  obtain ⟨ck1, cn1, ca1, cl1, cp1, cb1, cm1, cq1, cd1, co1, cr1, rfl, rfl, rfl, rfl, rfl⟩ := VSeg.form d hv1
  obtain ⟨ck2, cn2, ca2, cl2, cp2, cb2, cm2, cq2, cd2, co2, cr2, rfl, rfl, rfl, rfl, rfl⟩ := VSeg.form d hv2
  obtain ⟨ck3, cn3, ca3, cl3, cp3, cb3, cm3, cq3, cd3, co3, cr3, rfl, rfl, rfl, rfl, rfl⟩ := VSeg.form d hv3
  obtain ⟨ck4, cn4, ca4, cl4, cp4, cb4, cm4, cq4, cd4, co4, cr4, rfl, rfl, rfl, rfl, rfl⟩ := VSeg.form d hv4
  generalize envB d v0 v1 v2 v3 v4 = ok at *
  clear b0 hv0 hv1 hv2 hv3 hv4
  have hr : (w.alloc (.cells #[.int .i64 ck0, .int .i64 cn0, .slice ca0 cl0 cp0, .slice cb0 cm0 cq0, .slice cd0 co0 cr0, .int .i64 ck1, .int .i64 cn1, .slice ca1 cl1 cp1, .slice cb1 cm1 cq1, .slice cd1 co1 cr1, .int .i64 ck2, .int .i64 cn2, .slice ca2 cl2 cp2, .slice cb2 cm2 cq2, .slice cd2 co2 cr2, .int .i64 ck3, .int .i64 cn3, .slice ca3 cl3 cp3, .slice cb3 cm3 cq3, .slice cd3 co3 cr3, .int .i64 ck4, .int .i64 cn4, .slice ca4 cl4 cp4, .slice cb4 cm4 cq4, .slice cd4 co4 cr4] 35)).rangeAt w.heap.size 0 [.int .i64 ck0, .int .i64 cn0, .slice ca0 cl0 cp0, .slice cb0 cm0 cq0, .slice cd0 co0 cr0, .int .i64 ck1, .int .i64 cn1, .slice ca1 cl1 cp1, .slice cb1 cm1 cq1, .slice cd1 co1 cr1, .int .i64 ck2, .int .i64 cn2, .slice ca2 cl2 cp2, .slice cb2 cm2 cq2, .slice cd2 co2 cr2, .int .i64 ck3, .int .i64 cn3, .slice ca3 cl3 cp3, .slice cb3 cm3 cq3, .slice cd3 co3 cr3, .int .i64 ck4, .int .i64 cn4, .slice ca4 cl4 cp4, .slice cb4 cm4 cq4, .slice cd4 co4 cr4] := range_of_row (MapKept.heap_alloc w _).1
  go_enter Try.func7, Try.ntmps7
  go_wp2_with (refine wpList_load_mid rfl 35 (.tmp 1) (by rfl) w.heap.size 0 (by rfl) [.int .i64 ck0, .int .i64 cn0, .slice ca0 cl0 cp0, .slice cb0 cm0 cq0, .slice cd0 co0 cr0, .int .i64 ck1, .int .i64 cn1, .slice ca1 cl1 cp1, .slice cb1 cm1 cq1, .slice cd1 co1 cr1, .int .i64 ck2, .int .i64 cn2, .slice ca2 cl2 cp2, .slice cb2 cm2 cq2, .slice cd2 co2 cr2, .int .i64 ck3, .int .i64 cn3, .slice ca3 cl3 cp3, .slice cb3 cm3 cq3, .slice cd3 co3 cr3, .int .i64 ck4, .int .i64 cn4, .slice ca4 cl4 cp4, .slice cb4 cm4 cq4, .slice cd4 co4 cr4] _ hr Try.underlying35 rfl (by kernel_rfl) ?_)
  refine (HS.out _ (Hb.out _)).mono ?_
  rintro e w1 ⟨m0, m1, p2, p3, p4, rfl, h2, h3, h4, b1⟩
  have B1 := hide' ((Below.on (Hb.out _) b1).alloc (Below.on (Hb.out _) b1).size (.cells #[.map m0, .map m1, p2, p3, p4] 48))
  clear b1
  rcases h2 with rfl | ⟨t2, x2, rfl⟩ <;> rcases h3 with rfl | ⟨t3, x3, rfl⟩ <;> rcases h4 with rfl | ⟨t4, x4, rfl⟩
  all_goals
    go_wp2
    go_ret
    exact ⟨rfl, B1.out⟩
end Go.Proofs.Ytddnncndcmnnjaa
/-
  eqEnv: two readings of five values.
-/
namespace Go.Proofs.Ytddnncndcmnnjaa
open Go.RowKit
set_option linter.unusedVariables false
set_option linter.unusedSimpArgs false

set_option maxHeartbeats 6400000 in
set_option maxRecDepth 100000 in
theorem eqEnv_any (d N : Nat) (c00 c01 c02 c03 c04 c10 c11 c12 c13 c14 c20 c21 c22 c23 c24 c30 c31 c32 c33 c34 c40 c41 c42 c43 c44 x00 x01 x02 x03 x04 x10 x11 x12 x13 x14 x20 x21 x22 x23 x24 x30 x31 x32 x33 x34 x40 x41 x42 x43 x44 : Value) (v0 v1 v2 v3 v4 : Vl d) (w : World) (hv0 : VSeg (fun b => b < N) w d (c00, c01, c02, c03, c04) v0) (hv1 : VSeg (fun b => b < N) w d (c10, c11, c12, c13, c14) v1) (hv2 : VSeg (fun b => b < N) w d (c20, c21, c22, c23, c24) v2) (hv3 : VSeg (fun b => b < N) w d (c30, c31, c32, c33, c34) v3) (hv4 : VSeg (fun b => b < N) w d (c40, c41, c42, c43, c44) v4) (hx0 : VSeg (fun b => b < N) w d (x00, x01, x02, x03, x04) v0) (hx1 : VSeg (fun b => b < N) w d (x10, x11, x12, x13, x14) v1) (hx2 : VSeg (fun b => b < N) w d (x20, x21, x22, x23, x24) v2) (hx3 : VSeg (fun b => b < N) w d (x30, x31, x32, x33, x34) v3) (hx4 : VSeg (fun b => b < N) w d (x40, x41, x42, x43, x44) v4) (hN : N ≤ w.heap.size) (hz : AllSz d v0 v1 v2 v3 v4) :
    Calls Try.prog 8 #[.agg #[c00, c01, c02, c03, c04, c10, c11, c12, c13, c14, c20, c21, c22, c23, c24, c30, c31, c32, c33, c34, c40, c41, c42, c43, c44], .agg #[x00, x01, x02, x03, x04, x10, x11, x12, x13, x14, x20, x21, x22, x23, x24, x30, x31, x32, x33, x34, x40, x41, x42, x43, x44]] w fun e w' => e = .returned (.bool true) ∧ Below w.heap.size w w' := by
  have b0 : ∀ o o' : Obj, Below w.heap.size w ((w.alloc o).alloc o') := fun o o' => ((Below.refl _ _).alloc (Nat.le_refl _) o).alloc (by simp) o'
  have Hb := hide' b0
  have Hbox : Hid (∀ o o' wx, Below ((w.alloc o).alloc o').heap.size ((w.alloc o).alloc o') wx → wx.heap[w.heap.size]? = some o ∧ wx.heap[w.heap.size + 1]? = some o') := fun o o' wx h => ⟨(h.block _ (by simp; omega)).trans (two_boxes w o o').1, (h.block _ (by simp)).trans (two_boxes w o o').2⟩
  obtain ⟨z0, z1, z2, z3, z4⟩ := hz
  have HE0 : Hid (∀ wx, Below w.heap.size w wx → Calls Try.prog 13 #[.agg #[c00, c01, c02, c03, c04], .agg #[x00, x01, x02, x03, x04]] wx fun e w' => e = .returned (.bool true) ∧ Below wx.heap.size wx w') := fun wx hb =>
    eqValue_any d N (c00, c01, c02, c03, c04) (x00, x01, x02, x03, x04) v0 wx (VSeg.agree (agree_below (hb.mono hN)) d hv0) (VSeg.agree (agree_below (hb.mono hN)) d hx0) (by have := hb.size; omega) z0
  have HE1 : Hid (∀ wx, Below w.heap.size w wx → Calls Try.prog 13 #[.agg #[c10, c11, c12, c13, c14], .agg #[x10, x11, x12, x13, x14]] wx fun e w' => e = .returned (.bool true) ∧ Below wx.heap.size wx w') := fun wx hb =>
    eqValue_any d N (c10, c11, c12, c13, c14) (x10, x11, x12, x13, x14) v1 wx (VSeg.agree (agree_below (hb.mono hN)) d hv1) (VSeg.agree (agree_below (hb.mono hN)) d hx1) (by have := hb.size; omega) z1
  have HE2 : Hid (∀ wx, Below w.heap.size w wx → Calls Try.prog 13 #[.agg #[c20, c21, c22, c23, c24], .agg #[x20, x21, x22, x23, x24]] wx fun e w' => e = .returned (.bool true) ∧ Below wx.heap.size wx w') := fun wx hb =>
    eqValue_any d N (c20, c21, c22, c23, c24) (x20, x21, x22, x23, x24) v2 wx (VSeg.agree (agree_below (hb.mono hN)) d hv2) (VSeg.agree (agree_below (hb.mono hN)) d hx2) (by have := hb.size; omega) z2
  have HE3 : Hid (∀ wx, Below w.heap.size w wx → Calls Try.prog 13 #[.agg #[c30, c31, c32, c33, c34], .agg #[x30, x31, x32, x33, x34]] wx fun e w' => e = .returned (.bool true) ∧ Below wx.heap.size wx w') := fun wx hb =>
    eqValue_any d N (c30, c31, c32, c33, c34) (x30, x31, x32, x33, x34) v3 wx (VSeg.agree (agree_below (hb.mono hN)) d hv3) (VSeg.agree (agree_below (hb.mono hN)) d hx3) (by have := hb.size; omega) z3
  have HE4 : Hid (∀ wx, Below w.heap.size w wx → Calls Try.prog 13 #[.agg #[c40, c41, c42, c43, c44], .agg #[x40, x41, x42, x43, x44]] wx fun e w' => e = .returned (.bool true) ∧ Below wx.heap.size wx w') := fun wx hb =>
    eqValue_any d N (c40, c41, c42, c43, c44) (x40, x41, x42, x43, x44) v4 wx (VSeg.agree (agree_below (hb.mono hN)) d hv4) (VSeg.agree (agree_below (hb.mono hN)) d hx4) (by have := hb.size; omega) z4
  obtain ⟨ck0, cn0, ca0, cl0, cp0, cb0, cm0, cq0, cd0, co0, cr0, rfl, rfl, rfl, rfl, rfl⟩ := VSeg.form d hv0
  obtain ⟨ck1, cn1, ca1, cl1, cp1, cb1, cm1, cq1, cd1, co1, cr1, rfl, rfl, rfl, rfl, rfl⟩ := VSeg.form d hv1
  obtain ⟨ck2, cn2, ca2, cl2, cp2, cb2, cm2, cq2, cd2, co2, cr2, rfl, rfl, rfl, rfl, rfl⟩ := VSeg.form d hv2
  obtain ⟨ck3, cn3, ca3, cl3, cp3, cb3, cm3, cq3, cd3, co3, cr3, rfl, rfl, rfl, rfl, rfl⟩ := VSeg.form d hv3
  obtain ⟨ck4, cn4, ca4, cl4, cp4, cb4, cm4, cq4, cd4, co4, cr4, rfl, rfl, rfl, rfl, rfl⟩ := VSeg.form d hv4
  obtain ⟨xk0, xn0, xa0, xl0, xp0, xb0, xm0, xq0, xd0, xo0, xr0, rfl, rfl, rfl, rfl, rfl⟩ := VSeg.form d hx0
  obtain ⟨xk1, xn1, xa1, xl1, xp1, xb1, xm1, xq1, xd1, xo1, xr1, rfl, rfl, rfl, rfl, rfl⟩ := VSeg.form d hx1
  obtain ⟨xk2, xn2, xa2, xl2, xp2, xb2, xm2, xq2, xd2, xo2, xr2, rfl, rfl, rfl, rfl, rfl⟩ := VSeg.form d hx2
  obtain ⟨xk3, xn3, xa3, xl3, xp3, xb3, xm3, xq3, xd3, xo3, xr3, rfl, rfl, rfl, rfl, rfl⟩ := VSeg.form d hx3
  obtain ⟨xk4, xn4, xa4, xl4, xp4, xb4, xm4, xq4, xd4, xo4, xr4, rfl, rfl, rfl, rfl, rfl⟩ := VSeg.form d hx4
  clear b0 hv0 hx0 z0 hv1 hx1 z1 hv2 hx2 z2 hv3 hx3 z3 hv4 hx4 z4
  go_enter Try.func8, Try.ntmps8
  go_wp2_with fail
  refine (HE0.out _ (Hb.out _ _)).mono ?_
  rintro e w1 ⟨rfl, b1⟩
  have B1 := hide' b1
  obtain ⟨hr1, hr2⟩ := Hbox.out _ _ _ B1.out
  have y10 : w1.cell? ⟨w.heap.size, 5, none⟩ = some (.int .i64 ck1) := by rw [cell_of_row w1 w.heap.size 5 _ _ _ hr1]; rfl
  have y11 : w1.cell? ⟨w.heap.size, 6, none⟩ = some (.int .i64 cn1) := by rw [cell_of_row w1 w.heap.size 6 _ _ _ hr1]; rfl
  have y12 : w1.cell? ⟨w.heap.size, 7, none⟩ = some (.slice ca1 cl1 cp1) := by rw [cell_of_row w1 w.heap.size 7 _ _ _ hr1]; rfl
  have y13 : w1.cell? ⟨w.heap.size, 8, none⟩ = some (.slice cb1 cm1 cq1) := by rw [cell_of_row w1 w.heap.size 8 _ _ _ hr1]; rfl
  have y14 : w1.cell? ⟨w.heap.size, 9, none⟩ = some (.slice cd1 co1 cr1) := by rw [cell_of_row w1 w.heap.size 9 _ _ _ hr1]; rfl
  have q10 : w1.cell? ⟨(w.heap.size + 1), 5, none⟩ = some (.int .i64 xk1) := by rw [cell_of_row w1 (w.heap.size + 1) 5 _ _ _ hr2]; rfl
  have q11 : w1.cell? ⟨(w.heap.size + 1), 6, none⟩ = some (.int .i64 xn1) := by rw [cell_of_row w1 (w.heap.size + 1) 6 _ _ _ hr2]; rfl
  have q12 : w1.cell? ⟨(w.heap.size + 1), 7, none⟩ = some (.slice xa1 xl1 xp1) := by rw [cell_of_row w1 (w.heap.size + 1) 7 _ _ _ hr2]; rfl
  have q13 : w1.cell? ⟨(w.heap.size + 1), 8, none⟩ = some (.slice xb1 xm1 xq1) := by rw [cell_of_row w1 (w.heap.size + 1) 8 _ _ _ hr2]; rfl
  have q14 : w1.cell? ⟨(w.heap.size + 1), 9, none⟩ = some (.slice xd1 xo1 xr1) := by rw [cell_of_row w1 (w.heap.size + 1) 9 _ _ _ hr2]; rfl
  clear hr1 hr2
  clear b1 HE0
  go_wp2_with fail
  refine (HE1.out _ (Below.on (Hb.out _ _) B1.out)).mono ?_
  rintro e w2 ⟨rfl, b2⟩
  have B2 := hide' (Below.on B1.out b2)
  obtain ⟨hr1, hr2⟩ := Hbox.out _ _ _ B2.out
  have y20 : w2.cell? ⟨w.heap.size, 10, none⟩ = some (.int .i64 ck2) := by rw [cell_of_row w2 w.heap.size 10 _ _ _ hr1]; rfl
  have y21 : w2.cell? ⟨w.heap.size, 11, none⟩ = some (.int .i64 cn2) := by rw [cell_of_row w2 w.heap.size 11 _ _ _ hr1]; rfl
  have y22 : w2.cell? ⟨w.heap.size, 12, none⟩ = some (.slice ca2 cl2 cp2) := by rw [cell_of_row w2 w.heap.size 12 _ _ _ hr1]; rfl
  have y23 : w2.cell? ⟨w.heap.size, 13, none⟩ = some (.slice cb2 cm2 cq2) := by rw [cell_of_row w2 w.heap.size 13 _ _ _ hr1]; rfl
  have y24 : w2.cell? ⟨w.heap.size, 14, none⟩ = some (.slice cd2 co2 cr2) := by rw [cell_of_row w2 w.heap.size 14 _ _ _ hr1]; rfl
  have q20 : w2.cell? ⟨(w.heap.size + 1), 10, none⟩ = some (.int .i64 xk2) := by rw [cell_of_row w2 (w.heap.size + 1) 10 _ _ _ hr2]; rfl
  have q21 : w2.cell? ⟨(w.heap.size + 1), 11, none⟩ = some (.int .i64 xn2) := by rw [cell_of_row w2 (w.heap.size + 1) 11 _ _ _ hr2]; rfl
  have q22 : w2.cell? ⟨(w.heap.size + 1), 12, none⟩ = some (.slice xa2 xl2 xp2) := by rw [cell_of_row w2 (w.heap.size + 1) 12 _ _ _ hr2]; rfl
  have q23 : w2.cell? ⟨(w.heap.size + 1), 13, none⟩ = some (.slice xb2 xm2 xq2) := by rw [cell_of_row w2 (w.heap.size + 1) 13 _ _ _ hr2]; rfl
  have q24 : w2.cell? ⟨(w.heap.size + 1), 14, none⟩ = some (.slice xd2 xo2 xr2) := by rw [cell_of_row w2 (w.heap.size + 1) 14 _ _ _ hr2]; rfl
  clear hr1 hr2
  clear b2 HE1
  go_wp2_with fail
  refine (HE2.out _ (Below.on (Hb.out _ _) B2.out)).mono ?_
  rintro e w3 ⟨rfl, b3⟩
  have B3 := hide' (Below.on B2.out b3)
  obtain ⟨hr1, hr2⟩ := Hbox.out _ _ _ B3.out
  have y30 : w3.cell? ⟨w.heap.size, 15, none⟩ = some (.int .i64 ck3) := by rw [cell_of_row w3 w.heap.size 15 _ _ _ hr1]; rfl
  have y31 : w3.cell? ⟨w.heap.size, 16, none⟩ = some (.int .i64 cn3) := by rw [cell_of_row w3 w.heap.size 16 _ _ _ hr1]; rfl
  have y32 : w3.cell? ⟨w.heap.size, 17, none⟩ = some (.slice ca3 cl3 cp3) := by rw [cell_of_row w3 w.heap.size 17 _ _ _ hr1]; rfl
  have y33 : w3.cell? ⟨w.heap.size, 18, none⟩ = some (.slice cb3 cm3 cq3) := by rw [cell_of_row w3 w.heap.size 18 _ _ _ hr1]; rfl
  have y34 : w3.cell? ⟨w.heap.size, 19, none⟩ = some (.slice cd3 co3 cr3) := by rw [cell_of_row w3 w.heap.size 19 _ _ _ hr1]; rfl
  have q30 : w3.cell? ⟨(w.heap.size + 1), 15, none⟩ = some (.int .i64 xk3) := by rw [cell_of_row w3 (w.heap.size + 1) 15 _ _ _ hr2]; rfl
  have q31 : w3.cell? ⟨(w.heap.size + 1), 16, none⟩ = some (.int .i64 xn3) := by rw [cell_of_row w3 (w.heap.size + 1) 16 _ _ _ hr2]; rfl
  have q32 : w3.cell? ⟨(w.heap.size + 1), 17, none⟩ = some (.slice xa3 xl3 xp3) := by rw [cell_of_row w3 (w.heap.size + 1) 17 _ _ _ hr2]; rfl
  have q33 : w3.cell? ⟨(w.heap.size + 1), 18, none⟩ = some (.slice xb3 xm3 xq3) := by rw [cell_of_row w3 (w.heap.size + 1) 18 _ _ _ hr2]; rfl
  have q34 : w3.cell? ⟨(w.heap.size + 1), 19, none⟩ = some (.slice xd3 xo3 xr3) := by rw [cell_of_row w3 (w.heap.size + 1) 19 _ _ _ hr2]; rfl
  clear hr1 hr2
  clear b3 HE2
  go_wp2_with fail
  refine (HE3.out _ (Below.on (Hb.out _ _) B3.out)).mono ?_
  rintro e w4 ⟨rfl, b4⟩
  have B4 := hide' (Below.on B3.out b4)
  obtain ⟨hr1, hr2⟩ := Hbox.out _ _ _ B4.out
  have y40 : w4.cell? ⟨w.heap.size, 20, none⟩ = some (.int .i64 ck4) := by rw [cell_of_row w4 w.heap.size 20 _ _ _ hr1]; rfl
  have y41 : w4.cell? ⟨w.heap.size, 21, none⟩ = some (.int .i64 cn4) := by rw [cell_of_row w4 w.heap.size 21 _ _ _ hr1]; rfl
  have y42 : w4.cell? ⟨w.heap.size, 22, none⟩ = some (.slice ca4 cl4 cp4) := by rw [cell_of_row w4 w.heap.size 22 _ _ _ hr1]; rfl
  have y43 : w4.cell? ⟨w.heap.size, 23, none⟩ = some (.slice cb4 cm4 cq4) := by rw [cell_of_row w4 w.heap.size 23 _ _ _ hr1]; rfl
  have y44 : w4.cell? ⟨w.heap.size, 24, none⟩ = some (.slice cd4 co4 cr4) := by rw [cell_of_row w4 w.heap.size 24 _ _ _ hr1]; rfl
  have q40 : w4.cell? ⟨(w.heap.size + 1), 20, none⟩ = some (.int .i64 xk4) := by rw [cell_of_row w4 (w.heap.size + 1) 20 _ _ _ hr2]; rfl
  have q41 : w4.cell? ⟨(w.heap.size + 1), 21, none⟩ = some (.int .i64 xn4) := by rw [cell_of_row w4 (w.heap.size + 1) 21 _ _ _ hr2]; rfl
  have q42 : w4.cell? ⟨(w.heap.size + 1), 22, none⟩ = some (.slice xa4 xl4 xp4) := by rw [cell_of_row w4 (w.heap.size + 1) 22 _ _ _ hr2]; rfl
  have q43 : w4.cell? ⟨(w.heap.size + 1), 23, none⟩ = some (.slice xb4 xm4 xq4) := by rw [cell_of_row w4 (w.heap.size + 1) 23 _ _ _ hr2]; rfl
  have q44 : w4.cell? ⟨(w.heap.size + 1), 24, none⟩ = some (.slice xd4 xo4 xr4) := by rw [cell_of_row w4 (w.heap.size + 1) 24 _ _ _ hr2]; rfl
  clear hr1 hr2
  clear b4 HE3
  go_wp2_with fail
  refine (HE4.out _ (Below.on (Hb.out _ _) B4.out)).mono ?_
  rintro e w5 ⟨rfl, b5⟩
  have B5 := hide' (Below.on B4.out b5)
  clear b5 HE4
  go_wp2
  go_ret
  exact ⟨rfl, Below.on (Hb.out _ _) B5.out⟩
end Go.Proofs.Ytddnncndcmnnjaa
