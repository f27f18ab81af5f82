/-
  Texts that a law leans on, one behind the other; no statement is proved here.
-/
import Derived.Test.YtddnncndcmnnjaaPk8
/-
  scopeOf, one way through it.
-/
namespace Go.Proofs.Ytddnncndcmnnjaa
open Go.RowKit
set_option linter.unusedVariables false
set_option linter.unusedSimpArgs false

set_option maxHeartbeats 6400000 in
set_option maxRecDepth 100000 in
theorem scopeOf_p0 (ck0 cn0 : Int) (ca0 cb0 cd0 : Option Addr) (cl0 cp0 cm0 cq0 co0 cr0 : Nat) (ck1 cn1 : Int) (ca1 cb1 cd1 : Option Addr) (cl1 cp1 cm1 cq1 co1 cr1 : Nat) (ck2 cn2 : Int) (ca2 cb2 cd2 : Option Addr) (cl2 cp2 cm2 cq2 co2 cr2 : Nat) (ck3 cn3 : Int) (ca3 cb3 cd3 : Option Addr) (cl3 cp3 cm3 cq3 co3 cr3 : Nat) (ck4 cn4 : Int) (ca4 cb4 cd4 : Option Addr) (cl4 cp4 cm4 cq4 co4 cr4 : Nat) (o1 o2 o3 o4 : Bool) (w : World) (HS0 : Hid (∀ wx, Below w.heap.size w wx → Calls Try.prog 21 #[.agg #[.int .i64 ck0, .int .i64 cn0, .slice ca0 cl0 cp0, .slice cb0 cm0 cq0, .slice cd0 co0 cr0]] wx fun e w' => ∃ mo f, e = .returned (.tuple #[.agg #[.map mo], .bool f]) ∧ f = false ∧ Below wx.heap.size wx w')) (HS1 : Hid (∀ wx, Below w.heap.size w wx → Calls Try.prog 21 #[.agg #[.int .i64 ck1, .int .i64 cn1, .slice ca1 cl1 cp1, .slice cb1 cm1 cq1, .slice cd1 co1 cr1]] wx fun e w' => ∃ mo f, e = .returned (.tuple #[.agg #[.map mo], .bool f]) ∧ f = o1 ∧ Below wx.heap.size wx w')) (HS2 : Hid (∀ wx, Below w.heap.size w wx → Calls Try.prog 22 #[.agg #[.int .i64 ck2, .int .i64 cn2, .slice ca2 cl2 cp2, .slice cb2 cm2 cq2, .slice cd2 co2 cr2]] wx fun e w' => ∃ p f, e = .returned (.tuple #[p, .bool f]) ∧ f = o2 ∧ One p ∧ Below wx.heap.size wx w')) (HS3 : Hid (∀ wx, Below w.heap.size w wx → Calls Try.prog 22 #[.agg #[.int .i64 ck3, .int .i64 cn3, .slice ca3 cl3 cp3, .slice cb3 cm3 cq3, .slice cd3 co3 cr3]] wx fun e w' => ∃ p f, e = .returned (.tuple #[p, .bool f]) ∧ f = o3 ∧ One p ∧ Below wx.heap.size wx w')) (HS4 : Hid (∀ wx, Below w.heap.size w wx → Calls Try.prog 22 #[.agg #[.int .i64 ck4, .int .i64 cn4, .slice ca4 cl4 cp4, .slice cb4 cm4 cq4, .slice cd4 co4 cr4]] wx fun e w' => ∃ p f, e = .returned (.tuple #[p, .bool f]) ∧ f = o4 ∧ One p ∧ Below wx.heap.size wx w')) :
    Calls Try.prog 12 #[.agg #[.int .i64 ck0, .int .i64 cn0, .slice ca0 cl0 cp0, .slice cb0 cm0 cq0, .slice cd0 co0 cr0, .int .i64 ck1, .int .i64 cn1, .slice ca1 cl1 cp1, .slice cb1 cm1 cq1, .slice cd1 co1 cr1, .int .i64 ck2, .int .i64 cn2, .slice ca2 cl2 cp2, .slice cb2 cm2 cq2, .slice cd2 co2 cr2, .int .i64 ck3, .int .i64 cn3, .slice ca3 cl3 cp3, .slice cb3 cm3 cq3, .slice cd3 co3 cr3, .int .i64 ck4, .int .i64 cn4, .slice ca4 cl4 cp4, .slice cb4 cm4 cq4, .slice cd4 co4 cr4]] w (ScEnd false w) := by
  have Hb : Hid (∀ o o' : Obj, Below w.heap.size w ((w.alloc o).alloc o')) := fun o o' => ((Below.refl _ _).alloc (Nat.le_refl _) o).alloc (by simp) o'
  have Hbox : Hid (∀ o o' wx, Below ((w.alloc o).alloc o').heap.size ((w.alloc o).alloc o') wx → wx.heap[w.heap.size]? = some o ∧ wx.heap[w.heap.size + 1]? = some o') := fun o o' wx h => ⟨(h.block _ (by simp; omega)).trans (two_boxes w o o').1, (h.block _ (by simp)).trans (two_boxes w o o').2⟩
  go_enter Try.func12, Try.ntmps12
  go_wp2_with fail
  refine (HS0.out _ (Hb.out _ _)).mono ?_
  rintro e w1 ⟨m0, f0, rfl, hf, b⟩
  subst hf
  have A1 := hide' b
  have BB1 := hide' (A1.out.alloc A1.out.size (.cells #[.map m0] 44))
  have hbx0 : Hid ((w1.alloc (.cells #[.map m0] 44)).heap[w1.heap.size]? = some (.cells #[.map m0] 44)) := (MapKept.heap_alloc w1 _).1
  obtain ⟨hr1, hr2⟩ := Hbox.out _ _ _ A1.out
  have y10 : w1.cell? ⟨w.heap.size, 5, none⟩ = some (.int .i64 ck1) := by rw [cell_of_row w1 w.heap.size 5 _ _ _ hr1]; rfl
  have y11 : w1.cell? ⟨w.heap.size, 6, none⟩ = some (.int .i64 cn1) := by rw [cell_of_row w1 w.heap.size 6 _ _ _ hr1]; rfl
  have y12 : w1.cell? ⟨w.heap.size, 7, none⟩ = some (.slice ca1 cl1 cp1) := by rw [cell_of_row w1 w.heap.size 7 _ _ _ hr1]; rfl
  have y13 : w1.cell? ⟨w.heap.size, 8, none⟩ = some (.slice cb1 cm1 cq1) := by rw [cell_of_row w1 w.heap.size 8 _ _ _ hr1]; rfl
  have y14 : w1.cell? ⟨w.heap.size, 9, none⟩ = some (.slice cd1 co1 cr1) := by rw [cell_of_row w1 w.heap.size 9 _ _ _ hr1]; rfl
  have hlt1 : w.heap.size < w1.heap.size := (Array.getElem?_eq_some_iff.1 hr1).1
  clear hr1 hr2 b HS0
  go_wp2_with fail
  refine (HS1.out _ (Below.on (Hb.out _ _) BB1.out)).mono ?_
  rintro e w2 ⟨m1, f1, rfl, hf, b⟩
  subst hf
  have A2 := hide' (Below.on BB1.out b)
  have BB2 := hide' (A2.out.alloc A2.out.size (.cells #[.map m1] 44))
  have hbx1 : Hid ((w2.alloc (.cells #[.map m1] 44)).heap[w2.heap.size]? = some (.cells #[.map m1] 44)) := (MapKept.heap_alloc w2 _).1
  have hbx0 : Hid ((w2.alloc (.cells #[.map m1] 44)).heap[w1.heap.size]? = some (.cells #[.map m0] 44)) := (Below.heap_alloc _ _ _ (by have := b.size; simp at this; omega)).trans ((b.block _ (by simp)).trans hbx0.out)
  obtain ⟨hr1, hr2⟩ := Hbox.out _ _ _ A2.out
  have y20 : w2.cell? ⟨w.heap.size, 10, none⟩ = some (.int .i64 ck2) := by rw [cell_of_row w2 w.heap.size 10 _ _ _ hr1]; rfl
  have y21 : w2.cell? ⟨w.heap.size, 11, none⟩ = some (.int .i64 cn2) := by rw [cell_of_row w2 w.heap.size 11 _ _ _ hr1]; rfl
  have y22 : w2.cell? ⟨w.heap.size, 12, none⟩ = some (.slice ca2 cl2 cp2) := by rw [cell_of_row w2 w.heap.size 12 _ _ _ hr1]; rfl
  have y23 : w2.cell? ⟨w.heap.size, 13, none⟩ = some (.slice cb2 cm2 cq2) := by rw [cell_of_row w2 w.heap.size 13 _ _ _ hr1]; rfl
  have y24 : w2.cell? ⟨w.heap.size, 14, none⟩ = some (.slice cd2 co2 cr2) := by rw [cell_of_row w2 w.heap.size 14 _ _ _ hr1]; rfl
  have hlt2 : w.heap.size < w2.heap.size := (Array.getElem?_eq_some_iff.1 hr1).1
  clear hr1 hr2 b HS1
  go_wp2_with fail
  refine (HS2.out _ (Below.on (Hb.out _ _) BB2.out)).mono ?_
  rintro e w3 ⟨p2, f2, rfl, hf, hp2, b⟩
  subst hf
  have A3 := hide' (Below.on BB2.out b)
  have BB3 := A3
  have hbx0 := hide' ((b.block _ (Array.getElem?_eq_some_iff.1 hbx0.out).1).trans hbx0.out)
  have hbx1 := hide' ((b.block _ (Array.getElem?_eq_some_iff.1 hbx1.out).1).trans hbx1.out)
  obtain ⟨hr1, hr2⟩ := Hbox.out _ _ _ A3.out
  have y30 : w3.cell? ⟨w.heap.size, 15, none⟩ = some (.int .i64 ck3) := by rw [cell_of_row w3 w.heap.size 15 _ _ _ hr1]; rfl
  have y31 : w3.cell? ⟨w.heap.size, 16, none⟩ = some (.int .i64 cn3) := by rw [cell_of_row w3 w.heap.size 16 _ _ _ hr1]; rfl
  have y32 : w3.cell? ⟨w.heap.size, 17, none⟩ = some (.slice ca3 cl3 cp3) := by rw [cell_of_row w3 w.heap.size 17 _ _ _ hr1]; rfl
  have y33 : w3.cell? ⟨w.heap.size, 18, none⟩ = some (.slice cb3 cm3 cq3) := by rw [cell_of_row w3 w.heap.size 18 _ _ _ hr1]; rfl
  have y34 : w3.cell? ⟨w.heap.size, 19, none⟩ = some (.slice cd3 co3 cr3) := by rw [cell_of_row w3 w.heap.size 19 _ _ _ hr1]; rfl
  have hlt3 : w.heap.size < w3.heap.size := (Array.getElem?_eq_some_iff.1 hr1).1
  clear hr1 hr2 b HS2
  go_wp2_with fail
  refine (HS3.out _ (Below.on (Hb.out _ _) BB3.out)).mono ?_
  rintro e w4 ⟨p3, f3, rfl, hf, hp3, b⟩
  subst hf
  have A4 := hide' (Below.on BB3.out b)
  have BB4 := A4
  have hbx0 := hide' ((b.block _ (Array.getElem?_eq_some_iff.1 hbx0.out).1).trans hbx0.out)
  have hbx1 := hide' ((b.block _ (Array.getElem?_eq_some_iff.1 hbx1.out).1).trans hbx1.out)
  obtain ⟨hr1, hr2⟩ := Hbox.out _ _ _ A4.out
  have y40 : w4.cell? ⟨w.heap.size, 20, none⟩ = some (.int .i64 ck4) := by rw [cell_of_row w4 w.heap.size 20 _ _ _ hr1]; rfl
  have y41 : w4.cell? ⟨w.heap.size, 21, none⟩ = some (.int .i64 cn4) := by rw [cell_of_row w4 w.heap.size 21 _ _ _ hr1]; rfl
  have y42 : w4.cell? ⟨w.heap.size, 22, none⟩ = some (.slice ca4 cl4 cp4) := by rw [cell_of_row w4 w.heap.size 22 _ _ _ hr1]; rfl
  have y43 : w4.cell? ⟨w.heap.size, 23, none⟩ = some (.slice cb4 cm4 cq4) := by rw [cell_of_row w4 w.heap.size 23 _ _ _ hr1]; rfl
  have y44 : w4.cell? ⟨w.heap.size, 24, none⟩ = some (.slice cd4 co4 cr4) := by rw [cell_of_row w4 w.heap.size 24 _ _ _ hr1]; rfl
  have hlt4 : w.heap.size < w4.heap.size := (Array.getElem?_eq_some_iff.1 hr1).1
  clear hr1 hr2 b HS3
  go_wp2_with fail
  refine (HS4.out _ (Below.on (Hb.out _ _) BB4.out)).mono ?_
  rintro e w5 ⟨p4, f4, rfl, hf, hp4, b⟩
  subst hf
  have A5 := hide' (Below.on BB4.out b)
  have BB5 := A5
  have hbx0 := hide' ((b.block _ (Array.getElem?_eq_some_iff.1 hbx0.out).1).trans hbx0.out)
  have hbx1 := hide' ((b.block _ (Array.getElem?_eq_some_iff.1 hbx1.out).1).trans hbx1.out)
  obtain ⟨hr1, hr2⟩ := Hbox.out _ _ _ A5.out
  have hlt5 : w.heap.size < w5.heap.size := (Array.getElem?_eq_some_iff.1 hr1).1
  have ht5 : w5.there (w.heap.size + 1) 0 5 := there_of_row hr2
  have k0 : w5.cell? ⟨w1.heap.size, 0, none⟩ = some (.map m0) := by rw [cell_of_row _ _ 0 _ _ _ hbx0.out]; rfl
  have k1 : w5.cell? ⟨w2.heap.size, 0, none⟩ = some (.map m1) := by rw [cell_of_row _ _ 0 _ _ _ hbx1.out]; rfl
  have hrz := hr2
  clear hr1 hr2 b HS4
  have HB := hide' (Below.on (Hb.out _ _) A5.out)
  have HP2 := hide' hp2
  have HP3 := hide' hp3
  have HP4 := hide' hp4
  have Ht5 := hide' hrz
  have hsz := HB.out.size
  have r0 : w5.cell? ⟨w.heap.size + 1, 0, none⟩ = some (.map none) := by rw [cell_of_row _ _ 0 _ _ _ hrz]; rfl
  have g0 : w5.frozen? ⟨w.heap.size + 1, 0, none⟩ = false := frozen_of_row _ _ _ _ _ hrz
  have r1 : w5.cell? ⟨w.heap.size + 1, 1, none⟩ = some (.map none) := by rw [cell_of_row _ _ 1 _ _ _ hrz]; rfl
  have g1 : w5.frozen? ⟨w.heap.size + 1, 1, none⟩ = false := frozen_of_row _ _ _ _ _ hrz
  have r2 : w5.cell? ⟨w.heap.size + 1, 2, none⟩ = some (.nilIface) := by rw [cell_of_row _ _ 2 _ _ _ hrz]; rfl
  have g2 : w5.frozen? ⟨w.heap.size + 1, 2, none⟩ = false := frozen_of_row _ _ _ _ _ hrz
  have r3 : w5.cell? ⟨w.heap.size + 1, 3, none⟩ = some (.nilIface) := by rw [cell_of_row _ _ 3 _ _ _ hrz]; rfl
  have g3 : w5.frozen? ⟨w.heap.size + 1, 3, none⟩ = false := frozen_of_row _ _ _ _ _ hrz
  have r4 : w5.cell? ⟨w.heap.size + 1, 4, none⟩ = some (.nilIface) := by rw [cell_of_row _ _ 4 _ _ _ hrz]; rfl
  have g4 : w5.frozen? ⟨w.heap.size + 1, 4, none⟩ = false := frozen_of_row _ _ _ _ _ hrz
  clear ht5 hrz BB1 BB2 BB3 BB4 BB5 A1 A2 A3 A4 hbx0 hbx1
  rcases hp2 with rfl | ⟨t2, x2, rfl⟩ <;> rcases hp3 with rfl | ⟨t3, x3, rfl⟩ <;> rcases hp4 with rfl | ⟨t4, x4, rfl⟩
  all_goals
    go_wp2
    exact sc_end false HB.out Ht5.out HP2.out HP3.out HP4.out (by rfl) (by rfl) (by rfl) rfl
end Go.Proofs.Ytddnncndcmnnjaa
/-
  scopeOf, one way through it.
-/
namespace Go.Proofs.Ytddnncndcmnnjaa
open Go.RowKit
set_option linter.unusedVariables false
set_option linter.unusedSimpArgs false

set_option maxHeartbeats 6400000 in
set_option maxRecDepth 100000 in
theorem scopeOf_p1 (ck0 cn0 : Int) (ca0 cb0 cd0 : Option Addr) (cl0 cp0 cm0 cq0 co0 cr0 : Nat) (ck1 cn1 : Int) (ca1 cb1 cd1 : Option Addr) (cl1 cp1 cm1 cq1 co1 cr1 : Nat) (ck2 cn2 : Int) (ca2 cb2 cd2 : Option Addr) (cl2 cp2 cm2 cq2 co2 cr2 : Nat) (ck3 cn3 : Int) (ca3 cb3 cd3 : Option Addr) (cl3 cp3 cm3 cq3 co3 cr3 : Nat) (ck4 cn4 : Int) (ca4 cb4 cd4 : Option Addr) (cl4 cp4 cm4 cq4 co4 cr4 : Nat) (o2 o3 o4 : Bool) (w : World) (HS0 : Hid (∀ wx, Below w.heap.size w wx → Calls Try.prog 21 #[.agg #[.int .i64 ck0, .int .i64 cn0, .slice ca0 cl0 cp0, .slice cb0 cm0 cq0, .slice cd0 co0 cr0]] wx fun e w' => ∃ mo f, e = .returned (.tuple #[.agg #[.map mo], .bool f]) ∧ f = true ∧ Below wx.heap.size wx w')) (HS1 : Hid (∀ wx, Below w.heap.size w wx → Calls Try.prog 21 #[.agg #[.int .i64 ck1, .int .i64 cn1, .slice ca1 cl1 cp1, .slice cb1 cm1 cq1, .slice cd1 co1 cr1]] wx fun e w' => ∃ mo f, e = .returned (.tuple #[.agg #[.map mo], .bool f]) ∧ f = false ∧ Below wx.heap.size wx w')) (HS2 : Hid (∀ wx, Below w.heap.size w wx → Calls Try.prog 22 #[.agg #[.int .i64 ck2, .int .i64 cn2, .slice ca2 cl2 cp2, .slice cb2 cm2 cq2, .slice cd2 co2 cr2]] wx fun e w' => ∃ p f, e = .returned (.tuple #[p, .bool f]) ∧ f = o2 ∧ One p ∧ Below wx.heap.size wx w')) (HS3 : Hid (∀ wx, Below w.heap.size w wx → Calls Try.prog 22 #[.agg #[.int .i64 ck3, .int .i64 cn3, .slice ca3 cl3 cp3, .slice cb3 cm3 cq3, .slice cd3 co3 cr3]] wx fun e w' => ∃ p f, e = .returned (.tuple #[p, .bool f]) ∧ f = o3 ∧ One p ∧ Below wx.heap.size wx w')) (HS4 : Hid (∀ wx, Below w.heap.size w wx → Calls Try.prog 22 #[.agg #[.int .i64 ck4, .int .i64 cn4, .slice ca4 cl4 cp4, .slice cb4 cm4 cq4, .slice cd4 co4 cr4]] wx fun e w' => ∃ p f, e = .returned (.tuple #[p, .bool f]) ∧ f = o4 ∧ One p ∧ Below wx.heap.size wx w')) :
    Calls Try.prog 12 #[.agg #[.int .i64 ck0, .int .i64 cn0, .slice ca0 cl0 cp0, .slice cb0 cm0 cq0, .slice cd0 co0 cr0, .int .i64 ck1, .int .i64 cn1, .slice ca1 cl1 cp1, .slice cb1 cm1 cq1, .slice cd1 co1 cr1, .int .i64 ck2, .int .i64 cn2, .slice ca2 cl2 cp2, .slice cb2 cm2 cq2, .slice cd2 co2 cr2, .int .i64 ck3, .int .i64 cn3, .slice ca3 cl3 cp3, .slice cb3 cm3 cq3, .slice cd3 co3 cr3, .int .i64 ck4, .int .i64 cn4, .slice ca4 cl4 cp4, .slice cb4 cm4 cq4, .slice cd4 co4 cr4]] w (ScEnd false w) := by
  have Hb : Hid (∀ o o' : Obj, Below w.heap.size w ((w.alloc o).alloc o')) := fun o o' => ((Below.refl _ _).alloc (Nat.le_refl _) o).alloc (by simp) o'
  have Hbox : Hid (∀ o o' wx, Below ((w.alloc o).alloc o').heap.size ((w.alloc o).alloc o') wx → wx.heap[w.heap.size]? = some o ∧ wx.heap[w.heap.size + 1]? = some o') := fun o o' wx h => ⟨(h.block _ (by simp; omega)).trans (two_boxes w o o').1, (h.block _ (by simp)).trans (two_boxes w o o').2⟩
  go_enter Try.func12, Try.ntmps12
  go_wp2_with fail
  refine (HS0.out _ (Hb.out _ _)).mono ?_
  rintro e w1 ⟨m0, f0, rfl, hf, b⟩
  subst hf
  have A1 := hide' b
  have BB1 := hide' (A1.out.alloc A1.out.size (.cells #[.map m0] 44))
  have hbx0 : Hid ((w1.alloc (.cells #[.map m0] 44)).heap[w1.heap.size]? = some (.cells #[.map m0] 44)) := (MapKept.heap_alloc w1 _).1
  obtain ⟨hr1, hr2⟩ := Hbox.out _ _ _ A1.out
  have y10 : w1.cell? ⟨w.heap.size, 5, none⟩ = some (.int .i64 ck1) := by rw [cell_of_row w1 w.heap.size 5 _ _ _ hr1]; rfl
  have y11 : w1.cell? ⟨w.heap.size, 6, none⟩ = some (.int .i64 cn1) := by rw [cell_of_row w1 w.heap.size 6 _ _ _ hr1]; rfl
  have y12 : w1.cell? ⟨w.heap.size, 7, none⟩ = some (.slice ca1 cl1 cp1) := by rw [cell_of_row w1 w.heap.size 7 _ _ _ hr1]; rfl
  have y13 : w1.cell? ⟨w.heap.size, 8, none⟩ = some (.slice cb1 cm1 cq1) := by rw [cell_of_row w1 w.heap.size 8 _ _ _ hr1]; rfl
  have y14 : w1.cell? ⟨w.heap.size, 9, none⟩ = some (.slice cd1 co1 cr1) := by rw [cell_of_row w1 w.heap.size 9 _ _ _ hr1]; rfl
  have hlt1 : w.heap.size < w1.heap.size := (Array.getElem?_eq_some_iff.1 hr1).1
  clear hr1 hr2 b HS0
  go_wp2_with fail
  refine (HS1.out _ (Below.on (Hb.out _ _) BB1.out)).mono ?_
  rintro e w2 ⟨m1, f1, rfl, hf, b⟩
  subst hf
  have A2 := hide' (Below.on BB1.out b)
  have BB2 := hide' (A2.out.alloc A2.out.size (.cells #[.map m1] 44))
  have hbx1 : Hid ((w2.alloc (.cells #[.map m1] 44)).heap[w2.heap.size]? = some (.cells #[.map m1] 44)) := (MapKept.heap_alloc w2 _).1
  have hbx0 : Hid ((w2.alloc (.cells #[.map m1] 44)).heap[w1.heap.size]? = some (.cells #[.map m0] 44)) := (Below.heap_alloc _ _ _ (by have := b.size; simp at this; omega)).trans ((b.block _ (by simp)).trans hbx0.out)
  obtain ⟨hr1, hr2⟩ := Hbox.out _ _ _ A2.out
  have y20 : w2.cell? ⟨w.heap.size, 10, none⟩ = some (.int .i64 ck2) := by rw [cell_of_row w2 w.heap.size 10 _ _ _ hr1]; rfl
  have y21 : w2.cell? ⟨w.heap.size, 11, none⟩ = some (.int .i64 cn2) := by rw [cell_of_row w2 w.heap.size 11 _ _ _ hr1]; rfl
  have y22 : w2.cell? ⟨w.heap.size, 12, none⟩ = some (.slice ca2 cl2 cp2) := by rw [cell_of_row w2 w.heap.size 12 _ _ _ hr1]; rfl
  have y23 : w2.cell? ⟨w.heap.size, 13, none⟩ = some (.slice cb2 cm2 cq2) := by rw [cell_of_row w2 w.heap.size 13 _ _ _ hr1]; rfl
  have y24 : w2.cell? ⟨w.heap.size, 14, none⟩ = some (.slice cd2 co2 cr2) := by rw [cell_of_row w2 w.heap.size 14 _ _ _ hr1]; rfl
  have hlt2 : w.heap.size < w2.heap.size := (Array.getElem?_eq_some_iff.1 hr1).1
  clear hr1 hr2 b HS1
  go_wp2_with fail
  refine (HS2.out _ (Below.on (Hb.out _ _) BB2.out)).mono ?_
  rintro e w3 ⟨p2, f2, rfl, hf, hp2, b⟩
  subst hf
  have A3 := hide' (Below.on BB2.out b)
  have BB3 := A3
  have hbx0 := hide' ((b.block _ (Array.getElem?_eq_some_iff.1 hbx0.out).1).trans hbx0.out)
  have hbx1 := hide' ((b.block _ (Array.getElem?_eq_some_iff.1 hbx1.out).1).trans hbx1.out)
  obtain ⟨hr1, hr2⟩ := Hbox.out _ _ _ A3.out
  have y30 : w3.cell? ⟨w.heap.size, 15, none⟩ = some (.int .i64 ck3) := by rw [cell_of_row w3 w.heap.size 15 _ _ _ hr1]; rfl
  have y31 : w3.cell? ⟨w.heap.size, 16, none⟩ = some (.int .i64 cn3) := by rw [cell_of_row w3 w.heap.size 16 _ _ _ hr1]; rfl
  have y32 : w3.cell? ⟨w.heap.size, 17, none⟩ = some (.slice ca3 cl3 cp3) := by rw [cell_of_row w3 w.heap.size 17 _ _ _ hr1]; rfl
  have y33 : w3.cell? ⟨w.heap.size, 18, none⟩ = some (.slice cb3 cm3 cq3) := by rw [cell_of_row w3 w.heap.size 18 _ _ _ hr1]; rfl
  have y34 : w3.cell? ⟨w.heap.size, 19, none⟩ = some (.slice cd3 co3 cr3) := by rw [cell_of_row w3 w.heap.size 19 _ _ _ hr1]; rfl
  have hlt3 : w.heap.size < w3.heap.size := (Array.getElem?_eq_some_iff.1 hr1).1
  clear hr1 hr2 b HS2
  go_wp2_with fail
  refine (HS3.out _ (Below.on (Hb.out _ _) BB3.out)).mono ?_
  rintro e w4 ⟨p3, f3, rfl, hf, hp3, b⟩
  subst hf
  have A4 := hide' (Below.on BB3.out b)
  have BB4 := A4
  have hbx0 := hide' ((b.block _ (Array.getElem?_eq_some_iff.1 hbx0.out).1).trans hbx0.out)
  have hbx1 := hide' ((b.block _ (Array.getElem?_eq_some_iff.1 hbx1.out).1).trans hbx1.out)
  obtain ⟨hr1, hr2⟩ := Hbox.out _ _ _ A4.out
  have y40 : w4.cell? ⟨w.heap.size, 20, none⟩ = some (.int .i64 ck4) := by rw [cell_of_row w4 w.heap.size 20 _ _ _ hr1]; rfl
  have y41 : w4.cell? ⟨w.heap.size, 21, none⟩ = some (.int .i64 cn4) := by rw [cell_of_row w4 w.heap.size 21 _ _ _ hr1]; rfl
  have y42 : w4.cell? ⟨w.heap.size, 22, none⟩ = some (.slice ca4 cl4 cp4) := by rw [cell_of_row w4 w.heap.size 22 _ _ _ hr1]; rfl
  have y43 : w4.cell? ⟨w.heap.size, 23, none⟩ = some (.slice cb4 cm4 cq4) := by rw [cell_of_row w4 w.heap.size 23 _ _ _ hr1]; rfl
  have y44 : w4.cell? ⟨w.heap.size, 24, none⟩ = some (.slice cd4 co4 cr4) := by rw [cell_of_row w4 w.heap.size 24 _ _ _ hr1]; rfl
  have hlt4 : w.heap.size < w4.heap.size := (Array.getElem?_eq_some_iff.1 hr1).1
  clear hr1 hr2 b HS3
  go_wp2_with fail
  refine (HS4.out _ (Below.on (Hb.out _ _) BB4.out)).mono ?_
  rintro e w5 ⟨p4, f4, rfl, hf, hp4, b⟩
  subst hf
  have A5 := hide' (Below.on BB4.out b)
  have BB5 := A5
  have hbx0 := hide' ((b.block _ (Array.getElem?_eq_some_iff.1 hbx0.out).1).trans hbx0.out)
  have hbx1 := hide' ((b.block _ (Array.getElem?_eq_some_iff.1 hbx1.out).1).trans hbx1.out)
  obtain ⟨hr1, hr2⟩ := Hbox.out _ _ _ A5.out
  have hlt5 : w.heap.size < w5.heap.size := (Array.getElem?_eq_some_iff.1 hr1).1
  have ht5 : w5.there (w.heap.size + 1) 0 5 := there_of_row hr2
  have k0 : w5.cell? ⟨w1.heap.size, 0, none⟩ = some (.map m0) := by rw [cell_of_row _ _ 0 _ _ _ hbx0.out]; rfl
  have k1 : w5.cell? ⟨w2.heap.size, 0, none⟩ = some (.map m1) := by rw [cell_of_row _ _ 0 _ _ _ hbx1.out]; rfl
  have hrz := hr2
  clear hr1 hr2 b HS4
  have HB := hide' (Below.on (Hb.out _ _) A5.out)
  have HP2 := hide' hp2
  have HP3 := hide' hp3
  have HP4 := hide' hp4
  have Ht5 := hide' hrz
  have hsz := HB.out.size
  have r0 : w5.cell? ⟨w.heap.size + 1, 0, none⟩ = some (.map none) := by rw [cell_of_row _ _ 0 _ _ _ hrz]; rfl
  have g0 : w5.frozen? ⟨w.heap.size + 1, 0, none⟩ = false := frozen_of_row _ _ _ _ _ hrz
  have r1 : w5.cell? ⟨w.heap.size + 1, 1, none⟩ = some (.map none) := by rw [cell_of_row _ _ 1 _ _ _ hrz]; rfl
  have g1 : w5.frozen? ⟨w.heap.size + 1, 1, none⟩ = false := frozen_of_row _ _ _ _ _ hrz
  have r2 : w5.cell? ⟨w.heap.size + 1, 2, none⟩ = some (.nilIface) := by rw [cell_of_row _ _ 2 _ _ _ hrz]; rfl
  have g2 : w5.frozen? ⟨w.heap.size + 1, 2, none⟩ = false := frozen_of_row _ _ _ _ _ hrz
  have r3 : w5.cell? ⟨w.heap.size + 1, 3, none⟩ = some (.nilIface) := by rw [cell_of_row _ _ 3 _ _ _ hrz]; rfl
  have g3 : w5.frozen? ⟨w.heap.size + 1, 3, none⟩ = false := frozen_of_row _ _ _ _ _ hrz
  have r4 : w5.cell? ⟨w.heap.size + 1, 4, none⟩ = some (.nilIface) := by rw [cell_of_row _ _ 4 _ _ _ hrz]; rfl
  have g4 : w5.frozen? ⟨w.heap.size + 1, 4, none⟩ = false := frozen_of_row _ _ _ _ _ hrz
  clear ht5 hrz BB1 BB2 BB3 BB4 BB5 A1 A2 A3 A4 hbx0 hbx1
  rcases hp2 with rfl | ⟨t2, x2, rfl⟩ <;> rcases hp3 with rfl | ⟨t3, x3, rfl⟩ <;> rcases hp4 with rfl | ⟨t4, x4, rfl⟩
  all_goals
    go_wp2
    exact sc_end false HB.out Ht5.out HP2.out HP3.out HP4.out (by rfl) (by rfl) (by rfl) rfl
end Go.Proofs.Ytddnncndcmnnjaa
/-
  scopeOf, one way through it.
-/
namespace Go.Proofs.Ytddnncndcmnnjaa
open Go.RowKit
set_option linter.unusedVariables false
set_option linter.unusedSimpArgs false

set_option maxHeartbeats 6400000 in
set_option maxRecDepth 100000 in
theorem scopeOf_p2 (ck0 cn0 : Int) (ca0 cb0 cd0 : Option Addr) (cl0 cp0 cm0 cq0 co0 cr0 : Nat) (ck1 cn1 : Int) (ca1 cb1 cd1 : Option Addr) (cl1 cp1 cm1 cq1 co1 cr1 : Nat) (ck2 cn2 : Int) (ca2 cb2 cd2 : Option Addr) (cl2 cp2 cm2 cq2 co2 cr2 : Nat) (ck3 cn3 : Int) (ca3 cb3 cd3 : Option Addr) (cl3 cp3 cm3 cq3 co3 cr3 : Nat) (ck4 cn4 : Int) (ca4 cb4 cd4 : Option Addr) (cl4 cp4 cm4 cq4 co4 cr4 : Nat) (o3 o4 : Bool) (w : World) (HS0 : Hid (∀ wx, Below w.heap.size w wx → Calls Try.prog 21 #[.agg #[.int .i64 ck0, .int .i64 cn0, .slice ca0 cl0 cp0, .slice cb0 cm0 cq0, .slice cd0 co0 cr0]] wx fun e w' => ∃ mo f, e = .returned (.tuple #[.agg #[.map mo], .bool f]) ∧ f = true ∧ Below wx.heap.size wx w')) (HS1 : Hid (∀ wx, Below w.heap.size w wx → Calls Try.prog 21 #[.agg #[.int .i64 ck1, .int .i64 cn1, .slice ca1 cl1 cp1, .slice cb1 cm1 cq1, .slice cd1 co1 cr1]] wx fun e w' => ∃ mo f, e = .returned (.tuple #[.agg #[.map mo], .bool f]) ∧ f = true ∧ Below wx.heap.size wx w')) (HS2 : Hid (∀ wx, Below w.heap.size w wx → Calls Try.prog 22 #[.agg #[.int .i64 ck2, .int .i64 cn2, .slice ca2 cl2 cp2, .slice cb2 cm2 cq2, .slice cd2 co2 cr2]] wx fun e w' => ∃ p f, e = .returned (.tuple #[p, .bool f]) ∧ f = false ∧ One p ∧ Below wx.heap.size wx w')) (HS3 : Hid (∀ wx, Below w.heap.size w wx → Calls Try.prog 22 #[.agg #[.int .i64 ck3, .int .i64 cn3, .slice ca3 cl3 cp3, .slice cb3 cm3 cq3, .slice cd3 co3 cr3]] wx fun e w' => ∃ p f, e = .returned (.tuple #[p, .bool f]) ∧ f = o3 ∧ One p ∧ Below wx.heap.size wx w')) (HS4 : Hid (∀ wx, Below w.heap.size w wx → Calls Try.prog 22 #[.agg #[.int .i64 ck4, .int .i64 cn4, .slice ca4 cl4 cp4, .slice cb4 cm4 cq4, .slice cd4 co4 cr4]] wx fun e w' => ∃ p f, e = .returned (.tuple #[p, .bool f]) ∧ f = o4 ∧ One p ∧ Below wx.heap.size wx w')) :
    Calls Try.prog 12 #[.agg #[.int .i64 ck0, .int .i64 cn0, .slice ca0 cl0 cp0, .slice cb0 cm0 cq0, .slice cd0 co0 cr0, .int .i64 ck1, .int .i64 cn1, .slice ca1 cl1 cp1, .slice cb1 cm1 cq1, .slice cd1 co1 cr1, .int .i64 ck2, .int .i64 cn2, .slice ca2 cl2 cp2, .slice cb2 cm2 cq2, .slice cd2 co2 cr2, .int .i64 ck3, .int .i64 cn3, .slice ca3 cl3 cp3, .slice cb3 cm3 cq3, .slice cd3 co3 cr3, .int .i64 ck4, .int .i64 cn4, .slice ca4 cl4 cp4, .slice cb4 cm4 cq4, .slice cd4 co4 cr4]] w (ScEnd false w) := by
  have Hb : Hid (∀ o o' : Obj, Below w.heap.size w ((w.alloc o).alloc o')) := fun o o' => ((Below.refl _ _).alloc (Nat.le_refl _) o).alloc (by simp) o'
  have Hbox : Hid (∀ o o' wx, Below ((w.alloc o).alloc o').heap.size ((w.alloc o).alloc o') wx → wx.heap[w.heap.size]? = some o ∧ wx.heap[w.heap.size + 1]? = some o') := fun o o' wx h => ⟨(h.block _ (by simp; omega)).trans (two_boxes w o o').1, (h.block _ (by simp)).trans (two_boxes w o o').2⟩
  go_enter Try.func12, Try.ntmps12
  go_wp2_with fail
  refine (HS0.out _ (Hb.out _ _)).mono ?_
  rintro e w1 ⟨m0, f0, rfl, hf, b⟩
  subst hf
  have A1 := hide' b
  have BB1 := hide' (A1.out.alloc A1.out.size (.cells #[.map m0] 44))
  have hbx0 : Hid ((w1.alloc (.cells #[.map m0] 44)).heap[w1.heap.size]? = some (.cells #[.map m0] 44)) := (MapKept.heap_alloc w1 _).1
  obtain ⟨hr1, hr2⟩ := Hbox.out _ _ _ A1.out
  have y10 : w1.cell? ⟨w.heap.size, 5, none⟩ = some (.int .i64 ck1) := by rw [cell_of_row w1 w.heap.size 5 _ _ _ hr1]; rfl
  have y11 : w1.cell? ⟨w.heap.size, 6, none⟩ = some (.int .i64 cn1) := by rw [cell_of_row w1 w.heap.size 6 _ _ _ hr1]; rfl
  have y12 : w1.cell? ⟨w.heap.size, 7, none⟩ = some (.slice ca1 cl1 cp1) := by rw [cell_of_row w1 w.heap.size 7 _ _ _ hr1]; rfl
  have y13 : w1.cell? ⟨w.heap.size, 8, none⟩ = some (.slice cb1 cm1 cq1) := by rw [cell_of_row w1 w.heap.size 8 _ _ _ hr1]; rfl
  have y14 : w1.cell? ⟨w.heap.size, 9, none⟩ = some (.slice cd1 co1 cr1) := by rw [cell_of_row w1 w.heap.size 9 _ _ _ hr1]; rfl
  have hlt1 : w.heap.size < w1.heap.size := (Array.getElem?_eq_some_iff.1 hr1).1
  clear hr1 hr2 b HS0
  go_wp2_with fail
  refine (HS1.out _ (Below.on (Hb.out _ _) BB1.out)).mono ?_
  rintro e w2 ⟨m1, f1, rfl, hf, b⟩
  subst hf
  have A2 := hide' (Below.on BB1.out b)
  have BB2 := hide' (A2.out.alloc A2.out.size (.cells #[.map m1] 44))
  have hbx1 : Hid ((w2.alloc (.cells #[.map m1] 44)).heap[w2.heap.size]? = some (.cells #[.map m1] 44)) := (MapKept.heap_alloc w2 _).1
  have hbx0 : Hid ((w2.alloc (.cells #[.map m1] 44)).heap[w1.heap.size]? = some (.cells #[.map m0] 44)) := (Below.heap_alloc _ _ _ (by have := b.size; simp at this; omega)).trans ((b.block _ (by simp)).trans hbx0.out)
  obtain ⟨hr1, hr2⟩ := Hbox.out _ _ _ A2.out
  have y20 : w2.cell? ⟨w.heap.size, 10, none⟩ = some (.int .i64 ck2) := by rw [cell_of_row w2 w.heap.size 10 _ _ _ hr1]; rfl
  have y21 : w2.cell? ⟨w.heap.size, 11, none⟩ = some (.int .i64 cn2) := by rw [cell_of_row w2 w.heap.size 11 _ _ _ hr1]; rfl
  have y22 : w2.cell? ⟨w.heap.size, 12, none⟩ = some (.slice ca2 cl2 cp2) := by rw [cell_of_row w2 w.heap.size 12 _ _ _ hr1]; rfl
  have y23 : w2.cell? ⟨w.heap.size, 13, none⟩ = some (.slice cb2 cm2 cq2) := by rw [cell_of_row w2 w.heap.size 13 _ _ _ hr1]; rfl
  have y24 : w2.cell? ⟨w.heap.size, 14, none⟩ = some (.slice cd2 co2 cr2) := by rw [cell_of_row w2 w.heap.size 14 _ _ _ hr1]; rfl
  have hlt2 : w.heap.size < w2.heap.size := (Array.getElem?_eq_some_iff.1 hr1).1
  clear hr1 hr2 b HS1
  go_wp2_with fail
  refine (HS2.out _ (Below.on (Hb.out _ _) BB2.out)).mono ?_
  rintro e w3 ⟨p2, f2, rfl, hf, hp2, b⟩
  subst hf
  have A3 := hide' (Below.on BB2.out b)
  have BB3 := A3
  have hbx0 := hide' ((b.block _ (Array.getElem?_eq_some_iff.1 hbx0.out).1).trans hbx0.out)
  have hbx1 := hide' ((b.block _ (Array.getElem?_eq_some_iff.1 hbx1.out).1).trans hbx1.out)
  obtain ⟨hr1, hr2⟩ := Hbox.out _ _ _ A3.out
  have y30 : w3.cell? ⟨w.heap.size, 15, none⟩ = some (.int .i64 ck3) := by rw [cell_of_row w3 w.heap.size 15 _ _ _ hr1]; rfl
  have y31 : w3.cell? ⟨w.heap.size, 16, none⟩ = some (.int .i64 cn3) := by rw [cell_of_row w3 w.heap.size 16 _ _ _ hr1]; rfl
  have y32 : w3.cell? ⟨w.heap.size, 17, none⟩ = some (.slice ca3 cl3 cp3) := by rw [cell_of_row w3 w.heap.size 17 _ _ _ hr1]; rfl
  have y33 : w3.cell? ⟨w.heap.size, 18, none⟩ = some (.slice cb3 cm3 cq3) := by rw [cell_of_row w3 w.heap.size 18 _ _ _ hr1]; rfl
  have y34 : w3.cell? ⟨w.heap.size, 19, none⟩ = some (.slice cd3 co3 cr3) := by rw [cell_of_row w3 w.heap.size 19 _ _ _ hr1]; rfl
  have hlt3 : w.heap.size < w3.heap.size := (Array.getElem?_eq_some_iff.1 hr1).1
  clear hr1 hr2 b HS2
  go_wp2_with fail
  refine (HS3.out _ (Below.on (Hb.out _ _) BB3.out)).mono ?_
  rintro e w4 ⟨p3, f3, rfl, hf, hp3, b⟩
  subst hf
  have A4 := hide' (Below.on BB3.out b)
  have BB4 := A4
  have hbx0 := hide' ((b.block _ (Array.getElem?_eq_some_iff.1 hbx0.out).1).trans hbx0.out)
  have hbx1 := hide' ((b.block _ (Array.getElem?_eq_some_iff.1 hbx1.out).1).trans hbx1.out)
  obtain ⟨hr1, hr2⟩ := Hbox.out _ _ _ A4.out
  have y40 : w4.cell? ⟨w.heap.size, 20, none⟩ = some (.int .i64 ck4) := by rw [cell_of_row w4 w.heap.size 20 _ _ _ hr1]; rfl
  have y41 : w4.cell? ⟨w.heap.size, 21, none⟩ = some (.int .i64 cn4) := by rw [cell_of_row w4 w.heap.size 21 _ _ _ hr1]; rfl
  have y42 : w4.cell? ⟨w.heap.size, 22, none⟩ = some (.slice ca4 cl4 cp4) := by rw [cell_of_row w4 w.heap.size 22 _ _ _ hr1]; rfl
  have y43 : w4.cell? ⟨w.heap.size, 23, none⟩ = some (.slice cb4 cm4 cq4) := by rw [cell_of_row w4 w.heap.size 23 _ _ _ hr1]; rfl
  have y44 : w4.cell? ⟨w.heap.size, 24, none⟩ = some (.slice cd4 co4 cr4) := by rw [cell_of_row w4 w.heap.size 24 _ _ _ hr1]; rfl
  have hlt4 : w.heap.size < w4.heap.size := (Array.getElem?_eq_some_iff.1 hr1).1
  clear hr1 hr2 b HS3
  go_wp2_with fail
  refine (HS4.out _ (Below.on (Hb.out _ _) BB4.out)).mono ?_
  rintro e w5 ⟨p4, f4, rfl, hf, hp4, b⟩
  subst hf
  have A5 := hide' (Below.on BB4.out b)
  have BB5 := A5
  have hbx0 := hide' ((b.block _ (Array.getElem?_eq_some_iff.1 hbx0.out).1).trans hbx0.out)
  have hbx1 := hide' ((b.block _ (Array.getElem?_eq_some_iff.1 hbx1.out).1).trans hbx1.out)
  obtain ⟨hr1, hr2⟩ := Hbox.out _ _ _ A5.out
  have hlt5 : w.heap.size < w5.heap.size := (Array.getElem?_eq_some_iff.1 hr1).1
  have ht5 : w5.there (w.heap.size + 1) 0 5 := there_of_row hr2
  have k0 : w5.cell? ⟨w1.heap.size, 0, none⟩ = some (.map m0) := by rw [cell_of_row _ _ 0 _ _ _ hbx0.out]; rfl
  have k1 : w5.cell? ⟨w2.heap.size, 0, none⟩ = some (.map m1) := by rw [cell_of_row _ _ 0 _ _ _ hbx1.out]; rfl
  have hrz := hr2
  clear hr1 hr2 b HS4
  have HB := hide' (Below.on (Hb.out _ _) A5.out)
  have HP2 := hide' hp2
  have HP3 := hide' hp3
  have HP4 := hide' hp4
  have Ht5 := hide' hrz
  have hsz := HB.out.size
  have r0 : w5.cell? ⟨w.heap.size + 1, 0, none⟩ = some (.map none) := by rw [cell_of_row _ _ 0 _ _ _ hrz]; rfl
  have g0 : w5.frozen? ⟨w.heap.size + 1, 0, none⟩ = false := frozen_of_row _ _ _ _ _ hrz
  have r1 : w5.cell? ⟨w.heap.size + 1, 1, none⟩ = some (.map none) := by rw [cell_of_row _ _ 1 _ _ _ hrz]; rfl
  have g1 : w5.frozen? ⟨w.heap.size + 1, 1, none⟩ = false := frozen_of_row _ _ _ _ _ hrz
  have r2 : w5.cell? ⟨w.heap.size + 1, 2, none⟩ = some (.nilIface) := by rw [cell_of_row _ _ 2 _ _ _ hrz]; rfl
  have g2 : w5.frozen? ⟨w.heap.size + 1, 2, none⟩ = false := frozen_of_row _ _ _ _ _ hrz
  have r3 : w5.cell? ⟨w.heap.size + 1, 3, none⟩ = some (.nilIface) := by rw [cell_of_row _ _ 3 _ _ _ hrz]; rfl
  have g3 : w5.frozen? ⟨w.heap.size + 1, 3, none⟩ = false := frozen_of_row _ _ _ _ _ hrz
  have r4 : w5.cell? ⟨w.heap.size + 1, 4, none⟩ = some (.nilIface) := by rw [cell_of_row _ _ 4 _ _ _ hrz]; rfl
  have g4 : w5.frozen? ⟨w.heap.size + 1, 4, none⟩ = false := frozen_of_row _ _ _ _ _ hrz
  clear ht5 hrz BB1 BB2 BB3 BB4 BB5 A1 A2 A3 A4 hbx0 hbx1
  rcases hp2 with rfl | ⟨t2, x2, rfl⟩ <;> rcases hp3 with rfl | ⟨t3, x3, rfl⟩ <;> rcases hp4 with rfl | ⟨t4, x4, rfl⟩
  all_goals
    go_wp2
    exact sc_end false HB.out Ht5.out HP2.out HP3.out HP4.out (by rfl) (by rfl) (by rfl) rfl
end Go.Proofs.Ytddnncndcmnnjaa
/-
  scopeOf, one way through it.
-/
namespace Go.Proofs.Ytddnncndcmnnjaa
open Go.RowKit
set_option linter.unusedVariables false
set_option linter.unusedSimpArgs false

set_option maxHeartbeats 6400000 in
set_option maxRecDepth 100000 in
theorem scopeOf_p3 (ck0 cn0 : Int) (ca0 cb0 cd0 : Option Addr) (cl0 cp0 cm0 cq0 co0 cr0 : Nat) (ck1 cn1 : Int) (ca1 cb1 cd1 : Option Addr) (cl1 cp1 cm1 cq1 co1 cr1 : Nat) (ck2 cn2 : Int) (ca2 cb2 cd2 : Option Addr) (cl2 cp2 cm2 cq2 co2 cr2 : Nat) (ck3 cn3 : Int) (ca3 cb3 cd3 : Option Addr) (cl3 cp3 cm3 cq3 co3 cr3 : Nat) (ck4 cn4 : Int) (ca4 cb4 cd4 : Option Addr) (cl4 cp4 cm4 cq4 co4 cr4 : Nat) (o4 : Bool) (w : World) (HS0 : Hid (∀ wx, Below w.heap.size w wx → Calls Try.prog 21 #[.agg #[.int .i64 ck0, .int .i64 cn0, .slice ca0 cl0 cp0, .slice cb0 cm0 cq0, .slice cd0 co0 cr0]] wx fun e w' => ∃ mo f, e = .returned (.tuple #[.agg #[.map mo], .bool f]) ∧ f = true ∧ Below wx.heap.size wx w')) (HS1 : Hid (∀ wx, Below w.heap.size w wx → Calls Try.prog 21 #[.agg #[.int .i64 ck1, .int .i64 cn1, .slice ca1 cl1 cp1, .slice cb1 cm1 cq1, .slice cd1 co1 cr1]] wx fun e w' => ∃ mo f, e = .returned (.tuple #[.agg #[.map mo], .bool f]) ∧ f = true ∧ Below wx.heap.size wx w')) (HS2 : Hid (∀ wx, Below w.heap.size w wx → Calls Try.prog 22 #[.agg #[.int .i64 ck2, .int .i64 cn2, .slice ca2 cl2 cp2, .slice cb2 cm2 cq2, .slice cd2 co2 cr2]] wx fun e w' => ∃ p f, e = .returned (.tuple #[p, .bool f]) ∧ f = true ∧ One p ∧ Below wx.heap.size wx w')) (HS3 : Hid (∀ wx, Below w.heap.size w wx → Calls Try.prog 22 #[.agg #[.int .i64 ck3, .int .i64 cn3, .slice ca3 cl3 cp3, .slice cb3 cm3 cq3, .slice cd3 co3 cr3]] wx fun e w' => ∃ p f, e = .returned (.tuple #[p, .bool f]) ∧ f = false ∧ One p ∧ Below wx.heap.size wx w')) (HS4 : Hid (∀ wx, Below w.heap.size w wx → Calls Try.prog 22 #[.agg #[.int .i64 ck4, .int .i64 cn4, .slice ca4 cl4 cp4, .slice cb4 cm4 cq4, .slice cd4 co4 cr4]] wx fun e w' => ∃ p f, e = .returned (.tuple #[p, .bool f]) ∧ f = o4 ∧ One p ∧ Below wx.heap.size wx w')) :
    Calls Try.prog 12 #[.agg #[.int .i64 ck0, .int .i64 cn0, .slice ca0 cl0 cp0, .slice cb0 cm0 cq0, .slice cd0 co0 cr0, .int .i64 ck1, .int .i64 cn1, .slice ca1 cl1 cp1, .slice cb1 cm1 cq1, .slice cd1 co1 cr1, .int .i64 ck2, .int .i64 cn2, .slice ca2 cl2 cp2, .slice cb2 cm2 cq2, .slice cd2 co2 cr2, .int .i64 ck3, .int .i64 cn3, .slice ca3 cl3 cp3, .slice cb3 cm3 cq3, .slice cd3 co3 cr3, .int .i64 ck4, .int .i64 cn4, .slice ca4 cl4 cp4, .slice cb4 cm4 cq4, .slice cd4 co4 cr4]] w (ScEnd false w) := by
  have Hb : Hid (∀ o o' : Obj, Below w.heap.size w ((w.alloc o).alloc o')) := fun o o' => ((Below.refl _ _).alloc (Nat.le_refl _) o).alloc (by simp) o'
  have Hbox : Hid (∀ o o' wx, Below ((w.alloc o).alloc o').heap.size ((w.alloc o).alloc o') wx → wx.heap[w.heap.size]? = some o ∧ wx.heap[w.heap.size + 1]? = some o') := fun o o' wx h => ⟨(h.block _ (by simp; omega)).trans (two_boxes w o o').1, (h.block _ (by simp)).trans (two_boxes w o o').2⟩
  go_enter Try.func12, Try.ntmps12
  go_wp2_with fail
  refine (HS0.out _ (Hb.out _ _)).mono ?_
  rintro e w1 ⟨m0, f0, rfl, hf, b⟩
  subst hf
  have A1 := hide' b
  have BB1 := hide' (A1.out.alloc A1.out.size (.cells #[.map m0] 44))
  have hbx0 : Hid ((w1.alloc (.cells #[.map m0] 44)).heap[w1.heap.size]? = some (.cells #[.map m0] 44)) := (MapKept.heap_alloc w1 _).1
  obtain ⟨hr1, hr2⟩ := Hbox.out _ _ _ A1.out
  have y10 : w1.cell? ⟨w.heap.size, 5, none⟩ = some (.int .i64 ck1) := by rw [cell_of_row w1 w.heap.size 5 _ _ _ hr1]; rfl
  have y11 : w1.cell? ⟨w.heap.size, 6, none⟩ = some (.int .i64 cn1) := by rw [cell_of_row w1 w.heap.size 6 _ _ _ hr1]; rfl
  have y12 : w1.cell? ⟨w.heap.size, 7, none⟩ = some (.slice ca1 cl1 cp1) := by rw [cell_of_row w1 w.heap.size 7 _ _ _ hr1]; rfl
  have y13 : w1.cell? ⟨w.heap.size, 8, none⟩ = some (.slice cb1 cm1 cq1) := by rw [cell_of_row w1 w.heap.size 8 _ _ _ hr1]; rfl
  have y14 : w1.cell? ⟨w.heap.size, 9, none⟩ = some (.slice cd1 co1 cr1) := by rw [cell_of_row w1 w.heap.size 9 _ _ _ hr1]; rfl
  have hlt1 : w.heap.size < w1.heap.size := (Array.getElem?_eq_some_iff.1 hr1).1
  clear hr1 hr2 b HS0
  go_wp2_with fail
  refine (HS1.out _ (Below.on (Hb.out _ _) BB1.out)).mono ?_
  rintro e w2 ⟨m1, f1, rfl, hf, b⟩
  subst hf
  have A2 := hide' (Below.on BB1.out b)
  have BB2 := hide' (A2.out.alloc A2.out.size (.cells #[.map m1] 44))
  have hbx1 : Hid ((w2.alloc (.cells #[.map m1] 44)).heap[w2.heap.size]? = some (.cells #[.map m1] 44)) := (MapKept.heap_alloc w2 _).1
  have hbx0 : Hid ((w2.alloc (.cells #[.map m1] 44)).heap[w1.heap.size]? = some (.cells #[.map m0] 44)) := (Below.heap_alloc _ _ _ (by have := b.size; simp at this; omega)).trans ((b.block _ (by simp)).trans hbx0.out)
  obtain ⟨hr1, hr2⟩ := Hbox.out _ _ _ A2.out
  have y20 : w2.cell? ⟨w.heap.size, 10, none⟩ = some (.int .i64 ck2) := by rw [cell_of_row w2 w.heap.size 10 _ _ _ hr1]; rfl
  have y21 : w2.cell? ⟨w.heap.size, 11, none⟩ = some (.int .i64 cn2) := by rw [cell_of_row w2 w.heap.size 11 _ _ _ hr1]; rfl
  have y22 : w2.cell? ⟨w.heap.size, 12, none⟩ = some (.slice ca2 cl2 cp2) := by rw [cell_of_row w2 w.heap.size 12 _ _ _ hr1]; rfl
  have y23 : w2.cell? ⟨w.heap.size, 13, none⟩ = some (.slice cb2 cm2 cq2) := by rw [cell_of_row w2 w.heap.size 13 _ _ _ hr1]; rfl
  have y24 : w2.cell? ⟨w.heap.size, 14, none⟩ = some (.slice cd2 co2 cr2) := by rw [cell_of_row w2 w.heap.size 14 _ _ _ hr1]; rfl
  have hlt2 : w.heap.size < w2.heap.size := (Array.getElem?_eq_some_iff.1 hr1).1
  clear hr1 hr2 b HS1
  go_wp2_with fail
  refine (HS2.out _ (Below.on (Hb.out _ _) BB2.out)).mono ?_
  rintro e w3 ⟨p2, f2, rfl, hf, hp2, b⟩
  subst hf
  have A3 := hide' (Below.on BB2.out b)
  have BB3 := A3
  have hbx0 := hide' ((b.block _ (Array.getElem?_eq_some_iff.1 hbx0.out).1).trans hbx0.out)
  have hbx1 := hide' ((b.block _ (Array.getElem?_eq_some_iff.1 hbx1.out).1).trans hbx1.out)
  obtain ⟨hr1, hr2⟩ := Hbox.out _ _ _ A3.out
  have y30 : w3.cell? ⟨w.heap.size, 15, none⟩ = some (.int .i64 ck3) := by rw [cell_of_row w3 w.heap.size 15 _ _ _ hr1]; rfl
  have y31 : w3.cell? ⟨w.heap.size, 16, none⟩ = some (.int .i64 cn3) := by rw [cell_of_row w3 w.heap.size 16 _ _ _ hr1]; rfl
  have y32 : w3.cell? ⟨w.heap.size, 17, none⟩ = some (.slice ca3 cl3 cp3) := by rw [cell_of_row w3 w.heap.size 17 _ _ _ hr1]; rfl
  have y33 : w3.cell? ⟨w.heap.size, 18, none⟩ = some (.slice cb3 cm3 cq3) := by rw [cell_of_row w3 w.heap.size 18 _ _ _ hr1]; rfl
  have y34 : w3.cell? ⟨w.heap.size, 19, none⟩ = some (.slice cd3 co3 cr3) := by rw [cell_of_row w3 w.heap.size 19 _ _ _ hr1]; rfl
  have hlt3 : w.heap.size < w3.heap.size := (Array.getElem?_eq_some_iff.1 hr1).1
  clear hr1 hr2 b HS2
  go_wp2_with fail
  refine (HS3.out _ (Below.on (Hb.out _ _) BB3.out)).mono ?_
  rintro e w4 ⟨p3, f3, rfl, hf, hp3, b⟩
  subst hf
  have A4 := hide' (Below.on BB3.out b)
  have BB4 := A4
  have hbx0 := hide' ((b.block _ (Array.getElem?_eq_some_iff.1 hbx0.out).1).trans hbx0.out)
  have hbx1 := hide' ((b.block _ (Array.getElem?_eq_some_iff.1 hbx1.out).1).trans hbx1.out)
  obtain ⟨hr1, hr2⟩ := Hbox.out _ _ _ A4.out
  have y40 : w4.cell? ⟨w.heap.size, 20, none⟩ = some (.int .i64 ck4) := by rw [cell_of_row w4 w.heap.size 20 _ _ _ hr1]; rfl
  have y41 : w4.cell? ⟨w.heap.size, 21, none⟩ = some (.int .i64 cn4) := by rw [cell_of_row w4 w.heap.size 21 _ _ _ hr1]; rfl
  have y42 : w4.cell? ⟨w.heap.size, 22, none⟩ = some (.slice ca4 cl4 cp4) := by rw [cell_of_row w4 w.heap.size 22 _ _ _ hr1]; rfl
  have y43 : w4.cell? ⟨w.heap.size, 23, none⟩ = some (.slice cb4 cm4 cq4) := by rw [cell_of_row w4 w.heap.size 23 _ _ _ hr1]; rfl
  have y44 : w4.cell? ⟨w.heap.size, 24, none⟩ = some (.slice cd4 co4 cr4) := by rw [cell_of_row w4 w.heap.size 24 _ _ _ hr1]; rfl
  have hlt4 : w.heap.size < w4.heap.size := (Array.getElem?_eq_some_iff.1 hr1).1
  clear hr1 hr2 b HS3
  go_wp2_with fail
  refine (HS4.out _ (Below.on (Hb.out _ _) BB4.out)).mono ?_
  rintro e w5 ⟨p4, f4, rfl, hf, hp4, b⟩
  subst hf
  have A5 := hide' (Below.on BB4.out b)
  have BB5 := A5
  have hbx0 := hide' ((b.block _ (Array.getElem?_eq_some_iff.1 hbx0.out).1).trans hbx0.out)
  have hbx1 := hide' ((b.block _ (Array.getElem?_eq_some_iff.1 hbx1.out).1).trans hbx1.out)
  obtain ⟨hr1, hr2⟩ := Hbox.out _ _ _ A5.out
  have hlt5 : w.heap.size < w5.heap.size := (Array.getElem?_eq_some_iff.1 hr1).1
  have ht5 : w5.there (w.heap.size + 1) 0 5 := there_of_row hr2
  have k0 : w5.cell? ⟨w1.heap.size, 0, none⟩ = some (.map m0) := by rw [cell_of_row _ _ 0 _ _ _ hbx0.out]; rfl
  have k1 : w5.cell? ⟨w2.heap.size, 0, none⟩ = some (.map m1) := by rw [cell_of_row _ _ 0 _ _ _ hbx1.out]; rfl
  have hrz := hr2
  clear hr1 hr2 b HS4
  have HB := hide' (Below.on (Hb.out _ _) A5.out)
  have HP2 := hide' hp2
  have HP3 := hide' hp3
  have HP4 := hide' hp4
  have Ht5 := hide' hrz
  have hsz := HB.out.size
  have r0 : w5.cell? ⟨w.heap.size + 1, 0, none⟩ = some (.map none) := by rw [cell_of_row _ _ 0 _ _ _ hrz]; rfl
  have g0 : w5.frozen? ⟨w.heap.size + 1, 0, none⟩ = false := frozen_of_row _ _ _ _ _ hrz
  have r1 : w5.cell? ⟨w.heap.size + 1, 1, none⟩ = some (.map none) := by rw [cell_of_row _ _ 1 _ _ _ hrz]; rfl
  have g1 : w5.frozen? ⟨w.heap.size + 1, 1, none⟩ = false := frozen_of_row _ _ _ _ _ hrz
  have r2 : w5.cell? ⟨w.heap.size + 1, 2, none⟩ = some (.nilIface) := by rw [cell_of_row _ _ 2 _ _ _ hrz]; rfl
  have g2 : w5.frozen? ⟨w.heap.size + 1, 2, none⟩ = false := frozen_of_row _ _ _ _ _ hrz
  have r3 : w5.cell? ⟨w.heap.size + 1, 3, none⟩ = some (.nilIface) := by rw [cell_of_row _ _ 3 _ _ _ hrz]; rfl
  have g3 : w5.frozen? ⟨w.heap.size + 1, 3, none⟩ = false := frozen_of_row _ _ _ _ _ hrz
  have r4 : w5.cell? ⟨w.heap.size + 1, 4, none⟩ = some (.nilIface) := by rw [cell_of_row _ _ 4 _ _ _ hrz]; rfl
  have g4 : w5.frozen? ⟨w.heap.size + 1, 4, none⟩ = false := frozen_of_row _ _ _ _ _ hrz
  clear ht5 hrz BB1 BB2 BB3 BB4 BB5 A1 A2 A3 A4 hbx0 hbx1
  rcases hp2 with rfl | ⟨t2, x2, rfl⟩ <;> rcases hp3 with rfl | ⟨t3, x3, rfl⟩ <;> rcases hp4 with rfl | ⟨t4, x4, rfl⟩
  all_goals
    go_wp2
    exact sc_end false HB.out Ht5.out HP2.out HP3.out HP4.out (by rfl) (by rfl) (by rfl) rfl
end Go.Proofs.Ytddnncndcmnnjaa
