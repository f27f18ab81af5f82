/-
  Texts that a law leans on, one behind the other; no statement is proved here.
-/
import Derived.Test.YtngjhimieacjhaaGreatDoorPk28
import Derived.Test.YtngjhimieacjhaaGreatDoorPk29
import Derived.Test.YtngjhimieacjhaaGreatDoorPk26
import Derived.Test.YtngjhimieacjhaaGreatDoorPk15
import Derived.Test.YtngjhimieacjhaaGreatDoorPk7
import Derived.Test.YtngjhimieacjhaaGreatDoorPk6
import Derived.Deep.RegionHeld3
/-
  FnExactTainted answers true, whatever it is handed; it makes new memory and turns nothing old.
-/
namespace Go.Proofs.YtngjhimieacjhaaGreatDoor
open Go.RowKit Go.Shelf
set_option linter.unusedVariables false
set_option linter.unusedSimpArgs false

theorem Stt_parts_Tainted {d : Nat} (s : Stt d) : ∃ (s0 : Int) (s1 : Bool) (pl : Nat) (s3 : Int) (ll : Nat), s.1 = s0 ∧ s.2.1 = s1 ∧ s.2.2.1.length = pl ∧ s.2.2.2.1 = s3 ∧ s.2.2.2.2.length = ll := ⟨_, _, _, _, _, rfl, rfl, rfl, rfl, rfl⟩

set_option maxHeartbeats 12800000 in
set_option maxRecDepth 100000 in
theorem walk_FnExactTainted (D : Nat) (cs : List Value) (st : Stt (D + 1)) (w : World) (hE : Errs w) (hx : SaSg (fun b => b < w.heap.size) w (D + 1) cs st) :
    Calls Tryz.prog 4 #[.agg cs.toArray] w fun e w' => e = .returned (.bool true) ∧ Below w.heap.size w w' := by
  have b0 : ∀ o : Obj, Below w.heap.size w (w.alloc o) := fun o => (Below.refl _ _).alloc (Nat.le_refl _) o
  have Hb := hide' b0
  have HEr := hide' hE
  have HV : Hid (∀ wx, Below w.heap.size w wx → SaSg (fun b => b < w.heap.size) wx (D + 1) cs st) := fun wx hb => hx.agree (agree_below hb)
  have HS : Hid (∀ wx, Below w.heap.size w wx → Calls Tryz.prog 6 #[.agg cs.toArray, .int .i64 1048576] wx (SzSaE (D + 1) st wx)) := fun wx hb => szState_any (D + 1) w.heap.size cs st wx (HV.out wx hb) hb.size
  have Hbox : Hid (∀ o wx, Below (w.alloc o).heap.size (w.alloc o) wx → wx.heap[w.heap.size]? = some o) := fun o wx h => box_row h
  obtain ⟨s0, s1, pl, s3, ll, e0, e1, e2, e3, e4⟩ := Stt_parts_Tainted st
  have HP : Hid (∀ (R : Nat → Prop) (wx : World) (cs' : List Value), SaSg R wx (D + 1) cs' st → ∃ (pa : Option Addr) (pc : Nat) (ea : Option Addr) (ec : Nat), cs' = [.int .i64 s0, .bool s1, .slice pa pl pc, .int .i64 s3, .slice ea ll ec]) := fun R wx cs' h => by
    obtain ⟨pa, pc, ea, ec, rfl, -, -⟩ := h.form
    subst e0 e1 e2 e3 e4
    exact ⟨_, _, _, _, rfl⟩
  obtain ⟨pa, pc, ea, ec, rfl⟩ := HP.out _ _ _ hx
  clear hx hE e0 e1 e2 e3 e4 b0
  have HT0 : Hid (SaSz (D + 1) st → ∀ wx, Below w.heap.size w wx → Calls Tryz.prog 8 #[.agg #[.int .i64 s0, .bool s1, .slice pa pl pc, .int .i64 s3, .slice ea ll ec]] wx (SaEndO (D + 1) st wx)) := fun hz wx hb => toStateO_any (D + 1) w.heap.size _ st wx (HV.out wx hb) hb.size hz
  have HSp0 : Hid (SaSz (D + 1) st → ∀ cs' wx, SaSg (fun b => b < wx.heap.size) wx (D + 1) cs' st → Calls Tryz.prog 18 #[.agg cs'.toArray] wx (KEnd (selA (D + 1) st (tntP (D + 1))) wx)) := fun hz cs' wx h1 => spec_Tainted_any D wx.heap.size cs' st wx h1 (Nat.le_refl _) hz
  have HIm0 : Hid (SaSz (D + 1) st → ∀ cs' wx, Below w.heap.size w wx → SaSg (fun b => b < wx.heap.size) wx (D + 1) cs' st → Calls Tryz.prog 19 #[.agg cs'.toArray] wx (KEnd (selA (D + 1) st (tntP (D + 1))) wx)) := fun hz cs' wx hb h1 => impl_Tainted_any D wx.heap.size cs' st wx h1 (Nat.le_refl _) hz (HEr.out.grow hb)
  have hkz : szK (selA (D + 1) st (tntP (D + 1))) ≤ 1048576 := selA_sz _ _ _
  generalize selA (D + 1) st (tntP (D + 1)) = A at *
  have hsum : (A.map List.length).sum ≤ 1048576 := by have h5 : szK A = A.length + (A.map List.length).sum := rfl; omega
  have HEK : Hid (∀ x y B B' wx, KOwn wx x A B → KOwn wx y A B' → Calls Tryz.prog 11 #[x, y] wx fun e w' => e = .returned (.bool true) ∧ Below wx.heap.size wx w') := fun x y B B' wx h h' => eqByteSS_same wx.heap.size x y _ wx h.read h'.read (Nat.le_refl _) hkz
  have HMK : Hid (∀ x B wx, KOwn wx x A B → Calls Tryz.prog 16 #[x, .int .i64 1] wx fun e w' => e = .returned (.int .i64 ((1 + (A.map List.length).sum : Nat) : Int)) ∧ KOwn w' x (mkKs A 1) B ∧ Turned B wx w') := fun x B wx h => markByteSS_any x _ B 1 wx h (by omega) (by omega)
  have HHK : Hid (∀ x B wx, KOwn wx x (mkKs A 1) B → Calls Tryz.prog 17 #[x, .int .i64 1] wx fun e w' => e = .returned (.int .i64 ((1 + (A.map List.length).sum : Nat) : Int)) ∧ Below wx.heap.size wx w') := fun x B wx h => heldByteSS_any wx.heap.size x _ 1 wx h.read (Nat.le_refl _) (by omega) (by omega)
  generalize hsm : (A.map List.length).sum = sm at *
  clear HV hkz hsm
  go_enter Tryz.func4, Tryz.ntmps4
  go_wp2_with fail
  refine (HS.out _ (Hb.out _)).mono ?_
  rintro e w1 ⟨hcase, b1⟩
  have Hb1 := hide' b1
  clear HS b1
  rcases hcase with rfl | ⟨m, hm0, hm1, rfl, hsz⟩
  · have HBF := hide' (Below.on (Hb.out _) Hb1.out)
    go_wp2
    go_ret
    exact ⟨rfl, HBF.out⟩
  have hm' : ¬ m < 0 := by omega
  have HT := hide' (HT0.out hsz)
  have HSp := hide' (HSp0.out hsz)
  have HIm := hide' (HIm0.out hsz)
  have HM : Hid (∀ cs1 B wx, SaOwn wx (D + 1) cs1 st B → Calls Tryz.prog 14 #[.agg cs1.toArray, .int .i64 1] wx fun e w' => (∃ n : Nat, e = .returned (.int .i64 (n : Int)) ∧ n ≤ 1125899906842624) ∧ Turned B wx w') := fun cs1 B wx h => markState_any D cs1 st B wx h hsz
  have HEq : Hid (∀ cs1 cs2 wx, SaSg (fun b => b < wx.heap.size) wx (D + 1) cs1 st → SaSg (fun b => b < wx.heap.size) wx (D + 1) cs2 st → Calls Tryz.prog 12 #[.agg cs1.toArray, .agg cs2.toArray] wx fun e w' => e = .returned (.bool true) ∧ Below wx.heap.size wx w') := fun cs1 cs2 wx h h' => eqState_any (D + 1) wx.heap.size cs1 cs2 st wx h h' (Nat.le_refl _) hsz
  clear HT0 HSp0 HIm0 hsz
  obtain ⟨y0, y1, y2, y3, y4⟩ := five_row (Hbox.out _ _ Hb1.out)
  have HT1 := hide' (HT.out w1 (Below.on (Hb.out _) Hb1.out))
  go_wp2_with fail
  refine HT1.out.mono ?_
  rintro e w2 ⟨cu, rfl, Bu, hO2, hB2, b2⟩
  have hS2 := hide' (HSp.out _ w2 hO2.read)
  obtain ⟨pa1, pc1, ea1, ec1, rfl⟩ := HP.out _ _ _ hO2.read
  have b12 := hide' (Below.on Hb1.out b2)
  clear HT1 Hb1 hO2 hB2 b2 y0 y1 y2 y3 y4 HSp
  go_wp2_with fail
  refine hS2.out.mono ?_
  rintro e w3 ⟨W0, rfl, Bw, hW3, hBw, b3⟩
  obtain ⟨Wa, Wn, Wc, rfl⟩ := hW3.form
  have b13 := Below.on b12.out b3
  obtain ⟨y0, y1, y2, y3, y4⟩ := five_row (Hbox.out _ _ b13)
  have HT3 := hide' (HT.out _ (Below.on (Hb.out _) b13))
  have HZ3 : Hid (w.heap.size + 1 ≤ w2.heap.size) := hide' (by have h := b12.out.size; simpa using h)
  have HW3 := hide' hW3
  have HBw := hide' hBw
  have Hb13 := hide' b13
  have hz23 : w2.heap.size ≤ w3.heap.size := b3.size
  clear b12 b3 b13 hS2 hW3 hBw
  go_wp2_with fail
  refine HT3.out.mono ?_
  rintro e w4 ⟨cx, rfl, B4, hO4, hB4, b4⟩
  obtain ⟨pa', pc', ea', ec', rfl⟩ := HP.out _ _ _ hO4.read
  have bal : Below w4.heap.size w4 (w4.alloc (.cells #[.int .i64 s0, .bool s1, .slice pa' pl pc', .int .i64 s3, .slice ea' ll ec'] 31)) := (Below.refl _ _).alloc (Nat.le_refl _) _
  have HO4 := hide' (hO4.on bal)
  have HB4 : Hid (∀ b ∈ B4, w3.heap.size ≤ b ∧ b < w4.heap.size) := hB4
  have Hb14 := hide' (Below.on (Below.on Hb13.out b4) bal)
  have HW4 := hide' ((HW3.out.on b4).on bal)
  have HrX : Hid ((w4.alloc (.cells #[.int .i64 s0, .bool s1, .slice pa' pl pc', .int .i64 s3, .slice ea' ll ec'] 31)).heap[w4.heap.size]? = some (.cells #[.int .i64 s0, .bool s1, .slice pa' pl pc', .int .i64 s3, .slice ea' ll ec'] 31)) := (MapKept.heap_alloc w4 _).1
  have hz34 : w3.heap.size ≤ w4.heap.size := b4.size
  obtain ⟨v0, v1, v2, v3, v4⟩ := five_row HrX.out
  have hI5 := hide' (HIm.out _ _ (Below.on (Hb.out _) Hb14.out) HO4.out.read)
  have HO5 := HO4
  have HW5 := HW4
  have HrX5 := HrX
  have Hb15 := Hb14
  clear hO4 hB4 b4 bal HT3 Hb13 HW3 y0 y1 y2 y3 y4 HO4 HW4 HrX Hb14
  go_wp2_with fail
  refine hI5.out.mono ?_
  rintro e w6 ⟨G0, rfl, Bg, hG6, hBg, b6⟩
  obtain ⟨Ga, Gn, Gc, rfl⟩ := hG6.form
  have hE6 := hide' (HEK.out _ _ _ _ _ hG6 (HW5.out.on b6))
  have HG6 := hide' hG6
  have HW6 := hide' (HW5.out.on b6)
  have HO6 := hide' (HO5.out.on b6)
  have HrX6 := hide' (row_on HrX5.out b6)
  have Hb16 := hide' (Below.on Hb15.out b6)
  have HBg : Hid (∀ b ∈ Bg, w4.heap.size + 1 ≤ b ∧ b < w6.heap.size) := fun b hb => by have := hBg b hb; simp at this; exact this
  have hz56 : w4.heap.size + 1 ≤ w6.heap.size := by have := b6.size; simp at this; omega
  clear hI5 hG6 hBg b6 HW5 HO5 HrX5 Hb15 v0 v1 v2 v3 v4
  go_wp2_with fail
  refine hE6.out.mono ?_
  rintro e w7 ⟨rfl, b7⟩
  have B17 := Below.on Hb16.out b7
  have hx7 := row_on HrX6.out b7
  have hz7 : w4.heap.size < w7.heap.size := (Array.getElem?_eq_some_iff.1 hx7).1
  obtain ⟨y0, y1, y2, y3, y4⟩ := five_row (Hbox.out _ _ B17)
  obtain ⟨v0, v1, v2, v3, v4⟩ := five_row hx7
  have hO7 := HO6.out.on b7
  have HCel : Hid (∀ wy, Below w7.heap.size w7 wy → (wy.cell? ⟨w.heap.size, 0, none⟩ = some (.int .i64 s0) ∧ wy.cell? ⟨w.heap.size, 1, none⟩ = some (.bool s1) ∧ wy.cell? ⟨w.heap.size, 2, none⟩ = some (.slice pa pl pc) ∧ wy.cell? ⟨w.heap.size, 3, none⟩ = some (.int .i64 s3) ∧ wy.cell? ⟨w.heap.size, 4, none⟩ = some (.slice ea ll ec) ∧ wy.cell? ⟨w4.heap.size, 0, none⟩ = some (.int .i64 s0) ∧ wy.cell? ⟨w4.heap.size, 1, none⟩ = some (.bool s1) ∧ wy.cell? ⟨w4.heap.size, 2, none⟩ = some (.slice pa' pl pc') ∧ wy.cell? ⟨w4.heap.size, 3, none⟩ = some (.int .i64 s3) ∧ wy.cell? ⟨w4.heap.size, 4, none⟩ = some (.slice ea' ll ec'))) := by
    intro wy hy
    obtain ⟨f0, f1, f2, f3, f4⟩ := five_row (Hbox.out _ _ (Below.on B17 hy))
    obtain ⟨g0, g1, g2, g3, g4⟩ := five_row (row_on hx7 hy)
    exact ⟨f0, f1, f2, f3, f4, g0, g1, g2, g3, g4⟩
  have HTd : Hid (Calls Tryz.prog 8 #[.agg #[.int .i64 s0, .bool s1, .slice pa pl pc, .int .i64 s3, .slice ea ll ec]] w7.drew fun e w8 => ∃ z0 z1 z2 z3 z4, e = .returned (.agg #[z0, z1, z2, z3, z4]) ∧ (w8.cell? ⟨w.heap.size, 0, none⟩ = some (.int .i64 s0) ∧ w8.cell? ⟨w.heap.size, 1, none⟩ = some (.bool s1) ∧ w8.cell? ⟨w.heap.size, 2, none⟩ = some (.slice pa pl pc) ∧ w8.cell? ⟨w.heap.size, 3, none⟩ = some (.int .i64 s3) ∧ w8.cell? ⟨w.heap.size, 4, none⟩ = some (.slice ea ll ec) ∧ w8.cell? ⟨w4.heap.size, 0, none⟩ = some (.int .i64 s0) ∧ w8.cell? ⟨w4.heap.size, 1, none⟩ = some (.bool s1) ∧ w8.cell? ⟨w4.heap.size, 2, none⟩ = some (.slice pa' pl pc') ∧ w8.cell? ⟨w4.heap.size, 3, none⟩ = some (.int .i64 s3) ∧ w8.cell? ⟨w4.heap.size, 4, none⟩ = some (.slice ea' ll ec')) ∧
      Hid (Calls Tryz.prog 12 #[.agg #[.int .i64 s0, .bool s1, .slice pa' pl pc', .int .i64 s3, .slice ea' ll ec'], .agg #[z0, z1, z2, z3, z4]] w8 fun e w9 => e = .returned (.bool true) ∧ (w9.cell? ⟨w.heap.size, 0, none⟩ = some (.int .i64 s0) ∧ w9.cell? ⟨w.heap.size, 1, none⟩ = some (.bool s1) ∧ w9.cell? ⟨w.heap.size, 2, none⟩ = some (.slice pa pl pc) ∧ w9.cell? ⟨w.heap.size, 3, none⟩ = some (.int .i64 s3) ∧ w9.cell? ⟨w.heap.size, 4, none⟩ = some (.slice ea ll ec) ∧ w9.cell? ⟨w4.heap.size, 0, none⟩ = some (.int .i64 s0) ∧ w9.cell? ⟨w4.heap.size, 1, none⟩ = some (.bool s1) ∧ w9.cell? ⟨w4.heap.size, 2, none⟩ = some (.slice pa' pl pc') ∧ w9.cell? ⟨w4.heap.size, 3, none⟩ = some (.int .i64 s3) ∧ w9.cell? ⟨w4.heap.size, 4, none⟩ = some (.slice ea' ll ec')) ∧ Hid (Below w7.heap.size w7 w9))) := by
    refine (HT.out w7.drew (Below.on (Hb.out _) B17).drew).mono ?_
    rintro e w8 ⟨cz, rfl, B8, hO8, hB8, b8⟩
    obtain ⟨paz, pcz, eaz, ecz, rfl⟩ := HP.out _ _ _ hO8.read
    have b78 : Below w7.heap.size w7 w8 := Below.on (Below.refl _ w7).drew b8
    refine ⟨_, _, _, _, _, rfl, HCel.out _ b78, ?_⟩
    exact (HEq.out [.int .i64 s0, .bool s1, .slice pa' pl pc', .int .i64 s3, .slice ea' ll ec'] [.int .i64 s0, .bool s1, .slice paz pl pcz, .int .i64 s3, .slice eaz ll ecz] w8 (hO7.on b78).read hO8.read).mono fun e w9 h => ⟨h.1, HCel.out _ (Below.on b78 h.2), Below.on b78 h.2⟩
  have HB17 := hide' B17
  have HO7 := hide' hO7
  have HG7 := hide' (HG6.out.on b7)
  have HW7 := hide' (HW6.out.on b7)
  clear hE6 hx7 hO7 b7 B17 HO6 Hb16 HG6 HW6 HrX6
  go_wp2_with fail
  go_region_held3 (fun wx => (wx.cell? ⟨w.heap.size, 0, none⟩ = some (.int .i64 s0) ∧ wx.cell? ⟨w.heap.size, 1, none⟩ = some (.bool s1) ∧ wx.cell? ⟨w.heap.size, 2, none⟩ = some (.slice pa pl pc) ∧ wx.cell? ⟨w.heap.size, 3, none⟩ = some (.int .i64 s3) ∧ wx.cell? ⟨w.heap.size, 4, none⟩ = some (.slice ea ll ec) ∧ wx.cell? ⟨w4.heap.size, 0, none⟩ = some (.int .i64 s0) ∧ wx.cell? ⟨w4.heap.size, 1, none⟩ = some (.bool s1) ∧ wx.cell? ⟨w4.heap.size, 2, none⟩ = some (.slice pa' pl pc') ∧ wx.cell? ⟨w4.heap.size, 3, none⟩ = some (.int .i64 s3) ∧ wx.cell? ⟨w4.heap.size, 4, none⟩ = some (.slice ea' ll ec'))) (go_keep) (first
    | (go_at_call 8; refine HTd.out.mono ?_; rintro e w8 ⟨z0, z1, z2, z3, z4, rfl, ⟨i0, i1, i2, i3, i4, i5, i6, i7, i8, i9⟩, hE8⟩)
    | (go_at_call 12; refine hE8.out.mono ?_; rintro e w9 ⟨rfl, ⟨j0, j1, j2, j3, j4, j5, j6, j7, j8, j9⟩, hb9⟩))
  clear y0 y1 y2 y3 y4 v0 v1 v2 v3 v4 i0 i1 i2 i3 i4 i5 i6 i7 i8 i9 hE8 HTd HCel HEq
  have hM11 := hide' (HM.out _ _ _ (HO7.out.on hb9.out))
  have HG11 := hide' (HG7.out.on hb9.out)
  have HW11 := hide' (HW7.out.on hb9.out)
  have HB111 := hide' (Below.on HB17.out hb9.out)
  clear HG7 HW7 HO7 HB17 hb9
  go_wp2_with fail
  refine hM11.out.mono ?_
  rintro e w13 ⟨⟨q3, rfl, hq1⟩, hT12⟩
  have hq3' : ¬ ((q3 : Nat) : Int) < 0 := by omega
  have hG13 := HG11.out.far hT12 (fun b hb hm => by have h1 := HBg.out b hb; have h2 := HB4.out b hm; omega)
  have hW13 := HW11.out.far hT12 (fun b hb hm => by have h1 := HBw.out b hb; have h2 := HB4.out b hm; omega)
  have HB113 := hide' (Turned.below HB111.out hT12 (Nat.le_refl _) (fun b hb => by have h1 := HB4.out b hb; have h2 := HZ3.out; rw [World.size_alloc]; omega))
  have hE13 := hide' (HEK.out _ _ _ _ _ hG13 hW13)
  have HG13 := hide' hG13
  have HW13 := hide' hW13
  clear hM11 hT12 HG11 HW11 HB111 hG13 hW13 j0 j1 j2 j3 j4 j5 j6 j7 j8 j9
  go_wp2_with fail
  refine hE13.out.mono ?_
  rintro e w14 ⟨rfl, b14⟩
  have hM14 := hide' (HMK.out _ _ _ (HG13.out.on b14))
  have HW14 := hide' (HW13.out.on b14)
  have HB114 := hide' (Below.on HB113.out b14)
  clear hE13 b14 HG13 HW13 HB113
  go_wp2_with fail
  refine hM14.out.mono ?_
  rintro e w15 ⟨rfl, hG15, hT15⟩
  have HW15 := hide' (HW14.out.far hT15 (fun b hb hm => by have h1 := HBw.out b hb; have h2 := HBg.out b hm; omega))
  have HB115 := hide' (Turned.below HB114.out hT15 (Nat.le_refl _) (fun b hb => by have h1 := HBg.out b hb; have h2 := HZ3.out; rw [World.size_alloc]; omega))
  have hH15 := hide' (HHK.out _ _ _ hG15)
  have HG15 := hide' hG15
  clear hM14 hT15 hG15 HW14 HB114
  go_wp2_with fail
  refine hH15.out.mono ?_
  rintro e w16 ⟨rfl, b16⟩
  have HG16 := hide' (HG15.out.on b16)
  have HW16 := hide' (HW15.out.on b16)
  have HB116 := hide' (Below.on HB115.out b16)
  obtain ⟨y0, y1, y2, y3, y4⟩ := five_row (Hbox.out _ _ HB116.out)
  have HT16 := hide' (HT.out w16 (Below.on (Hb.out _) HB116.out))
  clear hH15 b16 HG15 HW15 HB115
  go_wp2_with fail
  refine HT16.out.mono ?_
  rintro e w18 ⟨c17, rfl, B17, hO17, hB17, b17⟩
  obtain ⟨pa3, pc3, ea3, ec3, rfl⟩ := HP.out _ _ _ hO17.read
  have hI18 := hide' (HIm.out _ w18 (Below.on (Hb.out _) (Below.on HB116.out b17)) hO17.read)
  have Hb18 := hide' b17
  clear HT16 hO17 hB17 b17 y0 y1 y2 y3 y4
  go_wp2_with fail
  refine hI18.out.mono ?_
  rintro e w19 ⟨H0, rfl, Bh, hH19, hBh, b19⟩
  obtain ⟨Ha, Hn, Hc, rfl⟩ := hH19.form
  have b1619 := Below.on Hb18.out b19
  have hE19 := hide' (HEK.out _ _ _ _ _ hH19 (HW16.out.on b1619))
  have HG19 := hide' (HG16.out.on b1619)
  have HB119 := hide' (Below.on HB116.out b1619)
  clear hI18 Hb18 hH19 hBh b19 b1619 HG16 HW16 HB116
  go_wp2_with fail
  refine hE19.out.mono ?_
  rintro e w20 ⟨rfl, b20⟩
  have hH20 := hide' (HHK.out _ _ _ (HG19.out.on b20))
  have HB120 := hide' (Below.on HB119.out b20)
  clear hE19 b20 HG19 HB119
  go_wp2_with fail
  refine hH20.out.mono ?_
  rintro e w21 ⟨rfl, b21⟩
  have HB121 := hide' (Below.on (Hb.out _) (Below.on HB120.out b21))
  clear hH20 b21 HB120
  go_wp2
  go_ret
  exact ⟨rfl, HB121.out⟩
end Go.Proofs.YtngjhimieacjhaaGreatDoor
/-
  FnExactNeeds answers true, whatever it is handed; it makes new memory and turns nothing old.
-/
namespace Go.Proofs.YtngjhimieacjhaaGreatDoor
open Go.RowKit Go.Shelf
set_option linter.unusedVariables false
set_option linter.unusedSimpArgs false

theorem Stt_parts_Needs {d : Nat} (s : Stt d) : ∃ (s0 : Int) (s1 : Bool) (pl : Nat) (s3 : Int) (ll : Nat), s.1 = s0 ∧ s.2.1 = s1 ∧ s.2.2.1.length = pl ∧ s.2.2.2.1 = s3 ∧ s.2.2.2.2.length = ll := ⟨_, _, _, _, _, rfl, rfl, rfl, rfl, rfl⟩

set_option maxHeartbeats 12800000 in
set_option maxRecDepth 100000 in
theorem walk_FnExactNeeds (D : Nat) (cs : List Value) (st : Stt (D + 1)) (key : List Int) (ka : Option Addr) (kc : Nat) (w : World) (hE : Errs w) (hx : SaSg (fun b => b < w.heap.size) w (D + 1) cs st) (hS : Seg w ka key) (hkc : key.length ≤ kc) (hkc2 : kc ≤ maxLen) (hkn : ka = none → kc = 0) :
    Calls Tryz.prog 3 #[.agg cs.toArray, .slice ka key.length kc] w fun e w' => e = .returned (.bool true) ∧ Below w.heap.size w w' := by
  have b0 : ∀ o : Obj, Below w.heap.size w (w.alloc o) := fun o => (Below.refl _ _).alloc (Nat.le_refl _) o
  have Hb := hide' b0
  have HEr := hide' hE
  have HV : Hid (∀ wx, Below w.heap.size w wx → SaSg (fun b => b < w.heap.size) wx (D + 1) cs st) := fun wx hb => hx.agree (agree_below hb)
  have HS : Hid (∀ wx, Below w.heap.size w wx → Calls Tryz.prog 6 #[.agg cs.toArray, .int .i64 1048576] wx (SzSaE (D + 1) st wx)) := fun wx hb => szState_any (D + 1) w.heap.size cs st wx (HV.out wx hb) hb.size
  have Hbox : Hid (∀ o wx, Below (w.alloc o).heap.size (w.alloc o) wx → wx.heap[w.heap.size]? = some o) := fun o wx h => box_row h
  obtain ⟨s0, s1, pl, s3, ll, e0, e1, e2, e3, e4⟩ := Stt_parts_Needs st
  have HP : Hid (∀ (R : Nat → Prop) (wx : World) (cs' : List Value), SaSg R wx (D + 1) cs' st → ∃ (pa : Option Addr) (pc : Nat) (ea : Option Addr) (ec : Nat), cs' = [.int .i64 s0, .bool s1, .slice pa pl pc, .int .i64 s3, .slice ea ll ec]) := fun R wx cs' h => by
    obtain ⟨pa, pc, ea, ec, rfl, -, -⟩ := h.form
    subst e0 e1 e2 e3 e4
    exact ⟨_, _, _, _, rfl⟩
  obtain ⟨pa, pc, ea, ec, rfl⟩ := HP.out _ _ _ hx
  have hkm : key.length ≤ 9223372036854775807 := by unfold maxLen at hkc2; omega
  have HKS : Hid (∀ wx, Below w.heap.size w wx → Seg wx ka key) := fun wx hb => hS.below hb hS.lt
  clear hx hE e0 e1 e2 e3 e4 hS b0
  by_cases hbig : 1048576 < key.length
  · have hbig' : (1048576 : Int) < (key.length : Int) := by omega
    generalize key.length = kn at *
    clear HP HKS HS HV
    go_enter Tryz.func3, Tryz.ntmps3
    go_wp2
    go_ret
    exact ⟨rfl, Hb.out _⟩
  have hkl : key.length ≤ 1048576 := by omega
  have hkl' : ¬ (1048576 : Int) < (key.length : Int) := by omega
  have HTB : Hid (∀ wx, Below w.heap.size w wx → Calls Tryz.prog 9 #[.slice ka key.length kc] wx fun e w' => e = .returned (.slice (some ⟨wx.heap.size, 0, none⟩) key.length key.length) ∧ Bts w' wx.heap.size (.slice (some ⟨wx.heap.size, 0, none⟩) key.length key.length) key ∧ Below wx.heap.size wx w') := fun wx hb => toByteS_any ka kc key wx (HKS.out wx hb) (by omega)
  have HEB : Hid (∀ (xa ya : Option Addr) (xc yc : Nat) (wx : World), Seg wx xa key → Seg wx ya key → Calls Tryz.prog 13 #[.slice xa key.length xc, .slice ya key.length yc] wx fun e w' => e = .returned (.bool true) ∧ Below wx.heap.size wx w') := fun xa ya xc yc wx h h' => eqByteS_same xa ya xc yc key wx h h' (by omega)
  have HMC : Hid (∀ base xa (q : Nat) wx, q ≤ 1125899906842624 → Bts wx base (.slice xa key.length key.length) key → Calls Tryz.prog 15 #[.slice xa key.length key.length, .int .i64 q] wx fun e w' => e = .returned (.int .i64 ((q + key.length : Nat) : Int)) ∧ wx.grownBy w' (Value.slice xa key.length key.length).ownBlock) := fun base xa q wx hq h => (markByteS_any base xa key.length key q wx h (by omega) hq).mono fun e w' h => ⟨h.1, h.2.2⟩
  have HTg : Hid (∀ (wx : World) (base : Nat) (xa : Option Addr), Bts wx base (.slice xa key.length key.length) key → TSeg (fun b => b < wx.heap.size) wx (.slice xa key.length key.length) key) := fun wx base xa h => by
    obtain ⟨a', c', e, h1, h2, h3, h4⟩ := h.shape
    simp only [Value.slice.injEq, true_and] at e
    obtain ⟨rfl, rfl⟩ := e
    exact ⟨_, _, rfl, h1, h2, h3, h4.2, fun x hx _ => (h4.1 x hx).2.1⟩
  have HT0 : Hid (SaSz (D + 1) st → ∀ wx, Below w.heap.size w wx → Calls Tryz.prog 8 #[.agg #[.int .i64 s0, .bool s1, .slice pa pl pc, .int .i64 s3, .slice ea ll ec]] wx (SaEndO (D + 1) st wx)) := fun hz wx hb => toStateO_any (D + 1) w.heap.size _ st wx (HV.out wx hb) hb.size hz
  have HSp0 : Hid (SaSz (D + 1) st → ∀ cs' wx xa, SaSg (fun b => b < wx.heap.size) wx (D + 1) cs' st → TSeg (fun b => b < wx.heap.size) wx (.slice xa key.length key.length) key → Calls Tryz.prog 7 #[.agg cs'.toArray, .slice xa key.length key.length] wx (KEnd (selA (D + 1) st (ndsP (D + 1) key)) wx)) := fun hz cs' wx xa h1 h2 => spec_Needs_any D wx.heap.size cs' st xa key.length key wx h1 (Nat.le_refl _) hz h2 hkl
  have HIm0 : Hid (SaSz (D + 1) st → ∀ cs' wx xa, Below w.heap.size w wx → SaSg (fun b => b < wx.heap.size) wx (D + 1) cs' st → TSeg (fun b => b < wx.heap.size) wx (.slice xa key.length key.length) key → Calls Tryz.prog 10 #[.agg cs'.toArray, .slice xa key.length key.length] wx (KEnd (selA (D + 1) st (ndsP (D + 1) key)) wx)) := fun hz cs' wx xa hb h1 h2 => impl_Needs_any D wx.heap.size cs' st xa key.length key wx h1 (Nat.le_refl _) hz h2 hkl (HEr.out.grow hb)
  have hkz : szK (selA (D + 1) st (ndsP (D + 1) key)) ≤ 1048576 := selA_sz _ _ _
  generalize selA (D + 1) st (ndsP (D + 1) key) = A at *
  have hsum : (A.map List.length).sum ≤ 1048576 := by have h5 : szK A = A.length + (A.map List.length).sum := rfl; omega
  have HEK : Hid (∀ x y B B' wx, KOwn wx x A B → KOwn wx y A B' → Calls Tryz.prog 11 #[x, y] wx fun e w' => e = .returned (.bool true) ∧ Below wx.heap.size wx w') := fun x y B B' wx h h' => eqByteSS_same wx.heap.size x y _ wx h.read h'.read (Nat.le_refl _) hkz
  have HMK : Hid (∀ x B wx, KOwn wx x A B → Calls Tryz.prog 16 #[x, .int .i64 1] wx fun e w' => e = .returned (.int .i64 ((1 + (A.map List.length).sum : Nat) : Int)) ∧ KOwn w' x (mkKs A 1) B ∧ Turned B wx w') := fun x B wx h => markByteSS_any x _ B 1 wx h (by omega) (by omega)
  have HHK : Hid (∀ x B wx, KOwn wx x (mkKs A 1) B → Calls Tryz.prog 17 #[x, .int .i64 1] wx fun e w' => e = .returned (.int .i64 ((1 + (A.map List.length).sum : Nat) : Int)) ∧ Below wx.heap.size wx w') := fun x B wx h => heldByteSS_any wx.heap.size x _ 1 wx h.read (Nat.le_refl _) (by omega) (by omega)
  generalize hsm : (A.map List.length).sum = sm at *
  generalize hkn' : key.length = kn at *
  clear hkn' HKS hbig
  clear HV hkz hsm
  go_enter Tryz.func3, Tryz.ntmps3
  go_wp2_with fail
  refine (HS.out _ (Hb.out _)).mono ?_
  rintro e w1 ⟨hcase, b1⟩
  have Hb1 := hide' b1
  clear HS b1
  rcases hcase with rfl | ⟨m, hm0, hm1, rfl, hsz⟩
  · have HBF := hide' (Below.on (Hb.out _) Hb1.out)
    go_wp2
    go_ret
    exact ⟨rfl, HBF.out⟩
  have hm' : ¬ m < 0 := by omega
  have HT := hide' (HT0.out hsz)
  have HSp := hide' (HSp0.out hsz)
  have HIm := hide' (HIm0.out hsz)
  have HM : Hid (∀ cs1 B wx, SaOwn wx (D + 1) cs1 st B → Calls Tryz.prog 14 #[.agg cs1.toArray, .int .i64 1] wx fun e w' => (∃ n : Nat, e = .returned (.int .i64 (n : Int)) ∧ n ≤ 1125899906842624) ∧ Turned B wx w') := fun cs1 B wx h => markState_any D cs1 st B wx h hsz
  have HEq : Hid (∀ cs1 cs2 wx, SaSg (fun b => b < wx.heap.size) wx (D + 1) cs1 st → SaSg (fun b => b < wx.heap.size) wx (D + 1) cs2 st → Calls Tryz.prog 12 #[.agg cs1.toArray, .agg cs2.toArray] wx fun e w' => e = .returned (.bool true) ∧ Below wx.heap.size wx w') := fun cs1 cs2 wx h h' => eqState_any (D + 1) wx.heap.size cs1 cs2 st wx h h' (Nat.le_refl _) hsz
  clear HT0 HSp0 HIm0 hsz
  obtain ⟨y0, y1, y2, y3, y4⟩ := five_row (Hbox.out _ _ Hb1.out)
  have HT1 := hide' (HT.out w1 (Below.on (Hb.out _) Hb1.out))
  go_wp2_with fail
  refine HT1.out.mono ?_
  rintro e w2a ⟨cu, rfl, Bu, hO2, hB2, b2⟩
  have b12a := hide' (Below.on Hb1.out b2)
  have HTBa := hide' (HTB.out w2a (Below.on (Hb.out _) b12a.out))
  have HO2 := hide' hO2
  obtain ⟨pa1, pc1, ea1, ec1, rfl⟩ := HP.out _ _ _ hO2.read
  clear HT1 Hb1 hO2 hB2 b2 y0 y1 y2 y3 y4
  go_wp2_with fail
  refine HTBa.out.mono ?_
  rintro e w2 ⟨rfl, hK2, bk2⟩
  have hS2 := hide' (HSp.out _ w2 _ (HO2.out.on bk2).read (HTg.out _ _ _ hK2))
  have b12 := hide' (Below.on b12a.out bk2)
  clear HTBa HO2 b12a hK2 bk2 HSp
  go_wp2_with fail
  refine hS2.out.mono ?_
  rintro e w3 ⟨W0, rfl, Bw, hW3, hBw, b3⟩
  obtain ⟨Wa, Wn, Wc, rfl⟩ := hW3.form
  have b13 := Below.on b12.out b3
  obtain ⟨y0, y1, y2, y3, y4⟩ := five_row (Hbox.out _ _ b13)
  have HT3 := hide' (HT.out _ (Below.on (Hb.out _) b13))
  have HZ3 : Hid (w.heap.size + 1 ≤ w2.heap.size) := hide' (by have h := b12.out.size; simpa using h)
  have HW3 := hide' hW3
  have HBw := hide' hBw
  have Hb13 := hide' b13
  have hz23 : w2.heap.size ≤ w3.heap.size := b3.size
  clear b12 b3 b13 hS2 hW3 hBw
  go_wp2_with fail
  refine HT3.out.mono ?_
  rintro e w4 ⟨cx, rfl, B4, hO4, hB4, b4⟩
  obtain ⟨pa', pc', ea', ec', rfl⟩ := HP.out _ _ _ hO4.read
  have bal : Below w4.heap.size w4 (w4.alloc (.cells #[.int .i64 s0, .bool s1, .slice pa' pl pc', .int .i64 s3, .slice ea' ll ec'] 31)) := (Below.refl _ _).alloc (Nat.le_refl _) _
  have HO4 := hide' (hO4.on bal)
  have HB4 : Hid (∀ b ∈ B4, w3.heap.size ≤ b ∧ b < w4.heap.size) := hB4
  have Hb14 := hide' (Below.on (Below.on Hb13.out b4) bal)
  have HW4 := hide' ((HW3.out.on b4).on bal)
  have HrX : Hid ((w4.alloc (.cells #[.int .i64 s0, .bool s1, .slice pa' pl pc', .int .i64 s3, .slice ea' ll ec'] 31)).heap[w4.heap.size]? = some (.cells #[.int .i64 s0, .bool s1, .slice pa' pl pc', .int .i64 s3, .slice ea' ll ec'] 31)) := (MapKept.heap_alloc w4 _).1
  have hz34 : w3.heap.size ≤ w4.heap.size := b4.size
  have HTB4 := hide' (HTB.out _ (Below.on (Hb.out _) Hb14.out))
  clear hO4 hB4 b4 bal HT3 Hb13 HW3 y0 y1 y2 y3 y4
  go_wp2_with fail
  refine HTB4.out.mono ?_
  rintro e w5 ⟨rfl, hK5, b5⟩
  simp only [World.size_alloc] at hK5
  have hx5 := row_on HrX.out b5
  obtain ⟨v0, v1, v2, v3, v4⟩ := five_row hx5
  have hI5 := hide' (HIm.out _ w5 _ (Below.on (Hb.out _) (Below.on Hb14.out b5)) (HO4.out.on b5).read (HTg.out _ _ _ hK5))
  have HK5 := hide' hK5
  have HO5 := hide' (HO4.out.on b5)
  have HW5 := hide' (HW4.out.on b5)
  have HrX5 := hide' hx5
  have Hb15 := hide' (Below.on Hb14.out b5)
  have hz45 : w4.heap.size + 2 ≤ w5.heap.size := by have h := (hK5.lt _ rfl).2; simp only at h; omega
  clear hK5 b5 hx5 HTB4 HO4 HW4 HrX Hb14
  go_wp2_with fail
  refine hI5.out.mono ?_
  rintro e w6 ⟨G0, rfl, Bg, hG6, hBg, b6⟩
  obtain ⟨Ga, Gn, Gc, rfl⟩ := hG6.form
  have hE6 := hide' (HEK.out _ _ _ _ _ hG6 (HW5.out.on b6))
  have HG6 := hide' hG6
  have HW6 := hide' (HW5.out.on b6)
  have HO6 := hide' (HO5.out.on b6)
  have HK6 := hide' (HK5.out.grow b6)
  have HrX6 := hide' (row_on HrX5.out b6)
  have Hb16 := hide' (Below.on Hb15.out b6)
  have HBg : Hid (∀ b ∈ Bg, w5.heap.size ≤ b ∧ b < w6.heap.size) := fun b hb => by have := hBg b hb; (try simp at this); exact this
  have hz56 : w5.heap.size ≤ w6.heap.size := by have := b6.size; (try simp at this); omega
  clear hI5 hG6 hBg b6 HW5 HO5 HK5 HrX5 Hb15 v0 v1 v2 v3 v4
  go_wp2_with fail
  refine hE6.out.mono ?_
  rintro e w7 ⟨rfl, b7⟩
  have B17 := Below.on Hb16.out b7
  have hx7 := row_on HrX6.out b7
  have hz7 : w4.heap.size < w7.heap.size := (Array.getElem?_eq_some_iff.1 hx7).1
  obtain ⟨y0, y1, y2, y3, y4⟩ := five_row (Hbox.out _ _ B17)
  obtain ⟨v0, v1, v2, v3, v4⟩ := five_row hx7
  have hO7 := HO6.out.on b7
  have HCel : Hid (∀ wy, Below w7.heap.size w7 wy → (wy.cell? ⟨w.heap.size, 0, none⟩ = some (.int .i64 s0) ∧ wy.cell? ⟨w.heap.size, 1, none⟩ = some (.bool s1) ∧ wy.cell? ⟨w.heap.size, 2, none⟩ = some (.slice pa pl pc) ∧ wy.cell? ⟨w.heap.size, 3, none⟩ = some (.int .i64 s3) ∧ wy.cell? ⟨w.heap.size, 4, none⟩ = some (.slice ea ll ec) ∧ wy.cell? ⟨w4.heap.size, 0, none⟩ = some (.int .i64 s0) ∧ wy.cell? ⟨w4.heap.size, 1, none⟩ = some (.bool s1) ∧ wy.cell? ⟨w4.heap.size, 2, none⟩ = some (.slice pa' pl pc') ∧ wy.cell? ⟨w4.heap.size, 3, none⟩ = some (.int .i64 s3) ∧ wy.cell? ⟨w4.heap.size, 4, none⟩ = some (.slice ea' ll ec'))) := by
    intro wy hy
    obtain ⟨f0, f1, f2, f3, f4⟩ := five_row (Hbox.out _ _ (Below.on B17 hy))
    obtain ⟨g0, g1, g2, g3, g4⟩ := five_row (row_on hx7 hy)
    exact ⟨f0, f1, f2, f3, f4, g0, g1, g2, g3, g4⟩
  have HTd : Hid (Calls Tryz.prog 8 #[.agg #[.int .i64 s0, .bool s1, .slice pa pl pc, .int .i64 s3, .slice ea ll ec]] w7.drew fun e w8 => ∃ z0 z1 z2 z3 z4, e = .returned (.agg #[z0, z1, z2, z3, z4]) ∧ (w8.cell? ⟨w.heap.size, 0, none⟩ = some (.int .i64 s0) ∧ w8.cell? ⟨w.heap.size, 1, none⟩ = some (.bool s1) ∧ w8.cell? ⟨w.heap.size, 2, none⟩ = some (.slice pa pl pc) ∧ w8.cell? ⟨w.heap.size, 3, none⟩ = some (.int .i64 s3) ∧ w8.cell? ⟨w.heap.size, 4, none⟩ = some (.slice ea ll ec) ∧ w8.cell? ⟨w4.heap.size, 0, none⟩ = some (.int .i64 s0) ∧ w8.cell? ⟨w4.heap.size, 1, none⟩ = some (.bool s1) ∧ w8.cell? ⟨w4.heap.size, 2, none⟩ = some (.slice pa' pl pc') ∧ w8.cell? ⟨w4.heap.size, 3, none⟩ = some (.int .i64 s3) ∧ w8.cell? ⟨w4.heap.size, 4, none⟩ = some (.slice ea' ll ec')) ∧
      Hid (Calls Tryz.prog 12 #[.agg #[.int .i64 s0, .bool s1, .slice pa' pl pc', .int .i64 s3, .slice ea' ll ec'], .agg #[z0, z1, z2, z3, z4]] w8 fun e w9 => e = .returned (.bool true) ∧ (w9.cell? ⟨w.heap.size, 0, none⟩ = some (.int .i64 s0) ∧ w9.cell? ⟨w.heap.size, 1, none⟩ = some (.bool s1) ∧ w9.cell? ⟨w.heap.size, 2, none⟩ = some (.slice pa pl pc) ∧ w9.cell? ⟨w.heap.size, 3, none⟩ = some (.int .i64 s3) ∧ w9.cell? ⟨w.heap.size, 4, none⟩ = some (.slice ea ll ec) ∧ w9.cell? ⟨w4.heap.size, 0, none⟩ = some (.int .i64 s0) ∧ w9.cell? ⟨w4.heap.size, 1, none⟩ = some (.bool s1) ∧ w9.cell? ⟨w4.heap.size, 2, none⟩ = some (.slice pa' pl pc') ∧ w9.cell? ⟨w4.heap.size, 3, none⟩ = some (.int .i64 s3) ∧ w9.cell? ⟨w4.heap.size, 4, none⟩ = some (.slice ea' ll ec')) ∧ Hid (Below w7.heap.size w7 w9))) := by
    refine (HT.out w7.drew (Below.on (Hb.out _) B17).drew).mono ?_
    rintro e w8 ⟨cz, rfl, B8, hO8, hB8, b8⟩
    obtain ⟨paz, pcz, eaz, ecz, rfl⟩ := HP.out _ _ _ hO8.read
    have b78 : Below w7.heap.size w7 w8 := Below.on (Below.refl _ w7).drew b8
    refine ⟨_, _, _, _, _, rfl, HCel.out _ b78, ?_⟩
    exact (HEq.out [.int .i64 s0, .bool s1, .slice pa' pl pc', .int .i64 s3, .slice ea' ll ec'] [.int .i64 s0, .bool s1, .slice paz pl pcz, .int .i64 s3, .slice eaz ll ecz] w8 (hO7.on b78).read hO8.read).mono fun e w9 h => ⟨h.1, HCel.out _ (Below.on b78 h.2), Below.on b78 h.2⟩
  have HB17 := hide' B17
  have HO7 := hide' hO7
  have HG7 := hide' (HG6.out.on b7)
  have HW7 := hide' (HW6.out.on b7)
  have HK7 := hide' (HK6.out.grow b7)
  have HrX7 := hide' hx7
  clear hE6 hx7 hO7 b7 B17 HO6 Hb16 HG6 HW6 HK6 HrX6
  go_wp2_with fail
  go_region_held3 (fun wx => (wx.cell? ⟨w.heap.size, 0, none⟩ = some (.int .i64 s0) ∧ wx.cell? ⟨w.heap.size, 1, none⟩ = some (.bool s1) ∧ wx.cell? ⟨w.heap.size, 2, none⟩ = some (.slice pa pl pc) ∧ wx.cell? ⟨w.heap.size, 3, none⟩ = some (.int .i64 s3) ∧ wx.cell? ⟨w.heap.size, 4, none⟩ = some (.slice ea ll ec) ∧ wx.cell? ⟨w4.heap.size, 0, none⟩ = some (.int .i64 s0) ∧ wx.cell? ⟨w4.heap.size, 1, none⟩ = some (.bool s1) ∧ wx.cell? ⟨w4.heap.size, 2, none⟩ = some (.slice pa' pl pc') ∧ wx.cell? ⟨w4.heap.size, 3, none⟩ = some (.int .i64 s3) ∧ wx.cell? ⟨w4.heap.size, 4, none⟩ = some (.slice ea' ll ec'))) (go_keep) (first
    | (go_at_call 8; refine HTd.out.mono ?_; rintro e w8 ⟨z0, z1, z2, z3, z4, rfl, ⟨i0, i1, i2, i3, i4, i5, i6, i7, i8, i9⟩, hE8⟩)
    | (go_at_call 12; refine hE8.out.mono ?_; rintro e w9 ⟨rfl, ⟨j0, j1, j2, j3, j4, j5, j6, j7, j8, j9⟩, hb9⟩))
  clear y0 y1 y2 y3 y4 v0 v1 v2 v3 v4 i0 i1 i2 i3 i4 i5 i6 i7 i8 i9 hE8 HTd HCel HEq j0 j1 j2 j3 j4 j5 j6 j7 j8 j9
  have HB19 := hide' (Below.on HB17.out hb9.out)
  have HG9 := hide' (HG7.out.on hb9.out)
  have HW9 := hide' (HW7.out.on hb9.out)
  have HO9 := hide' (HO7.out.on hb9.out)
  have HK9 := hide' (HK7.out.grow hb9.out)
  have HrX9 := hide' (row_on HrX7.out hb9.out)
  have HTB9 := hide' (HTB.out w9 (Below.on (Hb.out _) HB19.out))
  clear HG7 HW7 HO7 HK7 HrX7 HB17 hb9
  go_wp2_with fail
  refine HTB9.out.mono ?_
  rintro e w10 ⟨rfl, hK10, b10⟩
  have hE10 := HEB.out _ (some ⟨w9.heap.size, 0, none⟩) kn kn w10 (HK9.out.grow b10).seg (hK10.seg)
  replace hE10 := hide' hE10
  have HB110 := hide' (Below.on HB19.out b10)
  have Hb910 := hide' b10
  clear HTB9 hK10 b10 HB19
  go_wp2_with fail
  refine hE10.out.mono ?_
  rintro e w11 ⟨rfl, b11⟩
  have b911 := Below.on Hb910.out b11
  have hx11 := row_on HrX9.out b911
  obtain ⟨v0, v1, v2, v3, v4⟩ := five_row hx11
  have hM11 := hide' (HM.out _ _ _ (HO9.out.on b911))
  have HG11 := hide' (HG9.out.on b911)
  have HW11 := hide' (HW9.out.on b911)
  have HK11 := hide' (HK9.out.grow b911)
  have HB111 := hide' (Below.on HB110.out b11)
  clear hE10 b11 b911 hx11 Hb910 HB110 HG9 HW9 HO9 HK9 HrX9
  go_wp2_with fail
  refine hM11.out.mono ?_
  rintro e w12 ⟨⟨q1, rfl, hq1⟩, hT12⟩
  have HG12 := hide' (HG11.out.far hT12 (fun b hb hm => by have h1 := HBg.out b hb; have h2 := HB4.out b hm; omega))
  have HW12 := hide' (HW11.out.far hT12 (fun b hb hm => by have h1 := HBw.out b hb; have h2 := HB4.out b hm; omega))
  have hK12 := HK11.out.far hT12 (by intro k hk hm; have h2 := HB4.out _ hm; simp [Value.ownBlock] at hk; omega)
  have HB112 := hide' (Turned.below HB111.out hT12 (Nat.le_refl _) (fun b hb => by have h1 := HB4.out b hb; have h2 := HZ3.out; rw [World.size_alloc]; omega))
  have hM12 := hide' (HMC.out _ _ q1 _ hq1 hK12)
  clear hM11 hT12 HG11 HW11 HK11 HB111 hK12 v0 v1 v2 v3 v4
  go_wp2_with fail
  refine hM12.out.mono ?_
  rintro e w13 ⟨rfl, g13⟩
  have hq3' : ¬ ((q1 + kn : Nat) : Int) < 0 := by omega
  generalize q1 + kn = q3 at *
  have hT13 : Turned [w4.heap.size + 1] w12 w13 := Turned.of_grown g13 (fun g hg => by simp [Value.ownBlock] at hg; simp [hg])
  have hG13 := HG12.out.far hT13 (fun b hb hm => by have h1 := HBg.out b hb; simp at hm; omega)
  have hW13 := HW12.out.far hT13 (fun b hb hm => by have h1 := HBw.out b hb; simp at hm; omega)
  have HB113 := hide' (Turned.below HB112.out hT13 (Nat.le_refl _) (fun b hb => by have h2 := HZ3.out; simp at hb; rw [World.size_alloc]; omega))
  have hE13 := hide' (HEK.out _ _ _ _ _ hG13 hW13)
  have HG13 := hide' hG13
  have HW13 := hide' hW13
  clear hM12 g13 hT13 HG12 HW12 HB112 hG13 hW13
  go_wp2_with fail
  refine hE13.out.mono ?_
  rintro e w14 ⟨rfl, b14⟩
  have hM14 := hide' (HMK.out _ _ _ (HG13.out.on b14))
  have HW14 := hide' (HW13.out.on b14)
  have HB114 := hide' (Below.on HB113.out b14)
  clear hE13 b14 HG13 HW13 HB113
  go_wp2_with fail
  refine hM14.out.mono ?_
  rintro e w15 ⟨rfl, hG15, hT15⟩
  have HW15 := hide' (HW14.out.far hT15 (fun b hb hm => by have h1 := HBw.out b hb; have h2 := HBg.out b hm; omega))
  have HB115 := hide' (Turned.below HB114.out hT15 (Nat.le_refl _) (fun b hb => by have h1 := HBg.out b hb; have h2 := HZ3.out; rw [World.size_alloc]; omega))
  have hH15 := hide' (HHK.out _ _ _ hG15)
  have HG15 := hide' hG15
  clear hM14 hT15 hG15 HW14 HB114
  go_wp2_with fail
  refine hH15.out.mono ?_
  rintro e w16 ⟨rfl, b16⟩
  have HG16 := hide' (HG15.out.on b16)
  have HW16 := hide' (HW15.out.on b16)
  have HB116 := hide' (Below.on HB115.out b16)
  obtain ⟨y0, y1, y2, y3, y4⟩ := five_row (Hbox.out _ _ HB116.out)
  have HT16 := hide' (HT.out w16 (Below.on (Hb.out _) HB116.out))
  clear hH15 b16 HG15 HW15 HB115
  go_wp2_with fail
  refine HT16.out.mono ?_
  rintro e w17 ⟨c17, rfl, B17, hO17, hB17, b17⟩
  obtain ⟨pa3, pc3, ea3, ec3, rfl⟩ := HP.out _ _ _ hO17.read
  have Hb17 := hide' b17
  have HO17 := hide' hO17
  have HTB17 := hide' (HTB.out w17 (Below.on (Hb.out _) (Below.on HB116.out b17)))
  clear HT16 hO17 hB17 b17 y0 y1 y2 y3 y4
  go_wp2_with fail
  refine HTB17.out.mono ?_
  rintro e w18 ⟨rfl, hK18, b18⟩
  have hI18 := hide' (HIm.out _ w18 _ (Below.on (Hb.out _) (Below.on HB116.out (Below.on Hb17.out b18))) (HO17.out.on b18).read (HTg.out _ _ _ hK18))
  have Hb18 := hide' (Below.on Hb17.out b18)
  clear HTB17 HO17 hK18 b18 Hb17
  go_wp2_with fail
  refine hI18.out.mono ?_
  rintro e w19 ⟨H0, rfl, Bh, hH19, hBh, b19⟩
  obtain ⟨Ha, Hn, Hc, rfl⟩ := hH19.form
  have b1619 := Below.on Hb18.out b19
  have hE19 := hide' (HEK.out _ _ _ _ _ hH19 (HW16.out.on b1619))
  have HG19 := hide' (HG16.out.on b1619)
  have HB119 := hide' (Below.on HB116.out b1619)
  clear hI18 Hb18 hH19 hBh b19 b1619 HG16 HW16 HB116
  go_wp2_with fail
  refine hE19.out.mono ?_
  rintro e w20 ⟨rfl, b20⟩
  have hH20 := hide' (HHK.out _ _ _ (HG19.out.on b20))
  have HB120 := hide' (Below.on HB119.out b20)
  clear hE19 b20 HG19 HB119
  go_wp2_with fail
  refine hH20.out.mono ?_
  rintro e w21 ⟨rfl, b21⟩
  have HB121 := hide' (Below.on (Hb.out _) (Below.on HB120.out b21))
  clear hH20 b21 HB120
  go_wp2
  go_ret
  exact ⟨rfl, HB121.out⟩
end Go.Proofs.YtngjhimieacjhaaGreatDoor
