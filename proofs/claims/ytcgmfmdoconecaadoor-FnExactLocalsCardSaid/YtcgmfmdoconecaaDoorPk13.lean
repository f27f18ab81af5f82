/-
  Texts that a law leans on, one behind the other; no statement is proved here.
-/
import Derived.Test.YtcgmfmdoconecaaDoorPk3
import Derived.Test.YtcgmfmdoconecaaDoorPk10
import Derived.Test.YtcgmfmdoconecaaDoorPk11
import Derived.Deep.RegionHeld3
/-
  FnExactLocals answers true, whatever expression it is handed; it makes new memory and turns nothing old.
-/
namespace Go.Proofs.YtcgmfmdoconecaaDoor
open Go.RowKit
set_option linter.unusedVariables false
set_option linter.unusedSimpArgs false

set_option maxHeartbeats 6400000 in
set_option maxRecDepth 100000 in
theorem walk_FnExactLocals_succ (d : Nat) (c0 c1 c2 c3 c4 : Value) (v : Vl (d + 1)) (w : World) (hT : ShpT w) (hv : VSeg (fun b => b < w.heap.size) w (d + 1) (c0, c1, c2, c3, c4) v) :
    Calls Tryd.prog 4 #[.agg #[c0, c1, c2, c3, c4]] w fun e w' => e = .returned (.bool true) ∧ Below w.heap.size w w' := by
  have HTb := hide' hT
  have b0 : ∀ o : Obj, Below w.heap.size w (w.alloc o) := fun o => (Below.refl _ _).alloc (Nat.le_refl _) o
  have HV : Hid (∀ wx, Below w.heap.size w wx → VSeg (fun b => b < w.heap.size) wx (d + 1) (c0, c1, c2, c3, c4) v) := fun wx hb => VSeg.agree (agree_below hb) (d + 1) hv
  have HS : Hid (∀ wx, Below w.heap.size w wx → Calls Tryd.prog 5 #[.agg #[c0, c1, c2, c3, c4], .int .i64 1048576] wx fun e w' => e = .returned (.int .i64 (less 1048576 (szV (d + 1) v))) ∧ Below wx.heap.size wx w') := fun wx hb =>
    szValue_any (d + 1) w.heap.size (c0, c1, c2, c3, c4) v 1048576 wx (HV.out wx hb) hb.size (by omega) (by omega)
  have hbox : ∀ o wx, Below (w.alloc o).heap.size (w.alloc o) wx → wx.heap[w.heap.size]? = some o := fun o wx h => box_row h
  have Hbox := hide' hbox
  have Hb := hide' b0
  have hks := names_small 6 (by omega) (d + 1) v
  have hcv := cV_le d v
  obtain ⟨ck, cn, a2, l2, p2, a3, l3, p3, a4, l4, p4, rfl, rfl, rfl, rfl, rfl⟩ := VSeg.form (d + 1) hv
  clear b0 hbox hv hT
  by_cases hz : (1048576 : Int) < szV (d + 1) v
  · have hl : less 1048576 (szV (d + 1) v) = -1 := less_no _ _ hz
    rw [hl] at HS
    clear hl
    go_enter Tryd.func4, Tryd.ntmps4
    go_wp2_with fail
    refine (HS.out _ (Hb.out _)).mono ?_
    rintro e w1 ⟨rfl, b1⟩
    have B1 := Below.on (Hb.out _) b1
    clear b1
    go_wp2
    go_ret
    exact ⟨rfl, B1⟩
  · have hl : less 1048576 (szV (d + 1) v) = 1048576 - szV (d + 1) v := less_yes _ _ hz
    rw [hl] at HS
    have hz0 : 0 ≤ (1048576 : Int) - szV (d + 1) v := by omega
    have hz1 : (1048576 : Int) - szV (d + 1) v ≤ 1048576 := by omega
    have HZ : Hid (szV (d + 1) v ≤ 1048576) := by show szV (d + 1) v ≤ 1048576; omega
    have HT : Hid (∀ wx, Below w.heap.size w wx → Calls Tryd.prog 7 #[.agg #[.int .i64 ck, .int .i64 cn, .slice a2 l2 p2, .slice a3 l3 p3, .slice a4 l4 p4]] wx fun e w' => ∃ c0 c1 c2 c3 c4, e = .returned (.agg #[c0, c1, c2, c3, c4]) ∧ ∃ B, VOwn w' (d + 1) (c0, c1, c2, c3, c4) v B ∧ (∀ b ∈ B, wx.heap.size ≤ b ∧ b < w'.heap.size) ∧ Below wx.heap.size wx w') := fun wx hb =>
      toValue_any (d + 1) w.heap.size (.int .i64 ck, .int .i64 cn, .slice a2 l2 p2, .slice a3 l3 p3, .slice a4 l4 p4) v wx (HV.out wx hb) hb.size HZ.out
    have HEq : Hid (∀ (N : Nat) (c c' : Value × Value × Value × Value × Value) (wx : World), VSeg (fun b => b < N) wx (d + 1) c v → VSeg (fun b => b < N) wx (d + 1) c' v → N ≤ wx.heap.size → Calls Tryd.prog 10 #[.agg #[c.1, c.2.1, c.2.2.1, c.2.2.2.1, c.2.2.2.2], .agg #[c'.1, c'.2.1, c'.2.2.1, c'.2.2.2.1, c'.2.2.2.2]] wx fun e w' => e = .returned (.bool true) ∧ Below wx.heap.size wx w') := fun N c c' wx h h' hN => eqValue_any (d + 1) N c c' v wx h h' hN HZ.out
    have hkz : szK (namesE 6 (d + 1) v) ≤ 1048576 := by have := HZ.out; omega
    have hcm : cV d v ≤ 2097152 := by have := HZ.out; omega
    have hsum : ((namesE 6 (d + 1) v).map List.length).sum ≤ 1048576 := by have h5 : szK (namesE 6 (d + 1) v) = (namesE 6 (d + 1) v).length + ((namesE 6 (d + 1) v).map List.length).sum := rfl; omega
    have HM : Hid (∀ x0 x1 x2 x3 x4 B wx, VOwn wx (d + 1) (x0, x1, x2, x3, x4) v B → Calls Tryd.prog 11 #[.agg #[x0, x1, x2, x3, x4], .int .i64 1] wx fun e w' => e = .returned (.int .i64 ((1 + cV d v : Nat) : Int)) ∧ Turned B wx w') := fun x0 x1 x2 x3 x4 B wx h => (markValue_any d x0 x1 x2 x3 x4 v B 1 wx h HZ.out (by omega)).mono fun e w' h => ⟨h.1, h.2.2⟩
    have HSp : Hid (∀ u0 u1 u2 u3 u4 B wx, VOwn wx (d + 1) (u0, u1, u2, u3, u4) v B → Calls Tryd.prog 14 #[.agg #[u0, u1, u2, u3, u4]] wx (UEnd 6 (d + 1) v wx)) := fun u0 u1 u2 u3 u4 B wx h => spec_Locals_any (d + 1) wx.heap.size u0 u1 u2 u3 u4 v wx (h.below (Below.refl _ _)) (Nat.le_refl _)
    have HIm : Hid (∀ u0 u1 u2 u3 u4 B wx wy, VOwn wx (d + 1) (u0, u1, u2, u3, u4) v B → Below w.heap.size w wx → Below wx.heap.size wx wy → Calls Tryd.prog 15 #[.agg #[u0, u1, u2, u3, u4]] wy (UEnd 6 (d + 1) v wy)) := fun u0 u1 u2 u3 u4 B wx wy h hw hb => impl_Locals_any (d + 1) wx.heap.size u0 u1 u2 u3 u4 v wy (h.below hb) hb.size (HTb.out.below (Below.on hw hb)) (by have := HTb.out.lt; have := hw.size; omega)
    have HEK : Hid (∀ x y B B' wx, KOwn wx x (namesE 6 (d + 1) v) B → KOwn wx y (namesE 6 (d + 1) v) B' → Calls Tryd.prog 9 #[x, y] wx fun e w' => e = .returned (.bool true) ∧ Below wx.heap.size wx w') := fun x y B B' wx h h' => eqByteSS_same wx.heap.size x y _ wx h.read h'.read (Nat.le_refl _) hkz
    have HMK : Hid (∀ x B wx, KOwn wx x (namesE 6 (d + 1) v) B → Calls Tryd.prog 12 #[x, .int .i64 1] wx fun e w' => e = .returned (.int .i64 ((1 + ((namesE 6 (d + 1) v).map List.length).sum : Nat) : Int)) ∧ KOwn w' x (mkKs (namesE 6 (d + 1) v) 1) B ∧ Turned B wx w') := fun x B wx h => markByteSS_any x _ B 1 wx h (by omega) (by omega)
    have HHK : Hid (∀ x B wx, KOwn wx x (mkKs (namesE 6 (d + 1) v) 1) B → Calls Tryd.prog 13 #[x, .int .i64 1] wx fun e w' => e = .returned (.int .i64 ((1 + ((namesE 6 (d + 1) v).map List.length).sum : Nat) : Int)) ∧ Below wx.heap.size wx w') := fun x B wx h => heldByteSS_any wx.heap.size x _ 1 wx h.read (Nat.le_refl _) (by omega) (by omega)
    generalize hsz' : szV (d + 1) v = sz at *
    generalize hcn : cV d v = cn1 at *
    generalize hsm : ((namesE 6 (d + 1) v).map List.length).sum = sm at *
    clear hl hz HV hks hcv hkz hsz' hcn hsm
    go_enter Tryd.func4, Tryd.ntmps4
    go_wp2_with fail
    refine (HS.out _ (Hb.out _)).mono ?_
    rintro e w1 ⟨rfl, b1⟩
    have B1 := Below.on (Hb.out _) b1
    obtain ⟨y0, y1, y2, y3, y4, _⟩ := row5 (Hbox.out _ _ b1)
    have HT1 := hide' (HT.out w1 B1)
    have Hb1 := hide' b1
    clear b1 B1 HS
    go_wp2_with fail
    refine HT1.out.mono ?_
    rintro e w2 ⟨u0, u1, u2, u3, u4, rfl, B, hO2, hB2, b2⟩
    have hS2 := hide' (HSp.out _ _ _ _ _ _ _ hO2)
    have b12 := hide' (Below.on Hb1.out b2)
    clear HT1 Hb1 hO2 hB2 b2 y0 y1 y2 y3 y4
    go_wp2_with fail
    refine hS2.out.mono ?_
    rintro e w3 ⟨W0, rfl, Bw, hW3, hBw, b3⟩
    have hWs : ∃ a n c, W0 = .slice a n c := by rcases hW3 with ⟨rfl, _⟩ | ⟨g, cap, cur, Bs, rfl, _⟩ <;> exact ⟨_, _, _, rfl⟩
    obtain ⟨Wa, Wn, Wc, rfl⟩ := hWs
    have b13 := Below.on b12.out b3
    obtain ⟨y0, y1, y2, y3, y4, _⟩ := row5 (Hbox.out _ _ b13)
    have HT3 := hide' (HT.out w3 (Below.on (Hb.out _) b13))
    have HZ3 : Hid ((w.alloc (.cells #[.int .i64 ck, .int .i64 cn, .slice a2 l2 p2, .slice a3 l3 p3, .slice a4 l4 p4] 26)).heap.size ≤ w3.heap.size) := b13.size
    have HW3 := hide' hW3
    have HBw := hide' hBw
    have Hb13 := hide' b13
    clear b12 b3 b13 hS2 hW3 hBw
    go_wp2_with fail
    refine HT3.out.mono ?_
    rintro e w4 ⟨x0, x1, x2, x3, x4, rfl, B4, hO4, hB4, b4⟩
    obtain ⟨xk, xn, s2, m2, q2, s3, m3, q3, s4, m4, q4, rfl, rfl, rfl, rfl, rfl⟩ := VOwn.form (d + 1) hO4
    have bal : Below w4.heap.size w4 (w4.alloc (.cells #[.int .i64 xk, .int .i64 xn, .slice s2 m2 q2, .slice s3 m3 q3, .slice s4 m4 q4] 31)) := (Below.refl _ _).alloc (Nat.le_refl _) _
    have hI4 := hide' (HIm.out _ _ _ _ _ _ _ _ hO4 (Below.on (Below.on (Hb.out _) Hb13.out) b4) bal)
    have HO4 := hide' (hO4.on bal)
    have HB4 := hide' hB4
    have Hb14 := hide' (Below.on (Below.on Hb13.out b4) bal)
    have HW4 := hide' ((HW3.out.on b4).on bal)
    have hz4 : w3.heap.size ≤ w4.heap.size := b4.size
    clear hO4 hB4 b4 bal HT3 Hb13 HW3 y0 y1 y2 y3 y4
    go_wp2_with fail
    refine hI4.out.mono ?_
    rintro e w5 ⟨G0, rfl, Bg, hG5, hBg, b5⟩
    have hGs : ∃ a n c, G0 = .slice a n c := by rcases hG5 with ⟨rfl, _⟩ | ⟨g, cap, cur, Bs, rfl, _⟩ <;> exact ⟨_, _, _, rfl⟩
    obtain ⟨Ga, Gn, Gc, rfl⟩ := hGs
    have hx5 : w5.heap[w4.heap.size]? = some (.cells #[.int .i64 xk, .int .i64 xn, .slice s2 m2 q2, .slice s3 m3 q3, .slice s4 m4 q4] 31) := box_row b5
    have hW5 := HW4.out.on b5
    have HO5 := hide' (HO4.out.on b5)
    have Hb15 := hide' (Below.on Hb14.out b5)
    have hEK := hide' (HEK.out _ _ _ _ _ hG5 hW5)
    have hG5' := hide' hG5
    have hW5' := hide' hW5
    have Hx5 := hide' hx5
    have HBg : Hid (∀ b ∈ Bg, w4.heap.size + 1 ≤ b ∧ b < w5.heap.size) := fun b hb => by have := hBg b hb; simp at this; exact this
    clear hG5 hW5 hx5 hBg b5 hI4 HO4 Hb14 HW4
    go_wp2_with fail
    refine hEK.out.mono ?_
    rintro e w6 ⟨rfl, b6⟩
    have B16 := Below.on Hb15.out b6
    have hx6 := (b6.block w4.heap.size ((Array.getElem?_eq_some_iff.1 Hx5.out).1)).trans Hx5.out
    have hz6 : w4.heap.size < w6.heap.size := (Array.getElem?_eq_some_iff.1 hx6).1
    obtain ⟨y0, y1, y2, y3, y4, _⟩ := row5 (Hbox.out _ _ B16)
    obtain ⟨v0, v1, v2, v3, v4, _⟩ := row5 hx6
    have hO6 := HO5.out.on b6
    have HCel : Hid (∀ wy, Below w6.heap.size w6 wy → (wy.cell? ⟨w.heap.size, 0, none⟩ = some (.int .i64 ck) ∧ wy.cell? ⟨w.heap.size, 1, none⟩ = some (.int .i64 cn) ∧ wy.cell? ⟨w.heap.size, 2, none⟩ = some (.slice a2 l2 p2) ∧ wy.cell? ⟨w.heap.size, 3, none⟩ = some (.slice a3 l3 p3) ∧ wy.cell? ⟨w.heap.size, 4, none⟩ = some (.slice a4 l4 p4) ∧ wy.cell? ⟨w4.heap.size, 0, none⟩ = some (.int .i64 xk) ∧ wy.cell? ⟨w4.heap.size, 1, none⟩ = some (.int .i64 xn) ∧ wy.cell? ⟨w4.heap.size, 2, none⟩ = some (.slice s2 m2 q2) ∧ wy.cell? ⟨w4.heap.size, 3, none⟩ = some (.slice s3 m3 q3) ∧ wy.cell? ⟨w4.heap.size, 4, none⟩ = some (.slice s4 m4 q4))) := by
      intro wy hy
      obtain ⟨f0, f1, f2, f3, f4, _⟩ := row5 (Hbox.out _ _ (Below.on B16 hy))
      obtain ⟨g0, g1, g2, g3, g4, _⟩ := row5 ((hy.block w4.heap.size hz6).trans hx6)
      exact ⟨f0, f1, f2, f3, f4, g0, g1, g2, g3, g4⟩
    have HTd : Hid (Calls Tryd.prog 7 #[.agg #[.int .i64 ck, .int .i64 cn, .slice a2 l2 p2, .slice a3 l3 p3, .slice a4 l4 p4]] w6.drew fun e w7 => ∃ z0 z1 z2 z3 z4, e = .returned (.agg #[z0, z1, z2, z3, z4]) ∧
        (w7.cell? ⟨w.heap.size, 0, none⟩ = some (.int .i64 ck) ∧ w7.cell? ⟨w.heap.size, 1, none⟩ = some (.int .i64 cn) ∧ w7.cell? ⟨w.heap.size, 2, none⟩ = some (.slice a2 l2 p2) ∧ w7.cell? ⟨w.heap.size, 3, none⟩ = some (.slice a3 l3 p3) ∧ w7.cell? ⟨w.heap.size, 4, none⟩ = some (.slice a4 l4 p4) ∧ w7.cell? ⟨w4.heap.size, 0, none⟩ = some (.int .i64 xk) ∧ w7.cell? ⟨w4.heap.size, 1, none⟩ = some (.int .i64 xn) ∧ w7.cell? ⟨w4.heap.size, 2, none⟩ = some (.slice s2 m2 q2) ∧ w7.cell? ⟨w4.heap.size, 3, none⟩ = some (.slice s3 m3 q3) ∧ w7.cell? ⟨w4.heap.size, 4, none⟩ = some (.slice s4 m4 q4)) ∧
        Hid (Calls Tryd.prog 10 #[.agg #[.int .i64 xk, .int .i64 xn, .slice s2 m2 q2, .slice s3 m3 q3, .slice s4 m4 q4], .agg #[z0, z1, z2, z3, z4]] w7 fun e w8 => e = .returned (.bool true) ∧ (w8.cell? ⟨w.heap.size, 0, none⟩ = some (.int .i64 ck) ∧ w8.cell? ⟨w.heap.size, 1, none⟩ = some (.int .i64 cn) ∧ w8.cell? ⟨w.heap.size, 2, none⟩ = some (.slice a2 l2 p2) ∧ w8.cell? ⟨w.heap.size, 3, none⟩ = some (.slice a3 l3 p3) ∧ w8.cell? ⟨w.heap.size, 4, none⟩ = some (.slice a4 l4 p4) ∧ w8.cell? ⟨w4.heap.size, 0, none⟩ = some (.int .i64 xk) ∧ w8.cell? ⟨w4.heap.size, 1, none⟩ = some (.int .i64 xn) ∧ w8.cell? ⟨w4.heap.size, 2, none⟩ = some (.slice s2 m2 q2) ∧ w8.cell? ⟨w4.heap.size, 3, none⟩ = some (.slice s3 m3 q3) ∧ w8.cell? ⟨w4.heap.size, 4, none⟩ = some (.slice s4 m4 q4)) ∧ Hid (Below w6.heap.size w6 w8))) := by
      refine (HT.out w6.drew (Below.on (Hb.out _) B16).drew).mono ?_
      rintro e w7 ⟨z0, z1, z2, z3, z4, rfl, B7, hO7, hB7, b7⟩
      have b67 : Below w6.heap.size w6 w7 := Below.on (Below.refl _ w6).drew b7
      refine ⟨z0, z1, z2, z3, z4, rfl, HCel.out _ b67, ?_⟩
      exact (HEq.out w7.heap.size (.int .i64 xk, .int .i64 xn, .slice s2 m2 q2, .slice s3 m3 q3, .slice s4 m4 q4) (z0, z1, z2, z3, z4) w7 (VSeg.mono (fun b hb => Nat.lt_of_lt_of_le hb b67.size) (d + 1) (hO6.below b67)) (hO7.below (Below.refl _ _)) (Nat.le_refl _)).mono fun e w8 h => ⟨h.1, HCel.out _ (Below.on b67 h.2), Below.on b67 h.2⟩
    have HB16 := hide' B16
    have HO6 := hide' hO6
    have HG6 := hide' (hG5'.out.on b6)
    have HW6 := hide' (hW5'.out.on b6)
    have hz56 : w5.heap.size ≤ w6.heap.size := b6.size
    clear hEK hx6 hO6 b6 B16 HO5 Hb15 hG5' hW5' Hx5
    go_wp2_with fail
    go_region_held3 (fun wx => wx.cell? ⟨w.heap.size, 0, none⟩ = some (.int .i64 ck) ∧ wx.cell? ⟨w.heap.size, 1, none⟩ = some (.int .i64 cn) ∧ wx.cell? ⟨w.heap.size, 2, none⟩ = some (.slice a2 l2 p2) ∧ wx.cell? ⟨w.heap.size, 3, none⟩ = some (.slice a3 l3 p3) ∧ wx.cell? ⟨w.heap.size, 4, none⟩ = some (.slice a4 l4 p4) ∧ wx.cell? ⟨w4.heap.size, 0, none⟩ = some (.int .i64 xk) ∧ wx.cell? ⟨w4.heap.size, 1, none⟩ = some (.int .i64 xn) ∧ wx.cell? ⟨w4.heap.size, 2, none⟩ = some (.slice s2 m2 q2) ∧ wx.cell? ⟨w4.heap.size, 3, none⟩ = some (.slice s3 m3 q3) ∧ wx.cell? ⟨w4.heap.size, 4, none⟩ = some (.slice s4 m4 q4)) (go_keep) (first
      | (go_at_call 7; refine HTd.out.mono ?_; rintro e w7 ⟨z0, z1, z2, z3, z4, rfl, ⟨i0, i1, i2, i3, i4, i5, i6, i7, i8, i9⟩, hE7⟩)
      | (go_at_call 10; refine hE7.out.mono ?_; rintro e w8 ⟨rfl, ⟨j0, j1, j2, j3, j4, j5, j6, j7, j8, j9⟩, hb8⟩))
    clear y0 y1 y2 y3 y4 v0 v1 v2 v3 v4 i0 i1 i2 i3 i4 i5 i6 i7 i8 i9 hE7 HTd HCel HEq
    have hM8 := hide' (HM.out _ _ _ _ _ _ _ (HO6.out.on hb8.out))
    have HG8 := hide' (HG6.out.on hb8.out)
    have HW8 := hide' (HW6.out.on hb8.out)
    have HB18 := hide' (Below.on HB16.out hb8.out)
    clear HO6 HG6 HW6 HB16
    go_wp2_with fail
    refine hM8.out.mono ?_
    rintro e w9 ⟨rfl, hT9⟩
    have hG9 := HG8.out.far hT9 (fun b hb hb' => by have h1 := HBg.out b hb; have h2 := HB4.out b hb'; omega)
    have hW9 := HW8.out.far hT9 (fun b hb hb' => by have h1 := HBw.out b hb; have h2 := HB4.out b hb'; omega)
    have HB19 := hide' (Turned.below HB18.out hT9 (Nat.le_refl _) (fun b hb => by have h2 := HB4.out b hb; have h3 := HZ3.out; omega))
    have hE9 := hide' (HEK.out _ _ _ _ _ hG9 hW9)
    have HG9 := hide' hG9
    have HW9 := hide' hW9
    clear hT9 hG9 hW9 HG8 HW8 HB18 hM8 j0 j1 j2 j3 j4 j5 j6 j7 j8 j9
    go_wp2_with fail
    refine hE9.out.mono ?_
    rintro e w10 ⟨rfl, b10⟩
    have hM10 := hide' (HMK.out _ _ _ (HG9.out.on b10))
    have HW10 := hide' (HW9.out.on b10)
    have HB110 := hide' (Below.on HB19.out b10)
    clear b10 hE9 HG9 HW9 HB19
    go_wp2_with fail
    refine hM10.out.mono ?_
    rintro e w11 ⟨rfl, hG11, hT11⟩
    have HW11 := hide' (HW10.out.far hT11 (fun b hb hb' => by have h1 := HBw.out b hb; have h2 := HBg.out b hb'; omega))
    have HB111 := hide' (Turned.below HB110.out hT11 (Nat.le_refl _) (fun b hb => by have h2 := HBg.out b hb; have h3 := HZ3.out; omega))
    have hH11 := hide' (HHK.out _ _ _ hG11)
    have HG11 := hide' hG11
    clear hG11 hT11 hM10 HW10 HB110
    go_wp2_with fail
    refine hH11.out.mono ?_
    rintro e w12 ⟨rfl, b12⟩
    have B112 := Below.on HB111.out b12
    obtain ⟨y0, y1, y2, y3, y4, _⟩ := row5 (Hbox.out _ _ B112)
    have HT12 := hide' (HT.out w12 (Below.on (Hb.out _) B112))
    have HG12 := hide' (HG11.out.on b12)
    have HW12 := hide' (HW11.out.on b12)
    have HB112 := hide' B112
    clear b12 B112 hH11 HG11 HW11 HB111
    go_wp2_with fail
    refine HT12.out.mono ?_
    rintro e w13 ⟨z0, z1, z2, z3, z4, rfl, B13, hO13, hB13, b13⟩
    have hI13 := hide' (HIm.out _ _ _ _ _ _ _ _ hO13 (Below.on (Below.on (Hb.out _) HB112.out) b13) (Below.refl _ _))
    have HG13 := hide' (HG12.out.on b13)
    have HW13 := hide' (HW12.out.on b13)
    have HB113 := hide' (Below.on HB112.out b13)
    clear hO13 hB13 b13 HT12 HG12 HW12 HB112 y0 y1 y2 y3 y4
    go_wp2_with fail
    refine hI13.out.mono ?_
    rintro e w14 ⟨H0, rfl, Bh, hH14, hBh, b14⟩
    have hHs : ∃ a n c, H0 = .slice a n c := by rcases hH14 with ⟨rfl, _⟩ | ⟨g, cap, cur, Bs, rfl, _⟩ <;> exact ⟨_, _, _, rfl⟩
    obtain ⟨Ha, Hn, Hc, rfl⟩ := hHs
    have hE14 := hide' (HEK.out _ _ _ _ _ hH14 (HW13.out.on b14))
    have HG14 := hide' (HG13.out.on b14)
    have HB114 := hide' (Below.on HB113.out b14)
    clear hH14 hBh b14 hI13 HG13 HW13 HB113
    go_wp2_with fail
    refine hE14.out.mono ?_
    rintro e w15 ⟨rfl, b15⟩
    have hH15 := hide' (HHK.out _ _ _ (HG14.out.on b15))
    have HB115 := hide' (Below.on HB114.out b15)
    clear b15 hE14 HG14 HB114
    go_wp2_with fail
    refine hH15.out.mono ?_
    rintro e w16 ⟨rfl, b16⟩
    have B116 := hide' (Below.on (Hb.out _) (Below.on HB115.out b16))
    clear b16 hH15 HB115
    go_wp2
    go_ret
    exact ⟨rfl, B116.out⟩

theorem walk_FnExactLocals (d : Nat) (c0 c1 c2 c3 c4 : Value) (v : Vl d) (w : World) (hT : ShpT w) (hv : VSeg (fun b => b < w.heap.size) w d (c0, c1, c2, c3, c4) v) :
    Calls Tryd.prog 4 #[.agg #[c0, c1, c2, c3, c4]] w fun e w' => e = .returned (.bool true) ∧ Below w.heap.size w w' := by
  cases d with
  | zero => exact hv.elim
  | succ d => exact walk_FnExactLocals_succ d c0 c1 c2 c3 c4 v w hT hv
end Go.Proofs.YtcgmfmdoconecaaDoor
