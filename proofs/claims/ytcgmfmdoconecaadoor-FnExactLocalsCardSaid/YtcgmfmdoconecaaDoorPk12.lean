/-
  Texts that a law leans on, one behind the other; no statement is proved here.
-/
import Derived.Test.YtcgmfmdoconecaaDoorPk3
import Derived.Test.YtcgmfmdoconecaaDoorPk10
import Derived.Test.YtcgmfmdoconecaaDoorPk11
import Derived.Deep.RegionHeld3
import Derived.Test.YtcgmfmdoconecaaDoorRows
import Derived.Test.YtcgmfmdoconecaaDoorPk6
import Derived.Lib.LaidTab
import Derived.MakeChecks
import Derived.Test.YtcgmfmdoconecaaDoorPk0
import Derived.WalkKit
import Derived.ProofKit
import Derived.ChangeSlices
import Derived.ChangeArms
/-
  FnExactUses answers true, whatever expression it is handed; it makes new memory and turns nothing old.
-/
namespace Go.Proofs.YtcgmfmdoconecaaDoor
open Go.RowKit
set_option linter.unusedVariables false
set_option linter.unusedSimpArgs false

set_option maxHeartbeats 6400000 in
set_option maxRecDepth 100000 in
theorem walk_FnExactUses_succ (d : Nat) (c0 c1 c2 c3 c4 : Value) (v : Vl (d + 1)) (w : World) (hT : ShpT w) (hv : VSeg (fun b => b < w.heap.size) w (d + 1) (c0, c1, c2, c3, c4) v) :
    Calls Tryd.prog 3 #[.agg #[c0, c1, c2, c3, c4]] w fun e w' => e = .returned (.bool true) ∧ Below w.heap.size w w' := by
  have HTb := hide' hT
  have b0 : ∀ o : Obj, Below w.heap.size w (w.alloc o) := fun o => (Below.refl _ _).alloc (Nat.le_refl _) o
  have HV : Hid (∀ wx, Below w.heap.size w wx → VSeg (fun b => b < w.heap.size) wx (d + 1) (c0, c1, c2, c3, c4) v) := fun wx hb => VSeg.agree (agree_below hb) (d + 1) hv
  have HS : Hid (∀ wx, Below w.heap.size w wx → Calls Tryd.prog 5 #[.agg #[c0, c1, c2, c3, c4], .int .i64 1048576] wx fun e w' => e = .returned (.int .i64 (less 1048576 (szV (d + 1) v))) ∧ Below wx.heap.size wx w') := fun wx hb =>
    szValue_any (d + 1) w.heap.size (c0, c1, c2, c3, c4) v 1048576 wx (HV.out wx hb) hb.size (by omega) (by omega)
  have hbox : ∀ o wx, Below (w.alloc o).heap.size (w.alloc o) wx → wx.heap[w.heap.size]? = some o := fun o wx h => box_row h
  have Hbox := hide' hbox
  have Hb := hide' b0
  have hks := names_small 7 (by omega) (d + 1) v
  have hcv := cV_le d v
  obtain ⟨ck, cn, a2, l2, p2, a3, l3, p3, a4, l4, p4, rfl, rfl, rfl, rfl, rfl⟩ := VSeg.form (d + 1) hv
  clear b0 hbox hv hT
  by_cases hz : (1048576 : Int) < szV (d + 1) v
  · have hl : less 1048576 (szV (d + 1) v) = -1 := less_no _ _ hz
    rw [hl] at HS
    clear hl
    go_enter Tryd.func3, Tryd.ntmps3
    go_wp2_with fail
    refine (HS.out _ (Hb.out _)).mono ?_
    rintro e w1 ⟨rfl, b1⟩
    have B1 := Below.on (Hb.out _) b1
    clear b1
    go_wp2
    go_ret
    exact ⟨rfl, B1⟩
  · have hl : less 1048576 (szV (d + 1) v) = 1048576 - szV (d + 1) v := less_yes _ _ hz
    rw [hl] at HS
    have hz0 : 0 ≤ (1048576 : Int) - szV (d + 1) v := by omega
    have hz1 : (1048576 : Int) - szV (d + 1) v ≤ 1048576 := by omega
    have HZ : Hid (szV (d + 1) v ≤ 1048576) := by show szV (d + 1) v ≤ 1048576; omega
    have HT : Hid (∀ wx, Below w.heap.size w wx → Calls Tryd.prog 7 #[.agg #[.int .i64 ck, .int .i64 cn, .slice a2 l2 p2, .slice a3 l3 p3, .slice a4 l4 p4]] wx fun e w' => ∃ c0 c1 c2 c3 c4, e = .returned (.agg #[c0, c1, c2, c3, c4]) ∧ ∃ B, VOwn w' (d + 1) (c0, c1, c2, c3, c4) v B ∧ (∀ b ∈ B, wx.heap.size ≤ b ∧ b < w'.heap.size) ∧ Below wx.heap.size wx w') := fun wx hb =>
      toValue_any (d + 1) w.heap.size (.int .i64 ck, .int .i64 cn, .slice a2 l2 p2, .slice a3 l3 p3, .slice a4 l4 p4) v wx (HV.out wx hb) hb.size HZ.out
    have HEq : Hid (∀ (N : Nat) (c c' : Value × Value × Value × Value × Value) (wx : World), VSeg (fun b => b < N) wx (d + 1) c v → VSeg (fun b => b < N) wx (d + 1) c' v → N ≤ wx.heap.size → Calls Tryd.prog 10 #[.agg #[c.1, c.2.1, c.2.2.1, c.2.2.2.1, c.2.2.2.2], .agg #[c'.1, c'.2.1, c'.2.2.1, c'.2.2.2.1, c'.2.2.2.2]] wx fun e w' => e = .returned (.bool true) ∧ Below wx.heap.size wx w') := fun N c c' wx h h' hN => eqValue_any (d + 1) N c c' v wx h h' hN HZ.out
    have hkz : szK (namesE 7 (d + 1) v) ≤ 1048576 := by have := HZ.out; omega
    have hcm : cV d v ≤ 2097152 := by have := HZ.out; omega
    have hsum : ((namesE 7 (d + 1) v).map List.length).sum ≤ 1048576 := by have h5 : szK (namesE 7 (d + 1) v) = (namesE 7 (d + 1) v).length + ((namesE 7 (d + 1) v).map List.length).sum := rfl; omega
    have HM : Hid (∀ x0 x1 x2 x3 x4 B wx, VOwn wx (d + 1) (x0, x1, x2, x3, x4) v B → Calls Tryd.prog 11 #[.agg #[x0, x1, x2, x3, x4], .int .i64 1] wx fun e w' => e = .returned (.int .i64 ((1 + cV d v : Nat) : Int)) ∧ Turned B wx w') := fun x0 x1 x2 x3 x4 B wx h => (markValue_any d x0 x1 x2 x3 x4 v B 1 wx h HZ.out (by omega)).mono fun e w' h => ⟨h.1, h.2.2⟩
    have HSp : Hid (∀ u0 u1 u2 u3 u4 B wx, VOwn wx (d + 1) (u0, u1, u2, u3, u4) v B → Calls Tryd.prog 6 #[.agg #[u0, u1, u2, u3, u4]] wx (UEnd 7 (d + 1) v wx)) := fun u0 u1 u2 u3 u4 B wx h => spec_Uses_any (d + 1) wx.heap.size u0 u1 u2 u3 u4 v wx (h.below (Below.refl _ _)) (Nat.le_refl _)
    have HIm : Hid (∀ u0 u1 u2 u3 u4 B wx wy, VOwn wx (d + 1) (u0, u1, u2, u3, u4) v B → Below w.heap.size w wx → Below wx.heap.size wx wy → Calls Tryd.prog 8 #[.agg #[u0, u1, u2, u3, u4]] wy (UEnd 7 (d + 1) v wy)) := fun u0 u1 u2 u3 u4 B wx wy h hw hb => impl_Uses_any (d + 1) wx.heap.size u0 u1 u2 u3 u4 v wy (h.below hb) hb.size (HTb.out.below (Below.on hw hb)) (by have := HTb.out.lt; have := hw.size; omega)
    have HEK : Hid (∀ x y B B' wx, KOwn wx x (namesE 7 (d + 1) v) B → KOwn wx y (namesE 7 (d + 1) v) B' → Calls Tryd.prog 9 #[x, y] wx fun e w' => e = .returned (.bool true) ∧ Below wx.heap.size wx w') := fun x y B B' wx h h' => eqByteSS_same wx.heap.size x y _ wx h.read h'.read (Nat.le_refl _) hkz
    have HMK : Hid (∀ x B wx, KOwn wx x (namesE 7 (d + 1) v) B → Calls Tryd.prog 12 #[x, .int .i64 1] wx fun e w' => e = .returned (.int .i64 ((1 + ((namesE 7 (d + 1) v).map List.length).sum : Nat) : Int)) ∧ KOwn w' x (mkKs (namesE 7 (d + 1) v) 1) B ∧ Turned B wx w') := fun x B wx h => markByteSS_any x _ B 1 wx h (by omega) (by omega)
    have HHK : Hid (∀ x B wx, KOwn wx x (mkKs (namesE 7 (d + 1) v) 1) B → Calls Tryd.prog 13 #[x, .int .i64 1] wx fun e w' => e = .returned (.int .i64 ((1 + ((namesE 7 (d + 1) v).map List.length).sum : Nat) : Int)) ∧ Below wx.heap.size wx w') := fun x B wx h => heldByteSS_any wx.heap.size x _ 1 wx h.read (Nat.le_refl _) (by omega) (by omega)
    generalize hsz' : szV (d + 1) v = sz at *
    generalize hcn : cV d v = cn1 at *
    generalize hsm : ((namesE 7 (d + 1) v).map List.length).sum = sm at *
    clear hl hz HV hks hcv hkz hsz' hcn hsm
    go_enter Tryd.func3, Tryd.ntmps3
    go_wp2_with fail
    refine (HS.out _ (Hb.out _)).mono ?_
    rintro e w1 ⟨rfl, b1⟩
    have B1 := Below.on (Hb.out _) b1
    obtain ⟨y0, y1, y2, y3, y4, _⟩ := row5 (Hbox.out _ _ b1)
    have HT1 := hide' (HT.out w1 B1)
    have Hb1 := hide' b1
    clear b1 B1 HS
    go_wp2_with fail
    refine HT1.out.mono ?_
    rintro e w2 ⟨u0, u1, u2, u3, u4, rfl, B, hO2, hB2, b2⟩
    have hS2 := hide' (HSp.out _ _ _ _ _ _ _ hO2)
    have b12 := hide' (Below.on Hb1.out b2)
    clear HT1 Hb1 hO2 hB2 b2 y0 y1 y2 y3 y4
    go_wp2_with fail
    refine hS2.out.mono ?_
    rintro e w3 ⟨W0, rfl, Bw, hW3, hBw, b3⟩
    have hWs : ∃ a n c, W0 = .slice a n c := by rcases hW3 with ⟨rfl, _⟩ | ⟨g, cap, cur, Bs, rfl, _⟩ <;> exact ⟨_, _, _, rfl⟩
    obtain ⟨Wa, Wn, Wc, rfl⟩ := hWs
    have b13 := Below.on b12.out b3
    obtain ⟨y0, y1, y2, y3, y4, _⟩ := row5 (Hbox.out _ _ b13)
    have HT3 := hide' (HT.out w3 (Below.on (Hb.out _) b13))
    have HZ3 : Hid ((w.alloc (.cells #[.int .i64 ck, .int .i64 cn, .slice a2 l2 p2, .slice a3 l3 p3, .slice a4 l4 p4] 26)).heap.size ≤ w3.heap.size) := b13.size
    have HW3 := hide' hW3
    have HBw := hide' hBw
    have Hb13 := hide' b13
    clear b12 b3 b13 hS2 hW3 hBw
    go_wp2_with fail
    refine HT3.out.mono ?_
    rintro e w4 ⟨x0, x1, x2, x3, x4, rfl, B4, hO4, hB4, b4⟩
    obtain ⟨xk, xn, s2, m2, q2, s3, m3, q3, s4, m4, q4, rfl, rfl, rfl, rfl, rfl⟩ := VOwn.form (d + 1) hO4
    have bal : Below w4.heap.size w4 (w4.alloc (.cells #[.int .i64 xk, .int .i64 xn, .slice s2 m2 q2, .slice s3 m3 q3, .slice s4 m4 q4] 31)) := (Below.refl _ _).alloc (Nat.le_refl _) _
    have hI4 := hide' (HIm.out _ _ _ _ _ _ _ _ hO4 (Below.on (Below.on (Hb.out _) Hb13.out) b4) bal)
    have HO4 := hide' (hO4.on bal)
    have HB4 := hide' hB4
    have Hb14 := hide' (Below.on (Below.on Hb13.out b4) bal)
    have HW4 := hide' ((HW3.out.on b4).on bal)
    have hz4 : w3.heap.size ≤ w4.heap.size := b4.size
    clear hO4 hB4 b4 bal HT3 Hb13 HW3 y0 y1 y2 y3 y4
    go_wp2_with fail
    refine hI4.out.mono ?_
    rintro e w5 ⟨G0, rfl, Bg, hG5, hBg, b5⟩
    have hGs : ∃ a n c, G0 = .slice a n c := by rcases hG5 with ⟨rfl, _⟩ | ⟨g, cap, cur, Bs, rfl, _⟩ <;> exact ⟨_, _, _, rfl⟩
    obtain ⟨Ga, Gn, Gc, rfl⟩ := hGs
    have hx5 : w5.heap[w4.heap.size]? = some (.cells #[.int .i64 xk, .int .i64 xn, .slice s2 m2 q2, .slice s3 m3 q3, .slice s4 m4 q4] 31) := box_row b5
    have hW5 := HW4.out.on b5
    have HO5 := hide' (HO4.out.on b5)
    have Hb15 := hide' (Below.on Hb14.out b5)
    have hEK := hide' (HEK.out _ _ _ _ _ hG5 hW5)
    have hG5' := hide' hG5
    have hW5' := hide' hW5
    have Hx5 := hide' hx5
    have HBg : Hid (∀ b ∈ Bg, w4.heap.size + 1 ≤ b ∧ b < w5.heap.size) := fun b hb => by have := hBg b hb; simp at this; exact this
    clear hG5 hW5 hx5 hBg b5 hI4 HO4 Hb14 HW4
    go_wp2_with fail
    refine hEK.out.mono ?_
    rintro e w6 ⟨rfl, b6⟩
    have B16 := Below.on Hb15.out b6
    have hx6 := (b6.block w4.heap.size ((Array.getElem?_eq_some_iff.1 Hx5.out).1)).trans Hx5.out
    have hz6 : w4.heap.size < w6.heap.size := (Array.getElem?_eq_some_iff.1 hx6).1
    obtain ⟨y0, y1, y2, y3, y4, _⟩ := row5 (Hbox.out _ _ B16)
    obtain ⟨v0, v1, v2, v3, v4, _⟩ := row5 hx6
    have hO6 := HO5.out.on b6
    have HCel : Hid (∀ wy, Below w6.heap.size w6 wy → (wy.cell? ⟨w.heap.size, 0, none⟩ = some (.int .i64 ck) ∧ wy.cell? ⟨w.heap.size, 1, none⟩ = some (.int .i64 cn) ∧ wy.cell? ⟨w.heap.size, 2, none⟩ = some (.slice a2 l2 p2) ∧ wy.cell? ⟨w.heap.size, 3, none⟩ = some (.slice a3 l3 p3) ∧ wy.cell? ⟨w.heap.size, 4, none⟩ = some (.slice a4 l4 p4) ∧ wy.cell? ⟨w4.heap.size, 0, none⟩ = some (.int .i64 xk) ∧ wy.cell? ⟨w4.heap.size, 1, none⟩ = some (.int .i64 xn) ∧ wy.cell? ⟨w4.heap.size, 2, none⟩ = some (.slice s2 m2 q2) ∧ wy.cell? ⟨w4.heap.size, 3, none⟩ = some (.slice s3 m3 q3) ∧ wy.cell? ⟨w4.heap.size, 4, none⟩ = some (.slice s4 m4 q4))) := by
      intro wy hy
      obtain ⟨f0, f1, f2, f3, f4, _⟩ := row5 (Hbox.out _ _ (Below.on B16 hy))
      obtain ⟨g0, g1, g2, g3, g4, _⟩ := row5 ((hy.block w4.heap.size hz6).trans hx6)
      exact ⟨f0, f1, f2, f3, f4, g0, g1, g2, g3, g4⟩
    have HTd : Hid (Calls Tryd.prog 7 #[.agg #[.int .i64 ck, .int .i64 cn, .slice a2 l2 p2, .slice a3 l3 p3, .slice a4 l4 p4]] w6.drew fun e w7 => ∃ z0 z1 z2 z3 z4, e = .returned (.agg #[z0, z1, z2, z3, z4]) ∧
        (w7.cell? ⟨w.heap.size, 0, none⟩ = some (.int .i64 ck) ∧ w7.cell? ⟨w.heap.size, 1, none⟩ = some (.int .i64 cn) ∧ w7.cell? ⟨w.heap.size, 2, none⟩ = some (.slice a2 l2 p2) ∧ w7.cell? ⟨w.heap.size, 3, none⟩ = some (.slice a3 l3 p3) ∧ w7.cell? ⟨w.heap.size, 4, none⟩ = some (.slice a4 l4 p4) ∧ w7.cell? ⟨w4.heap.size, 0, none⟩ = some (.int .i64 xk) ∧ w7.cell? ⟨w4.heap.size, 1, none⟩ = some (.int .i64 xn) ∧ w7.cell? ⟨w4.heap.size, 2, none⟩ = some (.slice s2 m2 q2) ∧ w7.cell? ⟨w4.heap.size, 3, none⟩ = some (.slice s3 m3 q3) ∧ w7.cell? ⟨w4.heap.size, 4, none⟩ = some (.slice s4 m4 q4)) ∧
        Hid (Calls Tryd.prog 10 #[.agg #[.int .i64 xk, .int .i64 xn, .slice s2 m2 q2, .slice s3 m3 q3, .slice s4 m4 q4], .agg #[z0, z1, z2, z3, z4]] w7 fun e w8 => e = .returned (.bool true) ∧ (w8.cell? ⟨w.heap.size, 0, none⟩ = some (.int .i64 ck) ∧ w8.cell? ⟨w.heap.size, 1, none⟩ = some (.int .i64 cn) ∧ w8.cell? ⟨w.heap.size, 2, none⟩ = some (.slice a2 l2 p2) ∧ w8.cell? ⟨w.heap.size, 3, none⟩ = some (.slice a3 l3 p3) ∧ w8.cell? ⟨w.heap.size, 4, none⟩ = some (.slice a4 l4 p4) ∧ w8.cell? ⟨w4.heap.size, 0, none⟩ = some (.int .i64 xk) ∧ w8.cell? ⟨w4.heap.size, 1, none⟩ = some (.int .i64 xn) ∧ w8.cell? ⟨w4.heap.size, 2, none⟩ = some (.slice s2 m2 q2) ∧ w8.cell? ⟨w4.heap.size, 3, none⟩ = some (.slice s3 m3 q3) ∧ w8.cell? ⟨w4.heap.size, 4, none⟩ = some (.slice s4 m4 q4)) ∧ Hid (Below w6.heap.size w6 w8))) := by
      refine (HT.out w6.drew (Below.on (Hb.out _) B16).drew).mono ?_
      rintro e w7 ⟨z0, z1, z2, z3, z4, rfl, B7, hO7, hB7, b7⟩
      have b67 : Below w6.heap.size w6 w7 := Below.on (Below.refl _ w6).drew b7
      refine ⟨z0, z1, z2, z3, z4, rfl, HCel.out _ b67, ?_⟩
      exact (HEq.out w7.heap.size (.int .i64 xk, .int .i64 xn, .slice s2 m2 q2, .slice s3 m3 q3, .slice s4 m4 q4) (z0, z1, z2, z3, z4) w7 (VSeg.mono (fun b hb => Nat.lt_of_lt_of_le hb b67.size) (d + 1) (hO6.below b67)) (hO7.below (Below.refl _ _)) (Nat.le_refl _)).mono fun e w8 h => ⟨h.1, HCel.out _ (Below.on b67 h.2), Below.on b67 h.2⟩
    have HB16 := hide' B16
    have HO6 := hide' hO6
    have HG6 := hide' (hG5'.out.on b6)
    have HW6 := hide' (hW5'.out.on b6)
    have hz56 : w5.heap.size ≤ w6.heap.size := b6.size
    clear hEK hx6 hO6 b6 B16 HO5 Hb15 hG5' hW5' Hx5
    go_wp2_with fail
    go_region_held3 (fun wx => wx.cell? ⟨w.heap.size, 0, none⟩ = some (.int .i64 ck) ∧ wx.cell? ⟨w.heap.size, 1, none⟩ = some (.int .i64 cn) ∧ wx.cell? ⟨w.heap.size, 2, none⟩ = some (.slice a2 l2 p2) ∧ wx.cell? ⟨w.heap.size, 3, none⟩ = some (.slice a3 l3 p3) ∧ wx.cell? ⟨w.heap.size, 4, none⟩ = some (.slice a4 l4 p4) ∧ wx.cell? ⟨w4.heap.size, 0, none⟩ = some (.int .i64 xk) ∧ wx.cell? ⟨w4.heap.size, 1, none⟩ = some (.int .i64 xn) ∧ wx.cell? ⟨w4.heap.size, 2, none⟩ = some (.slice s2 m2 q2) ∧ wx.cell? ⟨w4.heap.size, 3, none⟩ = some (.slice s3 m3 q3) ∧ wx.cell? ⟨w4.heap.size, 4, none⟩ = some (.slice s4 m4 q4)) (go_keep) (first
      | (go_at_call 7; refine HTd.out.mono ?_; rintro e w7 ⟨z0, z1, z2, z3, z4, rfl, ⟨i0, i1, i2, i3, i4, i5, i6, i7, i8, i9⟩, hE7⟩)
      | (go_at_call 10; refine hE7.out.mono ?_; rintro e w8 ⟨rfl, ⟨j0, j1, j2, j3, j4, j5, j6, j7, j8, j9⟩, hb8⟩))
    clear y0 y1 y2 y3 y4 v0 v1 v2 v3 v4 i0 i1 i2 i3 i4 i5 i6 i7 i8 i9 hE7 HTd HCel HEq
    have hM8 := hide' (HM.out _ _ _ _ _ _ _ (HO6.out.on hb8.out))
    have HG8 := hide' (HG6.out.on hb8.out)
    have HW8 := hide' (HW6.out.on hb8.out)
    have HB18 := hide' (Below.on HB16.out hb8.out)
    clear HO6 HG6 HW6 HB16
    go_wp2_with fail
    refine hM8.out.mono ?_
    rintro e w9 ⟨rfl, hT9⟩
    have hG9 := HG8.out.far hT9 (fun b hb hb' => by have h1 := HBg.out b hb; have h2 := HB4.out b hb'; omega)
    have hW9 := HW8.out.far hT9 (fun b hb hb' => by have h1 := HBw.out b hb; have h2 := HB4.out b hb'; omega)
    have HB19 := hide' (Turned.below HB18.out hT9 (Nat.le_refl _) (fun b hb => by have h2 := HB4.out b hb; have h3 := HZ3.out; omega))
    have hE9 := hide' (HEK.out _ _ _ _ _ hG9 hW9)
    have HG9 := hide' hG9
    have HW9 := hide' hW9
    clear hT9 hG9 hW9 HG8 HW8 HB18 hM8 j0 j1 j2 j3 j4 j5 j6 j7 j8 j9
    go_wp2_with fail
    refine hE9.out.mono ?_
    rintro e w10 ⟨rfl, b10⟩
    have hM10 := hide' (HMK.out _ _ _ (HG9.out.on b10))
    have HW10 := hide' (HW9.out.on b10)
    have HB110 := hide' (Below.on HB19.out b10)
    clear b10 hE9 HG9 HW9 HB19
    go_wp2_with fail
    refine hM10.out.mono ?_
    rintro e w11 ⟨rfl, hG11, hT11⟩
    have HW11 := hide' (HW10.out.far hT11 (fun b hb hb' => by have h1 := HBw.out b hb; have h2 := HBg.out b hb'; omega))
    have HB111 := hide' (Turned.below HB110.out hT11 (Nat.le_refl _) (fun b hb => by have h2 := HBg.out b hb; have h3 := HZ3.out; omega))
    have hH11 := hide' (HHK.out _ _ _ hG11)
    have HG11 := hide' hG11
    clear hG11 hT11 hM10 HW10 HB110
    go_wp2_with fail
    refine hH11.out.mono ?_
    rintro e w12 ⟨rfl, b12⟩
    have B112 := Below.on HB111.out b12
    obtain ⟨y0, y1, y2, y3, y4, _⟩ := row5 (Hbox.out _ _ B112)
    have HT12 := hide' (HT.out w12 (Below.on (Hb.out _) B112))
    have HG12 := hide' (HG11.out.on b12)
    have HW12 := hide' (HW11.out.on b12)
    have HB112 := hide' B112
    clear b12 B112 hH11 HG11 HW11 HB111
    go_wp2_with fail
    refine HT12.out.mono ?_
    rintro e w13 ⟨z0, z1, z2, z3, z4, rfl, B13, hO13, hB13, b13⟩
    have hI13 := hide' (HIm.out _ _ _ _ _ _ _ _ hO13 (Below.on (Below.on (Hb.out _) HB112.out) b13) (Below.refl _ _))
    have HG13 := hide' (HG12.out.on b13)
    have HW13 := hide' (HW12.out.on b13)
    have HB113 := hide' (Below.on HB112.out b13)
    clear hO13 hB13 b13 HT12 HG12 HW12 HB112 y0 y1 y2 y3 y4
    go_wp2_with fail
    refine hI13.out.mono ?_
    rintro e w14 ⟨H0, rfl, Bh, hH14, hBh, b14⟩
    have hHs : ∃ a n c, H0 = .slice a n c := by rcases hH14 with ⟨rfl, _⟩ | ⟨g, cap, cur, Bs, rfl, _⟩ <;> exact ⟨_, _, _, rfl⟩
    obtain ⟨Ha, Hn, Hc, rfl⟩ := hHs
    have hE14 := hide' (HEK.out _ _ _ _ _ hH14 (HW13.out.on b14))
    have HG14 := hide' (HG13.out.on b14)
    have HB114 := hide' (Below.on HB113.out b14)
    clear hH14 hBh b14 hI13 HG13 HW13 HB113
    go_wp2_with fail
    refine hE14.out.mono ?_
    rintro e w15 ⟨rfl, b15⟩
    have hH15 := hide' (HHK.out _ _ _ (HG14.out.on b15))
    have HB115 := hide' (Below.on HB114.out b15)
    clear b15 hE14 HG14 HB114
    go_wp2_with fail
    refine hH15.out.mono ?_
    rintro e w16 ⟨rfl, b16⟩
    have B116 := hide' (Below.on (Hb.out _) (Below.on HB115.out b16))
    clear b16 hH15 HB115
    go_wp2
    go_ret
    exact ⟨rfl, B116.out⟩

theorem walk_FnExactUses (d : Nat) (c0 c1 c2 c3 c4 : Value) (v : Vl d) (w : World) (hT : ShpT w) (hv : VSeg (fun b => b < w.heap.size) w d (c0, c1, c2, c3, c4) v) :
    Calls Tryd.prog 3 #[.agg #[c0, c1, c2, c3, c4]] w fun e w' => e = .returned (.bool true) ∧ Below w.heap.size w w' := by
  cases d with
  | zero => exact hv.elim
  | succ d => exact walk_FnExactUses_succ d c0 c1 c2 c3 c4 v w hT hv
end Go.Proofs.YtcgmfmdoconecaaDoor
/-
  What the row lists of the table of shapes: its cells.
-/
namespace Go.Proofs.YtcgmfmdoconecaaDoor
open Go.RowKit
set_option linter.unusedVariables false
set_option linter.unusedSimpArgs false
set_option maxRecDepth 100000

/-- A shape as the row lists it. -/
def shpF {H : Type} (i : Nat) : DataW H := .agg [.lit (.int .i64 (mostI i)), .lit (.int .i64 (saysI i)), .lit (.bool (decide (i = 5))), .lit (.int .i64 (arI i))]

theorem shapes_eq : (Rows.laid_loop_example_g00407_impl_shapes : DataW Unit) = .agg ((List.range 24).map shpF) := by kernel_rfl

theorem cellsShp : Tryd.prog.cellsOf 67 = 4 := by kernel_rfl
theorem cellsShps : Tryd.prog.cellsOf 68 = 96 := by kernel_rfl
theorem cells3 : Tryd.prog.cellsOf 3 = 1 := by kernel_rfl
theorem cells4 : Tryd.prog.cellsOf 4 = 1 := by kernel_rfl

theorem shp_row {H : Type} {enc : TypeId × Value → H} {w : World} {base : Nat} {sp : Nat → Bool} {held : Bool} {fuel : Nat} {cs : List Value} {i : Nat} {p : List MemPlace} (h : DataW.trod enc Tryd.prog w base sp held fuel 67 cs = some (shpF i, p)) :
    cs = [.int .i64 (mostI i), .int .i64 (saysI i), .bool (decide (i = 5)), .int .i64 (arI i)] := by
  cases fuel with
  | zero => simp [DataW.trod] at h
  | succ fuel =>
    unfold DataW.trod at h
    rw [Tryd.underlying67] at h
    simp only [cellsShp] at h
    split at h
    · next hlen =>
      match cs, hlen with
      | [c0, c1, c2, c3], _ =>
        simp [cells3, cells4, List.mapM_cons, Option.bind_eq_some_iff] at h
        obtain ⟨a0, b0, h0, _, ⟨a1, b1, h1, _, ⟨a2, b2, h2, _, ⟨a3, b3, h3, rfl⟩, rfl⟩, rfl⟩, hE, _⟩ := h
        obtain ⟨n0, e0, x0, _⟩ := DataW.trod_int Tryd.underlying3 h0
        obtain ⟨n1, e1, x1, _⟩ := DataW.trod_int Tryd.underlying3 h1
        obtain ⟨n2, e2, x2⟩ := DataW.trod_bool Tryd.underlying4 h2
        obtain ⟨n3, e3, x3, _⟩ := DataW.trod_int Tryd.underlying3 h3
        simp at e0 e1 e2 e3 x0 x1 x2 x3
        obtain ⟨rfl, _⟩ := x0
        obtain ⟨rfl, _⟩ := x1
        obtain ⟨rfl, _⟩ := x2
        obtain ⟨rfl, _⟩ := x3
        simp [shpF] at hE
        obtain ⟨f0, f1, f2, f3⟩ := hE
        rw [e0, e1, e2, e3, f0, f1, f2, f3]
    · simp at h

theorem shpT_of_laid {r : List (String × DataW Unit)} {w : World} (h : laidMet Tryd.prog (("loop.example/g00407/impl.shapes", Rows.laid_loop_example_g00407_impl_shapes) :: r) w) : ShpT w := by
  obtain ⟨ps, ⟨g', t', cs, fuel, p, q, hg', ht', hvar, hd, _, _⟩, _⟩ := h
  have hg : Tryd.prog.globalNamed "loop.example/g00407/impl.shapes" = some 0 := by kernel_rfl
  have hty : (Tryd.prog.globals[0]?).map (·.type) = some 68 := by kernel_rfl
  obtain rfl := Option.some.inj (hg.symm.trans hg')
  obtain rfl := Option.some.inj (hty.symm.trans ht')
  rw [shapes_eq] at hd
  cases fuel with
  | zero => simp [DataW.trod] at hd
  | succ fuel =>
    unfold DataW.trod at hd
    rw [Tryd.underlying68] at hd
    simp only [cellsShp, cellsShps] at hd
    split at hd
    · rename_i hl
      obtain ⟨xs, hm, hx⟩ := Option.map_eq_some_iff.1 hd
      have hxs : xs.map (·.1) = (List.range 24).map shpF := by
        have := congrArg Prod.fst hx
        simpa using this
      intro k hk
      obtain ⟨b, hb, hf⟩ := Lib.mapM_at hm k k (by simp [hk])
      have h2 : (xs.map (·.1))[k]? = some (shpF k : DataW Unit) := by rw [hxs]; simp [hk]
      have h3 : b.1 = shpF k := by simpa [hb] using h2
      obtain ⟨b1, b2⟩ := b
      simp only at h3
      subst h3
      have hrow := shp_row hf
      have hc : ∀ j, j < 4 → w.cell? ⟨0, k * 4 + j, none⟩ = [.int .i64 (mostI k), .int .i64 (saysI k), .bool (decide (k = 5)), .int .i64 (arI k)][j]? := by
        intro j hj
        rw [World.var?_cell hg hvar, ← hrow]
        simp [List.getElem?_take, List.getElem?_drop, hj]
      exact ⟨hc 0 (by omega), hc 1 (by omega), hc 2 (by omega), hc 3 (by omega)⟩
    · simp at hd
end Go.Proofs.YtcgmfmdoconecaaDoor
/-
  A text that came in, as its reading has it, can be read: 'TSeg'.
-/
namespace Go.Proofs.YtcgmfmdoconecaaDoor
open Go.ChangeShapes Go.WideShapes Go.ChangeAt Go.RowKit
set_option linter.unusedVariables false
set_option linter.unusedSimpArgs false
set_option maxRecDepth 100000

theorem cellsT : Tryd.prog.cellsOf 22 = 1 := by kernel_rfl
theorem cellsI : Tryd.prog.cellsOf 3 = 1 := by kernel_rfl

theorem list_of {α : Type} {Q : Nat → α → Prop} : ∀ n, (∀ i, i < n → ∃ x, Q i x) → ∃ l : List α, l.length = n ∧ ∀ i (h : i < l.length), Q i l[i]
  | 0, _ => ⟨[], rfl, fun i h => by simp at h⟩
  | n + 1, hq => by
    obtain ⟨l, hl, hi⟩ := list_of n (fun i hi => hq i (by omega))
    obtain ⟨x, hx⟩ := hq n (by omega)
    refine ⟨l ++ [x], by simp [hl], fun i h => ?_⟩
    by_cases e : i < l.length
    · rw [List.getElem_append_left e]; exact hi i e
    · have : i = n := by simp at h; omega
      subst this
      rw [List.getElem_append_right (by omega)]
      simpa using hx

variable {H : Type} {enc : TypeId × Value → H} {w : World}

theorem read_text {fuel : Nat} {cs : List Value} {x : DataW H × List MemPlace} (h : DataW.trod enc Tryd.prog w 0 (fun _ => true) true fuel 22 cs = some x) : ∃ u xs, cs = [u] ∧ TSeg (fun b => b < w.heap.size) w u xs := by
  rcases open_ints Tryd.underlying22 Tryd.underlying5 (by kernel_rfl) h with ⟨rfl, _⟩ | ⟨a, len, cap, zs, rfl, _, hl, hm, hz, _, hcell, hwz⟩
  · exact ⟨_, [], rfl, none, 0, rfl, ⟨by simp, .inl rfl⟩, Nat.le_refl _, Nat.zero_le _, fun _ => rfl, by simp⟩
  · obtain ⟨xs, e, hs, h1, h2, h3⟩ := seg_of_row (w := w) (a := some a) (len := len) (cap := cap) (zs := zs) (.inr ⟨a, rfl, hl, hm, by simpa using hz, hcell, hwz⟩)
    subst e
    exact ⟨_, xs, rfl, some a, cap, rfl, hs, h1, h2, h3, hs.lt⟩

end Go.Proofs.YtcgmfmdoconecaaDoor
/-
  A value that came in, as its reading has it, can be read: 'VSeg'.
-/
namespace Go.Proofs.YtcgmfmdoconecaaDoor
open Go.ChangeShapes Go.WideShapes Go.ChangeAt Go.RowKit
set_option linter.unusedVariables false
set_option linter.unusedSimpArgs false
set_option maxRecDepth 100000

theorem cellsK : Tryd.prog.cellsOf 23 = 1 := by kernel_rfl
theorem cellsL : Tryd.prog.cellsOf 24 = 1 := by kernel_rfl
theorem cellsV : Tryd.prog.cellsOf 26 = 5 := by kernel_rfl
variable {H : Type} {enc : TypeId × Value → H} {w : World}

theorem read_keys {fuel : Nat} {cs : List Value} {x : DataW H × List MemPlace} (h : DataW.trod enc Tryd.prog w 0 (fun _ => true) true fuel 23 cs = some x) : ∃ u ks, cs = [u] ∧ KSeg (fun b => b < w.heap.size) w u ks := by
  rcases DataW.trod_slice Tryd.underlying23 h with ⟨rfl, _⟩ | ⟨a, len, cap, elems, rest, n, _, rfl, _, hb, hl, hm, hlen, hel, hsp, hns⟩
  · exact ⟨_, [], rfl, none, 0, rfl, Nat.le_refl _, Nat.zero_le _, fun _ => rfl, .inl rfl⟩
  · have hq : ∀ i, i < len → ∃ xs : List Int, ∃ u, w.cell? (a.add i) = some u ∧ TSeg (fun b => b < w.heap.size) w u xs := by
      intro i hi
      have h1 := hel i hi
      rw [cellsT, Nat.mul_one, List.getElem?_eq_getElem (by omega)] at h1
      obtain ⟨cs', hc, ht⟩ := Option.bind_eq_some_iff.1 h1
      obtain ⟨u, xs, rfl, hT⟩ := read_text ht
      exact ⟨xs, u, cell_of_cells?_one hc, hT⟩
    obtain ⟨ks, hkl, hks⟩ := list_of len hq
    subst hkl
    refine ⟨_, ks, rfl, some a, cap, rfl, hl, hm, by simp, ?_⟩
    by_cases he : ks = []
    · exact .inl he
    · have hp : 0 < ks.length := List.length_pos_iff.2 he
      obtain ⟨b, off, spot⟩ := a
      obtain ⟨u0, hu0, _⟩ := hks 0 hp
      have hspot : spot = none := by simpa [Addr.add] using World.cell?_spot hu0
      subst hspot
      refine .inr ⟨b, off, rfl, ?_, fun i hi => ?_⟩
      · have := World.block_lt_of_cell? w _ hu0
        simpa [Addr.add] using this
      · obtain ⟨u, hu, hT⟩ := hks i hi
        rw [Addr.add_lit] at hu
        exact ⟨u, hu, by simpa [List.getD_eq_getElem?_getD, hi] using hT⟩

theorem read_five {fuel : Nat} {cs : List Value} {x : DataW H × List MemPlace} (h : DataW.trod enc Tryd.prog w 0 (fun _ => true) true (fuel + 1) 26 cs = some x) :
    ∃ c0 c1 c2 c3 c4 y0 y1 y2 y3 y4, cs = [c0, c1, c2, c3, c4] ∧ DataW.trod enc Tryd.prog w 0 (fun _ => true) true fuel 3 [c0] = some y0 ∧ DataW.trod enc Tryd.prog w 0 (fun _ => true) true fuel 3 [c1] = some y1 ∧
      DataW.trod enc Tryd.prog w 0 (fun _ => true) true fuel 22 [c2] = some y2 ∧ DataW.trod enc Tryd.prog w 0 (fun _ => true) true fuel 23 [c3] = some y3 ∧ DataW.trod enc Tryd.prog w 0 (fun _ => true) true fuel 24 [c4] = some y4 := by
  unfold DataW.trod at h
  rw [Tryd.underlying26] at h
  simp only [cellsV] at h
  split at h
  · next hlen =>
    match cs, hlen with
    | [c0, c1, c2, c3, c4], _ =>
      simp [cellsT, cellsK, cellsL, cellsI, List.mapM_cons, Option.bind_eq_some_iff] at h
      obtain ⟨a0, b0, h0, _, ⟨a1, b1, h1, _, ⟨a2, b2, h2, _, ⟨a3, b3, h3, _, ⟨a4, b4, h4, _⟩, _⟩, _⟩, _⟩, _⟩ := h
      exact ⟨c0, c1, c2, c3, c4, _, _, _, _, _, rfl, h0, h1, h2, h3, h4⟩
  · simp at h

/-- How deep what is read with that fuel is at most. -/
def dep : Nat → Nat
  | 0 => 0
  | 1 => 0
  | f + 2 => dep f + 1

def ReadAt (enc : TypeId × Value → H) (w : World) (f : Nat) : Prop := ∀ (cs : List Value) (x : DataW H × List MemPlace), DataW.trod enc Tryd.prog w 0 (fun _ => true) true f 26 cs = some x →
  ∃ (c0 c1 c2 c3 c4 : Value) (v : Vl (dep f)), cs = [c0, c1, c2, c3, c4] ∧ VSeg (fun b => b < w.heap.size) w (dep f) (c0, c1, c2, c3, c4) v

theorem read_step (f : Nat) (ih : ReadAt enc w f) : ReadAt enc w (f + 2) := by
  intro cs x h
  obtain ⟨c0, c1, c2, c3, c4, y0, y1, y2, y3, y4, rfl, h0, h1, h2, h3, h4⟩ := read_five h
  obtain ⟨n0, e0, _, _⟩ := DataW.trod_int Tryd.underlying3 h0
  obtain ⟨n1, e1, _, _⟩ := DataW.trod_int Tryd.underlying3 h1
  obtain ⟨u2, xs, e2, hT⟩ := read_text h2
  obtain ⟨u3, ks, e3, hK⟩ := read_keys h3
  simp at e0 e1 e2 e3
  subst e0 e1 e2 e3
  have hL : ∃ l : List (Vl (dep f)), LSeg (fun b => b < w.heap.size) w (dep f) c4 l := by
    rcases DataW.trod_slice Tryd.underlying24 h4 with ⟨e, _⟩ | ⟨a, len, cap, elems, rest, n, hn, e, _, hb, hl, hm, hlen, hel, hsp, hns⟩
    · simp at e
      subst e
      exact ⟨[], none, 0, rfl, Nat.le_refl _, Nat.zero_le _, fun _ => rfl, .inl rfl⟩
    · simp at e
      subst e
      obtain rfl : n = f := by omega
      have hq : ∀ i, i < len → ∃ v : Vl (dep n), ∃ c0 c1 c2 c3 c4, (∀ j, j < 5 → w.cell? ((a.add (i * 5)).add j) = [c0, c1, c2, c3, c4][j]?) ∧ VSeg (fun b => b < w.heap.size) w (dep n) (c0, c1, c2, c3, c4) v := by
        intro i hi
        have h1 := hel i hi
        rw [cellsV, List.getElem?_eq_getElem (by omega)] at h1
        obtain ⟨cs', hc, ht⟩ := Option.bind_eq_some_iff.1 h1
        obtain ⟨d0, d1, d2, d3, d4, v, rfl, hv⟩ := ih cs' _ ht
        exact ⟨v, d0, d1, d2, d3, d4, (World.cells?_some hc).2.2, hv⟩
      obtain ⟨l, hll, hls⟩ := list_of len hq
      subst hll
      refine ⟨l, some a, cap, rfl, hl, hm, by simp, ?_⟩
      by_cases he : l = []
      · exact .inl he
      · have hp : 0 < l.length := List.length_pos_iff.2 he
        obtain ⟨b, off, spot⟩ := a
        obtain ⟨d0, d1, d2, d3, d4, hu0, _⟩ := hls 0 hp
        have hu := hu0 0 (by omega)
        simp [Addr.add] at hu
        have hspot : spot = none := by simpa using World.cell?_spot hu
        subst hspot
        refine .inr ⟨b, off, rfl, World.block_lt_of_cell? w _ hu, fun i hi => ?_⟩
        obtain ⟨d0, d1, d2, d3, d4, hu, hv⟩ := hls i hi
        have e : ∀ j, j < 5 → w.cell? ⟨b, off + i * 5 + j, none⟩ = [d0, d1, d2, d3, d4][j]? := by
          intro j hj
          have := hu j hj
          rw [Addr.add_lit, Addr.add_lit] at this
          exact this
        exact ⟨(d0, d1, d2, d3, d4), ⟨e 0 (by omega), e 1 (by omega), e 2 (by omega), e 3 (by omega), e 4 (by omega)⟩, hv⟩
  obtain ⟨l, hL⟩ := hL
  exact ⟨_, _, _, _, _, (n0, n1, xs, ks, l), rfl, (VSeg_succ _ _ _ _ _).2 ⟨rfl, rfl, hT, hK, hL⟩⟩

theorem read_both (f : Nat) : ReadAt enc w f ∧ ReadAt enc w (f + 1) := by
  induction f with
  | zero =>
    refine ⟨fun cs x h => by simp [DataW.trod] at h, fun cs x h => ?_⟩
    obtain ⟨_, _, _, _, _, _, _, _, _, _, _, h0, _⟩ := read_five h
    simp [DataW.trod] at h0
  | succ f ih => exact ⟨ih.2, read_step f ih.1⟩

/-- A value that came in. -/
theorem read_value {v : Value} {d : DataW H} {ps : List MemPlace} (h : DataW.Trod enc Tryd.prog w 0 (fun _ => true) true 26 v d ps) :
    ∃ c0 c1 c2 c3 c4 n, v = .agg #[c0, c1, c2, c3, c4] ∧ ∃ x : Vl n, VSeg (fun b => b < w.heap.size) w n (c0, c1, c2, c3, c4) x := by
  obtain ⟨fuel, hf⟩ := h
  obtain ⟨c0, c1, c2, c3, c4, x, e, hx⟩ := (read_both fuel).1 _ _ hf
  refine ⟨c0, c1, c2, c3, c4, dep fuel, ?_, x, hx⟩
  cases v <;> simp [Value.cells] at e
  rename_i cs
  cases cs
  simp at e
  simp [e]
end Go.Proofs.YtcgmfmdoconecaaDoor
