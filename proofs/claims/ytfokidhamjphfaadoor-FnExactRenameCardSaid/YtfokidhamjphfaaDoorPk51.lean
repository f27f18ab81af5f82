/-
  Texts that a law leans on, one behind the other; no statement is proved here.
-/
import Derived.Test.YtfokidhamjphfaaDoorPk34
import Derived.Test.YtfokidhamjphfaaDoorPk49
import Derived.Test.YtfokidhamjphfaaDoorPk32
import Derived.Test.YtfokidhamjphfaaDoorPk16
import Derived.Test.YtfokidhamjphfaaDoorPk6
import Derived.Deep.RegionHeld3
/-
  FnExactRename answers true, once both calls' ends are known; written by wip/gen/wlaw.py; no statement is proved here.
-/
namespace Go.Proofs.YtfokidhamjphfaaDoor
open Go.RowKit
set_option linter.unusedVariables false
set_option linter.unusedSimpArgs false

set_option maxHeartbeats 25600000 in
set_option maxRecDepth 100000 in
theorem walk_WRename (d D : Nat) (v : Vl (d + 1)) (a : Vl (D + 1)) (bb : Bool) (key1 : List Int) (ka1 : Option Addr) (kc1 : Nat) (key2 : List Int) (ka2 : Option Addr) (kc2 : Nat) (c0 c1 c2 c3 c4 : Value) (w : World) (hv : VSeg (fun b => b < w.heap.size) w (d + 1) (c0, c1, c2, c3, c4) v) (hS1 : Seg w ka1 key1) (hkl1 : key1.length ≤ 1048576) (hS2 : Seg w ka2 key2) (hkl2 : key2.length ≤ 1048576) (hza : szV (D + 1) a ≤ 1048576) (hz : szV (d + 1) v ≤ 1048576)
    (HSp : Hid (∀ u0 u1 u2 u3 u4 B wx wy, VOwn wx (d + 1) (u0, u1, u2, u3, u4) v B → Below wx.heap.size wx wy → Below w.heap.size w wy → ∀ g1 b1, Bts wy b1 (.slice (some ⟨g1, 0, none⟩) key1.length key1.length) key1 → ∀ g2 b2, Bts wy b2 (.slice (some ⟨g2, 0, none⟩) key2.length key2.length) key2 → Calls Tryd.prog 14 #[.agg #[u0, u1, u2, u3, u4], .slice (some ⟨g1, 0, none⟩) key1.length key1.length, .slice (some ⟨g2, 0, none⟩) key2.length key2.length] wy (Ans D a bb wy)))
    (HIm : Hid (∀ u0 u1 u2 u3 u4 B wx wy, VOwn wx (d + 1) (u0, u1, u2, u3, u4) v B → Below wx.heap.size wx wy → Below w.heap.size w wy → ∀ g1 b1, Bts wy b1 (.slice (some ⟨g1, 0, none⟩) key1.length key1.length) key1 → ∀ g2 b2, Bts wy b2 (.slice (some ⟨g2, 0, none⟩) key2.length key2.length) key2 → Calls Tryd.prog 6 #[.agg #[u0, u1, u2, u3, u4], .slice (some ⟨g1, 0, none⟩) key1.length key1.length, .slice (some ⟨g2, 0, none⟩) key2.length key2.length] wy (Ans D a bb wy))) :
    Calls Tryd.prog 4 #[.agg #[c0, c1, c2, c3, c4], .slice ka1 key1.length kc1, .slice ka2 key2.length kc2] w fun e w' => e = .returned (.bool true) ∧ Below w.heap.size w w' := by
  have b0 : ∀ o : Obj, Below w.heap.size w (w.alloc o) := fun o => (Below.refl _ _).alloc (Nat.le_refl _) o
  have HV : Hid (∀ wx, Below w.heap.size w wx → VSeg (fun b => b < w.heap.size) wx (d + 1) (c0, c1, c2, c3, c4) v) := fun wx hb => VSeg.agree (agree_below hb) (d + 1) hv
  have HS : Hid (∀ wx, Below w.heap.size w wx → Calls Tryd.prog 13 #[.agg #[c0, c1, c2, c3, c4], .int .i64 1048576] wx fun e w' => e = .returned (.int .i64 (less 1048576 (szV (d + 1) v))) ∧ Below wx.heap.size wx w') := fun wx hb =>
    szValue_any (d + 1) w.heap.size (c0, c1, c2, c3, c4) v 1048576 wx (HV.out wx hb) hb.size (by omega) (by omega)
  have Hbox : Hid (∀ o wx, Below (w.alloc o).heap.size (w.alloc o) wx → wx.heap[w.heap.size]? = some o) := fun o wx h => box_row h
  have Hb := hide' b0
  have hcv := cV_le d v
  have hca := cV_le D a
  obtain ⟨ck, cn, a2, l2, p2, a3, l3, p3, a4, l4, p4, rfl, rfl, rfl, rfl, rfl⟩ := VSeg.form (d + 1) hv
  have HKS1 : Hid (∀ wx, Below w.heap.size w wx → Seg wx ka1 key1) := fun wx hb => hS1.below hb hS1.lt
  have HKS2 : Hid (∀ wx, Below w.heap.size w wx → Seg wx ka2 key2) := fun wx hb => hS2.below hb hS2.lt
  have HT : Hid (∀ wx, Below w.heap.size w wx → Calls Tryd.prog 15 #[.agg #[.int .i64 ck, .int .i64 cn, .slice a2 l2 p2, .slice a3 l3 p3, .slice a4 l4 p4]] wx fun e w' => ∃ c0 c1 c2 c3 c4, e = .returned (.agg #[c0, c1, c2, c3, c4]) ∧ ∃ B, VOwn w' (d + 1) (c0, c1, c2, c3, c4) v B ∧ (∀ b ∈ B, wx.heap.size ≤ b ∧ b < w'.heap.size) ∧ Below wx.heap.size wx w') := fun wx hb => toValue_any (d + 1) w.heap.size (.int .i64 ck, .int .i64 cn, .slice a2 l2 p2, .slice a3 l3 p3, .slice a4 l4 p4) v wx (HV.out wx hb) hb.size hz
  have HTB1 : Hid (∀ wx, Below w.heap.size w wx → Calls Tryd.prog 16 #[.slice ka1 key1.length kc1] wx fun e w' => e = .returned (.slice (some ⟨wx.heap.size, 0, none⟩) key1.length key1.length) ∧ Bts w' wx.heap.size (.slice (some ⟨wx.heap.size, 0, none⟩) key1.length key1.length) key1 ∧ Below wx.heap.size wx w') := fun wx hb => toByteS_any ka1 kc1 key1 wx (HKS1.out wx hb) (by omega)
  have HTB2 : Hid (∀ wx, Below w.heap.size w wx → Calls Tryd.prog 16 #[.slice ka2 key2.length kc2] wx fun e w' => e = .returned (.slice (some ⟨wx.heap.size, 0, none⟩) key2.length key2.length) ∧ Bts w' wx.heap.size (.slice (some ⟨wx.heap.size, 0, none⟩) key2.length key2.length) key2 ∧ Below wx.heap.size wx w') := fun wx hb => toByteS_any ka2 kc2 key2 wx (HKS2.out wx hb) (by omega)
  have HEq : Hid (∀ (N : Nat) (c c' : Value × Value × Value × Value × Value) (wx : World), VSeg (fun b => b < N) wx (d + 1) c v → VSeg (fun b => b < N) wx (d + 1) c' v → N ≤ wx.heap.size → Calls Tryd.prog 17 #[.agg #[c.1, c.2.1, c.2.2.1, c.2.2.2.1, c.2.2.2.2], .agg #[c'.1, c'.2.1, c'.2.2.1, c'.2.2.2.1, c'.2.2.2.2]] wx fun e w' => e = .returned (.bool true) ∧ Below wx.heap.size wx w') := fun N c c' wx h h' hN => eqValue_any (d + 1) N c c' v wx h h' hN hz
  have HEA : Hid (∀ (u0 u1 u2 u3 u4 v0 v1 v2 v3 v4 : Value) (B B' : List Nat) (wx : World), VOwn wx (D + 1) (u0, u1, u2, u3, u4) a B → VOwn wx (D + 1) (v0, v1, v2, v3, v4) a B' → Calls Tryd.prog 17 #[.agg #[u0, u1, u2, u3, u4], .agg #[v0, v1, v2, v3, v4]] wx fun e w' => e = .returned (.bool true) ∧ Below wx.heap.size wx w') := fun u0 u1 u2 u3 u4 v0 v1 v2 v3 v4 B B' wx h h' => eqValue_any (D + 1) wx.heap.size (u0, u1, u2, u3, u4) (v0, v1, v2, v3, v4) a wx h.read h'.read (Nat.le_refl _) hza
  have HEB1 : Hid (∀ (xa ya : Option Addr) (xc yc : Nat) (wx : World), Seg wx xa key1 → Seg wx ya key1 → Calls Tryd.prog 18 #[.slice xa key1.length xc, .slice ya key1.length yc] wx fun e w' => e = .returned (.bool true) ∧ Below wx.heap.size wx w') := fun xa ya xc yc wx h h' => eqByteS_same xa ya xc yc key1 wx h h' (by omega)
  have HEB2 : Hid (∀ (xa ya : Option Addr) (xc yc : Nat) (wx : World), Seg wx xa key2 → Seg wx ya key2 → Calls Tryd.prog 18 #[.slice xa key2.length xc, .slice ya key2.length yc] wx fun e w' => e = .returned (.bool true) ∧ Below wx.heap.size wx w') := fun xa ya xc yc wx h h' => eqByteS_same xa ya xc yc key2 wx h h' (by omega)
  have HM : Hid (∀ x0 x1 x2 x3 x4 B wx, VOwn wx (d + 1) (x0, x1, x2, x3, x4) v B → Calls Tryd.prog 19 #[.agg #[x0, x1, x2, x3, x4], .int .i64 1] wx fun e w' => e = .returned (.int .i64 ((1 + cV d v : Nat) : Int)) ∧ Turned B wx w') := fun x0 x1 x2 x3 x4 B wx h => (markValue_any d x0 x1 x2 x3 x4 v B 1 wx h hz (by omega)).mono fun e w' h => ⟨h.1, h.2.2⟩
  have HMB1 : Hid (∀ base xa (q : Nat) wx, q ≤ 16777216 → Bts wx base (.slice xa key1.length key1.length) key1 → Calls Tryd.prog 20 #[.slice xa key1.length key1.length, .int .i64 q] wx fun e w' => e = .returned (.int .i64 ((q + key1.length : Nat) : Int)) ∧ wx.grownBy w' (Value.slice xa key1.length key1.length).ownBlock) := fun base xa q wx hq h => (markByteS_any base xa key1.length key1 q wx h (by omega) (by omega)).mono fun e w' h => ⟨h.1, h.2.2⟩
  have HMB2 : Hid (∀ base xa (q : Nat) wx, q ≤ 16777216 → Bts wx base (.slice xa key2.length key2.length) key2 → Calls Tryd.prog 20 #[.slice xa key2.length key2.length, .int .i64 q] wx fun e w' => e = .returned (.int .i64 ((q + key2.length : Nat) : Int)) ∧ wx.grownBy w' (Value.slice xa key2.length key2.length).ownBlock) := fun base xa q wx hq h => (markByteS_any base xa key2.length key2 q wx h (by omega) (by omega)).mono fun e w' h => ⟨h.1, h.2.2⟩
  have HMA : Hid (∀ x0 x1 x2 x3 x4 B wx, VOwn wx (D + 1) (x0, x1, x2, x3, x4) a B → Calls Tryd.prog 19 #[.agg #[x0, x1, x2, x3, x4], .int .i64 1] wx fun e w' => e = .returned (.int .i64 ((1 + cV D a : Nat) : Int)) ∧ VOwn w' (D + 1) (x0, x1, x2, x3, x4) (mkV D a 1) B ∧ Turned B wx w') := fun x0 x1 x2 x3 x4 B wx h => markValue_any D x0 x1 x2 x3 x4 a B 1 wx h hza (by omega)
  have HHA : Hid (∀ x0 x1 x2 x3 x4 B wx, VOwn wx (D + 1) (x0, x1, x2, x3, x4) (mkV D a 1) B → Calls Tryd.prog 21 #[.agg #[x0, x1, x2, x3, x4], .int .i64 1] wx fun e w' => e = .returned (.int .i64 ((1 + cV D a : Nat) : Int)) ∧ Below wx.heap.size wx w') := fun x0 x1 x2 x3 x4 B wx h => heldValue_any D wx.heap.size x0 x1 x2 x3 x4 a 1 wx h.read (Nat.le_refl _) hza (by omega)
  have hl : less 1048576 (szV (d + 1) v) = 1048576 - szV (d + 1) v := less_yes _ _ (by omega)
  rw [hl] at HS
  have hz0 : 0 ≤ (1048576 : Int) - szV (d + 1) v := by omega
  have hz1 : (1048576 : Int) - szV (d + 1) v ≤ 1048576 := by omega
  have hcd : cV d v ≤ 4194304 := by omega
  have hca' : cV D a ≤ 4194304 := by omega
  have hkl1' : ¬ (1048576 : Int) < (key1.length : Int) := by omega
  have hkl2' : ¬ (1048576 : Int) < (key2.length : Int) := by omega
  generalize hsz' : szV (d + 1) v = sz at *
  generalize hcn : cV d v = cn1 at *
  generalize hcm : cV D a = cn2 at *
  generalize hkn1 : key1.length = kn1 at *
  have Hkn1 : Hid (key1.length = kn1) := hkn1
  generalize hkn2 : key2.length = kn2 at *
  have Hkn2 : Hid (key2.length = kn2) := hkn2
  generalize hq1 : 1 + cn1 = q1 at *
  generalize hq2 : 1 + cn2 = q2 at *
  have hqb1 : q1 ≤ 8388608 := by omega
  have HMC1 := hide' (fun base xa wx => HMB1.out base xa q1 wx (by omega))
  generalize hq1x : q1 + kn1 = qx2 at *
  have hqb1x : qx2 ≤ 8388608 + 1 * 1048576 := by omega
  have HMC2 := hide' (fun base xa wx => HMB2.out base xa qx2 wx (by omega))
  generalize hq2x : qx2 + kn2 = qx3 at *
  have hqb2x : qx3 ≤ 8388608 + 2 * 1048576 := by omega
  have hq2' : 0 ≤ (q2 : Int) := by omega
  have hq3' : 0 ≤ (qx3 : Int) := by omega
  clear HMB1 hkn1 hS1 hq1x HMB2 hkn2 hS2 hq2x hq1 hq2 hl HV hcv hca hsz' hcn hcm b0 hv hza hz
  go_enter Tryd.func4, Tryd.ntmps4
  go_wp2_with fail
  refine (HS.out _ (Hb.out _)).mono ?_
  rintro e w1 ⟨rfl, b1⟩
  have B1 := Below.on (Hb.out _) b1
  obtain ⟨y0, y1, y2, y3, y4, _⟩ := row5 (Hbox.out _ _ b1)
  have HT1 := hide' (HT.out w1 B1)
  have Hb1 := hide' b1
  clear b1 B1 HS
  go_wp2_with fail
  refine HT1.out.mono ?_
  rintro e w2 ⟨u0, u1, u2, u3, u4, rfl, B, hO2, hB2, b2⟩
  have b12 := hide' (Below.on Hb1.out b2)
  have HO2 := hide' hO2
  have HOw : Hid (Below w2.heap.size w2 w2) := hide' (Below.refl _ _)
  clear HT1 Hb1 hO2 hB2 b2 y0 y1 y2 y3 y4
  have HTX := hide' (HTB1.out w2 (Below.on (Hb.out _) b12.out))
  go_wp2_with fail
  refine HTX.out.mono ?_
  rintro e w3 ⟨rfl, hKn, bk⟩
  replace b12 := hide' (Below.on b12.out bk)
  replace HOw := hide' (Below.on HOw.out bk)
  have HKs1 := hide' hKn
  clear HTX hKn bk
  have HTX := hide' (HTB2.out w3 (Below.on (Hb.out _) b12.out))
  go_wp2_with fail
  refine HTX.out.mono ?_
  rintro e w4 ⟨rfl, hKn, bk⟩
  replace b12 := hide' (Below.on b12.out bk)
  replace HOw := hide' (Below.on HOw.out bk)
  replace HKs1 := hide' (HKs1.out.grow bk)
  have HKs2 := hide' hKn
  clear HTX hKn bk
  have hS2 := hide' (HSp.out _ _ _ _ _ _ _ _ HO2.out HOw.out (Below.on (Hb.out _) b12.out) _ _ HKs1.out _ _ HKs2.out)
  clear HO2 HOw HKs1 HKs2
  go_wp2_with fail
  refine hS2.out.mono ?_
  rintro e w5 ⟨W0, W1, W2, W3, W4, rfl, Bw, hW, hBw, b3⟩
  obtain ⟨wk, wn, w2', wl2, wp2, w3', wl3, wp3, w4', wl4, wp4, rfl, rfl, rfl, rfl, rfl⟩ := VOwn.form (D + 1) hW
  have balW : Below w5.heap.size w5 (w5.alloc (.cells #[.int .i64 wk, .int .i64 wn, .slice w2' wl2 wp2, .slice w3' wl3 wp3, .slice w4' wl4 wp4] 26)) := (Below.refl _ _).alloc (Nat.le_refl _) _
  have b13 := Below.on (Below.on b12.out b3) balW
  obtain ⟨y0, y1, y2, y3, y4, _⟩ := row5 (Hbox.out _ _ b13)
  have HT3 := hide' (HT.out _ (Below.on (Hb.out _) b13))
  have HZ3 : Hid (w.heap.size + 1 ≤ w4.heap.size) := hide' (by have h := b12.out.size; simpa using h)
  have HW := hide' (hW.on balW)
  have HrW : Hid ((w5.alloc (.cells #[.int .i64 wk, .int .i64 wn, .slice w2' wl2 wp2, .slice w3' wl3 wp3, .slice w4' wl4 wp4] 26)).heap[w5.heap.size]? = some (.cells #[.int .i64 wk, .int .i64 wn, .slice w2' wl2 wp2, .slice w3' wl3 wp3, .slice w4' wl4 wp4] 26)) := (MapKept.heap_alloc w5 _).1
  have HBw := hide' hBw
  have HB := hide' b13
  have hz23 : w4.heap.size ≤ w5.heap.size := b3.size
  clear b12 b3 b13 hS2 hW hBw balW
  go_wp2_with fail
  refine HT3.out.mono ?_
  rintro e w6 ⟨x0, x1, x2, x3, x4, rfl, BX, hX, hBX, b4⟩
  obtain ⟨xk, xn, x2q, xl2, xp2, x3q, xl3, xp3, x4q, xl4, xp4, rfl, rfl, rfl, rfl, rfl⟩ := VOwn.form (d + 1) hX
  have bal : Below w6.heap.size w6 (w6.alloc (.cells #[.int .i64 xk, .int .i64 xn, .slice x2q xl2 xp2, .slice x3q xl3 xp3, .slice x4q xl4 xp4] 26)) := (Below.refl _ _).alloc (Nat.le_refl _) _
  have HX := hide' (hX.on bal)
  have HBX : Hid (∀ b ∈ BX, w5.heap.size + 1 ≤ b ∧ b < w6.heap.size) := fun b hb => by have := hBX b hb; simp at this; exact this
  replace HB := hide' (Below.on (Below.on HB.out b4) bal)
  replace HW := hide' ((HW.out.on b4).on bal)
  replace HrW := hide' (row_on (row_on HrW.out b4) bal)
  have HrX : Hid ((w6.alloc (.cells #[.int .i64 xk, .int .i64 xn, .slice x2q xl2 xp2, .slice x3q xl3 xp3, .slice x4q xl4 xp4] 26)).heap[w6.heap.size]? = some (.cells #[.int .i64 xk, .int .i64 xn, .slice x2q xl2 xp2, .slice x3q xl3 xp3, .slice x4q xl4 xp4] 26)) := (MapKept.heap_alloc w6 _).1
  have hz34 : w5.heap.size + 1 ≤ w6.heap.size := by have := b4.size; simpa using this
  clear hX hBX b4 bal HT3 y0 y1 y2 y3 y4
  have HTX := hide' (HTB1.out (w6.alloc (.cells #[.int .i64 xk, .int .i64 xn, .slice x2q xl2 xp2, .slice x3q xl3 xp3, .slice x4q xl4 xp4] 26)) (Below.on (Hb.out _) HB.out))
  go_wp2_with fail
  refine HTX.out.mono ?_
  rintro e w7 ⟨rfl, hKn, bk⟩
  simp only [World.size_alloc] at hKn
  have hzk1 : w6.heap.size + 2 ≤ w7.heap.size := by have h := (hKn.lt _ rfl).2; simp only at h; omega
  replace HB := hide' (Below.on HB.out bk)
  replace HX := hide' (HX.out.on bk)
  replace HW := hide' (HW.out.on bk)
  replace HrW := hide' (row_on HrW.out bk)
  replace HrX := hide' (row_on HrX.out bk)
  have HK1 := hide' hKn
  clear HTX hKn bk
  have HTX := hide' (HTB2.out w7 (Below.on (Hb.out _) HB.out))
  go_wp2_with fail
  refine HTX.out.mono ?_
  rintro e w8 ⟨rfl, hKn, bk⟩
  have hzk2 : w7.heap.size + 1 ≤ w8.heap.size := by have h := (hKn.lt _ rfl).2; simp only at h; omega
  replace HB := hide' (Below.on HB.out bk)
  replace HX := hide' (HX.out.on bk)
  replace HW := hide' (HW.out.on bk)
  replace HrW := hide' (row_on HrW.out bk)
  replace HrX := hide' (row_on HrX.out bk)
  replace HK1 := hide' (HK1.out.grow bk)
  have HK2 := hide' hKn
  clear HTX hKn bk
  have hI5 := hide' (HIm.out _ _ _ _ _ _ _ _ HX.out (Below.refl _ _) (Below.on (Hb.out _) HB.out) _ _ HK1.out _ _ HK2.out)
  obtain ⟨v0, v1, v2, v3, v4, _⟩ := row5 HrX.out
  go_wp2_with fail
  refine hI5.out.mono ?_
  rintro e w9 ⟨G0, G1, G2, G3, G4, rfl, Bg, hG, hBg, b6⟩
  obtain ⟨gk, gn, g2', gl2, gp2, g3', gl3, gp3, g4', gl4, gp4, rfl, rfl, rfl, rfl, rfl⟩ := VOwn.form (D + 1) hG
  have balG : Below w9.heap.size w9 (w9.alloc (.cells #[.int .i64 gk, .int .i64 gn, .slice g2' gl2 gp2, .slice g3' gl3 gp3, .slice g4' gl4 gp4] 26)) := (Below.refl _ _).alloc (Nat.le_refl _) _
  have b56 := Below.on b6 balG
  have HG := hide' (hG.on balG)
  have HrG : Hid ((w9.alloc (.cells #[.int .i64 gk, .int .i64 gn, .slice g2' gl2 gp2, .slice g3' gl3 gp3, .slice g4' gl4 gp4] 26)).heap[w9.heap.size]? = some (.cells #[.int .i64 gk, .int .i64 gn, .slice g2' gl2 gp2, .slice g3' gl3 gp3, .slice g4' gl4 gp4] 26)) := (MapKept.heap_alloc w9 _).1
  have HBg := hide' hBg
  have hz56 : w8.heap.size ≤ w9.heap.size := b6.size
  replace HW := hide' (HW.out.on b56)
  replace HX := hide' (HX.out.on b56)
  replace HK1 := hide' (HK1.out.grow b56)
  replace HK2 := hide' (HK2.out.grow b56)
  replace HrW := hide' (row_on HrW.out b56)
  replace HrX := hide' (row_on HrX.out b56)
  replace HB := hide' (Below.on HB.out b56)
  have hE := hide' (HEA.out _ _ _ _ _ _ _ _ _ _ _ _ _ HG.out HW.out)
  obtain ⟨i0, i1, i2, i3, i4, _⟩ := row5 HrW.out
  obtain ⟨jj0, jj1, jj2, jj3, jj4, _⟩ := row5 HrG.out
  clear hI5 hG hBg b6 balG b56 v0 v1 v2 v3 v4
  go_wp2_with fail
  refine hE.out.mono ?_
  rintro e w10 ⟨rfl, b7⟩
  replace HG := hide' (HG.out.on b7)
  replace HW := hide' (HW.out.on b7)
  replace HX := hide' (HX.out.on b7)
  replace HK1 := hide' (HK1.out.grow b7)
  replace HK2 := hide' (HK2.out.grow b7)
  replace HrG := hide' (row_on HrG.out b7)
  replace HrW := hide' (row_on HrW.out b7)
  replace HrX := hide' (row_on HrX.out b7)
  replace HB := hide' (Below.on HB.out b7)
  have hz7 : w6.heap.size < w10.heap.size := (Array.getElem?_eq_some_iff.1 HrX.out).1
  have HCel : Hid (∀ wy, Below w10.heap.size w10 wy → (wy.cell? ⟨w.heap.size, 0, none⟩ = some (.int .i64 ck) ∧ wy.cell? ⟨w.heap.size, 1, none⟩ = some (.int .i64 cn) ∧ wy.cell? ⟨w.heap.size, 2, none⟩ = some (.slice a2 l2 p2) ∧ wy.cell? ⟨w.heap.size, 3, none⟩ = some (.slice a3 l3 p3) ∧ wy.cell? ⟨w.heap.size, 4, none⟩ = some (.slice a4 l4 p4) ∧ wy.cell? ⟨w6.heap.size, 0, none⟩ = some (.int .i64 xk) ∧ wy.cell? ⟨w6.heap.size, 1, none⟩ = some (.int .i64 xn) ∧ wy.cell? ⟨w6.heap.size, 2, none⟩ = some (.slice x2q xl2 xp2) ∧ wy.cell? ⟨w6.heap.size, 3, none⟩ = some (.slice x3q xl3 xp3) ∧ wy.cell? ⟨w6.heap.size, 4, none⟩ = some (.slice x4q xl4 xp4))) := by
    intro wy hy
    obtain ⟨f0, f1, f2, f3, f4, _⟩ := row5 (Hbox.out _ _ (Below.on HB.out hy))
    obtain ⟨g0, g1, g2, g3, g4, _⟩ := row5 (row_on HrX.out hy)
    exact ⟨f0, f1, f2, f3, f4, g0, g1, g2, g3, g4⟩
  have HTd : Hid (Calls Tryd.prog 15 #[.agg #[.int .i64 ck, .int .i64 cn, .slice a2 l2 p2, .slice a3 l3 p3, .slice a4 l4 p4]] w10.drew fun e w8 => ∃ z0 z1 z2 z3 z4, e = .returned (.agg #[z0, z1, z2, z3, z4]) ∧ (w8.cell? ⟨w.heap.size, 0, none⟩ = some (.int .i64 ck) ∧ w8.cell? ⟨w.heap.size, 1, none⟩ = some (.int .i64 cn) ∧ w8.cell? ⟨w.heap.size, 2, none⟩ = some (.slice a2 l2 p2) ∧ w8.cell? ⟨w.heap.size, 3, none⟩ = some (.slice a3 l3 p3) ∧ w8.cell? ⟨w.heap.size, 4, none⟩ = some (.slice a4 l4 p4) ∧ w8.cell? ⟨w6.heap.size, 0, none⟩ = some (.int .i64 xk) ∧ w8.cell? ⟨w6.heap.size, 1, none⟩ = some (.int .i64 xn) ∧ w8.cell? ⟨w6.heap.size, 2, none⟩ = some (.slice x2q xl2 xp2) ∧ w8.cell? ⟨w6.heap.size, 3, none⟩ = some (.slice x3q xl3 xp3) ∧ w8.cell? ⟨w6.heap.size, 4, none⟩ = some (.slice x4q xl4 xp4)) ∧
      Hid (Calls Tryd.prog 17 #[.agg #[.int .i64 xk, .int .i64 xn, .slice x2q xl2 xp2, .slice x3q xl3 xp3, .slice x4q xl4 xp4], .agg #[z0, z1, z2, z3, z4]] w8 fun e w9 => e = .returned (.bool true) ∧ (w9.cell? ⟨w.heap.size, 0, none⟩ = some (.int .i64 ck) ∧ w9.cell? ⟨w.heap.size, 1, none⟩ = some (.int .i64 cn) ∧ w9.cell? ⟨w.heap.size, 2, none⟩ = some (.slice a2 l2 p2) ∧ w9.cell? ⟨w.heap.size, 3, none⟩ = some (.slice a3 l3 p3) ∧ w9.cell? ⟨w.heap.size, 4, none⟩ = some (.slice a4 l4 p4) ∧ w9.cell? ⟨w6.heap.size, 0, none⟩ = some (.int .i64 xk) ∧ w9.cell? ⟨w6.heap.size, 1, none⟩ = some (.int .i64 xn) ∧ w9.cell? ⟨w6.heap.size, 2, none⟩ = some (.slice x2q xl2 xp2) ∧ w9.cell? ⟨w6.heap.size, 3, none⟩ = some (.slice x3q xl3 xp3) ∧ w9.cell? ⟨w6.heap.size, 4, none⟩ = some (.slice x4q xl4 xp4)) ∧ Hid (Below w10.heap.size w10 w9))) := by
    refine (HT.out w10.drew (Below.on (Hb.out _) HB.out).drew).mono ?_
    rintro e w8 ⟨z0, z1, z2, z3, z4, rfl, B8, hO8, hB8, b8⟩
    have b78 : Below w10.heap.size w10 w8 := Below.on (Below.refl _ w10).drew b8
    refine ⟨z0, z1, z2, z3, z4, rfl, HCel.out _ b78, ?_⟩
    exact (HEq.out w8.heap.size (.int .i64 xk, .int .i64 xn, .slice x2q xl2 xp2, .slice x3q xl3 xp3, .slice x4q xl4 xp4) (z0, z1, z2, z3, z4) w8 (VSeg.mono (fun b hb => Nat.lt_of_lt_of_le hb b78.size) (d + 1) (HX.out.below b78)) (hO8.below (Below.refl _ _)) (Nat.le_refl _)).mono fun e w9 h => ⟨h.1, HCel.out _ (Below.on b78 h.2), Below.on b78 h.2⟩
  clear hE b7 i0 i1 i2 i3 i4 jj0 jj1 jj2 jj3 jj4
  obtain ⟨y0, y1, y2, y3, y4, v0, v1, v2, v3, v4⟩ := HCel.out _ (Below.refl w10.heap.size w10)
  go_wp2_with fail
  go_region_held3 (fun wx => wx.cell? ⟨w.heap.size, 0, none⟩ = some (.int .i64 ck) ∧ wx.cell? ⟨w.heap.size, 1, none⟩ = some (.int .i64 cn) ∧ wx.cell? ⟨w.heap.size, 2, none⟩ = some (.slice a2 l2 p2) ∧ wx.cell? ⟨w.heap.size, 3, none⟩ = some (.slice a3 l3 p3) ∧ wx.cell? ⟨w.heap.size, 4, none⟩ = some (.slice a4 l4 p4) ∧ wx.cell? ⟨w6.heap.size, 0, none⟩ = some (.int .i64 xk) ∧ wx.cell? ⟨w6.heap.size, 1, none⟩ = some (.int .i64 xn) ∧ wx.cell? ⟨w6.heap.size, 2, none⟩ = some (.slice x2q xl2 xp2) ∧ wx.cell? ⟨w6.heap.size, 3, none⟩ = some (.slice x3q xl3 xp3) ∧ wx.cell? ⟨w6.heap.size, 4, none⟩ = some (.slice x4q xl4 xp4)) (go_keep) (first
    | (go_at_call 15; refine HTd.out.mono ?_; rintro e w8 ⟨z0, z1, z2, z3, z4, rfl, ⟨i0, i1, i2, i3, i4, i5, i6, i7, i8, i9⟩, hE8⟩)
    | (go_at_call 17; refine hE8.out.mono ?_; rintro e w9 ⟨rfl, ⟨j0, j1, j2, j3, j4, j5, j6, j7, j8, j9⟩, hb9⟩))
  clear y0 y1 y2 y3 y4 v0 v1 v2 v3 v4 i0 i1 i2 i3 i4 i5 i6 i7 i8 i9 hE8 HTd HCel HEq j0 j1 j2 j3 j4 j5 j6 j7 j8 j9
  replace hb9 := hb9.out
  replace HG := hide' (HG.out.on hb9)
  replace HW := hide' (HW.out.on hb9)
  replace HX := hide' (HX.out.on hb9)
  replace HK1 := hide' (HK1.out.grow hb9)
  replace HK2 := hide' (HK2.out.grow hb9)
  replace HrG := hide' (row_on HrG.out hb9)
  replace HrW := hide' (row_on HrW.out hb9)
  replace HrX := hide' (row_on HrX.out hb9)
  replace HB := hide' (Below.on HB.out hb9)
  obtain ⟨wc0, hwc0⟩ : ∃ wc0, wc0 = w9 := ⟨_, rfl⟩
  subst hwc0
  have HTX := hide' (HTB1.out _ (Below.on (Hb.out _) HB.out))
  go_wp2_with fail
  refine HTX.out.mono ?_
  rintro e w101 ⟨rfl, hKn, bk⟩
  replace HG := hide' (HG.out.on bk)
  replace HW := hide' (HW.out.on bk)
  replace HX := hide' (HX.out.on bk)
  replace HK1 := hide' (HK1.out.grow bk)
  replace HK2 := hide' (HK2.out.grow bk)
  replace HrG := hide' (row_on HrG.out bk)
  replace HrW := hide' (row_on HrW.out bk)
  replace HrX := hide' (row_on HrX.out bk)
  replace HB := hide' (Below.on HB.out bk)
  have hEb := hide' (HEB1.out _ _ kn1 kn1 _ HK1.out.seg hKn.seg)
  clear HTX hKn bk
  go_wp2_with fail
  refine hEb.out.mono ?_
  rintro e w102 ⟨rfl, bk⟩
  replace HG := hide' (HG.out.on bk)
  replace HW := hide' (HW.out.on bk)
  replace HX := hide' (HX.out.on bk)
  replace HK1 := hide' (HK1.out.grow bk)
  replace HK2 := hide' (HK2.out.grow bk)
  replace HrG := hide' (row_on HrG.out bk)
  replace HrW := hide' (row_on HrW.out bk)
  replace HrX := hide' (row_on HrX.out bk)
  replace HB := hide' (Below.on HB.out bk)
  clear hEb bk
  have HTX := hide' (HTB2.out _ (Below.on (Hb.out _) HB.out))
  go_wp2_with fail
  refine HTX.out.mono ?_
  rintro e w103 ⟨rfl, hKn, bk⟩
  replace HG := hide' (HG.out.on bk)
  replace HW := hide' (HW.out.on bk)
  replace HX := hide' (HX.out.on bk)
  replace HK1 := hide' (HK1.out.grow bk)
  replace HK2 := hide' (HK2.out.grow bk)
  replace HrG := hide' (row_on HrG.out bk)
  replace HrW := hide' (row_on HrW.out bk)
  replace HrX := hide' (row_on HrX.out bk)
  replace HB := hide' (Below.on HB.out bk)
  have hEb := hide' (HEB2.out _ _ kn2 kn2 _ HK2.out.seg hKn.seg)
  clear HTX hKn bk
  go_wp2_with fail
  refine hEb.out.mono ?_
  rintro e w104 ⟨rfl, bk⟩
  replace HG := hide' (HG.out.on bk)
  replace HW := hide' (HW.out.on bk)
  replace HX := hide' (HX.out.on bk)
  replace HK1 := hide' (HK1.out.grow bk)
  replace HK2 := hide' (HK2.out.grow bk)
  replace HrG := hide' (row_on HrG.out bk)
  replace HrW := hide' (row_on HrW.out bk)
  replace HrX := hide' (row_on HrX.out bk)
  replace HB := hide' (Below.on HB.out bk)
  clear hEb bk
  obtain ⟨v0, v1, v2, v3, v4, _⟩ := row5 HrX.out
  have hM := hide' (HM.out _ _ _ _ _ _ _ HX.out)
  go_wp2_with fail
  refine hM.out.mono ?_
  rintro e w105 ⟨rfl, hT⟩
  replace HG := hide' (HG.out.far hT (fun b hb hm => by have h1 := HBg.out b hb; have h2 := HBX.out b hm; omega))
  replace HrG := hide' (row_far HrG.out hT (fun hm => by have h2 := HBX.out _ hm; omega))
  replace HW := hide' (HW.out.far hT (fun b hb hm => by have h1 := HBw.out b hb; have h2 := HBX.out b hm; omega))
  replace HrW := hide' (row_far HrW.out hT (fun hm => by have h2 := HBX.out _ hm; omega))
  replace HK1 := hide' (HK1.out.far hT (by intro k hk hm; have h2 := HBX.out _ hm; simp [Value.ownBlock] at hk; omega))
  replace HK2 := hide' (HK2.out.far hT (by intro k hk hm; have h2 := HBX.out _ hm; simp [Value.ownBlock] at hk; omega))
  replace HB := hide' (Turned.below HB.out hT (Nat.le_refl _) (fun b hb => by have h1 := HBX.out b hb; have h2 := HZ3.out; rw [World.size_alloc]; omega))
  clear hM hT HX HrX v0 v1 v2 v3 v4
  have hM := hide' (HMC1.out _ _ _ HK1.out)
  go_wp2_with fail
  refine hM.out.mono ?_
  rintro e w106 ⟨rfl, gT⟩
  have hT : Turned [w6.heap.size + 1] w105 w106 := Turned.of_grown gT (fun g hg => by simp [Value.ownBlock] at hg; simp [hg])
  replace HG := hide' (HG.out.far hT (fun b hb hm => by have h1 := HBg.out b hb; simp at hm; omega))
  replace HrG := hide' (row_far HrG.out hT (fun hm => by simp at hm; omega))
  replace HW := hide' (HW.out.far hT (fun b hb hm => by have h1 := HBw.out b hb; simp at hm; omega))
  replace HrW := hide' (row_far HrW.out hT (fun hm => by simp at hm; omega))
  replace HK2 := hide' (HK2.out.far hT (by intro k hk hm; simp [Value.ownBlock] at hk; simp at hm; omega))
  replace HB := hide' (Turned.below HB.out hT (Nat.le_refl _) (fun b hb => by have h2 := HZ3.out; simp at hb; rw [World.size_alloc]; omega))
  clear hM hT gT HK1
  have hM := hide' (HMC2.out _ _ _ HK2.out)
  go_wp2_with fail
  refine hM.out.mono ?_
  rintro e w107 ⟨rfl, gT⟩
  have hT : Turned [w7.heap.size] w106 w107 := Turned.of_grown gT (fun g hg => by simp [Value.ownBlock] at hg; simp [hg])
  replace HG := hide' (HG.out.far hT (fun b hb hm => by have h1 := HBg.out b hb; simp at hm; omega))
  replace HrG := hide' (row_far HrG.out hT (fun hm => by simp at hm; omega))
  replace HW := hide' (HW.out.far hT (fun b hb hm => by have h1 := HBw.out b hb; simp at hm; omega))
  replace HrW := hide' (row_far HrW.out hT (fun hm => by simp at hm; omega))
  replace HB := hide' (Turned.below HB.out hT (Nat.le_refl _) (fun b hb => by have h2 := HZ3.out; simp at hb; rw [World.size_alloc]; omega))
  clear hM hT gT HK2
  obtain ⟨i0, i1, i2, i3, i4, _⟩ := row5 HrW.out
  obtain ⟨j0, j1, j2, j3, j4, _⟩ := row5 HrG.out
  have hE := hide' (HEA.out _ _ _ _ _ _ _ _ _ _ _ _ _ HG.out HW.out)
  go_wp2_with fail
  refine hE.out.mono ?_
  rintro e w108 ⟨rfl, bk⟩
  replace HG := hide' (HG.out.on bk)
  replace HW := hide' (HW.out.on bk)
  replace HrG := hide' (row_on HrG.out bk)
  replace HrW := hide' (row_on HrW.out bk)
  replace HB := hide' (Below.on HB.out bk)
  clear hE bk i0 i1 i2 i3 i4 j0 j1 j2 j3 j4
  obtain ⟨k0, k1, k2, k3, k4, _⟩ := row5 HrG.out
  have hM := hide' (HMA.out _ _ _ _ _ _ _ HG.out)
  go_wp2_with fail
  refine hM.out.mono ?_
  rintro e w109 ⟨rfl, hG, hT⟩
  replace HrG := hide' (row_far HrG.out hT (fun hm => by have h2 := HBg.out _ hm; omega))
  replace HW := hide' (HW.out.far hT (fun b hb hm => by have h1 := HBw.out b hb; have h2 := HBg.out b hm; omega))
  replace HrW := hide' (row_far HrW.out hT (fun hm => by have h2 := HBg.out _ hm; omega))
  replace HB := hide' (Turned.below HB.out hT (Nat.le_refl _) (fun b hb => by have h1 := HBg.out b hb; have h2 := HZ3.out; rw [World.size_alloc]; omega))
  replace HG := hide' hG
  clear hM hT hG k0 k1 k2 k3 k4
  obtain ⟨j0, j1, j2, j3, j4, _⟩ := row5 HrG.out
  have hH := hide' (HHA.out _ _ _ _ _ _ _ HG.out)
  go_wp2_with fail
  refine hH.out.mono ?_
  rintro e w110 ⟨rfl, bk⟩
  replace HG := hide' (HG.out.on bk)
  replace HW := hide' (HW.out.on bk)
  replace HrG := hide' (row_on HrG.out bk)
  replace HrW := hide' (row_on HrW.out bk)
  replace HB := hide' (Below.on HB.out bk)
  clear hH bk j0 j1 j2 j3 j4
  obtain ⟨y0, y1, y2, y3, y4, _⟩ := row5 (Hbox.out _ _ HB.out)
  have HTX := hide' (HT.out w110 (Below.on (Hb.out _) HB.out))
  go_wp2_with fail
  refine HTX.out.mono ?_
  rintro e w111 ⟨z0, z1, z2, z3, z4, rfl, B17, hO17, hB17, bk⟩
  replace HG := hide' (HG.out.on bk)
  replace HW := hide' (HW.out.on bk)
  replace HrG := hide' (row_on HrG.out bk)
  replace HrW := hide' (row_on HrW.out bk)
  replace HB := hide' (Below.on HB.out bk)
  have HO17 := hide' hO17
  have HO17w : Hid (Below w111.heap.size w111 w111) := hide' (Below.refl _ _)
  clear HTX hO17 hB17 bk y0 y1 y2 y3 y4
  have HTX := hide' (HTB1.out _ (Below.on (Hb.out _) HB.out))
  go_wp2_with fail
  refine HTX.out.mono ?_
  rintro e w112 ⟨rfl, hKn, bk⟩
  replace HG := hide' (HG.out.on bk)
  replace HW := hide' (HW.out.on bk)
  replace HrG := hide' (row_on HrG.out bk)
  replace HrW := hide' (row_on HrW.out bk)
  replace HB := hide' (Below.on HB.out bk)
  replace HO17w := hide' (Below.on HO17w.out bk)
  have HKh1 := hide' hKn
  clear HTX hKn bk
  have HTX := hide' (HTB2.out _ (Below.on (Hb.out _) HB.out))
  go_wp2_with fail
  refine HTX.out.mono ?_
  rintro e w113 ⟨rfl, hKn, bk⟩
  replace HG := hide' (HG.out.on bk)
  replace HW := hide' (HW.out.on bk)
  replace HrG := hide' (row_on HrG.out bk)
  replace HrW := hide' (row_on HrW.out bk)
  replace HB := hide' (Below.on HB.out bk)
  replace HO17w := hide' (Below.on HO17w.out bk)
  replace HKh1 := hide' (HKh1.out.grow bk)
  have HKh2 := hide' hKn
  clear HTX hKn bk
  have hI := hide' (HIm.out _ _ _ _ _ _ _ _ HO17.out HO17w.out (Below.on (Hb.out _) HB.out) _ _ HKh1.out _ _ HKh2.out)
  clear HO17 HO17w HKh1 HKh2
  go_wp2_with fail
  refine hI.out.mono ?_
  rintro e w114 ⟨H0, H1, H2, H3, H4, rfl, Bh, hH, hBh, bk⟩
  obtain ⟨hk, hn, o2, c2', d2', o3, c3', d3', o4, c4', d4', rfl, rfl, rfl, rfl, rfl⟩ := VOwn.form (D + 1) hH
  have balH : Below w114.heap.size w114 (w114.alloc (.cells #[.int .i64 hk, .int .i64 hn, .slice o2 c2' d2', .slice o3 c3' d3', .slice o4 c4' d4'] 26)) := (Below.refl _ _).alloc (Nat.le_refl _) _
  have bkH := Below.on bk balH
  replace HG := hide' (HG.out.on bkH)
  replace HW := hide' (HW.out.on bkH)
  replace HrG := hide' (row_on HrG.out bkH)
  replace HrW := hide' (row_on HrW.out bkH)
  replace HB := hide' (Below.on HB.out bkH)
  have hE := hide' (HEA.out _ _ _ _ _ _ _ _ _ _ _ _ _ (hH.on balH) HW.out)
  obtain ⟨i0, i1, i2, i3, i4, _⟩ := row5 HrW.out
  clear hI hH hBh bk balH bkH
  go_wp2_with fail
  refine hE.out.mono ?_
  rintro e w115 ⟨rfl, bk⟩
  replace HG := hide' (HG.out.on bk)
  replace HW := hide' (HW.out.on bk)
  replace HrG := hide' (row_on HrG.out bk)
  replace HrW := hide' (row_on HrW.out bk)
  replace HB := hide' (Below.on HB.out bk)
  obtain ⟨j0, j1, j2, j3, j4, _⟩ := row5 HrG.out
  have hH := hide' (HHA.out _ _ _ _ _ _ _ HG.out)
  clear hE bk i0 i1 i2 i3 i4
  go_wp2_with fail
  refine hH.out.mono ?_
  rintro e w116 ⟨rfl, bk⟩
  have HBf := hide' (Below.on (Hb.out _) (Below.on HB.out bk))
  clear hH bk j0 j1 j2 j3 j4
  go_wp2
  go_ret
  exact ⟨rfl, HBf.out⟩
end Go.Proofs.YtfokidhamjphfaaDoor
