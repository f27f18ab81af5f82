/-
  Texts that a law leans on, one behind the other; no statement is proved here.
-/
import Derived.Test.YteiahjknlcmloaaPk4
import Derived.Test.YteiahjknlcmloaaPk5
import Derived.Test.YteiahjknlcmloaaPk6
import Derived.Test.YteiahjknlcmloaaPk7
import Derived.Deep.RegionHeld3
/-
  FnExactAt answers true, whatever value and path it is handed, once both calls' ends are known.
-/
namespace Go.Proofs.Yteiahjknlcmloaa
open Go.RowKit
set_option linter.unusedVariables false
set_option linter.unusedSimpArgs false

theorem PthOwn.on {w w' : World} {x : Value} {l : List Stp} {B : List Nat} (h : PthOwn w x l B) (hb : Below w.heap.size w w') : PthOwn w' x l B := h.agree fun b hb' => hb.block b (h.lt b hb')
theorem PthOwn.far {w w' : World} {x : Value} {l : List Stp} {B B' : List Nat} (h : PthOwn w x l B) (hT : Turned B' w w') (hd : ∀ b ∈ B, b ∉ B') : PthOwn w' x l B := h.agree fun b hb' => hT.block b (h.lt b hb') (hd b hb')
theorem PthOwn.form {w : World} {x : Value} {l : List Stp} {B : List Nat} (h : PthOwn w x l B) : ∃ g c, x = .slice (some ⟨g, 0, none⟩) l.length c := by
  obtain ⟨g, cap, cur, Bi, rfl, _⟩ := h
  exact ⟨_, _, rfl⟩
theorem cStp_le : ∀ l : List Stp, (l.map cStp).sum ≤ 2 * szP l
  | [] => by simp
  | x :: r => by
    have h := cStp_le r
    have e : szP (x :: r) = szP r + (1 + x.2.1.length) := by simp [szP]; omega
    simp only [List.map_cons, List.sum_cons]
    have e2 : cStp x = 2 + x.2.1.length := rfl
    omega

set_option maxHeartbeats 12800000 in
set_option maxRecDepth 100000 in
theorem walk_at (d D : Nat) (v : Vl (d + 1)) (a : Vl (D + 1)) (bb : Bool) (l : List Stp) (x : Value) (c0 c1 c2 c3 c4 : Value) (w : World) (hv : VSeg (fun b => b < w.heap.size) w (d + 1) (c0, c1, c2, c3, c4) v) (hS : PthSeg (fun b => b < w.heap.size) w x l) (hkl : szP l + szV (d + 1) v ≤ 1048576) (hza : szV (D + 1) a ≤ 1048576) (hz : szV (d + 1) v ≤ 1048576)
    (HSp : Hid (∀ u0 u1 u2 u3 u4 B wx wy z Bz, VOwn wx (d + 1) (u0, u1, u2, u3, u4) v B → Below wx.heap.size wx wy → PthOwn wy z l Bz → Calls Try.prog 36 #[.agg #[u0, u1, u2, u3, u4], z] wy (Ans D a bb wy)))
    (HIm : Hid (∀ u0 u1 u2 u3 u4 B wx wy z Bz, VOwn wx (d + 1) (u0, u1, u2, u3, u4) v B → Below wx.heap.size wx wy → PthOwn wy z l Bz → Calls Try.prog 38 #[.agg #[u0, u1, u2, u3, u4], z] wy (Ans D a bb wy))) :
    Calls Try.prog 8 #[.agg #[c0, c1, c2, c3, c4], x] w fun e w' => e = .returned (.bool true) ∧ Below w.heap.size w w' := by
  have b0 : ∀ o : Obj, Below w.heap.size w (w.alloc o) := fun o => (Below.refl _ _).alloc (Nat.le_refl _) o
  have HV : Hid (∀ wx, Below w.heap.size w wx → VSeg (fun b => b < w.heap.size) wx (d + 1) (c0, c1, c2, c3, c4) v) := fun wx hb => VSeg.agree (agree_below hb) (d + 1) hv
  have HS : Hid (∀ wx, Below w.heap.size w wx → Calls Try.prog 25 #[.agg #[c0, c1, c2, c3, c4], .int .i64 1048576] wx fun e w' => e = .returned (.int .i64 (less 1048576 (szV (d + 1) v))) ∧ Below wx.heap.size wx w') := fun wx hb =>
    szValue_any (d + 1) w.heap.size (c0, c1, c2, c3, c4) v 1048576 wx (HV.out wx hb) hb.size (by omega) (by omega)
  have Hbox : Hid (∀ o wx, Below (w.alloc o).heap.size (w.alloc o) wx → wx.heap[w.heap.size]? = some o) := fun o wx h => box_row h
  have Hb := hide' b0
  have hcv := cV_le d v
  have hca := cV_le D a
  obtain ⟨ck, cn, a2, l2, p2, a3, l3, p3, a4, l4, p4, rfl, rfl, rfl, rfl, rfl⟩ := VSeg.form (d + 1) hv
  have HKS : Hid (∀ wx, Below w.heap.size w wx → PthSeg (fun b => b < w.heap.size) wx x l) := fun wx hb => hS.agree (agree_below hb)
  have HSP : Hid (∀ wx, Below w.heap.size w wx → Calls Try.prog 35 #[x, .int .i64 (1048576 - szV (d + 1) v)] wx fun e w' => e = .returned (.int .i64 (less (1048576 - szV (d + 1) v) (szP l))) ∧ Below wx.heap.size wx w') := fun wx hb => szStepS_any w.heap.size x l _ wx (HKS.out wx hb) hb.size (by omega) (by omega)
  have hcp := cStp_le l
  have HT : Hid (∀ wx, Below w.heap.size w wx → Calls Try.prog 27 #[.agg #[.int .i64 ck, .int .i64 cn, .slice a2 l2 p2, .slice a3 l3 p3, .slice a4 l4 p4]] wx fun e w' => ∃ c0 c1 c2 c3 c4, e = .returned (.agg #[c0, c1, c2, c3, c4]) ∧ ∃ B, VOwn w' (d + 1) (c0, c1, c2, c3, c4) v B ∧ (∀ b ∈ B, wx.heap.size ≤ b ∧ b < w'.heap.size) ∧ Below wx.heap.size wx w') := fun wx hb => toValue_any (d + 1) w.heap.size (.int .i64 ck, .int .i64 cn, .slice a2 l2 p2, .slice a3 l3 p3, .slice a4 l4 p4) v wx (HV.out wx hb) hb.size hz
  have HTB : Hid (∀ wx, Below w.heap.size w wx → Calls Try.prog 37 #[x] wx fun e w' => ∃ g c, e = .returned (.slice (some ⟨g, 0, none⟩) l.length c) ∧ ∃ B, PthOwn w' (.slice (some ⟨g, 0, none⟩) l.length c) l B ∧ (∀ b ∈ B, wx.heap.size ≤ b ∧ b < w'.heap.size) ∧ Below wx.heap.size wx w') := fun wx hb => (toStepS_any w.heap.size x l wx (HKS.out wx hb) hb.size (by omega)).mono fun e w' h => by
    obtain ⟨u, rfl, B, hO, hB, hb'⟩ := h
    obtain ⟨g, c, rfl⟩ := hO.form
    exact ⟨g, c, rfl, B, hO, hB, hb'⟩
  have HEq : Hid (∀ (N : Nat) (c c' : Value × Value × Value × Value × Value) (wx : World), VSeg (fun b => b < N) wx (d + 1) c v → VSeg (fun b => b < N) wx (d + 1) c' v → N ≤ wx.heap.size → Calls Try.prog 29 #[.agg #[c.1, c.2.1, c.2.2.1, c.2.2.2.1, c.2.2.2.2], .agg #[c'.1, c'.2.1, c'.2.2.1, c'.2.2.2.1, c'.2.2.2.2]] wx fun e w' => e = .returned (.bool true) ∧ Below wx.heap.size wx w') := fun N c c' wx h h' hN => eqValue_any (d + 1) N c c' v wx h h' hN hz
  have HEA : Hid (∀ (u0 u1 u2 u3 u4 v0 v1 v2 v3 v4 : Value) (B B' : List Nat) (wx : World), VOwn wx (D + 1) (u0, u1, u2, u3, u4) a B → VOwn wx (D + 1) (v0, v1, v2, v3, v4) a B' → Calls Try.prog 29 #[.agg #[u0, u1, u2, u3, u4], .agg #[v0, v1, v2, v3, v4]] wx fun e w' => e = .returned (.bool true) ∧ Below wx.heap.size wx w') := fun u0 u1 u2 u3 u4 v0 v1 v2 v3 v4 B B' wx h h' => eqValue_any (D + 1) wx.heap.size (u0, u1, u2, u3, u4) (v0, v1, v2, v3, v4) a wx h.read h'.read (Nat.le_refl _) hza
  have HEB : Hid (∀ (y z : Value) (By Bz : List Nat) (wx : World), PthOwn wx y l By → PthOwn wx z l Bz → Calls Try.prog 39 #[y, z] wx fun e w' => e = .returned (.bool true) ∧ Below wx.heap.size wx w') := fun y z By Bz wx h h' => eqStepS_same wx.heap.size y z l wx (h.below (Below.refl _ _)) (h'.below (Below.refl _ _)) (Nat.le_refl _) (by omega)
  have HM : Hid (∀ x0 x1 x2 x3 x4 B wx, VOwn wx (d + 1) (x0, x1, x2, x3, x4) v B → Calls Try.prog 31 #[.agg #[x0, x1, x2, x3, x4], .int .i64 1] wx fun e w' => e = .returned (.int .i64 ((1 + cV d v : Nat) : Int)) ∧ Turned B wx w') := fun x0 x1 x2 x3 x4 B wx h => (markValue_any d x0 x1 x2 x3 x4 v B 1 wx h hz (by omega)).mono fun e w' h => ⟨h.1, h.2.2⟩
  have HMB : Hid (∀ z B (q : Nat) wx, q ≤ 2097153 → PthOwn wx z l B → Calls Try.prog 40 #[z, .int .i64 q] wx fun e w' => e = .returned (.int .i64 ((q + (l.map cStp).sum : Nat) : Int)) ∧ Turned B wx w') := fun z B q wx hq h => (markStepS_any z l B q wx h (by omega) (by omega)).mono fun e w' h => ⟨h.1, h.2.2⟩
  have HMA : Hid (∀ x0 x1 x2 x3 x4 B wx, VOwn wx (D + 1) (x0, x1, x2, x3, x4) a B → Calls Try.prog 31 #[.agg #[x0, x1, x2, x3, x4], .int .i64 1] wx fun e w' => e = .returned (.int .i64 ((1 + cV D a : Nat) : Int)) ∧ VOwn w' (D + 1) (x0, x1, x2, x3, x4) (mkV D a 1) B ∧ Turned B wx w') := fun x0 x1 x2 x3 x4 B wx h => markValue_any D x0 x1 x2 x3 x4 a B 1 wx h hza (by omega)
  have HHA : Hid (∀ x0 x1 x2 x3 x4 B wx, VOwn wx (D + 1) (x0, x1, x2, x3, x4) (mkV D a 1) B → Calls Try.prog 33 #[.agg #[x0, x1, x2, x3, x4], .int .i64 1] wx fun e w' => e = .returned (.int .i64 ((1 + cV D a : Nat) : Int)) ∧ Below wx.heap.size wx w') := fun x0 x1 x2 x3 x4 B wx h => heldValue_any D wx.heap.size x0 x1 x2 x3 x4 a 1 wx h.read (Nat.le_refl _) hza (by omega)
  have hl : less 1048576 (szV (d + 1) v) = 1048576 - szV (d + 1) v := less_yes _ _ (by omega)
  rw [hl] at HS
  have hz0 : 0 ≤ (1048576 : Int) - szV (d + 1) v := by omega
  have hz1 : (1048576 : Int) - szV (d + 1) v ≤ 1048576 := by omega
  have hcd : cV d v ≤ 2097152 := by omega
  have hl2 : less (1048576 - szV (d + 1) v) (szP l) = 1048576 - szV (d + 1) v - szP l := less_yes _ _ (by omega)
  rw [hl2] at HSP
  have hz2 : 0 ≤ (1048576 : Int) - szV (d + 1) v - szP l := by omega
  have hz3 : (1048576 : Int) - szV (d + 1) v - szP l ≤ 1048576 := by omega
  obtain ⟨xa, xc, rfl, -, hxm, -⟩ := hS
  have hcpp : (l.map cStp).sum ≤ 2097152 := by omega
  generalize hsz' : szV (d + 1) v = sz at *
  generalize hspp : szP l = sp at *
  generalize hcn : cV d v = cn1 at *
  generalize hcm : cV D a = cn2 at *
  generalize hkn : (l.map cStp).sum = kn at *
  generalize hln : l.length = ln at *
  generalize hq1 : 1 + cn1 = q1 at *
  generalize hq2 : 1 + cn2 = q2 at *
  have hq1' : q1 ≤ 2097153 := by omega
  have HMC := hide' (fun z B wx => HMB.out z B q1 wx hq1')
  generalize hq3 : q1 + kn = q3 at *
  have hq2' : 0 ≤ (q2 : Int) := by omega
  have hq3' : 0 ≤ (q3 : Int) := by omega
  clear HMB hq1 hq2 hq3 hq1' hl hl2 HV hcv hca hcp hcpp hsz' hspp hcn hcm hkn hln b0 hv hza hz hkl hxm HKS
  go_enter Try.func8, Try.ntmps8
  go_wp2_with fail
  refine (HS.out _ (Hb.out _)).mono ?_
  rintro e w1 ⟨rfl, b1⟩
  have B1 := Below.on (Hb.out _) b1
  obtain ⟨y0, y1, y2, y3, y4, _⟩ := row5 (Hbox.out _ _ b1)
  have HSP1 := hide' (HSP.out w1 B1)
  have Hb10 := hide' b1
  clear b1 B1 HS HSP y0 y1 y2 y3 y4
  go_wp2_with fail
  refine HSP1.out.mono ?_
  rintro e w1' ⟨rfl, b1⟩
  have b1' := Below.on Hb10.out b1
  have B1 := Below.on (Hb.out _) b1'
  obtain ⟨y0, y1, y2, y3, y4, _⟩ := row5 (Hbox.out _ _ b1')
  have HT1 := hide' (HT.out w1' B1)
  have Hb1 := hide' b1'
  clear b1 b1' B1 HSP1 Hb10
  go_wp2_with fail
  refine HT1.out.mono ?_
  rintro e w2a ⟨u0, u1, u2, u3, u4, rfl, B, hO2, hB2, b2⟩
  have b12a := hide' (Below.on Hb1.out b2)
  have HTBa := hide' (HTB.out w2a (Below.on (Hb.out _) b12a.out))
  have HO2 := hide' hO2
  clear HT1 Hb1 hO2 hB2 b2 y0 y1 y2 y3 y4
  go_wp2_with fail
  refine HTBa.out.mono ?_
  rintro e w2 ⟨kg2, kc2, rfl, Bk2, hK2, hBk2, bk2⟩
  have hS2 := hide' (HSp.out _ _ _ _ _ _ _ _ _ _ HO2.out bk2 hK2)
  have b12 := hide' (Below.on b12a.out bk2)
  clear HTBa HO2 b12a hK2 hBk2 bk2
  go_wp2_with fail
  refine hS2.out.mono ?_
  rintro e w3 ⟨W0, W1, W2, W3, W4, rfl, Bw, hW3, hBw, b3⟩
  obtain ⟨wk, wn, t2, g2, h2, t3, g3, h3, t4, g4, h4, rfl, rfl, rfl, rfl, rfl⟩ := VOwn.form (D + 1) hW3
  have balW : Below w3.heap.size w3 (w3.alloc (.cells #[.int .i64 wk, .int .i64 wn, .slice t2 g2 h2, .slice t3 g3 h3, .slice t4 g4 h4] 26)) := (Below.refl _ _).alloc (Nat.le_refl _) _
  have b13 := Below.on (Below.on b12.out b3) balW
  obtain ⟨y0, y1, y2, y3, y4, _⟩ := row5 (Hbox.out _ _ b13)
  have HT3 := hide' (HT.out _ (Below.on (Hb.out _) b13))
  have HZ3 : Hid (w.heap.size + 1 ≤ w2.heap.size) := hide' (by have h := b12.out.size; simpa using h)
  have HW3 := hide' (hW3.on balW)
  have HrW : Hid ((w3.alloc (.cells #[.int .i64 wk, .int .i64 wn, .slice t2 g2 h2, .slice t3 g3 h3, .slice t4 g4 h4] 26)).heap[w3.heap.size]? = some (.cells #[.int .i64 wk, .int .i64 wn, .slice t2 g2 h2, .slice t3 g3 h3, .slice t4 g4 h4] 26)) := (MapKept.heap_alloc w3 _).1
  have HBw := hide' hBw
  have Hb13 := hide' b13
  have hz23 : w2.heap.size ≤ w3.heap.size := b3.size
  clear b12 b3 b13 hS2 hW3 hBw balW
  go_wp2_with fail
  refine HT3.out.mono ?_
  rintro e w4 ⟨x0, x1, x2, x3, x4, rfl, B4, hO4, hB4, b4⟩
  obtain ⟨xk, xn, s2, m2, q2, s3, m3, q3, s4, m4, q4, rfl, rfl, rfl, rfl, rfl⟩ := VOwn.form (d + 1) hO4
  have bal : Below w4.heap.size w4 (w4.alloc (.cells #[.int .i64 xk, .int .i64 xn, .slice s2 m2 q2, .slice s3 m3 q3, .slice s4 m4 q4] 26)) := (Below.refl _ _).alloc (Nat.le_refl _) _
  have HO4 := hide' (hO4.on bal)
  have HB4 : Hid (∀ b ∈ B4, w3.heap.size + 1 ≤ b ∧ b < w4.heap.size) := fun b hb => by have := hB4 b hb; simp at this; exact this
  have Hb14 := hide' (Below.on (Below.on Hb13.out b4) bal)
  have HW4 := hide' ((HW3.out.on b4).on bal)
  have HrW4 := hide' (row_on (row_on HrW.out b4) bal)
  have HrX : Hid ((w4.alloc (.cells #[.int .i64 xk, .int .i64 xn, .slice s2 m2 q2, .slice s3 m3 q3, .slice s4 m4 q4] 26)).heap[w4.heap.size]? = some (.cells #[.int .i64 xk, .int .i64 xn, .slice s2 m2 q2, .slice s3 m3 q3, .slice s4 m4 q4] 26)) := (MapKept.heap_alloc w4 _).1
  have hz34 : w3.heap.size + 1 ≤ w4.heap.size := by have := b4.size; simpa using this
  have HTB4 := hide' (HTB.out _ (Below.on (Hb.out _) Hb14.out))
  clear hO4 hB4 b4 bal HT3 Hb13 HW3 HrW y0 y1 y2 y3 y4
  go_wp2_with fail
  refine HTB4.out.mono ?_
  rintro e w5 ⟨kg5, kc5, rfl, Bk5, hK5, hBk5, b5⟩
  simp only [World.size_alloc] at hBk5
  have hx5 := row_on HrX.out b5
  obtain ⟨v0, v1, v2, v3, v4, _⟩ := row5 hx5
  have hI5 := hide' (HIm.out _ _ _ _ _ _ _ _ _ _ HO4.out b5 hK5)
  have HK5 := hide' hK5
  have HO5 := hide' (HO4.out.on b5)
  have HW5 := hide' (HW4.out.on b5)
  have HrW5 := hide' (row_on HrW4.out b5)
  have HrX5 := hide' hx5
  have Hb15 := hide' (Below.on Hb14.out b5)
  have HBk5 : Hid (∀ b ∈ Bk5, w4.heap.size + 1 ≤ b ∧ b < w5.heap.size) := hBk5
  have hz45 : w4.heap.size + 1 ≤ w5.heap.size := by have h := b5.size; simpa using h
  clear hK5 hBk5 b5 hx5 HTB4 HO4 HW4 HrW4 HrX Hb14
  go_wp2_with fail
  refine hI5.out.mono ?_
  rintro e w6 ⟨G0, G1, G2, G3, G4, rfl, Bg, hG6, hBg, b6⟩
  obtain ⟨gk, gn, r2, f2, e2, r3, f3, e3, r4, f4, e4, rfl, rfl, rfl, rfl, rfl⟩ := VOwn.form (D + 1) hG6
  have balG : Below w6.heap.size w6 (w6.alloc (.cells #[.int .i64 gk, .int .i64 gn, .slice r2 f2 e2, .slice r3 f3 e3, .slice r4 f4 e4] 26)) := (Below.refl _ _).alloc (Nat.le_refl _) _
  have b56 := Below.on b6 balG
  have hE6 := hide' (HEA.out _ _ _ _ _ _ _ _ _ _ _ _ _ (hG6.on balG) (HW5.out.on b56))
  have HG6 := hide' (hG6.on balG)
  have HW6 := hide' (HW5.out.on b56)
  have HO6 := hide' (HO5.out.on b56)
  have HK6 := hide' (HK5.out.on b56)
  have HrW6 := hide' (row_on HrW5.out b56)
  have HrX6 := hide' (row_on HrX5.out b56)
  have HrG6 : Hid ((w6.alloc (.cells #[.int .i64 gk, .int .i64 gn, .slice r2 f2 e2, .slice r3 f3 e3, .slice r4 f4 e4] 26)).heap[w6.heap.size]? = some (.cells #[.int .i64 gk, .int .i64 gn, .slice r2 f2 e2, .slice r3 f3 e3, .slice r4 f4 e4] 26)) := (MapKept.heap_alloc w6 _).1
  have Hb16 := hide' (Below.on Hb15.out b56)
  have HBg := hide' hBg
  have hz56 : w5.heap.size ≤ w6.heap.size := b6.size
  obtain ⟨i0, i1, i2, i3, i4, _⟩ := row5 HrW6.out
  obtain ⟨jj0, jj1, jj2, jj3, jj4, _⟩ := row5 HrG6.out
  clear hI5 hG6 hBg b6 balG b56 HW5 HO5 HK5 HrW5 HrX5 Hb15 v0 v1 v2 v3 v4
  go_wp2_with fail
  refine hE6.out.mono ?_
  rintro e w7 ⟨rfl, b7⟩
  have B17 := Below.on Hb16.out b7
  have hx7 := row_on HrX6.out b7
  have hz7 : w4.heap.size < w7.heap.size := (Array.getElem?_eq_some_iff.1 hx7).1
  obtain ⟨y0, y1, y2, y3, y4, _⟩ := row5 (Hbox.out _ _ B17)
  obtain ⟨v0, v1, v2, v3, v4, _⟩ := row5 hx7
  have hO7 := HO6.out.on b7
  have HCel : Hid (∀ wy, Below w7.heap.size w7 wy → (wy.cell? ⟨w.heap.size, 0, none⟩ = some (.int .i64 ck) ∧ wy.cell? ⟨w.heap.size, 1, none⟩ = some (.int .i64 cn) ∧ wy.cell? ⟨w.heap.size, 2, none⟩ = some (.slice a2 l2 p2) ∧ wy.cell? ⟨w.heap.size, 3, none⟩ = some (.slice a3 l3 p3) ∧ wy.cell? ⟨w.heap.size, 4, none⟩ = some (.slice a4 l4 p4) ∧ wy.cell? ⟨w4.heap.size, 0, none⟩ = some (.int .i64 xk) ∧ wy.cell? ⟨w4.heap.size, 1, none⟩ = some (.int .i64 xn) ∧ wy.cell? ⟨w4.heap.size, 2, none⟩ = some (.slice s2 m2 q2) ∧ wy.cell? ⟨w4.heap.size, 3, none⟩ = some (.slice s3 m3 q3) ∧ wy.cell? ⟨w4.heap.size, 4, none⟩ = some (.slice s4 m4 q4))) := by
    intro wy hy
    obtain ⟨f0, f1, f2, f3, f4, _⟩ := row5 (Hbox.out _ _ (Below.on B17 hy))
    obtain ⟨g0, g1, g2, g3, g4, _⟩ := row5 (row_on hx7 hy)
    exact ⟨f0, f1, f2, f3, f4, g0, g1, g2, g3, g4⟩
  have HTd : Hid (Calls Try.prog 27 #[.agg #[.int .i64 ck, .int .i64 cn, .slice a2 l2 p2, .slice a3 l3 p3, .slice a4 l4 p4]] w7.drew fun e w8 => ∃ z0 z1 z2 z3 z4, e = .returned (.agg #[z0, z1, z2, z3, z4]) ∧ (w8.cell? ⟨w.heap.size, 0, none⟩ = some (.int .i64 ck) ∧ w8.cell? ⟨w.heap.size, 1, none⟩ = some (.int .i64 cn) ∧ w8.cell? ⟨w.heap.size, 2, none⟩ = some (.slice a2 l2 p2) ∧ w8.cell? ⟨w.heap.size, 3, none⟩ = some (.slice a3 l3 p3) ∧ w8.cell? ⟨w.heap.size, 4, none⟩ = some (.slice a4 l4 p4) ∧ w8.cell? ⟨w4.heap.size, 0, none⟩ = some (.int .i64 xk) ∧ w8.cell? ⟨w4.heap.size, 1, none⟩ = some (.int .i64 xn) ∧ w8.cell? ⟨w4.heap.size, 2, none⟩ = some (.slice s2 m2 q2) ∧ w8.cell? ⟨w4.heap.size, 3, none⟩ = some (.slice s3 m3 q3) ∧ w8.cell? ⟨w4.heap.size, 4, none⟩ = some (.slice s4 m4 q4)) ∧
      Hid (Calls Try.prog 29 #[.agg #[.int .i64 xk, .int .i64 xn, .slice s2 m2 q2, .slice s3 m3 q3, .slice s4 m4 q4], .agg #[z0, z1, z2, z3, z4]] w8 fun e w9 => e = .returned (.bool true) ∧ (w9.cell? ⟨w.heap.size, 0, none⟩ = some (.int .i64 ck) ∧ w9.cell? ⟨w.heap.size, 1, none⟩ = some (.int .i64 cn) ∧ w9.cell? ⟨w.heap.size, 2, none⟩ = some (.slice a2 l2 p2) ∧ w9.cell? ⟨w.heap.size, 3, none⟩ = some (.slice a3 l3 p3) ∧ w9.cell? ⟨w.heap.size, 4, none⟩ = some (.slice a4 l4 p4) ∧ w9.cell? ⟨w4.heap.size, 0, none⟩ = some (.int .i64 xk) ∧ w9.cell? ⟨w4.heap.size, 1, none⟩ = some (.int .i64 xn) ∧ w9.cell? ⟨w4.heap.size, 2, none⟩ = some (.slice s2 m2 q2) ∧ w9.cell? ⟨w4.heap.size, 3, none⟩ = some (.slice s3 m3 q3) ∧ w9.cell? ⟨w4.heap.size, 4, none⟩ = some (.slice s4 m4 q4)) ∧ Hid (Below w7.heap.size w7 w9))) := by
    refine (HT.out w7.drew (Below.on (Hb.out _) B17).drew).mono ?_
    rintro e w8 ⟨z0, z1, z2, z3, z4, rfl, B8, hO8, hB8, b8⟩
    have b78 : Below w7.heap.size w7 w8 := Below.on (Below.refl _ w7).drew b8
    refine ⟨z0, z1, z2, z3, z4, rfl, HCel.out _ b78, ?_⟩
    exact (HEq.out w8.heap.size (.int .i64 xk, .int .i64 xn, .slice s2 m2 q2, .slice s3 m3 q3, .slice s4 m4 q4) (z0, z1, z2, z3, z4) w8 (VSeg.mono (fun b hb => Nat.lt_of_lt_of_le hb b78.size) (d + 1) (hO7.below b78)) (hO8.below (Below.refl _ _)) (Nat.le_refl _)).mono fun e w9 h => ⟨h.1, HCel.out _ (Below.on b78 h.2), Below.on b78 h.2⟩
  have HB17 := hide' B17
  have HO7 := hide' hO7
  have HG7 := hide' (HG6.out.on b7)
  have HW7 := hide' (HW6.out.on b7)
  have HK7 := hide' (HK6.out.on b7)
  have HrW7 := hide' (row_on HrW6.out b7)
  have HrX7 := hide' hx7
  have HrG7 := hide' (row_on HrG6.out b7)
  clear hE6 hx7 hO7 b7 B17 HO6 Hb16 HG6 HW6 HK6 HrW6 HrX6 HrG6 i0 i1 i2 i3 i4
  go_wp2_with fail
  go_region_held3 (fun wx => (wx.cell? ⟨w.heap.size, 0, none⟩ = some (.int .i64 ck) ∧ wx.cell? ⟨w.heap.size, 1, none⟩ = some (.int .i64 cn) ∧ wx.cell? ⟨w.heap.size, 2, none⟩ = some (.slice a2 l2 p2) ∧ wx.cell? ⟨w.heap.size, 3, none⟩ = some (.slice a3 l3 p3) ∧ wx.cell? ⟨w.heap.size, 4, none⟩ = some (.slice a4 l4 p4) ∧ wx.cell? ⟨w4.heap.size, 0, none⟩ = some (.int .i64 xk) ∧ wx.cell? ⟨w4.heap.size, 1, none⟩ = some (.int .i64 xn) ∧ wx.cell? ⟨w4.heap.size, 2, none⟩ = some (.slice s2 m2 q2) ∧ wx.cell? ⟨w4.heap.size, 3, none⟩ = some (.slice s3 m3 q3) ∧ wx.cell? ⟨w4.heap.size, 4, none⟩ = some (.slice s4 m4 q4))) (go_keep) (first
    | (go_at_call 27; refine HTd.out.mono ?_; rintro e w8 ⟨z0, z1, z2, z3, z4, rfl, ⟨i0, i1, i2, i3, i4, i5, i6, i7, i8, i9⟩, hE8⟩)
    | (go_at_call 29; refine hE8.out.mono ?_; rintro e w9 ⟨rfl, ⟨j0, j1, j2, j3, j4, j5, j6, j7, j8, j9⟩, hb9⟩))
  clear y0 y1 y2 y3 y4 v0 v1 v2 v3 v4 i0 i1 i2 i3 i4 i5 i6 i7 i8 i9 hE8 HTd HCel HEq j0 j1 j2 j3 j4 j5 j6 j7 j8 j9
  have HB19 := hide' (Below.on HB17.out hb9.out)
  have HG9 := hide' (HG7.out.on hb9.out)
  have HW9 := hide' (HW7.out.on hb9.out)
  have HO9 := hide' (HO7.out.on hb9.out)
  have HK9 := hide' (HK7.out.on hb9.out)
  have HrW9 := hide' (row_on HrW7.out hb9.out)
  have HrX9 := hide' (row_on HrX7.out hb9.out)
  have HrG9 := hide' (row_on HrG7.out hb9.out)
  have HTB9 := hide' (HTB.out w9 (Below.on (Hb.out _) HB19.out))
  clear HG7 HW7 HO7 HK7 HrW7 HrX7 HrG7 HB17 hb9
  go_wp2_with fail
  refine HTB9.out.mono ?_
  rintro e w10 ⟨kg10, kc10, rfl, Bk10, hK10, hBk10, b10⟩
  have hE10 := HEB.out _ _ _ _ w10 (HK9.out.on b10) hK10
  replace hE10 := hide' hE10
  have HB110 := hide' (Below.on HB19.out b10)
  have Hb910 := hide' b10
  clear HTB9 hK10 hBk10 b10 HB19
  go_wp2_with fail
  refine hE10.out.mono ?_
  rintro e w11 ⟨rfl, b11⟩
  have b911 := Below.on Hb910.out b11
  have hx11 := row_on HrX9.out b911
  obtain ⟨v0, v1, v2, v3, v4, _⟩ := row5 hx11
  have hM11 := hide' (HM.out _ _ _ _ _ _ _ (HO9.out.on b911))
  have HG11 := hide' (HG9.out.on b911)
  have HW11 := hide' (HW9.out.on b911)
  have HK11 := hide' (HK9.out.on b911)
  have HrW11 := hide' (row_on HrW9.out b911)
  have HrG11 := hide' (row_on HrG9.out b911)
  have HB111 := hide' (Below.on HB110.out b11)
  clear hE10 b11 b911 hx11 Hb910 HB110 HG9 HW9 HO9 HK9 HrW9 HrX9 HrG9
  go_wp2_with fail
  refine hM11.out.mono ?_
  rintro e w12 ⟨rfl, hT12⟩
  have HG12 := hide' (HG11.out.far hT12 (fun b hb hm => by have h1 := HBg.out b hb; have h2 := HB4.out b hm; omega))
  have HW12 := hide' (HW11.out.far hT12 (fun b hb hm => by have h1 := HBw.out b hb; have h2 := HB4.out b hm; omega))
  have HrW12 := hide' (row_far HrW11.out hT12 (fun hm => by have h2 := HB4.out _ hm; omega))
  have HrG12 := hide' (row_far HrG11.out hT12 (fun hm => by have h2 := HB4.out _ hm; omega))
  have hK12 := HK11.out.far hT12 (fun b hb hm => by have h1 := HBk5.out b hb; have h2 := HB4.out b hm; omega)
  have HB112 := hide' (Turned.below HB111.out hT12 (Nat.le_refl _) (fun b hb => by have h1 := HB4.out b hb; have h2 := HZ3.out; rw [World.size_alloc]; omega))
  have hM12 := hide' (HMC.out _ _ _ hK12)
  clear hM11 hT12 HG11 HW11 HK11 HrW11 HrG11 HB111 hK12 v0 v1 v2 v3 v4
  go_wp2_with fail
  refine hM12.out.mono ?_
  rintro e w13 ⟨rfl, hT13⟩
  have hG13 := HG12.out.far hT13 (fun b hb hm => by have h1 := HBg.out b hb; have h2 := HBk5.out b hm; omega)
  have hW13 := HW12.out.far hT13 (fun b hb hm => by have h1 := HBw.out b hb; have h2 := HBk5.out b hm; omega)
  have hrW13 := row_far HrW12.out hT13 (fun hm => by have h2 := HBk5.out _ hm; omega)
  have hrG13 := row_far HrG12.out hT13 (fun hm => by have h2 := HBk5.out _ hm; omega)
  have HB113 := hide' (Turned.below HB112.out hT13 (Nat.le_refl _) (fun b hb => by have h2 := HZ3.out; have h3 := HBk5.out b hb; rw [World.size_alloc]; omega))
  obtain ⟨i0, i1, i2, i3, i4, _⟩ := row5 hrW13
  obtain ⟨j0, j1, j2, j3, j4, _⟩ := row5 hrG13
  have hE13 := hide' (HEA.out _ _ _ _ _ _ _ _ _ _ _ _ _ hG13 hW13)
  have HG13 := hide' hG13
  have HW13 := hide' hW13
  have HrW13 := hide' hrW13
  have HrG13 := hide' hrG13
  clear hM12 hT13 HG12 HW12 HrW12 HrG12 HB112 hG13 hW13 hrW13 hrG13
  go_wp2_with fail
  refine hE13.out.mono ?_
  rintro e w14 ⟨rfl, b14⟩
  have hrG14 := row_on HrG13.out b14
  obtain ⟨k0, k1, k2, k3, k4, _⟩ := row5 hrG14
  have hM14 := hide' (HMA.out _ _ _ _ _ _ _ (HG13.out.on b14))
  have HW14 := hide' (HW13.out.on b14)
  have HrW14 := hide' (row_on HrW13.out b14)
  have HrG14 := hide' hrG14
  have HB114 := hide' (Below.on HB113.out b14)
  clear hE13 b14 hrG14 HG13 HW13 HrW13 HrG13 HB113 i0 i1 i2 i3 i4 j0 j1 j2 j3 j4
  go_wp2_with fail
  refine hM14.out.mono ?_
  rintro e w15 ⟨rfl, hG15, hT15⟩
  have hrG15 := row_far HrG14.out hT15 (fun hm => by have h2 := HBg.out _ hm; omega)
  have HW15 := hide' (HW14.out.far hT15 (fun b hb hm => by have h1 := HBw.out b hb; have h2 := HBg.out b hm; omega))
  have HrW15 := hide' (row_far HrW14.out hT15 (fun hm => by have h2 := HBg.out _ hm; omega))
  have HB115 := hide' (Turned.below HB114.out hT15 (Nat.le_refl _) (fun b hb => by have h1 := HBg.out b hb; have h2 := HZ3.out; rw [World.size_alloc]; omega))
  obtain ⟨j0, j1, j2, j3, j4, _⟩ := row5 hrG15
  have hH15 := hide' (HHA.out _ _ _ _ _ _ _ hG15)
  have HG15 := hide' hG15
  have HrG15 := hide' hrG15
  clear hM14 hT15 hG15 hrG15 HW14 HrW14 HrG14 HB114 k0 k1 k2 k3 k4
  go_wp2_with fail
  refine hH15.out.mono ?_
  rintro e w16 ⟨rfl, b16⟩
  have HG16 := hide' (HG15.out.on b16)
  have HW16 := hide' (HW15.out.on b16)
  have HrW16 := hide' (row_on HrW15.out b16)
  have HrG16 := hide' (row_on HrG15.out b16)
  have HB116 := hide' (Below.on HB115.out b16)
  obtain ⟨y0, y1, y2, y3, y4, _⟩ := row5 (Hbox.out _ _ HB116.out)
  have HT16 := hide' (HT.out w16 (Below.on (Hb.out _) HB116.out))
  clear hH15 b16 HG15 HW15 HrW15 HrG15 HB115 j0 j1 j2 j3 j4
  go_wp2_with fail
  refine HT16.out.mono ?_
  rintro e w17 ⟨z0, z1, z2, z3, z4, rfl, B17, hO17, hB17, b17⟩
  have Hb17 := hide' b17
  have HO17 := hide' hO17
  have HTB17 := hide' (HTB.out w17 (Below.on (Hb.out _) (Below.on HB116.out b17)))
  clear HT16 hO17 hB17 b17 y0 y1 y2 y3 y4
  go_wp2_with fail
  refine HTB17.out.mono ?_
  rintro e w18 ⟨kg18, kc18, rfl, Bk18, hK18, hBk18, b18⟩
  have hI18 := hide' (HIm.out _ _ _ _ _ _ _ _ _ _ HO17.out b18 hK18)
  have Hb18 := hide' (Below.on Hb17.out b18)
  clear HTB17 HO17 hK18 hBk18 b18 Hb17
  go_wp2_with fail
  refine hI18.out.mono ?_
  rintro e w19 ⟨H0, H1, H2, H3, H4, rfl, Bh, hH19, hBh, b19⟩
  obtain ⟨hk, hn, o2, c2', d2', o3, c3', d3', o4, c4', d4', rfl, rfl, rfl, rfl, rfl⟩ := VOwn.form (D + 1) hH19
  have balH : Below w19.heap.size w19 (w19.alloc (.cells #[.int .i64 hk, .int .i64 hn, .slice o2 c2' d2', .slice o3 c3' d3', .slice o4 c4' d4'] 26)) := (Below.refl _ _).alloc (Nat.le_refl _) _
  have b1619 := Below.on (Below.on Hb18.out b19) balH
  obtain ⟨i0, i1, i2, i3, i4, _⟩ := row5 (row_on HrW16.out b1619)
  have hE19 := hide' (HEA.out _ _ _ _ _ _ _ _ _ _ _ _ _ (hH19.on balH) (HW16.out.on b1619))
  have HG19 := hide' (HG16.out.on b1619)
  have HrG19 := hide' (row_on HrG16.out b1619)
  have HB119 := hide' (Below.on HB116.out b1619)
  clear hI18 Hb18 hH19 hBh b19 balH b1619 HG16 HW16 HrW16 HrG16 HB116
  go_wp2_with fail
  refine hE19.out.mono ?_
  rintro e w20 ⟨rfl, b20⟩
  obtain ⟨j0, j1, j2, j3, j4, _⟩ := row5 (row_on HrG19.out b20)
  have hH20 := hide' (HHA.out _ _ _ _ _ _ _ (HG19.out.on b20))
  have HB120 := hide' (Below.on HB119.out b20)
  clear hE19 b20 HG19 HrG19 HB119 i0 i1 i2 i3 i4
  go_wp2_with fail
  refine hH20.out.mono ?_
  rintro e w21 ⟨rfl, b21⟩
  have HB121 := hide' (Below.on (Hb.out _) (Below.on HB120.out b21))
  clear hH20 b21 HB120 j0 j1 j2 j3 j4
  go_wp2
  go_ret
  exact ⟨rfl, HB121.out⟩
end Go.Proofs.Yteiahjknlcmloaa
/-
  l2find of the specification: where a key stands.
-/
namespace Go.Proofs.Yteiahjknlcmloaa
open Go.RowKit
set_option linter.unusedVariables false
set_option linter.unusedSimpArgs false

/-- Where a key stands; -1 where it does not. -/
def findK (ks : List (List Int)) (key : List Int) : Int := match ks.findIdx? (fun k => decide (k = key)) with | some i => i | none => -1

theorem findK_at {ks : List (List Int)} {key : List Int} {k : Nat} (hk : k < ks.length) (hn : ∀ i, i < k → ks.getD i [] ≠ key) (he : ks.getD k [] = key) : findK ks key = k := by
  have : ks.findIdx? (fun x => decide (x = key)) = some k := by
    rw [List.findIdx?_eq_some_iff_getElem]
    refine ⟨hk, ?_, fun j hj => ?_⟩
    · simp [List.getD_eq_getElem?_getD, hk] at he
      simp [he]
    · have h1 := hn j hj
      simp [List.getD_eq_getElem?_getD, (show j < ks.length by omega)] at h1
      simp [h1]
  simp [findK, this]

theorem findK_no {ks : List (List Int)} {key : List Int} (hn : ∀ i, i < ks.length → ks.getD i [] ≠ key) : findK ks key = -1 := by
  have : ks.findIdx? (fun x => decide (x = key)) = none := by
    rw [List.findIdx?_eq_none_iff]
    intro x hx
    obtain ⟨i, hi, rfl⟩ := List.getElem_of_mem hx
    have h1 := hn i hi
    simp [List.getD_eq_getElem?_getD, hi] at h1
    simp [h1]
  simp [findK, this]

set_option maxHeartbeats 3200000 in
theorem spec_l2find_any (N : Nat) (c0 c1 c2 c4 : Value) (a3 : Option Addr) (n3 p3 : Nat) (ks : List (List Int)) (ka : Option Addr) (kc : Nat) (key : List Int) (w : World) (hK : KSeg (fun b => b < N) w (.slice a3 n3 p3) ks) (hN : N ≤ w.heap.size) (hkl : ks.length ≤ 1048576) (hS : Seg w ka key) (hSb : ∀ x, ka = some x → key ≠ [] → x.block < w.heap.size) (hf : ∃ (k n : Int) (a2 : Option Addr) (l2 p2 : Nat) (a4 : Option Addr) (l4 p4 : Nat), c0 = .int .i64 k ∧ c1 = .int .i64 n ∧ c2 = .slice a2 l2 p2 ∧ c4 = .slice a4 l4 p4) :
    Calls Try.prog 92 #[.agg #[c0, c1, c2, .slice a3 n3 p3, c4], .slice ka key.length kc] w fun e w' => e = .returned (.int .i64 (findK ks key)) ∧ Below w.heap.size w w' := by
  obtain ⟨k0, n0, a2, l2, p2, a4, l4, p4, rfl, rfl, rfl, rfl⟩ := hf
  obtain rfl : n3 = ks.length := by obtain ⟨a, c, e, _⟩ := hK; simp at e; exact e.2.1
  have hB0 : ∀ o : Obj, Below w.heap.size w (w.alloc o) := fun o => (Below.refl _ _).alloc (Nat.le_refl _) o
  have HB0 := hide' hB0
  have HBx : Hid (∀ (o : Obj) (n : Nat), ((w.alloc o).drewN n).heap[w.heap.size]? = some o) := fun o n => (MapKept.heap_alloc w o).1
  have HKS : Hid (∀ (o : Obj) (n : Nat), KSeg (fun b => b < N) ((w.alloc o).drewN n) (.slice a3 ks.length p3) ks) := fun o n => hK.agree (agree_below ((below_drewN (hB0 o) n).mono hN))
  have HSg : Hid (∀ (o : Obj) (n : Nat), Seg ((w.alloc o).drewN n) ka key) := fun o n => hS.below (below_drewN (hB0 o) n) hSb
  clear hB0 hK hS hSb
  go_enter Try.func92, Try.ntmps92
  go_wp2_with fail
  go_loopw [5] (fun i wr => ∃ k : Nat, k ≤ ks.length ∧ i = .int .i64 k ∧ (∃ n, wr = (w.alloc (.cells #[.int .i64 k0, .int .i64 n0, .slice a2 l2 p2, .slice a3 ks.length p3, .slice a4 l4 p4] 26)).drewN n) ∧ ∀ i, i < k → ks.getD i [] ≠ key) (fun i _ => ks.length - (intOf i).toNat)
  case atStart => exact ⟨0, Nat.zero_le _, rfl, ⟨0, rfl⟩, fun i hi => absurd hi (by omega)⟩
  case round =>
    obtain ⟨k, hk, rfl, ⟨nd, rfl⟩, hnot⟩ := hrel
    obtain ⟨_, _, _, q3, _, _⟩ := row5 (HBx.out (.cells #[.int .i64 k0, .int .i64 n0, .slice a2 l2 p2, .slice a3 ks.length p3, .slice a4 l4 p4] 26) nd)
    have HNot := hide' hnot
    clear hnot
    by_cases hlt : k < ks.length
    · have hlt' : (k : Int) < (ks.length : Int) := by omega
      have hk0 : (0 : Int) ≤ (k : Int) := Int.natCast_nonneg _
      obtain ⟨kb, ko, rfl, hat⟩ := (HKS.out (.cells #[.int .i64 k0, .int .i64 n0, .slice a2 l2 p2, .slice a3 ks.length p3, .slice a4 l4 p4] 26) nd).at hlt
      obtain ⟨s2, e2, hu, g2, m2⟩ := hat k hlt
      have hsg := HSg.out (.cells #[.int .i64 k0, .int .i64 n0, .slice a2 l2 p2, .slice (some ⟨kb, ko, none⟩) ks.length p3, .slice a4 l4 p4] 26) nd
      generalize hwr : ((w.alloc (.cells #[.int .i64 k0, .int .i64 n0, .slice a2 l2 p2, .slice (some ⟨kb, ko, none⟩) ks.length p3, .slice a4 l4 p4] 26)).drewN nd) = wr at *
      have hcv2 : ∀ n, (convert 22 9 (.slice s2 (ks.getD k []).length e2)).run Try.prog (wr.drewN n) = .ok (.string (strOf (ks.getD k []))) (wr.drewN n) := fun n => conv_seg (w := wr.drewN n) e2 g2
      have hcv3 : ∀ n, (convert 22 9 (.slice ka key.length kc)).run Try.prog (wr.drewN n) = .ok (.string (strOf key)) (wr.drewN n) := fun n => conv_seg (w := wr.drewN n) kc hsg
      have hE := strOf_eq g2.1 hsg.1
      have HB : Hid (∀ n, Below w.heap.size w (wr.drewN n)) := by
        intro n
        rw [← hwr]
        exact below_drewN (below_drewN (HB0.out _) nd) n
      have HW : Hid (∀ n, ∃ n', wr.drewN n = (w.alloc (.cells #[.int .i64 k0, .int .i64 n0, .slice a2 l2 p2, .slice (some ⟨kb, ko, none⟩) ks.length p3, .slice a4 l4 p4] 26)).drewN n') := fun n => ⟨nd + n, by rw [← hwr]; simp [World.drewN, Nat.add_assoc]⟩
      by_cases he : ks.getD k [] = key
      · have hF := hide' (findK_at hlt HNot.out he)
        rw [decide_eq_true he] at hE
        generalize ks.getD k [] = xs at *
        clear hat g2 hsg hwr he HNot HKS HSg
        go_wp2_with fail
        go_quiet (fail)
        go_wp2
        go_ret
        exact ⟨ret_i64 hF.out.symm, HB.out _⟩
      · have hNot' : Hid (∀ i, i < k + 1 → ks.getD i [] ≠ key) := fun i hi => by
          by_cases e : i = k
          · subst e; exact he
          · exact HNot.out i (by omega)
        rw [decide_eq_false he] at hE
        generalize ks.getD k [] = xs at *
        clear hat g2 hsg hwr he HNot HKS HSg
        go_wp2_with fail
        go_quiet (fail)
        go_wp2
        go_roundw
        case rel => exact ⟨k + 1, by omega, by go_num, HW.out _, hNot'.out⟩
        case measure => simp [intOf]; omega
    · have hkn : k = ks.length := by omega
      subst hkn
      have hlt' : ¬ (ks.length : Int) < (ks.length : Int) := by omega
      have hF := hide' (findK_no HNot.out)
      clear HNot HKS HSg
      go_wp2
      go_ret
      exact ⟨ret_i64 hF.out.symm, below_drewN (HB0.out _) _⟩
end Go.Proofs.Yteiahjknlcmloaa
