/-
  Texts that a law leans on, one behind the other; no statement is proved here.
-/
import Derived.Test.YtpknhmegoldppaaPk4
import Derived.Test.YtpknhmegoldppaaPk5
import Derived.Test.YtpknhmegoldppaaPk23
import Derived.Test.YtpknhmegoldppaaPk6
import Derived.Deep.RegionHeld3
import Derived.Test.YtpknhmegoldppaaPk3
import Derived.Test.YtpknhmegoldppaaPk8
/-
  FnExactAt answers true, whatever value and path it is handed, once both calls' ends are known.
-/
namespace Go.Proofs.Ytpknhmegoldppaa
open Go.RowKit
set_option linter.unusedVariables false
set_option linter.unusedSimpArgs false

set_option maxHeartbeats 12800000 in
set_option maxRecDepth 100000 in
theorem walk_at (d D : Nat) (v : Vl (d + 1)) (a : Vl (D + 1)) (bb : Bool) (l : List Stp) (x : Value) (c0 c1 c2 c3 c4 : Value) (w : World) (hv : VSeg (fun b => b < w.heap.size) w (d + 1) (c0, c1, c2, c3, c4) v) (hS : PthSeg (fun b => b < w.heap.size) w x l) (hkl : szP l + szV (d + 1) v ≤ 1048576) (hza : szV (D + 1) a ≤ 1048576) (hz : szV (d + 1) v ≤ 1048576)
    (HSp : Hid (∀ u0 u1 u2 u3 u4 B wx wy z Bz, VOwn wx (d + 1) (u0, u1, u2, u3, u4) v B → Below wx.heap.size wx wy → PthOwn wy z l Bz → Calls Try.prog 19 #[.agg #[u0, u1, u2, u3, u4], z] wy (Ans D a bb wy)))
    (HIm : Hid (∀ u0 u1 u2 u3 u4 B wx wy z Bz, VOwn wx (d + 1) (u0, u1, u2, u3, u4) v B → Below wx.heap.size wx wy → PthOwn wy z l Bz → Calls Try.prog 21 #[.agg #[u0, u1, u2, u3, u4], z] wy (Ans D a bb wy))) :
    Calls Try.prog 5 #[.agg #[c0, c1, c2, c3, c4], x] w fun e w' => e = .returned (.bool true) ∧ Below w.heap.size w w' := by
  have b0 : ∀ o : Obj, Below w.heap.size w (w.alloc o) := fun o => (Below.refl _ _).alloc (Nat.le_refl _) o
  have HV : Hid (∀ wx, Below w.heap.size w wx → VSeg (fun b => b < w.heap.size) wx (d + 1) (c0, c1, c2, c3, c4) v) := fun wx hb => VSeg.agree (agree_below hb) (d + 1) hv
  have HS : Hid (∀ wx, Below w.heap.size w wx → Calls Try.prog 6 #[.agg #[c0, c1, c2, c3, c4], .int .i64 1048576] wx fun e w' => e = .returned (.int .i64 (less 1048576 (szV (d + 1) v))) ∧ Below wx.heap.size wx w') := fun wx hb =>
    szValue_any (d + 1) w.heap.size (c0, c1, c2, c3, c4) v 1048576 wx (HV.out wx hb) hb.size (by omega) (by omega)
  have Hbox : Hid (∀ o wx, Below (w.alloc o).heap.size (w.alloc o) wx → wx.heap[w.heap.size]? = some o) := fun o wx h => box_row h
  have Hb := hide' b0
  have hcv := cV_le d v
  have hca := cV_le D a
  obtain ⟨ck, cn, a2, l2, p2, a3, l3, p3, a4, l4, p4, rfl, rfl, rfl, rfl, rfl⟩ := VSeg.form (d + 1) hv
  have HKS : Hid (∀ wx, Below w.heap.size w wx → PthSeg (fun b => b < w.heap.size) wx x l) := fun wx hb => hS.agree (agree_below hb)
  have HSP : Hid (∀ wx, Below w.heap.size w wx → Calls Try.prog 18 #[x, .int .i64 (1048576 - szV (d + 1) v)] wx fun e w' => e = .returned (.int .i64 (less (1048576 - szV (d + 1) v) (szP l))) ∧ Below wx.heap.size wx w') := fun wx hb => szStepS_any w.heap.size x l _ wx (HKS.out wx hb) hb.size (by omega) (by omega)
  have hcp := cStp_le l
  have HT : Hid (∀ wx, Below w.heap.size w wx → Calls Try.prog 8 #[.agg #[.int .i64 ck, .int .i64 cn, .slice a2 l2 p2, .slice a3 l3 p3, .slice a4 l4 p4]] wx fun e w' => ∃ c0 c1 c2 c3 c4, e = .returned (.agg #[c0, c1, c2, c3, c4]) ∧ ∃ B, VOwn w' (d + 1) (c0, c1, c2, c3, c4) v B ∧ (∀ b ∈ B, wx.heap.size ≤ b ∧ b < w'.heap.size) ∧ Below wx.heap.size wx w') := fun wx hb => toValue_any (d + 1) w.heap.size (.int .i64 ck, .int .i64 cn, .slice a2 l2 p2, .slice a3 l3 p3, .slice a4 l4 p4) v wx (HV.out wx hb) hb.size hz
  have HTB : Hid (∀ wx, Below w.heap.size w wx → Calls Try.prog 20 #[x] wx fun e w' => ∃ g c, e = .returned (.slice (some ⟨g, 0, none⟩) l.length c) ∧ ∃ B, PthOwn w' (.slice (some ⟨g, 0, none⟩) l.length c) l B ∧ (∀ b ∈ B, wx.heap.size ≤ b ∧ b < w'.heap.size) ∧ Below wx.heap.size wx w') := fun wx hb => (toStepS_any w.heap.size x l wx (HKS.out wx hb) hb.size (by omega)).mono fun e w' h => by
    obtain ⟨u, rfl, B, hO, hB, hb'⟩ := h
    obtain ⟨g, c, rfl⟩ := hO.form
    exact ⟨g, c, rfl, B, hO, hB, hb'⟩
  have HEq : Hid (∀ (N : Nat) (c c' : Value × Value × Value × Value × Value) (wx : World), VSeg (fun b => b < N) wx (d + 1) c v → VSeg (fun b => b < N) wx (d + 1) c' v → N ≤ wx.heap.size → Calls Try.prog 11 #[.agg #[c.1, c.2.1, c.2.2.1, c.2.2.2.1, c.2.2.2.2], .agg #[c'.1, c'.2.1, c'.2.2.1, c'.2.2.2.1, c'.2.2.2.2]] wx fun e w' => e = .returned (.bool true) ∧ Below wx.heap.size wx w') := fun N c c' wx h h' hN => eqValue_any (d + 1) N c c' v wx h h' hN hz
  have HEA : Hid (∀ (u0 u1 u2 u3 u4 v0 v1 v2 v3 v4 : Value) (B B' : List Nat) (wx : World), VOwn wx (D + 1) (u0, u1, u2, u3, u4) a B → VOwn wx (D + 1) (v0, v1, v2, v3, v4) a B' → Calls Try.prog 11 #[.agg #[u0, u1, u2, u3, u4], .agg #[v0, v1, v2, v3, v4]] wx fun e w' => e = .returned (.bool true) ∧ Below wx.heap.size wx w') := fun u0 u1 u2 u3 u4 v0 v1 v2 v3 v4 B B' wx h h' => eqValue_any (D + 1) wx.heap.size (u0, u1, u2, u3, u4) (v0, v1, v2, v3, v4) a wx h.read h'.read (Nat.le_refl _) hza
  have HEB : Hid (∀ (y z : Value) (By Bz : List Nat) (wx : World), PthOwn wx y l By → PthOwn wx z l Bz → Calls Try.prog 22 #[y, z] wx fun e w' => e = .returned (.bool true) ∧ Below wx.heap.size wx w') := fun y z By Bz wx h h' => eqStepS_same wx.heap.size y z l wx (h.below (Below.refl _ _)) (h'.below (Below.refl _ _)) (Nat.le_refl _) (by omega)
  have HM : Hid (∀ x0 x1 x2 x3 x4 B wx, VOwn wx (d + 1) (x0, x1, x2, x3, x4) v B → Calls Try.prog 13 #[.agg #[x0, x1, x2, x3, x4], .int .i64 1] wx fun e w' => e = .returned (.int .i64 ((1 + cV d v : Nat) : Int)) ∧ Turned B wx w') := fun x0 x1 x2 x3 x4 B wx h => (markValue_any d x0 x1 x2 x3 x4 v B 1 wx h hz (by omega)).mono fun e w' h => ⟨h.1, h.2.2⟩
  have HMB : Hid (∀ z B (q : Nat) wx, q ≤ 2097153 → PthOwn wx z l B → Calls Try.prog 23 #[z, .int .i64 q] wx fun e w' => e = .returned (.int .i64 ((q + (l.map cStp).sum : Nat) : Int)) ∧ Turned B wx w') := fun z B q wx hq h => (markStepS_any z l B q wx h (by omega) (by omega)).mono fun e w' h => ⟨h.1, h.2.2⟩
  have HMA : Hid (∀ x0 x1 x2 x3 x4 B wx, VOwn wx (D + 1) (x0, x1, x2, x3, x4) a B → Calls Try.prog 13 #[.agg #[x0, x1, x2, x3, x4], .int .i64 1] wx fun e w' => e = .returned (.int .i64 ((1 + cV D a : Nat) : Int)) ∧ VOwn w' (D + 1) (x0, x1, x2, x3, x4) (mkV D a 1) B ∧ Turned B wx w') := fun x0 x1 x2 x3 x4 B wx h => markValue_any D x0 x1 x2 x3 x4 a B 1 wx h hza (by omega)
  have HHA : Hid (∀ x0 x1 x2 x3 x4 B wx, VOwn wx (D + 1) (x0, x1, x2, x3, x4) (mkV D a 1) B → Calls Try.prog 15 #[.agg #[x0, x1, x2, x3, x4], .int .i64 1] wx fun e w' => e = .returned (.int .i64 ((1 + cV D a : Nat) : Int)) ∧ Below wx.heap.size wx w') := fun x0 x1 x2 x3 x4 B wx h => heldValue_any D wx.heap.size x0 x1 x2 x3 x4 a 1 wx h.read (Nat.le_refl _) hza (by omega)
  have hl : less 1048576 (szV (d + 1) v) = 1048576 - szV (d + 1) v := less_yes _ _ (by omega)
  rw [hl] at HS
  have hz0 : 0 ≤ (1048576 : Int) - szV (d + 1) v := by omega
  have hz1 : (1048576 : Int) - szV (d + 1) v ≤ 1048576 := by omega
  have hcd : cV d v ≤ 2097152 := by omega
  have hl2 : less (1048576 - szV (d + 1) v) (szP l) = 1048576 - szV (d + 1) v - szP l := less_yes _ _ (by omega)
  rw [hl2] at HSP
  have hz2 : 0 ≤ (1048576 : Int) - szV (d + 1) v - szP l := by omega
  have hz3 : (1048576 : Int) - szV (d + 1) v - szP l ≤ 1048576 := by omega
  obtain ⟨xa, xc, rfl, -, hxm, -⟩ := hS
  have hcpp : (l.map cStp).sum ≤ 2097152 := by omega
  generalize hsz' : szV (d + 1) v = sz at *
  generalize hspp : szP l = sp at *
  generalize hcn : cV d v = cn1 at *
  generalize hcm : cV D a = cn2 at *
  generalize hkn : (l.map cStp).sum = kn at *
  generalize hln : l.length = ln at *
  generalize hq1 : 1 + cn1 = q1 at *
  generalize hq2 : 1 + cn2 = q2 at *
  have hq1' : q1 ≤ 2097153 := by omega
  have HMC := hide' (fun z B wx => HMB.out z B q1 wx hq1')
  generalize hq3 : q1 + kn = q3 at *
  have hq2' : 0 ≤ (q2 : Int) := by omega
  have hq3' : 0 ≤ (q3 : Int) := by omega
  clear HMB hq1 hq2 hq3 hq1' hl hl2 HV hcv hca hcp hcpp hsz' hspp hcn hcm hkn hln b0 hv hza hz hkl hxm HKS
  go_enter Try.func5, Try.ntmps5
  go_wp2_with fail
  refine (HS.out _ (Hb.out _)).mono ?_
  rintro e w1 ⟨rfl, b1⟩
  have B1 := Below.on (Hb.out _) b1
  obtain ⟨y0, y1, y2, y3, y4, _⟩ := row5 (Hbox.out _ _ b1)
  have HSP1 := hide' (HSP.out w1 B1)
  have Hb10 := hide' b1
  clear b1 B1 HS HSP y0 y1 y2 y3 y4
  go_wp2_with fail
  refine HSP1.out.mono ?_
  rintro e w1' ⟨rfl, b1⟩
  have b1' := Below.on Hb10.out b1
  have B1 := Below.on (Hb.out _) b1'
  obtain ⟨y0, y1, y2, y3, y4, _⟩ := row5 (Hbox.out _ _ b1')
  have HT1 := hide' (HT.out w1' B1)
  have Hb1 := hide' b1'
  clear b1 b1' B1 HSP1 Hb10
  go_wp2_with fail
  refine HT1.out.mono ?_
  rintro e w2a ⟨u0, u1, u2, u3, u4, rfl, B, hO2, hB2, b2⟩
  have b12a := hide' (Below.on Hb1.out b2)
  have HTBa := hide' (HTB.out w2a (Below.on (Hb.out _) b12a.out))
  have HO2 := hide' hO2
  clear HT1 Hb1 hO2 hB2 b2 y0 y1 y2 y3 y4
  go_wp2_with fail
  refine HTBa.out.mono ?_
  rintro e w2 ⟨kg2, kc2, rfl, Bk2, hK2, hBk2, bk2⟩
  have hS2 := hide' (HSp.out _ _ _ _ _ _ _ _ _ _ HO2.out bk2 hK2)
  have b12 := hide' (Below.on b12a.out bk2)
  clear HTBa HO2 b12a hK2 hBk2 bk2
  go_wp2_with fail
  refine hS2.out.mono ?_
  rintro e w3 ⟨W0, W1, W2, W3, W4, rfl, Bw, hW3, hBw, b3⟩
  obtain ⟨wk, wn, t2, g2, h2, t3, g3, h3, t4, g4, h4, rfl, rfl, rfl, rfl, rfl⟩ := VOwn.form (D + 1) hW3
  have balW : Below w3.heap.size w3 (w3.alloc (.cells #[.int .i64 wk, .int .i64 wn, .slice t2 g2 h2, .slice t3 g3 h3, .slice t4 g4 h4] 30)) := (Below.refl _ _).alloc (Nat.le_refl _) _
  have b13 := Below.on (Below.on b12.out b3) balW
  obtain ⟨y0, y1, y2, y3, y4, _⟩ := row5 (Hbox.out _ _ b13)
  have HT3 := hide' (HT.out _ (Below.on (Hb.out _) b13))
  have HZ3 : Hid (w.heap.size + 1 ≤ w2.heap.size) := hide' (by have h := b12.out.size; simpa using h)
  have HW3 := hide' (hW3.on balW)
  have HrW : Hid ((w3.alloc (.cells #[.int .i64 wk, .int .i64 wn, .slice t2 g2 h2, .slice t3 g3 h3, .slice t4 g4 h4] 30)).heap[w3.heap.size]? = some (.cells #[.int .i64 wk, .int .i64 wn, .slice t2 g2 h2, .slice t3 g3 h3, .slice t4 g4 h4] 30)) := (MapKept.heap_alloc w3 _).1
  have HBw := hide' hBw
  have Hb13 := hide' b13
  have hz23 : w2.heap.size ≤ w3.heap.size := b3.size
  clear b12 b3 b13 hS2 hW3 hBw balW
  go_wp2_with fail
  refine HT3.out.mono ?_
  rintro e w4 ⟨x0, x1, x2, x3, x4, rfl, B4, hO4, hB4, b4⟩
  obtain ⟨xk, xn, s2, m2, q2, s3, m3, q3, s4, m4, q4, rfl, rfl, rfl, rfl, rfl⟩ := VOwn.form (d + 1) hO4
  have bal : Below w4.heap.size w4 (w4.alloc (.cells #[.int .i64 xk, .int .i64 xn, .slice s2 m2 q2, .slice s3 m3 q3, .slice s4 m4 q4] 30)) := (Below.refl _ _).alloc (Nat.le_refl _) _
  have HO4 := hide' (hO4.on bal)
  have HB4 : Hid (∀ b ∈ B4, w3.heap.size + 1 ≤ b ∧ b < w4.heap.size) := fun b hb => by have := hB4 b hb; simp at this; exact this
  have Hb14 := hide' (Below.on (Below.on Hb13.out b4) bal)
  have HW4 := hide' ((HW3.out.on b4).on bal)
  have HrW4 := hide' (row_on (row_on HrW.out b4) bal)
  have HrX : Hid ((w4.alloc (.cells #[.int .i64 xk, .int .i64 xn, .slice s2 m2 q2, .slice s3 m3 q3, .slice s4 m4 q4] 30)).heap[w4.heap.size]? = some (.cells #[.int .i64 xk, .int .i64 xn, .slice s2 m2 q2, .slice s3 m3 q3, .slice s4 m4 q4] 30)) := (MapKept.heap_alloc w4 _).1
  have hz34 : w3.heap.size + 1 ≤ w4.heap.size := by have := b4.size; simpa using this
  have HTB4 := hide' (HTB.out _ (Below.on (Hb.out _) Hb14.out))
  clear hO4 hB4 b4 bal HT3 Hb13 HW3 HrW y0 y1 y2 y3 y4
  go_wp2_with fail
  refine HTB4.out.mono ?_
  rintro e w5 ⟨kg5, kc5, rfl, Bk5, hK5, hBk5, b5⟩
  simp only [World.size_alloc] at hBk5
  have hx5 := row_on HrX.out b5
  obtain ⟨v0, v1, v2, v3, v4, _⟩ := row5 hx5
  have hI5 := hide' (HIm.out _ _ _ _ _ _ _ _ _ _ HO4.out b5 hK5)
  have HK5 := hide' hK5
  have HO5 := hide' (HO4.out.on b5)
  have HW5 := hide' (HW4.out.on b5)
  have HrW5 := hide' (row_on HrW4.out b5)
  have HrX5 := hide' hx5
  have Hb15 := hide' (Below.on Hb14.out b5)
  have HBk5 : Hid (∀ b ∈ Bk5, w4.heap.size + 1 ≤ b ∧ b < w5.heap.size) := hBk5
  have hz45 : w4.heap.size + 1 ≤ w5.heap.size := by have h := b5.size; simpa using h
  clear hK5 hBk5 b5 hx5 HTB4 HO4 HW4 HrW4 HrX Hb14
  go_wp2_with fail
  refine hI5.out.mono ?_
  rintro e w6 ⟨G0, G1, G2, G3, G4, rfl, Bg, hG6, hBg, b6⟩
  obtain ⟨gk, gn, r2, f2, e2, r3, f3, e3, r4, f4, e4, rfl, rfl, rfl, rfl, rfl⟩ := VOwn.form (D + 1) hG6
  have balG : Below w6.heap.size w6 (w6.alloc (.cells #[.int .i64 gk, .int .i64 gn, .slice r2 f2 e2, .slice r3 f3 e3, .slice r4 f4 e4] 30)) := (Below.refl _ _).alloc (Nat.le_refl _) _
  have b56 := Below.on b6 balG
  have hE6 := hide' (HEA.out _ _ _ _ _ _ _ _ _ _ _ _ _ (hG6.on balG) (HW5.out.on b56))
  have HG6 := hide' (hG6.on balG)
  have HW6 := hide' (HW5.out.on b56)
  have HO6 := hide' (HO5.out.on b56)
  have HK6 := hide' (HK5.out.on b56)
  have HrW6 := hide' (row_on HrW5.out b56)
  have HrX6 := hide' (row_on HrX5.out b56)
  have HrG6 : Hid ((w6.alloc (.cells #[.int .i64 gk, .int .i64 gn, .slice r2 f2 e2, .slice r3 f3 e3, .slice r4 f4 e4] 30)).heap[w6.heap.size]? = some (.cells #[.int .i64 gk, .int .i64 gn, .slice r2 f2 e2, .slice r3 f3 e3, .slice r4 f4 e4] 30)) := (MapKept.heap_alloc w6 _).1
  have Hb16 := hide' (Below.on Hb15.out b56)
  have HBg := hide' hBg
  have hz56 : w5.heap.size ≤ w6.heap.size := b6.size
  obtain ⟨i0, i1, i2, i3, i4, _⟩ := row5 HrW6.out
  obtain ⟨jj0, jj1, jj2, jj3, jj4, _⟩ := row5 HrG6.out
  clear hI5 hG6 hBg b6 balG b56 HW5 HO5 HK5 HrW5 HrX5 Hb15 v0 v1 v2 v3 v4
  go_wp2_with fail
  refine hE6.out.mono ?_
  rintro e w7 ⟨rfl, b7⟩
  have B17 := Below.on Hb16.out b7
  have hx7 := row_on HrX6.out b7
  have hz7 : w4.heap.size < w7.heap.size := (Array.getElem?_eq_some_iff.1 hx7).1
  obtain ⟨y0, y1, y2, y3, y4, _⟩ := row5 (Hbox.out _ _ B17)
  obtain ⟨v0, v1, v2, v3, v4, _⟩ := row5 hx7
  have hO7 := HO6.out.on b7
  have HCel : Hid (∀ wy, Below w7.heap.size w7 wy → (wy.cell? ⟨w.heap.size, 0, none⟩ = some (.int .i64 ck) ∧ wy.cell? ⟨w.heap.size, 1, none⟩ = some (.int .i64 cn) ∧ wy.cell? ⟨w.heap.size, 2, none⟩ = some (.slice a2 l2 p2) ∧ wy.cell? ⟨w.heap.size, 3, none⟩ = some (.slice a3 l3 p3) ∧ wy.cell? ⟨w.heap.size, 4, none⟩ = some (.slice a4 l4 p4) ∧ wy.cell? ⟨w4.heap.size, 0, none⟩ = some (.int .i64 xk) ∧ wy.cell? ⟨w4.heap.size, 1, none⟩ = some (.int .i64 xn) ∧ wy.cell? ⟨w4.heap.size, 2, none⟩ = some (.slice s2 m2 q2) ∧ wy.cell? ⟨w4.heap.size, 3, none⟩ = some (.slice s3 m3 q3) ∧ wy.cell? ⟨w4.heap.size, 4, none⟩ = some (.slice s4 m4 q4))) := by
    intro wy hy
    obtain ⟨f0, f1, f2, f3, f4, _⟩ := row5 (Hbox.out _ _ (Below.on B17 hy))
    obtain ⟨g0, g1, g2, g3, g4, _⟩ := row5 (row_on hx7 hy)
    exact ⟨f0, f1, f2, f3, f4, g0, g1, g2, g3, g4⟩
  have HTd : Hid (Calls Try.prog 8 #[.agg #[.int .i64 ck, .int .i64 cn, .slice a2 l2 p2, .slice a3 l3 p3, .slice a4 l4 p4]] w7.drew fun e w8 => ∃ z0 z1 z2 z3 z4, e = .returned (.agg #[z0, z1, z2, z3, z4]) ∧ (w8.cell? ⟨w.heap.size, 0, none⟩ = some (.int .i64 ck) ∧ w8.cell? ⟨w.heap.size, 1, none⟩ = some (.int .i64 cn) ∧ w8.cell? ⟨w.heap.size, 2, none⟩ = some (.slice a2 l2 p2) ∧ w8.cell? ⟨w.heap.size, 3, none⟩ = some (.slice a3 l3 p3) ∧ w8.cell? ⟨w.heap.size, 4, none⟩ = some (.slice a4 l4 p4) ∧ w8.cell? ⟨w4.heap.size, 0, none⟩ = some (.int .i64 xk) ∧ w8.cell? ⟨w4.heap.size, 1, none⟩ = some (.int .i64 xn) ∧ w8.cell? ⟨w4.heap.size, 2, none⟩ = some (.slice s2 m2 q2) ∧ w8.cell? ⟨w4.heap.size, 3, none⟩ = some (.slice s3 m3 q3) ∧ w8.cell? ⟨w4.heap.size, 4, none⟩ = some (.slice s4 m4 q4)) ∧
      Hid (Calls Try.prog 11 #[.agg #[.int .i64 xk, .int .i64 xn, .slice s2 m2 q2, .slice s3 m3 q3, .slice s4 m4 q4], .agg #[z0, z1, z2, z3, z4]] w8 fun e w9 => e = .returned (.bool true) ∧ (w9.cell? ⟨w.heap.size, 0, none⟩ = some (.int .i64 ck) ∧ w9.cell? ⟨w.heap.size, 1, none⟩ = some (.int .i64 cn) ∧ w9.cell? ⟨w.heap.size, 2, none⟩ = some (.slice a2 l2 p2) ∧ w9.cell? ⟨w.heap.size, 3, none⟩ = some (.slice a3 l3 p3) ∧ w9.cell? ⟨w.heap.size, 4, none⟩ = some (.slice a4 l4 p4) ∧ w9.cell? ⟨w4.heap.size, 0, none⟩ = some (.int .i64 xk) ∧ w9.cell? ⟨w4.heap.size, 1, none⟩ = some (.int .i64 xn) ∧ w9.cell? ⟨w4.heap.size, 2, none⟩ = some (.slice s2 m2 q2) ∧ w9.cell? ⟨w4.heap.size, 3, none⟩ = some (.slice s3 m3 q3) ∧ w9.cell? ⟨w4.heap.size, 4, none⟩ = some (.slice s4 m4 q4)) ∧ Hid (Below w7.heap.size w7 w9))) := by
    refine (HT.out w7.drew (Below.on (Hb.out _) B17).drew).mono ?_
    rintro e w8 ⟨z0, z1, z2, z3, z4, rfl, B8, hO8, hB8, b8⟩
    have b78 : Below w7.heap.size w7 w8 := Below.on (Below.refl _ w7).drew b8
    refine ⟨z0, z1, z2, z3, z4, rfl, HCel.out _ b78, ?_⟩
    exact (HEq.out w8.heap.size (.int .i64 xk, .int .i64 xn, .slice s2 m2 q2, .slice s3 m3 q3, .slice s4 m4 q4) (z0, z1, z2, z3, z4) w8 (VSeg.mono (fun b hb => Nat.lt_of_lt_of_le hb b78.size) (d + 1) (hO7.below b78)) (hO8.below (Below.refl _ _)) (Nat.le_refl _)).mono fun e w9 h => ⟨h.1, HCel.out _ (Below.on b78 h.2), Below.on b78 h.2⟩
  have HB17 := hide' B17
  have HO7 := hide' hO7
  have HG7 := hide' (HG6.out.on b7)
  have HW7 := hide' (HW6.out.on b7)
  have HK7 := hide' (HK6.out.on b7)
  have HrW7 := hide' (row_on HrW6.out b7)
  have HrX7 := hide' hx7
  have HrG7 := hide' (row_on HrG6.out b7)
  clear hE6 hx7 hO7 b7 B17 HO6 Hb16 HG6 HW6 HK6 HrW6 HrX6 HrG6 i0 i1 i2 i3 i4
  go_wp2_with fail
  go_region_held3 (fun wx => (wx.cell? ⟨w.heap.size, 0, none⟩ = some (.int .i64 ck) ∧ wx.cell? ⟨w.heap.size, 1, none⟩ = some (.int .i64 cn) ∧ wx.cell? ⟨w.heap.size, 2, none⟩ = some (.slice a2 l2 p2) ∧ wx.cell? ⟨w.heap.size, 3, none⟩ = some (.slice a3 l3 p3) ∧ wx.cell? ⟨w.heap.size, 4, none⟩ = some (.slice a4 l4 p4) ∧ wx.cell? ⟨w4.heap.size, 0, none⟩ = some (.int .i64 xk) ∧ wx.cell? ⟨w4.heap.size, 1, none⟩ = some (.int .i64 xn) ∧ wx.cell? ⟨w4.heap.size, 2, none⟩ = some (.slice s2 m2 q2) ∧ wx.cell? ⟨w4.heap.size, 3, none⟩ = some (.slice s3 m3 q3) ∧ wx.cell? ⟨w4.heap.size, 4, none⟩ = some (.slice s4 m4 q4))) (go_keep) (first
    | (go_at_call 8; refine HTd.out.mono ?_; rintro e w8 ⟨z0, z1, z2, z3, z4, rfl, ⟨i0, i1, i2, i3, i4, i5, i6, i7, i8, i9⟩, hE8⟩)
    | (go_at_call 11; refine hE8.out.mono ?_; rintro e w9 ⟨rfl, ⟨j0, j1, j2, j3, j4, j5, j6, j7, j8, j9⟩, hb9⟩))
  clear y0 y1 y2 y3 y4 v0 v1 v2 v3 v4 i0 i1 i2 i3 i4 i5 i6 i7 i8 i9 hE8 HTd HCel HEq j0 j1 j2 j3 j4 j5 j6 j7 j8 j9
  have HB19 := hide' (Below.on HB17.out hb9.out)
  have HG9 := hide' (HG7.out.on hb9.out)
  have HW9 := hide' (HW7.out.on hb9.out)
  have HO9 := hide' (HO7.out.on hb9.out)
  have HK9 := hide' (HK7.out.on hb9.out)
  have HrW9 := hide' (row_on HrW7.out hb9.out)
  have HrX9 := hide' (row_on HrX7.out hb9.out)
  have HrG9 := hide' (row_on HrG7.out hb9.out)
  have HTB9 := hide' (HTB.out w9 (Below.on (Hb.out _) HB19.out))
  clear HG7 HW7 HO7 HK7 HrW7 HrX7 HrG7 HB17 hb9
  go_wp2_with fail
  refine HTB9.out.mono ?_
  rintro e w10 ⟨kg10, kc10, rfl, Bk10, hK10, hBk10, b10⟩
  have hE10 := HEB.out _ _ _ _ w10 (HK9.out.on b10) hK10
  replace hE10 := hide' hE10
  have HB110 := hide' (Below.on HB19.out b10)
  have Hb910 := hide' b10
  clear HTB9 hK10 hBk10 b10 HB19
  go_wp2_with fail
  refine hE10.out.mono ?_
  rintro e w11 ⟨rfl, b11⟩
  have b911 := Below.on Hb910.out b11
  have hx11 := row_on HrX9.out b911
  obtain ⟨v0, v1, v2, v3, v4, _⟩ := row5 hx11
  have hM11 := hide' (HM.out _ _ _ _ _ _ _ (HO9.out.on b911))
  have HG11 := hide' (HG9.out.on b911)
  have HW11 := hide' (HW9.out.on b911)
  have HK11 := hide' (HK9.out.on b911)
  have HrW11 := hide' (row_on HrW9.out b911)
  have HrG11 := hide' (row_on HrG9.out b911)
  have HB111 := hide' (Below.on HB110.out b11)
  clear hE10 b11 b911 hx11 Hb910 HB110 HG9 HW9 HO9 HK9 HrW9 HrX9 HrG9
  go_wp2_with fail
  refine hM11.out.mono ?_
  rintro e w12 ⟨rfl, hT12⟩
  have HG12 := hide' (HG11.out.far hT12 (fun b hb hm => by have h1 := HBg.out b hb; have h2 := HB4.out b hm; omega))
  have HW12 := hide' (HW11.out.far hT12 (fun b hb hm => by have h1 := HBw.out b hb; have h2 := HB4.out b hm; omega))
  have HrW12 := hide' (row_far HrW11.out hT12 (fun hm => by have h2 := HB4.out _ hm; omega))
  have HrG12 := hide' (row_far HrG11.out hT12 (fun hm => by have h2 := HB4.out _ hm; omega))
  have hK12 := HK11.out.far hT12 (fun b hb hm => by have h1 := HBk5.out b hb; have h2 := HB4.out b hm; omega)
  have HB112 := hide' (Turned.below HB111.out hT12 (Nat.le_refl _) (fun b hb => by have h1 := HB4.out b hb; have h2 := HZ3.out; rw [World.size_alloc]; omega))
  have hM12 := hide' (HMC.out _ _ _ hK12)
  clear hM11 hT12 HG11 HW11 HK11 HrW11 HrG11 HB111 hK12 v0 v1 v2 v3 v4
  go_wp2_with fail
  refine hM12.out.mono ?_
  rintro e w13 ⟨rfl, hT13⟩
  have hG13 := HG12.out.far hT13 (fun b hb hm => by have h1 := HBg.out b hb; have h2 := HBk5.out b hm; omega)
  have hW13 := HW12.out.far hT13 (fun b hb hm => by have h1 := HBw.out b hb; have h2 := HBk5.out b hm; omega)
  have hrW13 := row_far HrW12.out hT13 (fun hm => by have h2 := HBk5.out _ hm; omega)
  have hrG13 := row_far HrG12.out hT13 (fun hm => by have h2 := HBk5.out _ hm; omega)
  have HB113 := hide' (Turned.below HB112.out hT13 (Nat.le_refl _) (fun b hb => by have h2 := HZ3.out; have h3 := HBk5.out b hb; rw [World.size_alloc]; omega))
  obtain ⟨i0, i1, i2, i3, i4, _⟩ := row5 hrW13
  obtain ⟨j0, j1, j2, j3, j4, _⟩ := row5 hrG13
  have hE13 := hide' (HEA.out _ _ _ _ _ _ _ _ _ _ _ _ _ hG13 hW13)
  have HG13 := hide' hG13
  have HW13 := hide' hW13
  have HrW13 := hide' hrW13
  have HrG13 := hide' hrG13
  clear hM12 hT13 HG12 HW12 HrW12 HrG12 HB112 hG13 hW13 hrW13 hrG13
  go_wp2_with fail
  refine hE13.out.mono ?_
  rintro e w14 ⟨rfl, b14⟩
  have hrG14 := row_on HrG13.out b14
  obtain ⟨k0, k1, k2, k3, k4, _⟩ := row5 hrG14
  have hM14 := hide' (HMA.out _ _ _ _ _ _ _ (HG13.out.on b14))
  have HW14 := hide' (HW13.out.on b14)
  have HrW14 := hide' (row_on HrW13.out b14)
  have HrG14 := hide' hrG14
  have HB114 := hide' (Below.on HB113.out b14)
  clear hE13 b14 hrG14 HG13 HW13 HrW13 HrG13 HB113 i0 i1 i2 i3 i4 j0 j1 j2 j3 j4
  go_wp2_with fail
  refine hM14.out.mono ?_
  rintro e w15 ⟨rfl, hG15, hT15⟩
  have hrG15 := row_far HrG14.out hT15 (fun hm => by have h2 := HBg.out _ hm; omega)
  have HW15 := hide' (HW14.out.far hT15 (fun b hb hm => by have h1 := HBw.out b hb; have h2 := HBg.out b hm; omega))
  have HrW15 := hide' (row_far HrW14.out hT15 (fun hm => by have h2 := HBg.out _ hm; omega))
  have HB115 := hide' (Turned.below HB114.out hT15 (Nat.le_refl _) (fun b hb => by have h1 := HBg.out b hb; have h2 := HZ3.out; rw [World.size_alloc]; omega))
  obtain ⟨j0, j1, j2, j3, j4, _⟩ := row5 hrG15
  have hH15 := hide' (HHA.out _ _ _ _ _ _ _ hG15)
  have HG15 := hide' hG15
  have HrG15 := hide' hrG15
  clear hM14 hT15 hG15 hrG15 HW14 HrW14 HrG14 HB114 k0 k1 k2 k3 k4
  go_wp2_with fail
  refine hH15.out.mono ?_
  rintro e w16 ⟨rfl, b16⟩
  have HG16 := hide' (HG15.out.on b16)
  have HW16 := hide' (HW15.out.on b16)
  have HrW16 := hide' (row_on HrW15.out b16)
  have HrG16 := hide' (row_on HrG15.out b16)
  have HB116 := hide' (Below.on HB115.out b16)
  obtain ⟨y0, y1, y2, y3, y4, _⟩ := row5 (Hbox.out _ _ HB116.out)
  have HT16 := hide' (HT.out w16 (Below.on (Hb.out _) HB116.out))
  clear hH15 b16 HG15 HW15 HrW15 HrG15 HB115 j0 j1 j2 j3 j4
  go_wp2_with fail
  refine HT16.out.mono ?_
  rintro e w17 ⟨z0, z1, z2, z3, z4, rfl, B17, hO17, hB17, b17⟩
  have Hb17 := hide' b17
  have HO17 := hide' hO17
  have HTB17 := hide' (HTB.out w17 (Below.on (Hb.out _) (Below.on HB116.out b17)))
  clear HT16 hO17 hB17 b17 y0 y1 y2 y3 y4
  go_wp2_with fail
  refine HTB17.out.mono ?_
  rintro e w18 ⟨kg18, kc18, rfl, Bk18, hK18, hBk18, b18⟩
  have hI18 := hide' (HIm.out _ _ _ _ _ _ _ _ _ _ HO17.out b18 hK18)
  have Hb18 := hide' (Below.on Hb17.out b18)
  clear HTB17 HO17 hK18 hBk18 b18 Hb17
  go_wp2_with fail
  refine hI18.out.mono ?_
  rintro e w19 ⟨H0, H1, H2, H3, H4, rfl, Bh, hH19, hBh, b19⟩
  obtain ⟨hk, hn, o2, c2', d2', o3, c3', d3', o4, c4', d4', rfl, rfl, rfl, rfl, rfl⟩ := VOwn.form (D + 1) hH19
  have balH : Below w19.heap.size w19 (w19.alloc (.cells #[.int .i64 hk, .int .i64 hn, .slice o2 c2' d2', .slice o3 c3' d3', .slice o4 c4' d4'] 30)) := (Below.refl _ _).alloc (Nat.le_refl _) _
  have b1619 := Below.on (Below.on Hb18.out b19) balH
  obtain ⟨i0, i1, i2, i3, i4, _⟩ := row5 (row_on HrW16.out b1619)
  have hE19 := hide' (HEA.out _ _ _ _ _ _ _ _ _ _ _ _ _ (hH19.on balH) (HW16.out.on b1619))
  have HG19 := hide' (HG16.out.on b1619)
  have HrG19 := hide' (row_on HrG16.out b1619)
  have HB119 := hide' (Below.on HB116.out b1619)
  clear hI18 Hb18 hH19 hBh b19 balH b1619 HG16 HW16 HrW16 HrG16 HB116
  go_wp2_with fail
  refine hE19.out.mono ?_
  rintro e w20 ⟨rfl, b20⟩
  obtain ⟨j0, j1, j2, j3, j4, _⟩ := row5 (row_on HrG19.out b20)
  have hH20 := hide' (HHA.out _ _ _ _ _ _ _ (HG19.out.on b20))
  have HB120 := hide' (Below.on HB119.out b20)
  clear hE19 b20 HG19 HrG19 HB119 i0 i1 i2 i3 i4
  go_wp2_with fail
  refine hH20.out.mono ?_
  rintro e w21 ⟨rfl, b21⟩
  have HB121 := hide' (Below.on (Hb.out _) (Below.on HB120.out b21))
  clear hH20 b21 HB120 j0 j1 j2 j3 j4
  go_wp2
  go_ret
  exact ⟨rfl, HB121.out⟩
end Go.Proofs.Ytpknhmegoldppaa
/-
  PathOk, of the program and of the specification: of a path it tells whether it may be, and turns nothing old.
-/
namespace Go.Proofs.Ytpknhmegoldppaa
open Go.RowKit
set_option linter.unusedVariables false

/-- A step that may be. -/
def stpB (s : Stp) : Bool := (decide (s.1 = 0) && (nameB s.2.1 && decide (s.2.2 = 0))) || (decide (s.1 = 1) && (decide (s.2.1.length = 0) && decide (0 ≤ s.2.2) && decide (s.2.2 < 40)))
/-- A path that may be. -/
def pathB (l : List Stp) : Bool := decide (l.length ≤ 6) && l.all stpB

theorem stpB_key (ss : List Int) (i : Int) : stpB (0, ss, i) = (nameB ss && decide (i = 0)) := by simp [stpB]
theorem stpB_item (ss : List Int) (i : Int) : stpB (1, ss, i) = (decide (ss.length = 0) && decide (0 ≤ i) && decide (i < 40)) := by simp [stpB]
theorem stpB_none (k : Int) (ss : List Int) (i : Int) (h0 : k ≠ 0) (h1 : k ≠ 1) : stpB (k, ss, i) = false := by simp [stpB, h0, h1]

theorem pathB_long (l : List Stp) (h : 6 < l.length) : pathB l = false := by simp [pathB]; omega
theorem pathB_all (l : List Stp) (h : ¬ 6 < l.length) : pathB l = l.all stpB := by
  have h' : l.length ≤ 6 := by omega
  simp [pathB, h']

/-- The first k all fulfil p. -/
def fstP (l : List Stp) (k : Nat) : Prop := ∀ i (h : i < l.length), i < k → stpB l[i] = true
theorem fstP_succ {l : List Stp} {k : Nat} (h : fstP l k) (hk : k < l.length) (hs : stpB l[k] = true) : fstP l (k + 1) := by
  intro i hi hik
  by_cases e : i = k
  · subst e; exact hs
  · exact h i hi (by omega)
theorem all_fstP {l : List Stp} (h : fstP l l.length) : l.all stpB = true := by
  rw [List.all_eq_true]
  intro x hx
  obtain ⟨i, hi, rfl⟩ := List.getElem_of_mem hx
  exact h i hi hi
theorem not_all_stp {l : List Stp} {k : Nat} (hk : k < l.length) (h : stpB l[k] = false) : l.all stpB = false := by
  rw [List.all_eq_false]
  exact ⟨l[k], List.getElem_mem hk, by rw [h]; simp⟩

theorem ret_bl {x y : Bool} (h : x = y) : Ending.returned (.bool x) = .returned (.bool y) := by rw [h]

set_option maxHeartbeats 1600000 in
theorem impl_stepOk_any (N : Nat) (c0 c1 c2 : Value) (s : Stp) (w : World) (hs : StSeg (fun b => b < N) w (c0, c1, c2) s) (hN : N ≤ w.heap.size) :
    Calls Try.prog 57 #[.agg #[c0, c1, c2]] w fun e w' => e = .returned (.bool (stpB s)) ∧ Below w.heap.size w w' := by
  obtain ⟨sk, ss, si⟩ := s
  obtain ⟨e0, ht, e2⟩ := hs
  simp only at e0 ht e2
  subst e0
  subst e2
  have Ht : Hid (∀ w' : World, Below w.heap.size w w' → TSeg (fun b => b < N) w' c1 ss) := fun w' h => ht.agree (agree_below (h.mono hN))
  obtain ⟨a2, cp2, rfl, s2, hl2, hm2, _, _⟩ := ht
  have hb0 : ∀ o : Obj, Below w.heap.size w (w.alloc o) := fun o => (Below.refl _ _).alloc (Nat.le_refl _) o
  have Hb := hide' hb0
  unfold maxLen at hm2
  clear s2 hb0
  by_cases h0 : sk = 0
  · subst h0
    have HO := hide' (stpB_key ss si)
    have HS : Hid (∀ o : Obj, Calls Try.prog 67 #[.slice a2 ss.length cp2] (w.alloc o) fun e w' => e = .returned (.bool (nameB ss)) ∧ w.alloc o = w') := by
      intro o
      obtain ⟨a2', cp2', e2, sT, _⟩ := Ht.out _ (Hb.out o)
      simp only [Value.slice.injEq, true_and] at e2
      obtain ⟨rfl, rfl⟩ := e2
      exact impl_NameOk_any _ _ ss _ sT (by unfold maxLen; omega)
    clear Ht
    go_enter Try.func57, Try.ntmps57
    go_wp2_with fail
    refine (HS.out _).mono ?_
    rintro e w1 ⟨rfl, e1⟩
    obtain rfl := e1
    generalize nameB ss = nb at *
    cases nb
    · go_wp2
      go_ret
      exact ⟨ret_bl (by rw [HO.out]; simp), Hb.out _⟩
    · go_wp2
      go_ret
      exact ⟨ret_bl (by rw [HO.out, Bool.true_and]; rfl), Hb.out _⟩
  · by_cases h1 : sk = 1
    · subst h1
      have HO := hide' (stpB_item ss si)
      clear Ht
      by_cases hl : ss.length = 0
      · have hl' : (ss.length : Int) = 0 := by omega
        by_cases hi : 0 ≤ si
        · have HQ : Hid (stpB (1, ss, si) = decide (si < 40)) := by show stpB (1, ss, si) = _; rw [HO.out]; simp [hl, hi]
          clear HO
          go_enter Try.func57, Try.ntmps57
          go_wp2
          go_ret
          exact ⟨ret_bl (by rw [HQ.out]), Hb.out _⟩
        · have HQ : Hid (stpB (1, ss, si) = false) := by show stpB (1, ss, si) = _; rw [HO.out]; simp [hi]
          clear HO
          go_enter Try.func57, Try.ntmps57
          go_wp2
          go_ret
          exact ⟨ret_bl (by rw [HQ.out]), Hb.out _⟩
      · have hl' : ¬ (ss.length : Int) = 0 := by omega
        have HQ : Hid (stpB (1, ss, si) = false) := by show stpB (1, ss, si) = _; rw [HO.out]; simp [hl]
        clear HO
        go_enter Try.func57, Try.ntmps57
        go_wp2
        go_ret
        exact ⟨ret_bl (by rw [HQ.out]), Hb.out _⟩
    · have HQ := hide' (stpB_none sk ss si h0 h1)
      clear Ht
      go_enter Try.func57, Try.ntmps57
      go_wp2
      go_ret
      exact ⟨ret_bl (by rw [HQ.out]), Hb.out _⟩

set_option maxHeartbeats 1600000 in
theorem impl_PathOk_any (N : Nat) (x : Value) (l : List Stp) (w : World) (hx : PthSeg (fun b => b < N) w x l) (hN : N ≤ w.heap.size) :
    Calls Try.prog 48 #[x] w fun e w' => e = .returned (.bool (pathB l)) ∧ Below w.heap.size w w' := by
  have HC := hide' hx
  obtain ⟨a, cap, rfl, hlc, hcm, ka, hc⟩ := hx
  unfold maxLen at hcm
  clear hc
  by_cases hlong : 6 < l.length
  · have HO := hide' (pathB_long l hlong)
    have h' : (6 : Int) < (l.length : Int) := by omega
    go_enter Try.func48, Try.ntmps48
    go_wp2
    go_ret
    exact ⟨ret_bl (by rw [HO.out]), Below.refl _ _⟩
  · have HO := hide' (pathB_all l hlong)
    have h' : ¬ (6 : Int) < (l.length : Int) := by omega
    go_enter Try.func48, Try.ntmps48
    go_wp2
    go_loopw [10] (fun i wr => ∃ k : Nat, k ≤ l.length ∧ i = .int .i64 k ∧ fstP l k ∧ Below w.heap.size w wr) (fun i _ => l.length - (intOf i).toNat)
    case atStart => exact ⟨0, Nat.zero_le _, rfl, fun i _ h => by omega, Below.refl _ _⟩
    case round =>
      obtain ⟨k, hk, rfl, hall, hbel⟩ := hrel
      have hsz := hbel.size
      by_cases hlt : k < l.length
      · have hlt' : (k : Int) < (l.length : Int) := by omega
        obtain ⟨b, off, c0, c1, c2, rfl, _, h3, hv⟩ := (HC.out.agree (agree_below (hbel.mono hN))).at hlt
        obtain ⟨q0, q1, q2⟩ := h3
        simp only at q0 q1 q2
        have HF : Hid (stpB l[k] = true → fstP l (k + 1)) := fun h => fstP_succ hall hlt h
        have HN : Hid (stpB l[k] = false → l.all stpB = false) := fun h => not_all_stp hlt h
        have HS : Hid (∀ o : Obj, Calls Try.prog 57 #[.agg #[c0, c1, c2]] (wr.alloc o) fun e w' => e = .returned (.bool (stpB l[k])) ∧ Below w.heap.size w w') := by
          intro o
          have b0 : Below wr.heap.size wr (wr.alloc o) := (Below.refl _ _).alloc (Nat.le_refl _) o
          refine (impl_stepOk_any N c0 c1 c2 l[k] (wr.alloc o) (hv.agree (agree_below (b0.mono (by omega)))) (by have := b0.size; omega)).mono fun e w' h => ⟨h.1, Below.on (Below.on hbel b0) h.2⟩
        obtain ⟨g0, gt, g2⟩ := hv
        obtain ⟨a2, cp2, g1, _⟩ := gt
        simp only at g0 g1 g2
        subst g0
        subst g1
        subst g2
        generalize (l[k]).1 = vk at *
        generalize (l[k]).2.1.length = vn at *
        generalize (l[k]).2.2 = vi at *
        generalize stpB l[k] = sb at *
        clear hall
        go_wp2_with fail
        refine (HS.out _).mono ?_
        rintro e w1 ⟨rfl, B1⟩
        clear HS q0 q1 q2
        cases sb
        · have HF' := hide' (HN.out rfl)
          go_wp2
          go_ret
          exact ⟨ret_bl (by rw [HO.out, HF'.out]), B1⟩
        · have HF' := hide' (HF.out rfl)
          go_wp2
          go_roundw
          case rel => exact ⟨k + 1, by omega, by go_num, HF'.out, B1⟩
          case measure => simp [intOf]; omega
      · have hkn : k = l.length := by omega
        have hkn' : ¬ (k : Int) < (l.length : Int) := by omega
        rw [hkn] at hall
        have HF := hide' (all_fstP hall)
        clear hkn hall
        go_wp2
        go_ret
        exact ⟨ret_bl (by rw [HO.out, HF.out]), hbel⟩

/-- What each case of the specification's loop may rest on. -/
theorem stpB_at (s : Stp) : stpB s = stpB (s.1, s.2.1, s.2.2) := rfl

set_option maxHeartbeats 3200000 in
theorem spec_PathOk_any (N : Nat) (x : Value) (l : List Stp) (w : World) (hx : PthSeg (fun b => b < N) w x l) (hN : N ≤ w.heap.size) :
    Calls Try.prog 45 #[x] w fun e w' => e = .returned (.bool (pathB l)) ∧ Below w.heap.size w w' := by
  have HC := hide' hx
  obtain ⟨a, cap, rfl, hlc, hcm, ka, hc⟩ := hx
  unfold maxLen at hcm
  clear hc
  by_cases hlong : 6 < l.length
  · have HO := hide' (pathB_long l hlong)
    have h' : (6 : Int) < (l.length : Int) := by omega
    go_enter Try.func45, Try.ntmps45
    go_wp2
    go_ret
    exact ⟨ret_bl (by rw [HO.out]), Below.refl _ _⟩
  · have HO := hide' (pathB_all l hlong)
    have h' : ¬ (6 : Int) < (l.length : Int) := by omega
    go_enter Try.func45, Try.ntmps45
    go_wp2
    go_loopw [3] (fun i wr => ∃ k : Nat, k ≤ l.length ∧ i = .int .i64 k ∧ fstP l k ∧ Below w.heap.size w wr) (fun i _ => l.length - (intOf i).toNat)
    case atStart => exact ⟨0, Nat.zero_le _, rfl, fun i _ h => by omega, Below.refl _ _⟩
    case round =>
      obtain ⟨k, hk, rfl, hall, hbel⟩ := hrel
      have hsz := hbel.size
      by_cases hlt : k < l.length
      · have hlt' : (k : Int) < (l.length : Int) := by omega
        obtain ⟨b, off, c0, c1, c2, rfl, _, h3, hv⟩ := (HC.out.agree (agree_below (hbel.mono hN))).at hlt
        obtain ⟨q0, q1, q2⟩ := h3
        simp only at q0 q1 q2
        have HF : Hid (stpB ((l[k]).1, (l[k]).2.1, (l[k]).2.2) = true → fstP l (k + 1)) := fun h => fstP_succ hall hlt h
        have HN : Hid (stpB ((l[k]).1, (l[k]).2.1, (l[k]).2.2) = false → l.all stpB = false) := fun h => not_all_stp hlt h
        have HB : Hid (∀ o : Obj, Below w.heap.size w (wr.alloc o)) := fun o => Below.on hbel ((Below.refl _ _).alloc (Nat.le_refl _) o)
        obtain ⟨g0, gt, g2⟩ := hv
        simp only at g0 gt g2
        generalize (l[k]).1 = vk at *
        generalize (l[k]).2.1 = ss at *
        generalize (l[k]).2.2 = si at *
        have Ht : Hid (∀ o : Obj, TSeg (fun b => b < N) (wr.alloc o) c1 ss) := fun o => gt.agree (agree_below (((Below.refl _ _).alloc (Nat.le_refl _) o : Below wr.heap.size wr (wr.alloc o)).mono (by omega)))
        obtain ⟨a2, cp2, g1, _, hl2, hm2, _⟩ := gt
        subst g0
        subst g1
        subst g2
        unfold maxLen at hm2
        clear hall
        by_cases h0 : vk = 0
        · subst h0
          rw [stpB_key] at HF HN
          have HS : Hid (∀ o : Obj, Calls Try.prog 55 #[.slice a2 ss.length cp2] (wr.alloc o) fun e w' => e = .returned (.bool (nameB ss)) ∧ wr.alloc o = w') := by
            intro o
            obtain ⟨a2', cp2', e2, sT, _⟩ := Ht.out o
            simp only [Value.slice.injEq, true_and] at e2
            obtain ⟨rfl, rfl⟩ := e2
            exact spec_NameOk_any _ _ ss _ sT (by unfold maxLen; omega)
          clear Ht
          generalize nameB ss = nb at *
          by_cases hi0 : si = 0
          · subst hi0
            cases nb
            · have HF' := hide' (HN.out rfl)
              go_wp2_with fail
              refine (HS.out _).mono ?_
              rintro e w1 ⟨rfl, e1⟩
              obtain rfl := e1
              go_wp2
              go_ret
              exact ⟨ret_bl (by rw [HO.out, HF'.out]), HB.out _⟩
            · have HF' := hide' (HF.out rfl)
              go_wp2_with fail
              refine (HS.out _).mono ?_
              rintro e w1 ⟨rfl, e1⟩
              obtain rfl := e1
              go_wp2
              go_roundw
              case rel => exact ⟨k + 1, by omega, by go_num, HF'.out, HB.out _⟩
              case measure => simp [intOf]; omega
          · have HF' := hide' (HN.out (by simp [hi0]))
            have hin : (si != 0) = true := by simp [hi0]
            go_wp2_with fail
            refine (HS.out _).mono ?_
            rintro e w1 ⟨rfl, e1⟩
            obtain rfl := e1
            cases nb
            · go_wp2
              go_ret
              exact ⟨ret_bl (by rw [HO.out, HF'.out]), HB.out _⟩
            · go_wp2
              go_ret
              exact ⟨ret_bl (by rw [HO.out, HF'.out]), HB.out _⟩
        · by_cases h1 : vk = 1
          · subst h1
            rw [stpB_item] at HF HN
            clear Ht
            by_cases hl : ss.length = 0
            · have hl' : ¬ (0 : Int) < (ss.length : Int) := by omega
              by_cases hi : 0 ≤ si
              · have hi' : ¬ si < 0 := by omega
                by_cases hj : si < 40
                · have HF' := hide' (HF.out (by simp [hl, hi, hj]))
                  have hj' : ¬ (40 : Int) ≤ si := by omega
                  go_wp2
                  go_roundw
                  case rel => exact ⟨k + 1, by omega, by go_num, HF'.out, HB.out _⟩
                  case measure => simp [intOf]; omega
                · have HF' := hide' (HN.out (by simp [hj]))
                  have hj' : (40 : Int) ≤ si := by omega
                  go_wp2
                  go_ret
                  exact ⟨ret_bl (by rw [HO.out, HF'.out]), HB.out _⟩
              · have HF' := hide' (HN.out (by simp [hi]))
                have hi' : si < 0 := by omega
                go_wp2
                go_ret
                exact ⟨ret_bl (by rw [HO.out, HF'.out]), HB.out _⟩
            · have HF' := hide' (HN.out (by simp [hl]))
              have hl' : (0 : Int) < (ss.length : Int) := by omega
              go_wp2
              go_ret
              exact ⟨ret_bl (by rw [HO.out, HF'.out]), HB.out _⟩
          · have HF' := hide' (HN.out (stpB_none vk ss si h0 h1))
            clear Ht
            go_wp2
            go_ret
            exact ⟨ret_bl (by rw [HO.out, HF'.out]), HB.out _⟩
      · have hkn : k = l.length := by omega
        have hkn' : ¬ (k : Int) < (l.length : Int) := by omega
        rw [hkn] at hall
        have HF := hide' (all_fstP hall)
        clear hkn hall
        go_wp2
        go_ret
        exact ⟨ret_bl (by rw [HO.out, HF.out]), hbel⟩
end Go.Proofs.Ytpknhmegoldppaa
/-
  What is at a path of a value, step by step; no statement is proved here.
-/
namespace Go.Proofs.Ytpknhmegoldppaa
open Go.RowKit
set_option linter.unusedVariables false
set_option linter.unusedSimpArgs false

/-- A value of whatever depth. -/
abbrev Nod : Type := (d : Nat) × Vl d

/-- The place of a step among a value's parts; -1: there is none. -/
def kidI (d : Nat) (v : Vl (d + 1)) (s : Stp) : Int :=
  if s.1 = 0 ∧ v.1 = 5 then findK v.2.2.2.1 s.2.1 else if s.1 = 1 ∧ v.1 = 4 ∧ s.2.2 < v.2.2.2.2.length then s.2.2 else -1

/-- What is at a step. -/
def stepN : Nod → Stp → Option Nod
  | ⟨0, _⟩, _ => none
  | ⟨d + 1, v⟩, s => if h : 0 ≤ kidI d v s ∧ (kidI d v s).toNat < v.2.2.2.2.length then some ⟨d, v.2.2.2.2[(kidI d v s).toNat]'h.2⟩ else none

theorem stepN_some {d : Nat} {v : Vl (d + 1)} {s : Stp} {k : Nat} (hk : k < v.2.2.2.2.length) (h : kidI d v s = k) : stepN ⟨d + 1, v⟩ s = some ⟨d, v.2.2.2.2[k]⟩ := by
  have e : (kidI d v s).toNat = k := by rw [h]; rfl
  have hp : 0 ≤ kidI d v s ∧ (kidI d v s).toNat < v.2.2.2.2.length := ⟨by rw [h]; omega, by rw [e]; exact hk⟩
  show (if h : 0 ≤ kidI d v s ∧ (kidI d v s).toNat < v.2.2.2.2.length then some (⟨d, v.2.2.2.2[(kidI d v s).toNat]'h.2⟩ : Nod) else none) = _
  rw [dif_pos hp]
  simp only [e]
theorem stepN_none {d : Nat} {v : Vl (d + 1)} {s : Stp} (h : kidI d v s < 0) : stepN ⟨d + 1, v⟩ s = none := dif_neg fun h' => by have := h'.1; omega

/-- What is at a path. -/
def alongN (o : Option Nod) (l : List Stp) : Option Nod := l.foldl (fun o s => o.bind fun n => stepN n s) o

theorem alongN_take (o : Option Nod) (l : List Stp) (k : Nat) (hk : k < l.length) : alongN o (l.take (k + 1)) = (alongN o (l.take k)).bind fun n => stepN n l[k] := by
  unfold alongN
  rw [List.take_succ_eq_append_getElem hk, List.foldl_append]
  rfl
theorem alongN_none : ∀ l : List Stp, alongN none l = none
  | [] => rfl
  | s :: l => alongN_none l
theorem alongN_on (o : Option Nod) (l r : List Stp) : alongN o (l ++ r) = alongN (alongN o l) r := List.foldl_append ..
theorem alongN_stop {o : Option Nod} {l : List Stp} {k : Nat} (h : alongN o (l.take k) = none) : alongN o l = none := by
  rw [← List.take_append_drop k l, alongN_on, h, alongN_none]

/-- What At answers: something, or nothing. -/
def atN (d : Nat) (v : Vl d) (l : List Stp) : Option Nod := if okB d v = true ∧ pathB l = true then alongN (some ⟨d, v⟩) l else none
end Go.Proofs.Ytpknhmegoldppaa
