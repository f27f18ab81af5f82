/-
  Texts that a law leans on, one behind the other; no statement is proved here.
-/
import Derived.Test.YtbeekbkambkgoaaPk17
import Derived.Test.YtbeekbkambkgoaaPk14
import Derived.Test.YtbeekbkambkgoaaPk11
import Derived.Test.YtbeekbkambkgoaaPk15
import Derived.Test.YtbeekbkambkgoaaPk1
import Derived.Deep.RegionHeld3
import Derived.Test.YtbeekbkambkgoaaPk5
import Derived.Test.YtbeekbkambkgoaaPk6
import Derived.Test.YtbeekbkambkgoaaPk12
import Derived.Deep.RegionLaw
/-
  FnExactValDrop answers true, whatever value and key it is handed; it makes new memory and turns nothing old.
-/
namespace Go.Proofs.Ytbeekbkambkgoaa
open Go.RowKit Go.Shelf
set_option linter.unusedVariables false
set_option linter.unusedSimpArgs false

set_option maxHeartbeats 12800000 in
set_option maxRecDepth 100000 in
theorem walk_drop (d D : Nat) (v : Vl (d + 1)) (a : Vl (D + 1)) (bb : Bool) (key : List Int) (ka : Option Addr) (kc : Nat) (c0 c1 c2 c3 c4 : Value) (w : World) (hv : VSeg (fun b => b < w.heap.size) w (d + 1) (c0, c1, c2, c3, c4) v) (hS : Seg w ka key) (hkl : key.length ≤ 1048576) (hza : szV (D + 1) a ≤ 1048576) (hz : szV (d + 1) v ≤ 1048576)
    (HSp : Hid (∀ u0 u1 u2 u3 u4 B wx wy xa xc, VOwn wx (d + 1) (u0, u1, u2, u3, u4) v B → Below wx.heap.size wx wy → Seg wy xa key → Calls Try.prog 16 #[.agg #[u0, u1, u2, u3, u4], .slice xa key.length xc] wy (Ans D a bb wy)))
    (HIm : Hid (∀ u0 u1 u2 u3 u4 B wx wy xa xc, VOwn wx (d + 1) (u0, u1, u2, u3, u4) v B → Below wx.heap.size wx wy → Seg wy xa key → Calls Try.prog 17 #[.agg #[u0, u1, u2, u3, u4], .slice xa key.length xc] wy (Ans D a bb wy))) :
    Calls Try.prog 4 #[.agg #[c0, c1, c2, c3, c4], .slice ka key.length kc] w fun e w' => e = .returned (.bool true) ∧ Below w.heap.size w w' := by
  have b0 : ∀ o : Obj, Below w.heap.size w (w.alloc o) := fun o => (Below.refl _ _).alloc (Nat.le_refl _) o
  have HV : Hid (∀ wx, Below w.heap.size w wx → VSeg (fun b => b < w.heap.size) wx (d + 1) (c0, c1, c2, c3, c4) v) := fun wx hb => VSeg.agree (agree_below hb) (d + 1) hv
  have HS : Hid (∀ wx, Below w.heap.size w wx → Calls Try.prog 6 #[.agg #[c0, c1, c2, c3, c4], .int .i64 1048576] wx fun e w' => e = .returned (.int .i64 (less 1048576 (szV (d + 1) v))) ∧ Below wx.heap.size wx w') := fun wx hb =>
    szValue_any (d + 1) w.heap.size (c0, c1, c2, c3, c4) v 1048576 wx (HV.out wx hb) hb.size (by omega) (by omega)
  have Hbox : Hid (∀ o wx, Below (w.alloc o).heap.size (w.alloc o) wx → wx.heap[w.heap.size]? = some o) := fun o wx h => box_row h
  have Hb := hide' b0
  have hcv := cV_le d v
  have hca := cV_le D a
  obtain ⟨ck, cn, a2, l2, p2, a3, l3, p3, a4, l4, p4, rfl, rfl, rfl, rfl, rfl⟩ := VSeg.form (d + 1) hv
  have HKS : Hid (∀ wx, Below w.heap.size w wx → Seg wx ka key) := fun wx hb => hS.below hb hS.lt
  have HT : Hid (∀ wx, Below w.heap.size w wx → Calls Try.prog 8 #[.agg #[.int .i64 ck, .int .i64 cn, .slice a2 l2 p2, .slice a3 l3 p3, .slice a4 l4 p4]] wx fun e w' => ∃ c0 c1 c2 c3 c4, e = .returned (.agg #[c0, c1, c2, c3, c4]) ∧ ∃ B, VOwn w' (d + 1) (c0, c1, c2, c3, c4) v B ∧ (∀ b ∈ B, wx.heap.size ≤ b ∧ b < w'.heap.size) ∧ Below wx.heap.size wx w') := fun wx hb => toValue_any (d + 1) w.heap.size (.int .i64 ck, .int .i64 cn, .slice a2 l2 p2, .slice a3 l3 p3, .slice a4 l4 p4) v wx (HV.out wx hb) hb.size hz
  have HTB : Hid (∀ wx, Below w.heap.size w wx → Calls Try.prog 9 #[.slice ka key.length kc] wx fun e w' => e = .returned (.slice (some ⟨wx.heap.size, 0, none⟩) key.length key.length) ∧ Bts w' wx.heap.size (.slice (some ⟨wx.heap.size, 0, none⟩) key.length key.length) key ∧ Below wx.heap.size wx w') := fun wx hb => toByteS_any ka kc key wx (HKS.out wx hb) (by omega)
  have HEq : Hid (∀ (N : Nat) (c c' : Value × Value × Value × Value × Value) (wx : World), VSeg (fun b => b < N) wx (d + 1) c v → VSeg (fun b => b < N) wx (d + 1) c' v → N ≤ wx.heap.size → Calls Try.prog 11 #[.agg #[c.1, c.2.1, c.2.2.1, c.2.2.2.1, c.2.2.2.2], .agg #[c'.1, c'.2.1, c'.2.2.1, c'.2.2.2.1, c'.2.2.2.2]] wx fun e w' => e = .returned (.bool true) ∧ Below wx.heap.size wx w') := fun N c c' wx h h' hN => eqValue_any (d + 1) N c c' v wx h h' hN hz
  have HEA : Hid (∀ (u0 u1 u2 u3 u4 v0 v1 v2 v3 v4 : Value) (B B' : List Nat) (wx : World), VOwn wx (D + 1) (u0, u1, u2, u3, u4) a B → VOwn wx (D + 1) (v0, v1, v2, v3, v4) a B' → Calls Try.prog 11 #[.agg #[u0, u1, u2, u3, u4], .agg #[v0, v1, v2, v3, v4]] wx fun e w' => e = .returned (.bool true) ∧ Below wx.heap.size wx w') := fun u0 u1 u2 u3 u4 v0 v1 v2 v3 v4 B B' wx h h' => eqValue_any (D + 1) wx.heap.size (u0, u1, u2, u3, u4) (v0, v1, v2, v3, v4) a wx h.read h'.read (Nat.le_refl _) hza
  have HEB : Hid (∀ (xa ya : Option Addr) (xc yc : Nat) (wx : World), Seg wx xa key → Seg wx ya key → Calls Try.prog 12 #[.slice xa key.length xc, .slice ya key.length yc] wx fun e w' => e = .returned (.bool true) ∧ Below wx.heap.size wx w') := fun xa ya xc yc wx h h' => eqByteS_same xa ya xc yc key wx h h' (by omega)
  have HM : Hid (∀ x0 x1 x2 x3 x4 B wx, VOwn wx (d + 1) (x0, x1, x2, x3, x4) v B → Calls Try.prog 13 #[.agg #[x0, x1, x2, x3, x4], .int .i64 1] wx fun e w' => e = .returned (.int .i64 ((1 + cV d v : Nat) : Int)) ∧ Turned B wx w') := fun x0 x1 x2 x3 x4 B wx h => (markValue_any d x0 x1 x2 x3 x4 v B 1 wx h hz (by omega)).mono fun e w' h => ⟨h.1, h.2.2⟩
  have HMB : Hid (∀ base xa (q : Nat) wx, q ≤ 2097153 → Bts wx base (.slice xa key.length key.length) key → Calls Try.prog 14 #[.slice xa key.length key.length, .int .i64 q] wx fun e w' => e = .returned (.int .i64 ((q + key.length : Nat) : Int)) ∧ wx.grownBy w' (Value.slice xa key.length key.length).ownBlock) := fun base xa q wx hq h => (markByteS_any base xa key.length key q wx h (by omega) (by omega)).mono fun e w' h => ⟨h.1, h.2.2⟩
  have HMA : Hid (∀ x0 x1 x2 x3 x4 B wx, VOwn wx (D + 1) (x0, x1, x2, x3, x4) a B → Calls Try.prog 13 #[.agg #[x0, x1, x2, x3, x4], .int .i64 1] wx fun e w' => e = .returned (.int .i64 ((1 + cV D a : Nat) : Int)) ∧ VOwn w' (D + 1) (x0, x1, x2, x3, x4) (mkV D a 1) B ∧ Turned B wx w') := fun x0 x1 x2 x3 x4 B wx h => markValue_any D x0 x1 x2 x3 x4 a B 1 wx h hza (by omega)
  have HHA : Hid (∀ x0 x1 x2 x3 x4 B wx, VOwn wx (D + 1) (x0, x1, x2, x3, x4) (mkV D a 1) B → Calls Try.prog 15 #[.agg #[x0, x1, x2, x3, x4], .int .i64 1] wx fun e w' => e = .returned (.int .i64 ((1 + cV D a : Nat) : Int)) ∧ Below wx.heap.size wx w') := fun x0 x1 x2 x3 x4 B wx h => heldValue_any D wx.heap.size x0 x1 x2 x3 x4 a 1 wx h.read (Nat.le_refl _) hza (by omega)
  have hl : less 1048576 (szV (d + 1) v) = 1048576 - szV (d + 1) v := less_yes _ _ (by omega)
  rw [hl] at HS
  have hz0 : 0 ≤ (1048576 : Int) - szV (d + 1) v := by omega
  have hz1 : (1048576 : Int) - szV (d + 1) v ≤ 1048576 := by omega
  have hcd : cV d v ≤ 2097152 := by omega
  have hkl' : ¬ (1048576 : Int) < (key.length : Int) := by omega
  generalize hsz' : szV (d + 1) v = sz at *
  generalize hcn : cV d v = cn1 at *
  generalize hcm : cV D a = cn2 at *
  generalize hkn : key.length = kn at *
  have Hkn : Hid (key.length = kn) := hkn
  generalize hq1 : 1 + cn1 = q1 at *
  generalize hq2 : 1 + cn2 = q2 at *
  have hq1' : q1 ≤ 2097153 := by omega
  have HMC := hide' (fun base xa wx => HMB.out base xa q1 wx hq1')
  generalize hq3 : q1 + kn = q3 at *
  have hq2' : 0 ≤ (q2 : Int) := by omega
  have hq3' : 0 ≤ (q3 : Int) := by omega
  clear HMB hq1 hq2 hq3 hq1' hl HV hcv hca hsz' hcn hcm hkn b0 hv hS hza hz
  go_enter Try.func4, Try.ntmps4
  go_wp2_with fail
  refine (HS.out _ (Hb.out _)).mono ?_
  rintro e w1 ⟨rfl, b1⟩
  have B1 := Below.on (Hb.out _) b1
  obtain ⟨y0, y1, y2, y3, y4, _⟩ := row5 (Hbox.out _ _ b1)
  have HT1 := hide' (HT.out w1 B1)
  have Hb1 := hide' b1
  clear b1 B1 HS
  go_wp2_with fail
  refine HT1.out.mono ?_
  rintro e w2a ⟨u0, u1, u2, u3, u4, rfl, B, hO2, hB2, b2⟩
  have b12a := hide' (Below.on Hb1.out b2)
  have HTBa := hide' (HTB.out w2a (Below.on (Hb.out _) b12a.out))
  have HO2 := hide' hO2
  clear HT1 Hb1 hO2 hB2 b2 y0 y1 y2 y3 y4
  go_wp2_with fail
  refine HTBa.out.mono ?_
  rintro e w2 ⟨rfl, hK2, bk2⟩
  have hS2 := hide' (HSp.out _ _ _ _ _ _ _ _ _ kn HO2.out bk2 hK2.seg)
  have b12 := hide' (Below.on b12a.out bk2)
  clear HTBa HO2 b12a hK2 bk2
  go_wp2_with fail
  refine hS2.out.mono ?_
  rintro e w3 ⟨W0, W1, W2, W3, W4, rfl, Bw, hW3, hBw, b3⟩
  obtain ⟨wk, wn, t2, g2, h2, t3, g3, h3, t4, g4, h4, rfl, rfl, rfl, rfl, rfl⟩ := VOwn.form (D + 1) hW3
  have balW : Below w3.heap.size w3 (w3.alloc (.cells #[.int .i64 wk, .int .i64 wn, .slice t2 g2 h2, .slice t3 g3 h3, .slice t4 g4 h4] 30)) := (Below.refl _ _).alloc (Nat.le_refl _) _
  have b13 := Below.on (Below.on b12.out b3) balW
  obtain ⟨y0, y1, y2, y3, y4, _⟩ := row5 (Hbox.out _ _ b13)
  have HT3 := hide' (HT.out _ (Below.on (Hb.out _) b13))
  have HZ3 : Hid (w.heap.size + 1 ≤ w2.heap.size) := hide' (by have h := b12.out.size; simpa using h)
  have HW3 := hide' (hW3.on balW)
  have HrW : Hid ((w3.alloc (.cells #[.int .i64 wk, .int .i64 wn, .slice t2 g2 h2, .slice t3 g3 h3, .slice t4 g4 h4] 30)).heap[w3.heap.size]? = some (.cells #[.int .i64 wk, .int .i64 wn, .slice t2 g2 h2, .slice t3 g3 h3, .slice t4 g4 h4] 30)) := (MapKept.heap_alloc w3 _).1
  have HBw := hide' hBw
  have Hb13 := hide' b13
  have hz23 : w2.heap.size ≤ w3.heap.size := b3.size
  clear b12 b3 b13 hS2 hW3 hBw balW
  go_wp2_with fail
  refine HT3.out.mono ?_
  rintro e w4 ⟨x0, x1, x2, x3, x4, rfl, B4, hO4, hB4, b4⟩
  obtain ⟨xk, xn, s2, m2, q2, s3, m3, q3, s4, m4, q4, rfl, rfl, rfl, rfl, rfl⟩ := VOwn.form (d + 1) hO4
  have bal : Below w4.heap.size w4 (w4.alloc (.cells #[.int .i64 xk, .int .i64 xn, .slice s2 m2 q2, .slice s3 m3 q3, .slice s4 m4 q4] 30)) := (Below.refl _ _).alloc (Nat.le_refl _) _
  have HO4 := hide' (hO4.on bal)
  have HB4 : Hid (∀ b ∈ B4, w3.heap.size + 1 ≤ b ∧ b < w4.heap.size) := fun b hb => by have := hB4 b hb; simp at this; exact this
  have Hb14 := hide' (Below.on (Below.on Hb13.out b4) bal)
  have HW4 := hide' ((HW3.out.on b4).on bal)
  have HrW4 := hide' (row_on (row_on HrW.out b4) bal)
  have HrX : Hid ((w4.alloc (.cells #[.int .i64 xk, .int .i64 xn, .slice s2 m2 q2, .slice s3 m3 q3, .slice s4 m4 q4] 30)).heap[w4.heap.size]? = some (.cells #[.int .i64 xk, .int .i64 xn, .slice s2 m2 q2, .slice s3 m3 q3, .slice s4 m4 q4] 30)) := (MapKept.heap_alloc w4 _).1
  have hz34 : w3.heap.size + 1 ≤ w4.heap.size := by have := b4.size; simpa using this
  have HTB4 := hide' (HTB.out _ (Below.on (Hb.out _) Hb14.out))
  clear hO4 hB4 b4 bal HT3 Hb13 HW3 HrW y0 y1 y2 y3 y4
  go_wp2_with fail
  refine HTB4.out.mono ?_
  rintro e w5 ⟨rfl, hK5, b5⟩
  simp only [World.size_alloc] at hK5
  have hx5 := row_on HrX.out b5
  obtain ⟨v0, v1, v2, v3, v4, _⟩ := row5 hx5
  have hI5 := hide' (HIm.out _ _ _ _ _ _ _ _ _ kn HO4.out b5 hK5.seg)
  have HK5 := hide' hK5
  have HO5 := hide' (HO4.out.on b5)
  have HW5 := hide' (HW4.out.on b5)
  have HrW5 := hide' (row_on HrW4.out b5)
  have HrX5 := hide' hx5
  have Hb15 := hide' (Below.on Hb14.out b5)
  have hz45 : w4.heap.size + 2 ≤ w5.heap.size := by have h := (hK5.lt _ rfl).2; simp only at h; omega
  clear hK5 b5 hx5 HTB4 HO4 HW4 HrW4 HrX Hb14
  go_wp2_with fail
  refine hI5.out.mono ?_
  rintro e w6 ⟨G0, G1, G2, G3, G4, rfl, Bg, hG6, hBg, b6⟩
  obtain ⟨gk, gn, r2, f2, e2, r3, f3, e3, r4, f4, e4, rfl, rfl, rfl, rfl, rfl⟩ := VOwn.form (D + 1) hG6
  have balG : Below w6.heap.size w6 (w6.alloc (.cells #[.int .i64 gk, .int .i64 gn, .slice r2 f2 e2, .slice r3 f3 e3, .slice r4 f4 e4] 30)) := (Below.refl _ _).alloc (Nat.le_refl _) _
  have b56 := Below.on b6 balG
  have hE6 := hide' (HEA.out _ _ _ _ _ _ _ _ _ _ _ _ _ (hG6.on balG) (HW5.out.on b56))
  have HG6 := hide' (hG6.on balG)
  have HW6 := hide' (HW5.out.on b56)
  have HO6 := hide' (HO5.out.on b56)
  have HK6 := hide' (HK5.out.grow b56)
  have HrW6 := hide' (row_on HrW5.out b56)
  have HrX6 := hide' (row_on HrX5.out b56)
  have HrG6 : Hid ((w6.alloc (.cells #[.int .i64 gk, .int .i64 gn, .slice r2 f2 e2, .slice r3 f3 e3, .slice r4 f4 e4] 30)).heap[w6.heap.size]? = some (.cells #[.int .i64 gk, .int .i64 gn, .slice r2 f2 e2, .slice r3 f3 e3, .slice r4 f4 e4] 30)) := (MapKept.heap_alloc w6 _).1
  have Hb16 := hide' (Below.on Hb15.out b56)
  have HBg := hide' hBg
  have hz56 : w5.heap.size ≤ w6.heap.size := b6.size
  obtain ⟨i0, i1, i2, i3, i4, _⟩ := row5 HrW6.out
  obtain ⟨jj0, jj1, jj2, jj3, jj4, _⟩ := row5 HrG6.out
  clear hI5 hG6 hBg b6 balG b56 HW5 HO5 HK5 HrW5 HrX5 Hb15 v0 v1 v2 v3 v4
  go_wp2_with fail
  refine hE6.out.mono ?_
  rintro e w7 ⟨rfl, b7⟩
  have B17 := Below.on Hb16.out b7
  have hx7 := row_on HrX6.out b7
  have hz7 : w4.heap.size < w7.heap.size := (Array.getElem?_eq_some_iff.1 hx7).1
  obtain ⟨y0, y1, y2, y3, y4, _⟩ := row5 (Hbox.out _ _ B17)
  obtain ⟨v0, v1, v2, v3, v4, _⟩ := row5 hx7
  have hO7 := HO6.out.on b7
  have HCel : Hid (∀ wy, Below w7.heap.size w7 wy → (wy.cell? ⟨w.heap.size, 0, none⟩ = some (.int .i64 ck) ∧ wy.cell? ⟨w.heap.size, 1, none⟩ = some (.int .i64 cn) ∧ wy.cell? ⟨w.heap.size, 2, none⟩ = some (.slice a2 l2 p2) ∧ wy.cell? ⟨w.heap.size, 3, none⟩ = some (.slice a3 l3 p3) ∧ wy.cell? ⟨w.heap.size, 4, none⟩ = some (.slice a4 l4 p4) ∧ wy.cell? ⟨w4.heap.size, 0, none⟩ = some (.int .i64 xk) ∧ wy.cell? ⟨w4.heap.size, 1, none⟩ = some (.int .i64 xn) ∧ wy.cell? ⟨w4.heap.size, 2, none⟩ = some (.slice s2 m2 q2) ∧ wy.cell? ⟨w4.heap.size, 3, none⟩ = some (.slice s3 m3 q3) ∧ wy.cell? ⟨w4.heap.size, 4, none⟩ = some (.slice s4 m4 q4))) := by
    intro wy hy
    obtain ⟨f0, f1, f2, f3, f4, _⟩ := row5 (Hbox.out _ _ (Below.on B17 hy))
    obtain ⟨g0, g1, g2, g3, g4, _⟩ := row5 (row_on hx7 hy)
    exact ⟨f0, f1, f2, f3, f4, g0, g1, g2, g3, g4⟩
  have HTd : Hid (Calls Try.prog 8 #[.agg #[.int .i64 ck, .int .i64 cn, .slice a2 l2 p2, .slice a3 l3 p3, .slice a4 l4 p4]] w7.drew fun e w8 => ∃ z0 z1 z2 z3 z4, e = .returned (.agg #[z0, z1, z2, z3, z4]) ∧ (w8.cell? ⟨w.heap.size, 0, none⟩ = some (.int .i64 ck) ∧ w8.cell? ⟨w.heap.size, 1, none⟩ = some (.int .i64 cn) ∧ w8.cell? ⟨w.heap.size, 2, none⟩ = some (.slice a2 l2 p2) ∧ w8.cell? ⟨w.heap.size, 3, none⟩ = some (.slice a3 l3 p3) ∧ w8.cell? ⟨w.heap.size, 4, none⟩ = some (.slice a4 l4 p4) ∧ w8.cell? ⟨w4.heap.size, 0, none⟩ = some (.int .i64 xk) ∧ w8.cell? ⟨w4.heap.size, 1, none⟩ = some (.int .i64 xn) ∧ w8.cell? ⟨w4.heap.size, 2, none⟩ = some (.slice s2 m2 q2) ∧ w8.cell? ⟨w4.heap.size, 3, none⟩ = some (.slice s3 m3 q3) ∧ w8.cell? ⟨w4.heap.size, 4, none⟩ = some (.slice s4 m4 q4)) ∧
      Hid (Calls Try.prog 11 #[.agg #[.int .i64 xk, .int .i64 xn, .slice s2 m2 q2, .slice s3 m3 q3, .slice s4 m4 q4], .agg #[z0, z1, z2, z3, z4]] w8 fun e w9 => e = .returned (.bool true) ∧ (w9.cell? ⟨w.heap.size, 0, none⟩ = some (.int .i64 ck) ∧ w9.cell? ⟨w.heap.size, 1, none⟩ = some (.int .i64 cn) ∧ w9.cell? ⟨w.heap.size, 2, none⟩ = some (.slice a2 l2 p2) ∧ w9.cell? ⟨w.heap.size, 3, none⟩ = some (.slice a3 l3 p3) ∧ w9.cell? ⟨w.heap.size, 4, none⟩ = some (.slice a4 l4 p4) ∧ w9.cell? ⟨w4.heap.size, 0, none⟩ = some (.int .i64 xk) ∧ w9.cell? ⟨w4.heap.size, 1, none⟩ = some (.int .i64 xn) ∧ w9.cell? ⟨w4.heap.size, 2, none⟩ = some (.slice s2 m2 q2) ∧ w9.cell? ⟨w4.heap.size, 3, none⟩ = some (.slice s3 m3 q3) ∧ w9.cell? ⟨w4.heap.size, 4, none⟩ = some (.slice s4 m4 q4)) ∧ Hid (Below w7.heap.size w7 w9))) := by
    refine (HT.out w7.drew (Below.on (Hb.out _) B17).drew).mono ?_
    rintro e w8 ⟨z0, z1, z2, z3, z4, rfl, B8, hO8, hB8, b8⟩
    have b78 : Below w7.heap.size w7 w8 := Below.on (Below.refl _ w7).drew b8
    refine ⟨z0, z1, z2, z3, z4, rfl, HCel.out _ b78, ?_⟩
    exact (HEq.out w8.heap.size (.int .i64 xk, .int .i64 xn, .slice s2 m2 q2, .slice s3 m3 q3, .slice s4 m4 q4) (z0, z1, z2, z3, z4) w8 (VSeg.mono (fun b hb => Nat.lt_of_lt_of_le hb b78.size) (d + 1) (hO7.below b78)) (hO8.below (Below.refl _ _)) (Nat.le_refl _)).mono fun e w9 h => ⟨h.1, HCel.out _ (Below.on b78 h.2), Below.on b78 h.2⟩
  have HB17 := hide' B17
  have HO7 := hide' hO7
  have HG7 := hide' (HG6.out.on b7)
  have HW7 := hide' (HW6.out.on b7)
  have HK7 := hide' (HK6.out.grow b7)
  have HrW7 := hide' (row_on HrW6.out b7)
  have HrX7 := hide' hx7
  have HrG7 := hide' (row_on HrG6.out b7)
  clear hE6 hx7 hO7 b7 B17 HO6 Hb16 HG6 HW6 HK6 HrW6 HrX6 HrG6 i0 i1 i2 i3 i4
  go_wp2_with fail
  go_region_held3 (fun wx => (wx.cell? ⟨w.heap.size, 0, none⟩ = some (.int .i64 ck) ∧ wx.cell? ⟨w.heap.size, 1, none⟩ = some (.int .i64 cn) ∧ wx.cell? ⟨w.heap.size, 2, none⟩ = some (.slice a2 l2 p2) ∧ wx.cell? ⟨w.heap.size, 3, none⟩ = some (.slice a3 l3 p3) ∧ wx.cell? ⟨w.heap.size, 4, none⟩ = some (.slice a4 l4 p4) ∧ wx.cell? ⟨w4.heap.size, 0, none⟩ = some (.int .i64 xk) ∧ wx.cell? ⟨w4.heap.size, 1, none⟩ = some (.int .i64 xn) ∧ wx.cell? ⟨w4.heap.size, 2, none⟩ = some (.slice s2 m2 q2) ∧ wx.cell? ⟨w4.heap.size, 3, none⟩ = some (.slice s3 m3 q3) ∧ wx.cell? ⟨w4.heap.size, 4, none⟩ = some (.slice s4 m4 q4))) (go_keep) (first
    | (go_at_call 8; refine HTd.out.mono ?_; rintro e w8 ⟨z0, z1, z2, z3, z4, rfl, ⟨i0, i1, i2, i3, i4, i5, i6, i7, i8, i9⟩, hE8⟩)
    | (go_at_call 11; refine hE8.out.mono ?_; rintro e w9 ⟨rfl, ⟨j0, j1, j2, j3, j4, j5, j6, j7, j8, j9⟩, hb9⟩))
  clear y0 y1 y2 y3 y4 v0 v1 v2 v3 v4 i0 i1 i2 i3 i4 i5 i6 i7 i8 i9 hE8 HTd HCel HEq j0 j1 j2 j3 j4 j5 j6 j7 j8 j9
  have HB19 := hide' (Below.on HB17.out hb9.out)
  have HG9 := hide' (HG7.out.on hb9.out)
  have HW9 := hide' (HW7.out.on hb9.out)
  have HO9 := hide' (HO7.out.on hb9.out)
  have HK9 := hide' (HK7.out.grow hb9.out)
  have HrW9 := hide' (row_on HrW7.out hb9.out)
  have HrX9 := hide' (row_on HrX7.out hb9.out)
  have HrG9 := hide' (row_on HrG7.out hb9.out)
  have HTB9 := hide' (HTB.out w9 (Below.on (Hb.out _) HB19.out))
  clear HG7 HW7 HO7 HK7 HrW7 HrX7 HrG7 HB17 hb9
  go_wp2_with fail
  refine HTB9.out.mono ?_
  rintro e w10 ⟨rfl, hK10, b10⟩
  have hE10 := HEB.out _ (some ⟨w9.heap.size, 0, none⟩) kn kn w10 (HK9.out.grow b10).seg (hK10.seg)
  replace hE10 := hide' hE10
  have HB110 := hide' (Below.on HB19.out b10)
  have Hb910 := hide' b10
  clear HTB9 hK10 b10 HB19
  go_wp2_with fail
  refine hE10.out.mono ?_
  rintro e w11 ⟨rfl, b11⟩
  have b911 := Below.on Hb910.out b11
  have hx11 := row_on HrX9.out b911
  obtain ⟨v0, v1, v2, v3, v4, _⟩ := row5 hx11
  have hM11 := hide' (HM.out _ _ _ _ _ _ _ (HO9.out.on b911))
  have HG11 := hide' (HG9.out.on b911)
  have HW11 := hide' (HW9.out.on b911)
  have HK11 := hide' (HK9.out.grow b911)
  have HrW11 := hide' (row_on HrW9.out b911)
  have HrG11 := hide' (row_on HrG9.out b911)
  have HB111 := hide' (Below.on HB110.out b11)
  clear hE10 b11 b911 hx11 Hb910 HB110 HG9 HW9 HO9 HK9 HrW9 HrX9 HrG9
  go_wp2_with fail
  refine hM11.out.mono ?_
  rintro e w12 ⟨rfl, hT12⟩
  have HG12 := hide' (HG11.out.far hT12 (fun b hb hm => by have h1 := HBg.out b hb; have h2 := HB4.out b hm; omega))
  have HW12 := hide' (HW11.out.far hT12 (fun b hb hm => by have h1 := HBw.out b hb; have h2 := HB4.out b hm; omega))
  have HrW12 := hide' (row_far HrW11.out hT12 (fun hm => by have h2 := HB4.out _ hm; omega))
  have HrG12 := hide' (row_far HrG11.out hT12 (fun hm => by have h2 := HB4.out _ hm; omega))
  have hK12 := HK11.out.far hT12 (by intro k hk hm; have h2 := HB4.out _ hm; simp [Value.ownBlock] at hk; omega)
  have HB112 := hide' (Turned.below HB111.out hT12 (Nat.le_refl _) (fun b hb => by have h1 := HB4.out b hb; have h2 := HZ3.out; rw [World.size_alloc]; omega))
  have hM12 := hide' (HMC.out _ _ _ hK12)
  clear hM11 hT12 HG11 HW11 HK11 HrW11 HrG11 HB111 hK12 v0 v1 v2 v3 v4
  go_wp2_with fail
  refine hM12.out.mono ?_
  rintro e w13 ⟨rfl, g13⟩
  have hT13 : Turned [w4.heap.size + 1] w12 w13 := Turned.of_grown g13 (fun g hg => by simp [Value.ownBlock] at hg; simp [hg])
  have hG13 := HG12.out.far hT13 (fun b hb hm => by have h1 := HBg.out b hb; simp at hm; omega)
  have hW13 := HW12.out.far hT13 (fun b hb hm => by have h1 := HBw.out b hb; simp at hm; omega)
  have hrW13 := row_far HrW12.out hT13 (fun hm => by simp at hm; omega)
  have hrG13 := row_far HrG12.out hT13 (fun hm => by simp at hm; omega)
  have HB113 := hide' (Turned.below HB112.out hT13 (Nat.le_refl _) (fun b hb => by have h2 := HZ3.out; simp at hb; rw [World.size_alloc]; omega))
  obtain ⟨i0, i1, i2, i3, i4, _⟩ := row5 hrW13
  obtain ⟨j0, j1, j2, j3, j4, _⟩ := row5 hrG13
  have hE13 := hide' (HEA.out _ _ _ _ _ _ _ _ _ _ _ _ _ hG13 hW13)
  have HG13 := hide' hG13
  have HW13 := hide' hW13
  have HrW13 := hide' hrW13
  have HrG13 := hide' hrG13
  clear hM12 g13 hT13 HG12 HW12 HrW12 HrG12 HB112 hG13 hW13 hrW13 hrG13
  go_wp2_with fail
  refine hE13.out.mono ?_
  rintro e w14 ⟨rfl, b14⟩
  have hrG14 := row_on HrG13.out b14
  obtain ⟨k0, k1, k2, k3, k4, _⟩ := row5 hrG14
  have hM14 := hide' (HMA.out _ _ _ _ _ _ _ (HG13.out.on b14))
  have HW14 := hide' (HW13.out.on b14)
  have HrW14 := hide' (row_on HrW13.out b14)
  have HrG14 := hide' hrG14
  have HB114 := hide' (Below.on HB113.out b14)
  clear hE13 b14 hrG14 HG13 HW13 HrW13 HrG13 HB113 i0 i1 i2 i3 i4 j0 j1 j2 j3 j4
  go_wp2_with fail
  refine hM14.out.mono ?_
  rintro e w15 ⟨rfl, hG15, hT15⟩
  have hrG15 := row_far HrG14.out hT15 (fun hm => by have h2 := HBg.out _ hm; omega)
  have HW15 := hide' (HW14.out.far hT15 (fun b hb hm => by have h1 := HBw.out b hb; have h2 := HBg.out b hm; omega))
  have HrW15 := hide' (row_far HrW14.out hT15 (fun hm => by have h2 := HBg.out _ hm; omega))
  have HB115 := hide' (Turned.below HB114.out hT15 (Nat.le_refl _) (fun b hb => by have h1 := HBg.out b hb; have h2 := HZ3.out; rw [World.size_alloc]; omega))
  obtain ⟨j0, j1, j2, j3, j4, _⟩ := row5 hrG15
  have hH15 := hide' (HHA.out _ _ _ _ _ _ _ hG15)
  have HG15 := hide' hG15
  have HrG15 := hide' hrG15
  clear hM14 hT15 hG15 hrG15 HW14 HrW14 HrG14 HB114 k0 k1 k2 k3 k4
  go_wp2_with fail
  refine hH15.out.mono ?_
  rintro e w16 ⟨rfl, b16⟩
  have HG16 := hide' (HG15.out.on b16)
  have HW16 := hide' (HW15.out.on b16)
  have HrW16 := hide' (row_on HrW15.out b16)
  have HrG16 := hide' (row_on HrG15.out b16)
  have HB116 := hide' (Below.on HB115.out b16)
  obtain ⟨y0, y1, y2, y3, y4, _⟩ := row5 (Hbox.out _ _ HB116.out)
  have HT16 := hide' (HT.out w16 (Below.on (Hb.out _) HB116.out))
  clear hH15 b16 HG15 HW15 HrW15 HrG15 HB115 j0 j1 j2 j3 j4
  go_wp2_with fail
  refine HT16.out.mono ?_
  rintro e w17 ⟨z0, z1, z2, z3, z4, rfl, B17, hO17, hB17, b17⟩
  have Hb17 := hide' b17
  have HO17 := hide' hO17
  have HTB17 := hide' (HTB.out w17 (Below.on (Hb.out _) (Below.on HB116.out b17)))
  clear HT16 hO17 hB17 b17 y0 y1 y2 y3 y4
  go_wp2_with fail
  refine HTB17.out.mono ?_
  rintro e w18 ⟨rfl, hK18, b18⟩
  have hI18 := hide' (HIm.out _ _ _ _ _ _ _ _ _ kn HO17.out b18 hK18.seg)
  have Hb18 := hide' (Below.on Hb17.out b18)
  clear HTB17 HO17 hK18 b18 Hb17
  go_wp2_with fail
  refine hI18.out.mono ?_
  rintro e w19 ⟨H0, H1, H2, H3, H4, rfl, Bh, hH19, hBh, b19⟩
  obtain ⟨hk, hn, o2, c2', d2', o3, c3', d3', o4, c4', d4', rfl, rfl, rfl, rfl, rfl⟩ := VOwn.form (D + 1) hH19
  have balH : Below w19.heap.size w19 (w19.alloc (.cells #[.int .i64 hk, .int .i64 hn, .slice o2 c2' d2', .slice o3 c3' d3', .slice o4 c4' d4'] 30)) := (Below.refl _ _).alloc (Nat.le_refl _) _
  have b1619 := Below.on (Below.on Hb18.out b19) balH
  obtain ⟨i0, i1, i2, i3, i4, _⟩ := row5 (row_on HrW16.out b1619)
  have hE19 := hide' (HEA.out _ _ _ _ _ _ _ _ _ _ _ _ _ (hH19.on balH) (HW16.out.on b1619))
  have HG19 := hide' (HG16.out.on b1619)
  have HrG19 := hide' (row_on HrG16.out b1619)
  have HB119 := hide' (Below.on HB116.out b1619)
  clear hI18 Hb18 hH19 hBh b19 balH b1619 HG16 HW16 HrW16 HrG16 HB116
  go_wp2_with fail
  refine hE19.out.mono ?_
  rintro e w20 ⟨rfl, b20⟩
  obtain ⟨j0, j1, j2, j3, j4, _⟩ := row5 (row_on HrG19.out b20)
  have hH20 := hide' (HHA.out _ _ _ _ _ _ _ (HG19.out.on b20))
  have HB120 := hide' (Below.on HB119.out b20)
  clear hE19 b20 HG19 HrG19 HB119 i0 i1 i2 i3 i4
  go_wp2_with fail
  refine hH20.out.mono ?_
  rintro e w21 ⟨rfl, b21⟩
  have HB121 := hide' (Below.on (Hb.out _) (Below.on HB120.out b21))
  clear hH20 b21 HB120 j0 j1 j2 j3 j4
  go_wp2
  go_ret
  exact ⟨rfl, HB121.out⟩
end Go.Proofs.Ytbeekbkambkgoaa
/-
  What l2drop is made of: parts of slices, appended one behind the other, and what is read of them; no statement is proved here.
-/
namespace Go.Proofs.Ytbeekbkambkgoaa
open Go.RowKit
set_option linter.unusedVariables false
set_option linter.unusedSimpArgs false

theorem row_shape {w : World} {base : Nat} {e : TypeId} {s : Nat} {v : Value} {n : Nat} {xs : List Value} (h : w.ownsRow base e s v n xs) : ∃ a c, v = .slice a n c := by
  rcases h.2 with ⟨rfl, rfl⟩ | ⟨g, cap, cur, rfl, _⟩
  · exact ⟨_, _, rfl⟩
  · exact ⟨_, _, rfl⟩

/-- append of a part of another slice to a row of the call's own, inside a region that draws. -/
theorem step_append_part {ops : Array Oper} {o : Oper} {a : Act} {w : World} {K : Act → World → Prop} {Q : Exit → Act → World → Prop} {E : Prop} (hgd : o.guard = none) (s x : Operand) (t : TypeId)
    (ho : o.op = .call { callee := .builtin .append, args := #[s, x], argTypes := #[t, t] }) (base : Nat) (e : TypeId) (i : TypeInfo) (z : Value) (size bytes : Nat) (ht : Try.prog.underlying t = some (.slice e)) (hi : Try.prog.info? e = some i) (hz : i.zero = some z)
    (hsize : i.size = size) (hby : i.bytes = bytes) (hzs : z.cells.size = size) (hsz : 0 < size) (v : Value) (n : Nat) (xs : List Value) (hs : a.eval s = v) (hown : w.ownsRow base e size v n xs)
    (ad : Addr) (m c : Nat) (news : List Value) (hx : a.eval x = .slice (some ad) m c) (hl : news.length = m * size) (hnews : ∀ j u, news[j]? = some u → w.cell? (ad.add j) = some u) (h1 : ∀ u ∈ news, u.oneCell' = true)
    (h63 : n + m ≤ maxLen) (hbytes : (n + m) * bytes ≤ 140737488355328) (hbase : base ≤ w.heap.size)
    (h : ∀ v' w', w'.ownsRow base e size v' (n + m) (xs ++ news) → w.grownBy w' v.ownBlock → K (a.put o.dst v') w') : if Region.wanted o (yielded ops a.tmps) = true then Oper.wp Try.prog o a w K Q else E := by
  have hw : Region.wanted o (yielded ops a.tmps) = true := by simp [Region.wanted, hgd]
  rw [if_pos hw]
  obtain ⟨v', w', hrun, r1, r2, _⟩ := run_append_own (P := Try.prog) w base t o.type e i z size bytes ht hi hz hsize hby hzs hsz v n xs hown ad m c news hl hnews h1 h63 hbytes hbase
  unfold Oper.wp
  simp [execOp, ho, resolve, invoke, builtin, hs, hx, hrun, Result.andThen]
  exact h v' w' r1 r2

theorem elemK (w : World) : (sizeOf (Try.prog.elem 23)).run Try.prog w = .ok 1 w := by kernel_rfl
theorem elemL (w : World) : (sizeOf (Try.prog.elem 28)).run Try.prog w = .ok 5 w := by kernel_rfl

theorem sliceK_to (w : World) (a : Addr) (len cap n : Nat) (h : n ≤ cap) : (Instr.slice 23 (.slice (some a) len cap) none (some (.int .i64 n)) none).run Try.prog w = .ok (.slice (some a) n cap) w := by
  rw [run_slice_h (P := Try.prog) w 23 (some a) len cap (by kernel_rfl) .i64 n (by omega) (by omega), elemK]
  simp [Result.andThen, sliced, Addr.add]
theorem sliceL_to (w : World) (a : Addr) (len cap n : Nat) (h : n ≤ cap) : (Instr.slice 28 (.slice (some a) len cap) none (some (.int .i64 n)) none).run Try.prog w = .ok (.slice (some a) n cap) w := by
  rw [run_slice_h (P := Try.prog) w 28 (some a) len cap (by kernel_rfl) .i64 n (by omega) (by omega), elemL]
  simp [Result.andThen, sliced, Addr.add]
theorem sliceK_from (w : World) (b off len cap n : Nat) (h : n ≤ len) (hc : len ≤ cap) : (Instr.slice 23 (.slice (some ⟨b, off, none⟩) len cap) (some (.int .i64 n)) none none).run Try.prog w = .ok (.slice (some (if cap = n then ⟨b, off, none⟩ else ⟨b, off + n * 1, none⟩)) (len - n) (cap - n)) w := by
  rw [run_slice_l (P := Try.prog) w 23 _ len cap (by kernel_rfl) .i64 n (by omega) (by omega), elemK]
  simp only [Result.andThen, sliced]
  by_cases h : cap = n
  · simp [h]
  · simp [h, Addr.add_lit]
theorem sliceL_from (w : World) (b off len cap n : Nat) (h : n ≤ len) (hc : len ≤ cap) : (Instr.slice 28 (.slice (some ⟨b, off, none⟩) len cap) (some (.int .i64 n)) none none).run Try.prog w = .ok (.slice (some (if cap = n then ⟨b, off, none⟩ else ⟨b, off + n * 5, none⟩)) (len - n) (cap - n)) w := by
  rw [run_slice_l (P := Try.prog) w 28 _ len cap (by kernel_rfl) .i64 n (by omega) (by omega), elemL]
  simp only [Result.andThen, sliced]
  by_cases h : cap = n
  · simp [h]
  · simp [h, Addr.add_lit]

/-- The cells cs lie from here on. -/
def Lie (w : World) (b off : Nat) (cs : List Value) : Prop := ∀ j u, cs[j]? = some u → w.cell? ⟨b, off + j, none⟩ = some u

theorem Lie.take {w : World} {b off : Nat} {cs : List Value} (h : Lie w b off cs) (n : Nat) : ∀ j u, (cs.take n)[j]? = some u → w.cell? ((⟨b, off, none⟩ : Addr).add j) = some u := by
  intro j u hu
  rw [Addr.add_lit]
  refine h j u ?_
  rw [List.getElem?_take] at hu
  split at hu
  · exact hu
  · simp at hu

theorem Lie.drop {w : World} {b off : Nat} {cs : List Value} (h : Lie w b off cs) (n : Nat) : ∀ j u, (cs.drop n)[j]? = some u → w.cell? ((⟨b, off + n, none⟩ : Addr).add j) = some u := by
  intro j u hu
  rw [Addr.add_lit, Nat.add_assoc]
  rw [List.getElem?_drop] at hu
  exact h (n + j) u hu

theorem Lie.on {w w' : World} {b off : Nat} {cs : List Value} (h : Lie w b off cs) (hb : w'.heap[b]? = w.heap[b]?) : Lie w' b off cs := fun j u hu => (World.cell?_of_block (a := ⟨b, off + j, none⟩) hb).trans (h j u hu)

/-- A slice of texts lies as cells. -/
theorem KSeg.lie {R : Nat → Prop} {w : World} {a : Option Addr} {l p : Nat} {ks : List (List Int)} (h : KSeg R w (.slice a l p) ks) (hne : ks ≠ []) : l = ks.length ∧ ks.length ≤ p ∧ ∃ b off us, a = some ⟨b, off, none⟩ ∧ R b ∧ us.length = ks.length ∧ Lie w b off us ∧ (∀ u ∈ us, u.oneCell' = true) ∧ ∀ i (h : i < us.length), TSeg R w us[i] (ks.getD i []) := by
  obtain ⟨a', cap, e, h1, h2, h3, h4⟩ := h
  simp only [Value.slice.injEq] at e
  obtain ⟨rfl, rfl, rfl⟩ := e
  rcases h4 with h0 | ⟨b, off, ha, hR, hc⟩
  · exact absurd h0 hne
  · obtain ⟨us, hl, hu⟩ := list_of (Q := fun i u => w.cell? ⟨b, off + i, none⟩ = some u ∧ TSeg R w u (ks.getD i [])) ks.length hc
    refine ⟨rfl, h1, b, off, us, ha, hR, hl, fun j u hj => ?_, fun u hu' => ?_, fun i hi => (hu i hi).2⟩
    · obtain ⟨hj', rfl⟩ := List.getElem?_eq_some_iff.1 hj
      exact (hu j hj').1
    · obtain ⟨i, hi, rfl⟩ := List.mem_iff_getElem.1 hu'
      obtain ⟨aa, cc, e, _⟩ := (hu i hi).2
      rw [e]; rfl

/-- .. and what lies as cells in a row of its own is a slice of texts. -/
theorem kseg_of {w : World} {base : Nat} {v : Value} {n : Nat} {us : List Value} {ks : List (List Int)} (h : w.ownsRow base 22 1 v n us) (hn : n = ks.length) (hT : ∀ i (hi : i < us.length), TSeg (fun b => b < w.heap.size) w us[i] (ks.getD i [])) : KSeg (fun b => b < w.heap.size) w v ks := by
  have hul : us.length = n := by have := h.1; omega
  have hcell := fun g hg => h.cells (g := g) hg
  rcases h.2 with ⟨rfl, h0⟩ | ⟨g, cap, cur, rfl, hg, hh, hle, hm, _, _⟩
  · have hk : ks = [] := List.eq_nil_of_length_eq_zero (by omega)
    subst hk
    exact ⟨none, 0, rfl, by simp, by simp, fun _ => rfl, .inl rfl⟩
  · subst hn
    refine ⟨some ⟨g, 0, none⟩, cap, rfl, hle, hm, by simp, .inr ⟨g, 0, rfl, (Array.getElem?_eq_some_iff.1 hh).1, fun i hi => ?_⟩⟩
    have hi' : i < us.length := by omega
    refine ⟨us[i], ?_, hT i hi'⟩
    have := hcell g rfl i us[i] (List.getElem?_eq_getElem hi')
    rw [Addr.add_lit] at this
    exact this
end Go.Proofs.Ytbeekbkambkgoaa
/-
  Values that lie as cells, and a part of them; no statement is proved here.
-/
namespace Go.Proofs.Ytbeekbkambkgoaa
open Go.RowKit
set_option linter.unusedVariables false
set_option linter.unusedSimpArgs false

abbrev V5 := Value × Value × Value × Value × Value

theorem flat_len : ∀ fs : List V5, ((fs.map enc5).flatten).length = fs.length * 5
  | [] => rfl
  | f :: fs => by have := flat_len fs; simp only [List.map_cons, List.flatten_cons, List.length_append, List.length_cons, this]; simp [enc5]; omega

theorem flat_take : ∀ (fs : List V5) (k : Nat), ((fs.map enc5).flatten).take (k * 5) = ((fs.take k).map enc5).flatten
  | [], k => by simp
  | f :: fs, 0 => by simp
  | f :: fs, k + 1 => by
    have := flat_take fs k
    simp only [List.map_cons, List.flatten_cons, List.take_succ_cons, ← this]
    rw [List.take_append, List.take_of_length_le (by simp [enc5]; omega)]
    congr 2
    simp [enc5]; omega

theorem flat_drop : ∀ (fs : List V5) (k : Nat), ((fs.map enc5).flatten).drop (k * 5) = ((fs.drop k).map enc5).flatten
  | [], k => by simp
  | f :: fs, 0 => by simp
  | f :: fs, k + 1 => by
    have := flat_drop fs k
    simp only [List.map_cons, List.flatten_cons, List.drop_succ_cons, ← this]
    rw [List.drop_append, List.drop_eq_nil_of_le (by simp [enc5]; omega), List.nil_append]
    congr 1
    simp [enc5]; omega

theorem flat_erase (fs : List V5) (k : Nat) : ((fs.map enc5).flatten).take (k * 5) ++ ((fs.map enc5).flatten).drop ((k + 1) * 5) = ((fs.eraseIdx k).map enc5).flatten := by
  rw [flat_take, flat_drop, List.eraseIdx_eq_take_drop_succ, List.map_append, List.flatten_append]

theorem flat5_at (fs : List V5) (i : Nat) (hi : i < fs.length) (r : Nat) (hr : r < 5) : ((fs.map enc5).flatten)[i * 5 + r]? = (enc5 fs[i])[r]? := by
  rw [flatten_at 5 (fs.map enc5) (by intro c hc; simp only [List.mem_map] at hc; obtain ⟨f, _, rfl⟩ := hc; rfl) i (by simpa using hi) r hr]
  simp [List.getD_eq_getElem?_getD, hi]

theorem lie_five {w : World} {b off : Nat} {fs : List V5} (h : ∀ i (hi : i < fs.length), Five w b (off + i * 5) fs[i]) : Lie w b off ((fs.map enc5).flatten) := by
  intro j u hu
  have hj := (List.getElem?_eq_some_iff.1 hu).1
  rw [flat_len] at hj
  have hi : j / 5 < fs.length := by omega
  have hr : j % 5 < 5 := Nat.mod_lt _ (by omega)
  have e : j = j / 5 * 5 + j % 5 := by omega
  rw [e, flat5_at fs (j / 5) hi (j % 5) hr] at hu
  obtain ⟨h0, h1, h2, h3, h4⟩ := h (j / 5) hi
  rw [e, ← Nat.add_assoc]
  generalize j % 5 = r at *
  match r, hr with
  | 0, _ => simp [enc5] at hu; rw [← hu]; exact h0
  | 1, _ => simp [enc5] at hu; rw [← hu]; exact h1
  | 2, _ => simp [enc5] at hu; rw [← hu]; exact h2
  | 3, _ => simp [enc5] at hu; rw [← hu]; exact h3
  | 4, _ => simp [enc5] at hu; rw [← hu]; exact h4

theorem five_lie {w : World} {b off : Nat} {fs : List V5} (h : Lie w b off ((fs.map enc5).flatten)) (i : Nat) (hi : i < fs.length) : Five w b (off + i * 5) fs[i] := by
  have key : ∀ r u, r < 5 → (enc5 fs[i])[r]? = some u → w.cell? ⟨b, off + i * 5 + r, none⟩ = some u := fun r u hr hu => by
    have := h (i * 5 + r) u (by rw [flat5_at fs i hi r hr]; exact hu)
    rw [← Nat.add_assoc] at this
    exact this
  exact ⟨key 0 _ (by omega) rfl, key 1 _ (by omega) rfl, key 2 _ (by omega) rfl, key 3 _ (by omega) rfl, key 4 _ (by omega) rfl⟩

/-- A slice of values lies as cells. -/
theorem LSeg.lie {R : Nat → Prop} {w : World} {d : Nat} {a : Option Addr} {l p : Nat} {vl : List (Vl d)} (h : LSeg R w d (.slice a l p) vl) (hne : vl ≠ []) : l = vl.length ∧ vl.length ≤ p ∧ ∃ b off, ∃ fs : List V5, a = some ⟨b, off, none⟩ ∧ R b ∧ fs.length = vl.length ∧ Lie w b off ((fs.map enc5).flatten) ∧ (∀ u ∈ (fs.map enc5).flatten, u.oneCell' = true) ∧ ∀ i (h : i < fs.length) (h' : i < vl.length), VSeg R w d fs[i] vl[i] := by
  obtain ⟨a', cap, e, h1, h2, h3, h4⟩ := h
  simp only [Value.slice.injEq] at e
  obtain ⟨rfl, rfl, rfl⟩ := e
  rcases h4 with h0 | ⟨b, off, ha, hR, hc⟩
  · exact absurd h0 hne
  · obtain ⟨fs, hl, hu⟩ := list_of (Q := fun i e => Five w b (off + i * 5) e ∧ ∀ h : i < vl.length, VSeg R w d e vl[i]) vl.length (fun i hi => by obtain ⟨e, he, hv⟩ := hc i hi; exact ⟨e, he, fun _ => hv⟩)
    refine ⟨rfl, h1, b, off, fs, ha, hR, hl, lie_five fun i hi => (hu i hi).1, fun u hu' => ?_, fun i hi h' => (hu i hi).2 h'⟩
    simp only [List.mem_flatten, List.mem_map] at hu'
    obtain ⟨_, ⟨f, hf, rfl⟩, hmem⟩ := hu'
    obtain ⟨i, hi, rfl⟩ := List.mem_iff_getElem.1 hf
    have hv := (hu i hi).2 (by omega)
    generalize fs[i] = f at *
    obtain ⟨x0, x1, x2, x3, x4⟩ := f
    obtain ⟨_, _, _, _, _, _, _, _, _, _, _, rfl, rfl, rfl, rfl, rfl⟩ := VSeg.form d hv
    simp only [enc5, List.mem_cons, List.not_mem_nil, or_false] at hmem
    rcases hmem with rfl | rfl | rfl | rfl | rfl <;> rfl

theorem lseg_of {w : World} {base d : Nat} {v : Value} {n : Nat} {fs : List V5} {vl : List (Vl d)} (h : w.ownsRow base 30 5 v n ((fs.map enc5).flatten)) (hn : n = vl.length) (hV : ∀ i (hi : i < fs.length) (h' : i < vl.length), VSeg (fun b => b < w.heap.size) w d fs[i] vl[i]) : LSeg (fun b => b < w.heap.size) w d v vl := by
  have hul : fs.length = n := by have := h.1; rw [flat_len] at this; omega
  have hcell := fun g hg => h.cells (g := g) hg
  rcases h.2 with ⟨rfl, h0⟩ | ⟨g, cap, cur, rfl, hg, hh, hle, hm, _, _⟩
  · have hk : vl = [] := List.eq_nil_of_length_eq_zero (by omega)
    subst hk
    exact ⟨none, 0, rfl, by simp, by simp, fun _ => rfl, .inl rfl⟩
  · subst hn
    refine ⟨some ⟨g, 0, none⟩, cap, rfl, hle, hm, by simp, .inr ⟨g, 0, rfl, (Array.getElem?_eq_some_iff.1 hh).1, fun i hi => ?_⟩⟩
    have hi' : i < fs.length := by omega
    refine ⟨fs[i], five_lie (fun j u hj => ?_) i hi', hV i hi' hi⟩
    have := hcell g rfl j u hj
    rw [Addr.add_lit] at this
    exact this
end Go.Proofs.Ytbeekbkambkgoaa
