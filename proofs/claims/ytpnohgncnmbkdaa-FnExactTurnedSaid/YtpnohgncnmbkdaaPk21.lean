/-
  Texts that a law leans on, one behind the other; no statement is proved here.
-/
import Derived.Test.YtpnohgncnmbkdaaPk1
import Derived.Deep.RegionHeld3
import Derived.Deep.Cut
import Derived.Test.YtpnohgncnmbkdaaPk13
import Derived.Test.YtpnohgncnmbkdaaPk7
/-
  FnExactBare answers true, once both calls' ends are known; written by wip/gen/graphgb.py.
-/
namespace Go.Proofs.Ytpnohgncnmbkdaa
open Go.RowKit
set_option linter.unusedVariables false
set_option linter.unusedSimpArgs false

set_option maxHeartbeats 6400000 in
set_option maxRecDepth 100000 in
theorem walk_WgBa (n rn : Int) (x : Value) (E R : List Edg) (bb : Bool) (w : World) (hx : ESeg (fun b => b < w.heap.size) w x E) (hRl : R.length ≤ 1048576)
    (HSp : ∀ u wx, ESeg (fun b => b < wx.heap.size) wx u E → Calls Try.prog 42 #[.agg #[.int .i64 n, u]] wx (fun e w' => ∃ u, e = .returned (.tuple #[.agg #[.int .i64 rn, u], .bool bb]) ∧ EOwn w' wx.heap.size u R ∧ Below wx.heap.size wx w'))
    (HIm : ∀ u wx, ESeg (fun b => b < wx.heap.size) wx u E → Below w.heap.size w wx → Calls Try.prog 25 #[.agg #[.int .i64 n, u]] wx (fun e w' => ∃ u, e = .returned (.tuple #[.agg #[.int .i64 rn, u], .bool bb]) ∧ EOwn w' wx.heap.size u R ∧ Below wx.heap.size wx w')) :
    Calls Try.prog 13 #[.agg #[.int .i64 n, x]] w fun e w' => e = .returned (.bool true) ∧ Below w.heap.size w w' := by
  have Hb : Hid (∀ o : Obj, Below w.heap.size w (w.alloc o)) := fun o => (Below.refl _ _).alloc (Nat.le_refl _) o
  have Hbox : Hid (∀ o wx, Below (w.alloc o).heap.size (w.alloc o) wx → wx.heap[w.heap.size]? = some o) := fun o wx h => box_row h
  have HX : Hid (∀ wx, Below w.heap.size w wx → ESeg (fun b => b < w.heap.size) wx x E) := fun wx hb => hx.agree (agree_below hb)
  have HS : Hid (∀ wx, Below w.heap.size w wx → Calls Try.prog 27 #[.agg #[.int .i64 n, x], .int .i64 1048576] wx fun e w' => e = .returned (.int .i64 (lessN 1048576 E.length)) ∧ Below wx.heap.size wx w') := fun wx hb => szGraph_any _ n x E wx (HX.out wx hb) (fun b hb' => Nat.lt_of_lt_of_le hb' hb.size)
  have HT : Hid (E.length ≤ 1048576 → ∀ wx, Below w.heap.size w wx → Calls Try.prog 28 #[.agg #[.int .i64 n, x]] wx fun e w' => ∃ u, e = .returned (.agg #[.int .i64 n, u]) ∧ EOwn w' wx.heap.size u E ∧ Below wx.heap.size wx w') := fun hl wx hb => toGraph_any w.heap.size n x E wx (HX.out wx hb) hb.size hl
  have HEq : Hid (∀ (y z : Value) wx, ESeg (fun b => b < wx.heap.size) wx y E → ESeg (fun b => b < wx.heap.size) wx z E → Calls Try.prog 29 #[.agg #[.int .i64 n, y], .agg #[.int .i64 n, z]] wx fun e w' => e = .returned (.bool true) ∧ Below wx.heap.size wx w') := fun y z wx h1 h2 => eqGraph_same wx.heap.size n y z E wx h1 h2 (Nat.le_refl _)
  have HEr : Hid (∀ (y z : Value) wx, ESeg (fun b => b < wx.heap.size) wx y R → ESeg (fun b => b < wx.heap.size) wx z R → Calls Try.prog 29 #[.agg #[.int .i64 rn, y], .agg #[.int .i64 rn, z]] wx fun e w' => e = .returned (.bool true) ∧ Below wx.heap.size wx w') := fun y z wx h1 h2 => eqGraph_same wx.heap.size rn y z R wx h1 h2 (Nat.le_refl _)
  have HSp' := hide' HSp
  have HIm' := hide' HIm
  obtain ⟨a, cap, rfl, -⟩ := hx
  clear HSp HIm HX
  by_cases hz : (1048576 : Int) < (E.length : Int)
  · have hl : lessN 1048576 E.length = -1 := if_pos hz
    rw [hl] at HS
    clear hl HT HEq HEr HSp' HIm'
    generalize E.length = ll at *
    go_enter Try.func13, Try.ntmps13
    go_wp2_with fail
    refine (HS.out _ (Hb.out _)).mono ?_
    rintro e w1 ⟨rfl, b1⟩
    have B1 := Below.on (Hb.out _) b1
    clear b1
    go_wp2
    go_ret
    exact ⟨rfl, B1⟩
  have hl : lessN 1048576 E.length = 1048576 - E.length := if_neg hz
  rw [hl] at HS
  have HT' := hide' (HT.out (by omega))
  have hll : E.length ≤ 1048576 := by omega
  have hz0 : 0 ≤ (1048576 : Int) - (E.length : Int) := by omega
  have hz1 : (1048576 : Int) - (E.length : Int) ≤ 1048576 := by omega
  clear hl hz HT
  generalize hEl : E.length = ll at *
  generalize hRn : R.length = rl at *
  generalize (1048576 : Int) - (ll : Int) = lft at *
  go_enter Try.func13, Try.ntmps13
  go_wp2_with fail
  refine (HS.out _ (Hb.out _)).mono ?_
  rintro e w1 ⟨rfl, b1⟩
  obtain ⟨y0, y1, -⟩ := row2 (Hbox.out _ _ b1)
  have B1 := hide' b1
  have HT1 := hide' (HT'.out w1 (Below.on (Hb.out _) b1))
  clear b1 HS
  go_wp2_with fail
  refine HT1.out.mono ?_
  rintro e w2 ⟨u, rfl, hO2, b2⟩
  have hS2 := hide' (HSp'.out u w2 hO2.read)
  have B2 := hide' (Below.on B1.out b2)
  obtain ⟨ua, uc, hu⟩ := hO2.form
  rw [hEl] at hu
  subst hu
  clear hO2 b2 HT1 B1 y0 y1
  go_wp2_with fail
  refine hS2.out.mono ?_
  rintro e w3 ⟨Wv, rfl, hW3, b3⟩
  obtain ⟨Wa, Wc, hWf⟩ := hW3.form
  rw [hRn] at hWf
  subst hWf
  have bal3 : Below w3.heap.size w3 (w3.alloc (.cells #[.int .i64 rn, .slice Wa rl Wc] 25)) := (Below.refl _ _).alloc (Nat.le_refl _) _
  have HBw : Hid (∀ k, (Value.slice Wa rl Wc).ownBlock = some k → k < w3.heap.size) := fun k hk => (hW3.lt k hk).2
  have HW3 := hide' (hW3.on bal3)
  have B3 := hide' (Below.on (Below.on B2.out b3) bal3)
  have Hw3 : Hid (∀ wx, Below (w3.alloc (.cells #[.int .i64 rn, .slice Wa rl Wc] 25)).heap.size (w3.alloc (.cells #[.int .i64 rn, .slice Wa rl Wc] 25)) wx → wx.heap[w3.heap.size]? = some (.cells #[.int .i64 rn, .slice Wa rl Wc] 25)) := fun wx hb => box_row hb
  have hs3 : (w3.alloc (.cells #[.int .i64 rn, .slice Wa rl Wc] 25)).heap.size = w3.heap.size + 1 := by simp
  obtain ⟨y0, y1, -⟩ := row2 (Hbox.out _ _ B3.out)
  have HT3 := hide' (HT'.out _ (Below.on (Hb.out _) B3.out))
  clear b3 hS2 B2 hW3 bal3
  go_wp2_with fail
  refine HT3.out.mono ?_
  rintro e w4 ⟨v, rfl, hO4, b4⟩
  obtain ⟨va, vc, hvf⟩ := hO4.form
  rw [hEl] at hvf
  subst hvf
  have bal : Below w4.heap.size w4 (w4.alloc (.cells #[.int .i64 n, .slice va ll vc] 25)) := (Below.refl _ _).alloc (Nat.le_refl _) _
  have B4 := hide' (Below.on (Below.on B3.out b4) bal)
  have hI4 := hide' (HIm'.out _ _ (hO4.on bal).read (Below.on (Hb.out _) B4.out))
  have HO4 := hide' (hO4.on bal)
  have HBx : Hid (∀ k, (Value.slice va ll vc).ownBlock = some k → w3.heap.size + 1 ≤ k ∧ k < w4.heap.size) := fun k hk => by have := hO4.lt k hk; rw [hs3] at this; exact this
  have hz34 : w3.heap.size + 1 ≤ w4.heap.size := by have := b4.size; rw [hs3] at this; exact this
  have HW4 := hide' ((HW3.out.on b4).on bal)
  have hw4 := (bal.block _ (by omega)).trans (Hw3.out _ b4)
  have Hw4 := hide' hw4
  have Hx4 : Hid (∀ wx, Below (w4.alloc (.cells #[.int .i64 n, .slice va ll vc] 25)).heap.size (w4.alloc (.cells #[.int .i64 n, .slice va ll vc] 25)) wx → wx.heap[w4.heap.size]? = some (.cells #[.int .i64 n, .slice va ll vc] 25)) := fun wx hb => box_row hb
  have hs4 : (w4.alloc (.cells #[.int .i64 n, .slice va ll vc] 25)).heap.size = w4.heap.size + 1 := by simp
  clear hO4 b4 bal HT3 y0 y1 HW3 hw4 Hw3
  go_wp2_with fail
  refine hI4.out.mono ?_
  rintro e w5 ⟨Gv, rfl, hG5, b5⟩
  obtain ⟨Ga, Gc, hGf⟩ := hG5.form
  rw [hRn] at hGf
  subst hGf
  have bal5 : Below w5.heap.size w5 (w5.alloc (.cells #[.int .i64 rn, .slice Ga rl Gc] 25)) := (Below.refl _ _).alloc (Nat.le_refl _) _
  have hs5 : (w5.alloc (.cells #[.int .i64 rn, .slice Ga rl Gc] 25)).heap.size = w5.heap.size + 1 := by simp
  have HBg : Hid (∀ k, (Value.slice Ga rl Gc).ownBlock = some k → w4.heap.size + 1 ≤ k ∧ k < w5.heap.size) := fun k hk => by have := hG5.lt k hk; rw [hs4] at this; exact this
  have hz45 : w4.heap.size + 1 ≤ w5.heap.size := by have := b5.size; rw [hs4] at this; exact this
  have b45 := Below.on b5 bal5
  have HW5 := hide' (HW4.out.on b45)
  have HG5 := hide' (hG5.on bal5)
  have B5 := hide' (Below.on B4.out b45)
  have HO5 := hide' (HO4.out.on b45)
  have Hx5 := hide' (Hx4.out _ b45)
  have hw5 := (b45.block _ (by rw [hs4]; omega)).trans Hw4.out
  have Hw5 := hide' hw5
  have hg5 := (MapKept.heap_alloc w5 (.cells #[.int .i64 rn, .slice Ga rl Gc] 25)).1
  have Hg5 := hide' hg5
  obtain ⟨p0, p1, -⟩ := row2 hw5
  obtain ⟨m0, m1, -⟩ := row2 hg5
  have hEK := hide' (HEr.out _ _ _ HG5.out.read HW5.out.read)
  clear b5 hI4 HO4 B4 hG5 HW4 Hx4 Hw4 hw5 hg5 b45 bal5
  go_wp2_with fail
  refine hEK.out.mono ?_
  rintro e w6 ⟨rfl, b6⟩
  have B6 := hide' (Below.on B5.out b6)
  have HO6 := hide' (HO5.out.on b6)
  have HG6 := hide' (HG5.out.on b6)
  have HW6 := hide' (HW5.out.on b6)
  have hz56 : w5.heap.size + 1 ≤ w6.heap.size := by have := b6.size; rw [hs5] at this; exact this
  have hx6 := (b6.block w4.heap.size (by rw [hs5]; omega)).trans Hx5.out
  have hw6 := hide' ((b6.block w3.heap.size (by rw [hs5]; omega)).trans Hw5.out)
  have hg6 := hide' ((b6.block w5.heap.size (by rw [hs5]; omega)).trans Hg5.out)
  obtain ⟨v0, v1, -⟩ := row2 hx6
  have Hx6 := hide' hx6
  clear b6 hEK HO5 HG5 HW5 B5 hx6 Hx5 Hw5 Hg5 p0 p1 m0 m1
  obtain ⟨y0, y1, -⟩ := row2 (Hbox.out _ _ B6.out)
  have HTd : Hid (Calls Try.prog 28 #[.agg #[.int .i64 n, .slice a ll cap]] w6.drew fun e w7 => ∃ za zc, e = .returned (.agg #[.int .i64 n, .slice za ll zc]) ∧ (w7.cell? ⟨w.heap.size, 0, none⟩ = some (.int .i64 n) ∧ w7.cell? ⟨w.heap.size, 1, none⟩ = some (.slice a ll cap) ∧ w7.cell? ⟨w4.heap.size, 0, none⟩ = some (.int .i64 n) ∧ w7.cell? ⟨w4.heap.size, 1, none⟩ = some (.slice va ll vc)) ∧ Hid (Calls Try.prog 29 #[.agg #[.int .i64 n, .slice va ll vc], .agg #[.int .i64 n, .slice za ll zc]] w7 fun e w8 => e = .returned (.bool true) ∧ (w8.cell? ⟨w.heap.size, 0, none⟩ = some (.int .i64 n) ∧ w8.cell? ⟨w.heap.size, 1, none⟩ = some (.slice a ll cap) ∧ w8.cell? ⟨w4.heap.size, 0, none⟩ = some (.int .i64 n) ∧ w8.cell? ⟨w4.heap.size, 1, none⟩ = some (.slice va ll vc)) ∧ Hid (Below w6.heap.size w6 w8))) := by
    refine (HT'.out w6.drew (Below.on (Hb.out _) B6.out).drew).mono ?_
    rintro e w7 ⟨z, rfl, hO7, b7⟩
    obtain ⟨za, zc, hzf⟩ := hO7.form
    rw [hEl] at hzf
    subst hzf
    have b67 : Below w6.heap.size w6 w7 := Below.on (Below.refl _ w6).drew b7
    have hkp : ∀ wy, Below w6.heap.size w6 wy → (wy.cell? ⟨w.heap.size, 0, none⟩ = some (.int .i64 n) ∧ wy.cell? ⟨w.heap.size, 1, none⟩ = some (.slice a ll cap) ∧ wy.cell? ⟨w4.heap.size, 0, none⟩ = some (.int .i64 n) ∧ wy.cell? ⟨w4.heap.size, 1, none⟩ = some (.slice va ll vc)) := fun wy hb => by
      obtain ⟨f0, f1, -⟩ := row2 (Hbox.out _ _ (Below.on B6.out hb))
      obtain ⟨f2, f3, -⟩ := row2 ((hb.block w4.heap.size ((Array.getElem?_eq_some_iff.1 Hx6.out).1)).trans Hx6.out)
      exact ⟨f0, f1, f2, f3⟩
    refine ⟨za, zc, rfl, hkp _ b67, ?_⟩
    exact (HEq.out _ _ w7 (HO6.out.on b67).read hO7.read).mono fun e w8 h => ⟨h.1, hkp _ (Below.on b67 h.2), Below.on b67 h.2⟩
  go_wp2_with fail
  go_region_held3 (fun wx => wx.cell? ⟨w.heap.size, 0, none⟩ = some (.int .i64 n) ∧ wx.cell? ⟨w.heap.size, 1, none⟩ = some (.slice a ll cap) ∧ wx.cell? ⟨w4.heap.size, 0, none⟩ = some (.int .i64 n) ∧ wx.cell? ⟨w4.heap.size, 1, none⟩ = some (.slice va ll vc)) (go_keep) (first
    | (go_at_call 28; refine HTd.out.mono ?_; rintro e w7 ⟨za, zc, rfl, ⟨i0, i1, i2, i3⟩, hE7⟩)
    | (go_at_call 29; refine hE7.out.mono ?_; rintro e w8 ⟨rfl, ⟨j0, j1, j2, j3⟩, hb8⟩)
    | fail)
  have HO8 := hide' (HO6.out.on hb8.out)
  have HG8 := hide' (HG6.out.on hb8.out)
  have HW8 := hide' (HW6.out.on hb8.out)
  have B8 := hide' (Below.on B6.out hb8.out)
  have hw8 := hide' ((hb8.out.block w3.heap.size (by omega)).trans hw6.out)
  have hg8 := hide' ((hb8.out.block w5.heap.size (by omega)).trans hg6.out)
  have hz68 : w6.heap.size ≤ w8.heap.size := hb8.out.size
  have HBk : Hid ((w.alloc (.cells #[.int .i64 n, .slice a ll cap] 45)).heap.size ≤ w3.heap.size + 1) := by have := B3.out.size; rw [hs3] at this; exact this
  clear y0 y1 v0 v1 i0 i1 i2 i3 hE7 HTd HO6 HG6 HW6 B6 hw6 hg6
  have hM8 := hide' (markGraph_any _ n _ E 1 w8 HO8.out (by omega) (by omega))
  rw [hEl] at hM8
  go_wp2_with fail
  refine hM8.out.mono ?_
  rintro e w9 ⟨rfl, -, hq9⟩
  have hG9 := HG8.out.far hq9 (fun k hk e' => by have h1 := HBg.out k hk; have h2 := HBx.out k e'; omega)
  have hW9 := HW8.out.far hq9 (fun k hk e' => by have h1 := HBw.out k hk; have h2 := HBx.out k e'; omega)
  have B9 := hide' (B8.out.grown hq9 B8.out.size (fun k hk => by have h2 := HBx.out k hk; have h3 := HBk.out; omega))
  have hw9 := (hq9.block w3.heap.size (by omega) (fun e' => by have h2 := HBx.out _ e'.symm; omega)).trans hw8.out
  have hg9 := (hq9.block w5.heap.size (by omega) (fun e' => by have h2 := HBx.out _ e'.symm; omega)).trans hg8.out
  have hz89 : w8.heap.size ≤ w9.heap.size := hq9.size
  obtain ⟨p0, p1, -⟩ := row2 hw9
  obtain ⟨m0, m1, -⟩ := row2 hg9
  have Hw9 := hide' hw9
  have Hg9 := hide' hg9
  have hE9 := hide' (HEr.out _ _ w9 hG9.read hW9.read)
  have HG9 := hide' hG9
  have HW9 := hide' hW9
  clear hq9 hG9 hW9 HG8 HW8 B8 hM8 HO8 j0 j1 j2 j3 hw8 hg8 hw9 hg9
  have hk0 : ¬ (1 : Int) + (ll : Int) * 2 < 0 := by omega
  go_wp2_with fail
  refine hE9.out.mono ?_
  rintro e w10 ⟨rfl, b10⟩
  have hM10 := hide' (markGraph_any _ rn _ R 1 w10 (HG9.out.on b10) (by omega) (by omega))
  have HW10 := hide' (HW9.out.on b10)
  have B10 := hide' (Below.on B9.out b10)
  have hw10 := hide' ((b10.block w3.heap.size (by omega)).trans Hw9.out)
  have hg10 := (b10.block w5.heap.size (by omega)).trans Hg9.out
  obtain ⟨m0, m1, -⟩ := row2 hg10
  have Hg10 := hide' hg10
  have hz910 : w9.heap.size ≤ w10.heap.size := b10.size
  rw [hRn] at hM10
  clear b10 hE9 HG9 HW9 B9 Hw9 Hg9 p0 p1 hg10
  go_wp2_with fail
  refine hM10.out.mono ?_
  rintro e w11 ⟨rfl, hG11, hq11⟩
  have HW11 := hide' (HW10.out.far hq11 (fun k hk e' => by have h1 := HBw.out k hk; have h2 := HBg.out k e'; omega))
  have B11 := hide' (B10.out.grown hq11 B10.out.size (fun k hk => by have h2 := HBg.out k hk; have h3 := HBk.out; omega))
  have hw11 := hide' ((hq11.block w3.heap.size (by omega) (fun e' => by have h2 := HBg.out _ e'.symm; omega)).trans hw10.out)
  have hg11 := (hq11.block w5.heap.size (by omega) (fun e' => by have h2 := HBg.out _ e'.symm; omega)).trans Hg10.out
  obtain ⟨m0, m1, -⟩ := row2 hg11
  have Hg11 := hide' hg11
  have hz1011 : w10.heap.size ≤ w11.heap.size := hq11.size
  have HG11 := hide' hG11
  have hH11 := hide' (heldGraph_any w11.heap.size rn _ 1 rl w11 hG11.read (Nat.le_refl _) (by omega) (by omega))
  clear hG11 hq11 hM10 HW10 B10 hw10 Hg10 hg11
  have hrn0 : ¬ (1 : Int) + (rl : Int) * 2 < 0 := by omega
  go_wp2_with fail
  refine hH11.out.mono ?_
  rintro e w12 ⟨rfl, b12⟩
  have B12 := hide' (Below.on B11.out b12)
  obtain ⟨y0, y1, -⟩ := row2 (Hbox.out _ _ B12.out)
  have HT12 := hide' (HT'.out w12 (Below.on (Hb.out _) B12.out))
  have HG12 := hide' (HG11.out.on b12)
  have HW12 := hide' (HW11.out.on b12)
  have hw12 := hide' ((b12.block w3.heap.size (by omega)).trans hw11.out)
  have hg12 := hide' ((b12.block w5.heap.size (by omega)).trans Hg11.out)
  have hz1112 : w11.heap.size ≤ w12.heap.size := b12.size
  clear b12 hH11 HG11 HW11 B11 hw11 Hg11 m0 m1
  go_wp2_with fail
  refine HT12.out.mono ?_
  rintro e w13 ⟨z, rfl, hO13, b13⟩
  have B13 := hide' (Below.on B12.out b13)
  have hI13 := hide' (HIm'.out z w13 hO13.read (Below.on (Hb.out _) B13.out))
  have HG13 := hide' (HG12.out.on b13)
  have HW13 := hide' (HW12.out.on b13)
  have hw13 := hide' ((b13.block w3.heap.size (by omega)).trans hw12.out)
  have hg13 := hide' ((b13.block w5.heap.size (by omega)).trans hg12.out)
  have hz1213 : w12.heap.size ≤ w13.heap.size := b13.size
  obtain ⟨za', zc', hzf⟩ := hO13.form
  rw [hEl] at hzf
  subst hzf
  clear hO13 b13 HT12 HG12 HW12 B12 y0 y1 hw12 hg12
  go_wp2_with fail
  refine hI13.out.mono ?_
  rintro e w14 ⟨Hv, rfl, hH14, b14⟩
  obtain ⟨Ha, Hc, hHf⟩ := hH14.form
  rw [hRn] at hHf
  subst hHf
  have bal14 : Below w14.heap.size w14 (w14.alloc (.cells #[.int .i64 rn, .slice Ha rl Hc] 25)) := (Below.refl _ _).alloc (Nat.le_refl _) _
  have b1314 := Below.on b14 bal14
  have HW14 := HW13.out.on b1314
  have hE14 := hide' (HEr.out _ _ _ (hH14.on bal14).read HW14.read)
  have HG14 := hide' (HG13.out.on b1314)
  have B14 := hide' (Below.on B13.out b1314)
  have hw14 := (b1314.block w3.heap.size (by omega)).trans hw13.out
  have hg14 := hide' ((b1314.block w5.heap.size (by omega)).trans hg13.out)
  obtain ⟨p0, p1, -⟩ := row2 hw14
  have hz1314 : w13.heap.size ≤ (w14.alloc (.cells #[.int .i64 rn, .slice Ha rl Hc] 25)).heap.size := b1314.size
  clear hH14 b14 hI13 HG13 HW13 B13 bal14 b1314 HW14 hw13 hg13 hw14
  go_wp2_with fail
  refine hE14.out.mono ?_
  rintro e w15 ⟨rfl, b15⟩
  have hg15 := (b15.block w5.heap.size (by omega)).trans hg14.out
  obtain ⟨m0, m1, -⟩ := row2 hg15
  have hH15 := hide' (heldGraph_any w15.heap.size rn _ 1 rl w15 (HG14.out.on b15).read (Nat.le_refl _) (by omega) (by omega))
  have B15 := hide' (Below.on B14.out b15)
  clear b15 hE14 HG14 B14 p0 p1 hg15 hg14
  go_wp2_with fail
  refine hH15.out.mono ?_
  rintro e w16 ⟨rfl, b16⟩
  have HB := hide' (Below.on (Hb.out _) (Below.on B15.out b16))
  clear b16 hH15
  go_wp2
  go_ret
  exact ⟨rfl, HB.out⟩
end Go.Proofs.Ytpnohgncnmbkdaa
/-
  Bare of the specification.
-/
namespace Go.Proofs.Ytpnohgncnmbkdaa
open Go.RowKit
set_option linter.unusedVariables false
set_option linter.unusedSimpArgs false

/-- Is edge i one that can't be spared? -/
def bareI (n : Nat) (E : List Edg) (i : Nat) : Bool := !leadsF n E (E.getD i (0, 0)).1 (E.getD i (0, 0)).2 (i : Int)
/-- Those of the first j edges that can't be spared. -/
def bareF (n : Nat) (E : List Edg) (j : Nat) : List Edg := ((List.range j).filter (bareI n E)).map fun i => E.getD i (0, 0)
/-- What Bare answers. -/
def bareA (n : Int) (E : List Edg) : List Edg := if ordB n E = true then bareF n.toNat E E.length else []
def bareN (n : Int) (E : List Edg) : Int := if ordB n E = true then n else 0

theorem bareF_succ (n : Nat) (E : List Edg) (j : Nat) (h : j < E.length) : bareF n E (j + 1) = bareF n E j ++ (if leadsF n E E[j].1 E[j].2 (j : Int) = true then [] else [E[j]]) := by
  unfold bareF
  rw [List.range_succ, List.filter_append, List.map_append, List.filter_cons, List.filter_nil]
  have hg : E.getD j (0, 0) = E[j] := by simp [List.getD_eq_getElem?_getD, h]
  have hb : bareI n E j = !leadsF n E E[j].1 E[j].2 (j : Int) := by unfold bareI; rw [hg]
  by_cases e : leadsF n E E[j].1 E[j].2 (j : Int) = true
  · rw [if_pos e, if_neg (by rw [hb, e]; simp)]
    rfl
  · rw [if_neg e, if_pos (by rw [hb]; simp [e])]
    simp [hg, h]
theorem bareF_len (n : Nat) (E : List Edg) (j : Nat) : (bareF n E j).length ≤ j := by
  unfold bareF
  rw [List.length_map]
  exact Nat.le_trans (List.length_filter_le _ _) (by simp)
theorem FSt.on {w wr w' : World} {o o' : Obj} {R : Nat} {n : Int} {l : List Edg} {u : Value} (h : FSt w o o' R n l u wr) (hb : Below wr.heap.size wr w') : FSt w o o' R n l u w' := by
  obtain ⟨h1, h2, h3, h4, h5, h6⟩ := h
  have hl : ∀ b o, wr.heap[b]? = some o → w'.heap[b]? = some o := fun b o h => (hb.block b (Array.getElem?_eq_some_iff.1 h).1).trans h
  exact ⟨hl _ _ h1, hl _ _ h2, Below.on h3 hb, h4, hl _ _ h5, h6.on hb⟩

set_option maxHeartbeats 6400000 in
set_option maxRecDepth 100000 in
theorem spec_Bare_any (N : Nat) (n : Int) (x : Value) (E : List Edg) (w : World) (hx : ESeg (fun b => b < N) w x E) (hN : N ≤ w.heap.size) :
    Calls Try.prog 42 #[.agg #[.int .i64 n, x]] w (GrEnd (bareN n E) (bareA n E) (ordB n E) w) := by
  have HX : Hid (∀ wx, Below w.heap.size w wx → ESeg (fun b => b < N) wx x E) := fun wx hb => hx.agree (agree_below (hb.mono hN))
  have Hb2 : Hid (∀ o o' : Obj, Below w.heap.size w ((w.alloc o).alloc o')) := fun o o' => ((Below.refl _ _).alloc (Nat.le_refl _) o).alloc (by simp) o'
  have HG : Hid (∀ wx, Below w.heap.size w wx → Calls Try.prog 17 #[.agg #[.int .i64 n, x]] wx fun e w' => e = .returned (.bool (gB n E)) ∧ Below wx.heap.size wx w') := fun wx hb => spec_GraphOk_any N n x E wx (HX.out wx hb) (by have := hb.size; omega)
  have HOo : Hid (gB n E = true → ∀ wx, Below w.heap.size w wx → Calls Try.prog 67 #[.agg #[.int .i64 n, x]] wx fun e w' => ∃ u, e = .returned u ∧ NOwn w' wx.heap.size u (ordR n.toNat E) ∧ Below wx.heap.size wx w') := fun hg wx hb => spec_l9order N n x E wx (HX.out wx hb) (by have := hb.size; omega) hg
  have HLd : Hid (gB n E = true → ∀ p q r wx, Below w.heap.size w wx → Calls Try.prog 71 #[.agg #[.int .i64 n, x], .int .i64 p, .int .i64 q, .int .i64 r] wx fun e w' => e = .returned (.bool (leadsF n.toNat E p q r)) ∧ Below wx.heap.size wx w') := fun hg p q r wx hb => spec_l9leads N n x E p q r wx (HX.out wx hb) (by have := hb.size; omega) hg
  obtain ⟨iE, hiE, hz0, hz1, hz2⟩ := info_parts infoE
  obtain ⟨a, cap, rfl, hlc, hcm, -, -⟩ := hx
  unfold maxLen at hcm
  show Calls _ _ _ _ fun e w' => ∃ u, e = .returned (.tuple #[.agg #[.int .i64 (bareN n E), u], .bool (ordB n E)]) ∧ EOwn w' w.heap.size u (bareA n E) ∧ Below w.heap.size w w'
  by_cases hg : gB n E = true
  rotate_left
  · have hg' : gB n E = false := by simpa using hg
    have hb0 : ordB n E = false := by simp [ordB, hg']
    have ha0 : bareA n E = [] := by simp [bareA, hb0]
    have hn0 : bareN n E = 0 := by simp [bareN, hb0]
    rw [hg'] at HG
    rw [hb0, ha0, hn0]
    clear hg hg' ha0 hn0 hb0 HX HOo HLd
    generalize E.length = ll at *
    have HGd := hide' (HG.out ((w.alloc (.cells #[.int .i64 n, .slice a ll cap] 25)).alloc (.cells #[.int .i64 0, .slice none 0 0] 25)).drew (Hb2.out _ _).drew)
    go_enter Try.func42, Try.ntmps42
    go_wp2_with fail
    first
      | go_region_with (go_at_call 17; refine HGd.out.mono ?_; rintro e w1 ⟨rfl, b1⟩)
      | fail
    all_goals
      have b1' : Below ((w.alloc (.cells #[.int .i64 n, .slice a ll cap] 25)).alloc (.cells #[.int .i64 0, .slice none 0 0] 25)).heap.size ((w.alloc (.cells #[.int .i64 n, .slice a ll cap] 25)).alloc (.cells #[.int .i64 0, .slice none 0 0] 25)) w1 := Below.on (Below.refl _ _).drew b1
      obtain ⟨h1, h2, h3, h4⟩ := two_after b1'
      obtain ⟨t0, t1, tf⟩ := row2 h2
      have tf0 := tf 0
      have tf1 := tf 1
      have hrow := row2 (set2_heap (j := 0) (.int .i64 0) (.slice none 0 0) h2)
      simp only [set2, Nat.zero_add] at hrow
      have Hrow := hide' hrow
      have hgr := set2_grown w1 (w.heap.size + 1) 0 (.int .i64 0) (.slice none 0 0)
      have HB := hide' (h3.grown hgr (by omega) (by intro k hk; simp at hk; omega))
      clear b1 b1' h1 h2 h3 tf hrow hgr
      go_wp2_with fail
      obtain ⟨u0, u1, _⟩ := Hrow.out
      refine bodyPost_ret (v := .tuple #[.agg #[.int .i64 0, .slice none 0 0], .bool false]) (by simp [results, Try.results42, go_sem, u0, u1]) rfl ?_
      exact ⟨_, rfl, EOwn.nil _ _, HB.out⟩
  have HO2 := hide' (HOo.out hg)
  have HL2 := hide' (HLd.out hg)
  obtain ⟨hn0, hn1, hel, -⟩ := gB_iff.1 hg
  have hlen := ordR_len n.toNat E
  have hob : ordB n E = decide (n.toNat ≤ (ordR n.toNat E).length) := by simp [ordB, hg]
  have HC : Hid (Calls Try.prog 17 #[.agg #[.int .i64 n, .slice a E.length cap]] ((w.alloc (.cells #[.int .i64 n, .slice a E.length cap] 25)).alloc (.cells #[.int .i64 0, .slice none 0 0] 25)).drew fun e w1 => e = .returned (.bool true) ∧ (w1.cell? ⟨w.heap.size, 0, none⟩ = some (.int .i64 n) ∧ w1.cell? ⟨w.heap.size, 1, none⟩ = some (.slice a E.length cap)) ∧ Hid (Calls Try.prog 67 #[.agg #[.int .i64 n, .slice a E.length cap]] w1 fun e w2 => ∃ la lc, e = .returned (.slice la (ordR n.toNat E).length lc) ∧ (w2.cell? ⟨w.heap.size, 0, none⟩ = some (.int .i64 n) ∧ w2.cell? ⟨w.heap.size, 1, none⟩ = some (.slice a E.length cap)) ∧ Hid (Below ((w.alloc (.cells #[.int .i64 n, .slice a E.length cap] 25)).alloc (.cells #[.int .i64 0, .slice none 0 0] 25)).heap.size ((w.alloc (.cells #[.int .i64 n, .slice a E.length cap] 25)).alloc (.cells #[.int .i64 0, .slice none 0 0] 25)) w2))) := by
    refine (HG.out _ (Hb2.out _ _).drew).mono ?_
    rintro e w1 ⟨rfl, b1⟩
    have b1' : Below ((w.alloc (.cells #[.int .i64 n, .slice a E.length cap] 25)).alloc (.cells #[.int .i64 0, .slice none 0 0] 25)).heap.size ((w.alloc (.cells #[.int .i64 n, .slice a E.length cap] 25)).alloc (.cells #[.int .i64 0, .slice none 0 0] 25)) w1 := Below.on (Below.refl _ _).drew b1
    obtain ⟨h1, h2, h3, h4⟩ := two_after b1'
    obtain ⟨p0, p1, -⟩ := row2 h1
    refine ⟨by rw [hg], ⟨p0, p1⟩, ?_⟩
    refine (HO2.out w1 h3).mono ?_
    rintro e w2 ⟨u, rfl, hO, b2⟩
    obtain ⟨la, lc, rfl⟩ := hO.form
    have b2' := Below.on b1' b2
    obtain ⟨k1, k2, k3, k4⟩ := two_after b2'
    obtain ⟨p0', p1', -⟩ := row2 k1
    exact ⟨la, lc, rfl, ⟨p0', p1'⟩, b2'⟩
  clear HG HOo HLd HO2 hg
  generalize (ordR n.toNat E).length = L at *
  have W0 := (row2 (two_boxes w (.cells #[.int .i64 n, .slice a E.length cap] 25) (.cells #[.int .i64 0, .slice none 0 0] 25)).1).1
  have W1 := (row2 (two_boxes w (.cells #[.int .i64 n, .slice a E.length cap] 25) (.cells #[.int .i64 0, .slice none 0 0] 25)).1).2.1
  by_cases hle : n.toNat ≤ L
  rotate_left
  · have hb1 : ordB n E = false := by rw [hob]; simpa using hle
    have ha0 : bareA n E = [] := by simp [bareA, hb1]
    have hnn0 : bareN n E = 0 := by simp [bareN, hb1]
    have hle' : (L : Int) < n := by omega
    rw [hb1, ha0, hnn0]
    clear hob hb1 ha0 hnn0 HX HL2
    go_enter Try.func42, Try.ntmps42
    go_wp2_with fail
    go_region_held3 (fun wx => wx.cell? ⟨w.heap.size, 0, none⟩ = some (.int .i64 n) ∧ wx.cell? ⟨w.heap.size, 1, none⟩ = some (.slice a E.length cap)) (go_keep) (first
        | (go_at_call 17; refine HC.out.mono ?_; rintro e w1 ⟨rfl, ⟨i0, i1⟩, hC1⟩)
        | (go_at_call 67; refine hC1.out.mono ?_; rintro e w2 ⟨la, lc, rfl, ⟨j0, j1⟩, hB2⟩)
        | fail)
    all_goals
      obtain ⟨h1, h2, h3, h4⟩ := two_after hB2.out
      obtain ⟨t0, t1, tf⟩ := row2 h2
      have tf0 := tf 0
      have tf1 := tf 1
      have hrow := row2 (set2_heap (j := 0) (.int .i64 0) (.slice none 0 0) h2)
      simp only [set2, Nat.zero_add] at hrow
      have Hrow := hide' hrow
      have hgr := set2_grown w2 (w.heap.size + 1) 0 (.int .i64 0) (.slice none 0 0)
      have HB := hide' (h3.grown hgr (by omega) (by intro k hk; simp at hk; omega))
      clear h1 h2 h3 tf hrow hgr
      go_wp2_with fail
      obtain ⟨u0, u1, _⟩ := Hrow.out
      refine bodyPost_ret (v := .tuple #[.agg #[.int .i64 0, .slice none 0 0], .bool false]) (by simp [results, Try.results42, go_sem, u0, u1]) rfl ?_
      exact ⟨_, rfl, EOwn.nil _ _, HB.out⟩

  have hb1 : ordB n E = true := by rw [hob]; simpa using hle
  have HPa : Hid (bareA n E = bareF n.toNat E E.length) := by show _ = _; simp [bareA, hb1]
  have HPn : Hid (bareN n E = n) := by show _ = _; simp [bareN, hb1]
  have hle' : ¬ (L : Int) < n := by omega
  rw [hb1, HPn.out]
  clear hob hb1 HPn
  go_enter Try.func42, Try.ntmps42
  go_wp2_with fail
  go_region_held3 (fun wx => wx.cell? ⟨w.heap.size, 0, none⟩ = some (.int .i64 n) ∧ wx.cell? ⟨w.heap.size, 1, none⟩ = some (.slice a E.length cap)) (go_keep) (first
        | (go_at_call 17; refine HC.out.mono ?_; rintro e w1 ⟨rfl, ⟨i0, i1⟩, hC1⟩)
        | (go_at_call 67; refine hC1.out.mono ?_; rintro e w2 ⟨la, lc, rfl, ⟨j0, j1⟩, hB2⟩)
        | fail)
  obtain ⟨h1, h2, h3, h4⟩ := two_after hB2.out
  obtain ⟨g0, g1, -⟩ := row2 h1
  have hI0 : Hid (FSt w (.cells #[.int .i64 n, .slice a E.length cap] 25) (.cells #[.int .i64 0, .slice none 0 0] 25) w2.heap.size n (bareF n.toNat E 0) (.slice none 0 0) (w2.alloc (.cells #[.int .i64 n, .slice none 0 0] 25))) :=
    ⟨(Below.heap_alloc w2 _ _ (by omega)).trans h1, (Below.heap_alloc w2 _ _ (by omega)).trans h2, h3.alloc (by omega) _, h4, (MapKept.heap_alloc w2 _).1, EOwn.nil _ _⟩
  clear h1 h2 h3 hB2 hC1 HC W0 W1 i0 i1 j0 j1
  go_wp2_with fail
  go_loopw [5] (fun i wr => ∃ j : Nat, i = .int .i64 j ∧ j ≤ E.length ∧ ∃ u, Hid (FSt w (.cells #[.int .i64 n, .slice a E.length cap] 25) (.cells #[.int .i64 0, .slice none 0 0] 25) w2.heap.size n (bareF n.toNat E j) u wr)) (fun i _ => E.length - (intOf i).toNat)
  case atStart => exact ⟨0, rfl, Nat.zero_le _, _, hI0⟩
  case round =>
    clear hI0 g0 g1
    obtain ⟨j, rfl, hj, u, hF⟩ := hrel
    obtain ⟨h1, h2, h3, h4', h5, h6⟩ := hF.out
    obtain ⟨g0, g1, -⟩ := row2 h1
    obtain ⟨ua, uc, rfl⟩ := h6.form
    obtain ⟨r0, r1, -⟩ := row2 h5
    have hfl := bareF_len n.toNat E j
    have hR : w2.heap.size < wr.heap.size := (Array.getElem?_eq_some_iff.1 h5).1
    by_cases hjl : j < E.length
    · have hjl' : (j : Int) < (E.length : Int) := by omega
      obtain ⟨b, off, rfl, hbN, q0, q1⟩ := (HX.out wr h3).at hjl
      have hfs := bareF_succ n.toNat E j hjl
      have HB3 := hide' h3
      have HCl := hide' (HL2.out E[j].1 E[j].2 (j : Int) wr.drew h3.drew)
      have hEj : E[j] = (E[j].1, E[j].2) := rfl
      rw [hEj] at hfs
      have HFon : Hid (∀ w3, Below wr.heap.size wr w3 → FSt w (.cells #[.int .i64 n, .slice (some ⟨b, off, none⟩) E.length cap] 25) (.cells #[.int .i64 0, .slice none 0 0] 25) w2.heap.size n (bareF n.toNat E j) (.slice ua (bareF n.toNat E j).length uc) w3) := fun w3 hb => hF.out.on hb
      generalize E[j].1 = ef at *
      generalize E[j].2 = et at *
      have HC7 : Hid (Calls Try.prog 71 #[.agg #[.int .i64 n, .slice (some ⟨b, off, none⟩) E.length cap], .int .i64 ef, .int .i64 et, .int .i64 (j : Int)] wr.drew fun e w3 => e = .returned (.bool (leadsF n.toNat E ef et (j : Int))) ∧ (w3.cell? ⟨w.heap.size, 0, none⟩ = some (.int .i64 n) ∧ w3.cell? ⟨w.heap.size, 1, none⟩ = some (.slice (some ⟨b, off, none⟩) E.length cap) ∧ w3.cell? ⟨b, off + j * 2, none⟩ = some (.int .i64 ef) ∧ w3.cell? ⟨b, off + j * 2 + 1, none⟩ = some (.int .i64 et)) ∧ Hid (Below wr.heap.size wr w3)) := by
        refine HCl.out.mono ?_
        rintro e w3 ⟨rfl, b3⟩
        have b3' : Below wr.heap.size wr w3 := Below.on (Below.refl _ _).drew b3
        have hkp : ∀ q v, wr.cell? q = some v → w3.cell? q = some v := fun q v h => (b3'.cell (World.block_lt_of_cell? wr _ h)).trans h
        exact ⟨rfl, ⟨hkp _ _ g0, hkp _ _ g1, hkp _ _ q0, hkp _ _ q1⟩, b3'⟩
      clear hF h1 h2 h5 h6 HCl hEj h3
      cases hld : leadsF n.toNat E ef et (j : Int) with
      | true =>
        rw [hld] at hfs HC7
        simp at hfs
        clear hld
        rw [← hfs] at HFon
        have HFon2 := HFon
        generalize hfn : (bareF n.toNat E (j + 1)).length = fn at *
        go_wp2_with fail
        go_region_held3 (fun wx => wx.cell? ⟨w.heap.size, 0, none⟩ = some (.int .i64 n) ∧ wx.cell? ⟨w.heap.size, 1, none⟩ = some (.slice (some ⟨b, off, none⟩) E.length cap) ∧ wx.cell? ⟨b, off + j * 2, none⟩ = some (.int .i64 ef) ∧ wx.cell? ⟨b, off + j * 2 + 1, none⟩ = some (.int .i64 et)) (go_keep) (first
          | (go_at_call 71; refine HC7.out.mono ?_; rintro e w3 ⟨rfl, ⟨i0, i1, i2, i3⟩, hB7⟩)
          | fail)
        all_goals
          have HN := hide' (HFon2.out w3 hB7.out)
          go_wp2
          go_roundw
          case rel => exact ⟨j + 1, by go_num, by omega, _, HN⟩
          case measure => simp [intOf]; omega
      | false =>
        rw [hld] at hfs HC7
        simp at hfs
        clear hld
        have HBR : Hid (w2.heap.size < wr.heap.size) := hR
        generalize hfn : (bareF n.toNat E j).length = fn at *
        go_wp2_with fail
        go_region_held3 (fun wx => wx.cell? ⟨w.heap.size, 0, none⟩ = some (.int .i64 n) ∧ wx.cell? ⟨w.heap.size, 1, none⟩ = some (.slice (some ⟨b, off, none⟩) E.length cap) ∧ wx.cell? ⟨b, off + j * 2, none⟩ = some (.int .i64 ef) ∧ wx.cell? ⟨b, off + j * 2 + 1, none⟩ = some (.int .i64 et)) (go_keep) (first
          | (go_at_call 71; refine HC7.out.mono ?_; rintro e w3 ⟨rfl, ⟨i0, i1, i2, i3⟩, hB7⟩)
          | fail)
        have hF3 := HFon.out w3 hB7.out
        obtain ⟨k1, k2, k3, k4, k5, k6⟩ := hF3
        obtain ⟨r0', r1', -⟩ := row2 k5
        have hR3 : w2.heap.size < w3.heap.size := (Array.getElem?_eq_some_iff.1 k5).1
        have hbw3 : b < w3.heap.size := by have := k3.size; omega
        have hww3 : w.heap.size < w3.heap.size := (Array.getElem?_eq_some_iff.1 k1).1
        have HOw : Hid (∀ o, (w3.alloc o).ownsRow (w2.heap.size + 1) 36 2 (.slice ua fn uc) fn (eC (bareF n.toNat E j))) := fun o => by
          have := World.ownsRow.alloc k6 o
          rw [hfn] at this
          exact this
        have HAd : Hid (∀ o1 g cp w6, w6.ownsRow (w2.heap.size + 1) 36 2 (.slice (some ⟨g, 0, none⟩) (fn + 1) cp) (fn + 1) (eC (bareF n.toNat E j) ++ [.int .i64 ef, .int .i64 et]) → (w3.alloc o1).grownBy w6 (Value.slice ua fn uc).ownBlock → (w6.cell? ⟨w2.heap.size, 1, none⟩ = some (.slice ua fn uc) ∧ w6.frozen? ⟨w2.heap.size, 1, none⟩ = false) ∧ FSt w (.cells #[.int .i64 n, .slice (some ⟨b, off, none⟩) E.length cap] 25) (.cells #[.int .i64 0, .slice none 0 0] 25) w2.heap.size n (bareF n.toNat E (j + 1)) (.slice (some ⟨g, 0, none⟩) (fn + 1) cp) (w6.setCell ⟨w2.heap.size, 1, none⟩ (.slice (some ⟨g, 0, none⟩) (fn + 1) cp))) := fun o1 g cp w6 m1 m2 => by
          have hF4 := HFon.out w3 hB7.out
          rw [← hfn] at m1 m2 hF4
          have := fSt_add (e := (ef, et)) hF4 m1 m2
          rw [hfs, ← hfn]
          exact this
        have G1o : ∀ o, (w3.alloc o).cell? ⟨w.heap.size, 1, none⟩ = some (.slice (some ⟨b, off, none⟩) E.length cap) := fun o => (World.cell?_of_block (Below.heap_alloc w3 o w.heap.size hww3)).trans i1
        have R1o : ∀ o, (w3.alloc o).cell? ⟨w2.heap.size, 1, none⟩ = some (.slice ua fn uc) := fun o => (World.cell?_of_block (Below.heap_alloc w3 o w2.heap.size hR3)).trans r1'
        have Q0o : ∀ o, (w3.alloc o).cell? ⟨b, off + j * 2, none⟩ = some (.int .i64 ef) := fun o => (World.cell?_of_block (Below.heap_alloc w3 o b hbw3)).trans i2
        have Q1o : ∀ o, (w3.alloc o).cell? ⟨b, off + j * 2 + 1, none⟩ = some (.int .i64 et) := fun o => (World.cell?_of_block (Below.heap_alloc w3 o b hbw3)).trans i3
        clear k1 k2 k3 k5 k6 g0 g1 r0 r1 q0 q1 HC7 HFon hB7 hfs
        go_wp2_with fail
        go_region_law (first
          | (refine step_append_lies _ (by rfl) (.tmp 45) (.tmp 51) 23 (by rfl) (w2.heap.size + 1) 36 iE _ 2 16 Try.underlying23 hiE hz0 hz1 hz2 rfl (by decide) (.slice ua fn uc) fn (eC (bareF n.toNat E j)) (by rfl) (by first | exact HOw.out _ | exact (HOw.out _).drew) ⟨w3.heap.size, 0, none⟩ 1 1 [.int .i64 ef, .int .i64 et] (by rfl) (by rfl) (World.news_of_block (cs := #[.int .i64 ef, .int .i64 et]) (t := 36) (fr := (0, 0)) (heap_alloc_new w3 _)) (by simp [Value.oneCell']) (by omega) (by unfold maxLen; omega) (by omega) (by simp; omega) (w3.heap.size + 1) (by simp) ?_; intro g6 cp6 w6 hown6 hg6 hat6 hlt6; have hg7 : (w3.alloc (.cells #[.int .i64 ef, .int .i64 et] 36)).grownBy w6 (Value.slice ua fn uc).ownBlock := ⟨hg6.os, hg6.tape, hg6.output, hg6.size, hg6.block⟩; obtain ⟨⟨s1, s2⟩, hF6⟩ := HAd.out _ _ _ _ hown6 hg7; replace hF6 := hide' hF6; clear hown6 hg6 hg7 hat6 hlt6))
        all_goals go_wp2
        all_goals exact ⟨⟨j + 1, by go_num, by omega, _, hF6⟩, by simp [intOf]; omega⟩
    · have hjl' : ¬ (j : Int) < (E.length : Int) := by omega
      obtain rfl : j = E.length := by omega
      obtain ⟨t0, t1, tf⟩ := row2 h2
      have tf0 := tf 0
      have tf1 := tf 1
      have hrow := row2 (set2_heap (j := 0) (.int .i64 n) (.slice ua (bareF n.toNat E E.length).length uc) h2)
      simp only [set2, Nat.zero_add] at hrow
      have Hrow := hide' hrow
      have hgr := set2_grown wr (w.heap.size + 1) 0 (.int .i64 n) (.slice ua (bareF n.toNat E E.length).length uc)
      have HB := hide' (h3.grown hgr (by omega) (by intro k hk; simp at hk; omega))
      have HO := hide' ((h6.far hgr (fun q hq => by have := (h6.lt q hq).1; simp; omega)).down (base' := w.heap.size) (by omega))
      clear hF h1 h2 h5 h6 tf hrow hgr
      generalize hfn : (bareF n.toNat E E.length).length = fn at *
      go_wp2_with fail
      obtain ⟨u0, u1, _⟩ := Hrow.out
      refine bodyPost_ret (v := .tuple #[.agg #[.int .i64 n, .slice ua fn uc], .bool true]) (by simp [results, Try.results42, go_sem, u0, u1]) rfl ?_
      exact ⟨_, rfl, by rw [HPa.out]; exact HO.out, HB.out⟩
end Go.Proofs.Ytpnohgncnmbkdaa
