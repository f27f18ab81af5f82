/-
  Texts that a law leans on, one behind the other; no statement is proved here.
-/
import Derived.Test.YtpnohgncnmbkdaaPk1
import Derived.Deep.RegionHeld3
import Derived.Deep.Cut
import Derived.Test.YtpnohgncnmbkdaaPk13
import Derived.Test.YtpnohgncnmbkdaaPk22
import Derived.Shelf.Small.Bits
import Derived.Shelf.Strconv.Itoa0
import Derived.Ground.Names2Prog
import Derived.Shelf.Slices.SearchI
import Derived.Shelf.SlSortCmp.NoneTotal
import Derived.Ground.SlsfProg
import Derived.Shelf.SlGeneric
import Derived.Test.YtpnohgncnmbkdaaProg
/-
  FnExactTurned answers true, once both calls' ends are known; written by wip/gen/graphgb.py.
-/
namespace Go.Proofs.Ytpnohgncnmbkdaa
open Go.RowKit
set_option linter.unusedVariables false
set_option linter.unusedSimpArgs false

set_option maxHeartbeats 6400000 in
set_option maxRecDepth 100000 in
theorem walk_WgTu (n rn : Int) (x : Value) (E R : List Edg) (bb : Bool) (w : World) (hx : ESeg (fun b => b < w.heap.size) w x E) (hRl : R.length ≤ 1048576)
    (HSp : ∀ u wx, ESeg (fun b => b < wx.heap.size) wx u E → Calls Try.prog 38 #[.agg #[.int .i64 n, u]] wx (fun e w' => ∃ u, e = .returned (.tuple #[.agg #[.int .i64 rn, u], .bool bb]) ∧ EOwn w' wx.heap.size u R ∧ Below wx.heap.size wx w'))
    (HIm : ∀ u wx, ESeg (fun b => b < wx.heap.size) wx u E → Below w.heap.size w wx → Calls Try.prog 19 #[.agg #[.int .i64 n, u]] wx (fun e w' => ∃ u, e = .returned (.tuple #[.agg #[.int .i64 rn, u], .bool bb]) ∧ EOwn w' wx.heap.size u R ∧ Below wx.heap.size wx w')) :
    Calls Try.prog 10 #[.agg #[.int .i64 n, x]] w fun e w' => e = .returned (.bool true) ∧ Below w.heap.size w w' := by
  have Hb : Hid (∀ o : Obj, Below w.heap.size w (w.alloc o)) := fun o => (Below.refl _ _).alloc (Nat.le_refl _) o
  have Hbox : Hid (∀ o wx, Below (w.alloc o).heap.size (w.alloc o) wx → wx.heap[w.heap.size]? = some o) := fun o wx h => box_row h
  have HX : Hid (∀ wx, Below w.heap.size w wx → ESeg (fun b => b < w.heap.size) wx x E) := fun wx hb => hx.agree (agree_below hb)
  have HS : Hid (∀ wx, Below w.heap.size w wx → Calls Try.prog 27 #[.agg #[.int .i64 n, x], .int .i64 1048576] wx fun e w' => e = .returned (.int .i64 (lessN 1048576 E.length)) ∧ Below wx.heap.size wx w') := fun wx hb => szGraph_any _ n x E wx (HX.out wx hb) (fun b hb' => Nat.lt_of_lt_of_le hb' hb.size)
  have HT : Hid (E.length ≤ 1048576 → ∀ wx, Below w.heap.size w wx → Calls Try.prog 28 #[.agg #[.int .i64 n, x]] wx fun e w' => ∃ u, e = .returned (.agg #[.int .i64 n, u]) ∧ EOwn w' wx.heap.size u E ∧ Below wx.heap.size wx w') := fun hl wx hb => toGraph_any w.heap.size n x E wx (HX.out wx hb) hb.size hl
  have HEq : Hid (∀ (y z : Value) wx, ESeg (fun b => b < wx.heap.size) wx y E → ESeg (fun b => b < wx.heap.size) wx z E → Calls Try.prog 29 #[.agg #[.int .i64 n, y], .agg #[.int .i64 n, z]] wx fun e w' => e = .returned (.bool true) ∧ Below wx.heap.size wx w') := fun y z wx h1 h2 => eqGraph_same wx.heap.size n y z E wx h1 h2 (Nat.le_refl _)
  have HEr : Hid (∀ (y z : Value) wx, ESeg (fun b => b < wx.heap.size) wx y R → ESeg (fun b => b < wx.heap.size) wx z R → Calls Try.prog 29 #[.agg #[.int .i64 rn, y], .agg #[.int .i64 rn, z]] wx fun e w' => e = .returned (.bool true) ∧ Below wx.heap.size wx w') := fun y z wx h1 h2 => eqGraph_same wx.heap.size rn y z R wx h1 h2 (Nat.le_refl _)
  have HSp' := hide' HSp
  have HIm' := hide' HIm
  obtain ⟨a, cap, rfl, -⟩ := hx
  clear HSp HIm HX
  by_cases hz : (1048576 : Int) < (E.length : Int)
  · have hl : lessN 1048576 E.length = -1 := if_pos hz
    rw [hl] at HS
    clear hl HT HEq HEr HSp' HIm'
    generalize E.length = ll at *
    go_enter Try.func10, Try.ntmps10
    go_wp2_with fail
    refine (HS.out _ (Hb.out _)).mono ?_
    rintro e w1 ⟨rfl, b1⟩
    have B1 := Below.on (Hb.out _) b1
    clear b1
    go_wp2
    go_ret
    exact ⟨rfl, B1⟩
  have hl : lessN 1048576 E.length = 1048576 - E.length := if_neg hz
  rw [hl] at HS
  have HT' := hide' (HT.out (by omega))
  have hll : E.length ≤ 1048576 := by omega
  have hz0 : 0 ≤ (1048576 : Int) - (E.length : Int) := by omega
  have hz1 : (1048576 : Int) - (E.length : Int) ≤ 1048576 := by omega
  clear hl hz HT
  generalize hEl : E.length = ll at *
  generalize hRn : R.length = rl at *
  generalize (1048576 : Int) - (ll : Int) = lft at *
  go_enter Try.func10, Try.ntmps10
  go_wp2_with fail
  refine (HS.out _ (Hb.out _)).mono ?_
  rintro e w1 ⟨rfl, b1⟩
  obtain ⟨y0, y1, -⟩ := row2 (Hbox.out _ _ b1)
  have B1 := hide' b1
  have HT1 := hide' (HT'.out w1 (Below.on (Hb.out _) b1))
  clear b1 HS
  go_wp2_with fail
  refine HT1.out.mono ?_
  rintro e w2 ⟨u, rfl, hO2, b2⟩
  have hS2 := hide' (HSp'.out u w2 hO2.read)
  have B2 := hide' (Below.on B1.out b2)
  obtain ⟨ua, uc, hu⟩ := hO2.form
  rw [hEl] at hu
  subst hu
  clear hO2 b2 HT1 B1 y0 y1
  go_wp2_with fail
  refine hS2.out.mono ?_
  rintro e w3 ⟨Wv, rfl, hW3, b3⟩
  obtain ⟨Wa, Wc, hWf⟩ := hW3.form
  rw [hRn] at hWf
  subst hWf
  have bal3 : Below w3.heap.size w3 (w3.alloc (.cells #[.int .i64 rn, .slice Wa rl Wc] 25)) := (Below.refl _ _).alloc (Nat.le_refl _) _
  have HBw : Hid (∀ k, (Value.slice Wa rl Wc).ownBlock = some k → k < w3.heap.size) := fun k hk => (hW3.lt k hk).2
  have HW3 := hide' (hW3.on bal3)
  have B3 := hide' (Below.on (Below.on B2.out b3) bal3)
  have Hw3 : Hid (∀ wx, Below (w3.alloc (.cells #[.int .i64 rn, .slice Wa rl Wc] 25)).heap.size (w3.alloc (.cells #[.int .i64 rn, .slice Wa rl Wc] 25)) wx → wx.heap[w3.heap.size]? = some (.cells #[.int .i64 rn, .slice Wa rl Wc] 25)) := fun wx hb => box_row hb
  have hs3 : (w3.alloc (.cells #[.int .i64 rn, .slice Wa rl Wc] 25)).heap.size = w3.heap.size + 1 := by simp
  obtain ⟨y0, y1, -⟩ := row2 (Hbox.out _ _ B3.out)
  have HT3 := hide' (HT'.out _ (Below.on (Hb.out _) B3.out))
  clear b3 hS2 B2 hW3 bal3
  go_wp2_with fail
  refine HT3.out.mono ?_
  rintro e w4 ⟨v, rfl, hO4, b4⟩
  obtain ⟨va, vc, hvf⟩ := hO4.form
  rw [hEl] at hvf
  subst hvf
  have bal : Below w4.heap.size w4 (w4.alloc (.cells #[.int .i64 n, .slice va ll vc] 25)) := (Below.refl _ _).alloc (Nat.le_refl _) _
  have B4 := hide' (Below.on (Below.on B3.out b4) bal)
  have hI4 := hide' (HIm'.out _ _ (hO4.on bal).read (Below.on (Hb.out _) B4.out))
  have HO4 := hide' (hO4.on bal)
  have HBx : Hid (∀ k, (Value.slice va ll vc).ownBlock = some k → w3.heap.size + 1 ≤ k ∧ k < w4.heap.size) := fun k hk => by have := hO4.lt k hk; rw [hs3] at this; exact this
  have hz34 : w3.heap.size + 1 ≤ w4.heap.size := by have := b4.size; rw [hs3] at this; exact this
  have HW4 := hide' ((HW3.out.on b4).on bal)
  have hw4 := (bal.block _ (by omega)).trans (Hw3.out _ b4)
  have Hw4 := hide' hw4
  have Hx4 : Hid (∀ wx, Below (w4.alloc (.cells #[.int .i64 n, .slice va ll vc] 25)).heap.size (w4.alloc (.cells #[.int .i64 n, .slice va ll vc] 25)) wx → wx.heap[w4.heap.size]? = some (.cells #[.int .i64 n, .slice va ll vc] 25)) := fun wx hb => box_row hb
  have hs4 : (w4.alloc (.cells #[.int .i64 n, .slice va ll vc] 25)).heap.size = w4.heap.size + 1 := by simp
  clear hO4 b4 bal HT3 y0 y1 HW3 hw4 Hw3
  go_wp2_with fail
  refine hI4.out.mono ?_
  rintro e w5 ⟨Gv, rfl, hG5, b5⟩
  obtain ⟨Ga, Gc, hGf⟩ := hG5.form
  rw [hRn] at hGf
  subst hGf
  have bal5 : Below w5.heap.size w5 (w5.alloc (.cells #[.int .i64 rn, .slice Ga rl Gc] 25)) := (Below.refl _ _).alloc (Nat.le_refl _) _
  have hs5 : (w5.alloc (.cells #[.int .i64 rn, .slice Ga rl Gc] 25)).heap.size = w5.heap.size + 1 := by simp
  have HBg : Hid (∀ k, (Value.slice Ga rl Gc).ownBlock = some k → w4.heap.size + 1 ≤ k ∧ k < w5.heap.size) := fun k hk => by have := hG5.lt k hk; rw [hs4] at this; exact this
  have hz45 : w4.heap.size + 1 ≤ w5.heap.size := by have := b5.size; rw [hs4] at this; exact this
  have b45 := Below.on b5 bal5
  have HW5 := hide' (HW4.out.on b45)
  have HG5 := hide' (hG5.on bal5)
  have B5 := hide' (Below.on B4.out b45)
  have HO5 := hide' (HO4.out.on b45)
  have Hx5 := hide' (Hx4.out _ b45)
  have hw5 := (b45.block _ (by rw [hs4]; omega)).trans Hw4.out
  have Hw5 := hide' hw5
  have hg5 := (MapKept.heap_alloc w5 (.cells #[.int .i64 rn, .slice Ga rl Gc] 25)).1
  have Hg5 := hide' hg5
  obtain ⟨p0, p1, -⟩ := row2 hw5
  obtain ⟨m0, m1, -⟩ := row2 hg5
  have hEK := hide' (HEr.out _ _ _ HG5.out.read HW5.out.read)
  clear b5 hI4 HO4 B4 hG5 HW4 Hx4 Hw4 hw5 hg5 b45 bal5
  go_wp2_with fail
  refine hEK.out.mono ?_
  rintro e w6 ⟨rfl, b6⟩
  have B6 := hide' (Below.on B5.out b6)
  have HO6 := hide' (HO5.out.on b6)
  have HG6 := hide' (HG5.out.on b6)
  have HW6 := hide' (HW5.out.on b6)
  have hz56 : w5.heap.size + 1 ≤ w6.heap.size := by have := b6.size; rw [hs5] at this; exact this
  have hx6 := (b6.block w4.heap.size (by rw [hs5]; omega)).trans Hx5.out
  have hw6 := hide' ((b6.block w3.heap.size (by rw [hs5]; omega)).trans Hw5.out)
  have hg6 := hide' ((b6.block w5.heap.size (by rw [hs5]; omega)).trans Hg5.out)
  obtain ⟨v0, v1, -⟩ := row2 hx6
  have Hx6 := hide' hx6
  clear b6 hEK HO5 HG5 HW5 B5 hx6 Hx5 Hw5 Hg5 p0 p1 m0 m1
  obtain ⟨y0, y1, -⟩ := row2 (Hbox.out _ _ B6.out)
  have HTd : Hid (Calls Try.prog 28 #[.agg #[.int .i64 n, .slice a ll cap]] w6.drew fun e w7 => ∃ za zc, e = .returned (.agg #[.int .i64 n, .slice za ll zc]) ∧ (w7.cell? ⟨w.heap.size, 0, none⟩ = some (.int .i64 n) ∧ w7.cell? ⟨w.heap.size, 1, none⟩ = some (.slice a ll cap) ∧ w7.cell? ⟨w4.heap.size, 0, none⟩ = some (.int .i64 n) ∧ w7.cell? ⟨w4.heap.size, 1, none⟩ = some (.slice va ll vc)) ∧ Hid (Calls Try.prog 29 #[.agg #[.int .i64 n, .slice va ll vc], .agg #[.int .i64 n, .slice za ll zc]] w7 fun e w8 => e = .returned (.bool true) ∧ (w8.cell? ⟨w.heap.size, 0, none⟩ = some (.int .i64 n) ∧ w8.cell? ⟨w.heap.size, 1, none⟩ = some (.slice a ll cap) ∧ w8.cell? ⟨w4.heap.size, 0, none⟩ = some (.int .i64 n) ∧ w8.cell? ⟨w4.heap.size, 1, none⟩ = some (.slice va ll vc)) ∧ Hid (Below w6.heap.size w6 w8))) := by
    refine (HT'.out w6.drew (Below.on (Hb.out _) B6.out).drew).mono ?_
    rintro e w7 ⟨z, rfl, hO7, b7⟩
    obtain ⟨za, zc, hzf⟩ := hO7.form
    rw [hEl] at hzf
    subst hzf
    have b67 : Below w6.heap.size w6 w7 := Below.on (Below.refl _ w6).drew b7
    have hkp : ∀ wy, Below w6.heap.size w6 wy → (wy.cell? ⟨w.heap.size, 0, none⟩ = some (.int .i64 n) ∧ wy.cell? ⟨w.heap.size, 1, none⟩ = some (.slice a ll cap) ∧ wy.cell? ⟨w4.heap.size, 0, none⟩ = some (.int .i64 n) ∧ wy.cell? ⟨w4.heap.size, 1, none⟩ = some (.slice va ll vc)) := fun wy hb => by
      obtain ⟨f0, f1, -⟩ := row2 (Hbox.out _ _ (Below.on B6.out hb))
      obtain ⟨f2, f3, -⟩ := row2 ((hb.block w4.heap.size ((Array.getElem?_eq_some_iff.1 Hx6.out).1)).trans Hx6.out)
      exact ⟨f0, f1, f2, f3⟩
    refine ⟨za, zc, rfl, hkp _ b67, ?_⟩
    exact (HEq.out _ _ w7 (HO6.out.on b67).read hO7.read).mono fun e w8 h => ⟨h.1, hkp _ (Below.on b67 h.2), Below.on b67 h.2⟩
  go_wp2_with fail
  go_region_held3 (fun wx => wx.cell? ⟨w.heap.size, 0, none⟩ = some (.int .i64 n) ∧ wx.cell? ⟨w.heap.size, 1, none⟩ = some (.slice a ll cap) ∧ wx.cell? ⟨w4.heap.size, 0, none⟩ = some (.int .i64 n) ∧ wx.cell? ⟨w4.heap.size, 1, none⟩ = some (.slice va ll vc)) (go_keep) (first
    | (go_at_call 28; refine HTd.out.mono ?_; rintro e w7 ⟨za, zc, rfl, ⟨i0, i1, i2, i3⟩, hE7⟩)
    | (go_at_call 29; refine hE7.out.mono ?_; rintro e w8 ⟨rfl, ⟨j0, j1, j2, j3⟩, hb8⟩)
    | fail)
  have HO8 := hide' (HO6.out.on hb8.out)
  have HG8 := hide' (HG6.out.on hb8.out)
  have HW8 := hide' (HW6.out.on hb8.out)
  have B8 := hide' (Below.on B6.out hb8.out)
  have hw8 := hide' ((hb8.out.block w3.heap.size (by omega)).trans hw6.out)
  have hg8 := hide' ((hb8.out.block w5.heap.size (by omega)).trans hg6.out)
  have hz68 : w6.heap.size ≤ w8.heap.size := hb8.out.size
  have HBk : Hid ((w.alloc (.cells #[.int .i64 n, .slice a ll cap] 45)).heap.size ≤ w3.heap.size + 1) := by have := B3.out.size; rw [hs3] at this; exact this
  clear y0 y1 v0 v1 i0 i1 i2 i3 hE7 HTd HO6 HG6 HW6 B6 hw6 hg6
  have hM8 := hide' (markGraph_any _ n _ E 1 w8 HO8.out (by omega) (by omega))
  rw [hEl] at hM8
  go_wp2_with fail
  refine hM8.out.mono ?_
  rintro e w9 ⟨rfl, -, hq9⟩
  have hG9 := HG8.out.far hq9 (fun k hk e' => by have h1 := HBg.out k hk; have h2 := HBx.out k e'; omega)
  have hW9 := HW8.out.far hq9 (fun k hk e' => by have h1 := HBw.out k hk; have h2 := HBx.out k e'; omega)
  have B9 := hide' (B8.out.grown hq9 B8.out.size (fun k hk => by have h2 := HBx.out k hk; have h3 := HBk.out; omega))
  have hw9 := (hq9.block w3.heap.size (by omega) (fun e' => by have h2 := HBx.out _ e'.symm; omega)).trans hw8.out
  have hg9 := (hq9.block w5.heap.size (by omega) (fun e' => by have h2 := HBx.out _ e'.symm; omega)).trans hg8.out
  have hz89 : w8.heap.size ≤ w9.heap.size := hq9.size
  obtain ⟨p0, p1, -⟩ := row2 hw9
  obtain ⟨m0, m1, -⟩ := row2 hg9
  have Hw9 := hide' hw9
  have Hg9 := hide' hg9
  have hE9 := hide' (HEr.out _ _ w9 hG9.read hW9.read)
  have HG9 := hide' hG9
  have HW9 := hide' hW9
  clear hq9 hG9 hW9 HG8 HW8 B8 hM8 HO8 j0 j1 j2 j3 hw8 hg8 hw9 hg9
  have hk0 : ¬ (1 : Int) + (ll : Int) * 2 < 0 := by omega
  go_wp2_with fail
  refine hE9.out.mono ?_
  rintro e w10 ⟨rfl, b10⟩
  have hM10 := hide' (markGraph_any _ rn _ R 1 w10 (HG9.out.on b10) (by omega) (by omega))
  have HW10 := hide' (HW9.out.on b10)
  have B10 := hide' (Below.on B9.out b10)
  have hw10 := hide' ((b10.block w3.heap.size (by omega)).trans Hw9.out)
  have hg10 := (b10.block w5.heap.size (by omega)).trans Hg9.out
  obtain ⟨m0, m1, -⟩ := row2 hg10
  have Hg10 := hide' hg10
  have hz910 : w9.heap.size ≤ w10.heap.size := b10.size
  rw [hRn] at hM10
  clear b10 hE9 HG9 HW9 B9 Hw9 Hg9 p0 p1 hg10
  go_wp2_with fail
  refine hM10.out.mono ?_
  rintro e w11 ⟨rfl, hG11, hq11⟩
  have HW11 := hide' (HW10.out.far hq11 (fun k hk e' => by have h1 := HBw.out k hk; have h2 := HBg.out k e'; omega))
  have B11 := hide' (B10.out.grown hq11 B10.out.size (fun k hk => by have h2 := HBg.out k hk; have h3 := HBk.out; omega))
  have hw11 := hide' ((hq11.block w3.heap.size (by omega) (fun e' => by have h2 := HBg.out _ e'.symm; omega)).trans hw10.out)
  have hg11 := (hq11.block w5.heap.size (by omega) (fun e' => by have h2 := HBg.out _ e'.symm; omega)).trans Hg10.out
  obtain ⟨m0, m1, -⟩ := row2 hg11
  have Hg11 := hide' hg11
  have hz1011 : w10.heap.size ≤ w11.heap.size := hq11.size
  have HG11 := hide' hG11
  have hH11 := hide' (heldGraph_any w11.heap.size rn _ 1 rl w11 hG11.read (Nat.le_refl _) (by omega) (by omega))
  clear hG11 hq11 hM10 HW10 B10 hw10 Hg10 hg11
  have hrn0 : ¬ (1 : Int) + (rl : Int) * 2 < 0 := by omega
  go_wp2_with fail
  refine hH11.out.mono ?_
  rintro e w12 ⟨rfl, b12⟩
  have B12 := hide' (Below.on B11.out b12)
  obtain ⟨y0, y1, -⟩ := row2 (Hbox.out _ _ B12.out)
  have HT12 := hide' (HT'.out w12 (Below.on (Hb.out _) B12.out))
  have HG12 := hide' (HG11.out.on b12)
  have HW12 := hide' (HW11.out.on b12)
  have hw12 := hide' ((b12.block w3.heap.size (by omega)).trans hw11.out)
  have hg12 := hide' ((b12.block w5.heap.size (by omega)).trans Hg11.out)
  have hz1112 : w11.heap.size ≤ w12.heap.size := b12.size
  clear b12 hH11 HG11 HW11 B11 hw11 Hg11 m0 m1
  go_wp2_with fail
  refine HT12.out.mono ?_
  rintro e w13 ⟨z, rfl, hO13, b13⟩
  have B13 := hide' (Below.on B12.out b13)
  have hI13 := hide' (HIm'.out z w13 hO13.read (Below.on (Hb.out _) B13.out))
  have HG13 := hide' (HG12.out.on b13)
  have HW13 := hide' (HW12.out.on b13)
  have hw13 := hide' ((b13.block w3.heap.size (by omega)).trans hw12.out)
  have hg13 := hide' ((b13.block w5.heap.size (by omega)).trans hg12.out)
  have hz1213 : w12.heap.size ≤ w13.heap.size := b13.size
  obtain ⟨za', zc', hzf⟩ := hO13.form
  rw [hEl] at hzf
  subst hzf
  clear hO13 b13 HT12 HG12 HW12 B12 y0 y1 hw12 hg12
  go_wp2_with fail
  refine hI13.out.mono ?_
  rintro e w14 ⟨Hv, rfl, hH14, b14⟩
  obtain ⟨Ha, Hc, hHf⟩ := hH14.form
  rw [hRn] at hHf
  subst hHf
  have bal14 : Below w14.heap.size w14 (w14.alloc (.cells #[.int .i64 rn, .slice Ha rl Hc] 25)) := (Below.refl _ _).alloc (Nat.le_refl _) _
  have b1314 := Below.on b14 bal14
  have HW14 := HW13.out.on b1314
  have hE14 := hide' (HEr.out _ _ _ (hH14.on bal14).read HW14.read)
  have HG14 := hide' (HG13.out.on b1314)
  have B14 := hide' (Below.on B13.out b1314)
  have hw14 := (b1314.block w3.heap.size (by omega)).trans hw13.out
  have hg14 := hide' ((b1314.block w5.heap.size (by omega)).trans hg13.out)
  obtain ⟨p0, p1, -⟩ := row2 hw14
  have hz1314 : w13.heap.size ≤ (w14.alloc (.cells #[.int .i64 rn, .slice Ha rl Hc] 25)).heap.size := b1314.size
  clear hH14 b14 hI13 HG13 HW13 B13 bal14 b1314 HW14 hw13 hg13 hw14
  go_wp2_with fail
  refine hE14.out.mono ?_
  rintro e w15 ⟨rfl, b15⟩
  have hg15 := (b15.block w5.heap.size (by omega)).trans hg14.out
  obtain ⟨m0, m1, -⟩ := row2 hg15
  have hH15 := hide' (heldGraph_any w15.heap.size rn _ 1 rl w15 (HG14.out.on b15).read (Nat.le_refl _) (by omega) (by omega))
  have B15 := hide' (Below.on B14.out b15)
  clear b15 hE14 HG14 B14 p0 p1 hg15 hg14
  go_wp2_with fail
  refine hH15.out.mono ?_
  rintro e w16 ⟨rfl, b16⟩
  have HB := hide' (Below.on (Hb.out _) (Below.on B15.out b16))
  clear b16 hH15
  go_wp2
  go_ret
  exact ⟨rfl, HB.out⟩
end Go.Proofs.Ytpnohgncnmbkdaa
/-
  Turned of the specification.
-/
namespace Go.Proofs.Ytpnohgncnmbkdaa
open Go.RowKit
set_option linter.unusedVariables false
set_option linter.unusedSimpArgs false

/-- The edges that come to v, turned. -/
def turnI (l : List Edg) (v : Int) : List Edg := (l.filter fun e => decide (e.2 = v)).map fun e => (v, e.1)
/-- The edges that come to those below k, turned. -/
def turnF (E : List Edg) : Nat → List Edg
  | 0 => []
  | k + 1 => turnF E k ++ turnI E (k : Int)
/-- What Turned answers. -/
def turnA (n : Int) (E : List Edg) : List Edg := if gB n E = true then turnF E n.toNat else []
def turnN (n : Int) (E : List Edg) : Int := if gB n E = true then n else 0

theorem turnI_succ (E : List Edg) (v : Int) (j : Nat) (h : j < E.length) : turnI (E.take (j + 1)) v = turnI (E.take j) v ++ (if E[j].2 = v then [(v, E[j].1)] else []) := by
  unfold turnI
  rw [List.take_succ_eq_append_getElem h, List.filter_append, List.map_append, List.filter_cons, List.filter_nil]
  by_cases e : E[j].2 = v
  · rw [if_pos e, if_pos (by simpa using e)]
    rfl
  · rw [if_neg e, if_neg (by simpa using e)]
    rfl
theorem turnI_len (l : List Edg) (v : Int) : (turnI l v).length ≤ l.length := by
  unfold turnI
  rw [List.length_map]
  exact List.length_filter_le _ _
theorem turnF_len (E : List Edg) : ∀ k, (turnF E k).length ≤ k * E.length
  | 0 => Nat.zero_le _
  | k + 1 => by
    have h1 := turnF_len E k
    have h2 := turnI_len E (k : Int)
    show (turnF E k ++ turnI E (k : Int)).length ≤ _
    rw [List.length_append, Nat.add_mul]
    omega

set_option maxHeartbeats 6400000 in
set_option maxRecDepth 100000 in
theorem spec_Turned_any (N : Nat) (n : Int) (x : Value) (E : List Edg) (w : World) (hx : ESeg (fun b => b < N) w x E) (hN : N ≤ w.heap.size) :
    Calls Try.prog 38 #[.agg #[.int .i64 n, x]] w (GrEnd (turnN n E) (turnA n E) (gB n E) w) := by
  have HX : Hid (∀ wx, Below w.heap.size w wx → ESeg (fun b => b < N) wx x E) := fun wx hb => hx.agree (agree_below (hb.mono hN))
  have Hb2 : Hid (∀ o o' : Obj, Below w.heap.size w ((w.alloc o).alloc o')) := fun o o' => ((Below.refl _ _).alloc (Nat.le_refl _) o).alloc (by simp) o'
  have HG : Hid (∀ wx, Below w.heap.size w wx → Calls Try.prog 17 #[.agg #[.int .i64 n, x]] wx fun e w' => e = .returned (.bool (gB n E)) ∧ Below wx.heap.size wx w') := fun wx hb => spec_GraphOk_any N n x E wx (HX.out wx hb) (by have := hb.size; omega)
  obtain ⟨iE, hiE, hz0, hz1, hz2⟩ := info_parts infoE
  obtain ⟨a, cap, rfl, hlc, hcm, -, -⟩ := hx
  unfold maxLen at hcm
  show Calls _ _ _ _ fun e w' => ∃ u, e = .returned (.tuple #[.agg #[.int .i64 (turnN n E), u], .bool (gB n E)]) ∧ EOwn w' w.heap.size u (turnA n E) ∧ Below w.heap.size w w'
  by_cases hok : gB n E = true
  rotate_left
  · have hok' : gB n E = false := by simpa using hok
    have ha0 : turnA n E = [] := by simp [turnA, hok']
    have hn0 : turnN n E = 0 := by simp [turnN, hok']
    rw [hok'] at HG
    rw [hok', ha0, hn0]
    clear hok hok' ha0 hn0 HX
    generalize E.length = ll at *
    go_enter Try.func38, Try.ntmps38
    go_wp2_with fail
    refine (HG.out _ (Hb2.out _ _)).mono ?_
    rintro e w1 ⟨rfl, b1⟩
    obtain ⟨h1, h2, h3, h4⟩ := two_after b1
    obtain ⟨t0, t1, tf⟩ := row2 h2
    have tf0 := tf 0
    have tf1 := tf 1
    have hrow := row2 (set2_heap (j := 0) (.int .i64 0) (.slice none 0 0) h2)
    simp only [set2, Nat.zero_add] at hrow
    have Hrow := hide' hrow
    have hgr := set2_grown w1 (w.heap.size + 1) 0 (.int .i64 0) (.slice none 0 0)
    have HB := hide' (h3.grown hgr (by omega) (by intro k hk; simp at hk; omega))
    clear b1 h1 h2 h3 tf hrow hgr
    go_wp2_with fail
    obtain ⟨u0, u1, _⟩ := Hrow.out
    refine bodyPost_ret (v := .tuple #[.agg #[.int .i64 0, .slice none 0 0], .bool false]) (by simp [results, Try.results38, go_sem, u0, u1]) rfl ?_
    exact ⟨_, rfl, EOwn.nil _ _, HB.out⟩
  obtain ⟨hn0, hn1, hel, -⟩ := gB_iff.1 hok
  have HPa : Hid (turnA n E = turnF E n.toNat) := by show _ = _; simp [turnA, hok]
  have HPn : Hid (turnN n E = n) := by show _ = _; simp [turnN, hok]
  rw [hok] at HG
  rw [hok, HPn.out]
  clear hok HPn
  obtain ⟨m, rfl⟩ : ∃ m : Nat, n = (m : Int) := ⟨n.toNat, by omega⟩
  simp only [Int.toNat_natCast] at HPa
  have hm20 : m ≤ 20 := by omega
  clear hn0 hn1
  go_enter Try.func38, Try.ntmps38
  go_wp2_with fail
  refine (HG.out _ (Hb2.out _ _)).mono ?_
  rintro e w1 ⟨rfl, b1⟩
  obtain ⟨h1, h2, h3, h4⟩ := two_after b1
  obtain ⟨g0, g1, -⟩ := row2 h1
  have hI0 : Hid (FSt w (.cells #[.int .i64 (m : Int), .slice a E.length cap] 25) (.cells #[.int .i64 0, .slice none 0 0] 25) w1.heap.size (m : Int) (turnF E 0) (.slice none 0 0) (w1.alloc (.cells #[.int .i64 (m : Int), .slice none 0 0] 25))) :=
    ⟨(Below.heap_alloc w1 _ _ (by omega)).trans h1, (Below.heap_alloc w1 _ _ (by omega)).trans h2, h3.alloc (by omega) _, h4, (MapKept.heap_alloc w1 _).1, EOwn.nil _ _⟩
  clear b1 h1 h2 HG h3
  go_wp2_with fail
  go_loopw [5] (fun v wr => ∃ k : Nat, v = .int .i64 k ∧ k ≤ m ∧ ∃ u, Hid (FSt w (.cells #[.int .i64 (m : Int), .slice a E.length cap] 25) (.cells #[.int .i64 0, .slice none 0 0] 25) w1.heap.size (m : Int) (turnF E k) u wr)) (fun v _ => m - (intOf v).toNat)
  case atStart => exact ⟨0, rfl, Nat.zero_le _, _, hI0⟩
  case round =>
    clear hI0 g0 g1
    obtain ⟨k, rfl, hk, u, hF⟩ := hrel
    by_cases hkm : k < m
    rotate_left
    · have hkm' : ¬ (k : Int) < (m : Int) := by omega
      obtain rfl : k = m := by omega
      obtain ⟨h1, h2, h3, h4', h5, h6⟩ := hF.out
      obtain ⟨g0, g1, -⟩ := row2 h1
      obtain ⟨ua, uc, rfl⟩ := h6.form
      obtain ⟨r0, r1, -⟩ := row2 h5
      obtain ⟨t0, t1, tf⟩ := row2 h2
      have tf0 := tf 0
      have tf1 := tf 1
      have hR : w1.heap.size < wr.heap.size := (Array.getElem?_eq_some_iff.1 h5).1
      have hrow := row2 (set2_heap (j := 0) (.int .i64 (k : Int)) (.slice ua (turnF E k).length uc) h2)
      simp only [set2, Nat.zero_add] at hrow
      have Hrow := hide' hrow
      have hgr := set2_grown wr (w.heap.size + 1) 0 (.int .i64 (k : Int)) (.slice ua (turnF E k).length uc)
      have HB := hide' (h3.grown hgr (by omega) (by intro k hk; simp at hk; omega))
      have HO := hide' ((h6.far hgr (fun q hq => by have := (h6.lt q hq).1; simp; omega)).down (base' := w.heap.size) (by omega))
      clear hF h1 h2 h5 h6 tf hrow hgr
      generalize hfn : (turnF E k).length = fn at *
      go_wp2_with fail
      obtain ⟨u0, u1, _⟩ := Hrow.out
      refine bodyPost_ret (v := .tuple #[.agg #[.int .i64 (k : Int), .slice ua fn uc], .bool true]) (by simp [results, Try.results38, go_sem, u0, u1]) rfl ?_
      exact ⟨_, rfl, by rw [HPa.out]; exact HO.out, HB.out⟩
    have hkm' : (k : Int) < (m : Int) := by omega
    obtain ⟨g0, g1, -⟩ := row2 hF.out.1
    have hI1 : Hid (FSt w (.cells #[.int .i64 (m : Int), .slice a E.length cap] 25) (.cells #[.int .i64 0, .slice none 0 0] 25) w1.heap.size (m : Int) (turnF E k ++ turnI (E.take 0) (k : Int)) u wr) := by
      have : turnI (E.take 0) (k : Int) = [] := rfl
      rw [this, List.append_nil]
      exact hF.out
    have htl := turnF_len E k
    have htl' : (turnF E k).length ≤ 8000 := by
      have : k * E.length ≤ 20 * 400 := Nat.mul_le_mul (by omega) hel
      omega
    have HTs : Hid (turnF E (k + 1) = turnF E k ++ turnI E (k : Int)) := rfl
    clear hF htl
    go_wp2_with fail
    go_loopw [6] (fun i wz => ∃ j : Nat, i = .int .i64 j ∧ j ≤ E.length ∧ ∃ u, Hid (FSt w (.cells #[.int .i64 (m : Int), .slice a E.length cap] 25) (.cells #[.int .i64 0, .slice none 0 0] 25) w1.heap.size (m : Int) (turnF E k ++ turnI (E.take j) (k : Int)) u wz)) (fun i _ => E.length - (intOf i).toNat)
    case atStart => exact ⟨0, rfl, Nat.zero_le _, _, hI1⟩
    case round =>
      clear hI1 g0 g1
      obtain ⟨j, rfl, hj, u, hF⟩ := hrel
      obtain ⟨h1, h2, h3, h4', h5, h6⟩ := hF.out
      obtain ⟨g0, g1, -⟩ := row2 h1
      obtain ⟨ua, uc, rfl⟩ := h6.form
      obtain ⟨r0, r1, -⟩ := row2 h5
      have hil := turnI_len (E.take j) (k : Int)
      have hfl : (turnF E k ++ turnI (E.take j) (k : Int)).length ≤ 8400 := by
        rw [List.length_append]
        have : (E.take j).length ≤ 400 := by simp; omega
        omega
      have hR : w1.heap.size < wr.heap.size := (Array.getElem?_eq_some_iff.1 h5).1
      by_cases hjl : j < E.length
      · have hjl' : (j : Int) < (E.length : Int) := by omega
        obtain ⟨b, off, rfl, hbN, q0, q1⟩ := (HX.out wr h3).at hjl
        have hfs := turnI_succ E (k : Int) j hjl
        by_cases c0 : E[j].2 = (k : Int)
        rotate_left
        · rw [if_neg c0, List.append_nil] at hfs
          have c0' : (E[j].2 == (k : Int)) = false := by simpa using c0
          have HN : Hid (FSt w (.cells #[.int .i64 (m : Int), .slice (some ⟨b, off, none⟩) E.length cap] 25) (.cells #[.int .i64 0, .slice none 0 0] 25) w1.heap.size (m : Int) (turnF E k ++ turnI (E.take (j + 1)) (k : Int)) (.slice ua (turnF E k ++ turnI (E.take j) (k : Int)).length uc) wr) := by rw [hfs]; exact hF.out
          clear hF h1 h2 h5 h6 hfs c0
          generalize E[j].2 = et at *
          generalize (turnF E k ++ turnI (E.take j) (k : Int)).length = fn at *
          go_wp2
          go_roundw
          case rel => exact ⟨j + 1, by go_num, by omega, _, HN⟩
          case measure => simp [intOf]; omega
        rw [if_pos c0] at hfs
        rw [c0] at q1
        have hfs2 : turnF E k ++ turnI (E.take (j + 1)) (k : Int) = (turnF E k ++ turnI (E.take j) (k : Int)) ++ [((k : Int), E[j].1)] := by rw [hfs, List.append_assoc]
        have HOw : Hid (∀ o, (wr.alloc o).ownsRow (w1.heap.size + 1) 36 2 (.slice ua (turnF E k ++ turnI (E.take j) (k : Int)).length uc) (turnF E k ++ turnI (E.take j) (k : Int)).length (eC (turnF E k ++ turnI (E.take j) (k : Int)))) := fun o => World.ownsRow.alloc h6 o
        have HAd : Hid (∀ o1 g cp w6, w6.ownsRow (w1.heap.size + 1) 36 2 (.slice (some ⟨g, 0, none⟩) ((turnF E k ++ turnI (E.take j) (k : Int)).length + 1) cp) ((turnF E k ++ turnI (E.take j) (k : Int)).length + 1) (eC (turnF E k ++ turnI (E.take j) (k : Int)) ++ [.int .i64 (k : Int), .int .i64 E[j].1]) → (wr.alloc o1).grownBy w6 (Value.slice ua (turnF E k ++ turnI (E.take j) (k : Int)).length uc).ownBlock → (w6.cell? ⟨w1.heap.size, 1, none⟩ = some (.slice ua (turnF E k ++ turnI (E.take j) (k : Int)).length uc) ∧ w6.frozen? ⟨w1.heap.size, 1, none⟩ = false) ∧ FSt w (.cells #[.int .i64 (m : Int), .slice (some ⟨b, off, none⟩) E.length cap] 25) (.cells #[.int .i64 0, .slice none 0 0] 25) w1.heap.size (m : Int) (turnF E k ++ turnI (E.take (j + 1)) (k : Int)) (.slice (some ⟨g, 0, none⟩) ((turnF E k ++ turnI (E.take j) (k : Int)).length + 1) cp) (w6.setCell ⟨w1.heap.size, 1, none⟩ (.slice (some ⟨g, 0, none⟩) ((turnF E k ++ turnI (E.take j) (k : Int)).length + 1) cp))) := fun o1 g cp w6 k1 k2 => by
          have := fSt_add (e := ((k : Int), E[j].1)) hF.out k1 k2
          rw [hfs2]
          exact this
        have G1o : ∀ o, (wr.alloc o).cell? ⟨w.heap.size, 1, none⟩ = some (.slice (some ⟨b, off, none⟩) E.length cap) := fun o => (World.cell?_of_block (Below.heap_alloc wr o w.heap.size (by omega))).trans g1
        have R1o : ∀ o, (wr.alloc o).cell? ⟨w1.heap.size, 1, none⟩ = some (.slice ua (turnF E k ++ turnI (E.take j) (k : Int)).length uc) := fun o => (World.cell?_of_block (Below.heap_alloc wr o w1.heap.size (by omega))).trans r1
        have Q0o : ∀ o, (wr.alloc o).cell? ⟨b, off + j * 2, none⟩ = some (.int .i64 E[j].1) := fun o => (World.cell?_of_block (Below.heap_alloc wr o b (by omega))).trans q0
        clear hF h1 h2 h5 h6 hfs hfs2 c0
        generalize hfl2 : turnF E k ++ turnI (E.take j) (k : Int) = fl at *
        generalize hfn : fl.length = fn at *
        generalize E[j].1 = ef at *
        go_wp2_with fail
        go_region_law (first
          | (refine step_append_lies _ (by rfl) (.tmp 36) (.tmp 45) 23 (by rfl) (w1.heap.size + 1) 36 iE _ 2 16 Try.underlying23 hiE hz0 hz1 hz2 rfl (by decide) (.slice ua fn uc) fn (eC fl) (by rfl) (by first | exact HOw.out _ | exact (HOw.out _).drew) ⟨wr.heap.size, 0, none⟩ 1 1 [.int .i64 (k : Int), .int .i64 ef] (by rfl) (by rfl) (World.news_of_block (cs := #[.int .i64 (k : Int), .int .i64 ef]) (t := 36) (fr := (0, 0)) (heap_alloc_new wr _)) (by simp [Value.oneCell']) (by omega) (by unfold maxLen; omega) (by omega) (by simp; omega) (wr.heap.size + 1) (by simp) ?_; intro g6 cp6 w6 hown6 hg6 hat6 hlt6; have hg7 : (wr.alloc (.cells #[.int .i64 (k : Int), .int .i64 ef] 36)).grownBy w6 (Value.slice ua fn uc).ownBlock := ⟨hg6.os, hg6.tape, hg6.output, hg6.size, hg6.block⟩; obtain ⟨⟨s1, s2⟩, hF6⟩ := HAd.out _ _ _ _ hown6 hg7; replace hF6 := hide' hF6; clear hown6 hg6 hg7 hat6 hlt6))
        all_goals go_wp2
        all_goals exact ⟨⟨j + 1, by go_num, by omega, _, hF6⟩, by simp [intOf]; omega⟩
      · have hjl' : ¬ (j : Int) < (E.length : Int) := by omega
        obtain rfl : j = E.length := by omega
        have HN := hF
        rw [List.take_length, ← HTs.out] at HN
        clear hF h1 h2 h5 h6
        generalize (turnF E k ++ turnI (E.take E.length) (k : Int)).length = fn at *
        go_wp2
        go_roundw
        case rel => exact ⟨k + 1, by go_num, by omega, _, HN⟩
        case measure => simp [intOf]; omega
end Go.Proofs.Ytpnohgncnmbkdaa
/-
  Graphs: edges turned and put in order are what Turned of the specification gathers; plain mathematics.
-/
namespace Go.Proofs.Ytpnohgncnmbkdaa
open Go.RowKit
set_option linter.unusedVariables false
set_option linter.unusedSimpArgs false

/-- An edge turned round. -/
def swapE (e : Edg) : Edg := (e.2, e.1)
/-- Not behind. -/
def leE (a b : Edg) : Bool := !(decide (edgC b a < 0))

theorem edgC_dec (a b : Edg) : decide (edgC a b < 0) = lessE a b := by
  rw [Bool.eq_iff_iff, decide_eq_true_eq]
  exact edgC_less a b
theorem leE_less (a b : Edg) : leE a b = !lessE b a := by unfold leE; rw [edgC_dec]
theorem leE_trans (a b c : Edg) : leE a b = true → leE b c = true → leE a c = true := by
  simp only [leE_less, lessE, Bool.not_eq_true', Bool.or_eq_false_iff, Bool.and_eq_false_iff, decide_eq_false_iff_not]
  omega
theorem leE_total (a b : Edg) : (leE a b || leE b a) = true := by
  rw [leE_less, leE_less]
  have h : lessE a b = false ∨ lessE b a = false := by
    simp only [lessE, Bool.or_eq_false_iff, Bool.and_eq_false_iff, decide_eq_false_iff_not]
    omega
  rcases h with h | h <;> simp [h]
theorem leE_anti (a b : Edg) (h1 : leE a b = true) (h2 : leE b a = true) : a = b := by
  simp only [leE_less, lessE, Bool.not_eq_true', Bool.or_eq_false_iff, Bool.and_eq_false_iff, decide_eq_false_iff_not] at h1 h2
  exact Prod.ext (by omega) (by omega)
theorem leE_of {a b : Edg} (h : lessE a b = true) : leE a b = true := by
  rw [leE_less]
  have : lessE b a = false := by
    simp only [lessE, Bool.or_eq_true, Bool.and_eq_true, decide_eq_true_eq] at h
    simp only [lessE, Bool.or_eq_false_iff, Bool.and_eq_false_iff, decide_eq_false_iff_not]
    omega
  simp [this]

theorem turnI_cons (e : Edg) (r : List Edg) (v : Int) : turnI (e :: r) v = (if e.2 = v then [(v, e.1)] else []) ++ turnI r v := by
  unfold turnI
  rw [List.filter_cons]
  by_cases c : e.2 = v
  · rw [if_pos c, if_pos (by simpa using c)]
    rfl
  · rw [if_neg c, if_neg (by simpa using c)]
    rfl
theorem turnF_nil : ∀ k, turnF [] k = []
  | 0 => rfl
  | k + 1 => by
    show turnF [] k ++ turnI [] (k : Int) = []
    rw [turnF_nil k]
    rfl
theorem turnF_cons (e : Edg) (r : List Edg) (h : 0 ≤ e.2) : ∀ k : Nat, (turnF (e :: r) k).Perm ((if e.2 < (k : Int) then [swapE e] else []) ++ turnF r k)
  | 0 => by
    rw [if_neg (by omega)]
    exact List.Perm.refl _
  | k + 1 => by
    show (turnF (e :: r) k ++ turnI (e :: r) (k : Int)).Perm ((if e.2 < ((k + 1 : Nat) : Int) then [swapE e] else []) ++ (turnF r k ++ turnI r (k : Int)))
    rw [turnI_cons]
    have ih := turnF_cons e r h k
    by_cases c1 : e.2 < (k : Int)
    · rw [if_pos c1] at ih
      rw [if_neg (show ¬ e.2 = (k : Int) by omega), if_pos (show e.2 < ((k + 1 : Nat) : Int) by omega), List.nil_append, ← List.append_assoc]
      exact ih.append_right _
    · rw [if_neg c1, List.nil_append] at ih
      by_cases c2 : e.2 = (k : Int)
      · rw [if_pos c2, if_pos (show e.2 < ((k + 1 : Nat) : Int) by omega)]
        have e1 : swapE e = ((k : Int), e.1) := by unfold swapE; rw [c2]
        rw [e1]
        refine (ih.append_right _).trans ?_
        exact List.perm_middle
      · rw [if_neg c2, if_neg (show ¬ e.2 < ((k + 1 : Nat) : Int) by omega), List.nil_append, List.nil_append]
        exact ih.append_right _
theorem turnF_perm {n : Nat} : ∀ (E : List Edg), InG n E → (turnF E n).Perm (E.map swapE)
  | [], _ => by rw [turnF_nil]; exact List.Perm.refl _
  | e :: r, hE => by
    have he := hE e (by simp)
    have h1 := turnF_cons e r he.2.2.1 n
    rw [if_pos he.2.2.2] at h1
    exact h1.trans ((turnF_perm r (fun x hx => hE x (List.mem_cons_of_mem _ hx))).cons _)
theorem turnF_first {E : List Edg} : ∀ (k : Nat) (x : Edg), x ∈ turnF E k → x.1 < (k : Int)
  | 0, x, h => by simp [turnF] at h
  | k + 1, x, h => by
    have h' : x ∈ turnF E k ++ turnI E (k : Int) := h
    rcases List.mem_append.1 h' with h1 | h1
    · have := turnF_first k x h1
      omega
    · unfold turnI at h1
      obtain ⟨e, _, rfl⟩ := List.mem_map.1 h1
      show (k : Int) < _
      omega
theorem turnF_asc {n : Int} {E : List Edg} (hg : gB n E = true) : ∀ k : Nat, (turnF E k).Pairwise fun a b => lessE a b = true
  | 0 => List.Pairwise.nil
  | k + 1 => by
    show (turnF E k ++ turnI E (k : Int)).Pairwise _
    rw [List.pairwise_append]
    refine ⟨turnF_asc hg k, ?_, fun a ha b hb => ?_⟩
    · unfold turnI
      rw [List.pairwise_map]
      have hp : E.Pairwise fun a b => lessE a b = true := by
        rw [List.pairwise_iff_getElem]
        intro i j hi hj hij
        obtain ⟨_, h⟩ := asc_apart hg i j hj hij
        exact h
      have hf := hp.filter (fun e => decide (e.2 = (k : Int)))
      refine List.Pairwise.imp_of_mem ?_ hf
      intro a b ha hb hab
      have ha2 := (List.mem_filter.1 ha).2
      have hb2 := (List.mem_filter.1 hb).2
      simp only [decide_eq_true_eq] at ha2 hb2
      unfold lessE at hab
      simp only [Bool.or_eq_true, Bool.and_eq_true, decide_eq_true_eq] at hab
      have h3 : a.1 < b.1 := by omega
      simp [lessE, h3]
    · have h1 := turnF_first k a ha
      unfold turnI at hb
      obtain ⟨e, _, rfl⟩ := List.mem_map.1 hb
      unfold lessE
      simp only [Bool.or_eq_true, decide_eq_true_eq]
      exact .inl h1
/-- Turned one by one and put in order. -/
theorem turn_sort {n : Nat} {E : List Edg} (hg : gB (n : Int) E = true) : (E.map swapE).mergeSort leE = turnF E n := by
  have h1 : ((E.map swapE).mergeSort leE).Pairwise fun a b => leE a b = true := List.pairwise_mergeSort leE_trans leE_total _
  have h2 : (turnF E n).Pairwise fun a b => leE a b = true := (turnF_asc hg n).imp fun h => leE_of h
  exact List.Perm.eq_of_pairwise (fun a b _ _ => leE_anti a b) h1 h2 ((List.mergeSort_perm _ _).trans (turnF_perm E (g_in hg)).symm)
end Go.Proofs.Ytpnohgncnmbkdaa
/-
  DERIVED: THE SHELF's CONTRACTS AT THIS DUMP, IN PLAIN WORDS (tools/lay-plain.mjs out of 'TryShelf.lean', which tools/lay-shelf.mjs wrote): THE SAME DECLARATIONS UNDER THE SAME NAMES: 'import', 'namespace', 'open', 'def', 'theorem' AND NOTHING ELSE: no command of the shelf's: FOR A HAND-IN. Each laying: the table of numbers ('.._ren') and one theorem, a field a fact of the dump's own or the kernel's comparison; each contract: ONE APPLICATION.
-/
namespace Go.Proofs
open Go.Shelf
def Try.sortE_ren : Go.Shelf.Ren := ⟨fun | 6 => 51 | 15 => 83 | 14 => 82 | 28 => 103 | 29 => 104 | 20 => 95 | 21 => 96 | 22 => 97 | 23 => 98 | 24 => 99 | 25 => 100 | 26 => 101 | 27 => 102 | 46 => 105 | 47 => 106 | 48 => 107 | 49 => 108 | 50 => 109 | 57 => 110 | n => n, fun | 22 => 23 | 24 => 36 | 25 => 62 | 3 => 3 | 39 => 95 | 0 => 0 | 53 => 66 | 55 => 120 | 4 => 4 | 46 => 112 | 45 => 111 | 50 => 116 | 5 => 5 | 9 => 9 | 66 => 122 | 70 => 126 | 76 => 128 | 77 => 129 | n => n, fun | n => n⟩
theorem Try.sortE : Go.Proofs.SlLaysF0.n6 Try.prog Try.sortE_ren := {
  mixed := by kernel_rfl
  f6 := ⟨Try.f51.name, by decide, Try.func51.trans (congrArg some (by kernel_rfl))⟩
  f14 := ⟨Try.f82.name, by decide, Try.func82.trans (congrArg some (by kernel_rfl))⟩
  f15 := Try.func83.trans (congrArg some (by kernel_rfl))
  f20 := ⟨Try.f95.name, by decide, Try.func95.trans (congrArg some (by kernel_rfl))⟩
  f21 := ⟨Try.f96.name, by decide, Try.func96.trans (congrArg some (by kernel_rfl))⟩
  f22 := ⟨Try.f97.name, by decide, Try.func97.trans (congrArg some (by kernel_rfl))⟩
  f23 := ⟨Try.f98.name, by decide, Try.func98.trans (congrArg some (by kernel_rfl))⟩
  f24 := ⟨Try.f99.name, by decide, Try.func99.trans (congrArg some (by kernel_rfl))⟩
  f25 := ⟨Try.f100.name, by decide, Try.func100.trans (congrArg some (by kernel_rfl))⟩
  f26 := ⟨Try.f101.name, by decide, Try.func101.trans (congrArg some (by kernel_rfl))⟩
  f27 := ⟨Try.f102.name, by decide, Try.func102.trans (congrArg some (by kernel_rfl))⟩
  f28 := Try.func103.trans (congrArg some (by kernel_rfl))
  f29 := Try.func104.trans (congrArg some (by kernel_rfl))
  f46 := ⟨Try.f105.name, by decide, Try.func105.trans (congrArg some (by kernel_rfl))⟩
  f47 := Try.func106.trans (congrArg some (by kernel_rfl))
  f48 := Try.func107.trans (congrArg some (by kernel_rfl))
  f49 := ⟨Try.f108.name, by decide, Try.func108.trans (congrArg some (by kernel_rfl))⟩
  f50 := ⟨Try.f109.name, by decide, Try.func109.trans (congrArg some (by kernel_rfl))⟩
  f57 := ⟨Try.f110.name, by decide, Try.func110.trans (congrArg some (by kernel_rfl))⟩
  t0 := Try.underlying0
  a0 := Try.isAgg0
  z0 := Try.sizeOf0
  v0 := Try.zeroValue0
  t3 := Try.underlying3
  a3 := Try.isAgg3
  z3 := Try.sizeOf3
  v3 := Try.zeroValue3
  t4 := Try.underlying4
  a4 := Try.isAgg4
  z4 := Try.sizeOf4
  v4 := Try.zeroValue4
  t5 := Try.underlying5
  a5 := Try.isAgg5
  z5 := Try.sizeOf5
  v5 := Try.zeroValue5
  t9 := Try.underlying9
  a9 := Try.isAgg9
  z9 := Try.sizeOf9
  v9 := Try.zeroValue9
  t22 := Try.underlying23
  a22 := Try.isAgg23
  z22 := Try.sizeOf23
  v22 := Try.zeroValue23
  t25 := Try.underlying62
  a25 := Try.isAgg62
  z25 := Try.sizeOf62
  v25 := Try.zeroValue62
  t39 := Try.underlying95
  a39 := Try.isAgg95
  z39 := Try.sizeOf95
  v39 := Try.zeroValue95
  t45 := Try.underlying111
  a45 := Try.isAgg111
  z45 := Try.sizeOf111
  v45 := Try.zeroValue111
  t46 := Try.underlying112
  a46 := Try.isAgg112
  z46 := Try.sizeOf112
  v46 := Try.zeroValue112
  t50 := Try.underlying116
  a50 := Try.isAgg116
  z50 := Try.sizeOf116
  v50 := Try.zeroValue116
  t53 := Try.underlying66
  a53 := Try.isAgg66
  z53 := Try.sizeOf66
  v53 := Try.zeroValue66
  t55 := Try.underlying120
  a55 := Try.isAgg120
  z55 := Try.sizeOf120
  v55 := Try.zeroValue120
  t66 := Try.underlying122
  a66 := Try.isAgg122
  z66 := Try.sizeOf122
  v66 := Try.zeroValue122
  t70 := Try.underlying126
  a70 := Try.isAgg126
  z70 := Try.sizeOf126
  v70 := Try.zeroValue126
  t76 := Try.underlying128
  a76 := Try.isAgg128
  z76 := Try.sizeOf128
  v76 := Try.zeroValue128
  t77 := Try.underlying129
  a77 := Try.isAgg129
  z77 := Try.sizeOf129
  v77 := Try.zeroValue129 }
end Go.Proofs
