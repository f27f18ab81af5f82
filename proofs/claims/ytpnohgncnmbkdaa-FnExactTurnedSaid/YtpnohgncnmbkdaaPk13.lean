/-
  Texts that a law leans on, one behind the other; no statement is proved here.
-/
import Derived.Test.YtpnohgncnmbkdaaPk11
import Derived.Deep.RegionHeld3
import Derived.Deep.Cut
import Derived.Test.YtpnohgncnmbkdaaPk6
import Derived.Test.YtpnohgncnmbkdaaPk1
import Derived.Deep.AppendLies
/-
  FnExactPart answers true, once both calls' ends are known; written by wip/gen/graphgb.py.
-/
namespace Go.Proofs.Ytpnohgncnmbkdaa
open Go.RowKit
set_option linter.unusedVariables false
set_option linter.unusedSimpArgs false

set_option maxHeartbeats 6400000 in
set_option maxRecDepth 100000 in
theorem walk_WgPa (n rn : Int) (x : Value) (E R : List Edg) (bb : Bool) (w : World) (hx : ESeg (fun b => b < w.heap.size) w x E) (hRl : R.length ≤ 1048576)
    (y : Value) (l : List Int) (hy : NSeg (fun b => b < w.heap.size) w y l)
    (HSp : ∀ u y wx, ESeg (fun b => b < wx.heap.size) wx u E → NSeg (fun b => b < wx.heap.size) wx y l → Calls Try.prog 43 #[.agg #[.int .i64 n, u], y] wx (fun e w' => ∃ u, e = .returned (.tuple #[.agg #[.int .i64 rn, u], .bool bb]) ∧ EOwn w' wx.heap.size u R ∧ Below wx.heap.size wx w'))
    (HIm : ∀ u y wx, ESeg (fun b => b < wx.heap.size) wx u E → NSeg (fun b => b < wx.heap.size) wx y l → Below w.heap.size w wx → Calls Try.prog 44 #[.agg #[.int .i64 n, u], y] wx (fun e w' => ∃ u, e = .returned (.tuple #[.agg #[.int .i64 rn, u], .bool bb]) ∧ EOwn w' wx.heap.size u R ∧ Below wx.heap.size wx w')) :
    Calls Try.prog 14 #[.agg #[.int .i64 n, x], y] w fun e w' => e = .returned (.bool true) ∧ Below w.heap.size w w' := by
  have Hb : Hid (∀ o : Obj, Below w.heap.size w (w.alloc o)) := fun o => (Below.refl _ _).alloc (Nat.le_refl _) o
  have Hbox : Hid (∀ o wx, Below (w.alloc o).heap.size (w.alloc o) wx → wx.heap[w.heap.size]? = some o) := fun o wx h => box_row h
  have HX : Hid (∀ wx, Below w.heap.size w wx → ESeg (fun b => b < w.heap.size) wx x E) := fun wx hb => hx.agree (agree_below hb)
  have HS : Hid (∀ wx, Below w.heap.size w wx → Calls Try.prog 27 #[.agg #[.int .i64 n, x], .int .i64 1048576] wx fun e w' => e = .returned (.int .i64 (lessN 1048576 E.length)) ∧ Below wx.heap.size wx w') := fun wx hb => szGraph_any _ n x E wx (HX.out wx hb) (fun b hb' => Nat.lt_of_lt_of_le hb' hb.size)
  have HT : Hid (E.length ≤ 1048576 → ∀ wx, Below w.heap.size w wx → Calls Try.prog 28 #[.agg #[.int .i64 n, x]] wx fun e w' => ∃ u, e = .returned (.agg #[.int .i64 n, u]) ∧ EOwn w' wx.heap.size u E ∧ Below wx.heap.size wx w') := fun hl wx hb => toGraph_any w.heap.size n x E wx (HX.out wx hb) hb.size hl
  have HEq : Hid (∀ (y z : Value) wx, ESeg (fun b => b < wx.heap.size) wx y E → ESeg (fun b => b < wx.heap.size) wx z E → Calls Try.prog 29 #[.agg #[.int .i64 n, y], .agg #[.int .i64 n, z]] wx fun e w' => e = .returned (.bool true) ∧ Below wx.heap.size wx w') := fun y z wx h1 h2 => eqGraph_same wx.heap.size n y z E wx h1 h2 (Nat.le_refl _)
  have HEr : Hid (∀ (y z : Value) wx, ESeg (fun b => b < wx.heap.size) wx y R → ESeg (fun b => b < wx.heap.size) wx z R → Calls Try.prog 29 #[.agg #[.int .i64 rn, y], .agg #[.int .i64 rn, z]] wx fun e w' => e = .returned (.bool true) ∧ Below wx.heap.size wx w') := fun y z wx h1 h2 => eqGraph_same wx.heap.size rn y z R wx h1 h2 (Nat.le_refl _)
  have HTn : Hid (l.length ≤ 1048576 → ∀ wx, Below w.heap.size w wx → Calls Try.prog 37 #[y] wx fun e w' => ∃ u, e = .returned u ∧ NOwn w' wx.heap.size u l ∧ Below wx.heap.size wx w') := fun hl wx hb => toIntS_any w.heap.size y l wx (hy.agree (agree_below hb)) hb.size hl
  have HSp' := hide' HSp
  have HIm' := hide' HIm
  obtain ⟨a, cap, rfl, -⟩ := hx
  obtain ⟨ya, yc, rfl, hyl, hym, -, -⟩ := hy
  unfold maxLen at hym
  clear HSp HIm HX
  by_cases hyz : (1048576 : Int) < (l.length : Int)
  · clear HS HT HEq HEr HSp' HIm' HTn
    generalize E.length = ll at *
    go_enter Try.func14, Try.ntmps14
    go_wp2
    go_ret
    exact ⟨rfl, Hb.out _⟩
  have HTn' := hide' (HTn.out (by omega))
  have hyl2 : l.length ≤ 1048576 := by omega
  clear HTn
  by_cases hz : (1048576 : Int) < (E.length : Int)
  · have hl : lessN 1048576 E.length = -1 := if_pos hz
    rw [hl] at HS
    clear hl HT HEq HEr HSp' HIm' HTn'
    generalize E.length = ll at *
    go_enter Try.func14, Try.ntmps14
    go_wp2_with fail
    refine (HS.out _ (Hb.out _)).mono ?_
    rintro e w1 ⟨rfl, b1⟩
    have B1 := Below.on (Hb.out _) b1
    clear b1
    go_wp2
    go_ret
    exact ⟨rfl, B1⟩
  have hl : lessN 1048576 E.length = 1048576 - E.length := if_neg hz
  rw [hl] at HS
  have HT' := hide' (HT.out (by omega))
  have hll : E.length ≤ 1048576 := by omega
  have hz0 : 0 ≤ (1048576 : Int) - (E.length : Int) := by omega
  have hz1 : (1048576 : Int) - (E.length : Int) ≤ 1048576 := by omega
  clear hl hz HT
  generalize hEl : E.length = ll at *
  generalize hYl : l.length = yl at *
  generalize hRn : R.length = rl at *
  generalize (1048576 : Int) - (ll : Int) = lft at *
  go_enter Try.func14, Try.ntmps14
  go_wp2_with fail
  refine (HS.out _ (Hb.out _)).mono ?_
  rintro e w1 ⟨rfl, b1⟩
  obtain ⟨y0, y1, -⟩ := row2 (Hbox.out _ _ b1)
  have B1 := hide' b1
  have HT1 := hide' (HT'.out w1 (Below.on (Hb.out _) b1))
  clear b1 HS
  go_wp2_with fail
  refine HT1.out.mono ?_
  rintro e w2a ⟨u, rfl, hO2, b2⟩
  have B2a := hide' (Below.on B1.out b2)
  have HN2 := hide' (HTn'.out w2a (Below.on (Hb.out _) B2a.out))
  have HO2 := hide' hO2
  obtain ⟨ua, uc, hu⟩ := hO2.form
  rw [hEl] at hu
  subst hu
  clear hO2 b2 HT1 B1 y0 y1
  go_wp2_with fail
  refine HN2.out.mono ?_
  rintro e w2 ⟨yv, rfl, hY2, b2⟩
  have hS2 := hide' (HSp'.out _ yv w2 (HO2.out.on b2).read hY2.read)
  have B2 := hide' (Below.on B2a.out b2)
  obtain ⟨yva, yvc, hyv⟩ := hY2.form
  rw [hYl] at hyv
  subst hyv
  clear hY2 b2 HN2 HO2 B2a
  go_wp2_with fail
  refine hS2.out.mono ?_
  rintro e w3 ⟨Wv, rfl, hW3, b3⟩
  obtain ⟨Wa, Wc, hWf⟩ := hW3.form
  rw [hRn] at hWf
  subst hWf
  have bal3 : Below w3.heap.size w3 (w3.alloc (.cells #[.int .i64 rn, .slice Wa rl Wc] 25)) := (Below.refl _ _).alloc (Nat.le_refl _) _
  have HBw : Hid (∀ k, (Value.slice Wa rl Wc).ownBlock = some k → k < w3.heap.size) := fun k hk => (hW3.lt k hk).2
  have HW3 := hide' (hW3.on bal3)
  have B3 := hide' (Below.on (Below.on B2.out b3) bal3)
  have Hw3 : Hid (∀ wx, Below (w3.alloc (.cells #[.int .i64 rn, .slice Wa rl Wc] 25)).heap.size (w3.alloc (.cells #[.int .i64 rn, .slice Wa rl Wc] 25)) wx → wx.heap[w3.heap.size]? = some (.cells #[.int .i64 rn, .slice Wa rl Wc] 25)) := fun wx hb => box_row hb
  have hs3 : (w3.alloc (.cells #[.int .i64 rn, .slice Wa rl Wc] 25)).heap.size = w3.heap.size + 1 := by simp
  obtain ⟨y0, y1, -⟩ := row2 (Hbox.out _ _ B3.out)
  have HT3 := hide' (HT'.out _ (Below.on (Hb.out _) B3.out))
  clear b3 hS2 B2 hW3 bal3
  go_wp2_with fail
  refine HT3.out.mono ?_
  rintro e w4 ⟨v, rfl, hO4, b4⟩
  obtain ⟨va, vc, hvf⟩ := hO4.form
  rw [hEl] at hvf
  subst hvf
  have bal : Below w4.heap.size w4 (w4.alloc (.cells #[.int .i64 n, .slice va ll vc] 25)) := (Below.refl _ _).alloc (Nat.le_refl _) _
  have B4 := hide' (Below.on (Below.on B3.out b4) bal)
  have HN4 := hide' (HTn'.out _ (Below.on (Hb.out _) B4.out))
  have HO4 := hide' (hO4.on bal)
  have HBx : Hid (∀ k, (Value.slice va ll vc).ownBlock = some k → w3.heap.size + 1 ≤ k ∧ k < w4.heap.size) := fun k hk => by have := hO4.lt k hk; rw [hs3] at this; exact this
  have hz34 : w3.heap.size + 1 ≤ w4.heap.size := by have := b4.size; rw [hs3] at this; exact this
  have HW4 := hide' ((HW3.out.on b4).on bal)
  have hw4 := (bal.block _ (by omega)).trans (Hw3.out _ b4)
  have Hw4 := hide' hw4
  have Hx4 : Hid (∀ wx, Below (w4.alloc (.cells #[.int .i64 n, .slice va ll vc] 25)).heap.size (w4.alloc (.cells #[.int .i64 n, .slice va ll vc] 25)) wx → wx.heap[w4.heap.size]? = some (.cells #[.int .i64 n, .slice va ll vc] 25)) := fun wx hb => box_row hb
  have hs4 : (w4.alloc (.cells #[.int .i64 n, .slice va ll vc] 25)).heap.size = w4.heap.size + 1 := by simp
  clear hO4 b4 bal HT3 y0 y1 HW3 hw4 Hw3
  go_wp2_with fail
  refine HN4.out.mono ?_
  rintro e w4b ⟨xv, rfl, hX1, b4b⟩
  have HBy : Hid (∀ k, xv.ownBlock = some k → w4.heap.size + 1 ≤ k ∧ k < w4b.heap.size) := fun k hk => by have := hX1.lt k hk; rw [hs4] at this; exact this
  have hz4b : w4.heap.size + 1 ≤ w4b.heap.size := by have := b4b.size; rw [hs4] at this; exact this
  obtain ⟨xva, xvc, hxv⟩ := hX1.form
  rw [hYl] at hxv
  subst hxv
  have B4b := hide' (Below.on B4.out b4b)
  have hI4 := hide' (HIm'.out _ _ w4b (HO4.out.on b4b).read hX1.read (Below.on (Hb.out _) B4b.out))
  have HO4b := hide' (HO4.out.on b4b)
  have HW4b := hide' (HW4.out.on b4b)
  have HY4 := hide' hX1
  have hx4b := Hx4.out _ b4b
  have Hx4b := hide' hx4b
  have Hw4b := hide' ((b4b.block w3.heap.size (by rw [hs4]; omega)).trans Hw4.out)
  obtain ⟨v0, v1, -⟩ := row2 hx4b
  clear b4b hX1 HN4 HO4 HW4 B4 hx4b Hx4 Hw4
  go_wp2_with fail
  refine hI4.out.mono ?_
  rintro e w5 ⟨Gv, rfl, hG5, b5⟩
  obtain ⟨Ga, Gc, hGf⟩ := hG5.form
  rw [hRn] at hGf
  subst hGf
  have bal5 : Below w5.heap.size w5 (w5.alloc (.cells #[.int .i64 rn, .slice Ga rl Gc] 25)) := (Below.refl _ _).alloc (Nat.le_refl _) _
  have hs5 : (w5.alloc (.cells #[.int .i64 rn, .slice Ga rl Gc] 25)).heap.size = w5.heap.size + 1 := by simp
  have HBg : Hid (∀ k, (Value.slice Ga rl Gc).ownBlock = some k → w4b.heap.size ≤ k ∧ k < w5.heap.size) := hG5.lt
  have hz45 : w4b.heap.size ≤ w5.heap.size := b5.size
  have b45 := Below.on b5 bal5
  have HW5 := hide' (HW4b.out.on b45)
  have HY5 := hide' (HY4.out.on b45)
  have HG5 := hide' (hG5.on bal5)
  have B5 := hide' (Below.on B4b.out b45)
  have HO5 := hide' (HO4b.out.on b45)
  have Hx5 := hide' ((b45.block w4.heap.size (by omega)).trans Hx4b.out)
  have hw5 := (b45.block w3.heap.size (by omega)).trans Hw4b.out
  have Hw5 := hide' hw5
  have hg5 := (MapKept.heap_alloc w5 (.cells #[.int .i64 rn, .slice Ga rl Gc] 25)).1
  have Hg5 := hide' hg5
  obtain ⟨p0, p1, -⟩ := row2 hw5
  obtain ⟨m0, m1, -⟩ := row2 hg5
  have hEK := hide' (HEr.out _ _ _ HG5.out.read HW5.out.read)
  clear b5 hI4 HO4b B4b hG5 HW4b Hx4b Hw4b hw5 hg5 b45 bal5 HY4 v0 v1
  go_wp2_with fail
  refine hEK.out.mono ?_
  rintro e w6 ⟨rfl, b6⟩
  have B6 := hide' (Below.on B5.out b6)
  have HO6 := hide' (HO5.out.on b6)
  have HG6 := hide' (HG5.out.on b6)
  have HW6 := hide' (HW5.out.on b6)
  have HY6 := hide' (HY5.out.on b6)
  have hz56 : w5.heap.size + 1 ≤ w6.heap.size := by have := b6.size; rw [hs5] at this; exact this
  have hx6 := (b6.block w4.heap.size (by rw [hs5]; omega)).trans Hx5.out
  have hw6 := hide' ((b6.block w3.heap.size (by rw [hs5]; omega)).trans Hw5.out)
  have hg6 := hide' ((b6.block w5.heap.size (by rw [hs5]; omega)).trans Hg5.out)
  obtain ⟨v0, v1, -⟩ := row2 hx6
  have Hx6 := hide' hx6
  clear b6 hEK HO5 HG5 HW5 HY5 B5 hx6 Hx5 Hw5 Hg5 p0 p1 m0 m1
  obtain ⟨y0, y1, -⟩ := row2 (Hbox.out _ _ B6.out)
  have HTd : Hid (Calls Try.prog 28 #[.agg #[.int .i64 n, .slice a ll cap]] w6.drew fun e w7 => ∃ za zc, e = .returned (.agg #[.int .i64 n, .slice za ll zc]) ∧ (w7.cell? ⟨w.heap.size, 0, none⟩ = some (.int .i64 n) ∧ w7.cell? ⟨w.heap.size, 1, none⟩ = some (.slice a ll cap) ∧ w7.cell? ⟨w4.heap.size, 0, none⟩ = some (.int .i64 n) ∧ w7.cell? ⟨w4.heap.size, 1, none⟩ = some (.slice va ll vc)) ∧ Hid (Calls Try.prog 29 #[.agg #[.int .i64 n, .slice va ll vc], .agg #[.int .i64 n, .slice za ll zc]] w7 fun e w8 => e = .returned (.bool true) ∧ (w8.cell? ⟨w.heap.size, 0, none⟩ = some (.int .i64 n) ∧ w8.cell? ⟨w.heap.size, 1, none⟩ = some (.slice a ll cap) ∧ w8.cell? ⟨w4.heap.size, 0, none⟩ = some (.int .i64 n) ∧ w8.cell? ⟨w4.heap.size, 1, none⟩ = some (.slice va ll vc)) ∧ Hid (Below w6.heap.size w6 w8))) := by
    refine (HT'.out w6.drew (Below.on (Hb.out _) B6.out).drew).mono ?_
    rintro e w7 ⟨z, rfl, hO7, b7⟩
    obtain ⟨za, zc, hzf⟩ := hO7.form
    rw [hEl] at hzf
    subst hzf
    have b67 : Below w6.heap.size w6 w7 := Below.on (Below.refl _ w6).drew b7
    have hkp : ∀ wy, Below w6.heap.size w6 wy → (wy.cell? ⟨w.heap.size, 0, none⟩ = some (.int .i64 n) ∧ wy.cell? ⟨w.heap.size, 1, none⟩ = some (.slice a ll cap) ∧ wy.cell? ⟨w4.heap.size, 0, none⟩ = some (.int .i64 n) ∧ wy.cell? ⟨w4.heap.size, 1, none⟩ = some (.slice va ll vc)) := fun wy hb => by
      obtain ⟨f0, f1, -⟩ := row2 (Hbox.out _ _ (Below.on B6.out hb))
      obtain ⟨f2, f3, -⟩ := row2 ((hb.block w4.heap.size ((Array.getElem?_eq_some_iff.1 Hx6.out).1)).trans Hx6.out)
      exact ⟨f0, f1, f2, f3⟩
    refine ⟨za, zc, rfl, hkp _ b67, ?_⟩
    exact (HEq.out _ _ w7 (HO6.out.on b67).read hO7.read).mono fun e w8 h => ⟨h.1, hkp _ (Below.on b67 h.2), Below.on b67 h.2⟩
  go_wp2_with fail
  go_region_held3 (fun wx => wx.cell? ⟨w.heap.size, 0, none⟩ = some (.int .i64 n) ∧ wx.cell? ⟨w.heap.size, 1, none⟩ = some (.slice a ll cap) ∧ wx.cell? ⟨w4.heap.size, 0, none⟩ = some (.int .i64 n) ∧ wx.cell? ⟨w4.heap.size, 1, none⟩ = some (.slice va ll vc)) (go_keep) (first
    | (go_at_call 28; refine HTd.out.mono ?_; rintro e w7 ⟨za, zc, rfl, ⟨i0, i1, i2, i3⟩, hE7⟩)
    | (go_at_call 29; refine hE7.out.mono ?_; rintro e w8 ⟨rfl, ⟨j0, j1, j2, j3⟩, hb8⟩)
    | fail)
  have HO8 := hide' (HO6.out.on hb8.out)
  have HG8 := hide' (HG6.out.on hb8.out)
  have HW8 := hide' (HW6.out.on hb8.out)
  have B8 := hide' (Below.on B6.out hb8.out)
  have hw8 := hide' ((hb8.out.block w3.heap.size (by omega)).trans hw6.out)
  have hg8 := hide' ((hb8.out.block w5.heap.size (by omega)).trans hg6.out)
  have hz68 : w6.heap.size ≤ w8.heap.size := hb8.out.size
  have HBk : Hid ((w.alloc (.cells #[.int .i64 n, .slice a ll cap] 45)).heap.size ≤ w3.heap.size + 1) := by have := B3.out.size; rw [hs3] at this; exact this
  have HY8 := hide' (HY6.out.on hb8.out)
  have hx8 := hide' ((hb8.out.block w4.heap.size (by omega)).trans Hx6.out)
  have HN8 := hide' (HTn'.out w8 (Below.on (Hb.out _) B8.out))
  clear y0 y1 v0 v1 i0 i1 i2 i3 hE7 HTd HO6 HG6 HW6 B6 hw6 hg6 HY6 j0 j1 j2 j3
  go_wp2_with fail
  refine HN8.out.mono ?_
  rintro e w8a ⟨qv, rfl, hQ8, b8a⟩
  obtain ⟨qa, qc, hqv⟩ := hQ8.form
  rw [hYl] at hqv
  subst hqv
  have hEy := hide' (eqIntS_same w8a.heap.size _ _ l w8a (HY8.out.on b8a).read hQ8.read (Nat.le_refl _))
  have B8a := hide' b8a
  clear hQ8 b8a HN8
  go_wp2_with fail
  refine hEy.out.mono ?_
  rintro e w8b ⟨rfl, b8b⟩
  have bb8 := Below.on B8a.out b8b
  have HO8b := hide' (HO8.out.on bb8)
  have HG8b := hide' (HG8.out.on bb8)
  have HW8b := hide' (HW8.out.on bb8)
  have HY8b := hide' (HY8.out.on bb8)
  have B8b := hide' (Below.on B8.out bb8)
  have hw8b := hide' ((bb8.block w3.heap.size (by omega)).trans hw8.out)
  have hg8b := hide' ((bb8.block w5.heap.size (by omega)).trans hg8.out)
  have hx8b := (bb8.block w4.heap.size (by omega)).trans hx8.out
  have hz8b : w8.heap.size ≤ w8b.heap.size := bb8.size
  obtain ⟨v0, v1, -⟩ := row2 hx8b
  clear B8a b8b bb8 HO8 HG8 HW8 HY8 B8 hx8 hx8b hEy hw8 hg8
  have hM8 := hide' (markGraph_any _ n _ E 1 w8b HO8b.out (by omega) (by omega))
  rw [hEl] at hM8
  go_wp2_with fail
  refine hM8.out.mono ?_
  rintro e w9a ⟨rfl, -, hq9a⟩
  have hG9a := hide' (HG8b.out.far hq9a (fun k hk e' => by have h1 := HBg.out k hk; have h2 := HBx.out k e'; omega))
  have hW9a := hide' (HW8b.out.far hq9a (fun k hk e' => by have h1 := HBw.out k hk; have h2 := HBx.out k e'; omega))
  have hY9a := HY8b.out.far hq9a (fun k hk e' => by have h1 := HBy.out k hk; have h2 := HBx.out k e'; omega)
  have B9a := hide' (B8b.out.grown hq9a B8b.out.size (fun k hk => by have h2 := HBx.out k hk; have h3 := HBk.out; omega))
  have hw9a := hide' ((hq9a.block w3.heap.size (by omega) (fun e' => by have h2 := HBx.out _ e'.symm; omega)).trans hw8b.out)
  have hg9a := hide' ((hq9a.block w5.heap.size (by omega) (fun e' => by have h2 := HBx.out _ e'.symm; omega)).trans hg8b.out)
  have hz9a : w8b.heap.size ≤ w9a.heap.size := hq9a.size
  obtain ⟨kk, hkk⟩ : ∃ kk : Nat, (kk : Int) = (1 : Int) + (ll : Int) * 2 := ⟨1 + ll * 2, by omega⟩
  have hMy := hide' (markIntS_any _ _ l kk w9a hY9a (by omega) (by omega))
  rw [hYl, hkk] at hMy
  clear hq9a hY9a HG8b HW8b HY8b B8b hM8 HO8b v0 v1 hw8b hg8b
  have hk1 : 0 ≤ (1 : Int) + (ll : Int) * 2 ∧ (1 : Int) + (ll : Int) * 2 ≤ 4194304 := by omega
  generalize (1 : Int) + (ll : Int) * 2 = kq at *
  go_wp2_with fail
  refine hMy.out.mono ?_
  rintro e w9 ⟨rfl, -, hq9⟩
  have hG9 := hG9a.out.far hq9 (fun k hk e' => by have h1 := HBg.out k hk; have h2 := HBy.out k e'; omega)
  have hW9 := hW9a.out.far hq9 (fun k hk e' => by have h1 := HBw.out k hk; have h2 := HBy.out k e'; omega)
  have B9 := hide' (B9a.out.grown hq9 B9a.out.size (fun k hk => by have h2 := HBy.out k hk; have h3 := HBk.out; omega))
  have hw9 := (hq9.block w3.heap.size (by omega) (fun e' => by have h2 := HBy.out _ e'.symm; omega)).trans hw9a.out
  have hg9 := (hq9.block w5.heap.size (by omega) (fun e' => by have h2 := HBy.out _ e'.symm; omega)).trans hg9a.out
  have hz89 : w8.heap.size ≤ w9.heap.size := by have := hq9.size; omega
  obtain ⟨p0, p1, -⟩ := row2 hw9
  obtain ⟨m0, m1, -⟩ := row2 hg9
  have Hw9 := hide' hw9
  have Hg9 := hide' hg9
  have hE9 := hide' (HEr.out _ _ w9 hG9.read hW9.read)
  have HG9 := hide' hG9
  have HW9 := hide' hW9
  clear hq9 hG9 hW9 hG9a hW9a B9a hMy hw9a hg9a hw9 hg9
  have hk0 : ¬ kq + (yl : Int) < 0 := by omega
  go_wp2_with fail
  refine hE9.out.mono ?_
  rintro e w10 ⟨rfl, b10⟩
  have hM10 := hide' (markGraph_any _ rn _ R 1 w10 (HG9.out.on b10) (by omega) (by omega))
  have HW10 := hide' (HW9.out.on b10)
  have B10 := hide' (Below.on B9.out b10)
  have hw10 := hide' ((b10.block w3.heap.size (by omega)).trans Hw9.out)
  have hg10 := (b10.block w5.heap.size (by omega)).trans Hg9.out
  obtain ⟨m0, m1, -⟩ := row2 hg10
  have Hg10 := hide' hg10
  have hz910 : w9.heap.size ≤ w10.heap.size := b10.size
  rw [hRn] at hM10
  clear b10 hE9 HG9 HW9 B9 Hw9 Hg9 p0 p1 hg10
  go_wp2_with fail
  refine hM10.out.mono ?_
  rintro e w11 ⟨rfl, hG11, hq11⟩
  have HW11 := hide' (HW10.out.far hq11 (fun k hk e' => by have h1 := HBw.out k hk; have h2 := HBg.out k e'; omega))
  have B11 := hide' (B10.out.grown hq11 B10.out.size (fun k hk => by have h2 := HBg.out k hk; have h3 := HBk.out; omega))
  have hw11 := hide' ((hq11.block w3.heap.size (by omega) (fun e' => by have h2 := HBg.out _ e'.symm; omega)).trans hw10.out)
  have hg11 := (hq11.block w5.heap.size (by omega) (fun e' => by have h2 := HBg.out _ e'.symm; omega)).trans Hg10.out
  obtain ⟨m0, m1, -⟩ := row2 hg11
  have Hg11 := hide' hg11
  have hz1011 : w10.heap.size ≤ w11.heap.size := hq11.size
  have HG11 := hide' hG11
  have hH11 := hide' (heldGraph_any w11.heap.size rn _ 1 rl w11 hG11.read (Nat.le_refl _) (by omega) (by omega))
  clear hG11 hq11 hM10 HW10 B10 hw10 Hg10 hg11
  have hrn0 : ¬ (1 : Int) + (rl : Int) * 2 < 0 := by omega
  go_wp2_with fail
  refine hH11.out.mono ?_
  rintro e w12 ⟨rfl, b12⟩
  have B12 := hide' (Below.on B11.out b12)
  obtain ⟨y0, y1, -⟩ := row2 (Hbox.out _ _ B12.out)
  have HT12 := hide' (HT'.out w12 (Below.on (Hb.out _) B12.out))
  have HG12 := hide' (HG11.out.on b12)
  have HW12 := hide' (HW11.out.on b12)
  have hw12 := hide' ((b12.block w3.heap.size (by omega)).trans hw11.out)
  have hg12 := hide' ((b12.block w5.heap.size (by omega)).trans Hg11.out)
  have hz1112 : w11.heap.size ≤ w12.heap.size := b12.size
  clear b12 hH11 HG11 HW11 B11 hw11 Hg11 m0 m1
  go_wp2_with fail
  refine HT12.out.mono ?_
  rintro e w13 ⟨z, rfl, hO13, b13⟩
  have B13a := hide' (Below.on B12.out b13)
  have HN13 := hide' (HTn'.out w13 (Below.on (Hb.out _) B13a.out))
  have HO13 := hide' hO13
  have HG13a := hide' (HG12.out.on b13)
  have HW13a := hide' (HW12.out.on b13)
  have hw13a := hide' ((b13.block w3.heap.size (by omega)).trans hw12.out)
  have hg13a := hide' ((b13.block w5.heap.size (by omega)).trans hg12.out)
  have hz1213 : w12.heap.size ≤ w13.heap.size := b13.size
  obtain ⟨za', zc', hzf⟩ := hO13.form
  rw [hEl] at hzf
  subst hzf
  clear hO13 b13 HT12 HG12 HW12 B12 y0 y1 hw12 hg12
  go_wp2_with fail
  refine HN13.out.mono ?_
  rintro e w13b ⟨q3, rfl, hQ13, b13b⟩
  have B13 := hide' (Below.on B13a.out b13b)
  have hI13 := hide' (HIm'.out _ q3 w13b (HO13.out.on b13b).read hQ13.read (Below.on (Hb.out _) B13.out))
  have HG13 := hide' (HG13a.out.on b13b)
  have HW13 := hide' (HW13a.out.on b13b)
  have hw13 := hide' ((b13b.block w3.heap.size (by omega)).trans hw13a.out)
  have hg13 := hide' ((b13b.block w5.heap.size (by omega)).trans hg13a.out)
  have hz13b : w13.heap.size ≤ w13b.heap.size := b13b.size
  obtain ⟨q3a, q3c, hq3⟩ := hQ13.form
  rw [hYl] at hq3
  subst hq3
  clear hQ13 b13b HN13 HO13 HG13a HW13a B13a hw13a hg13a
  go_wp2_with fail
  refine hI13.out.mono ?_
  rintro e w14 ⟨Hv, rfl, hH14, b14⟩
  obtain ⟨Ha, Hc, hHf⟩ := hH14.form
  rw [hRn] at hHf
  subst hHf
  have bal14 : Below w14.heap.size w14 (w14.alloc (.cells #[.int .i64 rn, .slice Ha rl Hc] 25)) := (Below.refl _ _).alloc (Nat.le_refl _) _
  have b1314 := Below.on b14 bal14
  have HW14 := HW13.out.on b1314
  have hE14 := hide' (HEr.out _ _ _ (hH14.on bal14).read HW14.read)
  have HG14 := hide' (HG13.out.on b1314)
  have B14 := hide' (Below.on B13.out b1314)
  have hw14 := (b1314.block w3.heap.size (by omega)).trans hw13.out
  have hg14 := hide' ((b1314.block w5.heap.size (by omega)).trans hg13.out)
  obtain ⟨p0, p1, -⟩ := row2 hw14
  have hz1314 : w13b.heap.size ≤ (w14.alloc (.cells #[.int .i64 rn, .slice Ha rl Hc] 25)).heap.size := b1314.size
  clear hH14 b14 hI13 HG13 HW13 B13 bal14 b1314 HW14 hw13 hg13 hw14
  go_wp2_with fail
  refine hE14.out.mono ?_
  rintro e w15 ⟨rfl, b15⟩
  have hg15 := (b15.block w5.heap.size (by omega)).trans hg14.out
  obtain ⟨m0, m1, -⟩ := row2 hg15
  have hH15 := hide' (heldGraph_any w15.heap.size rn _ 1 rl w15 (HG14.out.on b15).read (Nat.le_refl _) (by omega) (by omega))
  have B15 := hide' (Below.on B14.out b15)
  clear b15 hE14 HG14 B14 p0 p1 hg15 hg14
  go_wp2_with fail
  refine hH15.out.mono ?_
  rintro e w16 ⟨rfl, b16⟩
  have HB := hide' (Below.on (Hb.out _) (Below.on B15.out b16))
  clear b16 hH15
  go_wp2
  go_ret
  exact ⟨rfl, HB.out⟩
end Go.Proofs.Ytpnohgncnmbkdaa
/-
  Part of the specification: the walk.
-/
namespace Go.Proofs.Ytpnohgncnmbkdaa
open Go.RowKit
set_option linter.unusedVariables false
set_option linter.unusedSimpArgs false

theorem two_after {w w1 : World} {o o' : Obj} (h : Below ((w.alloc o).alloc o').heap.size ((w.alloc o).alloc o') w1) : w1.heap[w.heap.size]? = some o ∧ w1.heap[w.heap.size + 1]? = some o' ∧ Below w.heap.size w w1 ∧ w.heap.size + 2 ≤ w1.heap.size := by
  obtain ⟨h1, h2⟩ := two_boxes w o o'
  have hz : ((w.alloc o).alloc o').heap.size = w.heap.size + 2 := by simp
  have hz1 := h.size
  exact ⟨(h.block _ (by omega)).trans h1, (h.block _ (by omega)).trans h2, Below.on (((Below.refl _ _).alloc (Nat.le_refl _) o).alloc (by simp) o') h, by omega⟩

set_option maxHeartbeats 6400000 in
set_option maxRecDepth 100000 in
theorem spec_Part_any (N : Nat) (n : Int) (x y : Value) (E : List Edg) (l : List Int) (w : World) (hx : ESeg (fun b => b < N) w x E) (hy : NSeg (fun b => b < N) w y l) (hN : N ≤ w.heap.size) :
    Calls Try.prog 43 #[.agg #[.int .i64 n, x], y] w (GrEnd (partN n E l) (partA n E l) (partB n E l) w) := by
  have HX : Hid (∀ wx, Below w.heap.size w wx → ESeg (fun b => b < N) wx x E) := fun wx hb => hx.agree (agree_below (hb.mono hN))
  have HY : Hid (∀ wx, Below w.heap.size w wx → NSeg (fun b => b < N) wx y l) := fun wx hb => hy.agree (agree_below (hb.mono hN))
  have Hb2 : Hid (∀ o o' : Obj, Below w.heap.size w ((w.alloc o).alloc o')) := fun o o' => ((Below.refl _ _).alloc (Nat.le_refl _) o).alloc (by simp) o'
  have HG : Hid (∀ wx, Below w.heap.size w wx → Calls Try.prog 17 #[.agg #[.int .i64 n, x]] wx fun e w' => e = .returned (.bool (gB n E)) ∧ Below wx.heap.size wx w') := fun wx hb => spec_GraphOk_any N n x E wx (HX.out wx hb) (by have := hb.size; omega)
  have HH : Hid (∀ v wx, Below w.heap.size w wx → Calls Try.prog 72 #[y, .int .i64 v] wx fun e w' => e = .returned (.bool (hasB l v)) ∧ wx = w') := fun v wx hb => l9has_any N y l v wx (HY.out wx hb)
  obtain ⟨iE, hiE, hz0, hz1, hz2⟩ := info_parts infoE
  obtain ⟨a, cap, rfl, hlc, hcm, -, -⟩ := hx
  obtain ⟨ya, yc, rfl, hlc', hcm', -, -⟩ := hy
  unfold maxLen at hcm hcm'
  show Calls _ _ _ _ fun e w' => ∃ u, e = .returned (.tuple #[.agg #[.int .i64 (partN n E l), u], .bool (partB n E l)]) ∧ EOwn w' w.heap.size u (partA n E l) ∧ Below w.heap.size w w'
  by_cases hok : partB n E l = true
  rotate_left
  · have hok' : partB n E l = false := by simpa using hok
    have ha0 : partA n E l = [] := by simp [partA, hok']
    have hn0 : partN n E l = 0 := by simp [partN, hok']
    rw [hok', ha0, hn0]
    have hcs : gB n E = false ∨ (gB n E = true ∧ (20 : Int) < (l.length : Int)) := by
      unfold partB at hok'
      cases hg : gB n E with
      | false => exact .inl rfl
      | true =>
        rw [hg] at hok'
        simp at hok'
        exact .inr ⟨rfl, by omega⟩
    clear hok hok' ha0 hn0 HX HY HH
    generalize E.length = ll at *
    rcases hcs with hg | ⟨hg, hll⟩
    all_goals
      rw [hg] at HG
      go_enter Try.func43, Try.ntmps43
      go_wp2_with fail
      refine (HG.out _ (Hb2.out _ _)).mono ?_
      rintro e w1 ⟨rfl, b1⟩
      obtain ⟨h1, h2, h3, h4⟩ := two_after b1
      obtain ⟨t0, t1, tf⟩ := row2 h2
      have tf0 := tf 0
      have tf1 := tf 1
      have hrow := row2 (set2_heap (j := 0) (.int .i64 0) (.slice none 0 0) h2)
      simp only [set2, Nat.zero_add] at hrow
      have Hrow := hide' hrow
      have hgr := set2_grown w1 (w.heap.size + 1) 0 (.int .i64 0) (.slice none 0 0)
      have HB := hide' (h3.grown hgr (by omega) (by intro k hk; simp at hk; omega))
      clear b1 h1 h2 h3 tf hrow hgr
      go_wp2_with fail
      obtain ⟨u0, u1, _⟩ := Hrow.out
      refine bodyPost_ret (v := .tuple #[.agg #[.int .i64 0, .slice none 0 0], .bool false]) (by simp [results, Try.results43, go_sem, u0, u1]) rfl ?_
      exact ⟨_, rfl, EOwn.nil _ _, HB.out⟩
  have hpb : gB n E = true ∧ l.length ≤ 20 := by
    unfold partB at hok
    simpa using hok
  obtain ⟨hg, hll⟩ := hpb
  have hll' : ¬ (20 : Int) < (l.length : Int) := by omega
  obtain ⟨-, -, hel, -⟩ := gB_iff.1 hg
  have HPa : Hid (partA n E l = E.filter (keepE l)) := by show _ = _; simp [partA, hok]
  have HPn : Hid (partN n E l = n) := by show _ = _; simp [partN, hok]
  rw [hg] at HG
  rw [hok, HPn.out]
  clear hg hok HY HPn
  go_enter Try.func43, Try.ntmps43
  go_wp2_with fail
  refine (HG.out _ (Hb2.out _ _)).mono ?_
  rintro e w1 ⟨rfl, b1⟩
  obtain ⟨h1, h2, h3, h4⟩ := two_after b1
  obtain ⟨g0, g1, -⟩ := row2 h1
  have hI0 : Hid (FSt w (.cells #[.int .i64 n, .slice a E.length cap] 25) (.cells #[.int .i64 0, .slice none 0 0] 25) w1.heap.size n ((E.take 0).filter (keepE l)) (.slice none 0 0) (w1.alloc (.cells #[.int .i64 n, .slice none 0 0] 25))) :=
    ⟨(Below.heap_alloc w1 _ _ (by omega)).trans h1, (Below.heap_alloc w1 _ _ (by omega)).trans h2, h3.alloc (by omega) _, h4, (MapKept.heap_alloc w1 _).1, EOwn.nil _ _⟩
  clear b1 h1 h2 HG
  go_wp2_with fail
  go_loopw [7] (fun i wr => ∃ j : Nat, i = .int .i64 j ∧ j ≤ E.length ∧ ∃ u, Hid (FSt w (.cells #[.int .i64 n, .slice a E.length cap] 25) (.cells #[.int .i64 0, .slice none 0 0] 25) w1.heap.size n ((E.take j).filter (keepE l)) u wr)) (fun i _ => E.length - (intOf i).toNat)
  case atStart => exact ⟨0, rfl, Nat.zero_le _, _, hI0⟩
  case round =>
    clear hI0 g0 g1
    obtain ⟨j, rfl, hj, u, hF⟩ := hrel
    obtain ⟨h1, h2, h3, h4', h5, h6⟩ := hF.out
    obtain ⟨g0, g1, -⟩ := row2 h1
    obtain ⟨ua, uc, rfl⟩ := h6.form
    obtain ⟨r0, r1, rf⟩ := row2 h5
    have hfl := filter_len (keepE l) E j
    have hR : w1.heap.size < wr.heap.size := (Array.getElem?_eq_some_iff.1 h5).1
    by_cases hjl : j < E.length
    · have hjl' : (j : Int) < (E.length : Int) := by omega
      obtain ⟨b, off, rfl, hbN, q0, q1⟩ := (HX.out wr h3).at hjl
      have hfs := filter_succ (keepE l) E j hjl
      have HC0 := hide' (HH.out E[j].1 wr h3)
      have HC1 := hide' (HH.out E[j].2 wr h3)
      have hke : keepE l E[j] = (hasB l E[j].1 && hasB l E[j].2) := rfl
      rw [hke] at hfs
      by_cases c0 : hasB l E[j].1 = true
      rotate_left
      · have c0' : hasB l E[j].1 = false := by simpa using c0
        rw [c0'] at hfs HC0
        simp at hfs
        have HN : Hid (FSt w (.cells #[.int .i64 n, .slice (some ⟨b, off, none⟩) E.length cap] 25) (.cells #[.int .i64 0, .slice none 0 0] 25) w1.heap.size n ((E.take (j + 1)).filter (keepE l)) (.slice ua ((E.take j).filter (keepE l)).length uc) wr) := by rw [hfs]; exact hF.out
        clear hF h1 h2 h5 h6 hfs c0 c0' hke HC1
        generalize E[j].1 = ef at *
        generalize E[j].2 = et at *
        go_wp2_with fail
        refine HC0.out.mono ?_
        rintro e w2 ⟨rfl, e2⟩
        obtain rfl := e2
        go_wp2
        go_roundw
        case rel => exact ⟨j + 1, by go_num, by omega, _, HN⟩
        case measure => simp [intOf]; omega
      by_cases c1 : hasB l E[j].2 = true
      rotate_left
      · have c1' : hasB l E[j].2 = false := by simpa using c1
        rw [c0, c1'] at hfs
        rw [c0] at HC0
        rw [c1'] at HC1
        simp at hfs
        have HN : Hid (FSt w (.cells #[.int .i64 n, .slice (some ⟨b, off, none⟩) E.length cap] 25) (.cells #[.int .i64 0, .slice none 0 0] 25) w1.heap.size n ((E.take (j + 1)).filter (keepE l)) (.slice ua ((E.take j).filter (keepE l)).length uc) wr) := by rw [hfs]; exact hF.out
        clear hF h1 h2 h5 h6 hfs c0 c1 c1' hke
        generalize E[j].1 = ef at *
        generalize E[j].2 = et at *
        go_wp2_with fail
        refine HC0.out.mono ?_
        rintro e w2 ⟨rfl, e2⟩
        obtain rfl := e2
        go_wp2_with fail
        refine HC1.out.mono ?_
        rintro e w2 ⟨rfl, e2⟩
        obtain rfl := e2
        go_wp2
        go_roundw
        case rel => exact ⟨j + 1, by go_num, by omega, _, HN⟩
        case measure => simp [intOf]; omega
      rw [c0, c1] at hfs
      rw [c0] at HC0
      rw [c1] at HC1
      simp at hfs
      have HOw : Hid (∀ o, (wr.alloc o).ownsRow (w1.heap.size + 1) 36 2 (.slice ua ((E.take j).filter (keepE l)).length uc) ((E.take j).filter (keepE l)).length (eC ((E.take j).filter (keepE l)))) := fun o => World.ownsRow.alloc h6 o
      have HAd : Hid (∀ o1 g cp w6, w6.ownsRow (w1.heap.size + 1) 36 2 (.slice (some ⟨g, 0, none⟩) (((E.take j).filter (keepE l)).length + 1) cp) (((E.take j).filter (keepE l)).length + 1) (eC ((E.take j).filter (keepE l)) ++ [.int .i64 E[j].1, .int .i64 E[j].2]) → (wr.alloc o1).grownBy w6 (Value.slice ua ((E.take j).filter (keepE l)).length uc).ownBlock → (w6.cell? ⟨w1.heap.size, 1, none⟩ = some (.slice ua ((E.take j).filter (keepE l)).length uc) ∧ w6.frozen? ⟨w1.heap.size, 1, none⟩ = false) ∧ FSt w (.cells #[.int .i64 n, .slice (some ⟨b, off, none⟩) E.length cap] 25) (.cells #[.int .i64 0, .slice none 0 0] 25) w1.heap.size n ((E.take (j + 1)).filter (keepE l)) (.slice (some ⟨g, 0, none⟩) (((E.take j).filter (keepE l)).length + 1) cp) (w6.setCell ⟨w1.heap.size, 1, none⟩ (.slice (some ⟨g, 0, none⟩) (((E.take j).filter (keepE l)).length + 1) cp))) := fun o1 g cp w6 k1 k2 => by
        have := fSt_add (e := E[j]) hF.out k1 k2
        rw [hfs]
        exact this
      have G1o : ∀ o, (wr.alloc o).cell? ⟨w.heap.size, 1, none⟩ = some (.slice (some ⟨b, off, none⟩) E.length cap) := fun o => (World.cell?_of_block (Below.heap_alloc wr o w.heap.size (by omega))).trans g1
      have R1o : ∀ o, (wr.alloc o).cell? ⟨w1.heap.size, 1, none⟩ = some (.slice ua ((E.take j).filter (keepE l)).length uc) := fun o => (World.cell?_of_block (Below.heap_alloc wr o w1.heap.size (by omega))).trans r1
      have Q0o : ∀ o, (wr.alloc o).cell? ⟨b, off + j * 2, none⟩ = some (.int .i64 E[j].1) := fun o => (World.cell?_of_block (Below.heap_alloc wr o b (by omega))).trans q0
      have Q1o : ∀ o, (wr.alloc o).cell? ⟨b, off + j * 2 + 1, none⟩ = some (.int .i64 E[j].2) := fun o => (World.cell?_of_block (Below.heap_alloc wr o b (by omega))).trans q1
      clear hF h1 h2 h5 h6 hfs c0 c1 hke
      generalize (E.take j).filter (keepE l) = fl at *
      generalize hfn : fl.length = fn at *
      generalize E[j].1 = ef at *
      generalize E[j].2 = et at *
      go_wp2_with fail
      refine HC0.out.mono ?_
      rintro e w2 ⟨rfl, e2⟩
      obtain rfl := e2
      go_wp2_with fail
      refine HC1.out.mono ?_
      rintro e w2 ⟨rfl, e2⟩
      obtain rfl := e2
      go_wp2_with fail
      go_region_law (first
        | (refine step_append_lies _ (by rfl) (.tmp 46) (.tmp 52) 23 (by rfl) (w1.heap.size + 1) 36 iE _ 2 16 Try.underlying23 hiE hz0 hz1 hz2 rfl (by decide) (.slice ua fn uc) fn (eC fl) (by rfl) (by first | exact HOw.out _ | exact (HOw.out _).drew) ⟨wr.heap.size, 0, none⟩ 1 1 [.int .i64 ef, .int .i64 et] (by rfl) (by rfl) (World.news_of_block (cs := #[.int .i64 ef, .int .i64 et]) (t := 36) (fr := (0, 0)) (heap_alloc_new wr _)) (by simp [Value.oneCell']) (by omega) (by unfold maxLen; omega) (by omega) (by simp; omega) (wr.heap.size + 1) (by simp) ?_; intro g6 cp6 w6 hown6 hg6 hat6 hlt6; have hg7 : (wr.alloc (.cells #[.int .i64 ef, .int .i64 et] 36)).grownBy w6 (Value.slice ua fn uc).ownBlock := ⟨hg6.os, hg6.tape, hg6.output, hg6.size, hg6.block⟩; obtain ⟨⟨s1, s2⟩, hF6⟩ := HAd.out _ _ _ _ hown6 hg7; replace hF6 := hide' hF6; clear hown6 hg6 hg7 hat6 hlt6))
      all_goals go_wp2
      all_goals exact ⟨⟨j + 1, by go_num, by omega, _, hF6⟩, by simp [intOf]; omega⟩
    · have hjl' : ¬ (j : Int) < (E.length : Int) := by omega
      obtain rfl : j = E.length := by omega
      rw [List.take_length] at hF h6 hfl
      rw [List.take_length] at r1
      obtain ⟨t0, t1, tf⟩ := row2 h2
      have tf0 := tf 0
      have tf1 := tf 1
      have hrow := row2 (set2_heap (j := 0) (.int .i64 n) (.slice ua (E.filter (keepE l)).length uc) h2)
      simp only [set2, Nat.zero_add] at hrow
      have Hrow := hide' hrow
      have hgr := set2_grown wr (w.heap.size + 1) 0 (.int .i64 n) (.slice ua (E.filter (keepE l)).length uc)
      have HB := hide' (h3.grown hgr (by omega) (by intro k hk; simp at hk; omega))
      have HO := hide' ((h6.far hgr (fun q hq => by have := (h6.lt q hq).1; simp; omega)).down (base' := w.heap.size) (by omega))
      clear hF h1 h2 h5 h6 tf hrow hgr
      generalize hfn : (E.filter (keepE l)).length = fn at *
      go_wp2_with fail
      obtain ⟨u0, u1, _⟩ := Hrow.out
      refine bodyPost_ret (v := .tuple #[.agg #[.int .i64 n, .slice ua fn uc], .bool true]) (by simp [results, Try.results43, go_sem, u0, u1]) rfl ?_
      exact ⟨_, rfl, by rw [HPa.out]; exact HO.out, HB.out⟩
end Go.Proofs.Ytpnohgncnmbkdaa
/-
  withEdges of the program, as Part calls it: the edges that are wanted, in their order.
-/
namespace Go.Proofs.Ytpnohgncnmbkdaa
open Go.RowKit
set_option linter.unusedVariables false
set_option linter.unusedSimpArgs false

theorem fSt_onP {w wr w' : World} {o o' : Obj} {R : Nat} {n : Int} {l : List Edg} {u : Value} (h : FSt w o o' R n l u wr) (hb : Below wr.heap.size wr w') : FSt w o o' R n l u w' := by
  obtain ⟨h1, h2, h3, h4, h5, h6⟩ := h
  have hl : ∀ b o, wr.heap[b]? = some o → w'.heap[b]? = some o := fun b o h => (hb.block b (Array.getElem?_eq_some_iff.1 h).1).trans h
  exact ⟨hl _ _ h1, hl _ _ h2, Below.on h3 hb, h4, hl _ _ h5, h6.on hb⟩

set_option maxHeartbeats 6400000 in
set_option maxRecDepth 100000 in
theorem withEdgesP_any (N : Nat) (n : Int) (x c1 : Value) (E : List Edg) (p : Edg → Bool) (w : World) (hx : ESeg (fun b => b < N) w x E) (hN : N ≤ w.heap.size) (hel : E.length ≤ 400)
    (HW : ∀ j (h : j < E.length) wx, Below w.heap.size w wx → Calls Try.prog 73 #[.agg #[.int .i64 E[j].1, .int .i64 E[j].2], c1] wx fun e w' => e = .returned (.bool (p E[j])) ∧ Below wx.heap.size wx w') :
    Calls Try.prog 60 #[.agg #[.int .i64 n, x], .func (.func 73) #[] #[c1]] w fun e w' => ∃ u, e = .returned (.agg #[.int .i64 n, u]) ∧ EOwn w' w.heap.size u (E.filter p) ∧ Below w.heap.size w w' := by
  have HX : Hid (∀ wx, Below w.heap.size w wx → ESeg (fun b => b < N) wx x E) := fun wx hb => hx.agree (agree_below (hb.mono hN))
  have HWh := hide' HW
  obtain ⟨iE, hiE, hz0, hz1, hz2⟩ := info_parts infoE
  obtain ⟨a, cap, rfl, hlc, hcm, -, -⟩ := hx
  unfold maxLen at hcm
  have hI0 : Hid (FSt w (.cells #[.int .i64 n, .slice a E.length cap] 25) (.cells #[.int .i64 0, .slice none 0 0] 25) (w.heap.size + 2) n ((E.take 0).filter p) (.slice none 0 0) (((w.alloc (.cells #[.int .i64 n, .slice a E.length cap] 25)).alloc (.cells #[.int .i64 0, .slice none 0 0] 25)).alloc (.cells #[.int .i64 n, .slice none 0 0] 25))) := by
    obtain ⟨k1, k2, k3, k4, k5⟩ := three_boxes w (.cells #[.int .i64 n, .slice a E.length cap] 25) (.cells #[.int .i64 0, .slice none 0 0] 25) (.cells #[.int .i64 n, .slice none 0 0] 25)
    exact ⟨k1, k2, k5, Nat.le_refl _, k3, EOwn.nil _ _⟩
  clear HW
  go_enter Try.func60, Try.ntmps60
  go_wp2_with fail
  go_loopw [14] (fun i wr => ∃ j : Nat, i = .int .i64 j ∧ j ≤ E.length ∧ ∃ u, Hid (FSt w (.cells #[.int .i64 n, .slice a E.length cap] 25) (.cells #[.int .i64 0, .slice none 0 0] 25) (w.heap.size + 2) n ((E.take j).filter p) u wr)) (fun i _ => E.length - (intOf i).toNat)
  case atStart => exact ⟨0, rfl, Nat.zero_le _, _, hI0⟩
  case round =>
    clear hI0
    obtain ⟨j, rfl, hj, u, hF⟩ := hrel
    obtain ⟨h1, h2, h3, h4', h5, h6⟩ := hF.out
    obtain ⟨ua, uc, rfl⟩ := h6.form
    have hfl := filter_len p E j
    have hR : w.heap.size + 2 < wr.heap.size := (Array.getElem?_eq_some_iff.1 h5).1
    by_cases hjl : j < E.length
    · have hjl' : (j : Int) < (E.length : Int) := by omega
      obtain ⟨b, off, rfl, hbN, q0, q1⟩ := (HX.out wr h3).at hjl
      have hfs := filter_succ p E j hjl
      have bA : Below wr.heap.size wr (wr.alloc (.cells #[.int .i64 E[j].1, .int .i64 E[j].2] 36)) := (Below.refl _ _).alloc (Nat.le_refl _) _
      have HC := hide' (HWh.out j hjl (wr.alloc (.cells #[.int .i64 E[j].1, .int .i64 E[j].2] 36)) (Below.on h3 bA))
      have hFa := fSt_onP hF.out bA
      have HE0 : Hid (∀ w2, Below (wr.alloc (.cells #[.int .i64 E[j].1, .int .i64 E[j].2] 36)).heap.size (wr.alloc (.cells #[.int .i64 E[j].1, .int .i64 E[j].2] 36)) w2 → w2.heap[wr.heap.size]? = some (.cells #[.int .i64 E[j].1, .int .i64 E[j].2] 36)) := fun w2 h => box_row h
      cases hp : p E[j] with
      | false =>
        rw [hp] at HC hfs
        simp at hfs
        have HN : Hid (∀ w2, Below (wr.alloc (.cells #[.int .i64 E[j].1, .int .i64 E[j].2] 36)).heap.size (wr.alloc (.cells #[.int .i64 E[j].1, .int .i64 E[j].2] 36)) w2 → FSt w (.cells #[.int .i64 n, .slice (some ⟨b, off, none⟩) E.length cap] 25) (.cells #[.int .i64 0, .slice none 0 0] 25) (w.heap.size + 2) n ((E.take (j + 1)).filter p) (.slice ua ((E.take j).filter p).length uc) w2) := fun w2 h => by rw [hfs]; exact fSt_onP hFa h
        clear hF h1 h2 h5 h6 hfs hFa HE0 hp bA
        generalize E[j].1 = ef at *
        generalize E[j].2 = et at *
        go_wp2_with fail
        refine HC.out.mono ?_
        rintro e w2 ⟨rfl, b2⟩
        have HN' := hide' (HN.out w2 b2)
        clear b2 HN
        go_wp2
        go_roundw
        case rel => exact ⟨j + 1, by go_num, by omega, _, HN'⟩
        case measure => simp [intOf]; omega
      | true =>
        rw [hp] at HC hfs
        simp at hfs
        have HN : Hid (∀ w2, Below (wr.alloc (.cells #[.int .i64 E[j].1, .int .i64 E[j].2] 36)).heap.size (wr.alloc (.cells #[.int .i64 E[j].1, .int .i64 E[j].2] 36)) w2 → FSt w (.cells #[.int .i64 n, .slice (some ⟨b, off, none⟩) E.length cap] 25) (.cells #[.int .i64 0, .slice none 0 0] 25) (w.heap.size + 2) n ((E.take j).filter p) (.slice ua ((E.take j).filter p).length uc) w2) := fun w2 h => fSt_onP hFa h
        have HAd : Hid (∀ w2, Below (wr.alloc (.cells #[.int .i64 E[j].1, .int .i64 E[j].2] 36)).heap.size (wr.alloc (.cells #[.int .i64 E[j].1, .int .i64 E[j].2] 36)) w2 → ∀ o1 g cp w6, w6.ownsRow (w.heap.size + 2 + 1) 36 2 (.slice (some ⟨g, 0, none⟩) (((E.take j).filter p).length + 1) cp) (((E.take j).filter p).length + 1) (eC ((E.take j).filter p) ++ [.int .i64 E[j].1, .int .i64 E[j].2]) → (w2.alloc o1).grownBy w6 (Value.slice ua ((E.take j).filter p).length uc).ownBlock → (w6.cell? ⟨w.heap.size + 2, 1, none⟩ = some (.slice ua ((E.take j).filter p).length uc) ∧ w6.frozen? ⟨w.heap.size + 2, 1, none⟩ = false) ∧ FSt w (.cells #[.int .i64 n, .slice (some ⟨b, off, none⟩) E.length cap] 25) (.cells #[.int .i64 0, .slice none 0 0] 25) (w.heap.size + 2) n ((E.take (j + 1)).filter p) (.slice (some ⟨g, 0, none⟩) (((E.take j).filter p).length + 1) cp) (w6.setCell ⟨w.heap.size + 2, 1, none⟩ (.slice (some ⟨g, 0, none⟩) (((E.take j).filter p).length + 1) cp))) := fun w2 h o1 g cp w6 k1 k2 => by
          have := fSt_add (e := E[j]) (HN.out w2 h) k1 k2
          rw [hfs]
          exact this
        clear hF h1 h2 h5 h6 hfs hFa hp bA
        generalize (E.take j).filter p = fl at *
        generalize hfn : fl.length = fn at *
        generalize E[j].1 = ef at *
        generalize E[j].2 = et at *
        go_wp2_with fail
        refine HC.out.mono ?_
        rintro e w2 ⟨rfl, b2⟩
        have hF2 := HN.out w2 b2
        obtain ⟨y0, y1, -⟩ := row2 (HE0.out w2 b2)
        obtain ⟨r0, r1, -⟩ := row2 hF2.2.2.2.2.1
        have HAd' := hide' (HAd.out w2 b2)
        have HOw : Hid (∀ o, (w2.alloc o).ownsRow (w.heap.size + 2 + 1) 36 2 (.slice ua fn uc) fn (eC fl)) := fun o => by
          have h := World.ownsRow.alloc hF2.2.2.2.2.2 o
          rw [hfn] at h
          exact h
        have hR2 : w.heap.size + 2 < w2.heap.size := (Array.getElem?_eq_some_iff.1 hF2.2.2.2.2.1).1
        clear b2 hF2 HAd HN HE0 HC
        go_wp2_with (at_builtin; refine wpList_append_lies _ rfl (.tmp 22) (.tmp 24) 23 (by rfl) (w.heap.size + 2 + 1) 36 iE _ 2 16 Try.underlying23 hiE hz0 hz1 hz2 rfl (by decide) (.slice ua fn uc) fn (eC fl) (by rfl) (HOw.out _) ⟨w2.heap.size, 0, none⟩ 1 1 [.int .i64 ef, .int .i64 et] (by rfl) (by rfl) (World.news_of_block (cs := #[.int .i64 ef, .int .i64 et]) (t := 36) (fr := (0, 0)) (heap_alloc_new w2 _)) (by simp [Value.oneCell']) (by omega) (by unfold maxLen; omega) (by omega) (by simp; omega) (w2.heap.size + 1) (by simp) ?_; intro g6 cp6 w6 hown6 hg6 hat6 hlt6; obtain ⟨⟨s1, s2⟩, hF6⟩ := HAd'.out _ _ _ _ hown6 hg6; replace hF6 := hide' hF6; clear hown6 hg6 hat6 hlt6)
        go_wp2
        go_roundw
        case rel => exact ⟨j + 1, by go_num, by omega, _, hF6⟩
        case measure => simp [intOf]; omega
    · have hjl' : ¬ (j : Int) < (E.length : Int) := by omega
      obtain rfl : j = E.length := by omega
      obtain ⟨r0, r1, rf⟩ := row2 h5
      rw [List.take_length] at hF h6 hfl
      rw [List.take_length] at r1
      obtain ⟨t0, t1, tf⟩ := row2 h2
      have tf0 := tf 0
      have tf1 := tf 1
      have hrow := row2 (set2_heap (j := 0) (.int .i64 n) (.slice ua (E.filter p).length uc) h2)
      simp only [set2, Nat.zero_add] at hrow
      have Hrow := hide' hrow
      have hgr := set2_grown wr (w.heap.size + 1) 0 (.int .i64 n) (.slice ua (E.filter p).length uc)
      have HB := hide' (h3.grown hgr (by omega) (by intro k hk; simp at hk; omega))
      have HO := hide' ((h6.far hgr (fun q hq => by have := (h6.lt q hq).1; simp; omega)).down (base' := w.heap.size) (by omega))
      clear hF h1 h2 h5 h6 tf hrow hgr
      generalize hfn : (E.filter p).length = fn at *
      go_wp2_with fail
      obtain ⟨u0, u1, _⟩ := Hrow.out
      refine bodyPost_ret (v := .agg #[.int .i64 n, .slice ua fn uc]) (by simp [results, Try.results60, go_sem, u0, u1]) rfl ?_
      exact ⟨_, rfl, HO.out, HB.out⟩
end Go.Proofs.Ytpnohgncnmbkdaa
