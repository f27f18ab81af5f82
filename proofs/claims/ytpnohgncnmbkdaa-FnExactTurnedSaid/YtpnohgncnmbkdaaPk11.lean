/-
  Texts that a law leans on, one behind the other; no statement is proved here.
-/
import Derived.Test.YtpnohgncnmbkdaaPk1
import Derived.Deep.RegionHeld3
import Derived.Deep.Cut
import Derived.Test.YtpnohgncnmbkdaaPk9
/-
  A row of numbers copied: toIntS.
-/
namespace Go.Proofs.Ytpnohgncnmbkdaa
open Go.RowKit
set_option linter.unusedVariables false
set_option linter.unusedSimpArgs false

set_option maxHeartbeats 1600000 in
theorem toIntS_any (N : Nat) (x : Value) (l : List Int) (w : World) (hx : NSeg (fun b => b < N) w x l) (hN : N ≤ w.heap.size) (hn : l.length ≤ 1048576) :
    Calls Try.prog 37 #[x] w fun e w' => ∃ u, e = .returned u ∧ NOwn w' w.heap.size u l ∧ Below w.heap.size w w' := by
  have HC := hide' hx
  obtain ⟨a, cap, rfl, hlc, hcm, -, -⟩ := hx
  unfold maxLen at hcm
  obtain ⟨i0, hi, hz0, hz1, hz2⟩ := info_parts infoI
  go_enter Try.func37, Try.ntmps37
  go_wp2_with (refine wpList_make_full _ rfl _ _ 27 rfl w.heap.size 3 i0 (.int .i64 0) 1 Try.underlying27 hi hz0 hz1 .i64 .i64 _ _ l.length rfl rfl rfl rfl (by rw [hz2]; omega) (by unfold maxLen; omega) (Nat.le_refl _) ?_; intro w1 hown hgrow)
  have hK0 : NPart w1 w.heap.size l.length l 0 := by
    rcases hown.2 with ⟨h1, _⟩ | ⟨g, cp, cur, h1, _, h3, _, _, h6, _⟩
    · simp at h1
    · simp only [Value.slice.injEq, Option.some.injEq, Addr.mk.injEq, and_true, true_and] at h1
      obtain ⟨e1, e2⟩ := h1
      subst e1
      exact ⟨cur, h3, by omega, by intro i _ h; omega⟩
  have hb1 : Below w.heap.size w w1 := (Below.refl _ _).grown hgrow (Nat.le_refl _) (by simp)
  clear hown hgrow
  go_loopw [4] (fun i wr => ∃ k : Nat, k ≤ l.length ∧ i = .int .i64 k ∧ NPart wr w.heap.size l.length l k ∧ Below w.heap.size w wr) (fun i _ => l.length - (intOf i).toNat)
  case atStart => exact ⟨0, Nat.zero_le _, rfl, hK0, hb1⟩
  case round =>
    obtain ⟨k, hk, rfl, hK, hbel⟩ := hrel
    clear hK0 hb1
    by_cases hlt : k < l.length
    · have hlt' : (k : Int) < (l.length : Int) := by omega
      obtain ⟨b, off, rfl, _, q0⟩ := (HC.out.agree (agree_below (hbel.mono hN))).at hlt
      have hcells : ∃ cur : Array Value, wr.heap[w.heap.size]? = some (.cells cur 3 (0, 0)) ∧ cur.size = l.length := by
        obtain ⟨cur, h1, h2, _⟩ := hK
        exact ⟨cur, h1, h2⟩
      obtain ⟨cur, hcur, hcs⟩ := hcells
      obtain ⟨x0, hx0⟩ : ∃ x, wr.cell? ⟨w.heap.size, k, none⟩ = some x := by
        rw [cell_of_row wr _ k cur _ (0, 0) hcur]
        exact ⟨_, Array.getElem?_eq_getElem (by omega)⟩
      have f0 := frozen_of_row wr _ k cur _ hcur
      have hL := hide' (nPart_next hK hlt rfl)
      have hb3 := hide' (hbel.grown (grown1 wr w.heap.size k (.int .i64 l[k])) hbel.size (by intro j hj; simp at hj; omega))
      clear hcur hK
      generalize l[k] = lv at *
      go_wp2
      go_roundw
      case rel => exact ⟨k + 1, by omega, by go_num, hL.out, hb3.out⟩
      case measure => simp [intOf]; omega
    · have hkn : k = l.length := by omega
      have hkn' : ¬ (k : Int) < (l.length : Int) := by omega
      rw [hkn] at hK
      have HF := hide' (nPart_own (base := w.heap.size) hK (Nat.le_refl _) (by unfold maxLen; omega))
      clear hkn hK
      go_wp2
      go_ret
      exact ⟨_, rfl, HF.out, hbel⟩
end Go.Proofs.Ytpnohgncnmbkdaa
/-
  FnExactReach answers true, once both calls' ends are known; written by wip/gen/graph.py.
-/
namespace Go.Proofs.Ytpnohgncnmbkdaa
open Go.RowKit
set_option linter.unusedVariables false
set_option linter.unusedSimpArgs false

set_option maxHeartbeats 6400000 in
set_option maxRecDepth 100000 in
theorem walk_WgRe (n : Int) (x : Value) (E : List Edg) (R : List Int) (w : World) (hx : ESeg (fun b => b < w.heap.size) w x E) (y : Value) (l : List Int) (hy : NSeg (fun b => b < w.heap.size) w y l) (hRl : R.length ≤ 1048576)
    (HSp : ∀ u y wx, ESeg (fun b => b < wx.heap.size) wx u E → NSeg (fun b => b < wx.heap.size) wx y l → Calls Try.prog 36 #[.agg #[.int .i64 n, u], y] wx (fun e w' => ∃ u, e = .returned u ∧ NOwn w' wx.heap.size u R ∧ Below wx.heap.size wx w'))
    (HIm : ∀ u y wx, ESeg (fun b => b < wx.heap.size) wx u E → NSeg (fun b => b < wx.heap.size) wx y l → Below w.heap.size w wx → Calls Try.prog 23 #[.agg #[.int .i64 n, u], y] wx (fun e w' => ∃ u, e = .returned u ∧ NOwn w' wx.heap.size u R ∧ Below wx.heap.size wx w')) :
    Calls Try.prog 9 #[.agg #[.int .i64 n, x], y] w fun e w' => e = .returned (.bool true) ∧ Below w.heap.size w w' := by
  have Hb : Hid (∀ o : Obj, Below w.heap.size w (w.alloc o)) := fun o => (Below.refl _ _).alloc (Nat.le_refl _) o
  have Hbox : Hid (∀ o wx, Below (w.alloc o).heap.size (w.alloc o) wx → wx.heap[w.heap.size]? = some o) := fun o wx h => box_row h
  have HX : Hid (∀ wx, Below w.heap.size w wx → ESeg (fun b => b < w.heap.size) wx x E) := fun wx hb => hx.agree (agree_below hb)
  have HS : Hid (∀ wx, Below w.heap.size w wx → Calls Try.prog 27 #[.agg #[.int .i64 n, x], .int .i64 1048576] wx fun e w' => e = .returned (.int .i64 (lessN 1048576 E.length)) ∧ Below wx.heap.size wx w') := fun wx hb => szGraph_any _ n x E wx (HX.out wx hb) (fun b hb' => Nat.lt_of_lt_of_le hb' hb.size)
  have HT : Hid (E.length ≤ 1048576 → ∀ wx, Below w.heap.size w wx → Calls Try.prog 28 #[.agg #[.int .i64 n, x]] wx fun e w' => ∃ u, e = .returned (.agg #[.int .i64 n, u]) ∧ EOwn w' wx.heap.size u E ∧ Below wx.heap.size wx w') := fun hl wx hb => toGraph_any w.heap.size n x E wx (HX.out wx hb) hb.size hl
  have HEq : Hid (∀ (y z : Value) wx, ESeg (fun b => b < wx.heap.size) wx y E → ESeg (fun b => b < wx.heap.size) wx z E → Calls Try.prog 29 #[.agg #[.int .i64 n, y], .agg #[.int .i64 n, z]] wx fun e w' => e = .returned (.bool true) ∧ Below wx.heap.size wx w') := fun y z wx h1 h2 => eqGraph_same wx.heap.size n y z E wx h1 h2 (Nat.le_refl _)
  have HTn : Hid (l.length ≤ 1048576 → ∀ wx, Below w.heap.size w wx → Calls Try.prog 37 #[y] wx fun e w' => ∃ u, e = .returned u ∧ NOwn w' wx.heap.size u l ∧ Below wx.heap.size wx w') := fun hl wx hb => toIntS_any w.heap.size y l wx (hy.agree (agree_below hb)) hb.size hl
  have HSp' := hide' HSp
  have HIm' := hide' HIm
  obtain ⟨a, cap, rfl, -⟩ := hx
  obtain ⟨ya, yc, rfl, hyl, hym, -, -⟩ := hy
  unfold maxLen at hym
  clear HSp HIm HX
  by_cases hyz : (1048576 : Int) < (l.length : Int)
  · clear HS HT HEq HSp' HIm' HTn
    generalize E.length = ll at *
    go_enter Try.func9, Try.ntmps9
    go_wp2
    go_ret
    exact ⟨rfl, Hb.out _⟩
  have HTn' := hide' (HTn.out (by omega))
  have hyl2 : l.length ≤ 1048576 := by omega
  clear HTn
  by_cases hz : (1048576 : Int) < (E.length : Int)
  · have hl : lessN 1048576 E.length = -1 := if_pos hz
    rw [hl] at HS
    clear hl HT HEq HSp' HIm' HTn'
    generalize E.length = ll at *
    go_enter Try.func9, Try.ntmps9
    go_wp2_with fail
    refine (HS.out _ (Hb.out _)).mono ?_
    rintro e w1 ⟨rfl, b1⟩
    have B1 := Below.on (Hb.out _) b1
    clear b1
    go_wp2
    go_ret
    exact ⟨rfl, B1⟩
  have hl : lessN 1048576 E.length = 1048576 - E.length := if_neg hz
  rw [hl] at HS
  have HT' := hide' (HT.out (by omega))
  have hll : E.length ≤ 1048576 := by omega
  have hz0 : 0 ≤ (1048576 : Int) - (E.length : Int) := by omega
  have hz1 : (1048576 : Int) - (E.length : Int) ≤ 1048576 := by omega
  clear hl hz HT
  generalize hEl : E.length = ll at *
  generalize hYl : l.length = yl at *
  generalize (1048576 : Int) - (ll : Int) = lft at *
  go_enter Try.func9, Try.ntmps9
  go_wp2_with fail
  refine (HS.out _ (Hb.out _)).mono ?_
  rintro e w1 ⟨rfl, b1⟩
  obtain ⟨y0, y1, -⟩ := row2 (Hbox.out _ _ b1)
  have B1 := hide' b1
  have HT1 := hide' (HT'.out w1 (Below.on (Hb.out _) b1))
  clear b1 HS
  go_wp2_with fail
  refine HT1.out.mono ?_
  rintro e w2a ⟨u, rfl, hO2, b2⟩
  have B2a := hide' (Below.on B1.out b2)
  have HN2 := hide' (HTn'.out w2a (Below.on (Hb.out _) B2a.out))
  have HO2 := hide' hO2
  obtain ⟨ua, uc, hu⟩ := hO2.form
  rw [hEl] at hu
  subst hu
  clear hO2 b2 HT1 B1 y0 y1
  go_wp2_with fail
  refine HN2.out.mono ?_
  rintro e w2 ⟨yv, rfl, hY2, b2⟩
  have hS2 := hide' (HSp'.out _ yv w2 (HO2.out.on b2).read hY2.read)
  have B2 := hide' (Below.on B2a.out b2)
  obtain ⟨yva, yvc, hyv⟩ := hY2.form
  rw [hYl] at hyv
  subst hyv
  clear hY2 b2 HN2 HO2 B2a
  go_wp2_with fail
  refine hS2.out.mono ?_
  rintro e w3 ⟨Wv, rfl, hW3, b3⟩
  have hBw := hW3.lt
  obtain ⟨Wa, Wc, hWf⟩ := hW3.form
  have HW3 := hide' hW3
  have HBw : Hid (∀ k, Wv.ownBlock = some k → k < w3.heap.size) := fun k hk => (hBw k hk).2
  have B3 := hide' (Below.on B2.out b3)
  subst hWf
  clear b3 hS2 B2 hW3 hBw
  generalize hRn : R.length = rn at *
  obtain ⟨y0, y1, -⟩ := row2 (Hbox.out _ _ B3.out)
  have HT3 := hide' (HT'.out w3 (Below.on (Hb.out _) B3.out))
  go_wp2_with fail
  refine HT3.out.mono ?_
  rintro e w4 ⟨v, rfl, hO4, b4⟩
  obtain ⟨va, vc, hvf⟩ := hO4.form
  rw [hEl] at hvf
  subst hvf
  have bal : Below w4.heap.size w4 (w4.alloc (.cells #[.int .i64 n, .slice va ll vc] 25)) := (Below.refl _ _).alloc (Nat.le_refl _) _
  have B4 := hide' (Below.on (Below.on B3.out b4) bal)
  have HN4 := hide' (HTn'.out _ (Below.on (Hb.out _) B4.out))
  have HO4 := hide' (hO4.on bal)
  have hx4 := (MapKept.heap_alloc w4 (.cells #[.int .i64 n, .slice va ll vc] 25)).1
  have HBx : Hid (∀ k, (Value.slice va ll vc).ownBlock = some k → w3.heap.size ≤ k ∧ k < w4.heap.size) := hO4.lt
  have hz34 : w3.heap.size ≤ w4.heap.size := b4.size
  have HW4 := hide' ((HW3.out.on b4).on bal)
  have Hx4 : Hid (∀ wx, Below (w4.alloc (.cells #[.int .i64 n, .slice va ll vc] 25)).heap.size (w4.alloc (.cells #[.int .i64 n, .slice va ll vc] 25)) wx → wx.heap[w4.heap.size]? = some (.cells #[.int .i64 n, .slice va ll vc] 25)) := fun wx hb => box_row hb
  clear hO4 b4 bal HT3 y0 y1 hx4 HW3
  go_wp2_with fail
  refine HN4.out.mono ?_
  rintro e w4b ⟨xv, rfl, hX1, b4b⟩
  have hs4 : (w4.alloc (.cells #[.int .i64 n, .slice va ll vc] 25)).heap.size = w4.heap.size + 1 := by simp
  have HBy : Hid (∀ k, xv.ownBlock = some k → w4.heap.size + 1 ≤ k ∧ k < w4b.heap.size) := fun k hk => by have := hX1.lt k hk; rw [hs4] at this; exact this
  have hz4b : w4.heap.size + 1 ≤ w4b.heap.size := by have := b4b.size; rw [hs4] at this; exact this
  obtain ⟨xva, xvc, hxv⟩ := hX1.form
  rw [hYl] at hxv
  subst hxv
  have B4b := hide' (Below.on B4.out b4b)
  have hI4 := hide' (HIm'.out _ _ w4b (HO4.out.on b4b).read hX1.read (Below.on (Hb.out _) B4b.out))
  have HO4b := hide' (HO4.out.on b4b)
  have HW4b := hide' (HW4.out.on b4b)
  have HY4 := hide' hX1
  have hx4b := Hx4.out _ b4b
  have Hx4b := hide' hx4b
  obtain ⟨v0, v1, -⟩ := row2 hx4b
  clear b4b hX1 HN4 HO4 HW4 B4 hx4b Hx4
  go_wp2_with fail
  refine hI4.out.mono ?_
  rintro e w5 ⟨Gv, rfl, hG5, b5⟩
  have hBg := hG5.lt
  obtain ⟨Ga, Gc, hGf⟩ := hG5.form
  rw [hRn] at hGf
  subst hGf
  have HBg : Hid (∀ k, (Value.slice Ga rn Gc).ownBlock = some k → w4b.heap.size ≤ k ∧ k < w5.heap.size) := hBg
  have hW5 := HW4b.out.on b5
  have HY5 := hide' (HY4.out.on b5)
  have hz4b5 : w4b.heap.size ≤ w5.heap.size := b5.size
  have hEK := hide' (eqIntS_same w5.heap.size _ _ R w5 hG5.read hW5.read (Nat.le_refl _))
  have HG5 := hide' hG5
  have HW5 := hide' hW5
  have B5 := hide' (Below.on B4b.out b5)
  have HO5 := hide' (HO4b.out.on b5)
  have Hx5 := hide' ((b5.block w4.heap.size (by omega)).trans Hx4b.out)
  clear b5 hI4 HO4b B4b hG5 hW5 hBg HW4b HY4 Hx4b v0 v1
  go_wp2_with fail
  refine hEK.out.mono ?_
  rintro e w6 ⟨rfl, b6⟩
  have B6 := hide' (Below.on B5.out b6)
  have HO6 := hide' (HO5.out.on b6)
  have HG6 := hide' (HG5.out.on b6)
  have HW6 := hide' (HW5.out.on b6)
  have HY6 := hide' (HY5.out.on b6)
  have hz56 : w5.heap.size ≤ w6.heap.size := b6.size
  have hx6 := (b6.block w4.heap.size ((Array.getElem?_eq_some_iff.1 Hx5.out).1)).trans Hx5.out
  obtain ⟨v0, v1, -⟩ := row2 hx6
  have Hx6 := hide' hx6
  clear b6 hEK HO5 HG5 HW5 HY5 B5 hx6 Hx5
  obtain ⟨y0, y1, -⟩ := row2 (Hbox.out _ _ B6.out)
  have HTd : Hid (Calls Try.prog 28 #[.agg #[.int .i64 n, .slice a ll cap]] w6.drew fun e w7 => ∃ za zc, e = .returned (.agg #[.int .i64 n, .slice za ll zc]) ∧ (w7.cell? ⟨w.heap.size, 0, none⟩ = some (.int .i64 n) ∧ w7.cell? ⟨w.heap.size, 1, none⟩ = some (.slice a ll cap) ∧ w7.cell? ⟨w4.heap.size, 0, none⟩ = some (.int .i64 n) ∧ w7.cell? ⟨w4.heap.size, 1, none⟩ = some (.slice va ll vc)) ∧ Hid (Calls Try.prog 29 #[.agg #[.int .i64 n, .slice va ll vc], .agg #[.int .i64 n, .slice za ll zc]] w7 fun e w8 => e = .returned (.bool true) ∧ (w8.cell? ⟨w.heap.size, 0, none⟩ = some (.int .i64 n) ∧ w8.cell? ⟨w.heap.size, 1, none⟩ = some (.slice a ll cap) ∧ w8.cell? ⟨w4.heap.size, 0, none⟩ = some (.int .i64 n) ∧ w8.cell? ⟨w4.heap.size, 1, none⟩ = some (.slice va ll vc)) ∧ Hid (Below w6.heap.size w6 w8))) := by
    refine (HT'.out w6.drew (Below.on (Hb.out _) B6.out).drew).mono ?_
    rintro e w7 ⟨z, rfl, hO7, b7⟩
    obtain ⟨za, zc, hzf⟩ := hO7.form
    rw [hEl] at hzf
    subst hzf
    have b67 : Below w6.heap.size w6 w7 := Below.on (Below.refl _ w6).drew b7
    have hkp : ∀ wy, Below w6.heap.size w6 wy → (wy.cell? ⟨w.heap.size, 0, none⟩ = some (.int .i64 n) ∧ wy.cell? ⟨w.heap.size, 1, none⟩ = some (.slice a ll cap) ∧ wy.cell? ⟨w4.heap.size, 0, none⟩ = some (.int .i64 n) ∧ wy.cell? ⟨w4.heap.size, 1, none⟩ = some (.slice va ll vc)) := fun wy hb => by
      obtain ⟨f0, f1, -⟩ := row2 (Hbox.out _ _ (Below.on B6.out hb))
      obtain ⟨f2, f3, -⟩ := row2 ((hb.block w4.heap.size ((Array.getElem?_eq_some_iff.1 Hx6.out).1)).trans Hx6.out)
      exact ⟨f0, f1, f2, f3⟩
    refine ⟨za, zc, rfl, hkp _ b67, ?_⟩
    exact (HEq.out _ _ w7 (HO6.out.on b67).read hO7.read).mono fun e w8 h => ⟨h.1, hkp _ (Below.on b67 h.2), Below.on b67 h.2⟩
  go_wp2_with fail
  go_region_held3 (fun wx => wx.cell? ⟨w.heap.size, 0, none⟩ = some (.int .i64 n) ∧ wx.cell? ⟨w.heap.size, 1, none⟩ = some (.slice a ll cap) ∧ wx.cell? ⟨w4.heap.size, 0, none⟩ = some (.int .i64 n) ∧ wx.cell? ⟨w4.heap.size, 1, none⟩ = some (.slice va ll vc)) (go_keep) (first
    | (go_at_call 28; refine HTd.out.mono ?_; rintro e w7 ⟨za, zc, rfl, ⟨i0, i1, i2, i3⟩, hE7⟩)
    | (go_at_call 29; refine hE7.out.mono ?_; rintro e w8 ⟨rfl, ⟨j0, j1, j2, j3⟩, hb8⟩)
    | fail)
  have HO8 := hide' (HO6.out.on hb8.out)
  have HG8 := hide' (HG6.out.on hb8.out)
  have HW8 := hide' (HW6.out.on hb8.out)
  have B8 := hide' (Below.on B6.out hb8.out)
  have HBk : Hid ((w.alloc (.cells #[.int .i64 n, .slice a ll cap] 45)).heap.size ≤ w3.heap.size) := B3.out.size
  have HY8 := hide' (HY6.out.on hb8.out)
  have hx8 := hide' ((hb8.out.block w4.heap.size (by omega)).trans Hx6.out)
  have hz68 : w6.heap.size ≤ w8.heap.size := hb8.out.size
  have HN8 := hide' (HTn'.out w8 (Below.on (Hb.out _) B8.out))
  clear y0 y1 v0 v1 i0 i1 i2 i3 hE7 HTd HO6 HG6 HW6 B6 HY6 j0 j1 j2 j3
  go_wp2_with fail
  refine HN8.out.mono ?_
  rintro e w8a ⟨qv, rfl, hQ8, b8a⟩
  obtain ⟨qa, qc, hqv⟩ := hQ8.form
  rw [hYl] at hqv
  subst hqv
  have hEy := hide' (eqIntS_same w8a.heap.size _ _ l w8a (HY8.out.on b8a).read hQ8.read (Nat.le_refl _))
  have B8a := hide' b8a
  clear hQ8 b8a HN8
  go_wp2_with fail
  refine hEy.out.mono ?_
  rintro e w8b ⟨rfl, b8b⟩
  have bb8 := Below.on B8a.out b8b
  have HO8b := hide' (HO8.out.on bb8)
  have HG8b := hide' (HG8.out.on bb8)
  have HW8b := hide' (HW8.out.on bb8)
  have HY8b := hide' (HY8.out.on bb8)
  have B8b := hide' (Below.on B8.out bb8)
  have hx8b := (bb8.block w4.heap.size (by omega)).trans hx8.out
  obtain ⟨v0, v1, -⟩ := row2 hx8b
  clear B8a b8b bb8 HO8 HG8 HW8 HY8 B8 hx8 hx8b hEy
  have hM8 := hide' (markGraph_any _ n _ E 1 w8b HO8b.out (by omega) (by omega))
  rw [hEl] at hM8
  go_wp2_with fail
  refine hM8.out.mono ?_
  rintro e w9a ⟨rfl, -, hg9a⟩
  have hG9a := hide' (HG8b.out.far hg9a (fun k hk e' => by have h1 := HBg.out k hk; have h2 := HBx.out k e'; omega))
  have hW9a := hide' (HW8b.out.far hg9a (fun k hk e' => by have h1 := HBw.out k hk; have h2 := HBx.out k e'; omega))
  have hY9a := HY8b.out.far hg9a (fun k hk e' => by have h1 := HBy.out k hk; have h2 := HBx.out k e'; omega)
  have B9a := hide' (B8b.out.grown hg9a B8b.out.size (fun k hk => by have h2 := HBx.out k hk; have h3 := HBk.out; omega))
  obtain ⟨kk, hkk⟩ : ∃ kk : Nat, (kk : Int) = (1 : Int) + (ll : Int) * 2 := ⟨1 + ll * 2, by omega⟩
  have hMy := hide' (markIntS_any _ _ l kk w9a hY9a (by omega) (by omega))
  rw [hYl, hkk] at hMy
  clear hg9a hY9a HG8b HW8b HY8b B8b hM8 HO8b v0 v1
  have hk1 : 0 ≤ (1 : Int) + (ll : Int) * 2 ∧ (1 : Int) + (ll : Int) * 2 ≤ 4194304 := by omega
  generalize (1 : Int) + (ll : Int) * 2 = kq at *
  go_wp2_with fail
  refine hMy.out.mono ?_
  rintro e w9 ⟨rfl, -, hg9⟩
  have hG9 := hG9a.out.far hg9 (fun k hk e' => by have h1 := HBg.out k hk; have h2 := HBy.out k e'; omega)
  have hW9 := hW9a.out.far hg9 (fun k hk e' => by have h1 := HBw.out k hk; have h2 := HBy.out k e'; omega)
  have B9 := hide' (B9a.out.grown hg9 B9a.out.size (fun k hk => by have h2 := HBy.out k hk; have h3 := HBk.out; omega))
  have hE9 := hide' (eqIntS_same w9.heap.size _ _ R w9 hG9.read hW9.read (Nat.le_refl _))
  have HG9 := hide' hG9
  have HW9 := hide' hW9
  clear hg9 hG9 hW9 hG9a hW9a B9a hMy
  have hk0 : ¬ kq + (yl : Int) < 0 := by omega
  go_wp2_with fail
  refine hE9.out.mono ?_
  rintro e w10 ⟨rfl, b10⟩
  have hM10 := hide' (markIntS_any _ _ R 1 w10 (HG9.out.on b10) (by omega) (by omega))
  have HW10 := hide' (HW9.out.on b10)
  have B10 := hide' (Below.on B9.out b10)
  rw [hRn] at hM10
  clear b10 hE9 HG9 HW9 B9
  go_wp2_with fail
  refine hM10.out.mono ?_
  rintro e w11 ⟨rfl, hG11, hg11⟩
  have HW11 := hide' (HW10.out.far hg11 (fun k hk e' => by have h1 := HBw.out k hk; have h2 := HBg.out k e'; omega))
  have B11 := hide' (B10.out.grown hg11 B10.out.size (fun k hk => by have h2 := HBg.out k hk; have h3 := HBk.out; omega))
  have HG11 := hide' hG11
  have hH11 := hide' (heldIntS_any w11.heap.size _ 1 rn w11 hG11.read (by omega) (by omega))
  clear hG11 hg11 hM10 HW10 B10
  have hrn0 : ¬ (1 : Int) + (rn : Int) < 0 := by omega
  go_wp2_with fail
  refine hH11.out.mono ?_
  rintro e w12 ⟨rfl, e12⟩
  obtain rfl := e12
  obtain ⟨y0, y1, -⟩ := row2 (Hbox.out _ _ B11.out)
  have HT12 := hide' (HT'.out w11 (Below.on (Hb.out _) B11.out))
  go_wp2_with fail
  refine HT12.out.mono ?_
  rintro e w13 ⟨z, rfl, hO13, b13⟩
  have B13a := hide' (Below.on B11.out b13)
  have HN13 := hide' (HTn'.out w13 (Below.on (Hb.out _) B13a.out))
  have HO13 := hide' hO13
  have HG13a := hide' (HG11.out.on b13)
  have HW13a := hide' (HW11.out.on b13)
  obtain ⟨za', zc', hzf⟩ := hO13.form
  rw [hEl] at hzf
  subst hzf
  clear hO13 b13 HT12 HG11 HW11 B11 y0 y1 hH11
  go_wp2_with fail
  refine HN13.out.mono ?_
  rintro e w13b ⟨q3, rfl, hQ13, b13b⟩
  have B13 := hide' (Below.on B13a.out b13b)
  have hI13 := hide' (HIm'.out _ q3 w13b (HO13.out.on b13b).read hQ13.read (Below.on (Hb.out _) B13.out))
  have HG13 := hide' (HG13a.out.on b13b)
  have HW13 := hide' (HW13a.out.on b13b)
  obtain ⟨q3a, q3c, hq3⟩ := hQ13.form
  rw [hYl] at hq3
  subst hq3
  clear hQ13 b13b HN13 HO13 HG13a HW13a B13a
  go_wp2_with fail
  refine hI13.out.mono ?_
  rintro e w14 ⟨Hv, rfl, hH14, b14⟩
  obtain ⟨Ha, Hc, hHf⟩ := hH14.form
  rw [hRn] at hHf
  subst hHf
  have hE14 := hide' (eqIntS_same w14.heap.size _ _ R w14 hH14.read (HW13.out.on b14).read (Nat.le_refl _))
  have HG14 := hide' (HG13.out.on b14)
  have B14 := hide' (Below.on B13.out b14)
  clear hH14 b14 hI13 HG13 HW13 B13
  go_wp2_with fail
  refine hE14.out.mono ?_
  rintro e w15 ⟨rfl, b15⟩
  have hH15 := hide' (heldIntS_any w15.heap.size _ 1 rn w15 (HG14.out.on b15).read (by omega) (by omega))
  have B15 := hide' (Below.on B14.out b15)
  clear b15 hE14 HG14 B14
  go_wp2_with fail
  refine hH15.out.mono ?_
  rintro e w16 ⟨rfl, e16⟩
  obtain rfl := e16
  have HB := hide' (Below.on (Hb.out _) B15.out)
  go_wp2
  go_ret
  exact ⟨rfl, HB.out⟩
end Go.Proofs.Ytpnohgncnmbkdaa
/-
  carry of the program over bools.
-/
namespace Go.Proofs.Ytpnohgncnmbkdaa
open Go.RowKit
set_option linter.unusedVariables false
set_option linter.unusedSimpArgs false

set_option maxHeartbeats 6400000 in
set_option maxRecDepth 100000 in
theorem carryB_any (N n D : Nat) (x : Value) (E : List Edg) (mt : Bool → Bool → Bool) (s : List Bool) (w : World) (hx : ESeg (fun b => b < N) w x E) (hN : N ≤ D) (hn : n ≤ 20) (hE : InG n E) (hs : s.length = n) (hrow : VRow Value.bool 4 D s w)
    (HM : ∀ k j, k < n → (hj : j < E.length) → ∀ wx, Calls Try.prog 59 #[(.bool ((((E.take j).foldl (setE mt false) (itE (setE mt false) E k s)).getD E[j].2.toNat false))), (.bool ((((E.take j).foldl (setE mt false) (itE (setE mt false) E k s)).getD E[j].1.toNat false)))] wx fun e w' => e = .returned (.bool ((mt (((E.take j).foldl (setE mt false) (itE (setE mt false) E k s)).getD E[j].2.toNat false) (((E.take j).foldl (setE mt false) (itE (setE mt false) E k s)).getD E[j].1.toNat false)))) ∧ wx = w') :
    Calls Try.prog 58 #[.agg #[.int .i64 (n : Int), x], .slice (some ⟨D, 0, none⟩) n n, .func (.func 59) #[] #[]] w fun e w' => e = .returned (.tuple #[]) ∧ VRow Value.bool 4 D (itE (setE mt false) E n s) w' ∧ w.grownBy w' (some D) := by
  have hDw := hrow.lt
  have HX := hide' hx
  have HE := hide' hE
  have HMh := hide' HM
  have HD := hide' hDw
  have hS0 := hide' (fun o => CSt.begin hrow o)
  obtain ⟨a, cap, rfl, hlc, hcm, -, -⟩ := hx
  unfold maxLen at hcm
  have hnn : (0 : Int) ≤ (n : Int) := by omega
  have hn20 : (n : Int) ≤ 20 := by omega
  clear hE HM hrow hDw
  go_enter Try.func58, Try.ntmps58
  go_wp2_with fail
  go_loopw [10] (fun i wr => ∃ k : Nat, i = .int .i64 k ∧ k ≤ n ∧ Hid (CSt Value.bool 4 D w (.cells #[.int .i64 (n : Int), .slice a E.length cap] 25) (itE (setE mt false) E k s) wr)) (fun i _ => n - (intOf i).toNat)
  case atStart => exact ⟨0, rfl, Nat.zero_le _, hS0.out _⟩
  case round =>
    clear hS0
    obtain ⟨k, rfl, hk, hS⟩ := hrel
    obtain ⟨g0, g1, -⟩ := row2 hS.out.2.1
    by_cases hkn : k < n
    rotate_left
    · have hkn' : ¬ (k : Int) < (n : Int) := by omega
      obtain rfl : k = n := by omega
      have HF := hide' (And.intro hS.out.1 hS.out.2.2.1)
      clear hS
      go_wp2
      go_end0
      exact ⟨rfl, HF.out⟩
    have hkn' : (k : Int) < (n : Int) := by omega
    have hdl : (itE (setE mt false) E k s).length = n := by rw [itE_len, hs]
    have hS2 : Hid (CSt Value.bool 4 D w (.cells #[.int .i64 (n : Int), .slice a E.length cap] 25) ((E.take 0).foldl (setE mt false) (itE (setE mt false) E k s)) wr) := hS.out
    have HNx : Hid (E.foldl (setE mt false) (itE (setE mt false) E k s) = itE (setE mt false) E (k + 1) s) := rfl
    have HMk := hide' (fun j => HMh.out k j hkn)
    clear hS HMh
    generalize itE (setE mt false) E k s = dk at *
    go_wp2_with fail
    go_loopw [15] (fun i wz => ∃ j : Nat, i = .int .i64 j ∧ j ≤ E.length ∧ Hid (CSt Value.bool 4 D w (.cells #[.int .i64 (n : Int), .slice a E.length cap] 25) ((E.take j).foldl (setE mt false) dk) wz)) (fun i _ => E.length - (intOf i).toNat)
    case atStart => exact ⟨0, rfl, Nat.zero_le _, hS2⟩
    case round =>
      clear hS2 g0 g1
      obtain ⟨j, rfl, hj, hS⟩ := hrel
      obtain ⟨g0, g1, -⟩ := row2 hS.out.2.1
      by_cases hjl : j < E.length
      rotate_left
      · have hjl' : ¬ (j : Int) < (E.length : Int) := by omega
        obtain rfl : j = E.length := by omega
        have HN := hS
        rw [List.take_length, HNx.out] at HN
        clear hS
        go_wp2
        go_roundw
        case rel => exact ⟨k + 1, by go_num, by omega, HN⟩
        case measure => simp [intOf]; omega
      have hjl' : (j : Int) < (E.length : Int) := by omega
      have hag := hS.out.agree hN HD.out
      obtain ⟨b, off, rfl, _, q0, q1⟩ := (HX.out.agree hag).at hjl
      have he := HE.out E[j] (List.getElem_mem hjl)
      obtain ⟨m, hm⟩ : ∃ m : Nat, E[j].1 = (m : Int) := ⟨E[j].1.toNat, by omega⟩
      obtain ⟨m1, hm'⟩ : ∃ m : Nat, E[j].2 = (m : Int) := ⟨E[j].2.toNat, by omega⟩
      have hrl : ((E.take j).foldl (setE mt false) dk).length = n := by rw [foldS_len, hdl]
      have hs : (E.take (j + 1)).foldl (setE mt false) dk = ((E.take j).foldl (setE mt false) dk).set m1 (mt (((E.take j).foldl (setE mt false) dk).getD m1 false) (((E.take j).foldl (setE mt false) dk).getD m false)) := by
        rw [foldE_succ (setE mt false) E dk j hjl]
        show ((E.take j).foldl (setE mt false) dk).set E[j].2.toNat (mt (((E.take j).foldl (setE mt false) dk).getD E[j].2.toNat false) (((E.take j).foldl (setE mt false) dk).getD E[j].1.toNat false)) = _
        rw [hm, hm', Int.toNat_natCast, Int.toNat_natCast]
      have HM1 := hide' (HMk.out j hjl)
      rw [hm] at q0
      rw [hm'] at q1
      rw [hm, hm', Int.toNat_natCast, Int.toNat_natCast] at HM1
      have hm1 : (0 : Int) ≤ (m : Int) := by omega
      have hm2 : (m : Int) < (n : Int) := by omega
      have hm3 : (0 : Int) ≤ (m1 : Int) := by omega
      have hm4 : (m1 : Int) < (n : Int) := by omega
      have hS' := hS.out.alloc (.cells #[.int .i64 (m : Int), .int .i64 (m1 : Int)] 36)
      obtain ⟨e0, e1, -⟩ := row2 (MapKept.heap_alloc wr (.cells #[.int .i64 (m : Int), .int .i64 (m1 : Int)] 36)).1
      obtain ⟨r0, -⟩ := hS'.1.at (m := m) (by omega) false
      obtain ⟨t0, t1⟩ := hS'.1.at (m := m1) (by omega) false
      have HN := hide' (hS'.set HD.out m1 (mt (((E.take j).foldl (setE mt false) dk).getD m1 false) (((E.take j).foldl (setE mt false) dk).getD m false))).drew
      rw [← hs] at HN
      have hDz : D ≠ wr.heap.size := by have := hS.out.1.lt; omega
      (try dsimp only at r0 t0)
      clear hS hS' hag hm hm' hs he
      generalize ((E.take j).foldl (setE mt false) dk).getD m1 false = x1 at *
      generalize ((E.take j).foldl (setE mt false) dk).getD m false = x0 at *
      go_wp2_with fail
      generalize wr.alloc (.cells #[.int .i64 (m : Int), .int .i64 (m1 : Int)] 36) = W at *
      generalize wr.heap.size = eb at *
      have HSt : Hid (∀ v, (W.drew.setCell ⟨D, m1, none⟩ v).cell? ⟨eb, 0, none⟩ = some (.int .i64 (m : Int)) ∧ (W.drew.setCell ⟨D, m1, none⟩ v).cell? ⟨eb, 1, none⟩ = some (.int .i64 (m1 : Int))) := fun v => by
        have hh := Below.heap_setCell W.drew ⟨D, m1, none⟩ v eb (fun h => hDz h.symm)
        exact ⟨(World.cell?_of_block hh).trans e0, (World.cell?_of_block hh).trans e1⟩
      clear q0 q1 g0 g1 HX HE HMk HNx
      refine wp_region_held_drew (S := (fun wx => wx.cell? ⟨eb, 0, none⟩ = some (.int .i64 (m : Int)) ∧ wx.cell? ⟨eb, 1, none⟩ = some (.int .i64 (m1 : Int)))) (by kernel_rfl) ⟨e0, e1⟩ (fun hHeld => ?_)
      refine take_yes (i := 0) 19 (v := ?_) rfl rfl (by kernel_rfl) (by kernel_rfl) (by kernel_rfl) (fun _ _ _ h => h) (by kernel_rfl) hHeld ?_ ?_
      rotate_left
      focus (intro w hSw; (try dsimp only at hSw); go_simp; (try with_reducible rfl))
      simp only [Act.put, List.setIfInBounds_toArray, List.set_cons_zero, List.set_cons_succ]
      refine take_yes (i := 1) 20 (v := ?_) rfl rfl (by kernel_rfl) (by kernel_rfl) (by kernel_rfl) (fun _ _ _ h => h) (by kernel_rfl) hHeld ?_ ?_
      rotate_left
      focus (intro w hSw; (try dsimp only at hSw); go_simp; (try with_reducible rfl))
      simp only [Act.put, List.setIfInBounds_toArray, List.set_cons_zero, List.set_cons_succ]
      refine take_yes (i := 2) 21 (v := ?_) rfl rfl (by kernel_rfl) (by kernel_rfl) (by kernel_rfl) (fun _ _ _ h => h) (by kernel_rfl) hHeld ?_ ?_
      rotate_left
      focus (intro w hSw; (try dsimp only at hSw); go_simp; (try with_reducible rfl))
      simp only [Act.put, List.setIfInBounds_toArray, List.set_cons_zero, List.set_cons_succ]
      refine take_yes (i := 3) 22 (v := ?_) rfl rfl (by kernel_rfl) (by kernel_rfl) (by kernel_rfl) (fun _ _ _ h => h) (by kernel_rfl) hHeld ?_ ?_
      rotate_left
      focus (intro w hSw; (try dsimp only at hSw); go_simp; (try with_reducible rfl))
      simp only [Act.put, List.setIfInBounds_toArray, List.set_cons_zero, List.set_cons_succ]
      refine take_yes (i := 4) 23 (v := ?_) rfl rfl (by kernel_rfl) (by kernel_rfl) (by kernel_rfl) (fun _ _ _ h => h) (by kernel_rfl) hHeld ?_ ?_
      rotate_left
      focus (intro w hSw; (try dsimp only at hSw); go_simp; (try with_reducible rfl))
      simp only [Act.put, List.setIfInBounds_toArray, List.set_cons_zero, List.set_cons_succ]
      refine take_yes (i := 5) 24 (v := ?_) rfl rfl (by kernel_rfl) (by kernel_rfl) (by kernel_rfl) (fun _ _ _ h => h) (by kernel_rfl) hHeld ?_ ?_
      rotate_left
      focus (intro w hSw; (try dsimp only at hSw); go_simp; (try with_reducible rfl))
      simp only [Act.put, List.setIfInBounds_toArray, List.set_cons_zero, List.set_cons_succ]
      refine take_yes (i := 6) 25 (v := ?_) rfl rfl (by kernel_rfl) (by kernel_rfl) (by kernel_rfl) (fun _ _ _ h => h) (by kernel_rfl) hHeld ?_ ?_
      rotate_left
      focus (intro w hSw; (try dsimp only at hSw); go_simp; (try with_reducible rfl))
      simp only [Act.put, List.setIfInBounds_toArray, List.set_cons_zero, List.set_cons_succ]
      refine take_yes (i := 7) 26 (v := ?_) rfl rfl (by kernel_rfl) (by kernel_rfl) (by kernel_rfl) (fun _ _ _ h => h) (by kernel_rfl) hHeld ?_ ?_
      rotate_left
      focus (intro w hSw; (try dsimp only at hSw); go_simp; (try with_reducible rfl))
      simp only [Act.put, List.setIfInBounds_toArray, List.set_cons_zero, List.set_cons_succ]
      refine take_yes (i := 9) 28 (v := ?_) rfl rfl (by kernel_rfl) (by kernel_rfl) (by kernel_rfl) (fun _ _ _ h => h) (by kernel_rfl) hHeld ?_ ?_
      rotate_left
      focus (intro w hSw; (try dsimp only at hSw); go_simp; (try with_reducible rfl))
      simp only [Act.put, List.setIfInBounds_toArray, List.set_cons_zero, List.set_cons_succ]
      refine take_yes (i := 10) 29 (v := ?_) rfl rfl (by kernel_rfl) (by kernel_rfl) (by kernel_rfl) (fun _ _ _ h => h) (by kernel_rfl) hHeld ?_ ?_
      rotate_left
      focus (intro w hSw; (try dsimp only at hSw); go_simp; (try with_reducible rfl))
      simp only [Act.put, List.setIfInBounds_toArray, List.set_cons_zero, List.set_cons_succ]
      refine take_yes (i := 11) 30 (v := ?_) rfl rfl (by kernel_rfl) (by kernel_rfl) (by kernel_rfl) (fun _ _ _ h => h) (by kernel_rfl) hHeld ?_ ?_
      rotate_left
      focus (intro w hSw; (try dsimp only at hSw); go_simp; (try with_reducible rfl))
      simp only [Act.put, List.setIfInBounds_toArray, List.set_cons_zero, List.set_cons_succ]
      refine take_yes (i := 12) 31 (v := ?_) rfl rfl (by kernel_rfl) (by kernel_rfl) (by kernel_rfl) (fun _ _ _ h => h) (by kernel_rfl) hHeld ?_ ?_
      rotate_left
      focus (intro w hSw; (try dsimp only at hSw); go_simp; (try with_reducible rfl))
      simp only [Act.put, List.setIfInBounds_toArray, List.set_cons_zero, List.set_cons_succ]
      refine wpAnyH_ready (rs := [8, 13]) (by kernel_rfl) (by simp) ?_
      refine AllReadyH.cons rfl (fun K hK => ?_) (AllReadyH.cons rfl (fun K hK => ?_) AllReadyH.nil)
      all_goals
        go_simp
        refine hK.out _ _ hHeld (fun hHeld => ?_)
        clear hK
        (try simp only [Act.put, List.setIfInBounds_toArray, List.set_cons_zero, List.set_cons_succ])
      focus
        refine wpAnyH_ready (rs := [13]) (by kernel_rfl) (by simp) ?_
        refine AllReadyH.cons rfl (fun K hK => ?_) AllReadyH.nil
        go_simp
        refine hK.out _ _ hHeld (fun hHeld => ?_)
        clear hK
        (try simp only [Act.put, List.setIfInBounds_toArray, List.set_cons_zero, List.set_cons_succ])
      rotate_left
      focus
        refine wpAnyH_ready (rs := [8]) (by kernel_rfl) (by simp) ?_
        refine AllReadyH.cons rfl (fun K hK => ?_) AllReadyH.nil
        go_simp
        refine hK.out _ _ hHeld (fun hHeld => ?_)
        clear hK
        (try simp only [Act.put, List.setIfInBounds_toArray, List.set_cons_zero, List.set_cons_succ])
      rotate_left
      all_goals
        refine wpAnyH_ready (rs := [14]) (by kernel_rfl) (by simp) ?_
        refine AllReadyH.cons rfl (fun K hK => ?_) AllReadyH.nil
        go_simp
        go_at_call 59
        refine (HM1.out _).mono ?_
        rintro e w5 ⟨rfl, e5⟩
        obtain rfl := e5
        have hS := hHeld
        go_wp2_with fail
        refine hK.out _ _ hS (fun hHeld => ?_)
        clear hK
        (try simp only [Act.put, List.setIfInBounds_toArray, List.set_cons_zero, List.set_cons_succ])
        refine take_yes (i := 15) 34 (v := ?_) rfl rfl (by kernel_rfl) (by kernel_rfl) (by kernel_rfl) (fun _ _ _ h => h) (by kernel_rfl) hHeld ?_ ?_
        rotate_left
        focus (intro w hSw; (try dsimp only at hSw); go_simp; (try with_reducible rfl))
        simp only [Act.put, List.setIfInBounds_toArray, List.set_cons_zero, List.set_cons_succ]
        refine wpAnyH_ready (rs := [16]) (by kernel_rfl) (by simp) ?_
        refine AllReadyH.cons rfl (fun K hK => ?_) AllReadyH.nil
        go_simp
        refine hK.out _ _ (HSt.out _) (fun hHeld => ?_)
        clear hK
        (try simp only [Act.put, List.setIfInBounds_toArray, List.set_cons_zero, List.set_cons_succ])
        refine wpAnyH_done (by kernel_rfl) ?_ _
        go_wp2
        go_roundw
        case rel => exact ⟨j + 1, by go_num, by omega, HN⟩
        case measure => simp [intOf]; omega
end Go.Proofs.Ytpnohgncnmbkdaa
