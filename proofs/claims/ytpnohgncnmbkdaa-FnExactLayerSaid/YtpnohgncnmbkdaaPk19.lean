/-
  Texts that a law leans on, one behind the other; no statement is proved here.
-/
import Derived.Test.YtpnohgncnmbkdaaPk1
import Derived.Deep.RegionHeld3
import Derived.Deep.Cut
import Derived.Test.YtpnohgncnmbkdaaPk8
import Derived.Test.YtpnohgncnmbkdaaPk6
import Derived.Test.YtpnohgncnmbkdaaPk9
/-
  FnExactLayer answers true, once both calls' ends are known; written by wip/gen/graph.py.
-/
namespace Go.Proofs.Ytpnohgncnmbkdaa
open Go.RowKit
set_option linter.unusedVariables false
set_option linter.unusedSimpArgs false

set_option maxHeartbeats 6400000 in
set_option maxRecDepth 100000 in
theorem walk_WgLy (n : Int) (p : Int) (x : Value) (E : List Edg) (R : Int) (w : World) (hx : ESeg (fun b => b < w.heap.size) w x E)
    (HSp : ∀ u wx, ESeg (fun b => b < wx.heap.size) wx u E → Calls Try.prog 40 #[.agg #[.int .i64 n, u], .int .i64 p] wx (fun e w' => e = .returned (.int .i64 R) ∧ Below wx.heap.size wx w'))
    (HIm : ∀ u wx, ESeg (fun b => b < wx.heap.size) wx u E → Below w.heap.size w wx → Calls Try.prog 21 #[.agg #[.int .i64 n, u], .int .i64 p] wx (fun e w' => e = .returned (.int .i64 R) ∧ Below wx.heap.size wx w')) :
    Calls Try.prog 11 #[.agg #[.int .i64 n, x], .int .i64 p] w fun e w' => e = .returned (.bool true) ∧ Below w.heap.size w w' := by
  have Hb : Hid (∀ o : Obj, Below w.heap.size w (w.alloc o)) := fun o => (Below.refl _ _).alloc (Nat.le_refl _) o
  have Hbox : Hid (∀ o wx, Below (w.alloc o).heap.size (w.alloc o) wx → wx.heap[w.heap.size]? = some o) := fun o wx h => box_row h
  have HX : Hid (∀ wx, Below w.heap.size w wx → ESeg (fun b => b < w.heap.size) wx x E) := fun wx hb => hx.agree (agree_below hb)
  have HS : Hid (∀ wx, Below w.heap.size w wx → Calls Try.prog 27 #[.agg #[.int .i64 n, x], .int .i64 1048576] wx fun e w' => e = .returned (.int .i64 (lessN 1048576 E.length)) ∧ Below wx.heap.size wx w') := fun wx hb => szGraph_any _ n x E wx (HX.out wx hb) (fun b hb' => Nat.lt_of_lt_of_le hb' hb.size)
  have HT : Hid (E.length ≤ 1048576 → ∀ wx, Below w.heap.size w wx → Calls Try.prog 28 #[.agg #[.int .i64 n, x]] wx fun e w' => ∃ u, e = .returned (.agg #[.int .i64 n, u]) ∧ EOwn w' wx.heap.size u E ∧ Below wx.heap.size wx w') := fun hl wx hb => toGraph_any w.heap.size n x E wx (HX.out wx hb) hb.size hl
  have HEq : Hid (∀ (y z : Value) wx, ESeg (fun b => b < wx.heap.size) wx y E → ESeg (fun b => b < wx.heap.size) wx z E → Calls Try.prog 29 #[.agg #[.int .i64 n, y], .agg #[.int .i64 n, z]] wx fun e w' => e = .returned (.bool true) ∧ Below wx.heap.size wx w') := fun y z wx h1 h2 => eqGraph_same wx.heap.size n y z E wx h1 h2 (Nat.le_refl _)
  have HSp' := hide' HSp
  have HIm' := hide' HIm
  obtain ⟨a, cap, rfl, -⟩ := hx
  clear HSp HIm HX
  by_cases hz : (1048576 : Int) < (E.length : Int)
  · have hl : lessN 1048576 E.length = -1 := if_pos hz
    rw [hl] at HS
    clear hl HT HEq HSp' HIm'
    generalize E.length = ll at *
    go_enter Try.func11, Try.ntmps11
    go_wp2_with fail
    refine (HS.out _ (Hb.out _)).mono ?_
    rintro e w1 ⟨rfl, b1⟩
    have B1 := Below.on (Hb.out _) b1
    clear b1
    go_wp2
    go_ret
    exact ⟨rfl, B1⟩
  have hl : lessN 1048576 E.length = 1048576 - E.length := if_neg hz
  rw [hl] at HS
  have HT' := hide' (HT.out (by omega))
  have hll : E.length ≤ 1048576 := by omega
  have hz0 : 0 ≤ (1048576 : Int) - (E.length : Int) := by omega
  have hz1 : (1048576 : Int) - (E.length : Int) ≤ 1048576 := by omega
  clear hl hz HT
  generalize hEl : E.length = ll at *
  generalize (1048576 : Int) - (ll : Int) = lft at *
  go_enter Try.func11, Try.ntmps11
  go_wp2_with fail
  refine (HS.out _ (Hb.out _)).mono ?_
  rintro e w1 ⟨rfl, b1⟩
  obtain ⟨y0, y1, -⟩ := row2 (Hbox.out _ _ b1)
  have B1 := hide' b1
  have HT1 := hide' (HT'.out w1 (Below.on (Hb.out _) b1))
  clear b1 HS
  go_wp2_with fail
  refine HT1.out.mono ?_
  rintro e w2 ⟨u, rfl, hO2, b2⟩
  have hS2 := hide' (HSp'.out u w2 hO2.read)
  have B2 := hide' (Below.on B1.out b2)
  obtain ⟨ua, uc, hu⟩ := hO2.form
  rw [hEl] at hu
  subst hu
  clear hO2 b2 HT1 B1 y0 y1
  go_wp2_with fail
  refine hS2.out.mono ?_
  rintro e w3 ⟨rfl, b3⟩
  have B3 := hide' (Below.on B2.out b3)
  clear b3 hS2 B2
  obtain ⟨y0, y1, -⟩ := row2 (Hbox.out _ _ B3.out)
  have HT3 := hide' (HT'.out w3 (Below.on (Hb.out _) B3.out))
  go_wp2_with fail
  refine HT3.out.mono ?_
  rintro e w4 ⟨v, rfl, hO4, b4⟩
  obtain ⟨va, vc, hvf⟩ := hO4.form
  rw [hEl] at hvf
  subst hvf
  have bal : Below w4.heap.size w4 (w4.alloc (.cells #[.int .i64 n, .slice va ll vc] 25)) := (Below.refl _ _).alloc (Nat.le_refl _) _
  have B4 := hide' (Below.on (Below.on B3.out b4) bal)
  have hI4 := hide' (HIm'.out _ _ (hO4.on bal).read (Below.on (Hb.out _) B4.out))
  have HO4 := hide' (hO4.on bal)
  have hx4 := (MapKept.heap_alloc w4 (.cells #[.int .i64 n, .slice va ll vc] 25)).1
  have HBx : Hid (∀ k, (Value.slice va ll vc).ownBlock = some k → w3.heap.size ≤ k ∧ k < w4.heap.size) := hO4.lt
  have hz34 : w3.heap.size ≤ w4.heap.size := b4.size
  have Hx4 : Hid (∀ wx, Below (w4.alloc (.cells #[.int .i64 n, .slice va ll vc] 25)).heap.size (w4.alloc (.cells #[.int .i64 n, .slice va ll vc] 25)) wx → wx.heap[w4.heap.size]? = some (.cells #[.int .i64 n, .slice va ll vc] 25)) := fun wx hb => box_row hb
  clear hO4 b4 bal HT3 y0 y1 hx4
  go_wp2_with fail
  refine hI4.out.mono ?_
  rintro e w5 ⟨rfl, b5⟩
  have B5 := hide' (Below.on B4.out b5)
  have HO5 := hide' (HO4.out.on b5)
  obtain ⟨v0, v1, -⟩ := row2 (Hx4.out _ b5)
  have Hx5 := hide' (Hx4.out _ b5)
  clear b5 hI4 HO4 B4
  obtain ⟨y0, y1, -⟩ := row2 (Hbox.out _ _ B5.out)
  have HTd : Hid (Calls Try.prog 28 #[.agg #[.int .i64 n, .slice a ll cap]] w5.drew fun e w7 => ∃ za zc, e = .returned (.agg #[.int .i64 n, .slice za ll zc]) ∧ (w7.cell? ⟨w.heap.size, 0, none⟩ = some (.int .i64 n) ∧ w7.cell? ⟨w.heap.size, 1, none⟩ = some (.slice a ll cap) ∧ w7.cell? ⟨w4.heap.size, 0, none⟩ = some (.int .i64 n) ∧ w7.cell? ⟨w4.heap.size, 1, none⟩ = some (.slice va ll vc)) ∧ Hid (Calls Try.prog 29 #[.agg #[.int .i64 n, .slice va ll vc], .agg #[.int .i64 n, .slice za ll zc]] w7 fun e w8 => e = .returned (.bool true) ∧ (w8.cell? ⟨w.heap.size, 0, none⟩ = some (.int .i64 n) ∧ w8.cell? ⟨w.heap.size, 1, none⟩ = some (.slice a ll cap) ∧ w8.cell? ⟨w4.heap.size, 0, none⟩ = some (.int .i64 n) ∧ w8.cell? ⟨w4.heap.size, 1, none⟩ = some (.slice va ll vc)) ∧ Hid (Below w5.heap.size w5 w8))) := by
    refine (HT'.out w5.drew (Below.on (Hb.out _) B5.out).drew).mono ?_
    rintro e w7 ⟨z, rfl, hO7, b7⟩
    obtain ⟨za, zc, hzf⟩ := hO7.form
    rw [hEl] at hzf
    subst hzf
    have b67 : Below w5.heap.size w5 w7 := Below.on (Below.refl _ w5).drew b7
    have hkp : ∀ wy, Below w5.heap.size w5 wy → (wy.cell? ⟨w.heap.size, 0, none⟩ = some (.int .i64 n) ∧ wy.cell? ⟨w.heap.size, 1, none⟩ = some (.slice a ll cap) ∧ wy.cell? ⟨w4.heap.size, 0, none⟩ = some (.int .i64 n) ∧ wy.cell? ⟨w4.heap.size, 1, none⟩ = some (.slice va ll vc)) := fun wy hb => by
      obtain ⟨f0, f1, -⟩ := row2 (Hbox.out _ _ (Below.on B5.out hb))
      obtain ⟨f2, f3, -⟩ := row2 ((hb.block w4.heap.size ((Array.getElem?_eq_some_iff.1 Hx5.out).1)).trans Hx5.out)
      exact ⟨f0, f1, f2, f3⟩
    refine ⟨za, zc, rfl, hkp _ b67, ?_⟩
    exact (HEq.out _ _ w7 (HO5.out.on b67).read hO7.read).mono fun e w8 h => ⟨h.1, hkp _ (Below.on b67 h.2), Below.on b67 h.2⟩
  go_wp2_with fail
  go_region_held3 (fun wx => wx.cell? ⟨w.heap.size, 0, none⟩ = some (.int .i64 n) ∧ wx.cell? ⟨w.heap.size, 1, none⟩ = some (.slice a ll cap) ∧ wx.cell? ⟨w4.heap.size, 0, none⟩ = some (.int .i64 n) ∧ wx.cell? ⟨w4.heap.size, 1, none⟩ = some (.slice va ll vc)) (go_keep) (first
    | (go_at_call 28; refine HTd.out.mono ?_; rintro e w7 ⟨za, zc, rfl, ⟨i0, i1, i2, i3⟩, hE7⟩)
    | (go_at_call 29; refine hE7.out.mono ?_; rintro e w8 ⟨rfl, ⟨j0, j1, j2, j3⟩, hb8⟩)
    | fail)
  have HB := hide' (Below.on (Hb.out _) (Below.on B5.out hb8.out))
  go_wp2
  go_ret
  exact ⟨rfl, HB.out⟩
end Go.Proofs.Ytpnohgncnmbkdaa
/-
  Layer of the specification.
-/
namespace Go.Proofs.Ytpnohgncnmbkdaa
open Go.RowKit
set_option linter.unusedVariables false
set_option linter.unusedSimpArgs false

/-- A row of numbers in block D. -/
def NRow (D : Nat) (far : List Int) (w : World) : Prop := w.heap[D]? = some (.cells (iC far).toArray 3 (0, 0))
theorem NRow.at {D : Nat} {far : List Int} {w : World} (h : NRow D far w) {m : Nat} (hm : m < far.length) : w.cell? ⟨D, m, none⟩ = some (.int .i64 (far.getD m 0)) ∧ w.frozen? ⟨D, m, none⟩ = false := by
  refine ⟨?_, frozen_of_row w D m _ _ h⟩
  rw [cell_of_row w D m _ _ _ h]
  simp [iC, hm, List.getD_eq_getElem?_getD]
theorem NRow.set {D : Nat} {far : List Int} {w : World} (h : NRow D far w) (m : Nat) (x : Int) : NRow D (far.set m x) (w.setCell ⟨D, m, none⟩ (.int .i64 x)) := by
  unfold NRow
  rw [heap_setCell_same w D m _ _ _ h]
  simp [iC, List.map_set]

/-- The graph's box, the order (ahead of D), a row of numbers in D. -/
def YSt (w : World) (o : Obj) (D : Nat) (far : List Int) (lv : Value) (L : List Int) (wr : World) : Prop := wr.heap[w.heap.size]? = some o ∧ Below w.heap.size w wr ∧ w.heap.size < D ∧ NRow D far wr ∧ NSeg (fun b => b < D) wr lv L
theorem YSt.on {w wr w' : World} {o : Obj} {D : Nat} {far : List Int} {lv : Value} {L : List Int} (h : YSt w o D far lv L wr) (hb : Below wr.heap.size wr w') : YSt w o D far lv L w' := by
  obtain ⟨h1, h2, h3, h4, h5⟩ := h
  have hD : D < wr.heap.size := (Array.getElem?_eq_some_iff.1 h4).1
  exact ⟨(hb.block _ (by omega)).trans h1, Below.on h2 hb, h3, (hb.block _ hD).trans h4, h5.agree fun b hb' => hb.block b (by omega)⟩
theorem YSt.set {w wr : World} {o : Obj} {D : Nat} {far : List Int} {lv : Value} {L : List Int} (h : YSt w o D far lv L wr) (m : Nat) (x : Int) : YSt w o D (far.set m x) lv L (wr.setCell ⟨D, m, none⟩ (.int .i64 x)) := by
  obtain ⟨h1, h2, h3, h4, h5⟩ := h
  exact ⟨(Below.heap_setCell wr _ _ _ (by show w.heap.size ≠ D; omega)).trans h1, h2.setCell (by show w.heap.size ≤ D; omega) _, h3, h4.set m x, h5.agree fun b hb => Below.heap_setCell wr _ _ _ (by show b ≠ D; omega)⟩

theorem nRow_made {w w1 : World} {base n : Nat} (hown : w1.ownsRow base 3 1 (.slice (some ⟨w.heap.size, 0, none⟩) n n) n (madeCells (Value.cells (.int .i64 0)) (n * 1)).toList) : NRow w.heap.size (List.replicate n 0) w1 := by
  rcases hown.2 with ⟨h1, _⟩ | ⟨g, cp, cur, h1, _, h3, _, _, h6, h7⟩
  · simp at h1
  · simp only [Value.slice.injEq, Option.some.injEq, Addr.mk.injEq, and_true, true_and] at h1
    obtain ⟨e1, e2⟩ := h1
    subst e1
    subst e2
    unfold NRow
    rw [h3]
    have hc : cur.toList = List.replicate n (.int .i64 0) := by
      rw [List.take_of_length_le (by simp [h6])] at h7
      rw [h7]
      have : (Value.int .i64 0).cells = #[.int .i64 0] := rfl
      rw [this, toList_madeCells_one, Nat.mul_one]
    congr 2
    unfold iC
    rw [List.map_replicate, ← hc]

set_option maxHeartbeats 6400000 in
set_option maxRecDepth 100000 in
theorem spec_Layer_any (N : Nat) (n : Int) (x : Value) (E : List Edg) (v : Int) (w : World) (hx : ESeg (fun b => b < N) w x E) (hN : N ≤ w.heap.size) :
    Calls Try.prog 40 #[.agg #[.int .i64 n, x], .int .i64 v] w fun e w' => e = .returned (.int .i64 (layA n E v)) ∧ Below w.heap.size w w' := by
  have HX : Hid (∀ wx, Below w.heap.size w wx → ESeg (fun b => b < N) wx x E) := fun wx hb => hx.agree (agree_below (hb.mono hN))
  have Hb : Hid (∀ o : Obj, Below w.heap.size w (w.alloc o)) := fun o => (Below.refl _ _).alloc (Nat.le_refl _) o
  have Hbox : Hid (∀ o wx, Below (w.alloc o).heap.size (w.alloc o) wx → wx.heap[w.heap.size]? = some o) := fun o wx h => box_row h
  have HG : Hid (∀ wx, Below w.heap.size w wx → Calls Try.prog 17 #[.agg #[.int .i64 n, x]] wx fun e w' => e = .returned (.bool (gB n E)) ∧ Below wx.heap.size wx w') := fun wx hb => spec_GraphOk_any N n x E wx (HX.out wx hb) (by have := hb.size; omega)
  have HOo : Hid (gB n E = true → ∀ wx, Below w.heap.size w wx → Calls Try.prog 67 #[.agg #[.int .i64 n, x]] wx fun e w' => ∃ u, e = .returned u ∧ NOwn w' wx.heap.size u (ordR n.toNat E) ∧ Below wx.heap.size wx w') := fun hg wx hb => spec_l9order N n x E wx (HX.out wx hb) (by have := hb.size; omega) hg
  obtain ⟨i3, hi3, hy0, hy1, hy2⟩ := info_parts infoI
  obtain ⟨a, cap, rfl, hlc, hcm, -, -⟩ := hx
  unfold maxLen at hcm
  obtain ⟨R, hR⟩ : ∃ R, R = layA n E v := ⟨_, rfl⟩
  rw [← hR]
  cases hg : gB n E with
  | false =>
    have HF : Hid (R = -1) := by show _ = _; rw [hR]; simp [layA, ordB, hg]
    rw [hg] at HG
    clear hR HX HOo hg
    generalize E.length = ll at *
    go_enter Try.func40, Try.ntmps40
    go_wp2_with fail
    refine (HG.out _ (Hb.out _)).mono ?_
    rintro e w1 ⟨rfl, b1⟩
    have B1 := hide' (Below.on (Hb.out _) b1)
    clear b1
    go_wp2
    go_ret
    exact ⟨ret_i64 HF.out.symm, B1.out⟩
  | true =>
    have HO2 := hide' (HOo.out hg)
    obtain ⟨hn0, hn1, hel, -⟩ := gB_iff.1 hg
    have HIn : Hid (∀ e ∈ E, 0 ≤ e.1 ∧ e.1 < n ∧ 0 ≤ e.2 ∧ e.2 < n) := fun e he => g_ends hg he
    have hob : ordB n E = decide (n.toNat ≤ (ordR n.toNat E).length) := by simp [ordB, hg]
    have hlen := ordR_len n.toNat E
    rw [hg] at HG
    clear HOo hg
    by_cases hv : 0 ≤ v ∧ v < n
    rotate_left
    · have HF : Hid (R = -1) := by show _ = _; rw [hR]; unfold layA; rw [if_neg (fun h => hv h.2)]
      have hcase : v < 0 ∨ (¬ v < 0 ∧ n ≤ v) := by omega
      clear hR HX HO2 HIn hob hlen hv
      generalize E.length = ll at *
      rcases hcase with c0 | ⟨c0, c1⟩
      all_goals
        go_enter Try.func40, Try.ntmps40
        go_wp2_with fail
        refine (HG.out _ (Hb.out _)).mono ?_
        rintro e w1 ⟨rfl, b1⟩
        obtain ⟨g0, g1, -⟩ := row2 (Hbox.out _ _ b1)
        have B1 := hide' (Below.on (Hb.out _) b1)
        clear b1
        go_wp2
        go_ret
        exact ⟨ret_i64 HF.out.symm, B1.out⟩
    obtain ⟨hv0, hv1⟩ := hv
    by_cases hle : n.toNat ≤ (ordR n.toNat E).length
    rotate_left
    · have hb1 : ordB n E = false := by rw [hob]; simpa using hle
      have HF : Hid (R = -1) := by show _ = _; rw [hR]; simp [layA, hb1]
      have hle' : ((ordR n.toNat E).length : Int) < n := by omega
      clear hR HX HIn hob hb1
      generalize ordR n.toNat E = L at *
      generalize E.length = ll at *
      go_enter Try.func40, Try.ntmps40
      go_wp2_with fail
      refine (HG.out _ (Hb.out _)).mono ?_
      rintro e w1 ⟨rfl, b1⟩
      obtain ⟨g0, g1, -⟩ := row2 (Hbox.out _ _ b1)
      have B1 := hide' b1
      have HC := hide' (HO2.out w1 (Below.on (Hb.out _) b1))
      clear b1
      go_wp2_with fail
      refine HC.out.mono ?_
      rintro e w2 ⟨u, rfl, hO, b2⟩
      have B2 := hide' (Below.on B1.out b2)
      obtain ⟨ua, uc, rfl⟩ := hO.form
      obtain ⟨g0, g1, -⟩ := row2 (Hbox.out _ _ B2.out)
      clear hO b2 HC
      go_wp2
      go_ret
      exact ⟨ret_i64 HF.out.symm, Below.on (Hb.out _) B2.out⟩
    have hb1 : ordB n E = true := by rw [hob]; simpa using hle
    have HF : Hid (R = (roundsL E (ordR n.toNat E) (List.replicate n.toNat 0)).getD v.toNat 0) := by show _ = _; rw [hR]; unfold layA; rw [if_pos ⟨hb1, hv0, hv1⟩]
    obtain ⟨m, rfl⟩ : ∃ m : Nat, n = (m : Int) := ⟨n.toNat, by omega⟩
    obtain ⟨vv, rfl⟩ : ∃ vv : Nat, v = (vv : Int) := ⟨v.toNat, by omega⟩
    simp only [Int.toNat_natCast] at *
    have hle' : ¬ ((ordR m E).length : Int) < (m : Int) := by omega
    have hm20 : m ≤ 20 := by omega
    have hvm : vv < m := by omega
    clear hR hob hb1 hle
    generalize hL : ordR m E = L at *
    clear hL
    go_enter Try.func40, Try.ntmps40
    go_wp2_with fail
    refine (HG.out _ (Hb.out _)).mono ?_
    rintro e w1 ⟨rfl, b1⟩
    obtain ⟨g0, g1, -⟩ := row2 (Hbox.out _ _ b1)
    have B1 := hide' b1
    have HC := hide' (HO2.out w1 (Below.on (Hb.out _) b1))
    clear b1
    go_wp2_with fail
    refine HC.out.mono ?_
    rintro e w2 ⟨u, rfl, hO, b2⟩
    have B2 := hide' (Below.on B1.out b2)
    obtain ⟨ua, uc, rfl⟩ := hO.form
    have HO := hide' hO.read
    obtain ⟨g0, g1, -⟩ := row2 (Hbox.out _ _ B2.out)
    clear hO b2 HC
    go_wp2_with (refine wpList_make_full _ rfl _ _ 27 rfl w2.heap.size 3 i3 (.int .i64 0) 1 Try.underlying27 hi3 hy0 hy1 .i64 .i64 _ _ m rfl rfl rfl rfl (by rw [hy2]; omega) (by unfold maxLen; omega) (Nat.le_refl _) ?_; intro w3 hown hgrow)
    have hb3 : Below w2.heap.size w2 w3 := (Below.refl _ _).grown hgrow (Nat.le_refl _) (by simp)
    have hzw : w.heap.size < w2.heap.size := by have := B2.out.size; simp at this; omega
    have hI0 : Hid (YSt w (.cells #[.int .i64 (m : Int), .slice a E.length cap] 25) w2.heap.size (roundsL E (L.take 0) (List.replicate m 0)) (.slice ua L.length uc) L w3) :=
      ⟨(hb3.block _ hzw).trans (Hbox.out _ _ B2.out), Below.on (Below.on (Hb.out _) B2.out) hb3, hzw, nRow_made hown, HO.out.agree (agree_below hb3)⟩
    have HRl := roundsL_len E
    have HUp : Hid (∀ i, UpTo (i * E.length : Nat) (roundsL E (L.take i) (List.replicate m 0))) := fun i => by
      have h1 := upTo_rounds E (L.take i) (upTo_repl m)
      refine h1.mono ?_
      have h2 : (L.take i).length ≤ i := by simp; omega
      have h3 : (L.take i).length * E.length ≤ i * E.length := Nat.mul_le_mul_right _ h2
      omega
    clear hown hgrow hb3 HO B1 B2 g0 g1
    go_wp2_with fail
    go_loopw [7] (fun i wr => ∃ k : Nat, i = .int .i64 k ∧ k ≤ L.length ∧ Hid (YSt w (.cells #[.int .i64 (m : Int), .slice a E.length cap] 25) w2.heap.size (roundsL E (L.take k) (List.replicate m 0)) (.slice ua L.length uc) L wr)) (fun i _ => L.length - (intOf i).toNat)
    case atStart => exact ⟨0, rfl, Nat.zero_le _, hI0⟩
    case round =>
      clear hI0
      obtain ⟨k, rfl, hk, hY⟩ := hrel
      by_cases hkl : k < L.length
      rotate_left
      · have hkl' : ¬ (k : Int) < (L.length : Int) := by omega
        obtain rfl : k = L.length := by omega
        rw [List.take_length] at hY
        have hfl : (roundsL E L (List.replicate m 0)).length = m := by rw [HRl]; simp
        obtain ⟨r0, -⟩ := hY.out.2.2.2.1.at (m := vv) (by omega)
        have HB := hide' hY.out.2.1
        rw [← HF.out] at r0
        have hv3 : (0 : Int) ≤ (vv : Int) := by omega
        clear hY
        go_wp2
        go_ret
        exact ⟨rfl, HB.out⟩
      have hkl' : (k : Int) < (L.length : Int) := by omega
      have hfs := roundsL_succ E L (List.replicate m 0) k hkl
      have hfl : (roundsL E (L.take k) (List.replicate m 0)).length = m := by rw [HRl]; simp
      have hup := HUp.out k
      have hI1 : Hid (YSt w (.cells #[.int .i64 (m : Int), .slice a E.length cap] 25) w2.heap.size (roundL (E.take 0) (roundsL E (L.take k) (List.replicate m 0)) L[k]) (.slice ua L.length uc) L wr) := hY.out
      have Hfs := hide' hfs
      have hku : ((k * E.length : Nat) : Int) ≤ 8000 := by
        have : k * E.length ≤ 20 * 400 := Nat.mul_le_mul (by omega) hel
        omega
      obtain ⟨g0, g1, -⟩ := row2 hY.out.1
      clear hY hfs
      generalize roundsL E (L.take k) (List.replicate m 0) = fk at *
      go_wp2_with fail
      go_loopw [8] (fun i wz => ∃ j : Nat, i = .int .i64 j ∧ j ≤ E.length ∧ Hid (YSt w (.cells #[.int .i64 (m : Int), .slice a E.length cap] 25) w2.heap.size (roundL (E.take j) fk L[k]) (.slice ua L.length uc) L wz)) (fun i _ => E.length - (intOf i).toNat)
      case atStart => exact ⟨0, rfl, Nat.zero_le _, hI1⟩
      case round =>
        clear hI1 g0 g1
        obtain ⟨j, rfl, hj, hY⟩ := hrel
        obtain ⟨g0, g1, -⟩ := row2 hY.out.1
        by_cases hjl : j < E.length
        rotate_left
        · have hjl' : ¬ (j : Int) < (E.length : Int) := by omega
          obtain rfl : j = E.length := by omega
          have HN := hY
          rw [List.take_length, ← Hfs.out] at HN
          clear hY
          go_wp2
          go_roundw
          case rel => exact ⟨k + 1, by go_num, by omega, HN⟩
          case measure => simp [intOf]; omega
        have hjl' : (j : Int) < (E.length : Int) := by omega
        obtain ⟨b, off, rfl, hbN, q0, q1⟩ := (HX.out wr hY.out.2.1).at hjl
        have he := HIn.out E[j] (List.getElem_mem hjl)
        obtain ⟨pf, hpf⟩ : ∃ p : Nat, E[j].1 = (p : Int) := ⟨E[j].1.toNat, by omega⟩
        obtain ⟨pt, hpt⟩ : ∃ p : Nat, E[j].2 = (p : Int) := ⟨E[j].2.toNat, by omega⟩
        have hfs := roundL_succ E fk L[k] j hjl
        have hup2 := upTo_round (v := L[k]) (E.take j) hup
        have hrl : (roundL (E.take j) fk L[k]).length = m := by rw [roundL_len, hfl]
        generalize hfj : roundL (E.take j) fk L[k] = fj at *
        clear hfj
        unfold edgeL at hfs
        rw [hpf, hpt] at hfs
        simp only [Int.toNat_natCast] at hfs
        rw [hpf] at q0 he
        rw [hpt] at q1 he
        have hal : Below wr.heap.size wr (wr.alloc (.cells #[.int .i64 (pf : Int), .int .i64 (pt : Int)] 36)) := (Below.refl _ _).alloc (Nat.le_refl _) _
        have hYa := hide' (hY.out.on hal)
        obtain ⟨e0, e1, -⟩ := row2 (MapKept.heap_alloc wr (.cells #[.int .i64 (pf : Int), .int .i64 (pt : Int)] 36)).1
        obtain ⟨s0, s1⟩ := hYa.out.2.2.2.1.at (m := pf) (by omega)
        obtain ⟨t0, t1⟩ := hYa.out.2.2.2.1.at (m := pt) (by omega)
        obtain ⟨lb, lo, hlv, _, z0⟩ := hYa.out.2.2.2.2.at hkl
        have hp1 : (0 : Int) ≤ (pf : Int) := by omega
        have hp2 : (pf : Int) < (m : Int) := by omega
        have hp3 : (0 : Int) ≤ (pt : Int) := by omega
        have hp4 : (pt : Int) < (m : Int) := by omega
        have hu1 := hup2 pf
        have hu2 := hup2 pt
        have htk : ((E.take j).length : Int) ≤ 400 := by simp; omega
        have hD : w2.heap.size < wr.heap.size := (Array.getElem?_eq_some_iff.1 hY.out.2.2.2.1).1
        clear hpf hpt hY hal
        subst hlv
        go_wp2_with fail
        generalize wr.alloc (.cells #[.int .i64 (pf : Int), .int .i64 (pt : Int)] 36) = W at *
        have hne : ¬ wr.heap.size = w2.heap.size := by omega
        have hne' : ¬ w2.heap.size = wr.heap.size := by omega
        generalize wr.heap.size = eb at *
        clear q0 q1 g0 g1
        have hUs := hide' hYa.out
        generalize hxf : fj.getD pf 0 = xf at *
        generalize hxt : fj.getD pt 0 = xt at *
        generalize hlk : L[k] = lk at *
        have HLk := hide' hlk
        clear hlk
        have hw1 : IntKind.i64.wrap (xf + 1) = xf + 1 := by rw [IntKind.wrap_i64]; omega
        by_cases c0 : (pf : Int) = lk
        rotate_left
        · have c0' : ((pf : Int) == lk) = false := by simpa using c0
          rw [if_neg (fun h => c0 h.1)] at hfs
          have HN := hUs
          rw [← hfs] at HN
          clear hfs hYa hUs
          go_quiet (fail)
          go_wp2
          go_roundw
          case rel => exact ⟨j + 1, by go_num, by omega, by rw [HLk.out]; exact HN.out.on (below_drewN (Below.refl _ _) _)⟩
          case measure => simp [intOf]; omega
        by_cases c1 : xt < xf + 1
        rotate_left
        · rw [if_neg (fun h => c1 h.2)] at hfs
          have HN := hUs
          rw [← hfs] at HN
          subst c0
          clear hfs hYa hUs
          go_quiet (fail)
          go_wp2
          go_roundw
          case rel => exact ⟨j + 1, by go_num, by omega, by rw [HLk.out]; exact HN.out.on (below_drewN (Below.refl _ _) _)⟩
          case measure => simp [intOf]; omega
        rw [if_pos ⟨c0, c1⟩] at hfs
        have HN : Hid (∀ q, YSt w (.cells #[.int .i64 (m : Int), .slice (some ⟨b, off, none⟩) E.length cap] 25) w2.heap.size (roundL (E.take (j + 1)) fk lk) (.slice (some ⟨lb, lo, none⟩) L.length uc) L ((W.drewN q).setCell ⟨w2.heap.size, pt, none⟩ (.int .i64 (xf + 1)))) := fun q => by
          rw [hfs]
          exact (hUs.out.on (below_drewN (Below.refl _ _) q)).set pt (xf + 1)
        subst c0
        clear hfs hYa hUs
        have S0 : ∀ q, (W.drewN q).cell? ⟨w2.heap.size, pf, none⟩ = some (.int .i64 xf) := fun q => s0
        have T0 : ∀ q, (W.drewN q).cell? ⟨w2.heap.size, pt, none⟩ = some (.int .i64 xt) := fun q => t0
        have T1 : ∀ q, (W.drewN q).frozen? ⟨w2.heap.size, pt, none⟩ = false := fun q => t1
        have E0 : ∀ q, (W.drewN q).cell? ⟨eb, 0, none⟩ = some (.int .i64 (pf : Int)) := fun q => e0
        have E1 : ∀ q, (W.drewN q).cell? ⟨eb, 1, none⟩ = some (.int .i64 (pt : Int)) := fun q => e1
        go_quiet (fail)
        go_wp2_with fail
        go_region
        all_goals go_wp2
        all_goals exact ⟨⟨j + 1, by go_num, by omega, by rw [HLk.out]; first | exact HN.out _ | exact HN.out (_ + 1)⟩, by simp [intOf]; omega⟩
end Go.Proofs.Ytpnohgncnmbkdaa
/-
  carry of the program over numbers.
-/
namespace Go.Proofs.Ytpnohgncnmbkdaa
open Go.RowKit
set_option linter.unusedVariables false
set_option linter.unusedSimpArgs false

set_option maxHeartbeats 6400000 in
set_option maxRecDepth 100000 in
theorem carryI_any (N n D : Nat) (x : Value) (E : List Edg) (mt : Int → Int → Int) (s : List Int) (w : World) (hx : ESeg (fun b => b < N) w x E) (hN : N ≤ D) (hn : n ≤ 20) (hE : InG n E) (hs : s.length = n) (hrow : VRow (Value.int .i64) 3 D s w)
    (HM : ∀ k j, k < n → (hj : j < E.length) → ∀ wx, Calls Try.prog 55 #[(.int .i64 ((((E.take j).foldl (setE mt 0) (itE (setE mt 0) E k s)).getD E[j].2.toNat 0))), (.int .i64 ((((E.take j).foldl (setE mt 0) (itE (setE mt 0) E k s)).getD E[j].1.toNat 0)))] wx fun e w' => e = .returned (.int .i64 ((mt (((E.take j).foldl (setE mt 0) (itE (setE mt 0) E k s)).getD E[j].2.toNat 0) (((E.take j).foldl (setE mt 0) (itE (setE mt 0) E k s)).getD E[j].1.toNat 0)))) ∧ wx = w') :
    Calls Try.prog 54 #[.agg #[.int .i64 (n : Int), x], .slice (some ⟨D, 0, none⟩) n n, .func (.func 55) #[] #[]] w fun e w' => e = .returned (.tuple #[]) ∧ VRow (Value.int .i64) 3 D (itE (setE mt 0) E n s) w' ∧ w.grownBy w' (some D) := by
  have hDw := hrow.lt
  have HX := hide' hx
  have HE := hide' hE
  have HMh := hide' HM
  have HD := hide' hDw
  have hS0 := hide' (fun o => CSt.begin hrow o)
  obtain ⟨a, cap, rfl, hlc, hcm, -, -⟩ := hx
  unfold maxLen at hcm
  have hnn : (0 : Int) ≤ (n : Int) := by omega
  have hn20 : (n : Int) ≤ 20 := by omega
  clear hE HM hrow hDw
  go_enter Try.func54, Try.ntmps54
  go_wp2_with fail
  go_loopw [10] (fun i wr => ∃ k : Nat, i = .int .i64 k ∧ k ≤ n ∧ Hid (CSt (Value.int .i64) 3 D w (.cells #[.int .i64 (n : Int), .slice a E.length cap] 25) (itE (setE mt 0) E k s) wr)) (fun i _ => n - (intOf i).toNat)
  case atStart => exact ⟨0, rfl, Nat.zero_le _, hS0.out _⟩
  case round =>
    clear hS0
    obtain ⟨k, rfl, hk, hS⟩ := hrel
    obtain ⟨g0, g1, -⟩ := row2 hS.out.2.1
    by_cases hkn : k < n
    rotate_left
    · have hkn' : ¬ (k : Int) < (n : Int) := by omega
      obtain rfl : k = n := by omega
      have HF := hide' (And.intro hS.out.1 hS.out.2.2.1)
      clear hS
      go_wp2
      go_end0
      exact ⟨rfl, HF.out⟩
    have hkn' : (k : Int) < (n : Int) := by omega
    have hdl : (itE (setE mt 0) E k s).length = n := by rw [itE_len, hs]
    have hS2 : Hid (CSt (Value.int .i64) 3 D w (.cells #[.int .i64 (n : Int), .slice a E.length cap] 25) ((E.take 0).foldl (setE mt 0) (itE (setE mt 0) E k s)) wr) := hS.out
    have HNx : Hid (E.foldl (setE mt 0) (itE (setE mt 0) E k s) = itE (setE mt 0) E (k + 1) s) := rfl
    have HMk := hide' (fun j => HMh.out k j hkn)
    clear hS HMh
    generalize itE (setE mt 0) E k s = dk at *
    go_wp2_with fail
    go_loopw [15] (fun i wz => ∃ j : Nat, i = .int .i64 j ∧ j ≤ E.length ∧ Hid (CSt (Value.int .i64) 3 D w (.cells #[.int .i64 (n : Int), .slice a E.length cap] 25) ((E.take j).foldl (setE mt 0) dk) wz)) (fun i _ => E.length - (intOf i).toNat)
    case atStart => exact ⟨0, rfl, Nat.zero_le _, hS2⟩
    case round =>
      clear hS2 g0 g1
      obtain ⟨j, rfl, hj, hS⟩ := hrel
      obtain ⟨g0, g1, -⟩ := row2 hS.out.2.1
      by_cases hjl : j < E.length
      rotate_left
      · have hjl' : ¬ (j : Int) < (E.length : Int) := by omega
        obtain rfl : j = E.length := by omega
        have HN := hS
        rw [List.take_length, HNx.out] at HN
        clear hS
        go_wp2
        go_roundw
        case rel => exact ⟨k + 1, by go_num, by omega, HN⟩
        case measure => simp [intOf]; omega
      have hjl' : (j : Int) < (E.length : Int) := by omega
      have hag := hS.out.agree hN HD.out
      obtain ⟨b, off, rfl, _, q0, q1⟩ := (HX.out.agree hag).at hjl
      have he := HE.out E[j] (List.getElem_mem hjl)
      obtain ⟨m, hm⟩ : ∃ m : Nat, E[j].1 = (m : Int) := ⟨E[j].1.toNat, by omega⟩
      obtain ⟨m1, hm'⟩ : ∃ m : Nat, E[j].2 = (m : Int) := ⟨E[j].2.toNat, by omega⟩
      have hrl : ((E.take j).foldl (setE mt 0) dk).length = n := by rw [foldS_len, hdl]
      have hs : (E.take (j + 1)).foldl (setE mt 0) dk = ((E.take j).foldl (setE mt 0) dk).set m1 (mt (((E.take j).foldl (setE mt 0) dk).getD m1 0) (((E.take j).foldl (setE mt 0) dk).getD m 0)) := by
        rw [foldE_succ (setE mt 0) E dk j hjl]
        show ((E.take j).foldl (setE mt 0) dk).set E[j].2.toNat (mt (((E.take j).foldl (setE mt 0) dk).getD E[j].2.toNat 0) (((E.take j).foldl (setE mt 0) dk).getD E[j].1.toNat 0)) = _
        rw [hm, hm', Int.toNat_natCast, Int.toNat_natCast]
      have HM1 := hide' (HMk.out j hjl)
      rw [hm] at q0
      rw [hm'] at q1
      rw [hm, hm', Int.toNat_natCast, Int.toNat_natCast] at HM1
      have hm1 : (0 : Int) ≤ (m : Int) := by omega
      have hm2 : (m : Int) < (n : Int) := by omega
      have hm3 : (0 : Int) ≤ (m1 : Int) := by omega
      have hm4 : (m1 : Int) < (n : Int) := by omega
      have hS' := hS.out.alloc (.cells #[.int .i64 (m : Int), .int .i64 (m1 : Int)] 36)
      obtain ⟨e0, e1, -⟩ := row2 (MapKept.heap_alloc wr (.cells #[.int .i64 (m : Int), .int .i64 (m1 : Int)] 36)).1
      obtain ⟨r0, -⟩ := hS'.1.at (m := m) (by omega) 0
      obtain ⟨t0, t1⟩ := hS'.1.at (m := m1) (by omega) 0
      have HN := hide' (hS'.set HD.out m1 (mt (((E.take j).foldl (setE mt 0) dk).getD m1 0) (((E.take j).foldl (setE mt 0) dk).getD m 0))).drew
      rw [← hs] at HN
      have hDz : D ≠ wr.heap.size := by have := hS.out.1.lt; omega
      (try dsimp only at r0 t0)
      clear hS hS' hag hm hm' hs he
      generalize ((E.take j).foldl (setE mt 0) dk).getD m1 0 = x1 at *
      generalize ((E.take j).foldl (setE mt 0) dk).getD m 0 = x0 at *
      go_wp2_with fail
      generalize wr.alloc (.cells #[.int .i64 (m : Int), .int .i64 (m1 : Int)] 36) = W at *
      generalize wr.heap.size = eb at *
      have HSt : Hid (∀ v, (W.drew.setCell ⟨D, m1, none⟩ v).cell? ⟨eb, 0, none⟩ = some (.int .i64 (m : Int)) ∧ (W.drew.setCell ⟨D, m1, none⟩ v).cell? ⟨eb, 1, none⟩ = some (.int .i64 (m1 : Int))) := fun v => by
        have hh := Below.heap_setCell W.drew ⟨D, m1, none⟩ v eb (fun h => hDz h.symm)
        exact ⟨(World.cell?_of_block hh).trans e0, (World.cell?_of_block hh).trans e1⟩
      clear q0 q1 g0 g1 HX HE HMk HNx
      refine wp_region_held_drew (S := (fun wx => wx.cell? ⟨eb, 0, none⟩ = some (.int .i64 (m : Int)) ∧ wx.cell? ⟨eb, 1, none⟩ = some (.int .i64 (m1 : Int)))) (by kernel_rfl) ⟨e0, e1⟩ (fun hHeld => ?_)
      refine take_yes (i := 0) 19 (v := ?_) rfl rfl (by kernel_rfl) (by kernel_rfl) (by kernel_rfl) (fun _ _ _ h => h) (by kernel_rfl) hHeld ?_ ?_
      rotate_left
      focus (intro w hSw; (try dsimp only at hSw); go_simp; (try with_reducible rfl))
      simp only [Act.put, List.setIfInBounds_toArray, List.set_cons_zero, List.set_cons_succ]
      refine take_yes (i := 1) 20 (v := ?_) rfl rfl (by kernel_rfl) (by kernel_rfl) (by kernel_rfl) (fun _ _ _ h => h) (by kernel_rfl) hHeld ?_ ?_
      rotate_left
      focus (intro w hSw; (try dsimp only at hSw); go_simp; (try with_reducible rfl))
      simp only [Act.put, List.setIfInBounds_toArray, List.set_cons_zero, List.set_cons_succ]
      refine take_yes (i := 2) 21 (v := ?_) rfl rfl (by kernel_rfl) (by kernel_rfl) (by kernel_rfl) (fun _ _ _ h => h) (by kernel_rfl) hHeld ?_ ?_
      rotate_left
      focus (intro w hSw; (try dsimp only at hSw); go_simp; (try with_reducible rfl))
      simp only [Act.put, List.setIfInBounds_toArray, List.set_cons_zero, List.set_cons_succ]
      refine take_yes (i := 3) 22 (v := ?_) rfl rfl (by kernel_rfl) (by kernel_rfl) (by kernel_rfl) (fun _ _ _ h => h) (by kernel_rfl) hHeld ?_ ?_
      rotate_left
      focus (intro w hSw; (try dsimp only at hSw); go_simp; (try with_reducible rfl))
      simp only [Act.put, List.setIfInBounds_toArray, List.set_cons_zero, List.set_cons_succ]
      refine take_yes (i := 4) 23 (v := ?_) rfl rfl (by kernel_rfl) (by kernel_rfl) (by kernel_rfl) (fun _ _ _ h => h) (by kernel_rfl) hHeld ?_ ?_
      rotate_left
      focus (intro w hSw; (try dsimp only at hSw); go_simp; (try with_reducible rfl))
      simp only [Act.put, List.setIfInBounds_toArray, List.set_cons_zero, List.set_cons_succ]
      refine take_yes (i := 5) 24 (v := ?_) rfl rfl (by kernel_rfl) (by kernel_rfl) (by kernel_rfl) (fun _ _ _ h => h) (by kernel_rfl) hHeld ?_ ?_
      rotate_left
      focus (intro w hSw; (try dsimp only at hSw); go_simp; (try with_reducible rfl))
      simp only [Act.put, List.setIfInBounds_toArray, List.set_cons_zero, List.set_cons_succ]
      refine take_yes (i := 6) 25 (v := ?_) rfl rfl (by kernel_rfl) (by kernel_rfl) (by kernel_rfl) (fun _ _ _ h => h) (by kernel_rfl) hHeld ?_ ?_
      rotate_left
      focus (intro w hSw; (try dsimp only at hSw); go_simp; (try with_reducible rfl))
      simp only [Act.put, List.setIfInBounds_toArray, List.set_cons_zero, List.set_cons_succ]
      refine take_yes (i := 7) 26 (v := ?_) rfl rfl (by kernel_rfl) (by kernel_rfl) (by kernel_rfl) (fun _ _ _ h => h) (by kernel_rfl) hHeld ?_ ?_
      rotate_left
      focus (intro w hSw; (try dsimp only at hSw); go_simp; (try with_reducible rfl))
      simp only [Act.put, List.setIfInBounds_toArray, List.set_cons_zero, List.set_cons_succ]
      refine take_yes (i := 9) 28 (v := ?_) rfl rfl (by kernel_rfl) (by kernel_rfl) (by kernel_rfl) (fun _ _ _ h => h) (by kernel_rfl) hHeld ?_ ?_
      rotate_left
      focus (intro w hSw; (try dsimp only at hSw); go_simp; (try with_reducible rfl))
      simp only [Act.put, List.setIfInBounds_toArray, List.set_cons_zero, List.set_cons_succ]
      refine take_yes (i := 10) 29 (v := ?_) rfl rfl (by kernel_rfl) (by kernel_rfl) (by kernel_rfl) (fun _ _ _ h => h) (by kernel_rfl) hHeld ?_ ?_
      rotate_left
      focus (intro w hSw; (try dsimp only at hSw); go_simp; (try with_reducible rfl))
      simp only [Act.put, List.setIfInBounds_toArray, List.set_cons_zero, List.set_cons_succ]
      refine take_yes (i := 11) 30 (v := ?_) rfl rfl (by kernel_rfl) (by kernel_rfl) (by kernel_rfl) (fun _ _ _ h => h) (by kernel_rfl) hHeld ?_ ?_
      rotate_left
      focus (intro w hSw; (try dsimp only at hSw); go_simp; (try with_reducible rfl))
      simp only [Act.put, List.setIfInBounds_toArray, List.set_cons_zero, List.set_cons_succ]
      refine take_yes (i := 12) 31 (v := ?_) rfl rfl (by kernel_rfl) (by kernel_rfl) (by kernel_rfl) (fun _ _ _ h => h) (by kernel_rfl) hHeld ?_ ?_
      rotate_left
      focus (intro w hSw; (try dsimp only at hSw); go_simp; (try with_reducible rfl))
      simp only [Act.put, List.setIfInBounds_toArray, List.set_cons_zero, List.set_cons_succ]
      refine wpAnyH_ready (rs := [8, 13]) (by kernel_rfl) (by simp) ?_
      refine AllReadyH.cons rfl (fun K hK => ?_) (AllReadyH.cons rfl (fun K hK => ?_) AllReadyH.nil)
      all_goals
        go_simp
        refine hK.out _ _ hHeld (fun hHeld => ?_)
        clear hK
        (try simp only [Act.put, List.setIfInBounds_toArray, List.set_cons_zero, List.set_cons_succ])
      focus
        refine wpAnyH_ready (rs := [13]) (by kernel_rfl) (by simp) ?_
        refine AllReadyH.cons rfl (fun K hK => ?_) AllReadyH.nil
        go_simp
        refine hK.out _ _ hHeld (fun hHeld => ?_)
        clear hK
        (try simp only [Act.put, List.setIfInBounds_toArray, List.set_cons_zero, List.set_cons_succ])
      rotate_left
      focus
        refine wpAnyH_ready (rs := [8]) (by kernel_rfl) (by simp) ?_
        refine AllReadyH.cons rfl (fun K hK => ?_) AllReadyH.nil
        go_simp
        refine hK.out _ _ hHeld (fun hHeld => ?_)
        clear hK
        (try simp only [Act.put, List.setIfInBounds_toArray, List.set_cons_zero, List.set_cons_succ])
      rotate_left
      all_goals
        refine wpAnyH_ready (rs := [14]) (by kernel_rfl) (by simp) ?_
        refine AllReadyH.cons rfl (fun K hK => ?_) AllReadyH.nil
        go_simp
        go_at_call 55
        refine (HM1.out _).mono ?_
        rintro e w5 ⟨rfl, e5⟩
        obtain rfl := e5
        have hS := hHeld
        go_wp2_with fail
        refine hK.out _ _ hS (fun hHeld => ?_)
        clear hK
        (try simp only [Act.put, List.setIfInBounds_toArray, List.set_cons_zero, List.set_cons_succ])
        refine take_yes (i := 15) 34 (v := ?_) rfl rfl (by kernel_rfl) (by kernel_rfl) (by kernel_rfl) (fun _ _ _ h => h) (by kernel_rfl) hHeld ?_ ?_
        rotate_left
        focus (intro w hSw; (try dsimp only at hSw); go_simp; (try with_reducible rfl))
        simp only [Act.put, List.setIfInBounds_toArray, List.set_cons_zero, List.set_cons_succ]
        refine wpAnyH_ready (rs := [16]) (by kernel_rfl) (by simp) ?_
        refine AllReadyH.cons rfl (fun K hK => ?_) AllReadyH.nil
        go_simp
        refine hK.out _ _ (HSt.out _) (fun hHeld => ?_)
        clear hK
        (try simp only [Act.put, List.setIfInBounds_toArray, List.set_cons_zero, List.set_cons_succ])
        refine wpAnyH_done (by kernel_rfl) ?_ _
        go_wp2
        go_roundw
        case rel => exact ⟨j + 1, by go_num, by omega, HN⟩
        case measure => simp [intOf]; omega
end Go.Proofs.Ytpnohgncnmbkdaa
