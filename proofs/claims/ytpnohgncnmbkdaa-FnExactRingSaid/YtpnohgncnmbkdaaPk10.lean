/-
  Texts that a law leans on, one behind the other; no statement is proved here.
-/
import Derived.Test.YtpnohgncnmbkdaaPk1
import Derived.Deep.RegionHeld3
import Derived.Deep.Cut
import Derived.Test.YtpnohgncnmbkdaaPk9
import Derived.Deep.AppendLies
/-
  FnExactRing answers true, once both calls' ends are known; written by wip/gen/graph.py.
-/
namespace Go.Proofs.Ytpnohgncnmbkdaa
open Go.RowKit
set_option linter.unusedVariables false
set_option linter.unusedSimpArgs false

set_option maxHeartbeats 6400000 in
set_option maxRecDepth 100000 in
theorem walk_WgRi (n : Int) (x : Value) (E : List Edg) (R : List Int) (w : World) (hx : ESeg (fun b => b < w.heap.size) w x E) (hRl : R.length ≤ 1048576)
    (HSp : ∀ u wx, ESeg (fun b => b < wx.heap.size) wx u E → Calls Try.prog 35 #[.agg #[.int .i64 n, u]] wx (fun e w' => ∃ u, e = .returned u ∧ NOwn w' wx.heap.size u R ∧ Below wx.heap.size wx w'))
    (HIm : ∀ u wx, ESeg (fun b => b < wx.heap.size) wx u E → Below w.heap.size w wx → Calls Try.prog 20 #[.agg #[.int .i64 n, u]] wx (fun e w' => ∃ u, e = .returned u ∧ NOwn w' wx.heap.size u R ∧ Below wx.heap.size wx w')) :
    Calls Try.prog 8 #[.agg #[.int .i64 n, x]] w fun e w' => e = .returned (.bool true) ∧ Below w.heap.size w w' := by
  have Hb : Hid (∀ o : Obj, Below w.heap.size w (w.alloc o)) := fun o => (Below.refl _ _).alloc (Nat.le_refl _) o
  have Hbox : Hid (∀ o wx, Below (w.alloc o).heap.size (w.alloc o) wx → wx.heap[w.heap.size]? = some o) := fun o wx h => box_row h
  have HX : Hid (∀ wx, Below w.heap.size w wx → ESeg (fun b => b < w.heap.size) wx x E) := fun wx hb => hx.agree (agree_below hb)
  have HS : Hid (∀ wx, Below w.heap.size w wx → Calls Try.prog 27 #[.agg #[.int .i64 n, x], .int .i64 1048576] wx fun e w' => e = .returned (.int .i64 (lessN 1048576 E.length)) ∧ Below wx.heap.size wx w') := fun wx hb => szGraph_any _ n x E wx (HX.out wx hb) (fun b hb' => Nat.lt_of_lt_of_le hb' hb.size)
  have HT : Hid (E.length ≤ 1048576 → ∀ wx, Below w.heap.size w wx → Calls Try.prog 28 #[.agg #[.int .i64 n, x]] wx fun e w' => ∃ u, e = .returned (.agg #[.int .i64 n, u]) ∧ EOwn w' wx.heap.size u E ∧ Below wx.heap.size wx w') := fun hl wx hb => toGraph_any w.heap.size n x E wx (HX.out wx hb) hb.size hl
  have HEq : Hid (∀ (y z : Value) wx, ESeg (fun b => b < wx.heap.size) wx y E → ESeg (fun b => b < wx.heap.size) wx z E → Calls Try.prog 29 #[.agg #[.int .i64 n, y], .agg #[.int .i64 n, z]] wx fun e w' => e = .returned (.bool true) ∧ Below wx.heap.size wx w') := fun y z wx h1 h2 => eqGraph_same wx.heap.size n y z E wx h1 h2 (Nat.le_refl _)
  have HSp' := hide' HSp
  have HIm' := hide' HIm
  obtain ⟨a, cap, rfl, -⟩ := hx
  clear HSp HIm HX
  by_cases hz : (1048576 : Int) < (E.length : Int)
  · have hl : lessN 1048576 E.length = -1 := if_pos hz
    rw [hl] at HS
    clear hl HT HEq HSp' HIm'
    generalize E.length = ll at *
    go_enter Try.func8, Try.ntmps8
    go_wp2_with fail
    refine (HS.out _ (Hb.out _)).mono ?_
    rintro e w1 ⟨rfl, b1⟩
    have B1 := Below.on (Hb.out _) b1
    clear b1
    go_wp2
    go_ret
    exact ⟨rfl, B1⟩
  have hl : lessN 1048576 E.length = 1048576 - E.length := if_neg hz
  rw [hl] at HS
  have HT' := hide' (HT.out (by omega))
  have hll : E.length ≤ 1048576 := by omega
  have hz0 : 0 ≤ (1048576 : Int) - (E.length : Int) := by omega
  have hz1 : (1048576 : Int) - (E.length : Int) ≤ 1048576 := by omega
  clear hl hz HT
  generalize hEl : E.length = ll at *
  generalize (1048576 : Int) - (ll : Int) = lft at *
  go_enter Try.func8, Try.ntmps8
  go_wp2_with fail
  refine (HS.out _ (Hb.out _)).mono ?_
  rintro e w1 ⟨rfl, b1⟩
  obtain ⟨y0, y1, -⟩ := row2 (Hbox.out _ _ b1)
  have B1 := hide' b1
  have HT1 := hide' (HT'.out w1 (Below.on (Hb.out _) b1))
  clear b1 HS
  go_wp2_with fail
  refine HT1.out.mono ?_
  rintro e w2 ⟨u, rfl, hO2, b2⟩
  have hS2 := hide' (HSp'.out u w2 hO2.read)
  have B2 := hide' (Below.on B1.out b2)
  obtain ⟨ua, uc, hu⟩ := hO2.form
  rw [hEl] at hu
  subst hu
  clear hO2 b2 HT1 B1 y0 y1
  go_wp2_with fail
  refine hS2.out.mono ?_
  rintro e w3 ⟨Wv, rfl, hW3, b3⟩
  have hBw := hW3.lt
  obtain ⟨Wa, Wc, hWf⟩ := hW3.form
  have HW3 := hide' hW3
  have HBw : Hid (∀ k, Wv.ownBlock = some k → k < w3.heap.size) := fun k hk => (hBw k hk).2
  have B3 := hide' (Below.on B2.out b3)
  subst hWf
  clear b3 hS2 B2 hW3 hBw
  generalize hRn : R.length = rn at *
  obtain ⟨y0, y1, -⟩ := row2 (Hbox.out _ _ B3.out)
  have HT3 := hide' (HT'.out w3 (Below.on (Hb.out _) B3.out))
  go_wp2_with fail
  refine HT3.out.mono ?_
  rintro e w4 ⟨v, rfl, hO4, b4⟩
  obtain ⟨va, vc, hvf⟩ := hO4.form
  rw [hEl] at hvf
  subst hvf
  have bal : Below w4.heap.size w4 (w4.alloc (.cells #[.int .i64 n, .slice va ll vc] 25)) := (Below.refl _ _).alloc (Nat.le_refl _) _
  have B4 := hide' (Below.on (Below.on B3.out b4) bal)
  have hI4 := hide' (HIm'.out _ _ (hO4.on bal).read (Below.on (Hb.out _) B4.out))
  have HO4 := hide' (hO4.on bal)
  have hx4 := (MapKept.heap_alloc w4 (.cells #[.int .i64 n, .slice va ll vc] 25)).1
  have HBx : Hid (∀ k, (Value.slice va ll vc).ownBlock = some k → w3.heap.size ≤ k ∧ k < w4.heap.size) := hO4.lt
  have hz34 : w3.heap.size ≤ w4.heap.size := b4.size
  have HW4 := hide' ((HW3.out.on b4).on bal)
  have Hx4 : Hid (∀ wx, Below (w4.alloc (.cells #[.int .i64 n, .slice va ll vc] 25)).heap.size (w4.alloc (.cells #[.int .i64 n, .slice va ll vc] 25)) wx → wx.heap[w4.heap.size]? = some (.cells #[.int .i64 n, .slice va ll vc] 25)) := fun wx hb => box_row hb
  clear hO4 b4 bal HT3 y0 y1 hx4 HW3
  go_wp2_with fail
  refine hI4.out.mono ?_
  rintro e w5 ⟨Gv, rfl, hG5, b5⟩
  have hBg := hG5.lt
  obtain ⟨Ga, Gc, hGf⟩ := hG5.form
  rw [hRn] at hGf
  subst hGf
  have HBg : Hid (∀ k, (Value.slice Ga rn Gc).ownBlock = some k → w4.heap.size + 1 ≤ k ∧ k < w5.heap.size) := fun k hk => by have := hBg k hk; simp at this; exact this
  have hW5 := HW4.out.on b5
  have hEK := hide' (eqIntS_same w5.heap.size _ _ R w5 hG5.read hW5.read (Nat.le_refl _))
  have HG5 := hide' hG5
  have HW5 := hide' hW5
  have B5 := hide' (Below.on B4.out b5)
  have HO5 := hide' (HO4.out.on b5)
  have Hx5 := hide' (Hx4.out _ b5)
  clear b5 hI4 HO4 B4 hG5 hW5 hBg HW4
  go_wp2_with fail
  refine hEK.out.mono ?_
  rintro e w6 ⟨rfl, b6⟩
  have B6 := hide' (Below.on B5.out b6)
  have HO6 := hide' (HO5.out.on b6)
  have HG6 := hide' (HG5.out.on b6)
  have HW6 := hide' (HW5.out.on b6)
  have hz56 : w5.heap.size ≤ w6.heap.size := b6.size
  have hx6 := (b6.block w4.heap.size ((Array.getElem?_eq_some_iff.1 Hx5.out).1)).trans Hx5.out
  obtain ⟨v0, v1, -⟩ := row2 hx6
  have Hx6 := hide' hx6
  clear b6 hEK HO5 HG5 HW5 B5 hx6 Hx5
  obtain ⟨y0, y1, -⟩ := row2 (Hbox.out _ _ B6.out)
  have HTd : Hid (Calls Try.prog 28 #[.agg #[.int .i64 n, .slice a ll cap]] w6.drew fun e w7 => ∃ za zc, e = .returned (.agg #[.int .i64 n, .slice za ll zc]) ∧ (w7.cell? ⟨w.heap.size, 0, none⟩ = some (.int .i64 n) ∧ w7.cell? ⟨w.heap.size, 1, none⟩ = some (.slice a ll cap) ∧ w7.cell? ⟨w4.heap.size, 0, none⟩ = some (.int .i64 n) ∧ w7.cell? ⟨w4.heap.size, 1, none⟩ = some (.slice va ll vc)) ∧ Hid (Calls Try.prog 29 #[.agg #[.int .i64 n, .slice va ll vc], .agg #[.int .i64 n, .slice za ll zc]] w7 fun e w8 => e = .returned (.bool true) ∧ (w8.cell? ⟨w.heap.size, 0, none⟩ = some (.int .i64 n) ∧ w8.cell? ⟨w.heap.size, 1, none⟩ = some (.slice a ll cap) ∧ w8.cell? ⟨w4.heap.size, 0, none⟩ = some (.int .i64 n) ∧ w8.cell? ⟨w4.heap.size, 1, none⟩ = some (.slice va ll vc)) ∧ Hid (Below w6.heap.size w6 w8))) := by
    refine (HT'.out w6.drew (Below.on (Hb.out _) B6.out).drew).mono ?_
    rintro e w7 ⟨z, rfl, hO7, b7⟩
    obtain ⟨za, zc, hzf⟩ := hO7.form
    rw [hEl] at hzf
    subst hzf
    have b67 : Below w6.heap.size w6 w7 := Below.on (Below.refl _ w6).drew b7
    have hkp : ∀ wy, Below w6.heap.size w6 wy → (wy.cell? ⟨w.heap.size, 0, none⟩ = some (.int .i64 n) ∧ wy.cell? ⟨w.heap.size, 1, none⟩ = some (.slice a ll cap) ∧ wy.cell? ⟨w4.heap.size, 0, none⟩ = some (.int .i64 n) ∧ wy.cell? ⟨w4.heap.size, 1, none⟩ = some (.slice va ll vc)) := fun wy hb => by
      obtain ⟨f0, f1, -⟩ := row2 (Hbox.out _ _ (Below.on B6.out hb))
      obtain ⟨f2, f3, -⟩ := row2 ((hb.block w4.heap.size ((Array.getElem?_eq_some_iff.1 Hx6.out).1)).trans Hx6.out)
      exact ⟨f0, f1, f2, f3⟩
    refine ⟨za, zc, rfl, hkp _ b67, ?_⟩
    exact (HEq.out _ _ w7 (HO6.out.on b67).read hO7.read).mono fun e w8 h => ⟨h.1, hkp _ (Below.on b67 h.2), Below.on b67 h.2⟩
  go_wp2_with fail
  go_region_held3 (fun wx => wx.cell? ⟨w.heap.size, 0, none⟩ = some (.int .i64 n) ∧ wx.cell? ⟨w.heap.size, 1, none⟩ = some (.slice a ll cap) ∧ wx.cell? ⟨w4.heap.size, 0, none⟩ = some (.int .i64 n) ∧ wx.cell? ⟨w4.heap.size, 1, none⟩ = some (.slice va ll vc)) (go_keep) (first
    | (go_at_call 28; refine HTd.out.mono ?_; rintro e w7 ⟨za, zc, rfl, ⟨i0, i1, i2, i3⟩, hE7⟩)
    | (go_at_call 29; refine hE7.out.mono ?_; rintro e w8 ⟨rfl, ⟨j0, j1, j2, j3⟩, hb8⟩)
    | fail)
  have HO8 := hide' (HO6.out.on hb8.out)
  have HG8 := hide' (HG6.out.on hb8.out)
  have HW8 := hide' (HW6.out.on hb8.out)
  have B8 := hide' (Below.on B6.out hb8.out)
  have HBk : Hid ((w.alloc (.cells #[.int .i64 n, .slice a ll cap] 45)).heap.size ≤ w3.heap.size) := B3.out.size
  clear y0 y1 v0 v1 i0 i1 i2 i3 hE7 HTd HO6 HG6 HW6 B6
  have hM8 := hide' (markGraph_any w3.heap.size n _ E 1 w8 HO8.out (by omega) (by omega))
  rw [hEl] at hM8
  go_wp2_with fail
  refine hM8.out.mono ?_
  rintro e w9 ⟨rfl, -, hg9⟩
  have hG9 := HG8.out.far hg9 (fun k hk e' => by have h1 := HBg.out k hk; have h2 := HBx.out k e'; omega)
  have hW9 := HW8.out.far hg9 (fun k hk e' => by have h1 := HBw.out k hk; have h2 := HBx.out k e'; omega)
  have B9 := hide' (B8.out.grown hg9 B8.out.size (fun k hk => by have h2 := HBx.out k hk; have h3 := HBk.out; omega))
  have hE9 := hide' (eqIntS_same w9.heap.size _ _ R w9 hG9.read hW9.read (Nat.le_refl _))
  have HG9 := hide' hG9
  have HW9 := hide' hW9
  clear hg9 hG9 hW9 HG8 HW8 B8 hM8 HO8 j0 j1 j2 j3
  have hk0 : ¬ (1 : Int) + (ll : Int) * 2 < 0 := by omega
  go_wp2_with fail
  refine hE9.out.mono ?_
  rintro e w10 ⟨rfl, b10⟩
  have hM10 := hide' (markIntS_any _ _ R 1 w10 (HG9.out.on b10) (by omega) (by omega))
  have HW10 := hide' (HW9.out.on b10)
  have B10 := hide' (Below.on B9.out b10)
  rw [hRn] at hM10
  clear b10 hE9 HG9 HW9 B9
  go_wp2_with fail
  refine hM10.out.mono ?_
  rintro e w11 ⟨rfl, hG11, hg11⟩
  have HW11 := hide' (HW10.out.far hg11 (fun k hk e' => by have h1 := HBw.out k hk; have h2 := HBg.out k e'; omega))
  have B11 := hide' (B10.out.grown hg11 B10.out.size (fun k hk => by have h2 := HBg.out k hk; have h3 := HBk.out; omega))
  have HG11 := hide' hG11
  have hH11 := hide' (heldIntS_any w11.heap.size _ 1 rn w11 hG11.read (by omega) (by omega))
  clear hG11 hg11 hM10 HW10 B10
  have hrn0 : ¬ (1 : Int) + (rn : Int) < 0 := by omega
  go_wp2_with fail
  refine hH11.out.mono ?_
  rintro e w12 ⟨rfl, e12⟩
  obtain rfl := e12
  obtain ⟨y0, y1, -⟩ := row2 (Hbox.out _ _ B11.out)
  have HT12 := hide' (HT'.out w11 (Below.on (Hb.out _) B11.out))
  go_wp2_with fail
  refine HT12.out.mono ?_
  rintro e w13 ⟨z, rfl, hO13, b13⟩
  have B13 := hide' (Below.on B11.out b13)
  have hI13 := hide' (HIm'.out z w13 hO13.read (Below.on (Hb.out _) B13.out))
  have HG13 := hide' (HG11.out.on b13)
  have HW13 := hide' (HW11.out.on b13)
  obtain ⟨za', zc', hzf⟩ := hO13.form
  rw [hEl] at hzf
  subst hzf
  clear hO13 b13 HT12 HG11 HW11 B11 y0 y1 hH11
  go_wp2_with fail
  refine hI13.out.mono ?_
  rintro e w14 ⟨Hv, rfl, hH14, b14⟩
  obtain ⟨Ha, Hc, hHf⟩ := hH14.form
  rw [hRn] at hHf
  subst hHf
  have hE14 := hide' (eqIntS_same w14.heap.size _ _ R w14 hH14.read (HW13.out.on b14).read (Nat.le_refl _))
  have HG14 := hide' (HG13.out.on b14)
  have B14 := hide' (Below.on B13.out b14)
  clear hH14 b14 hI13 HG13 HW13 B13
  go_wp2_with fail
  refine hE14.out.mono ?_
  rintro e w15 ⟨rfl, b15⟩
  have hH15 := hide' (heldIntS_any w15.heap.size _ 1 rn w15 (HG14.out.on b15).read (by omega) (by omega))
  have B15 := hide' (Below.on B14.out b15)
  clear b15 hE14 HG14 B14
  go_wp2_with fail
  refine hH15.out.mono ?_
  rintro e w16 ⟨rfl, e16⟩
  obtain rfl := e16
  have HB := hide' (Below.on (Hb.out _) B15.out)
  go_wp2
  go_ret
  exact ⟨rfl, HB.out⟩
end Go.Proofs.Ytpnohgncnmbkdaa
/-
  Ring of the program.
-/
namespace Go.Proofs.Ytpnohgncnmbkdaa
open Go.RowKit
set_option linter.unusedVariables false
set_option linter.unusedSimpArgs false

theorem ringA_len (n : Int) (E : List Edg) : (ringA n E).length ≤ 1048576 := by
  unfold ringA
  split
  · next h =>
    have := ringF_len n.toNat E n.toNat
    have := (gB_iff.1 h).2.1
    omega
  · simp
theorem ring_src {n : Nat} {E : List Edg} (hg : gB (n : Int) E = true) (v : Nat) : ringB n E v = ((srcF n E).getD v 0).getLsbD v := by
  have hE := g_in hg
  have hn : n ≤ 20 := by have := (gB_iff.1 hg).2.1; omega
  have h := src_iff hn hE v (b := (v : Int)) (by omega)
  rw [Bool.eq_iff_iff, ring_iff hE, ← h]
  simp [bvAt]

/-- A row that is read, and numbers of the call's own behind B. -/
def QSt (sr : List BV) (D B : Nat) (w : World) (u : Value) (l : List Int) (wr : World) : Prop := VRow (fun x : BV => Value.int .u32 (x.toNat : Int)) 67 D sr wr ∧ NOwn wr B u l ∧ Below w.heap.size w wr ∧ B ≤ wr.heap.size ∧ D < B ∧ w.heap.size ≤ B
theorem qSt_add {sr : List BV} {D B g cp : Nat} {w wr w6 : World} {ua : Option Addr} {uc : Nat} {l : List Int} {x : Int} {o : Obj} (h : QSt sr D B w (.slice ua l.length uc) l wr) (h1 : w6.ownsRow B 3 1 (.slice (some ⟨g, 0, none⟩) (l.length + 1) cp) (l.length + 1) (iC l ++ [.int .i64 x])) (h2 : (wr.alloc o).grownBy w6 (Value.slice ua l.length uc).ownBlock) : QSt sr D B w (.slice (some ⟨g, 0, none⟩) (l.length + 1) cp) (l ++ [x]) w6 := by
  obtain ⟨q1, q2, q3, q4, q5, q6⟩ := h
  refine ⟨(q1.keep (World.grownBy_alloc wr o none) (by simp)).keep h2 (fun e => by have := (q2.lt _ e).1; omega), ?_, (q3.alloc (by omega) o).grown h2 (by simp; omega) (fun k hk => by have := (q2.lt _ hk).1; omega), by have := h2.size; simp at this; omega, q5, q6⟩
  unfold NOwn
  rw [iC_add, List.length_append]
  exact h1

set_option maxHeartbeats 3200000 in
set_option maxRecDepth 100000 in
theorem impl_Ring_any (N : Nat) (n : Int) (x : Value) (E : List Edg) (w : World) (hx : ESeg (fun b => b < N) w x E) (hN : N ≤ w.heap.size) :
    Calls Try.prog 20 #[.agg #[.int .i64 n, x]] w fun e w' => ∃ u, e = .returned u ∧ NOwn w' w.heap.size u (ringA n E) ∧ Below w.heap.size w w' := by
  have HX : Hid (∀ wx, Below w.heap.size w wx → ESeg (fun b => b < N) wx x E) := fun wx hb => hx.agree (agree_below (hb.mono hN))
  have Hb : Hid (∀ o : Obj, Below w.heap.size w (w.alloc o)) := fun o => (Below.refl _ _).alloc (Nat.le_refl _) o
  have Hbox : Hid (∀ o wx, Below (w.alloc o).heap.size (w.alloc o) wx → wx.heap[w.heap.size]? = some o) := fun o wx h => box_row h
  have HG : Hid (∀ wx, Below w.heap.size w wx → Calls Try.prog 18 #[.agg #[.int .i64 n, x]] wx fun e w' => e = .returned (.bool (gB n E)) ∧ Below wx.heap.size wx w') := fun wx hb => impl_GraphOk_any N n x E wx (HX.out wx hb) (by have := hb.size; omega)
  have HSr : Hid (gB n E = true → ∀ wx, Below w.heap.size w wx → Calls Try.prog 52 #[.agg #[.int .i64 n, x]] wx fun e w' => ∃ D, e = .returned (.slice (some ⟨D, 0, none⟩) n.toNat n.toNat) ∧ wx.heap.size ≤ D ∧ VRow (fun x : BV => Value.int .u32 (x.toNat : Int)) 67 D (srcF n.toNat E) w' ∧ Below wx.heap.size wx w') := fun hg wx hb => sources_g N n x E wx (HX.out wx hb) (by have := hb.size; omega) hg
  obtain ⟨i3, hi3, hy0, hy1, hy2⟩ := info_parts infoI
  obtain ⟨a, cap, rfl, -⟩ := hx
  clear HX
  generalize hll : E.length = ll at *
  cases hg : gB n E with
  | false =>
    have HF : Hid (ringA n E = []) := by show _ = _; simp [ringA, hg]
    rw [hg] at HG
    clear HSr
    go_enter Try.func20, Try.ntmps20
    go_wp2_with fail
    refine (HG.out _ (Hb.out _)).mono ?_
    rintro e w1 ⟨rfl, b1⟩
    have B1 := hide' (Below.on (Hb.out _) b1)
    clear b1
    go_wp2
    go_ret
    exact ⟨_, rfl, by rw [HF.out]; exact NOwn.nil _ _, B1.out⟩
  | true =>
    rw [hg] at HG
    obtain ⟨c0, c1, _⟩ := gB_iff.1 hg
    obtain ⟨m, rfl⟩ : ∃ m : Nat, n = (m : Int) := ⟨n.toNat, by omega⟩
    have HF : Hid (ringA (m : Int) E = ringF m E m) := by show _ = _; simp [ringA, hg]
    have HSr' := hide' (HSr.out hg)
    have HRs : Hid (∀ k, ringF m E (k + 1) = ringF m E k ++ (if ((srcF m E).getD k 0).getLsbD k = true then [(k : Int)] else [])) := fun k => by rw [ringF_succ, ring_src hg]
    have HRl : Hid (∀ k, (ringF m E k).length ≤ k) := fun k => ringF_len m E k
    have HR0 : Hid (ringF m E 0 = []) := rfl
    have hsl := srcF_len m E
    simp only [Int.toNat_natCast] at HSr'
    have hm20 : m ≤ 20 := by omega
    clear HSr hg c0 c1
    generalize srcF m E = sr at *
    generalize ringF m E = rg at *
    go_enter Try.func20, Try.ntmps20
    go_wp2_with fail
    refine (HG.out _ (Hb.out _)).mono ?_
    rintro e w1 ⟨rfl, b1⟩
    obtain ⟨y0, y1, -⟩ := row2 (Hbox.out _ _ b1)
    have B1 := hide' (Below.on (Hb.out _) b1)
    clear b1
    go_wp2_with fail
    refine (HSr'.out _ B1.out).mono ?_
    rintro e w2 ⟨D, rfl, hDl, hrow, b2⟩
    have hS0 : Hid (QSt sr D w2.heap.size w (.slice none 0 0) (rg 0) w2) := by
      refine ⟨hrow, ?_, Below.on B1.out b2, Nat.le_refl _, hrow.lt, (Below.on B1.out b2).size⟩
      rw [HR0.out]
      exact NOwn.nil _ _
    clear b2 y0 y1 B1 hrow HSr' hDl
    generalize w2.heap.size = B at *
    go_wp2_with fail
    go_loopw [3, 12] (fun u i wr => ∃ j : Nat, i = .int .i64 j ∧ j ≤ m ∧ Hid (QSt sr D B w u (rg j) wr)) (fun _ i _ => m - (intOf i).toNat)
    case atStart => exact ⟨0, rfl, Nat.zero_le _, hS0⟩
    case round =>
      clear hS0
      obtain ⟨j, rfl, hj, hS⟩ := hrel
      obtain ⟨ua, uc, rfl⟩ := hS.out.2.1.form
      have hol := HRl.out j
      by_cases hjk : j < m
      · have hjk' : (j : Int) < (m : Int) := by omega
        obtain ⟨r0, -⟩ := hS.out.1.at (m := j) (by omega) 0
        (try dsimp only at r0)
        have hos := HRs.out j
        have HH := hide' (has_any (sr.getD j 0) j (by omega))
        generalize sr.getD j 0 = bv at *
        cases hb : bv.getLsbD j with
        | true =>
          rw [if_pos hb] at hos
          rw [hb] at HH
          have HOw : Hid (∀ o, (wr.alloc o).ownsRow B 3 1 (.slice ua (rg j).length uc) (rg j).length (iC (rg j))) := fun o => World.ownsRow.alloc hS.out.2.1 o
          have hzr : B ≤ wr.heap.size := hS.out.2.2.2.1
          have HNx : Hid (∀ o g cp w6, w6.ownsRow B 3 1 (.slice (some ⟨g, 0, none⟩) ((rg j).length + 1) cp) ((rg j).length + 1) (iC (rg j) ++ [.int .i64 (j : Int)]) → (wr.alloc o).grownBy w6 (Value.slice ua (rg j).length uc).ownBlock → QSt sr D B w (.slice (some ⟨g, 0, none⟩) ((rg j).length + 1) cp) (rg (j + 1)) w6) := fun o g cp w6 h1 h2 => by
            rw [hos]
            exact qSt_add hS.out h1 h2
          clear hS hos hb
          generalize hol' : (rg j).length = ol at *
          go_wp2_with fail
          refine (HH.out _).mono ?_
          rintro e w5 ⟨rfl, e5⟩
          obtain rfl := e5
          go_wp2_with (at_builtin; refine wpList_append_lies _ rfl (.tmp 20) (.tmp 22) 27 (by rfl) B 3 i3 (.int .i64 0) 1 8 Try.underlying27 hi3 hy0 hy1 hy2 rfl (by decide) (.slice ua ol uc) ol (iC (rg j)) (by rfl) (HOw.out _) ⟨wr.heap.size, 0, none⟩ 1 1 [.int .i64 (j : Int)] (by rfl) (by rfl) (World.news_of_block (cs := #[.int .i64 (j : Int)]) (t := 3) (fr := (0, 0)) (heap_alloc_new wr _)) (by simp [Value.oneCell']) (by omega) (by unfold maxLen; omega) (by omega) (by simp; omega) (wr.heap.size + 1) (by simp) ?_; intro g6 cp6 w6 hown6 hg6 hat6 hlt6; replace hown6 := hide' (HNx.out _ _ _ _ hown6 hg6); clear hg6 hat6 hlt6)
          go_wp2
          go_roundw
          case rel => exact ⟨j + 1, by go_num, by omega, hown6⟩
          case measure => simp [intOf]; omega
        | false =>
          rw [if_neg (by simp [hb])] at hos
          rw [hb] at HH
          have HN : Hid (QSt sr D B w (.slice ua (rg j).length uc) (rg (j + 1)) wr) := by
            rw [hos, List.append_nil]
            exact hS.out
          clear hS hos hb
          generalize (rg j).length = ol at *
          go_wp2_with fail
          refine (HH.out _).mono ?_
          rintro e w5 ⟨rfl, e5⟩
          obtain rfl := e5
          go_wp2
          go_roundw
          case rel => exact ⟨j + 1, by go_num, by omega, HN⟩
          case measure => simp [intOf]; omega
      · have hjk' : ¬ (j : Int) < (m : Int) := by omega
        obtain rfl : j = m := by omega
        have HF' := hide' (And.intro (hS.out.2.1.down (base' := w.heap.size) hS.out.2.2.2.2.2) hS.out.2.2.1)
        clear hS
        generalize (rg j).length = ol at *
        go_wp2
        go_ret
        exact ⟨_, rfl, by rw [HF.out]; exact HF'.out.1, HF'.out.2⟩
end Go.Proofs.Ytpnohgncnmbkdaa
