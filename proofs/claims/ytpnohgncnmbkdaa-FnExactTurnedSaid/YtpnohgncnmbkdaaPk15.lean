/-
  Texts that a law leans on, one behind the other; no statement is proved here.
-/
import Derived.Test.YtpnohgncnmbkdaaPk1
import Derived.Deep.RegionHeld3
import Derived.Deep.Cut
import Derived.Test.YtpnohgncnmbkdaaPk7
/-
  FnExactOrder answers true, once both calls' ends are known; written by wip/gen/graph.py.
-/
namespace Go.Proofs.Ytpnohgncnmbkdaa
open Go.RowKit
set_option linter.unusedVariables false
set_option linter.unusedSimpArgs false

set_option maxHeartbeats 6400000 in
set_option maxRecDepth 100000 in
theorem walk_WgOr (n : Int) (x : Value) (E : List Edg) (R : List Int) (bb : Bool) (w : World) (hx : ESeg (fun b => b < w.heap.size) w x E) (hRl : R.length ≤ 1048576)
    (HSp : ∀ u wx, ESeg (fun b => b < wx.heap.size) wx u E → Calls Try.prog 30 #[.agg #[.int .i64 n, u]] wx (fun e w' => ∃ u, e = .returned (.tuple #[u, .bool bb]) ∧ NOwn w' wx.heap.size u R ∧ Below wx.heap.size wx w'))
    (HIm : ∀ u wx, ESeg (fun b => b < wx.heap.size) wx u E → Below w.heap.size w wx → Calls Try.prog 16 #[.agg #[.int .i64 n, u]] wx (fun e w' => ∃ u, e = .returned (.tuple #[u, .bool bb]) ∧ NOwn w' wx.heap.size u R ∧ Below wx.heap.size wx w')) :
    Calls Try.prog 7 #[.agg #[.int .i64 n, x]] w fun e w' => e = .returned (.bool true) ∧ Below w.heap.size w w' := by
  have Hb : Hid (∀ o : Obj, Below w.heap.size w (w.alloc o)) := fun o => (Below.refl _ _).alloc (Nat.le_refl _) o
  have Hbox : Hid (∀ o wx, Below (w.alloc o).heap.size (w.alloc o) wx → wx.heap[w.heap.size]? = some o) := fun o wx h => box_row h
  have HX : Hid (∀ wx, Below w.heap.size w wx → ESeg (fun b => b < w.heap.size) wx x E) := fun wx hb => hx.agree (agree_below hb)
  have HS : Hid (∀ wx, Below w.heap.size w wx → Calls Try.prog 27 #[.agg #[.int .i64 n, x], .int .i64 1048576] wx fun e w' => e = .returned (.int .i64 (lessN 1048576 E.length)) ∧ Below wx.heap.size wx w') := fun wx hb => szGraph_any _ n x E wx (HX.out wx hb) (fun b hb' => Nat.lt_of_lt_of_le hb' hb.size)
  have HT : Hid (E.length ≤ 1048576 → ∀ wx, Below w.heap.size w wx → Calls Try.prog 28 #[.agg #[.int .i64 n, x]] wx fun e w' => ∃ u, e = .returned (.agg #[.int .i64 n, u]) ∧ EOwn w' wx.heap.size u E ∧ Below wx.heap.size wx w') := fun hl wx hb => toGraph_any w.heap.size n x E wx (HX.out wx hb) hb.size hl
  have HEq : Hid (∀ (y z : Value) wx, ESeg (fun b => b < wx.heap.size) wx y E → ESeg (fun b => b < wx.heap.size) wx z E → Calls Try.prog 29 #[.agg #[.int .i64 n, y], .agg #[.int .i64 n, z]] wx fun e w' => e = .returned (.bool true) ∧ Below wx.heap.size wx w') := fun y z wx h1 h2 => eqGraph_same wx.heap.size n y z E wx h1 h2 (Nat.le_refl _)
  have HSp' := hide' HSp
  have HIm' := hide' HIm
  obtain ⟨a, cap, rfl, -⟩ := hx
  clear HSp HIm HX
  by_cases hz : (1048576 : Int) < (E.length : Int)
  · have hl : lessN 1048576 E.length = -1 := if_pos hz
    rw [hl] at HS
    clear hl HT HEq HSp' HIm'
    generalize E.length = ll at *
    go_enter Try.func7, Try.ntmps7
    go_wp2_with fail
    refine (HS.out _ (Hb.out _)).mono ?_
    rintro e w1 ⟨rfl, b1⟩
    have B1 := Below.on (Hb.out _) b1
    clear b1
    go_wp2
    go_ret
    exact ⟨rfl, B1⟩
  have hl : lessN 1048576 E.length = 1048576 - E.length := if_neg hz
  rw [hl] at HS
  have HT' := hide' (HT.out (by omega))
  have hll : E.length ≤ 1048576 := by omega
  have hz0 : 0 ≤ (1048576 : Int) - (E.length : Int) := by omega
  have hz1 : (1048576 : Int) - (E.length : Int) ≤ 1048576 := by omega
  clear hl hz HT
  generalize hEl : E.length = ll at *
  generalize (1048576 : Int) - (ll : Int) = lft at *
  go_enter Try.func7, Try.ntmps7
  go_wp2_with fail
  refine (HS.out _ (Hb.out _)).mono ?_
  rintro e w1 ⟨rfl, b1⟩
  obtain ⟨y0, y1, -⟩ := row2 (Hbox.out _ _ b1)
  have B1 := hide' b1
  have HT1 := hide' (HT'.out w1 (Below.on (Hb.out _) b1))
  clear b1 HS
  go_wp2_with fail
  refine HT1.out.mono ?_
  rintro e w2 ⟨u, rfl, hO2, b2⟩
  have hS2 := hide' (HSp'.out u w2 hO2.read)
  have B2 := hide' (Below.on B1.out b2)
  obtain ⟨ua, uc, hu⟩ := hO2.form
  rw [hEl] at hu
  subst hu
  clear hO2 b2 HT1 B1 y0 y1
  go_wp2_with fail
  refine hS2.out.mono ?_
  rintro e w3 ⟨Wv, rfl, hW3, b3⟩
  have hBw := hW3.lt
  obtain ⟨Wa, Wc, hWf⟩ := hW3.form
  have HW3 := hide' hW3
  have HBw : Hid (∀ k, Wv.ownBlock = some k → k < w3.heap.size) := fun k hk => (hBw k hk).2
  have B3 := hide' (Below.on B2.out b3)
  subst hWf
  clear b3 hS2 B2 hW3 hBw
  generalize hRn : R.length = rn at *
  obtain ⟨y0, y1, -⟩ := row2 (Hbox.out _ _ B3.out)
  have HT3 := hide' (HT'.out w3 (Below.on (Hb.out _) B3.out))
  go_wp2_with fail
  refine HT3.out.mono ?_
  rintro e w4 ⟨v, rfl, hO4, b4⟩
  obtain ⟨va, vc, hvf⟩ := hO4.form
  rw [hEl] at hvf
  subst hvf
  have bal : Below w4.heap.size w4 (w4.alloc (.cells #[.int .i64 n, .slice va ll vc] 25)) := (Below.refl _ _).alloc (Nat.le_refl _) _
  have B4 := hide' (Below.on (Below.on B3.out b4) bal)
  have hI4 := hide' (HIm'.out _ _ (hO4.on bal).read (Below.on (Hb.out _) B4.out))
  have HO4 := hide' (hO4.on bal)
  have hx4 := (MapKept.heap_alloc w4 (.cells #[.int .i64 n, .slice va ll vc] 25)).1
  have HBx : Hid (∀ k, (Value.slice va ll vc).ownBlock = some k → w3.heap.size ≤ k ∧ k < w4.heap.size) := hO4.lt
  have hz34 : w3.heap.size ≤ w4.heap.size := b4.size
  have HW4 := hide' ((HW3.out.on b4).on bal)
  have Hx4 : Hid (∀ wx, Below (w4.alloc (.cells #[.int .i64 n, .slice va ll vc] 25)).heap.size (w4.alloc (.cells #[.int .i64 n, .slice va ll vc] 25)) wx → wx.heap[w4.heap.size]? = some (.cells #[.int .i64 n, .slice va ll vc] 25)) := fun wx hb => box_row hb
  clear hO4 b4 bal HT3 y0 y1 hx4 HW3
  go_wp2_with fail
  refine hI4.out.mono ?_
  rintro e w5 ⟨Gv, rfl, hG5, b5⟩
  have hBg := hG5.lt
  obtain ⟨Ga, Gc, hGf⟩ := hG5.form
  rw [hRn] at hGf
  subst hGf
  have HBg : Hid (∀ k, (Value.slice Ga rn Gc).ownBlock = some k → w4.heap.size + 1 ≤ k ∧ k < w5.heap.size) := fun k hk => by have := hBg k hk; simp at this; exact this
  have hW5 := HW4.out.on b5
  have hEK := hide' (eqIntS_same w5.heap.size _ _ R w5 hG5.read hW5.read (Nat.le_refl _))
  have HG5 := hide' hG5
  have HW5 := hide' hW5
  have B5 := hide' (Below.on B4.out b5)
  have HO5 := hide' (HO4.out.on b5)
  have Hx5 := hide' (Hx4.out _ b5)
  clear b5 hI4 HO4 B4 hG5 hW5 hBg HW4
  go_wp2_with fail
  refine hEK.out.mono ?_
  rintro e w6 ⟨rfl, b6⟩
  have B6 := hide' (Below.on B5.out b6)
  have HO6 := hide' (HO5.out.on b6)
  have HG6 := hide' (HG5.out.on b6)
  have HW6 := hide' (HW5.out.on b6)
  have hz56 : w5.heap.size ≤ w6.heap.size := b6.size
  have hx6 := (b6.block w4.heap.size ((Array.getElem?_eq_some_iff.1 Hx5.out).1)).trans Hx5.out
  obtain ⟨v0, v1, -⟩ := row2 hx6
  have Hx6 := hide' hx6
  clear b6 hEK HO5 HG5 HW5 B5 hx6 Hx5
  obtain ⟨y0, y1, -⟩ := row2 (Hbox.out _ _ B6.out)
  have HTd : Hid (Calls Try.prog 28 #[.agg #[.int .i64 n, .slice a ll cap]] w6.drew fun e w7 => ∃ za zc, e = .returned (.agg #[.int .i64 n, .slice za ll zc]) ∧ (w7.cell? ⟨w.heap.size, 0, none⟩ = some (.int .i64 n) ∧ w7.cell? ⟨w.heap.size, 1, none⟩ = some (.slice a ll cap) ∧ w7.cell? ⟨w4.heap.size, 0, none⟩ = some (.int .i64 n) ∧ w7.cell? ⟨w4.heap.size, 1, none⟩ = some (.slice va ll vc)) ∧ Hid (Calls Try.prog 29 #[.agg #[.int .i64 n, .slice va ll vc], .agg #[.int .i64 n, .slice za ll zc]] w7 fun e w8 => e = .returned (.bool true) ∧ (w8.cell? ⟨w.heap.size, 0, none⟩ = some (.int .i64 n) ∧ w8.cell? ⟨w.heap.size, 1, none⟩ = some (.slice a ll cap) ∧ w8.cell? ⟨w4.heap.size, 0, none⟩ = some (.int .i64 n) ∧ w8.cell? ⟨w4.heap.size, 1, none⟩ = some (.slice va ll vc)) ∧ Hid (Below w6.heap.size w6 w8))) := by
    refine (HT'.out w6.drew (Below.on (Hb.out _) B6.out).drew).mono ?_
    rintro e w7 ⟨z, rfl, hO7, b7⟩
    obtain ⟨za, zc, hzf⟩ := hO7.form
    rw [hEl] at hzf
    subst hzf
    have b67 : Below w6.heap.size w6 w7 := Below.on (Below.refl _ w6).drew b7
    have hkp : ∀ wy, Below w6.heap.size w6 wy → (wy.cell? ⟨w.heap.size, 0, none⟩ = some (.int .i64 n) ∧ wy.cell? ⟨w.heap.size, 1, none⟩ = some (.slice a ll cap) ∧ wy.cell? ⟨w4.heap.size, 0, none⟩ = some (.int .i64 n) ∧ wy.cell? ⟨w4.heap.size, 1, none⟩ = some (.slice va ll vc)) := fun wy hb => by
      obtain ⟨f0, f1, -⟩ := row2 (Hbox.out _ _ (Below.on B6.out hb))
      obtain ⟨f2, f3, -⟩ := row2 ((hb.block w4.heap.size ((Array.getElem?_eq_some_iff.1 Hx6.out).1)).trans Hx6.out)
      exact ⟨f0, f1, f2, f3⟩
    refine ⟨za, zc, rfl, hkp _ b67, ?_⟩
    exact (HEq.out _ _ w7 (HO6.out.on b67).read hO7.read).mono fun e w8 h => ⟨h.1, hkp _ (Below.on b67 h.2), Below.on b67 h.2⟩
  go_wp2_with fail
  go_region_held3 (fun wx => wx.cell? ⟨w.heap.size, 0, none⟩ = some (.int .i64 n) ∧ wx.cell? ⟨w.heap.size, 1, none⟩ = some (.slice a ll cap) ∧ wx.cell? ⟨w4.heap.size, 0, none⟩ = some (.int .i64 n) ∧ wx.cell? ⟨w4.heap.size, 1, none⟩ = some (.slice va ll vc)) (go_keep) (first
    | (go_at_call 28; refine HTd.out.mono ?_; rintro e w7 ⟨za, zc, rfl, ⟨i0, i1, i2, i3⟩, hE7⟩)
    | (go_at_call 29; refine hE7.out.mono ?_; rintro e w8 ⟨rfl, ⟨j0, j1, j2, j3⟩, hb8⟩)
    | fail)
  have HO8 := hide' (HO6.out.on hb8.out)
  have HG8 := hide' (HG6.out.on hb8.out)
  have HW8 := hide' (HW6.out.on hb8.out)
  have B8 := hide' (Below.on B6.out hb8.out)
  have HBk : Hid ((w.alloc (.cells #[.int .i64 n, .slice a ll cap] 45)).heap.size ≤ w3.heap.size) := B3.out.size
  clear y0 y1 v0 v1 i0 i1 i2 i3 hE7 HTd HO6 HG6 HW6 B6
  have hM8 := hide' (markGraph_any w3.heap.size n _ E 1 w8 HO8.out (by omega) (by omega))
  rw [hEl] at hM8
  go_wp2_with fail
  refine hM8.out.mono ?_
  rintro e w9 ⟨rfl, -, hg9⟩
  have hG9 := HG8.out.far hg9 (fun k hk e' => by have h1 := HBg.out k hk; have h2 := HBx.out k e'; omega)
  have hW9 := HW8.out.far hg9 (fun k hk e' => by have h1 := HBw.out k hk; have h2 := HBx.out k e'; omega)
  have B9 := hide' (B8.out.grown hg9 B8.out.size (fun k hk => by have h2 := HBx.out k hk; have h3 := HBk.out; omega))
  have hE9 := hide' (eqIntS_same w9.heap.size _ _ R w9 hG9.read hW9.read (Nat.le_refl _))
  have HG9 := hide' hG9
  have HW9 := hide' hW9
  clear hg9 hG9 hW9 HG8 HW8 B8 hM8 HO8 j0 j1 j2 j3
  have hk0 : ¬ (1 : Int) + (ll : Int) * 2 < 0 := by omega
  go_wp2_with fail
  refine hE9.out.mono ?_
  rintro e w10 ⟨rfl, b10⟩
  have hM10 := hide' (markIntS_any _ _ R 1 w10 (HG9.out.on b10) (by omega) (by omega))
  have HW10 := hide' (HW9.out.on b10)
  have B10 := hide' (Below.on B9.out b10)
  rw [hRn] at hM10
  clear b10 hE9 HG9 HW9 B9
  go_wp2_with fail
  refine hM10.out.mono ?_
  rintro e w11 ⟨rfl, hG11, hg11⟩
  have HW11 := hide' (HW10.out.far hg11 (fun k hk e' => by have h1 := HBw.out k hk; have h2 := HBg.out k e'; omega))
  have B11 := hide' (B10.out.grown hg11 B10.out.size (fun k hk => by have h2 := HBg.out k hk; have h3 := HBk.out; omega))
  have HG11 := hide' hG11
  have hH11 := hide' (heldIntS_any w11.heap.size _ 1 rn w11 hG11.read (by omega) (by omega))
  clear hG11 hg11 hM10 HW10 B10
  have hrn0 : ¬ (1 : Int) + (rn : Int) < 0 := by omega
  go_wp2_with fail
  refine hH11.out.mono ?_
  rintro e w12 ⟨rfl, e12⟩
  obtain rfl := e12
  obtain ⟨y0, y1, -⟩ := row2 (Hbox.out _ _ B11.out)
  have HT12 := hide' (HT'.out w11 (Below.on (Hb.out _) B11.out))
  go_wp2_with fail
  refine HT12.out.mono ?_
  rintro e w13 ⟨z, rfl, hO13, b13⟩
  have B13 := hide' (Below.on B11.out b13)
  have hI13 := hide' (HIm'.out z w13 hO13.read (Below.on (Hb.out _) B13.out))
  have HG13 := hide' (HG11.out.on b13)
  have HW13 := hide' (HW11.out.on b13)
  obtain ⟨za', zc', hzf⟩ := hO13.form
  rw [hEl] at hzf
  subst hzf
  clear hO13 b13 HT12 HG11 HW11 B11 y0 y1 hH11
  go_wp2_with fail
  refine hI13.out.mono ?_
  rintro e w14 ⟨Hv, rfl, hH14, b14⟩
  obtain ⟨Ha, Hc, hHf⟩ := hH14.form
  rw [hRn] at hHf
  subst hHf
  have hE14 := hide' (eqIntS_same w14.heap.size _ _ R w14 hH14.read (HW13.out.on b14).read (Nat.le_refl _))
  have HG14 := hide' (HG13.out.on b14)
  have B14 := hide' (Below.on B13.out b14)
  clear hH14 b14 hI13 HG13 HW13 B13
  go_wp2_with fail
  refine hE14.out.mono ?_
  rintro e w15 ⟨rfl, b15⟩
  have hH15 := hide' (heldIntS_any w15.heap.size _ 1 rn w15 (HG14.out.on b15).read (by omega) (by omega))
  have B15 := hide' (Below.on B14.out b15)
  clear b15 hE14 HG14 B14
  go_wp2_with fail
  refine hH15.out.mono ?_
  rintro e w16 ⟨rfl, e16⟩
  obtain rfl := e16
  have HB := hide' (Below.on (Hb.out _) B15.out)
  go_wp2
  go_ret
  exact ⟨rfl, HB.out⟩
end Go.Proofs.Ytpnohgncnmbkdaa
/-
  A heap of numbers in a list: plain mathematics. Where it stands: each is not below its parent; up and down mend the one place that may be wrong.
-/
namespace Go.Proofs.Ytpnohgncnmbkdaa
open Go.RowKit
set_option linter.unusedVariables false
set_option linter.unusedSimpArgs false

/-- What lies at k. -/
def hp (H : List Int) (k : Nat) : Int := H.getD k 0
/-- Two places changed for one another. -/
def swapL (H : List Int) (i j : Nat) : List Int := (H.set i (hp H j)).set j (hp H i)

theorem hp_get {H : List Int} {k : Nat} (h : k < H.length) : hp H k = H[k] := by simp [hp, List.getD_eq_getElem?_getD, h]
theorem swapL_len (H : List Int) (i j : Nat) : (swapL H i j).length = H.length := by simp [swapL]
theorem hp_set {H : List Int} {i k : Nat} {x : Int} (h : i < H.length) : hp (H.set i x) k = if k = i then x else hp H k := by
  unfold hp
  by_cases e : k = i
  · subst e
    rw [if_pos rfl]
    simp [List.getD_eq_getElem?_getD, h]
  · rw [if_neg e]
    simp [List.getD_eq_getElem?_getD, List.getElem?_set_ne (Ne.symm e)]
theorem hp_swap {H : List Int} {i j : Nat} (hi : i < H.length) (hj : j < H.length) (k : Nat) : hp (swapL H i j) k = if k = j then hp H i else if k = i then hp H j else hp H k := by
  unfold swapL
  rw [hp_set (by simpa using hj), hp_set hi]
theorem swapL_perm {H : List Int} {i j : Nat} (hi : i < H.length) (hj : j < H.length) : (swapL H i j).Perm H := by
  have h1 := Array.swap_perm (xs := H.toArray) (i := i) (j := j) (by simpa using hi) (by simpa using hj)
  have h2 := Array.perm_iff_toList_perm.1 h1
  rw [Array.toList_swap] at h2
  simp at h2
  unfold swapL
  rw [hp_get hi, hp_get hj]
  exact h2

/-- The first n are a heap. -/
def HeapN (H : List Int) (n : Nat) : Prop := ∀ k, 0 < k → k < n → hp H ((k - 1) / 2) ≤ hp H k
/-- All but the one at j stand; what is below j is not below j's parent. -/
def UpI (H : List Int) (n j : Nat) : Prop := (∀ k, 0 < k → k < n → k ≠ j → hp H ((k - 1) / 2) ≤ hp H k) ∧ ∀ k, 0 < k → k < n → (k - 1) / 2 = j → 0 < j → hp H ((j - 1) / 2) ≤ hp H k
/-- All but those below i stand; what is below i is not below i's parent. -/
def DnI (H : List Int) (n i : Nat) : Prop := (∀ k, 0 < k → k < n → (k - 1) / 2 ≠ i → hp H ((k - 1) / 2) ≤ hp H k) ∧ ∀ k, 0 < k → k < n → (k - 1) / 2 = i → 0 < i → hp H ((i - 1) / 2) ≤ hp H k

theorem up_end0 {H : List Int} {n : Nat} (h : UpI H n 0) : HeapN H n := fun k h0 h1 => h.1 k h0 h1 (by omega)
theorem up_end {H : List Int} {n j : Nat} (h : UpI H n j) (hj : ¬ hp H j < hp H ((j - 1) / 2)) : HeapN H n := fun k h0 h1 => by
  by_cases e : k = j
  · subst e; omega
  · exact h.1 k h0 h1 e
theorem up_step {H : List Int} {n j : Nat} (h : UpI H n j) (hn : n ≤ H.length) (hj0 : 0 < j) (hj : j < n) (hl : hp H j < hp H ((j - 1) / 2)) : UpI (swapL H ((j - 1) / 2) j) n ((j - 1) / 2) := by
  have hi : (j - 1) / 2 < H.length := by omega
  have hs := fun k => hp_swap hi (show j < H.length by omega) k
  obtain ⟨h1, h2⟩ := h
  refine ⟨fun k k0 kn ke => ?_, fun k k0 kn kp j0 => ?_⟩
  · rw [hs, hs]
    by_cases c1 : k = j
    · subst c1
      rw [if_pos rfl, if_neg (by omega), if_pos rfl]
      omega
    · rw [if_neg c1, if_neg ke]
      by_cases c2 : (k - 1) / 2 = j
      · rw [if_pos c2]
        exact h2 k k0 kn c2 hj0
      · rw [if_neg c2]
        by_cases c3 : (k - 1) / 2 = (j - 1) / 2
        · rw [if_pos c3]
          have := h1 k k0 kn c1
          rw [c3] at this
          omega
        · rw [if_neg c3]
          exact h1 k k0 kn c1
  · rw [hs, hs]
    have e1 : ¬ ((j - 1) / 2 - 1) / 2 = j := by omega
    have e2 : ¬ ((j - 1) / 2 - 1) / 2 = (j - 1) / 2 := by omega
    rw [if_neg e1, if_neg e2]
    have hpar := h1 ((j - 1) / 2) j0 (by omega) (by omega)
    by_cases c1 : k = j
    · rw [if_pos c1]
      exact hpar
    · rw [if_neg c1, if_neg (by omega)]
      have := h1 k k0 kn c1
      rw [kp] at this
      omega
theorem dn_end {H : List Int} {n i : Nat} (h : DnI H n i) (hn : ∀ k, 0 < k → k < n → (k - 1) / 2 = i → hp H i ≤ hp H k) : HeapN H n := fun k h0 h1 => by
  by_cases e : (k - 1) / 2 = i
  · rw [e]
    exact hn k h0 h1 e
  · exact h.1 k h0 h1 e
theorem dn_step {H : List Int} {n i j : Nat} (h : DnI H n i) (hn : n ≤ H.length) (hj : j < n) (hji : (j - 1) / 2 = i) (hj0 : 0 < j) (hmin : ∀ k, 0 < k → k < n → (k - 1) / 2 = i → hp H j ≤ hp H k) (hl : hp H j < hp H i) : DnI (swapL H i j) n j := by
  have hi : i < H.length := by omega
  have hs := fun k => hp_swap hi (show j < H.length by omega) k
  obtain ⟨h1, h2⟩ := h
  refine ⟨fun k k0 kn ke => ?_, fun k k0 kn kp _ => ?_⟩
  · rw [hs, hs]
    by_cases c1 : k = j
    · subst c1
      rw [if_pos rfl, if_neg (by omega), if_pos hji]
      omega
    · rw [if_neg c1, if_neg ke]
      by_cases c2 : (k - 1) / 2 = i
      · rw [if_pos c2, if_neg (by omega)]
        exact hmin k k0 kn c2
      · rw [if_neg c2]
        by_cases c3 : k = i
        · rw [if_pos c3]
          subst c3
          exact h2 j hj0 hj hji k0
        · rw [if_neg c3]
          exact h1 k k0 kn c2
  · rw [hs, hs, hji]
    rw [if_neg (show ¬ i = j by omega), if_pos rfl, if_neg (show ¬ k = j by omega), if_neg (show ¬ k = i by omega)]
    have := h1 k k0 kn (by omega)
    rw [kp] at this
    exact this
/-- The first one is the least. -/
theorem heap_min {H : List Int} {n : Nat} (h : HeapN H n) : ∀ k, k < n → hp H 0 ≤ hp H k := by
  intro k
  induction k using Nat.strongRecOn with
  | ind k ih =>
    intro hk
    by_cases c : k = 0
    · subst c; exact Int.le_refl _
    · have h1 := ih ((k - 1) / 2) (by omega) (by omega)
      have h2 := h k (by omega) hk
      omega
/-- Something put behind a heap. -/
theorem push_up {H : List Int} {x : Int} (h : HeapN H H.length) : UpI (H ++ [x]) (H.length + 1) H.length := by
  have e : ∀ k, k < H.length → hp (H ++ [x]) k = hp H k := fun k hk => by simp [hp, List.getD_eq_getElem?_getD, List.getElem?_append_left hk]
  refine ⟨fun k k0 kn ke => ?_, fun k k0 kn kp j0 => by omega⟩
  rw [e _ (by omega), e _ (by omega)]
  exact h k k0 (by omega)
/-- The first one and the last one changed for one another. -/
theorem pop_down {H : List Int} {n : Nat} (h : HeapN H (n + 1)) (hl : H.length = n + 1) : DnI (swapL H 0 n) n 0 ∧ hp (swapL H 0 n) n = hp H 0 := by
  have hs := fun k => hp_swap (H := H) (i := 0) (j := n) (by omega) (by omega) k
  refine ⟨⟨fun k k0 kn ke => ?_, fun k k0 kn kp j0 => by omega⟩, ?_⟩
  · rw [hs, hs, if_neg (show ¬ k = n by omega), if_neg (show ¬ k = 0 by omega), if_neg (show ¬ (k - 1) / 2 = n by omega), if_neg ke]
    exact h k k0 (by omega)
  · rw [hs, if_pos rfl]
/-- The last one is left away. -/
theorem drop_perm {H : List Int} {n : Nat} (hl : H.length = n + 1) : H.Perm (hp H n :: H.take n) := by
  have e : H = H.take n ++ [hp H n] := by
    rw [hp_get (by omega)]
    have := List.take_succ_eq_append_getElem (l := H) (i := n) (by omega)
    rw [← this, ← hl, List.take_length]
  have h1 : (H.take n ++ [hp H n]).Perm (hp H n :: H.take n) := List.perm_append_comm
  rw [← e] at h1
  exact h1
theorem heap_take {H : List Int} {n : Nat} (h : HeapN H n) (hl : n ≤ H.length) : HeapN (H.take n) (H.take n).length := fun k k0 kn => by
  have hn : (H.take n).length = n := by simp; omega
  rw [hn] at kn
  have e : ∀ k, k < n → hp (H.take n) k = hp H k := fun k hk => by simp [hp, List.getD_eq_getElem?_getD, List.getElem?_take, hk]
  rw [e _ (by omega), e _ kn]
  exact h k k0 kn
end Go.Proofs.Ytpnohgncnmbkdaa
/-
  Graphs: the order, as the program's tellable reckons it: how many edges each waits for, and those that wait for none; plain mathematics.
-/
namespace Go.Proofs.Ytpnohgncnmbkdaa
open Go.RowKit
set_option linter.unusedVariables false
set_option linter.unusedSimpArgs false

/-- An edge that t waits for. -/
def wE (dn : List Bool) (t : Nat) (e : Edg) : Bool := decide (e.2 = (t : Int)) && !bAt dn e.1
/-- How many edges t waits for, the first j edges being asked with v told, the others without. -/
def wJ (E : List Edg) (dn : List Bool) (v : Int) (j t : Nat) : Nat := ((E.take j).filter (wE (bSet dn v) t)).length + ((E.drop j).filter (wE dn t)).length
/-- How many edges t waits for. -/
def wN (E : List Edg) (dn : List Bool) (t : Nat) : Nat := (E.filter (wE dn t)).length

theorem wJ_zero (E : List Edg) (dn : List Bool) (v : Int) (t : Nat) : wJ E dn v 0 t = wN E dn t := by simp [wJ, wN]
theorem wJ_full (E : List Edg) (dn : List Bool) (v : Int) (t : Nat) : wJ E dn v E.length t = wN E (bSet dn v) t := by simp [wJ, wN]
theorem wJ_step (E : List Edg) (dn : List Bool) (v : Int) (j t : Nat) (h : j < E.length) : wJ E dn v j t + (if wE (bSet dn v) t E[j] = true then 1 else 0) = wJ E dn v (j + 1) t + (if wE dn t E[j] = true then 1 else 0) := by
  unfold wJ
  rw [List.take_succ_eq_append_getElem h, List.filter_append, List.length_append, List.drop_eq_getElem_cons h, List.filter_cons, List.filter_cons, List.filter_nil]
  split <;> split <;> simp <;> omega
/-- An edge from another one changes nothing. -/
theorem wJ_other {E : List Edg} {dn : List Bool} {v j t : Nat} {n : Nat} (hn : dn.length = n) (hv : v < n) (h : j < E.length) (h0 : 0 ≤ E[j].1) (hne : E[j].1 ≠ (v : Int)) : wJ E dn (v : Int) (j + 1) t = wJ E dn (v : Int) j t := by
  have h1 := wJ_step E dn (v : Int) j t h
  have h2 : wE (bSet dn (v : Int)) t E[j] = wE dn t E[j] := by
    unfold wE
    rw [bAt_set (by omega) h0 (by omega)]
    simp [hne]
  rw [h2] at h1
  omega
/-- An edge from v: its end waits for one less. -/
theorem wJ_this {E : List Edg} {dn : List Bool} {v j t : Nat} {n : Nat} (hn : dn.length = n) (hv : v < n) (h : j < E.length) (hnd : bAt dn (v : Int) = false) (he : E[j].1 = (v : Int)) : wJ E dn (v : Int) j t = wJ E dn (v : Int) (j + 1) t + (if E[j].2 = (t : Int) then 1 else 0) := by
  have h1 := wJ_step E dn (v : Int) j t h
  have h2 : wE (bSet dn (v : Int)) t E[j] = false := by
    unfold wE
    rw [he, bAt_set (by omega) (by omega) (by omega)]
    simp
  have h3 : wE dn t E[j] = decide (E[j].2 = (t : Int)) := by
    unfold wE
    rw [he, hnd]
    simp
  rw [h2, h3] at h1
  simp at h1
  simpa using h1
theorem wN_zero {E : List Edg} {dn : List Bool} {t : Nat} : wN E dn t = 0 ↔ ∀ e ∈ E, e.2 = (t : Int) → bAt dn e.1 = true := by
  unfold wN
  rw [List.length_eq_zero_iff, List.filter_eq_nil_iff]
  constructor
  · intro h e he ht
    have := h e he
    unfold wE at this
    simpa [ht] using this
  · intro h e he
    unfold wE
    by_cases c : e.2 = (t : Int)
    · simp [h e he c]
    · simp [c]
theorem free_iff {E : List Edg} {dn : List Bool} {t : Nat} : freeD E dn t = true ↔ dn.getD t false = false ∧ wN E dn t = 0 := by
  unfold freeD
  rw [Bool.and_eq_true, List.all_eq_true, wN_zero]
  constructor
  · rintro ⟨h1, h2⟩
    refine ⟨by simpa using h1, fun e he ht => ?_⟩
    have := h2 e he
    unfold barB at this
    simpa [ht] using this
  · rintro ⟨h1, h2⟩
    refine ⟨by simpa using h1, fun e he => ?_⟩
    unfold barB
    by_cases c : e.2 = (t : Int)
    · simp [h2 e he c]
    · simp [c]
theorem lF_least (f : Nat → Bool) : ∀ (k a v : Nat), a ≤ v → v < a + k → f v = true → (∀ u, a ≤ u → u < v → f u = false) → lF f k a = (v : Int)
  | 0, a, v, h1, h2, _, _ => by omega
  | k + 1, a, v, h1, h2, h3, h4 => by
    unfold lF
    by_cases c : a = v
    · subst c
      rw [if_pos h3]
    · rw [if_neg (by rw [h4 a (Nat.le_refl _) (by omega)]; simp)]
      exact lF_least f k (a + 1) v (by omega) (by omega) h3 (fun u hu hv => h4 u (by omega) hv)
theorem lF_none {f : Nat → Bool} {n : Nat} (h : ∀ u, u < n → f u = false) : lF f n 0 < 0 := by
  rcases lF_cases f n 0 with e | ⟨u, e, _, hu, hf⟩
  · omega
  · rw [h u (by omega)] at hf
    cases hf

/-- What stands behind a number of told ones: the heap has those that may be told next. -/
structure Tel (n : Nat) (E : List Edg) (dn : List Bool) (out H : List Int) : Prop where
  len : dn.length = n
  cnt : out.length = cntB dn
  clo : ∀ e ∈ E, bAt dn e.2 = true → bAt dn e.1 = true
  ord : ordD E n (n + 1 - out.length) dn out = ordR n E
  nod : H.Nodup
  heap : HeapN H H.length
  mem : ∀ x : Int, x ∈ H ↔ 0 ≤ x ∧ x < (n : Int) ∧ freeD E dn x.toNat = true

theorem nodup_len : ∀ (n : Nat) (l : List Int), l.Nodup → (∀ x ∈ l, 0 ≤ x ∧ x < (n : Int)) → l.length ≤ n
  | 0, l, _, h => by
    cases l with
    | nil => simp
    | cons x r => have := h x (by simp); omega
  | n + 1, l, hn, h => by
    by_cases c : (n : Int) ∈ l
    · have h1 := List.length_erase_of_mem c
      have h2 := nodup_len n (l.erase (n : Int)) (hn.sublist (List.erase_sublist)) (fun x hx => by
        have h3 := (List.Nodup.mem_erase_iff hn).1 hx
        have h4 := h x h3.2
        omega)
      omega
    · have := nodup_len n l hn (fun x hx => by
        have h4 := h x hx
        have : x ≠ (n : Int) := fun e => c (e ▸ hx)
        omega)
      omega
theorem Tel.small {n : Nat} {E : List Edg} {dn : List Bool} {out H : List Int} (h : Tel n E dn out H) : H.length ≤ n ∧ out.length ≤ n := by
  refine ⟨nodup_len n H h.nod (fun x hx => ?_), ?_⟩
  · have := (h.mem x).1 hx
    omega
  · rw [h.cnt, ← h.len]
    exact cnt_le dn
/-- Nothing may be told next: this was all. -/
theorem Tel.done {n : Nat} {E : List Edg} {dn : List Bool} {out : List Int} (h : Tel n E dn out []) : out = ordR n E := by
  have hk := h.ord
  have hle := h.small.2
  have e1 : n + 1 - out.length = (n - out.length) + 1 := by omega
  rw [e1] at hk
  rw [← hk, ordD_stop]
  refine lF_none fun u hu => ?_
  cases hf : freeD E dn u with
  | false => rfl
  | true =>
    have := (h.mem (u : Int)).2 ⟨by omega, by omega, by simpa using hf⟩
    simp at this

/-- While the edges of v are gone through. -/
structure TelJ (n : Nat) (E : List Edg) (dn : List Bool) (v j : Nat) (H : List Int) : Prop where
  nod : H.Nodup
  heap : HeapN H H.length
  mem : ∀ x : Int, x ∈ H ↔ 0 ≤ x ∧ x < (n : Int) ∧ bAt (bSet dn (v : Int)) x = false ∧ wJ E dn (v : Int) j x.toNat = 0

/-- The first one is taken out. -/
theorem Tel.pop {n : Nat} {E : List Edg} (hE : InG n E) {dn : List Bool} {out H H' : List Int} (h : Tel n E dn out H) (hl : 0 < H.length) (hp' : H.Perm (hp H 0 :: H')) (hh : HeapN H' H'.length) : ∃ v : Nat, hp H 0 = (v : Int) ∧ v < n ∧ bAt dn (v : Int) = false ∧ wN E dn v = 0 ∧ TelJ n E dn v 0 H' ∧
    ordD E n (n + 1 - (out ++ [(v : Int)]).length) (bSet dn (v : Int)) (out ++ [(v : Int)]) = ordR n E ∧ out.length < n ∧ (out ++ [(v : Int)]).length = cntB (bSet dn (v : Int)) ∧ (∀ e ∈ E, bAt (bSet dn (v : Int)) e.2 = true → bAt (bSet dn (v : Int)) e.1 = true) := by
  have hm : hp H 0 ∈ H := hp'.mem_iff.2 (by simp)
  obtain ⟨h0, h1, h2⟩ := (h.mem _).1 hm
  obtain ⟨v, hv⟩ : ∃ v : Nat, hp H 0 = (v : Int) := ⟨(hp H 0).toNat, by omega⟩
  rw [hv] at hp' h0 h1 h2
  rw [Int.toNat_natCast] at h2
  have hvn : v < n := by omega
  obtain ⟨f1, f2⟩ := free_iff.1 h2
  have hnv : bAt dn (v : Int) = false := by rw [bAt]; simpa using f1
  have hlen := h.len
  have hnd := (hp'.nodup_iff).1 h.nod
  rw [List.nodup_cons] at hnd
  have hbs : ∀ x : Int, 0 ≤ x → bAt (bSet dn (v : Int)) x = (bAt dn x || decide (x = (v : Int))) := fun x hx => bAt_set (by omega) hx (by omega)
  have hleast : lF (freeD E dn) n 0 = (v : Int) := by
    refine lF_least _ n 0 v (Nat.zero_le _) (by omega) h2 (fun u _ huv => ?_)
    cases hf : freeD E dn u with
    | false => rfl
    | true =>
      have hu := (h.mem (u : Int)).2 ⟨by omega, by omega, by simpa using hf⟩
      obtain ⟨i, hi, hie⟩ := List.getElem_of_mem hu
      have := heap_min h.heap i hi
      rw [hp_get hi, hie, hv] at this
      omega
  have hset : bSet dn (v : Int) = dn.set v true := by simp [bSet]
  have hcnt : cntB (bSet dn (v : Int)) = cntB dn + 1 := by rw [hset]; exact (cnt_set dn v).2 (by omega) f1
  refine ⟨v, hv, hvn, hnv, f2, ⟨hnd.2, hh, fun x => ?_⟩, ?_, ?_, ?_, ?_⟩
  · have hx : x ∈ H ↔ x = (v : Int) ∨ x ∈ H' := by rw [hp'.mem_iff, List.mem_cons]
    rw [wJ_zero]
    constructor
    · intro hxm
      have hxH := hx.2 (.inr hxm)
      obtain ⟨a1, a2, a3⟩ := (h.mem x).1 hxH
      obtain ⟨b1, b2⟩ := free_iff.1 a3
      refine ⟨a1, a2, ?_, b2⟩
      rw [hbs x a1]
      have hne : x ≠ (v : Int) := fun e => hnd.1 (e ▸ hxm)
      rw [Bool.or_eq_false_iff]
      exact ⟨by rw [bAt]; exact b1, by simpa using hne⟩
    · rintro ⟨a1, a2, a3, a4⟩
      rw [hbs x a1, Bool.or_eq_false_iff] at a3
      have hxH := (h.mem x).2 ⟨a1, a2, free_iff.2 ⟨by simpa [bAt] using a3.1, a4⟩⟩
      rcases hx.1 hxH with e | e
      · simp [e] at a3
      · exact e
  · have hlt : out.length < n := by
      have := cnt_le (bSet dn (v : Int))
      rw [bSet_len, h.len, hcnt] at this
      rw [h.cnt]
      omega
    have hk := h.ord
    have e1 : n + 1 - out.length = (n - out.length) + 1 := by omega
    have e2 : n + 1 - (out ++ [(v : Int)]).length = n - out.length := by rw [List.length_append]; show n + 1 - (out.length + 1) = _; omega
    rw [e1] at hk
    have h3 := ordD_next (k := n - out.length) (out := out) hleast
    rw [hk, ← hset] at h3
    rw [e2]
    exact h3.symm
  · have := cnt_le (bSet dn (v : Int))
    rw [bSet_len, h.len, hcnt] at this
    rw [h.cnt]
    omega
  · rw [List.length_append, hcnt, h.cnt]
    rfl
  · intro e he he2
    have e1 := hE e he
    rw [hbs e.2 e1.2.2.1, Bool.or_eq_true] at he2
    rw [hbs e.1 e1.1, Bool.or_eq_true]
    rcases he2 with he2 | he2
    · exact .inl (h.clo e he he2)
    · rw [decide_eq_true_eq] at he2
      exact .inl (wN_zero.1 f2 e he he2)
theorem TelJ.skip {n : Nat} {E : List Edg} (hE : InG n E) {dn : List Bool} {v j : Nat} {H : List Int} (h : TelJ n E dn v j H) (hn : dn.length = n) (hv : v < n) (hj : j < E.length) (hne : E[j].1 ≠ (v : Int)) : TelJ n E dn v (j + 1) H :=
  ⟨h.nod, h.heap, fun x => by rw [wJ_other hn hv hj (hE _ (List.getElem_mem hj)).1 hne]; exact h.mem x⟩
theorem TelJ.dec {n : Nat} {E : List Edg} {dn : List Bool} {v j t : Nat} {H : List Int} (h : TelJ n E dn v j H) (hn : dn.length = n) (hv : v < n) (hj : j < E.length) (hnd : bAt dn (v : Int) = false) (he : E[j].1 = (v : Int)) (ht : E[j].2 = (t : Int)) (hz : wJ E dn (v : Int) (j + 1) t ≠ 0) : TelJ n E dn v (j + 1) H :=
  ⟨h.nod, h.heap, fun x => by
    rw [h.mem x, wJ_this hn hv hj hnd he, ht]
    constructor
    · rintro ⟨a1, a2, a3, a4⟩
      exact ⟨a1, a2, a3, by omega⟩
    · rintro ⟨a1, a2, a3, a4⟩
      refine ⟨a1, a2, a3, ?_⟩
      rw [if_neg (fun e => hz (by rw [show t = x.toNat by omega]; exact a4)), a4]⟩
theorem TelJ.push {n : Nat} {E : List Edg} {dn : List Bool} {v j t : Nat} {H H' : List Int} (h : TelJ n E dn v j H) (hn : dn.length = n) (hv : v < n) (hj : j < E.length) (hnd : bAt dn (v : Int) = false) (he : E[j].1 = (v : Int)) (ht : E[j].2 = (t : Int)) (htn : t < n) (hz : wJ E dn (v : Int) (j + 1) t = 0) (hfr : bAt (bSet dn (v : Int)) (t : Int) = false) (hp' : H'.Perm ((t : Int) :: H)) (hh : HeapN H' H'.length) : TelJ n E dn v (j + 1) H' := by
  have hno : ¬ (t : Int) ∈ H := fun hm => by
    have h1 := ((h.mem _).1 hm).2.2.2
    rw [Int.toNat_natCast, wJ_this hn hv hj hnd he, if_pos ht] at h1
    omega
  refine ⟨(hp'.nodup_iff).2 (List.nodup_cons.2 ⟨hno, h.nod⟩), hh, fun x => ?_⟩
  rw [hp'.mem_iff, List.mem_cons, h.mem x, wJ_this hn hv hj hnd he, ht]
  constructor
  · rintro (rfl | ⟨a1, a2, a3, a4⟩)
    · exact ⟨by omega, by omega, hfr, by simpa using hz⟩
    · exact ⟨a1, a2, a3, by omega⟩
  · rintro ⟨a1, a2, a3, a4⟩
    by_cases c : x = (t : Int)
    · exact .inl c
    · exact .inr ⟨a1, a2, a3, by rw [a4, if_neg (by omega)]⟩
/-- An end of an edge from v is not told yet, and is not v. -/
theorem end_free {n : Nat} {E : List Edg} (hE : InG n E) {dn : List Bool} {v j t : Nat} (hn : dn.length = n) (hv : v < n) (hj : j < E.length) (hnd : bAt dn (v : Int) = false) (hw : wN E dn v = 0) (hc : ∀ e ∈ E, bAt dn e.2 = true → bAt dn e.1 = true) (he : E[j].1 = (v : Int)) (ht : E[j].2 = (t : Int)) : bAt (bSet dn (v : Int)) (t : Int) = false := by
  have hm := List.getElem_mem hj
  rw [bAt_set (by omega) (by omega) (by omega), Bool.or_eq_false_iff]
  constructor
  · cases hb : bAt dn (t : Int) with
    | false => rfl
    | true =>
      have := hc _ hm (by rw [ht]; exact hb)
      rw [he, hnd] at this
      cases this
  · rw [decide_eq_false_iff_not]
    intro e
    have := wN_zero.1 hw _ hm (by rw [ht, e])
    rw [he, hnd] at this
    cases this
/-- All edges of v were gone through. -/
theorem TelJ.full {n : Nat} {E : List Edg} {dn : List Bool} {v : Nat} {out H : List Int} (h : TelJ n E dn v E.length H) (hn : dn.length = n) (hord : ordD E n (n + 1 - (out ++ [(v : Int)]).length) (bSet dn (v : Int)) (out ++ [(v : Int)]) = ordR n E) (hcnt : (out ++ [(v : Int)]).length = cntB (bSet dn (v : Int))) (hclo : ∀ e ∈ E, bAt (bSet dn (v : Int)) e.2 = true → bAt (bSet dn (v : Int)) e.1 = true) : Tel n E (bSet dn (v : Int)) (out ++ [(v : Int)]) H := by
  refine ⟨by rw [bSet_len, hn], hcnt, hclo, hord, h.nod, h.heap, fun x => ?_⟩
  rw [h.mem x, wJ_full, free_iff]
  constructor
  · rintro ⟨a1, a2, a3, a4⟩
    exact ⟨a1, a2, by simpa [bAt] using a3, a4⟩
  · rintro ⟨a1, a2, a3, a4⟩
    exact ⟨a1, a2, by simpa [bAt] using a3, a4⟩

/-- At the beginning none is told. -/
theorem none_told (n : Nat) (v : Int) : bAt (List.replicate n false) v = false := by
  simp [bAt, List.getD_eq_getElem?_getD, List.getElem?_replicate]
  split <;> rfl
/-- How many edges come to t. -/
def inN (E : List Edg) (t : Nat) : Nat := (E.filter fun e => decide (e.2 = (t : Int))).length
theorem inN_succ (E : List Edg) (t j : Nat) (h : j < E.length) : inN (E.take (j + 1)) t = inN (E.take j) t + (if E[j].2 = (t : Int) then 1 else 0) := by
  unfold inN
  rw [List.take_succ_eq_append_getElem h, List.filter_append, List.length_append, List.filter_cons, List.filter_nil]
  by_cases c : E[j].2 = (t : Int)
  · simp [c]
  · simp [c]
theorem inN_le (E : List Edg) (t : Nat) : inN E t ≤ E.length := List.length_filter_le _ _
theorem wN_none (E : List Edg) (n t : Nat) : wN E (List.replicate n false) t = inN E t := by
  unfold wN inN
  congr 1
  refine List.filter_congr fun e _ => ?_
  unfold wE
  rw [none_told]
  simp
theorem wJ_le (E : List Edg) (dn : List Bool) (v : Int) (j t : Nat) : wJ E dn v j t ≤ E.length := by
  unfold wJ
  have h1 := List.length_filter_le (wE (bSet dn v) t) (E.take j)
  have h2 := List.length_filter_le (wE dn t) (E.drop j)
  simp at h1 h2
  omega
/-- While those that wait for none are gathered. -/
structure TelI (E : List Edg) (k : Nat) (H : List Int) : Prop where
  nod : H.Nodup
  heap : HeapN H H.length
  mem : ∀ x : Int, x ∈ H ↔ 0 ≤ x ∧ x < (k : Int) ∧ inN E x.toNat = 0
theorem telI_nil (E : List Edg) : TelI E 0 [] := ⟨List.nodup_nil, fun k _ hk => by simp at hk, fun x => ⟨fun h => by simp at h, fun h => absurd h.2.1 (by have := h.1; simp; omega)⟩⟩
theorem TelI.skip {E : List Edg} {k : Nat} {H : List Int} (h : TelI E k H) (hz : inN E k ≠ 0) : TelI E (k + 1) H := ⟨h.nod, h.heap, fun x => by
  rw [h.mem x]
  constructor
  · rintro ⟨a1, a2, a3⟩
    exact ⟨a1, by omega, a3⟩
  · rintro ⟨a1, a2, a3⟩
    refine ⟨a1, ?_, a3⟩
    have : x ≠ (k : Int) := fun e => hz (by rw [e] at a3; simpa using a3)
    omega⟩
theorem TelI.push {E : List Edg} {k : Nat} {H H' : List Int} (h : TelI E k H) (hz : inN E k = 0) (hp' : H'.Perm ((k : Int) :: H)) (hh : HeapN H' H'.length) : TelI E (k + 1) H' := by
  have hno : ¬ (k : Int) ∈ H := fun hm => by
    have := (h.mem _).1 hm
    omega
  refine ⟨(hp'.nodup_iff).2 (List.nodup_cons.2 ⟨hno, h.nod⟩), hh, fun x => ?_⟩
  rw [hp'.mem_iff, List.mem_cons, h.mem x]
  constructor
  · rintro (rfl | ⟨a1, a2, a3⟩)
    · exact ⟨by omega, by omega, by simpa using hz⟩
    · exact ⟨a1, by omega, a3⟩
  · rintro ⟨a1, a2, a3⟩
    by_cases c : x = (k : Int)
    · exact .inl c
    · exact .inr ⟨a1, by omega, a3⟩
theorem TelI.len {E : List Edg} {k : Nat} {H : List Int} (h : TelI E k H) : H.length ≤ k := nodup_len k H h.nod (fun x hx => by
  have := (h.mem x).1 hx
  omega)
theorem TelJ.len {n : Nat} {E : List Edg} {dn : List Bool} {v j : Nat} {H : List Int} (h : TelJ n E dn v j H) : H.length ≤ n := nodup_len n H h.nod (fun x hx => by
  have := (h.mem x).1 hx
  omega)
theorem TelI.full {n : Nat} {E : List Edg} {H : List Int} (h : TelI E n H) : Tel n E (List.replicate n false) [] H := by
  refine ⟨by simp, by rw [cnt_repl]; rfl, fun e _ he => (by rw [none_told] at he; simp at he), rfl, h.nod, h.heap, fun x => ?_⟩
  rw [h.mem x, free_iff, wN_none]
  have := none_told n x
  unfold bAt at this
  constructor
  · rintro ⟨a1, a2, a3⟩
    exact ⟨a1, a2, this, a3⟩
  · rintro ⟨a1, a2, _, a4⟩
    exact ⟨a1, a2, a4⟩
end Go.Proofs.Ytpnohgncnmbkdaa
