/-
  Texts that a law leans on, one behind the other; no statement is proved here.
-/
import Derived.Test.YteeplidoojeddaaGreatDoorPk17
import Derived.Deep.RegionHeld3
import Derived.Test.YteeplidoojeddaaGreatDoorPk14
import Derived.Test.YteeplidoojeddaaGreatDoorPk8
import Derived.Test.YteeplidoojeddaaGreatDoorPk1
import Derived.Test.YteeplidoojeddaaGreatDoorPk15
import Derived.Test.YteeplidoojeddaaGreatDoorPk11
import Derived.Test.YteeplidoojeddaaGreatDoorPk16
/-
  deedOf and EventOk of the program.
-/
namespace Go.Proofs.YteeplidoojeddaaGreatDoor
open Go.RowKit Go.Shelf
set_option linter.unusedVariables false
set_option linter.unusedSimpArgs false

/-- What was taken in of an event. -/
def DGood (d : Nat) (v : Vl d) (ks : List (List Int)) (w w' : World) (kk : Int) (sv : ByteArray) (jj : Int) (k : Int) (s : ByteArray) (j : Int) (m : Option Nat) (a : Option Addr) (n c : Nat) (f : Bool) (t : Int) : Prop :=
  k = kk ∧ s = sv ∧ j = jj ∧ f = false ∧ t = 0 ∧ (kk = 2 → HGood d v ks w w' m (.slice a n c)) ∧ (kk ≠ 2 → m = none ∧ a = none ∧ n = 0 ∧ c = 0)

/-- What deedOf leaves. -/
def DeedEnd (d : Nat) (v : Vl d) (ks : List (List Int)) (kk : Int) (sv : ByteArray) (jj : Int) (b : Bool) (w : World) (e : Ending) (w' : World) : Prop := ∃ k s j m a n c f t, e = .returned (.tuple #[.agg #[.int .i64 k, .string s, .int .i64 j, .map m, .slice a n c, .bool f, .int .i64 t], .bool b]) ∧ Below w.heap.size w w' ∧ (b = true → DGood d v ks w w' kk sv jj k s j m a n c f t)
def setD (w : World) (g : Nat) (x0 x1 x2 x3 x4 x5 x6 : Value) : World := ((((((w.setCell ⟨g, 0, none⟩ (x0)).setCell ⟨g, 1, none⟩ (x1)).setCell ⟨g, 2, none⟩ (x2)).setCell ⟨g, 3, none⟩ (x3)).setCell ⟨g, 4, none⟩ (x4)).setCell ⟨g, 5, none⟩ (x5)).setCell ⟨g, 6, none⟩ (x6)
theorem setD_grown (w : World) (g : Nat) (x0 x1 x2 x3 x4 x5 x6 : Value) : w.grownBy (setD w g x0 x1 x2 x3 x4 x5 x6) (some g) :=
  grownBy_trans (grownBy_trans (grownBy_trans (grownBy_trans (grownBy_trans (grownBy_trans (grown1 w g 0 x0) (grown1 _ g 1 x1)) (grown1 _ g 2 x2)) (grown1 _ g 3 x3)) (grown1 _ g 4 x4)) (grown1 _ g 5 x5)) (grown1 _ g 6 x6)
theorem seven_row {w : World} {g : Nat} {T : TypeId} {x0 x1 x2 x3 x4 x5 x6 : Value} (h : w.heap[g]? = some (.cells #[x0, x1, x2, x3, x4, x5, x6] T (0, 0))) :
    w.cell? ⟨g, 0, none⟩ = some x0 ∧ w.cell? ⟨g, 1, none⟩ = some x1 ∧ w.cell? ⟨g, 2, none⟩ = some x2 ∧ w.cell? ⟨g, 3, none⟩ = some x3 ∧ w.cell? ⟨g, 4, none⟩ = some x4 ∧ w.cell? ⟨g, 5, none⟩ = some x5 ∧ w.cell? ⟨g, 6, none⟩ = some x6 := by
  refine ⟨?_, ?_, ?_, ?_, ?_, ?_, ?_⟩ <;> (rw [cell_of_row w g _ _ _ _ h]; rfl)
theorem setD_heap {w : World} {g : Nat} {T : TypeId} {y0 y1 y2 y3 y4 y5 y6 : Value} (x0 x1 x2 x3 x4 x5 x6 : Value) (h : w.heap[g]? = some (.cells #[y0, y1, y2, y3, y4, y5, y6] T (0, 0))) : (setD w g x0 x1 x2 x3 x4 x5 x6).heap[g]? = some (.cells #[x0, x1, x2, x3, x4, x5, x6] T (0, 0)) :=
  by
  have h0 := heap_setCell_same w g 0 _ _ x0 h
  simp only [List.setIfInBounds_toArray, List.set_cons_zero, List.set_cons_succ] at h0
  have h1 := heap_setCell_same _ g 1 _ _ x1 h0
  simp only [List.setIfInBounds_toArray, List.set_cons_zero, List.set_cons_succ] at h1
  have h2 := heap_setCell_same _ g 2 _ _ x2 h1
  simp only [List.setIfInBounds_toArray, List.set_cons_zero, List.set_cons_succ] at h2
  have h3 := heap_setCell_same _ g 3 _ _ x3 h2
  simp only [List.setIfInBounds_toArray, List.set_cons_zero, List.set_cons_succ] at h3
  have h4 := heap_setCell_same _ g 4 _ _ x4 h3
  simp only [List.setIfInBounds_toArray, List.set_cons_zero, List.set_cons_succ] at h4
  have h5 := heap_setCell_same _ g 5 _ _ x5 h4
  simp only [List.setIfInBounds_toArray, List.set_cons_zero, List.set_cons_succ] at h5
  have h6 := heap_setCell_same _ g 6 _ _ x6 h5
  simp only [List.setIfInBounds_toArray, List.set_cons_zero, List.set_cons_succ] at h6
  exact h6
theorem setE_heap {w : World} {g : Nat} {T : TypeId} {y0 y1 y2 y3 y4 y5 y6 : Value} (x3 x4 x5 x6 : Value) (h : w.heap[g]? = some (.cells #[y0, y1, y2, y3, y4, y5, y6] T (0, 0))) : ((((w.setCell ⟨g, 3, none⟩ x3).setCell ⟨g, 4, none⟩ x4).setCell ⟨g, 5, none⟩ x5).setCell ⟨g, 6, none⟩ x6).heap[g]? = some (.cells #[y0, y1, y2, x3, x4, x5, x6] T (0, 0)) := by
  have h3 := heap_setCell_same w g 3 _ _ x3 h
  simp only [List.setIfInBounds_toArray, List.set_cons_zero, List.set_cons_succ] at h3
  have h4 := heap_setCell_same _ g 4 _ _ x4 h3
  simp only [List.setIfInBounds_toArray, List.set_cons_zero, List.set_cons_succ] at h4
  have h5 := heap_setCell_same _ g 5 _ _ x5 h4
  simp only [List.setIfInBounds_toArray, List.set_cons_zero, List.set_cons_succ] at h5
  have h6 := heap_setCell_same _ g 6 _ _ x6 h5
  simp only [List.setIfInBounds_toArray, List.set_cons_zero, List.set_cons_succ] at h6
  exact h6
theorem setE_grown (w : World) (g : Nat) (x3 x4 x5 x6 : Value) : w.grownBy ((((w.setCell ⟨g, 3, none⟩ x3).setCell ⟨g, 4, none⟩ x4).setCell ⟨g, 5, none⟩ x5).setCell ⟨g, 6, none⟩ x6) (some g) := grownBy_trans (grownBy_trans (grownBy_trans (grown1 w g 3 x3) (grown1 _ g 4 x4)) (grown1 _ g 5 x5)) (grown1 _ g 6 x6)
/-- The zero deed's box. -/
def ZDeed (w wx : World) : Prop := wx.heap[w.heap.size + 1]? = some (.cells #[.int .i64 0, .string ⟨#[]⟩, .int .i64 0, .map none, .slice none 0 0, .bool false, .int .i64 0] 57 (0, 0))
theorem deed_end {d : Nat} {v : Vl d} {ks : List (List Int)} {kk : Int} {sv : ByteArray} {jj : Int} {w wx : World} {k : Int} {s : ByteArray} {j : Int} {m : Option Nat} {a : Option Addr} {n c : Nat} {f : Bool} {t : Int} {b : Bool} (hr : ZDeed w wx) (hb : Below w.heap.size w wx) (hgd : b = true → k = kk ∧ s = sv ∧ j = jj ∧ f = false ∧ t = 0 ∧ (kk = 2 → PSeg (fun q => w.heap.size + 2 ≤ q ∧ q < wx.heap.size) wx d (.iface 52 (.agg #[.map m])) v ∧ SR wx (w.heap.size + 2) (.slice a n c) ks) ∧ (kk ≠ 2 → m = none ∧ a = none ∧ n = 0 ∧ c = 0)) :
    ((wx.cell? ⟨w.heap.size + 1, 0, none⟩ = some (.int .i64 0) ∧ wx.cell? ⟨w.heap.size + 1, 1, none⟩ = some (.string ⟨#[]⟩) ∧ wx.cell? ⟨w.heap.size + 1, 2, none⟩ = some (.int .i64 0) ∧ wx.cell? ⟨w.heap.size + 1, 3, none⟩ = some (.map none) ∧ wx.cell? ⟨w.heap.size + 1, 4, none⟩ = some (.slice none 0 0) ∧ wx.cell? ⟨w.heap.size + 1, 5, none⟩ = some (.bool false) ∧ wx.cell? ⟨w.heap.size + 1, 6, none⟩ = some (.int .i64 0)) ∧ ∀ j, wx.frozen? ⟨w.heap.size + 1, j, none⟩ = false) ∧
    ((setD wx (w.heap.size + 1) (.int .i64 k) (.string s) (.int .i64 j) (.map m) (.slice a n c) (.bool f) (.int .i64 t)).cell? ⟨w.heap.size + 1, 0, none⟩ = some (.int .i64 k) ∧ (setD wx (w.heap.size + 1) (.int .i64 k) (.string s) (.int .i64 j) (.map m) (.slice a n c) (.bool f) (.int .i64 t)).cell? ⟨w.heap.size + 1, 1, none⟩ = some (.string s) ∧ (setD wx (w.heap.size + 1) (.int .i64 k) (.string s) (.int .i64 j) (.map m) (.slice a n c) (.bool f) (.int .i64 t)).cell? ⟨w.heap.size + 1, 2, none⟩ = some (.int .i64 j) ∧ (setD wx (w.heap.size + 1) (.int .i64 k) (.string s) (.int .i64 j) (.map m) (.slice a n c) (.bool f) (.int .i64 t)).cell? ⟨w.heap.size + 1, 3, none⟩ = some (.map m) ∧ (setD wx (w.heap.size + 1) (.int .i64 k) (.string s) (.int .i64 j) (.map m) (.slice a n c) (.bool f) (.int .i64 t)).cell? ⟨w.heap.size + 1, 4, none⟩ = some (.slice a n c) ∧ (setD wx (w.heap.size + 1) (.int .i64 k) (.string s) (.int .i64 j) (.map m) (.slice a n c) (.bool f) (.int .i64 t)).cell? ⟨w.heap.size + 1, 5, none⟩ = some (.bool f) ∧ (setD wx (w.heap.size + 1) (.int .i64 k) (.string s) (.int .i64 j) (.map m) (.slice a n c) (.bool f) (.int .i64 t)).cell? ⟨w.heap.size + 1, 6, none⟩ = some (.int .i64 t)) ∧
    DeedEnd d v ks kk sv jj b w (.returned (.tuple #[.agg #[.int .i64 k, .string s, .int .i64 j, .map m, .slice a n c, .bool f, .int .i64 t], .bool b])) (setD wx (w.heap.size + 1) (.int .i64 k) (.string s) (.int .i64 j) (.map m) (.slice a n c) (.bool f) (.int .i64 t)) := by
  have hg := setD_grown wx (w.heap.size + 1) (.int .i64 k) (.string s) (.int .i64 j) (.map m) (.slice a n c) (.bool f) (.int .i64 t)
  refine ⟨⟨seven_row hr, fun j => frozen_of_row wx _ j _ _ hr⟩, seven_row (setD_heap (.int .i64 k) (.string s) (.int .i64 j) (.map m) (.slice a n c) (.bool f) (.int .i64 t) hr), k, s, j, m, a, n, c, f, t, rfl, hb.grown hg hb.size (fun q hq => by simp at hq; omega), fun e => ?_⟩
  obtain ⟨e1, e2, e3, e4, e5, h6, h7⟩ := hgd e
  refine ⟨e1, e2, e3, e4, e5, fun h2 => ?_, h7⟩
  obtain ⟨g1, g2⟩ := h6 h2
  refine ⟨PSeg.carry (fun q hq => ⟨by omega, Nat.lt_of_lt_of_le hq.2 hg.size⟩) (fun q hq => hg.block q hq.2 (by simp; omega)) d g1, World.ownsRow.mono (World.ownsRow.kept g2 hg ?_) (by omega)⟩
  cases hq : (Value.slice a n c).ownBlock with
  | none => exact .inl rfl
  | some q =>
    refine .inr fun e => ?_
    have := (World.ownsRow.lt g2 q hq).1
    simp at e
    omega

set_option maxHeartbeats 12800000 in
set_option maxRecDepth 100000 in
theorem deedOf_any (d N : Nat) (cs : List Value) (it : Rcd d) (w : World) (h : RSg (fun b => b < N) w d cs it) (hN : N ≤ w.heap.size) (hz : RSz d it) (hEr : Errs w) :
    Calls Tryz.prog 21 #[.agg cs.toArray] w (DeedEnd d it.2.2.2.1 it.2.2.2.2 it.1 (strOf it.2.1) it.2.2.1 (evB d it) w) := by
  have HA2 : Hid (∀ o o' : Obj, Below w.heap.size w ((w.alloc o).alloc o') ∧ ((w.alloc o).alloc o').heap[w.heap.size]? = some o ∧ ((w.alloc o).alloc o').heap[w.heap.size + 1]? = some o') := fun o o' => ⟨((Below.refl _ _).alloc (Nat.le_refl _) o).alloc (by simp) o', (two_boxes w o o').1, (two_boxes w o o').2⟩
  have HHd : Hid (∀ o o' : Obj, Calls Tryz.prog 37 #[.agg cs.toArray] ((w.alloc o).alloc o') fun e w' => e = .returned (.bool (headE it.1 it.2.1 it.2.2.1)) ∧ Below ((w.alloc o).alloc o').heap.size ((w.alloc o).alloc o') w') := fun o o' => headOk_any d N cs it _ (h.agree (agree_below ((HA2.out o o').1.mono hN))) (by simp; omega) hz.1 (hEr.grow (HA2.out o o').1)
  obtain ⟨na, np, bk, bn, a2, l2, p2, a3, l3, p3, a4, l4, p4, xa, xp, rfl, ht, hv, hkk⟩ := h.form
  obtain ⟨kk, ad, jj, vv, ds⟩ := it
  simp only at ht hv hkk HHd ⊢
  have hA : ∀ wx, Below w.heap.size w wx → Agree (fun b => b < N) w wx := fun wx hb => agree_below (hb.mono hN)
  obtain ⟨na', np', e1, hsa, hac, hac2, hna, hral⟩ := ht
  simp only [Value.slice.injEq, true_and] at e1
  obtain ⟨rfl, rfl⟩ := e1
  have HCv : Hid (∀ wx, Below w.heap.size w wx → (convert 22 9 (.slice na ad.length np)).run Tryz.prog wx = .ok (.string (strOf ad)) wx) := fun wx hb => conv_seg np (hsa.grow hb)
  have HSd : Hid (∀ wx, Below w.heap.size w wx → Calls Tryz.prog 38 #[.bool false, .agg #[.int .i64 bk, .int .i64 bn, .slice a2 l2 p2, .slice a3 l3 p3, .slice a4 l4 p4]] wx fun e w' => e = .returned (.tuple #[.nilIface, .bool (okB d vv && decide (kindV d vv = 0))]) ∧ Below wx.heap.size wx w') := fun wx hb => sideOf_any d N _ _ _ _ _ vv wx (VSeg.agree (hA wx hb) d hv) (by have := hb.size; omega)
  have HHl : Hid (∀ wx, Below w.heap.size w wx → Calls Tryz.prog 39 #[.agg #[.int .i64 bk, .int .i64 bn, .slice a2 l2 p2, .slice a3 l3 p3, .slice a4 l4 p4], .slice xa ds.length xp] wx (HeldEnd d vv ds (mapB d vv && addrsB ds) wx)) := fun wx hb => heldOf_any d N _ _ _ _ _ _ vv ds wx (VSeg.agree (hA wx hb) d hv) (hkk.agree (hA wx hb)) (by have := hb.size; omega) (fun i hi => by
    have hq := hz.2.2
    have h1 := pre_succ List.length ds i hi
    have h2 := pre_le List.length ds (i + 1)
    have e1 : ds.getD i [] = ds[i] := by simp [List.getD_eq_getElem?_getD, hi]
    rw [e1]
    simp only at hq
    unfold szK at hq
    omega) (hEr.grow hb)
  show Calls _ _ _ _ fun e w' => DeedEnd d vv ds kk (strOf ad) jj (evB d (kk, ad, jj, vv, ds)) w e w'
  have HEv : Hid (evB d (kk, ad, jj, vv, ds) = (decide (0 ≤ kk) && (decide (kk ≤ 6) && (headE kk ad jj && restE d kk vv ds)))) := rfl
  generalize evB d (kk, ad, jj, vv, ds) = ans at *
  generalize headE kk ad jj = hd at *
  clear h hsa hral hv hkk hA hz hEr hac hac2 hna
  unfold restE at HEv
  have hass : (okB d vv && (decide (kindV d vv = 0) && decide (ds.length = 0))) = ((okB d vv && decide (kindV d vv = 0)) && decide (ds.length = 0)) := (Bool.and_assoc _ _ _).symm
  rw [hass] at HEv
  clear hass
  generalize (okB d vv && decide (kindV d vv = 0)) = sd' at *
  generalize (mapB d vv && addrsB ds) = ml at *
  generalize hsv : strOf ad = sv at *
  clear hsv
  have hZ0 := hide' (HA2.out (.cells #[.int .i64 kk, .slice na ad.length np, .int .i64 jj, .int .i64 bk, .int .i64 bn, .slice a2 l2 p2, .slice a3 l3 p3, .slice a4 l4 p4, .slice xa ds.length xp] 36) (.cells #[.int .i64 0, .string ⟨#[]⟩, .int .i64 0, .map none, .slice none 0 0, .bool false, .int .i64 0] 57))
  by_cases hlo : kk < 0
  · have HF : Hid (ans = false) := by show ans = false; rw [HEv.out, decide_eq_false (p := 0 ≤ kk) (by omega)]; rfl
    obtain ⟨s0, s1, s2, s3, s4, s5, s6⟩ := seven_row hZ0.out.2.2
    go_enter Tryz.func21, Tryz.ntmps21
    go_wp2
    refine bodyPost_ret (v := .tuple #[.agg #[.int .i64 0, .string ⟨#[]⟩, .int .i64 0, .map none, .slice none 0 0, .bool false, .int .i64 0], .bool false]) (by simp [results, Tryz.results21, go_sem, s0, s1, s2, s3, s4, s5, s6]) rfl ?_
    rw [HF.out]
    exact ⟨_, _, _, _, _, _, _, _, _, rfl, hZ0.out.1, by simp⟩
  by_cases hhi : 6 < kk
  · have HF : Hid (ans = false) := by show ans = false; rw [HEv.out, decide_eq_false (p := kk ≤ 6) (by omega)]; simp
    obtain ⟨s0, s1, s2, s3, s4, s5, s6⟩ := seven_row hZ0.out.2.2
    go_enter Tryz.func21, Tryz.ntmps21
    go_wp2
    refine bodyPost_ret (v := .tuple #[.agg #[.int .i64 0, .string ⟨#[]⟩, .int .i64 0, .map none, .slice none 0 0, .bool false, .int .i64 0], .bool false]) (by simp [results, Tryz.results21, go_sem, s0, s1, s2, s3, s4, s5, s6]) rfl ?_
    rw [HF.out]
    exact ⟨_, _, _, _, _, _, _, _, _, rfl, hZ0.out.1, by simp⟩
  have HEv2 : Hid (ans = (hd && (if kk = 2 then ml else sd' && decide (ds.length = 0)))) := by show ans = _; rw [HEv.out, decide_eq_true (p := 0 ≤ kk) (by omega), decide_eq_true (p := kk ≤ 6) (by omega)]; rfl
  generalize ds.length = dl at *
  generalize ad.length = al at *
  clear HEv
  go_enter Tryz.func21, Tryz.ntmps21
  go_wp2_with fail
  refine (HHd.out _ _).mono ?_
  rintro e w1 ⟨rfl, b1⟩
  have HB1 := hide' (Below.on hZ0.out.1 b1)
  have HZ1 : Hid (ZDeed w w1) := (b1.block _ (by simp)).trans hZ0.out.2.2
  have HE1 := hide' ((b1.block w.heap.size (by simp; omega)).trans hZ0.out.2.1)
  obtain ⟨f0, f1, f2, f3, f4, f5, f6, f7, f8⟩ := ev_row HE1.out
  have hcv := HCv.out w1 HB1.out
  clear b1 hZ0 HHd HA2 HCv
  cases hd with
  | false =>
    have HF : Hid (ans = false) := HEv2.out
    have HE := hide' (deed_end (w := w) (k := 0) (s := ⟨#[]⟩) (j := 0) (m := none) (a := none) (n := 0) (c := 0) (f := false) (t := 0) (b := false) (d := d) (v := vv) (ks := ds) (kk := kk) (sv := sv) (jj := jj) HZ1.out HB1.out (by simp))
    obtain ⟨⟨s0, s1, s2, s3, s4, s5, s6⟩, sf⟩ := HE.out.1
    have sf0 := sf 0
    have sf1 := sf 1
    have sf2 := sf 2
    have sf3 := sf 3
    have sf4 := sf 4
    have sf5 := sf 5
    have sf6 := sf 6
    obtain ⟨z0, z1, z2, z3, z4, z5, z6⟩ := HE.out.2.1
    simp only [setD] at z0 z1 z2 z3 z4 z5 z6
    clear sf HSd HHl hcv
    go_wp2
    refine bodyPost_ret (v := .tuple #[.agg #[.int .i64 0, .string ⟨#[]⟩, .int .i64 0, .map none, .slice none 0 0, .bool false, .int .i64 0], .bool false]) (by simp [results, Tryz.results21, go_sem, z0, z1, z2, z3, z4, z5, z6]) rfl ?_
    rw [HF.out]
    exact HE.out.2.2
  | true =>
  have hAl := (Below.refl w1.heap.size w1).alloc (Nat.le_refl _) (.cells #[.int .i64 kk, .string sv, .int .i64 jj, .map none, .slice none 0 0, .bool false, .int .i64 0] 57)
  have HBd := hide' (Below.on HB1.out hAl)
  have HZd : Hid (ZDeed w (w1.alloc (.cells #[.int .i64 kk, .string sv, .int .i64 jj, .map none, .slice none 0 0, .bool false, .int .i64 0] 57))) := (hAl.block _ (Array.getElem?_eq_some_iff.1 HZ1.out).1).trans HZ1.out
  have HEd := hide' ((hAl.block _ (Array.getElem?_eq_some_iff.1 HE1.out).1).trans HE1.out)
  have HDd := hide' (MapKept.heap_alloc w1 (.cells #[.int .i64 kk, .string sv, .int .i64 jj, .map none, .slice none 0 0, .bool false, .int .i64 0] 57)).1
  have hzd : w.heap.size + 1 < w1.heap.size := (Array.getElem?_eq_some_iff.1 HZ1.out).1
  obtain ⟨e0, e1, e2, e3, e4, e5, e6, e7, e8⟩ := ev_row HEd.out
  clear hAl
  by_cases h2 : kk = 2
  · subst h2
    have HF : Hid (ans = ml) := by show ans = ml; rw [HEv2.out]; rfl
    have HH2 := hide' (HHl.out _ HBd.out)
    clear HHl HSd HEv2
    go_wp2_with fail
    refine HH2.out.mono ?_
    rintro e w2 ⟨m, a, n, c, rfl, b2, hgd2⟩
    have hAl := (Below.refl w2.heap.size w2).alloc (Nat.le_refl _) (.cells #[.map m, .slice a n c, .bool false, .int .i64 0] 55)
    have hz2 : w1.heap.size + 1 ≤ w2.heap.size := by have := b2.size; simpa using this
    have HB2 := hide' (Below.on (Below.on HBd.out b2) hAl)
    have HZ2 : Hid (ZDeed w (w2.alloc (.cells #[.map m, .slice a n c, .bool false, .int .i64 0] 55))) := (hAl.block _ (by omega)).trans ((b2.block _ (by simp; omega)).trans HZd.out)
    have HD2 := hide' ((hAl.block w1.heap.size (by omega)).trans ((b2.block w1.heap.size (by simp)).trans HDd.out))
    obtain ⟨q0, q1, q2, q3, q4, q5, q6⟩ := seven_row HD2.out
    have qf := fun j => frozen_of_row _ w1.heap.size j _ _ HD2.out
    have qf3 := qf 3
    have qf4 := qf 4
    have qf5 := qf 5
    have qf6 := qf 6
    have hgE := setE_grown (w2.alloc (.cells #[.map m, .slice a n c, .bool false, .int .i64 0] 55)) w1.heap.size (.map m) (.slice a n c) (.bool false) (.int .i64 0)
    have hD3 := setE_heap (.map m) (.slice a n c) (.bool false) (.int .i64 0) HD2.out
    obtain ⟨r0, r1, r2, r3, r4, r5, r6⟩ := seven_row hD3
    have hZ3 := (hgE.block (w.heap.size + 1) (Array.getElem?_eq_some_iff.1 HZ2.out).1 (by simp; omega)).trans HZ2.out
    have hB3 := HB2.out.grown hgE HB2.out.size (fun j hj => by simp at hj; omega)
    have HE := hide' (deed_end (w := w) (k := 2) (s := sv) (j := jj) (m := m) (a := a) (n := n) (c := c) (f := false) (t := 0) (b := ml) (d := d) (v := vv) (ks := ds) (kk := 2) (sv := sv) (jj := jj) hZ3 hB3 (fun e => ⟨rfl, rfl, rfl, rfl, rfl, fun _ => by
      obtain ⟨g1, g2⟩ := hgd2 e
      have hlow : w.heap.size + 2 ≤ w1.heap.size + 1 := by omega
      refine ⟨PSeg.carry (fun q hq => ⟨by have := hq.1; simp at this; omega, Nat.lt_of_lt_of_le (by have := hq.2; simp; omega) hgE.size⟩) (fun q hq => (hgE.block q (by have := hq.2; simp; omega) (by have := hq.1; simp at this ⊢; omega)).trans (hAl.block q hq.2)) d g1, World.ownsRow.mono (World.ownsRow.kept (World.ownsRow.alloc g2 _) hgE ?_) (by simp; omega)⟩
      cases hq : (Value.slice a n c).ownBlock with
      | none => exact .inl rfl
      | some q =>
        refine .inr fun e => ?_
        have := (World.ownsRow.lt g2 q hq).1
        simp at e this
        omega, fun e => absurd rfl e⟩))
    obtain ⟨⟨s0, s1, s2, s3, s4, s5, s6⟩, sf⟩ := HE.out.1
    have sf0 := sf 0
    have sf1 := sf 1
    have sf2 := sf 2
    have sf3 := sf 3
    have sf4 := sf 4
    have sf5 := sf 5
    have sf6 := sf 6
    obtain ⟨z0, z1, z2, z3, z4, z5, z6⟩ := HE.out.2.1
    simp only [setD] at z0 z1 z2 z3 z4 z5 z6
    clear sf qf hgE hD3 hZ3 hB3 b2 hAl hgd2 f0 f1 f2 f3 f4 f5 f6 f7 f8 e0 e1 e2 e3 e4 e5 e6 e7 e8 hcv
    go_wp2
    refine bodyPost_ret (v := .tuple #[.agg #[.int .i64 2, .string sv, .int .i64 jj, .map m, .slice a n c, .bool false, .int .i64 0], .bool ml]) (by simp [results, Tryz.results21, go_sem, z0, z1, z2, z3, z4, z5, z6]) rfl ?_
    rw [HF.out]
    exact HE.out.2.2
  · have HF0 : Hid (ans = (sd' && decide (dl = 0))) := by show ans = _; rw [HEv2.out, if_neg h2]; rfl
    have h2' : (kk != 2) = true := by simpa using h2
    have HS2 := hide' (HSd.out _ HBd.out)
    clear HHl HSd HEv2
    go_wp2_with fail
    refine HS2.out.mono ?_
    rintro e w2 ⟨rfl, b2⟩
    have hz2 : w1.heap.size + 1 ≤ w2.heap.size := by have := b2.size; simpa using this
    have HB2 : Hid (Below w.heap.size w w2.drew) := (Below.on HBd.out b2).drew
    have HZ2 : Hid (ZDeed w w2.drew) := (b2.block _ (by simp; omega)).trans HZd.out
    have HD2 := hide' ((b2.block w1.heap.size (by simp)).trans HDd.out)
    have HE2 := hide' ((b2.block w.heap.size (by simp; omega)).trans HEd.out)
    obtain ⟨q0, q1, q2, q3, q4, q5, q6⟩ := seven_row HD2.out
    obtain ⟨-, -, -, -, -, -, -, -, g8⟩ := ev_row HE2.out
    have hgS := setD_grown w2.drew (w.heap.size + 1) (.int .i64 kk) (.string sv) (.int .i64 jj) (.map none) (.slice none 0 0) (.bool false) (.int .i64 0)
    have kd : ∀ i, (setD w2.drew (w.heap.size + 1) (.int .i64 kk) (.string sv) (.int .i64 jj) (.map none) (.slice none 0 0) (.bool false) (.int .i64 0)).cell? ⟨w1.heap.size, i, none⟩ = w2.cell? ⟨w1.heap.size, i, none⟩ := fun i => World.cell?_of_block (hgS.block w1.heap.size (by show w1.heap.size < w2.heap.size; omega) (by simp; omega))
    have ke : ∀ i, (setD w2.drew (w.heap.size + 1) (.int .i64 kk) (.string sv) (.int .i64 jj) (.map none) (.slice none 0 0) (.bool false) (.int .i64 0)).cell? ⟨w.heap.size, i, none⟩ = w2.cell? ⟨w.heap.size, i, none⟩ := fun i => World.cell?_of_block (hgS.block w.heap.size (by show w.heap.size < w2.heap.size; omega) (by simp))
    have HKp : Hid (_ ∧ _ ∧ _ ∧ _ ∧ _ ∧ _ ∧ _ ∧ _) := ⟨(kd 0).trans q0, (kd 1).trans q1, (kd 2).trans q2, (kd 3).trans q3, (kd 4).trans q4, (kd 5).trans q5, (kd 6).trans q6, (ke 8).trans g8⟩
    simp only [setD] at HKp
    clear hgS kd ke b2 f0 f1 f2 f3 f4 f5 f6 f7 f8 e0 e1 e2 e3 e4 e5 e6 e7 e8 hcv HD2 HE2
    cases sd' with
    | false =>
      have HF : Hid (ans = false) := HF0.out
      have HE := hide' (deed_end (w := w) (k := kk) (s := sv) (j := jj) (m := none) (a := none) (n := 0) (c := 0) (f := false) (t := 0) (b := false) (d := d) (v := vv) (ks := ds) (kk := kk) (sv := sv) (jj := jj) HZ2.out HB2.out (by simp))
      obtain ⟨⟨s0, s1, s2, s3, s4, s5, s6⟩, sf⟩ := HE.out.1
      have sf0 := sf 0
      have sf1 := sf 1
      have sf2 := sf 2
      have sf3 := sf 3
      have sf4 := sf 4
      have sf5 := sf 5
      have sf6 := sf 6
      obtain ⟨z0, z1, z2, z3, z4, z5, z6⟩ := HE.out.2.1
      simp only [setD] at z0 z1 z2 z3 z4 z5 z6
      clear sf HZ2 HB2
      go_wp2_with fail
      refine wp_region_held_drew (S := (fun wx => wx.cell? ⟨w1.heap.size, 0, none⟩ = some (.int .i64 kk) ∧ wx.cell? ⟨w1.heap.size, 1, none⟩ = some (.string sv) ∧ wx.cell? ⟨w1.heap.size, 2, none⟩ = some (.int .i64 jj) ∧ wx.cell? ⟨w1.heap.size, 3, none⟩ = some (.map none) ∧ wx.cell? ⟨w1.heap.size, 4, none⟩ = some (.slice none 0 0) ∧ wx.cell? ⟨w1.heap.size, 5, none⟩ = some (.bool false) ∧ wx.cell? ⟨w1.heap.size, 6, none⟩ = some (.int .i64 0) ∧ wx.cell? ⟨w.heap.size, 8, none⟩ = some (.slice xa dl xp))) (by kernel_rfl) ⟨q0, q1, q2, q3, q4, q5, q6, g8⟩ (fun hHeld => ?_)
      generalize w2.drew = w3 at *
      refine take_yes (i := 0) 40 (v := ?_) rfl rfl (by kernel_rfl) (by kernel_rfl) (by kernel_rfl) (fun _ _ _ h => h) (by kernel_rfl) hHeld ?_ ?_
      rotate_left
      focus (intro w hSw; (try dsimp only at hSw); go_simp; (try with_reducible rfl))
      simp only [Act.put, List.setIfInBounds_toArray, List.set_cons_zero, List.set_cons_succ]
      refine take_yes (i := 1) 41 (v := ?_) rfl rfl (by kernel_rfl) (by kernel_rfl) (by kernel_rfl) (fun _ _ _ h => h) (by kernel_rfl) hHeld ?_ ?_
      rotate_left
      focus (intro w hSw; (try dsimp only at hSw); go_simp; (try with_reducible rfl))
      simp only [Act.put, List.setIfInBounds_toArray, List.set_cons_zero, List.set_cons_succ]
      refine take_yes (i := 2) 42 (v := ?_) rfl rfl (by kernel_rfl) (by kernel_rfl) (by kernel_rfl) (fun _ _ _ h => h) (by kernel_rfl) hHeld ?_ ?_
      rotate_left
      focus (intro w hSw; (try dsimp only at hSw); go_simp; (try with_reducible rfl))
      simp only [Act.put, List.setIfInBounds_toArray, List.set_cons_zero, List.set_cons_succ]
      refine take_not (i := 3) 43 rfl rfl (by kernel_rfl) (by kernel_rfl) (by kernel_rfl) (fun _ _ _ h => h) (by kernel_rfl) hHeld ?_
      simp only [Act.put, List.setIfInBounds_toArray, List.set_cons_zero, List.set_cons_succ]
      refine take_not (i := 4) 44 rfl rfl (by kernel_rfl) (by kernel_rfl) (by kernel_rfl) (fun _ _ _ h => h) (by kernel_rfl) hHeld ?_
      simp only [Act.put, List.setIfInBounds_toArray, List.set_cons_zero, List.set_cons_succ]
      refine take_not (i := 5) 45 rfl rfl (by kernel_rfl) (by kernel_rfl) (by kernel_rfl) (fun _ _ _ h => h) (by kernel_rfl) hHeld ?_
      simp only [Act.put, List.setIfInBounds_toArray, List.set_cons_zero, List.set_cons_succ]
      refine take_not (i := 6) 46 rfl rfl (by kernel_rfl) (by kernel_rfl) (by kernel_rfl) (fun _ _ _ h => h) (by kernel_rfl) hHeld ?_
      simp only [Act.put, List.setIfInBounds_toArray, List.set_cons_zero, List.set_cons_succ]
      refine take_yes (i := 7) 47 (v := ?_) rfl rfl (by kernel_rfl) (by kernel_rfl) (by kernel_rfl) (fun _ _ _ h => h) (by kernel_rfl) hHeld ?_ ?_
      rotate_left
      focus (intro w hSw; (try dsimp only at hSw); go_simp; (try with_reducible rfl))
      simp only [Act.put, List.setIfInBounds_toArray, List.set_cons_zero, List.set_cons_succ]
      refine wpAnyH_ready (rs := [8]) (by kernel_rfl) (by simp) ?_
      refine AllReadyH.cons rfl (fun K hK => ?_) AllReadyH.nil
      go_simp
      refine hK.out _ _ (HKp.out) (fun hHeld => ?_)
      clear hK
      (try simp only [Act.put, List.setIfInBounds_toArray, List.set_cons_zero, List.set_cons_succ])
      refine take_yes (i := 9) 3 (v := ?_) rfl rfl (by kernel_rfl) (by kernel_rfl) (by kernel_rfl) (fun _ _ _ h => h) (by kernel_rfl) hHeld ?_ ?_
      rotate_left
      focus (intro w hSw; (try dsimp only at hSw); go_simp; (try with_reducible rfl))
      simp only [Act.put, List.setIfInBounds_toArray, List.set_cons_zero, List.set_cons_succ]
      refine wpAnyH_done (by kernel_rfl) ?_ _
      go_wp2
      refine bodyPost_ret (v := .tuple #[.agg #[.int .i64 kk, .string sv, .int .i64 jj, .map none, .slice none 0 0, .bool false, .int .i64 0], .bool false]) (by simp [results, Tryz.results21, go_sem, z0, z1, z2, z3, z4, z5, z6]) rfl ?_
      rw [HF.out]
      exact HE.out.2.2
    | true =>
      by_cases hdl : dl = 0
      · subst hdl
        have HF : Hid (ans = true) := by show ans = _; rw [HF0.out]; rfl
        have HE := hide' (deed_end (w := w) (k := kk) (s := sv) (j := jj) (m := none) (a := none) (n := 0) (c := 0) (f := false) (t := 0) (b := true) (d := d) (v := vv) (ks := ds) (kk := kk) (sv := sv) (jj := jj) HZ2.out HB2.out (fun _ => ⟨rfl, rfl, rfl, rfl, rfl, fun e => absurd e h2, fun _ => ⟨rfl, rfl, rfl, rfl⟩⟩))
        obtain ⟨⟨s0, s1, s2, s3, s4, s5, s6⟩, sf⟩ := HE.out.1
        have sf0 := sf 0
        have sf1 := sf 1
        have sf2 := sf 2
        have sf3 := sf 3
        have sf4 := sf 4
        have sf5 := sf 5
        have sf6 := sf 6
        obtain ⟨z0, z1, z2, z3, z4, z5, z6⟩ := HE.out.2.1
        simp only [setD] at z0 z1 z2 z3 z4 z5 z6
        clear sf HZ2 HB2
        go_wp2_with fail
        refine wp_region_held_drew (S := (fun wx => wx.cell? ⟨w1.heap.size, 0, none⟩ = some (.int .i64 kk) ∧ wx.cell? ⟨w1.heap.size, 1, none⟩ = some (.string sv) ∧ wx.cell? ⟨w1.heap.size, 2, none⟩ = some (.int .i64 jj) ∧ wx.cell? ⟨w1.heap.size, 3, none⟩ = some (.map none) ∧ wx.cell? ⟨w1.heap.size, 4, none⟩ = some (.slice none 0 0) ∧ wx.cell? ⟨w1.heap.size, 5, none⟩ = some (.bool false) ∧ wx.cell? ⟨w1.heap.size, 6, none⟩ = some (.int .i64 0) ∧ wx.cell? ⟨w.heap.size, 8, none⟩ = some (.slice xa 0 xp))) (by kernel_rfl) ⟨q0, q1, q2, q3, q4, q5, q6, g8⟩ (fun hHeld => ?_)
        generalize w2.drew = w3 at *
        refine take_yes (i := 0) 40 (v := ?_) rfl rfl (by kernel_rfl) (by kernel_rfl) (by kernel_rfl) (fun _ _ _ h => h) (by kernel_rfl) hHeld ?_ ?_
        rotate_left
        focus (intro w hSw; (try dsimp only at hSw); go_simp; (try with_reducible rfl))
        simp only [Act.put, List.setIfInBounds_toArray, List.set_cons_zero, List.set_cons_succ]
        refine take_yes (i := 1) 41 (v := ?_) rfl rfl (by kernel_rfl) (by kernel_rfl) (by kernel_rfl) (fun _ _ _ h => h) (by kernel_rfl) hHeld ?_ ?_
        rotate_left
        focus (intro w hSw; (try dsimp only at hSw); go_simp; (try with_reducible rfl))
        simp only [Act.put, List.setIfInBounds_toArray, List.set_cons_zero, List.set_cons_succ]
        refine take_yes (i := 2) 42 (v := ?_) rfl rfl (by kernel_rfl) (by kernel_rfl) (by kernel_rfl) (fun _ _ _ h => h) (by kernel_rfl) hHeld ?_ ?_
        rotate_left
        focus (intro w hSw; (try dsimp only at hSw); go_simp; (try with_reducible rfl))
        simp only [Act.put, List.setIfInBounds_toArray, List.set_cons_zero, List.set_cons_succ]
        refine take_yes (i := 3) 43 (v := ?_) rfl rfl (by kernel_rfl) (by kernel_rfl) (by kernel_rfl) (fun _ _ _ h => h) (by kernel_rfl) hHeld ?_ ?_
        rotate_left
        focus (intro w hSw; (try dsimp only at hSw); go_simp; (try with_reducible rfl))
        simp only [Act.put, List.setIfInBounds_toArray, List.set_cons_zero, List.set_cons_succ]
        refine take_yes (i := 4) 44 (v := ?_) rfl rfl (by kernel_rfl) (by kernel_rfl) (by kernel_rfl) (fun _ _ _ h => h) (by kernel_rfl) hHeld ?_ ?_
        rotate_left
        focus (intro w hSw; (try dsimp only at hSw); go_simp; (try with_reducible rfl))
        simp only [Act.put, List.setIfInBounds_toArray, List.set_cons_zero, List.set_cons_succ]
        refine take_yes (i := 5) 45 (v := ?_) rfl rfl (by kernel_rfl) (by kernel_rfl) (by kernel_rfl) (fun _ _ _ h => h) (by kernel_rfl) hHeld ?_ ?_
        rotate_left
        focus (intro w hSw; (try dsimp only at hSw); go_simp; (try with_reducible rfl))
        simp only [Act.put, List.setIfInBounds_toArray, List.set_cons_zero, List.set_cons_succ]
        refine take_yes (i := 6) 46 (v := ?_) rfl rfl (by kernel_rfl) (by kernel_rfl) (by kernel_rfl) (fun _ _ _ h => h) (by kernel_rfl) hHeld ?_ ?_
        rotate_left
        focus (intro w hSw; (try dsimp only at hSw); go_simp; (try with_reducible rfl))
        simp only [Act.put, List.setIfInBounds_toArray, List.set_cons_zero, List.set_cons_succ]
        refine take_yes (i := 7) 47 (v := ?_) rfl rfl (by kernel_rfl) (by kernel_rfl) (by kernel_rfl) (fun _ _ _ h => h) (by kernel_rfl) hHeld ?_ ?_
        rotate_left
        focus (intro w hSw; (try dsimp only at hSw); go_simp; (try with_reducible rfl))
        simp only [Act.put, List.setIfInBounds_toArray, List.set_cons_zero, List.set_cons_succ]
        refine wpAnyH_ready (rs := [8]) (by kernel_rfl) (by simp) ?_
        refine AllReadyH.cons rfl (fun K hK => ?_) AllReadyH.nil
        go_simp
        refine hK.out _ _ (HKp.out) (fun hHeld => ?_)
        clear hK
        (try simp only [Act.put, List.setIfInBounds_toArray, List.set_cons_zero, List.set_cons_succ])
        refine take_yes (i := 9) 3 (v := ?_) rfl rfl (by kernel_rfl) (by kernel_rfl) (by kernel_rfl) (fun _ _ _ h => h) (by kernel_rfl) hHeld ?_ ?_
        rotate_left
        focus (intro w hSw; (try dsimp only at hSw); go_simp; (try with_reducible rfl))
        simp only [Act.put, List.setIfInBounds_toArray, List.set_cons_zero, List.set_cons_succ]
        refine wpAnyH_done (by kernel_rfl) ?_ _
        go_wp2
        refine bodyPost_ret (v := .tuple #[.agg #[.int .i64 kk, .string sv, .int .i64 jj, .map none, .slice none 0 0, .bool false, .int .i64 0], .bool true]) (by simp [results, Tryz.results21, go_sem, z0, z1, z2, z3, z4, z5, z6]) rfl ?_
        rw [HF.out]
        exact HE.out.2.2
      · have hdl' : ((dl : Int) == 0) = false := by simp; omega
        have hdl2 : ¬ (dl : Int) = 0 := by omega
        have HF : Hid (ans = false) := by show ans = _; rw [HF0.out, decide_eq_false hdl]; rfl
        have HE := hide' (deed_end (w := w) (k := kk) (s := sv) (j := jj) (m := none) (a := none) (n := 0) (c := 0) (f := false) (t := 0) (b := false) (d := d) (v := vv) (ks := ds) (kk := kk) (sv := sv) (jj := jj) HZ2.out HB2.out (by simp))
        obtain ⟨⟨s0, s1, s2, s3, s4, s5, s6⟩, sf⟩ := HE.out.1
        have sf0 := sf 0
        have sf1 := sf 1
        have sf2 := sf 2
        have sf3 := sf 3
        have sf4 := sf 4
        have sf5 := sf 5
        have sf6 := sf 6
        obtain ⟨z0, z1, z2, z3, z4, z5, z6⟩ := HE.out.2.1
        simp only [setD] at z0 z1 z2 z3 z4 z5 z6
        clear sf HZ2 HB2
        go_wp2_with fail
        refine wp_region_held_drew (S := (fun wx => wx.cell? ⟨w1.heap.size, 0, none⟩ = some (.int .i64 kk) ∧ wx.cell? ⟨w1.heap.size, 1, none⟩ = some (.string sv) ∧ wx.cell? ⟨w1.heap.size, 2, none⟩ = some (.int .i64 jj) ∧ wx.cell? ⟨w1.heap.size, 3, none⟩ = some (.map none) ∧ wx.cell? ⟨w1.heap.size, 4, none⟩ = some (.slice none 0 0) ∧ wx.cell? ⟨w1.heap.size, 5, none⟩ = some (.bool false) ∧ wx.cell? ⟨w1.heap.size, 6, none⟩ = some (.int .i64 0) ∧ wx.cell? ⟨w.heap.size, 8, none⟩ = some (.slice xa dl xp))) (by kernel_rfl) ⟨q0, q1, q2, q3, q4, q5, q6, g8⟩ (fun hHeld => ?_)
        generalize w2.drew = w3 at *
        refine take_yes (i := 0) 40 (v := ?_) rfl rfl (by kernel_rfl) (by kernel_rfl) (by kernel_rfl) (fun _ _ _ h => h) (by kernel_rfl) hHeld ?_ ?_
        rotate_left
        focus (intro w hSw; (try dsimp only at hSw); go_simp; (try with_reducible rfl))
        simp only [Act.put, List.setIfInBounds_toArray, List.set_cons_zero, List.set_cons_succ]
        refine take_yes (i := 1) 41 (v := ?_) rfl rfl (by kernel_rfl) (by kernel_rfl) (by kernel_rfl) (fun _ _ _ h => h) (by kernel_rfl) hHeld ?_ ?_
        rotate_left
        focus (intro w hSw; (try dsimp only at hSw); go_simp; (try with_reducible rfl))
        simp only [Act.put, List.setIfInBounds_toArray, List.set_cons_zero, List.set_cons_succ]
        refine take_yes (i := 2) 42 (v := ?_) rfl rfl (by kernel_rfl) (by kernel_rfl) (by kernel_rfl) (fun _ _ _ h => h) (by kernel_rfl) hHeld ?_ ?_
        rotate_left
        focus (intro w hSw; (try dsimp only at hSw); go_simp; (try with_reducible rfl))
        simp only [Act.put, List.setIfInBounds_toArray, List.set_cons_zero, List.set_cons_succ]
        refine take_yes (i := 3) 43 (v := ?_) rfl rfl (by kernel_rfl) (by kernel_rfl) (by kernel_rfl) (fun _ _ _ h => h) (by kernel_rfl) hHeld ?_ ?_
        rotate_left
        focus (intro w hSw; (try dsimp only at hSw); go_simp; (try with_reducible rfl))
        simp only [Act.put, List.setIfInBounds_toArray, List.set_cons_zero, List.set_cons_succ]
        refine take_yes (i := 4) 44 (v := ?_) rfl rfl (by kernel_rfl) (by kernel_rfl) (by kernel_rfl) (fun _ _ _ h => h) (by kernel_rfl) hHeld ?_ ?_
        rotate_left
        focus (intro w hSw; (try dsimp only at hSw); go_simp; (try with_reducible rfl))
        simp only [Act.put, List.setIfInBounds_toArray, List.set_cons_zero, List.set_cons_succ]
        refine take_yes (i := 5) 45 (v := ?_) rfl rfl (by kernel_rfl) (by kernel_rfl) (by kernel_rfl) (fun _ _ _ h => h) (by kernel_rfl) hHeld ?_ ?_
        rotate_left
        focus (intro w hSw; (try dsimp only at hSw); go_simp; (try with_reducible rfl))
        simp only [Act.put, List.setIfInBounds_toArray, List.set_cons_zero, List.set_cons_succ]
        refine take_yes (i := 6) 46 (v := ?_) rfl rfl (by kernel_rfl) (by kernel_rfl) (by kernel_rfl) (fun _ _ _ h => h) (by kernel_rfl) hHeld ?_ ?_
        rotate_left
        focus (intro w hSw; (try dsimp only at hSw); go_simp; (try with_reducible rfl))
        simp only [Act.put, List.setIfInBounds_toArray, List.set_cons_zero, List.set_cons_succ]
        refine take_yes (i := 7) 47 (v := ?_) rfl rfl (by kernel_rfl) (by kernel_rfl) (by kernel_rfl) (fun _ _ _ h => h) (by kernel_rfl) hHeld ?_ ?_
        rotate_left
        focus (intro w hSw; (try dsimp only at hSw); go_simp; (try with_reducible rfl))
        simp only [Act.put, List.setIfInBounds_toArray, List.set_cons_zero, List.set_cons_succ]
        refine wpAnyH_ready (rs := [8]) (by kernel_rfl) (by simp) ?_
        refine AllReadyH.cons rfl (fun K hK => ?_) AllReadyH.nil
        go_simp
        refine hK.out _ _ (HKp.out) (fun hHeld => ?_)
        clear hK
        (try simp only [Act.put, List.setIfInBounds_toArray, List.set_cons_zero, List.set_cons_succ])
        refine take_yes (i := 9) 3 (v := ?_) rfl rfl (by kernel_rfl) (by kernel_rfl) (by kernel_rfl) (fun _ _ _ h => h) (by kernel_rfl) hHeld ?_ ?_
        rotate_left
        focus (intro w hSw; (try dsimp only at hSw); go_simp; (try with_reducible rfl))
        simp only [Act.put, List.setIfInBounds_toArray, List.set_cons_zero, List.set_cons_succ]
        refine wpAnyH_done (by kernel_rfl) ?_ _
        go_wp2
        refine bodyPost_ret (v := .tuple #[.agg #[.int .i64 kk, .string sv, .int .i64 jj, .map none, .slice none 0 0, .bool false, .int .i64 0], .bool false]) (by simp [results, Tryz.results21, go_sem, z0, z1, z2, z3, z4, z5, z6]) rfl ?_
        rw [HF.out]
        exact HE.out.2.2
end Go.Proofs.YteeplidoojeddaaGreatDoor
/-
  ValBytes of the program: putInt.
-/
namespace Go.Proofs.YteeplidoojeddaaGreatDoor
open Go.RowKit Go.Shelf
set_option linter.unusedVariables false
set_option linter.unusedSimpArgs false

theorem impl_PutNum_end (a : Option Addr) (cap : Nat) (xs : List Int) (n : Int) (w : World) (hs : Seg w a xs) (hc : a = none → cap = 0) (hl : xs.length ≤ 2097152) : Calls Tryz.prog 40 #[.slice a xs.length cap, .int .i64 n] w (PEnd w (putNum xs n)) :=
  (impl_PutNum_any a cap xs n w hs hc hl).mono fun e w' h => pend_of h
theorem impl_PutText_end (a b : Option Addr) (c1 c2 : Nat) (xs ts : List Int) (w : World) (ha : Seg w a xs) (hb : Seg w b ts) (ka : a = none → c1 = 0) (kb : b = none → c2 = 0) (hl : xs.length ≤ 2097152) (hl2 : ts.length ≤ 2097152) : Calls Tryz.prog 42 #[.slice a xs.length c1, .slice b ts.length c2] w (PEnd w (putText xs ts)) :=
  (impl_PutText_any a b c1 c2 xs ts w ha hb ka kb hl hl2).mono fun e w' h => pend_of h

set_option maxHeartbeats 1000000 in
set_option maxRecDepth 100000 in
theorem putInt_any (a : Option Addr) (cap : Nat) (xs : List Int) (vn : Int) (w : World) (hs : Seg w a xs) (ka : a = none → cap = 0) (hl : xs.length ≤ 1500000) (hlo : -1000000000000 ≤ vn) (hhi : vn ≤ 1000000000000) :
    Calls Tryz.prog 58 #[.slice a xs.length cap, .int .i64 vn] w (PEnd w (putI xs vn)) := by
  have HP : Hid (∀ (a1 : Option Addr) (c1 : Nat) (ys : List Int) (n : Int) (wx : World), Bts wx 0 (.slice a1 ys.length c1) ys → (a1 = none → c1 = 0) → ys.length ≤ 2000000 → Calls Tryz.prog 40 #[.slice a1 ys.length c1, .int .i64 n] wx (PEnd wx (putNum ys n))) := fun a1 c1 ys n wx hB k hlen => impl_PutNum_end a1 c1 ys n wx hB.seg k (by omega)
  by_cases hneg : vn < 0
  · have HF : Hid (putI xs vn = putNum (putNum (putNum xs 1) (-vn / 1000000)) (-vn % 1000000)) := by show _ = _; rw [putI, if_pos hneg]
    have H1 := hide' (impl_PutNum_end a cap xs 1 w hs ka (by omega))
    have hp1 := putNum_len xs 1
    have hp2 := putNum_len (putNum xs 1) (-vn / 1000000)
    have hm0 : 0 ≤ -vn := by omega
    have hm1 : -vn ≤ 1000000000000 := by omega
    have Hd := hide' (wd_neg vn (by omega) (by omega))
    have Hm := hide' (wm_neg vn (by omega))
    have Hmw := hide' (wmw_neg vn (by omega))
    clear hs
    go_enter Tryz.func58, Tryz.ntmps58
    go_wp2_with fail
    refine H1.out.mono ?_
    rintro e w2 ⟨a2', c2', rfl, hB2, b2, k2'⟩
    have B2 := b2
    have H3 := hide' (HP.out a2' c2' (putNum xs 1) (-vn / 1000000) w2 (hB2.mono (by omega)) k2' (by omega))
    generalize putNum xs 1 = z2 at *
    generalize z2.length = n2 at *
    clear b2 hB2 H1
    go_wp2_with fail
    try rw [Hd.out]
    refine H3.out.mono ?_
    rintro e w3 ⟨a3', c3', rfl, hB3, b3, k3'⟩
    have B3 := Below.on B2 b3
    have H4 := hide' (HP.out a3' c3' (putNum z2 (-vn / 1000000)) (-vn % 1000000) w3 (hB3.mono (by omega)) k3' (by omega))
    generalize putNum z2 (-vn / 1000000) = z3 at *
    generalize z3.length = n3' at *
    clear b3 hB3 H3
    go_wp2_with fail
    first | rw [Hmw.out] | rw [Hm.out] | skip
    refine H4.out.mono ?_
    rintro e w4 ⟨a4', c4', rfl, hB4, b4', k4'⟩
    have B4 := Below.on B3 b4'
    have HB4 := hide' (hB4.mono (base' := w.heap.size) B3.size)
    obtain ⟨z5, hz5⟩ : ∃ z5, z5 = putNum z3 (-vn % 1000000) := ⟨_, rfl⟩
    rw [← hz5] at HB4 HF
    rw [← hz5]
    clear b4' hB4 H4
    go_wp2
    go_ret
    rw [HF.out]
    exact ⟨a4', c4', by rw [hz5]; rfl, HB4.out, B4, k4'⟩
  · have HF : Hid (putI xs vn = putNum (putNum (putNum xs 0) (vn / 1000000)) (vn % 1000000)) := by show _ = _; rw [putI, if_neg hneg]
    have H1 := hide' (impl_PutNum_end a cap xs 0 w hs ka (by omega))
    have hp1 := putNum_len xs 0
    have hp2 := putNum_len (putNum xs 0) (vn / 1000000)
    have hm0 : 0 ≤ vn := by omega
    have Hd := hide' (wd_pos vn (by omega) (by omega))
    have Hm := hide' (wm_pos vn (by omega))
    have Hmw := hide' (wmw_pos vn (by omega))
    clear hs
    go_enter Tryz.func58, Tryz.ntmps58
    go_wp2_with fail
    refine H1.out.mono ?_
    rintro e w2 ⟨a2', c2', rfl, hB2, b2, k2'⟩
    have B2 := b2
    have H3 := hide' (HP.out a2' c2' (putNum xs 0) (vn / 1000000) w2 (hB2.mono (by omega)) k2' (by omega))
    generalize putNum xs 0 = z2 at *
    generalize z2.length = n2 at *
    clear b2 hB2 H1
    go_wp2_with fail
    try rw [Hd.out]
    refine H3.out.mono ?_
    rintro e w3 ⟨a3', c3', rfl, hB3, b3, k3'⟩
    have B3 := Below.on B2 b3
    have H4 := hide' (HP.out a3' c3' (putNum z2 (vn / 1000000)) (vn % 1000000) w3 (hB3.mono (by omega)) k3' (by omega))
    generalize putNum z2 (vn / 1000000) = z3 at *
    generalize z3.length = n3' at *
    clear b3 hB3 H3
    go_wp2_with fail
    first | rw [Hmw.out] | rw [Hm.out] | skip
    refine H4.out.mono ?_
    rintro e w4 ⟨a4', c4', rfl, hB4, b4', k4'⟩
    have B4 := Below.on B3 b4'
    have HB4 := hide' (hB4.mono (base' := w.heap.size) B3.size)
    obtain ⟨z5, hz5⟩ : ∃ z5, z5 = putNum z3 (vn % 1000000) := ⟨_, rfl⟩
    rw [← hz5] at HB4 HF
    rw [← hz5]
    clear b4' hB4 H4
    go_wp2
    go_ret
    rw [HF.out]
    exact ⟨a4', c4', by rw [hz5]; rfl, HB4.out, B4, k4'⟩
end Go.Proofs.YteeplidoojeddaaGreatDoor
