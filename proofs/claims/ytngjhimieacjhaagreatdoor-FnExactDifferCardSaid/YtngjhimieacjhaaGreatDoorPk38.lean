/-
  Texts that a law leans on, one behind the other; no statement is proved here.
-/
import Derived.Test.YtngjhimieacjhaaGreatDoorPk36
import Derived.Test.YtngjhimieacjhaaGreatDoorPk35
import Derived.Test.YtngjhimieacjhaaGreatDoorPk37
import Derived.Test.YtngjhimieacjhaaGreatDoorPk26
import Derived.Test.YtngjhimieacjhaaGreatDoorPk15
import Derived.Test.YtngjhimieacjhaaGreatDoorPk7
import Derived.Deep.RegionHeld3
import Derived.Deep.CutRange
import Derived.Test.YtngjhimieacjhaaGreatDoorPk3
import Derived.Test.YtngjhimieacjhaaGreatDoorPk8
/-
  FnExactDiffer answers true, whatever two states it is handed; it makes new memory and turns nothing old.
-/
namespace Go.Proofs.YtngjhimieacjhaaGreatDoor
open Go.RowKit Go.Shelf
set_option linter.unusedVariables false
set_option linter.unusedSimpArgs false

theorem Stt_parts_D {d : Nat} (s : Stt d) : ∃ (s0 : Int) (s1 : Bool) (pl : Nat) (s3 : Int) (ll : Nat), s.1 = s0 ∧ s.2.1 = s1 ∧ s.2.2.1.length = pl ∧ s.2.2.2.1 = s3 ∧ s.2.2.2.2.length = ll := ⟨_, _, _, _, _, rfl, rfl, rfl, rfl, rfl⟩
theorem dfA_sz (D : Nat) (s t : Stt (D + 1)) : szK (dfA D s t) ≤ 1048576 := by
  unfold dfA
  split
  · next h =>
    have h1 := dfL_len h.1 h.2
    have h2 : ((dfL D s.2.2.2.2 t.2.2.2.2).map List.length).sum ≤ (dfL D s.2.2.2.2 t.2.2.2.2).length * 60 := sum_le (dfL_short h.1 h.2)
    have h3 : (dfL D s.2.2.2.2 t.2.2.2.2).length * 60 ≤ 32 * 60 := Nat.mul_le_mul_right _ h1
    unfold szK
    omega
  · simp [szK]

theorem saOwn_far {w w' : World} {d : Nat} {cs : List Value} {s : Stt d} {B B' : List Nat} (h : SaOwn w d cs s B) (hT : Turned B' w w') (hd : ∀ b ∈ B, b ∉ B') : SaOwn w' d cs s B := by
  obtain ⟨c2, B2, g, c, sf, rfl, h1, h2, h3, hR, rfl, h4⟩ := h
  have hRl := hR.2.2.2.1
  exact ⟨c2, B2, g, c, sf, rfl, h1.agree fun b hb' => hT.block b (h1.lt b hb') (hd b (by simp [hb'])), h2, h3, ntlo_agree hR hT.size fun b hb1 hb2 => hT.block b (by omega) (hd b (by simp [List.mem_range'_1]; omega)), rfl, h4⟩

/-- What stands behind the first calls: both boxes, an answer. -/
def DfW (w2 : World) (A : List (List Int)) (u : Value) (wx : World) : Prop := ∃ B, KOwn wx u A B ∧ (∀ b ∈ B, w2.heap.size ≤ b ∧ b < wx.heap.size) ∧ Below w2.heap.size w2 wx

set_option maxHeartbeats 25600000 in
set_option maxRecDepth 100000 in
theorem walk_FnExactDiffer (D : Nat) (cs ct : List Value) (st tt : Stt (D + 1)) (w : World) (hE : Errs w) (hx : SaSg (fun b => b < w.heap.size) w (D + 1) cs st) (hy : SaSg (fun b => b < w.heap.size) w (D + 1) ct tt) :
    Calls Tryz.prog 5 #[.agg cs.toArray, .agg ct.toArray] w fun e w' => e = .returned (.bool true) ∧ Below w.heap.size w w' := by
  have Hb : Hid (∀ o o' : Obj, Below w.heap.size w ((w.alloc o).alloc o')) := fun o o' => ((Below.refl _ _).alloc (Nat.le_refl _) o).alloc (by simp) o'
  have HEr := hide' hE
  have HVs : Hid (∀ wx, Below w.heap.size w wx → SaSg (fun b => b < w.heap.size) wx (D + 1) cs st) := fun wx hb => hx.agree (agree_below hb)
  have HVt : Hid (∀ wx, Below w.heap.size w wx → SaSg (fun b => b < w.heap.size) wx (D + 1) ct tt) := fun wx hb => hy.agree (agree_below hb)
  have HSs : Hid (∀ wx, Below w.heap.size w wx → Calls Tryz.prog 6 #[.agg cs.toArray, .int .i64 1048576] wx (SzSaE (D + 1) st wx)) := fun wx hb => szState_any (D + 1) w.heap.size cs st wx (HVs.out wx hb) hb.size
  have HSt : Hid (∀ (lf : Int), 0 ≤ lf → lf ≤ 1048576 → ∀ wx, Below w.heap.size w wx → Calls Tryz.prog 6 #[.agg ct.toArray, .int .i64 lf] wx (SzSaE (D + 1) tt wx)) := fun lf h0 h1 wx hb => szStateL_any (D + 1) w.heap.size ct tt lf h0 h1 wx (HVt.out wx hb) hb.size
  have Hbox : Hid (∀ (o o' : Obj) wx, Below ((w.alloc o).alloc o').heap.size ((w.alloc o).alloc o') wx → wx.heap[w.heap.size]? = some o ∧ wx.heap[w.heap.size + 1]? = some o') := fun o o' wx h => ⟨(h.block _ (by simp; omega)).trans (two_boxes w o o').1, (h.block _ (by simp)).trans (two_boxes w o o').2⟩
  obtain ⟨s0, s1, sl, s3, sn, e0, e1, e2, e3, e4⟩ := Stt_parts_D st
  have HPs : Hid (∀ (R : Nat → Prop) (wx : World) (cs' : List Value), SaSg R wx (D + 1) cs' st → ∃ (sa : Option Addr) (sc : Nat) (se : Option Addr) (sf : Nat), cs' = [.int .i64 s0, .bool s1, .slice sa sl sc, .int .i64 s3, .slice se sn sf]) := fun R wx cs' h => by
    obtain ⟨pa, pc, ea, ec, rfl, -, -⟩ := h.form
    subst e0 e1 e2 e3 e4
    exact ⟨_, _, _, _, rfl⟩
  obtain ⟨t0, t1, tl, t3, tn, e0', e1', e2', e3', e4'⟩ := Stt_parts_D tt
  have HPt : Hid (∀ (R : Nat → Prop) (wx : World) (cs' : List Value), SaSg R wx (D + 1) cs' tt → ∃ (ta : Option Addr) (tc : Nat) (te : Option Addr) (tf : Nat), cs' = [.int .i64 t0, .bool t1, .slice ta tl tc, .int .i64 t3, .slice te tn tf]) := fun R wx cs' h => by
    obtain ⟨pa, pc, ea, ec, rfl, -, -⟩ := h.form
    subst e0' e1' e2' e3' e4'
    exact ⟨_, _, _, _, rfl⟩
  obtain ⟨sa, sc, se, sf, rfl⟩ := HPs.out _ _ _ hx
  obtain ⟨ta, tc, te, tf, rfl⟩ := HPt.out _ _ _ hy
  clear hx hy hE e0 e1 e2 e3 e4 e0' e1' e2' e3' e4'
  have HT0 : Hid (SaSz (D + 1) st → ∀ wx, Below w.heap.size w wx → Calls Tryz.prog 8 #[.agg #[.int .i64 s0, .bool s1, .slice sa sl sc, .int .i64 s3, .slice se sn sf]] wx (SaEndO (D + 1) st wx)) := fun hz wx hb => toStateO_any (D + 1) w.heap.size _ st wx (HVs.out wx hb) hb.size hz
  have HU0 : Hid (SaSz (D + 1) tt → ∀ wx, Below w.heap.size w wx → Calls Tryz.prog 8 #[.agg #[.int .i64 t0, .bool t1, .slice ta tl tc, .int .i64 t3, .slice te tn tf]] wx (SaEndO (D + 1) tt wx)) := fun hz wx hb => toStateO_any (D + 1) w.heap.size _ tt wx (HVt.out wx hb) hb.size hz
  have HSp0 : Hid (SaSz (D + 1) st → SaSz (D + 1) tt → ∀ c1 c2 wx, SaSg (fun b => b < wx.heap.size) wx (D + 1) c1 st → SaSg (fun b => b < wx.heap.size) wx (D + 1) c2 tt → Calls Tryz.prog 20 #[.agg c1.toArray, .agg c2.toArray] wx (KEnd (dfA D st tt) wx)) := fun hz hz' c1 c2 wx h1 h2 => spec_Differ_any D wx.heap.size c1 c2 st tt wx h1 h2 (Nat.le_refl _) hz hz'
  have HIm0 : Hid (SaSz (D + 1) st → SaSz (D + 1) tt → ∀ c1 c2 wx, Below w.heap.size w wx → SaSg (fun b => b < wx.heap.size) wx (D + 1) c1 st → SaSg (fun b => b < wx.heap.size) wx (D + 1) c2 tt → Calls Tryz.prog 21 #[.agg c1.toArray, .agg c2.toArray] wx (KEnd (dfA D st tt) wx)) := fun hz hz' c1 c2 wx hb h1 h2 => impl_Differ_any D wx.heap.size c1 c2 st tt wx h1 h2 (Nat.le_refl _) hz hz' (HEr.out.grow hb)
  have hkz : szK (dfA D st tt) ≤ 1048576 := dfA_sz _ _ _
  generalize dfA D st tt = A at *
  have hsum : (A.map List.length).sum ≤ 1048576 := by have h5 : szK A = A.length + (A.map List.length).sum := rfl; omega
  have HEK : Hid (∀ x y B B' wx, KOwn wx x A B → KOwn wx y A B' → Calls Tryz.prog 11 #[x, y] wx fun e w' => e = .returned (.bool true) ∧ Below wx.heap.size wx w') := fun x y B B' wx h h' => eqByteSS_same wx.heap.size x y _ wx h.read h'.read (Nat.le_refl _) hkz
  have HMK : Hid (∀ x B wx, KOwn wx x A B → Calls Tryz.prog 16 #[x, .int .i64 1] wx fun e w' => e = .returned (.int .i64 ((1 + (A.map List.length).sum : Nat) : Int)) ∧ KOwn w' x (mkKs A 1) B ∧ Turned B wx w') := fun x B wx h => markByteSS_any x _ B 1 wx h (by omega) (by omega)
  have HHK : Hid (∀ x B wx, KOwn wx x (mkKs A 1) B → Calls Tryz.prog 17 #[x, .int .i64 1] wx fun e w' => e = .returned (.int .i64 ((1 + (A.map List.length).sum : Nat) : Int)) ∧ Below wx.heap.size wx w') := fun x B wx h => heldByteSS_any wx.heap.size x _ 1 wx h.read (Nat.le_refl _) (by omega) (by omega)
  generalize hsm : (A.map List.length).sum = sm at *
  clear HVs HVt hkz hsm
  go_enter Tryz.func5, Tryz.ntmps5
  go_wp2_with fail
  refine (HSs.out _ (Hb.out _ _)).mono ?_
  rintro e w1 ⟨hcase, b1⟩
  have Hb1 := hide' b1
  clear HSs b1
  rcases hcase with rfl | ⟨m, hm0, hm1, rfl, hsz⟩
  · have HBF := hide' (Below.on (Hb.out _ _) Hb1.out)
    clear HSt HT0 HU0 HSp0 HIm0
    go_wp2
    go_ret
    exact ⟨rfl, HBF.out⟩
  have hm' : ¬ m < 0 := by omega
  have HZs := hide' hsz
  obtain ⟨z0, z1, z2, z3, z4⟩ := five_row (Hbox.out _ _ _ Hb1.out).2
  have HS2 := hide' (HSt.out m hm0 hm1 w1 (Below.on (Hb.out _ _) Hb1.out))
  clear hsz HSt
  go_wp2_with fail
  refine HS2.out.mono ?_
  rintro e w2 ⟨hcase, b2⟩
  have Hb2 := hide' (Below.on Hb1.out b2)
  clear HS2 b2 Hb1 z0 z1 z2 z3 z4 hm' hm0 hm1
  rcases hcase with rfl | ⟨m2, hm0, hm1, rfl, hsz⟩
  · have HBF := hide' (Below.on (Hb.out _ _) Hb2.out)
    clear HT0 HU0 HSp0 HIm0
    go_wp2
    go_ret
    exact ⟨rfl, HBF.out⟩
  have hm' : ¬ m2 < 0 := by omega
  have HT := hide' (HT0.out HZs.out)
  have HU := hide' (HU0.out hsz)
  have HSp := hide' (HSp0.out HZs.out hsz)
  have HIm := hide' (HIm0.out HZs.out hsz)
  have HMs : Hid (∀ cs1 B wx, SaOwn wx (D + 1) cs1 st B → Calls Tryz.prog 14 #[.agg cs1.toArray, .int .i64 1] wx fun e w' => (∃ n : Nat, e = .returned (.int .i64 (n : Int)) ∧ n ≤ 35184372088833) ∧ Turned B wx w') := fun cs1 B wx h => (markStateG_any D cs1 st B 1 (by omega) wx h HZs.out).mono fun e w' h => ⟨by obtain ⟨⟨n, h1, h2⟩, _⟩ := h; exact ⟨n, h1, by omega⟩, h.2⟩
  have HMt : Hid (∀ cs1 B (q : Nat) wx, q ≤ 35184372088833 → SaOwn wx (D + 1) cs1 tt B → Calls Tryz.prog 14 #[.agg cs1.toArray, .int .i64 (q : Int)] wx fun e w' => (∃ n : Nat, e = .returned (.int .i64 (n : Int)) ∧ n ≤ q + 35184372088832) ∧ Turned B wx w') := fun cs1 B q wx hq h => markStateG_any D cs1 tt B q hq wx h hsz
  have HEs : Hid (∀ cs1 cs2 wx, SaSg (fun b => b < wx.heap.size) wx (D + 1) cs1 st → SaSg (fun b => b < wx.heap.size) wx (D + 1) cs2 st → Calls Tryz.prog 12 #[.agg cs1.toArray, .agg cs2.toArray] wx fun e w' => e = .returned (.bool true) ∧ Below wx.heap.size wx w') := fun cs1 cs2 wx h h' => eqState_any (D + 1) wx.heap.size cs1 cs2 st wx h h' (Nat.le_refl _) HZs.out
  have HEt : Hid (∀ cs1 cs2 wx, SaSg (fun b => b < wx.heap.size) wx (D + 1) cs1 tt → SaSg (fun b => b < wx.heap.size) wx (D + 1) cs2 tt → Calls Tryz.prog 12 #[.agg cs1.toArray, .agg cs2.toArray] wx fun e w' => e = .returned (.bool true) ∧ Below wx.heap.size wx w') := fun cs1 cs2 wx h h' => eqState_any (D + 1) wx.heap.size cs1 cs2 tt wx h h' (Nat.le_refl _) hsz
  clear HT0 HU0 HSp0 HIm0 hsz HZs
  -- both boxes lie as they lay
  have HAB : Hid (∀ wx, Below w2.heap.size w2 wx → (wx.cell? ⟨w.heap.size, 0, none⟩ = some (.int .i64 s0) ∧ wx.cell? ⟨w.heap.size, 1, none⟩ = some (.bool s1) ∧ wx.cell? ⟨w.heap.size, 2, none⟩ = some (.slice sa sl sc) ∧ wx.cell? ⟨w.heap.size, 3, none⟩ = some (.int .i64 s3) ∧ wx.cell? ⟨w.heap.size, 4, none⟩ = some (.slice se sn sf) ∧ wx.cell? ⟨w.heap.size + 1, 0, none⟩ = some (.int .i64 t0) ∧ wx.cell? ⟨w.heap.size + 1, 1, none⟩ = some (.bool t1) ∧ wx.cell? ⟨w.heap.size + 1, 2, none⟩ = some (.slice ta tl tc) ∧ wx.cell? ⟨w.heap.size + 1, 3, none⟩ = some (.int .i64 t3) ∧ wx.cell? ⟨w.heap.size + 1, 4, none⟩ = some (.slice te tn tf)) ∧ Below w.heap.size w wx) := fun wx h => by
    obtain ⟨r1, r2⟩ := Hbox.out _ _ _ (Below.on Hb2.out h)
    obtain ⟨f0, f1, f2, f3, f4⟩ := five_row r1
    obtain ⟨g0, g1, g2, g3, g4⟩ := five_row r2
    exact ⟨⟨f0, f1, f2, f3, f4, g0, g1, g2, g3, g4⟩, Below.on (Below.on (Hb.out _ _) Hb2.out) h⟩
  have hz2 : w.heap.size + 2 ≤ w2.heap.size := by have := Hb2.out.size; simp at this; omega
  clear Hbox Hb2
  have hb22 := Below.refl w2.heap.size w2
  have Hb22 := hide' hb22
  clear hb22
  have HTA : Hid (Calls Tryz.prog 8 #[.agg #[.int .i64 s0, .bool s1, .slice sa sl sc, .int .i64 s3, .slice se sn sf]] w2.drew fun e wa => ∃ x0 x1 x2 x3, e = .returned (.agg #[.int .i64 s0, .bool s1, .slice x0 sl x1, .int .i64 s3, .slice x2 sn x3]) ∧ (wa.cell? ⟨w.heap.size, 0, none⟩ = some (.int .i64 s0) ∧ wa.cell? ⟨w.heap.size, 1, none⟩ = some (.bool s1) ∧ wa.cell? ⟨w.heap.size, 2, none⟩ = some (.slice sa sl sc) ∧ wa.cell? ⟨w.heap.size, 3, none⟩ = some (.int .i64 s3) ∧ wa.cell? ⟨w.heap.size, 4, none⟩ = some (.slice se sn sf) ∧ wa.cell? ⟨w.heap.size + 1, 0, none⟩ = some (.int .i64 t0) ∧ wa.cell? ⟨w.heap.size + 1, 1, none⟩ = some (.bool t1) ∧ wa.cell? ⟨w.heap.size + 1, 2, none⟩ = some (.slice ta tl tc) ∧ wa.cell? ⟨w.heap.size + 1, 3, none⟩ = some (.int .i64 t3) ∧ wa.cell? ⟨w.heap.size + 1, 4, none⟩ = some (.slice te tn tf)) ∧ Hid (Calls Tryz.prog 8 #[.agg #[.int .i64 t0, .bool t1, .slice ta tl tc, .int .i64 t3, .slice te tn tf]] wa fun e wb => ∃ y0 y1 y2 y3, e = .returned (.agg #[.int .i64 t0, .bool t1, .slice y0 tl y1, .int .i64 t3, .slice y2 tn y3]) ∧ (wb.cell? ⟨w.heap.size, 0, none⟩ = some (.int .i64 s0) ∧ wb.cell? ⟨w.heap.size, 1, none⟩ = some (.bool s1) ∧ wb.cell? ⟨w.heap.size, 2, none⟩ = some (.slice sa sl sc) ∧ wb.cell? ⟨w.heap.size, 3, none⟩ = some (.int .i64 s3) ∧ wb.cell? ⟨w.heap.size, 4, none⟩ = some (.slice se sn sf) ∧ wb.cell? ⟨w.heap.size + 1, 0, none⟩ = some (.int .i64 t0) ∧ wb.cell? ⟨w.heap.size + 1, 1, none⟩ = some (.bool t1) ∧ wb.cell? ⟨w.heap.size + 1, 2, none⟩ = some (.slice ta tl tc) ∧ wb.cell? ⟨w.heap.size + 1, 3, none⟩ = some (.int .i64 t3) ∧ wb.cell? ⟨w.heap.size + 1, 4, none⟩ = some (.slice te tn tf)) ∧ Hid (Calls Tryz.prog 20 #[.agg #[.int .i64 s0, .bool s1, .slice x0 sl x1, .int .i64 s3, .slice x2 sn x3], .agg #[.int .i64 t0, .bool t1, .slice y0 tl y1, .int .i64 t3, .slice y2 tn y3]] wb fun e wc => ∃ ua un uc, e = .returned (.slice ua un uc) ∧ (wc.cell? ⟨w.heap.size, 0, none⟩ = some (.int .i64 s0) ∧ wc.cell? ⟨w.heap.size, 1, none⟩ = some (.bool s1) ∧ wc.cell? ⟨w.heap.size, 2, none⟩ = some (.slice sa sl sc) ∧ wc.cell? ⟨w.heap.size, 3, none⟩ = some (.int .i64 s3) ∧ wc.cell? ⟨w.heap.size, 4, none⟩ = some (.slice se sn sf) ∧ wc.cell? ⟨w.heap.size + 1, 0, none⟩ = some (.int .i64 t0) ∧ wc.cell? ⟨w.heap.size + 1, 1, none⟩ = some (.bool t1) ∧ wc.cell? ⟨w.heap.size + 1, 2, none⟩ = some (.slice ta tl tc) ∧ wc.cell? ⟨w.heap.size + 1, 3, none⟩ = some (.int .i64 t3) ∧ wc.cell? ⟨w.heap.size + 1, 4, none⟩ = some (.slice te tn tf)) ∧ Hid (DfW w2 A (.slice ua un uc) wc)))) := by
    have bW0 : Below w2.heap.size w2 w2.drew := (Below.refl _ w2).drew
    refine (HT.out w2.drew (HAB.out w2.drew (Below.on Hb22.out bW0)).2).mono ?_
    rintro e wa ⟨ca, rfl, Ba, hOa, hBa, ba⟩
    obtain ⟨x0, x1, x2, x3, rfl⟩ := HPs.out _ _ _ hOa.read
    have bWa := Below.on bW0 ba
    have b2a := Below.on Hb22.out bWa
    refine ⟨_, _, _, _, rfl, (HAB.out wa b2a).1, ?_⟩
    refine Calls.mono (HU.out wa (HAB.out wa b2a).2) ?_
    rintro e wb ⟨cb, rfl, Bb, hOb, hBb, bb⟩
    obtain ⟨y0, y1, y2, y3, rfl⟩ := HPt.out _ _ _ hOb.read
    have bWb := Below.on bWa bb
    have b2b := Below.on Hb22.out bWb
    refine ⟨_, _, _, _, rfl, (HAB.out wb b2b).1, ?_⟩
    refine Calls.mono (HSp.out _ _ wb (hOa.on bb).read hOb.read) ?_
    rintro e wc ⟨u, rfl, B, hO, hB, bc⟩
    obtain ⟨ua, un, uc, rfl⟩ := hO.form
    have bWc := Below.on bWb bc
    exact ⟨_, _, _, rfl, (HAB.out wc (Below.on Hb22.out bWc)).1, B, hO, fun b hb => by have h1 := hB b hb; have h2 := bWb.size; omega, bWc⟩
  obtain ⟨f0, f1, f2, f3, f4, f5, f6, f7, f8, f9⟩ := (HAB.out w2 Hb22.out).1
  go_wp2_with fail
  go_region_held3 (fun wx => (wx.cell? ⟨w.heap.size, 0, none⟩ = some (.int .i64 s0) ∧ wx.cell? ⟨w.heap.size, 1, none⟩ = some (.bool s1) ∧ wx.cell? ⟨w.heap.size, 2, none⟩ = some (.slice sa sl sc) ∧ wx.cell? ⟨w.heap.size, 3, none⟩ = some (.int .i64 s3) ∧ wx.cell? ⟨w.heap.size, 4, none⟩ = some (.slice se sn sf) ∧ wx.cell? ⟨w.heap.size + 1, 0, none⟩ = some (.int .i64 t0) ∧ wx.cell? ⟨w.heap.size + 1, 1, none⟩ = some (.bool t1) ∧ wx.cell? ⟨w.heap.size + 1, 2, none⟩ = some (.slice ta tl tc) ∧ wx.cell? ⟨w.heap.size + 1, 3, none⟩ = some (.int .i64 t3) ∧ wx.cell? ⟨w.heap.size + 1, 4, none⟩ = some (.slice te tn tf))) (go_keep) (first
    | (go_at_call_of 8 s0; refine HTA.out.mono ?_; rintro e wa ⟨x0, x1, x2, x3, rfl, ⟨i0, i1, i2, i3, i4, i5, i6, i7, i8, i9⟩, HTB⟩)
    | (go_at_call_of 8 t0; refine HTB.out.mono ?_; rintro e wb ⟨y0, y1, y2, y3, rfl, ⟨j0, j1, j2, j3, j4, j5, j6, j7, j8, j9⟩, HTC⟩)
    | (go_at_call 20; refine HTC.out.mono ?_; rintro e w3 ⟨uaw3, unw3, ucw3, rfl, ⟨k0, k1, k2, k3, k4, k5, k6, k7, k8, k9⟩, HDW⟩))
  clear f0 f1 f2 f3 f4 f5 f6 f7 f8 f9 i0 i1 i2 i3 i4 i5 i6 i7 i8 i9 j0 j1 j2 j3 j4 j5 j6 j7 j8 j9 k0 k1 k2 k3 k4 k5 k6 k7 k8 k9 HTA HTB HTC
  obtain ⟨Bw, hW3, hBw, b3⟩ := HDW.out
  have HW3 := hide' hW3
  have HBw := hide' hBw
  have Hb3 := hide' b3
  have hz23 : w2.heap.size ≤ w3.heap.size := b3.size
  have HT3 := hide' (HT.out w3 (HAB.out w3 b3).2)
  obtain ⟨f0, f1, f2, f3, f4, g0, g1, g2, g3, g4⟩ := (HAB.out w3 b3).1
  clear HDW hW3 hBw b3
  go_wp2_with fail
  refine HT3.out.mono ?_
  rintro e w4 ⟨cx, rfl, B4, hO4, hB4, b4⟩
  obtain ⟨sa', sc', se', sf', rfl⟩ := HPs.out _ _ _ hO4.read
  have bal : Below w4.heap.size w4 (w4.alloc (.cells #[.int .i64 s0, .bool s1, .slice sa' sl sc', .int .i64 s3, .slice se' sn sf'] 31)) := (Below.refl _ _).alloc (Nat.le_refl _) _
  have HO4 := hide' (hO4.on bal)
  have HB4 : Hid (∀ b ∈ B4, w3.heap.size ≤ b ∧ b < w4.heap.size) := hB4
  have Hb4 := hide' (Below.on (Below.on Hb3.out b4) bal)
  have HW4 := hide' ((HW3.out.on b4).on bal)
  have HX4 : Hid ((w4.alloc (.cells #[.int .i64 s0, .bool s1, .slice sa' sl sc', .int .i64 s3, .slice se' sn sf'] 31)).heap[w4.heap.size]? = some (.cells #[.int .i64 s0, .bool s1, .slice sa' sl sc', .int .i64 s3, .slice se' sn sf'] 31)) := (MapKept.heap_alloc w4 _).1
  have hz34 : w3.heap.size ≤ w4.heap.size := b4.size
  have HU4 := hide' (HU.out _ (HAB.out _ Hb4.out).2)
  clear hO4 hB4 b4 bal HT3 Hb3 HW3 f0 f1 f2 f3 f4 g0 g1 g2 g3 g4
  obtain ⟨f0, f1, f2, f3, f4, g0, g1, g2, g3, g4⟩ := (HAB.out _ Hb4.out).1
  go_wp2_with fail
  refine HU4.out.mono ?_
  rintro e w6 ⟨cy, rfl, B6, hO6, hB6, b6⟩
  obtain ⟨ta', tc', te', tf', rfl⟩ := HPt.out _ _ _ hO6.read
  have bal : Below w6.heap.size w6 (w6.alloc (.cells #[.int .i64 t0, .bool t1, .slice ta' tl tc', .int .i64 t3, .slice te' tn tf'] 31)) := (Below.refl _ _).alloc (Nat.le_refl _) _
  have HO6 := hide' (hO6.on bal)
  have HB6 : Hid (∀ b ∈ B6, w4.heap.size + 1 ≤ b ∧ b < w6.heap.size) := fun b hb => by have := hB6 b hb; simp at this; exact this
  have b46 := Below.on b6 bal
  have Hb6 := hide' (Below.on Hb4.out b46)
  have HW6 := hide' (HW4.out.on b46)
  have HX6 := hide' (row_on HX4.out b46)
  have HP6 := hide' (HO4.out.on b46)
  have HY6 : Hid ((w6.alloc (.cells #[.int .i64 t0, .bool t1, .slice ta' tl tc', .int .i64 t3, .slice te' tn tf'] 31)).heap[w6.heap.size]? = some (.cells #[.int .i64 t0, .bool t1, .slice ta' tl tc', .int .i64 t3, .slice te' tn tf'] 31)) := (MapKept.heap_alloc w6 _).1
  have hz46 : w4.heap.size + 1 ≤ w6.heap.size := by have := b6.size; simpa using this
  have HI6 := hide' (HIm.out _ _ _ (HAB.out _ Hb6.out).2 HP6.out.read HO6.out.read)
  clear hO6 hB6 b6 bal b46 HU4 Hb4 HW4 HX4 HO4 f0 f1 f2 f3 f4 g0 g1 g2 g3 g4
  obtain ⟨f0, f1, f2, f3, f4⟩ := five_row HX6.out
  obtain ⟨g0, g1, g2, g3, g4⟩ := five_row HY6.out
  go_wp2_with fail
  refine HI6.out.mono ?_
  rintro e w8 ⟨G0, rfl, Bg, hG8, hBg, b8⟩
  obtain ⟨Ga, Gn, Gc, rfl⟩ := hG8.form
  have hE8 := hide' (HEK.out _ _ _ _ _ hG8 (HW6.out.on b8))
  have HG8 := hide' hG8
  have HW8 := hide' (HW6.out.on b8)
  have HP8 := hide' (HP6.out.on b8)
  have HO8 := hide' (HO6.out.on b8)
  have HX8 := hide' (row_on HX6.out b8)
  have HY8 := hide' (row_on HY6.out b8)
  have Hb8 := hide' (Below.on Hb6.out b8)
  have HBg : Hid (∀ b ∈ Bg, w6.heap.size + 1 ≤ b ∧ b < w8.heap.size) := fun b hb => by have := hBg b hb; (try simp at this); exact this
  have hz68 : w6.heap.size + 1 ≤ w8.heap.size := by have := b8.size; (try simp at this); omega
  clear HI6 hG8 hBg b8 HW6 HP6 HO6 HX6 HY6 Hb6 f0 f1 f2 f3 f4 g0 g1 g2 g3 g4
  go_wp2_with fail
  refine hE8.out.mono ?_
  rintro e w9 ⟨rfl, b9⟩
  have HG9 := hide' (HG8.out.on b9)
  have HW9 := hide' (HW8.out.on b9)
  have HP9 := hide' (HP8.out.on b9)
  have HO9 := hide' (HO8.out.on b9)
  have HX9 := hide' (row_on HX8.out b9)
  have HY9 := hide' (row_on HY8.out b9)
  have Hb9 := hide' (Below.on Hb8.out b9)
  clear hE8 b9 HG8 HW8 HP8 HO8 HX8 HY8 Hb8
  have HCel : Hid (∀ wy, Below w9.heap.size w9 wy → (wy.cell? ⟨w.heap.size, 0, none⟩ = some (.int .i64 s0) ∧ wy.cell? ⟨w.heap.size, 1, none⟩ = some (.bool s1) ∧ wy.cell? ⟨w.heap.size, 2, none⟩ = some (.slice sa sl sc) ∧ wy.cell? ⟨w.heap.size, 3, none⟩ = some (.int .i64 s3) ∧ wy.cell? ⟨w.heap.size, 4, none⟩ = some (.slice se sn sf) ∧ wy.cell? ⟨w4.heap.size, 0, none⟩ = some (.int .i64 s0) ∧ wy.cell? ⟨w4.heap.size, 1, none⟩ = some (.bool s1) ∧ wy.cell? ⟨w4.heap.size, 2, none⟩ = some (.slice sa' sl sc') ∧ wy.cell? ⟨w4.heap.size, 3, none⟩ = some (.int .i64 s3) ∧ wy.cell? ⟨w4.heap.size, 4, none⟩ = some (.slice se' sn sf'))) := by
    intro wy hy
    obtain ⟨⟨f0, f1, f2, f3, f4, g0, g1, g2, g3, g4⟩, -⟩ := HAB.out wy (Below.on Hb9.out hy)
    obtain ⟨h0, h1, h2, h3, h4⟩ := five_row (row_on HX9.out hy)
    exact ⟨f0, f1, f2, f3, f4, h0, h1, h2, h3, h4⟩
  have HTd : Hid (Calls Tryz.prog 8 #[.agg #[.int .i64 s0, .bool s1, .slice sa sl sc, .int .i64 s3, .slice se sn sf]] w9.drew fun e wa => ∃ z0 z1 z2 z3 z4, e = .returned (.agg #[z0, z1, z2, z3, z4]) ∧ (wa.cell? ⟨w.heap.size, 0, none⟩ = some (.int .i64 s0) ∧ wa.cell? ⟨w.heap.size, 1, none⟩ = some (.bool s1) ∧ wa.cell? ⟨w.heap.size, 2, none⟩ = some (.slice sa sl sc) ∧ wa.cell? ⟨w.heap.size, 3, none⟩ = some (.int .i64 s3) ∧ wa.cell? ⟨w.heap.size, 4, none⟩ = some (.slice se sn sf) ∧ wa.cell? ⟨w4.heap.size, 0, none⟩ = some (.int .i64 s0) ∧ wa.cell? ⟨w4.heap.size, 1, none⟩ = some (.bool s1) ∧ wa.cell? ⟨w4.heap.size, 2, none⟩ = some (.slice sa' sl sc') ∧ wa.cell? ⟨w4.heap.size, 3, none⟩ = some (.int .i64 s3) ∧ wa.cell? ⟨w4.heap.size, 4, none⟩ = some (.slice se' sn sf')) ∧
      Hid (Calls Tryz.prog 12 #[.agg #[.int .i64 s0, .bool s1, .slice sa' sl sc', .int .i64 s3, .slice se' sn sf'], .agg #[z0, z1, z2, z3, z4]] wa fun e wb => e = .returned (.bool true) ∧ (wb.cell? ⟨w.heap.size, 0, none⟩ = some (.int .i64 s0) ∧ wb.cell? ⟨w.heap.size, 1, none⟩ = some (.bool s1) ∧ wb.cell? ⟨w.heap.size, 2, none⟩ = some (.slice sa sl sc) ∧ wb.cell? ⟨w.heap.size, 3, none⟩ = some (.int .i64 s3) ∧ wb.cell? ⟨w.heap.size, 4, none⟩ = some (.slice se sn sf) ∧ wb.cell? ⟨w4.heap.size, 0, none⟩ = some (.int .i64 s0) ∧ wb.cell? ⟨w4.heap.size, 1, none⟩ = some (.bool s1) ∧ wb.cell? ⟨w4.heap.size, 2, none⟩ = some (.slice sa' sl sc') ∧ wb.cell? ⟨w4.heap.size, 3, none⟩ = some (.int .i64 s3) ∧ wb.cell? ⟨w4.heap.size, 4, none⟩ = some (.slice se' sn sf')) ∧ Hid (Below w9.heap.size w9 wb))) := by
    have bW0 : Below w9.heap.size w9 w9.drew := (Below.refl _ w9).drew
    refine (HT.out w9.drew (HAB.out _ (Below.on Hb9.out bW0)).2).mono ?_
    rintro e wa ⟨cz, rfl, Bz, hOz, hBz, bz⟩
    obtain ⟨z1, z2, z3, z4, rfl⟩ := HPs.out _ _ _ hOz.read
    have bWa := Below.on bW0 bz
    refine ⟨_, _, _, _, _, rfl, HCel.out _ bWa, ?_⟩
    exact (HEs.out [.int .i64 s0, .bool s1, .slice sa' sl sc', .int .i64 s3, .slice se' sn sf'] _ wa (HP9.out.on bWa).read hOz.read).mono fun e wb h => ⟨h.1, HCel.out _ (Below.on bWa h.2), Below.on bWa h.2⟩
  obtain ⟨f0, f1, f2, f3, f4, f5, f6, f7, f8, f9⟩ := HCel.out w9 (Below.refl _ _)
  go_wp2_with fail
  go_region_held3 (fun wx => (wx.cell? ⟨w.heap.size, 0, none⟩ = some (.int .i64 s0) ∧ wx.cell? ⟨w.heap.size, 1, none⟩ = some (.bool s1) ∧ wx.cell? ⟨w.heap.size, 2, none⟩ = some (.slice sa sl sc) ∧ wx.cell? ⟨w.heap.size, 3, none⟩ = some (.int .i64 s3) ∧ wx.cell? ⟨w.heap.size, 4, none⟩ = some (.slice se sn sf) ∧ wx.cell? ⟨w4.heap.size, 0, none⟩ = some (.int .i64 s0) ∧ wx.cell? ⟨w4.heap.size, 1, none⟩ = some (.bool s1) ∧ wx.cell? ⟨w4.heap.size, 2, none⟩ = some (.slice sa' sl sc') ∧ wx.cell? ⟨w4.heap.size, 3, none⟩ = some (.int .i64 s3) ∧ wx.cell? ⟨w4.heap.size, 4, none⟩ = some (.slice se' sn sf'))) (go_keep) (first
    | (go_at_call 8; refine HTd.out.mono ?_; rintro e wa ⟨z0, z1, z2, z3, z4, rfl, ⟨i0, i1, i2, i3, i4, i5, i6, i7, i8, i9⟩, hE8⟩)
    | (go_at_call 12; refine hE8.out.mono ?_; rintro e w10 ⟨rfl, ⟨j0, j1, j2, j3, j4, j5, j6, j7, j8, j9⟩, hb9⟩))
  clear f0 f1 f2 f3 f4 f5 f6 f7 f8 f9 i0 i1 i2 i3 i4 i5 i6 i7 i8 i9 j0 j1 j2 j3 j4 j5 j6 j7 j8 j9 HTd HCel hE8
  have HG10 := hide' (HG9.out.on hb9.out)
  have HW10 := hide' (HW9.out.on hb9.out)
  have HP10 := hide' (HP9.out.on hb9.out)
  have HO10 := hide' (HO9.out.on hb9.out)
  have HX10 := hide' (row_on HX9.out hb9.out)
  have HY10 := hide' (row_on HY9.out hb9.out)
  have Hb10 := hide' (Below.on Hb9.out hb9.out)
  clear hb9 HG9 HW9 HP9 HO9 HX9 HY9 Hb9
  have HCel : Hid (∀ wy, Below w10.heap.size w10 wy → (wy.cell? ⟨w.heap.size + 1, 0, none⟩ = some (.int .i64 t0) ∧ wy.cell? ⟨w.heap.size + 1, 1, none⟩ = some (.bool t1) ∧ wy.cell? ⟨w.heap.size + 1, 2, none⟩ = some (.slice ta tl tc) ∧ wy.cell? ⟨w.heap.size + 1, 3, none⟩ = some (.int .i64 t3) ∧ wy.cell? ⟨w.heap.size + 1, 4, none⟩ = some (.slice te tn tf) ∧ wy.cell? ⟨w6.heap.size, 0, none⟩ = some (.int .i64 t0) ∧ wy.cell? ⟨w6.heap.size, 1, none⟩ = some (.bool t1) ∧ wy.cell? ⟨w6.heap.size, 2, none⟩ = some (.slice ta' tl tc') ∧ wy.cell? ⟨w6.heap.size, 3, none⟩ = some (.int .i64 t3) ∧ wy.cell? ⟨w6.heap.size, 4, none⟩ = some (.slice te' tn tf'))) := by
    intro wy hy
    obtain ⟨⟨f0, f1, f2, f3, f4, g0, g1, g2, g3, g4⟩, -⟩ := HAB.out wy (Below.on Hb10.out hy)
    obtain ⟨h0, h1, h2, h3, h4⟩ := five_row (row_on HY10.out hy)
    exact ⟨g0, g1, g2, g3, g4, h0, h1, h2, h3, h4⟩
  have HTd : Hid (Calls Tryz.prog 8 #[.agg #[.int .i64 t0, .bool t1, .slice ta tl tc, .int .i64 t3, .slice te tn tf]] w10.drew fun e wa => ∃ z0 z1 z2 z3 z4, e = .returned (.agg #[z0, z1, z2, z3, z4]) ∧ (wa.cell? ⟨w.heap.size + 1, 0, none⟩ = some (.int .i64 t0) ∧ wa.cell? ⟨w.heap.size + 1, 1, none⟩ = some (.bool t1) ∧ wa.cell? ⟨w.heap.size + 1, 2, none⟩ = some (.slice ta tl tc) ∧ wa.cell? ⟨w.heap.size + 1, 3, none⟩ = some (.int .i64 t3) ∧ wa.cell? ⟨w.heap.size + 1, 4, none⟩ = some (.slice te tn tf) ∧ wa.cell? ⟨w6.heap.size, 0, none⟩ = some (.int .i64 t0) ∧ wa.cell? ⟨w6.heap.size, 1, none⟩ = some (.bool t1) ∧ wa.cell? ⟨w6.heap.size, 2, none⟩ = some (.slice ta' tl tc') ∧ wa.cell? ⟨w6.heap.size, 3, none⟩ = some (.int .i64 t3) ∧ wa.cell? ⟨w6.heap.size, 4, none⟩ = some (.slice te' tn tf')) ∧
      Hid (Calls Tryz.prog 12 #[.agg #[.int .i64 t0, .bool t1, .slice ta' tl tc', .int .i64 t3, .slice te' tn tf'], .agg #[z0, z1, z2, z3, z4]] wa fun e wb => e = .returned (.bool true) ∧ (wb.cell? ⟨w.heap.size + 1, 0, none⟩ = some (.int .i64 t0) ∧ wb.cell? ⟨w.heap.size + 1, 1, none⟩ = some (.bool t1) ∧ wb.cell? ⟨w.heap.size + 1, 2, none⟩ = some (.slice ta tl tc) ∧ wb.cell? ⟨w.heap.size + 1, 3, none⟩ = some (.int .i64 t3) ∧ wb.cell? ⟨w.heap.size + 1, 4, none⟩ = some (.slice te tn tf) ∧ wb.cell? ⟨w6.heap.size, 0, none⟩ = some (.int .i64 t0) ∧ wb.cell? ⟨w6.heap.size, 1, none⟩ = some (.bool t1) ∧ wb.cell? ⟨w6.heap.size, 2, none⟩ = some (.slice ta' tl tc') ∧ wb.cell? ⟨w6.heap.size, 3, none⟩ = some (.int .i64 t3) ∧ wb.cell? ⟨w6.heap.size, 4, none⟩ = some (.slice te' tn tf')) ∧ Hid (Below w10.heap.size w10 wb))) := by
    have bW0 : Below w10.heap.size w10 w10.drew := (Below.refl _ w10).drew
    refine (HU.out w10.drew (HAB.out _ (Below.on Hb10.out bW0)).2).mono ?_
    rintro e wa ⟨cz, rfl, Bz, hOz, hBz, bz⟩
    obtain ⟨z1, z2, z3, z4, rfl⟩ := HPt.out _ _ _ hOz.read
    have bWa := Below.on bW0 bz
    refine ⟨_, _, _, _, _, rfl, HCel.out _ bWa, ?_⟩
    exact (HEt.out [.int .i64 t0, .bool t1, .slice ta' tl tc', .int .i64 t3, .slice te' tn tf'] _ wa (HO10.out.on bWa).read hOz.read).mono fun e wb h => ⟨h.1, HCel.out _ (Below.on bWa h.2), Below.on bWa h.2⟩
  obtain ⟨f0, f1, f2, f3, f4, f5, f6, f7, f8, f9⟩ := HCel.out w10 (Below.refl _ _)
  go_wp2_with fail
  go_region_held3 (fun wx => (wx.cell? ⟨w.heap.size + 1, 0, none⟩ = some (.int .i64 t0) ∧ wx.cell? ⟨w.heap.size + 1, 1, none⟩ = some (.bool t1) ∧ wx.cell? ⟨w.heap.size + 1, 2, none⟩ = some (.slice ta tl tc) ∧ wx.cell? ⟨w.heap.size + 1, 3, none⟩ = some (.int .i64 t3) ∧ wx.cell? ⟨w.heap.size + 1, 4, none⟩ = some (.slice te tn tf) ∧ wx.cell? ⟨w6.heap.size, 0, none⟩ = some (.int .i64 t0) ∧ wx.cell? ⟨w6.heap.size, 1, none⟩ = some (.bool t1) ∧ wx.cell? ⟨w6.heap.size, 2, none⟩ = some (.slice ta' tl tc') ∧ wx.cell? ⟨w6.heap.size, 3, none⟩ = some (.int .i64 t3) ∧ wx.cell? ⟨w6.heap.size, 4, none⟩ = some (.slice te' tn tf'))) (go_keep) (first
    | (go_at_call 8; refine HTd.out.mono ?_; rintro e wa ⟨z0, z1, z2, z3, z4, rfl, ⟨i0, i1, i2, i3, i4, i5, i6, i7, i8, i9⟩, hE8⟩)
    | (go_at_call 12; refine hE8.out.mono ?_; rintro e w11 ⟨rfl, ⟨j0, j1, j2, j3, j4, j5, j6, j7, j8, j9⟩, hb9⟩))
  clear f0 f1 f2 f3 f4 f5 f6 f7 f8 f9 i0 i1 i2 i3 i4 i5 i6 i7 i8 i9 j0 j1 j2 j3 j4 j5 j6 j7 j8 j9 HTd HCel hE8
  have HG11 := hide' (HG10.out.on hb9.out)
  have HW11 := hide' (HW10.out.on hb9.out)
  have HO11 := hide' (HO10.out.on hb9.out)
  have HY11 := hide' (row_on HY10.out hb9.out)
  have Hb11 := hide' (Below.on Hb10.out hb9.out)
  have hM11 := hide' (HMs.out _ _ _ (HP10.out.on hb9.out))
  obtain ⟨f0, f1, f2, f3, f4⟩ := five_row (row_on HX10.out hb9.out)
  clear hb9 HG10 HW10 HP10 HO10 HX10 HY10 Hb10 HEs HEt
  go_wp2_with fail
  refine hM11.out.mono ?_
  rintro e w12 ⟨⟨q1, rfl, hq1⟩, hT12⟩
  have hG12 := HG11.out.far hT12 (fun b hb hm => by have h1 := HBg.out b hb; have h2 := HB4.out b hm; omega)
  have hW12 := HW11.out.far hT12 (fun b hb hm => by have h1 := HBw.out b hb; have h2 := HB4.out b hm; omega)
  have hO12 : SaOwn w12 (D + 1) [.int .i64 t0, .bool t1, .slice ta' tl tc', .int .i64 t3, .slice te' tn tf'] tt B6 := saOwn_far HO11.out hT12 (fun b hb hm => by have h1 := HB6.out b hb; have h2 := HB4.out b hm; omega)
  have hY12 := row_far HY11.out hT12 (fun hm => by have h2 := HB4.out _ hm; omega)
  have Hb12 := hide' (Turned.below Hb11.out hT12 (Nat.le_refl _) (fun b hb => by have h1 := HB4.out b hb; omega))
  have hM12 := hide' (HMt.out _ _ q1 _ hq1 hO12)
  have HG12 := hide' hG12
  have HW12 := hide' hW12
  clear hM11 hT12 hG12 hW12 hO12 HG11 HW11 HO11 HY11 Hb11 f0 f1 f2 f3 f4
  obtain ⟨f0, f1, f2, f3, f4⟩ := five_row hY12
  clear hY12
  go_wp2_with fail
  refine hM12.out.mono ?_
  rintro e w13 ⟨⟨q3, rfl, hq3⟩, hT13⟩
  have hq3' : ¬ ((q3 : Nat) : Int) < 0 := by omega
  have hG13 := HG12.out.far hT13 (fun b hb hm => by have h1 := HBg.out b hb; have h2 := HB6.out b hm; omega)
  have hW13 := HW12.out.far hT13 (fun b hb hm => by have h1 := HBw.out b hb; have h2 := HB6.out b hm; omega)
  have Hb13 := hide' (Turned.below Hb12.out hT13 (Nat.le_refl _) (fun b hb => by have h1 := HB6.out b hb; omega))
  have hE13 := hide' (HEK.out _ _ _ _ _ hG13 hW13)
  have HG13 := hide' hG13
  have HW13 := hide' hW13
  clear hM12 hT13 HG12 HW12 Hb12 hG13 hW13 f0 f1 f2 f3 f4 hq1 hq3
  go_wp2_with fail
  refine hE13.out.mono ?_
  rintro e w14 ⟨rfl, b14⟩
  have hM14 := hide' (HMK.out _ _ _ (HG13.out.on b14))
  have HW14 := hide' (HW13.out.on b14)
  have Hb14 := hide' (Below.on Hb13.out b14)
  clear hE13 b14 HG13 HW13 Hb13
  go_wp2_with fail
  refine hM14.out.mono ?_
  rintro e w15 ⟨rfl, hG15, hT15⟩
  have HW15 := hide' (HW14.out.far hT15 (fun b hb hm => by have h1 := HBw.out b hb; have h2 := HBg.out b hm; omega))
  have Hb15 := hide' (Turned.below Hb14.out hT15 (Nat.le_refl _) (fun b hb => by have h1 := HBg.out b hb; omega))
  have hH15 := hide' (HHK.out _ _ _ hG15)
  have HG15 := hide' hG15
  clear hM14 hT15 hG15 HW14 Hb14
  go_wp2_with fail
  refine hH15.out.mono ?_
  rintro e w16 ⟨rfl, b16⟩
  have HG16 := hide' (HG15.out.on b16)
  have HW16 := hide' (HW15.out.on b16)
  have Hb16 := hide' (Below.on Hb15.out b16)
  clear hH15 b16 HG15 HW15 Hb15
  have HTA : Hid (Calls Tryz.prog 8 #[.agg #[.int .i64 s0, .bool s1, .slice sa sl sc, .int .i64 s3, .slice se sn sf]] w16.drew fun e wa => ∃ x0 x1 x2 x3, e = .returned (.agg #[.int .i64 s0, .bool s1, .slice x0 sl x1, .int .i64 s3, .slice x2 sn x3]) ∧ (wa.cell? ⟨w.heap.size, 0, none⟩ = some (.int .i64 s0) ∧ wa.cell? ⟨w.heap.size, 1, none⟩ = some (.bool s1) ∧ wa.cell? ⟨w.heap.size, 2, none⟩ = some (.slice sa sl sc) ∧ wa.cell? ⟨w.heap.size, 3, none⟩ = some (.int .i64 s3) ∧ wa.cell? ⟨w.heap.size, 4, none⟩ = some (.slice se sn sf) ∧ wa.cell? ⟨w.heap.size + 1, 0, none⟩ = some (.int .i64 t0) ∧ wa.cell? ⟨w.heap.size + 1, 1, none⟩ = some (.bool t1) ∧ wa.cell? ⟨w.heap.size + 1, 2, none⟩ = some (.slice ta tl tc) ∧ wa.cell? ⟨w.heap.size + 1, 3, none⟩ = some (.int .i64 t3) ∧ wa.cell? ⟨w.heap.size + 1, 4, none⟩ = some (.slice te tn tf)) ∧ Hid (Calls Tryz.prog 8 #[.agg #[.int .i64 t0, .bool t1, .slice ta tl tc, .int .i64 t3, .slice te tn tf]] wa fun e wb => ∃ y0 y1 y2 y3, e = .returned (.agg #[.int .i64 t0, .bool t1, .slice y0 tl y1, .int .i64 t3, .slice y2 tn y3]) ∧ (wb.cell? ⟨w.heap.size, 0, none⟩ = some (.int .i64 s0) ∧ wb.cell? ⟨w.heap.size, 1, none⟩ = some (.bool s1) ∧ wb.cell? ⟨w.heap.size, 2, none⟩ = some (.slice sa sl sc) ∧ wb.cell? ⟨w.heap.size, 3, none⟩ = some (.int .i64 s3) ∧ wb.cell? ⟨w.heap.size, 4, none⟩ = some (.slice se sn sf) ∧ wb.cell? ⟨w.heap.size + 1, 0, none⟩ = some (.int .i64 t0) ∧ wb.cell? ⟨w.heap.size + 1, 1, none⟩ = some (.bool t1) ∧ wb.cell? ⟨w.heap.size + 1, 2, none⟩ = some (.slice ta tl tc) ∧ wb.cell? ⟨w.heap.size + 1, 3, none⟩ = some (.int .i64 t3) ∧ wb.cell? ⟨w.heap.size + 1, 4, none⟩ = some (.slice te tn tf)) ∧ Hid (Calls Tryz.prog 21 #[.agg #[.int .i64 s0, .bool s1, .slice x0 sl x1, .int .i64 s3, .slice x2 sn x3], .agg #[.int .i64 t0, .bool t1, .slice y0 tl y1, .int .i64 t3, .slice y2 tn y3]] wb fun e wc => ∃ ua un uc, e = .returned (.slice ua un uc) ∧ (wc.cell? ⟨w.heap.size, 0, none⟩ = some (.int .i64 s0) ∧ wc.cell? ⟨w.heap.size, 1, none⟩ = some (.bool s1) ∧ wc.cell? ⟨w.heap.size, 2, none⟩ = some (.slice sa sl sc) ∧ wc.cell? ⟨w.heap.size, 3, none⟩ = some (.int .i64 s3) ∧ wc.cell? ⟨w.heap.size, 4, none⟩ = some (.slice se sn sf) ∧ wc.cell? ⟨w.heap.size + 1, 0, none⟩ = some (.int .i64 t0) ∧ wc.cell? ⟨w.heap.size + 1, 1, none⟩ = some (.bool t1) ∧ wc.cell? ⟨w.heap.size + 1, 2, none⟩ = some (.slice ta tl tc) ∧ wc.cell? ⟨w.heap.size + 1, 3, none⟩ = some (.int .i64 t3) ∧ wc.cell? ⟨w.heap.size + 1, 4, none⟩ = some (.slice te tn tf)) ∧ Hid (DfW w16 A (.slice ua un uc) wc)))) := by
    have bW0 : Below w16.heap.size w16 w16.drew := (Below.refl _ w16).drew
    refine (HT.out w16.drew (HAB.out w16.drew (Below.on Hb16.out bW0)).2).mono ?_
    rintro e wa ⟨ca, rfl, Ba, hOa, hBa, ba⟩
    obtain ⟨x0, x1, x2, x3, rfl⟩ := HPs.out _ _ _ hOa.read
    have bWa := Below.on bW0 ba
    have b2a := Below.on Hb16.out bWa
    refine ⟨_, _, _, _, rfl, (HAB.out wa b2a).1, ?_⟩
    refine Calls.mono (HU.out wa (HAB.out wa b2a).2) ?_
    rintro e wb ⟨cb, rfl, Bb, hOb, hBb, bb⟩
    obtain ⟨y0, y1, y2, y3, rfl⟩ := HPt.out _ _ _ hOb.read
    have bWb := Below.on bWa bb
    have b2b := Below.on Hb16.out bWb
    refine ⟨_, _, _, _, rfl, (HAB.out wb b2b).1, ?_⟩
    refine Calls.mono (HIm.out _ _ wb (HAB.out wb b2b).2 (hOa.on bb).read hOb.read) ?_
    rintro e wc ⟨u, rfl, B, hO, hB, bc⟩
    obtain ⟨ua, un, uc, rfl⟩ := hO.form
    have bWc := Below.on bWb bc
    exact ⟨_, _, _, rfl, (HAB.out wc (Below.on Hb16.out bWc)).1, B, hO, fun b hb => by have h1 := hB b hb; have h2 := bWb.size; omega, bWc⟩
  obtain ⟨f0, f1, f2, f3, f4, f5, f6, f7, f8, f9⟩ := (HAB.out w16 Hb16.out).1
  go_wp2_with fail
  go_region_held3 (fun wx => (wx.cell? ⟨w.heap.size, 0, none⟩ = some (.int .i64 s0) ∧ wx.cell? ⟨w.heap.size, 1, none⟩ = some (.bool s1) ∧ wx.cell? ⟨w.heap.size, 2, none⟩ = some (.slice sa sl sc) ∧ wx.cell? ⟨w.heap.size, 3, none⟩ = some (.int .i64 s3) ∧ wx.cell? ⟨w.heap.size, 4, none⟩ = some (.slice se sn sf) ∧ wx.cell? ⟨w.heap.size + 1, 0, none⟩ = some (.int .i64 t0) ∧ wx.cell? ⟨w.heap.size + 1, 1, none⟩ = some (.bool t1) ∧ wx.cell? ⟨w.heap.size + 1, 2, none⟩ = some (.slice ta tl tc) ∧ wx.cell? ⟨w.heap.size + 1, 3, none⟩ = some (.int .i64 t3) ∧ wx.cell? ⟨w.heap.size + 1, 4, none⟩ = some (.slice te tn tf))) (go_keep) (first
    | (go_at_call_of 8 s0; refine HTA.out.mono ?_; rintro e wa ⟨x0, x1, x2, x3, rfl, ⟨i0, i1, i2, i3, i4, i5, i6, i7, i8, i9⟩, HTB⟩)
    | (go_at_call_of 8 t0; refine HTB.out.mono ?_; rintro e wb ⟨y0, y1, y2, y3, rfl, ⟨j0, j1, j2, j3, j4, j5, j6, j7, j8, j9⟩, HTC⟩)
    | (go_at_call 21; refine HTC.out.mono ?_; rintro e w17 ⟨uaw17, unw17, ucw17, rfl, ⟨k0, k1, k2, k3, k4, k5, k6, k7, k8, k9⟩, HDW⟩))
  clear f0 f1 f2 f3 f4 f5 f6 f7 f8 f9 i0 i1 i2 i3 i4 i5 i6 i7 i8 i9 j0 j1 j2 j3 j4 j5 j6 j7 j8 j9 k0 k1 k2 k3 k4 k5 k6 k7 k8 k9 HTA HTB HTC
  obtain ⟨Bh, hH17, hBh, b17⟩ := HDW.out
  have hE17 := hide' (HEK.out _ _ _ _ _ hH17 (HW16.out.on b17))
  have HG17 := hide' (HG16.out.on b17)
  have Hb17 := hide' (Below.on Hb16.out b17)
  clear HDW hH17 hBh b17 HG16 HW16 Hb16
  go_wp2_with fail
  refine hE17.out.mono ?_
  rintro e w18 ⟨rfl, b18⟩
  have hH18 := hide' (HHK.out _ _ _ (HG17.out.on b18))
  have Hb18 := hide' (Below.on Hb17.out b18)
  clear hE17 b18 HG17 Hb17
  go_wp2_with fail
  refine hH18.out.mono ?_
  rintro e w19 ⟨rfl, b19⟩
  have HF := hide' (HAB.out _ (Below.on Hb18.out b19)).2
  clear hH18 b19 Hb18
  go_wp2
  go_ret
  exact ⟨rfl, HF.out⟩
end Go.Proofs.YtngjhimieacjhaaGreatDoor
/-
  What reads as a value of a depth reads as one of any greater; no statement is proved here.
-/
namespace Go.Proofs.YtngjhimieacjhaaGreatDoor
open Go.RowKit
set_option linter.unusedVariables false
set_option linter.unusedSimpArgs false

/-- What reads at a depth reads at one more. -/
theorem VSeg.upd {R : Nat → Prop} {w : World} : ∀ (d : Nat) (c : Value × Value × Value × Value × Value) (v : Vl d), VSeg R w d c v → ∃ v' : Vl (d + 1), VSeg R w (d + 1) c v'
  | 0, c, v, h => h.elim
  | d + 1, c, v, h => by
    obtain ⟨h0, h1, hT, hK, a, cap, e, hc, hm, hn, hL⟩ := h
    rcases hL with hL | ⟨b, off, ha, hb, hL⟩
    · refine ⟨(v.1, v.2.1, v.2.2.1, v.2.2.2.1, []), h0, h1, hT, hK, a, cap, ?_, Nat.zero_le _, hm, hn, Or.inl rfl⟩
      rw [e, hL]
      rfl
    · have hall : ∀ i (hi : i < v.2.2.2.2.length), ∃ v' : Vl (d + 1), ∃ e, Five w b (off + i * 5) e ∧ VSeg R w (d + 1) e v' := fun i hi => by
        obtain ⟨e, h5, hv⟩ := hL i hi
        obtain ⟨v', hv'⟩ := VSeg.upd d e _ hv
        exact ⟨v', e, h5, hv'⟩
      have hlist : ∀ n, n ≤ v.2.2.2.2.length → ∃ l : List (Vl (d + 1)), l.length = n ∧ ∀ i (hi : i < l.length), ∃ e, Five w b (off + i * 5) e ∧ VSeg R w (d + 1) e l[i] := by
        intro n
        induction n with
        | zero => exact fun _ => ⟨[], rfl, fun i hi => absurd hi (by simp)⟩
        | succ n ih =>
          intro hn'
          obtain ⟨l, hl, hl2⟩ := ih (by omega)
          obtain ⟨v', e, h5, hv⟩ := hall n (by omega)
          refine ⟨l ++ [v'], by simp [hl], fun i hi => ?_⟩
          by_cases hin : i < l.length
          · rw [List.getElem_append_left hin]
            exact hl2 i hin
          · have hi' : i = l.length := by simp at hi; omega
            subst hi'
            rw [List.getElem_append_right (Nat.le_refl _)]
            simp only [Nat.sub_self, List.getElem_cons_zero]
            rw [hl]
            exact ⟨e, h5, hv⟩
      obtain ⟨l, hl, hl2⟩ := hlist _ (Nat.le_refl _)
      refine ⟨(v.1, v.2.1, v.2.2.1, v.2.2.2.1, l), h0, h1, hT, hK, a, cap, ?_, ?_, hm, hn, Or.inr ⟨b, off, ha, hb, hl2⟩⟩
      · show c.2.2.2.2 = .slice a l.length cap
        rw [hl]
        exact e
      · show l.length ≤ cap
        rw [hl]
        exact hc

theorem VSeg.deeper {R : Nat → Prop} {w : World} {d : Nat} {c : Value × Value × Value × Value × Value} {v : Vl d} (h : VSeg R w d c v) : ∀ k, ∃ v' : Vl (d + k), VSeg R w (d + k) c v'
  | 0 => ⟨v, h⟩
  | k + 1 => by
    obtain ⟨v', h'⟩ := VSeg.deeper h k
    exact VSeg.upd (d + k) c v' h'

theorem VSeg.at_least {R : Nat → Prop} {w : World} {d D : Nat} {c : Value × Value × Value × Value × Value} {v : Vl d} (h : VSeg R w d c v) (hD : d ≤ D) : ∃ v' : Vl D, VSeg R w D c v' := by
  obtain ⟨k, rfl⟩ : ∃ k, D = d + k := ⟨D - d, by omega⟩
  exact h.deeper k
end Go.Proofs.YtngjhimieacjhaaGreatDoor
/-
  What reads as a state of a depth reads as one of any greater.
-/
namespace Go.Proofs.YtngjhimieacjhaaGreatDoor
open Go.RowKit
set_option linter.unusedVariables false
set_option linter.unusedSimpArgs false

theorem NtSg.lift {R : Nat → Prop} {w : World} {d d' : Nat} {cs : List Value} {it : Ntr d} (h : NtSg R w d cs it) (hd : d ≤ d') : ∃ it' : Ntr d', NtSg R w d' cs it' := by
  obtain ⟨c1, c3, c4, c5, c6, c7, c8, rfl, h1, h2, h3⟩ := h
  obtain ⟨v', hv⟩ := h2.at_least hd
  exact ⟨(it.1, v', it.2.2.1, it.2.2.2.1, it.2.2.2.2), c1, c3, c4, c5, c6, c7, c8, rfl, h1, hv, h3⟩
theorem NtLS.lift {R : Nat → Prop} {w : World} {d d' : Nat} {x : Value} {l : List (Ntr d)} (h : NtLS R w d x l) (hd : d ≤ d') : ∃ l' : List (Ntr d'), NtLS R w d' x l' := by
  obtain ⟨a, cap, rfl, h1, h2, h3, h4⟩ := h
  rcases h4 with h4 | ⟨b, off, ha, hb, hc⟩
  · subst h4
    exact ⟨[], a, cap, rfl, h1, h2, h3, .inl rfl⟩
  · have hall : ∀ i (hi : i < l.length), ∃ it' : Ntr d', ∃ cs, w.rangeAt b (off + i * 9) cs ∧ NtSg R w d' cs it' := fun i hi => by
      obtain ⟨cs, h5, hv⟩ := hc i hi
      obtain ⟨it', hv'⟩ := hv.lift hd
      exact ⟨it', cs, h5, hv'⟩
    have hlist : ∀ n, n ≤ l.length → ∃ l' : List (Ntr d'), l'.length = n ∧ ∀ i (hi : i < l'.length), ∃ cs, w.rangeAt b (off + i * 9) cs ∧ NtSg R w d' cs l'[i] := by
      intro n
      induction n with
      | zero => exact fun _ => ⟨[], rfl, fun i hi => absurd hi (by simp)⟩
      | succ n ih =>
        intro hn'
        obtain ⟨l', hl, hl2⟩ := ih (by omega)
        obtain ⟨it', cs, h5, hv⟩ := hall n (by omega)
        refine ⟨l' ++ [it'], by simp [hl], fun i hi => ?_⟩
        by_cases hin : i < l'.length
        · rw [List.getElem_append_left hin]
          exact hl2 i hin
        · have hi' : i = l'.length := by simp at hi; omega
          subst hi'
          rw [List.getElem_append_right (Nat.le_refl _)]
          simp only [Nat.sub_self, List.getElem_cons_zero]
          rw [hl]
          exact ⟨cs, h5, hv⟩
    obtain ⟨l', hl, hl2⟩ := hlist l.length (Nat.le_refl _)
    exact ⟨l', a, cap, by rw [hl], by omega, h2, h3, .inr ⟨b, off, ha, hb, hl2⟩⟩
theorem SaSg.lift {R : Nat → Prop} {w : World} {d d' : Nat} {cs : List Value} {s : Stt d} (h : SaSg R w d cs s) (hd : d ≤ d') : ∃ s' : Stt d', SaSg R w d' cs s' := by
  obtain ⟨c2, c4, rfl, h1, h2⟩ := h
  obtain ⟨l', hl⟩ := h2.lift hd
  exact ⟨(s.1, s.2.1, s.2.2.1, s.2.2.2.1, l'), c2, c4, rfl, h1, hl⟩
end Go.Proofs.YtngjhimieacjhaaGreatDoor
