/-
  Texts that a law leans on, one behind the other; no statement is proved here.
-/
import Derived.Test.YthidmlfmcjdcnaaPk9
import Derived.Test.YthidmlfmcjdcnaaPk5
import Derived.WalkKit
import Derived.ProofKit
import Derived.ChangeSlices
import Derived.ChangeArms
/-
  FnExactValCmp answers true, whatever two values it is handed; it makes new memory and turns nothing old.
-/
namespace Go.Proofs.Ythidmlfmcjdcnaa
open Go.RowKit
set_option linter.unusedVariables false
set_option linter.unusedSimpArgs false

theorem keep_cell {w wx : World} {p : Addr} {v : Value} (h : Below w.heap.size w wx) (hc : w.cell? p = some v) : wx.cell? p = some v := (h.cell (World.block_lt_of_cell? w _ hc)).trans hc

set_option maxHeartbeats 12800000 in
theorem walk_FnExactValCmp (d : Nat) (c0 c1 c2 c3 c4 e0 e1 e2 e3 e4 : Value) (a b : Vl d) (w : World) (ha : VSeg (fun b => b < w.heap.size) w d (c0, c1, c2, c3, c4) a) (hb : VSeg (fun b => b < w.heap.size) w d (e0, e1, e2, e3, e4) b) :
    Calls Try.prog 3 #[.agg #[c0, c1, c2, c3, c4], .agg #[e0, e1, e2, e3, e4]] w fun e w' => e = .returned (.bool true) ∧ Below w.heap.size w w' := by
  have Hb2 : Hid (∀ o o' : Obj, Below w.heap.size w ((w.alloc o).alloc o')) := fun o o' => ((Below.refl _ _).alloc (Nat.le_refl _) o).alloc (by simp) o'
  have Hr : Hid (∀ (o o' : Obj) (wx : World), Below ((w.alloc o).alloc o').heap.size ((w.alloc o).alloc o') wx → wx.heap[w.heap.size]? = some o ∧ wx.heap[w.heap.size + 1]? = some o') := fun o o' wx h => rows2 h
  have HV : Hid (∀ wx, Below w.heap.size w wx → VSeg (fun b => b < w.heap.size) wx d (c0, c1, c2, c3, c4) a ∧ VSeg (fun b => b < w.heap.size) wx d (e0, e1, e2, e3, e4) b) := fun wx h => ⟨VSeg.agree (agree_below h) d ha, VSeg.agree (agree_below h) d hb⟩
  have HS1 : Hid (∀ wx, Below w.heap.size w wx → Calls Try.prog 4 #[.agg #[c0, c1, c2, c3, c4], .int .i64 1048576] wx fun e w' => e = .returned (.int .i64 (less 1048576 (szV d a))) ∧ Below wx.heap.size wx w') := fun wx h =>
    szValue_any d w.heap.size (c0, c1, c2, c3, c4) a 1048576 wx (HV.out wx h).1 h.size (by omega) (by omega)
  have HS2 : Hid (∀ wx (k : Int), Below w.heap.size w wx → 0 ≤ k → k ≤ 1048576 → Calls Try.prog 4 #[.agg #[e0, e1, e2, e3, e4], .int .i64 k] wx fun e w' => e = .returned (.int .i64 (less k (szV d b))) ∧ Below wx.heap.size wx w') := fun wx k h h0 h1 =>
    szValue_any d w.heap.size (e0, e1, e2, e3, e4) b k wx (HV.out wx h).2 h.size h0 h1
  obtain ⟨ck, cn, a2, l2, p2, a3, l3, p3, a4, l4, p4, rfl, rfl, rfl, rfl, rfl⟩ := VSeg.form d ha
  obtain ⟨ek, en, b2, m2, q2, b3, m3, q3, b4, m4, q4, rfl, rfl, rfl, rfl, rfl⟩ := VSeg.form d hb
  clear ha hb
  by_cases hz : (1048576 : Int) < szV d a
  · have hl : less 1048576 (szV d a) = -1 := less_no _ _ hz
    rw [hl] at HS1
    clear hl HS2
    go_enter Try.func3, Try.ntmps3
    go_wp2_with fail
    refine (HS1.out _ (Hb2.out _ _)).mono ?_
    rintro e w1 ⟨rfl, b1⟩
    have B1 := Below.on (Hb2.out _ _) b1
    clear b1
    go_wp2
    go_ret
    exact ⟨rfl, B1⟩
  · have hl : less 1048576 (szV d a) = 1048576 - szV d a := less_yes _ _ hz
    rw [hl] at HS1
    have hz0 : ¬ (1048576 : Int) - szV d a < 0 := by omega
    have HZ : Hid (szV d a ≤ 1048576) := by show szV d a ≤ 1048576; omega
    have HS3 : Hid (∀ wx, Below w.heap.size w wx → Calls Try.prog 4 #[.agg #[.int .i64 ek, .int .i64 en, .slice b2 m2 q2, .slice b3 m3 q3, .slice b4 m4 q4], .int .i64 (1048576 - szV d a)] wx fun e w' => e = .returned (.int .i64 (less (1048576 - szV d a) (szV d b))) ∧ Below wx.heap.size wx w') := fun wx h => HS2.out wx _ h (by omega) (by omega)
    clear HS2
    by_cases hz2 : (1048576 : Int) - szV d a < szV d b
    · have hl2 : less (1048576 - szV d a) (szV d b) = -1 := less_no _ _ hz2
      rw [hl2] at HS3
      generalize szV d a = sz at *
      clear hl hl2 hz
      go_enter Try.func3, Try.ntmps3
      go_wp2_with fail
      refine (HS1.out _ (Hb2.out _ _)).mono ?_
      rintro e w1 ⟨rfl, b1⟩
      have HB1 := hide' (Below.on (Hb2.out _ _) b1)
      obtain ⟨r1, r2⟩ := Hr.out _ _ _ b1
      obtain ⟨g0, g1, g2, g3, g4, _⟩ := row5 r2
      clear b1 r1 r2
      go_wp2_with fail
      refine (HS3.out _ HB1.out).mono ?_
      rintro e w2 ⟨rfl, b2⟩
      have B2 := Below.on HB1.out b2
      clear b2
      go_wp2
      go_ret
      exact ⟨rfl, B2⟩
    · have hl2 : less (1048576 - szV d a) (szV d b) = 1048576 - szV d a - szV d b := less_yes _ _ hz2
      rw [hl2] at HS3
      have hz3 : ¬ (1048576 : Int) - szV d a - szV d b < 0 := by omega
      have HZ2 : Hid (szV d b ≤ 1048576) := by show szV d b ≤ 1048576; omega
      have HTa : Hid (∀ wx, Below ((w.alloc (.cells #[.int .i64 ck, .int .i64 cn, .slice a2 l2 p2, .slice a3 l3 p3, .slice a4 l4 p4] 26)).alloc (.cells #[.int .i64 ek, .int .i64 en, .slice b2 m2 q2, .slice b3 m3 q3, .slice b4 m4 q4] 26)).heap.size ((w.alloc (.cells #[.int .i64 ck, .int .i64 cn, .slice a2 l2 p2, .slice a3 l3 p3, .slice a4 l4 p4] 26)).alloc (.cells #[.int .i64 ek, .int .i64 en, .slice b2 m2 q2, .slice b3 m3 q3, .slice b4 m4 q4] 26)) wx → Calls Try.prog 6 #[.agg #[.int .i64 ck, .int .i64 cn, .slice a2 l2 p2, .slice a3 l3 p3, .slice a4 l4 p4]] wx fun e w' => ∃ u0 u1 u2 u3 u4, e = .returned (.agg #[u0, u1, u2, u3, u4]) ∧ (w'.cell? ⟨w.heap.size, 0, none⟩ = some (.int .i64 ck) ∧ w'.cell? ⟨w.heap.size, 1, none⟩ = some (.int .i64 cn) ∧ w'.cell? ⟨w.heap.size, 2, none⟩ = some (.slice a2 l2 p2) ∧ w'.cell? ⟨w.heap.size, 3, none⟩ = some (.slice a3 l3 p3) ∧ w'.cell? ⟨w.heap.size, 4, none⟩ = some (.slice a4 l4 p4) ∧ w'.cell? ⟨w.heap.size + 1, 0, none⟩ = some (.int .i64 ek) ∧ w'.cell? ⟨w.heap.size + 1, 1, none⟩ = some (.int .i64 en) ∧ w'.cell? ⟨w.heap.size + 1, 2, none⟩ = some (.slice b2 m2 q2) ∧ w'.cell? ⟨w.heap.size + 1, 3, none⟩ = some (.slice b3 m3 q3) ∧ w'.cell? ⟨w.heap.size + 1, 4, none⟩ = some (.slice b4 m4 q4)) ∧ Hid (∃ B, VOwn w' d (u0, u1, u2, u3, u4) a B) ∧ Hid (Below wx.heap.size wx w') ∧ Hid (Below ((w.alloc (.cells #[.int .i64 ck, .int .i64 cn, .slice a2 l2 p2, .slice a3 l3 p3, .slice a4 l4 p4] 26)).alloc (.cells #[.int .i64 ek, .int .i64 en, .slice b2 m2 q2, .slice b3 m3 q3, .slice b4 m4 q4] 26)).heap.size ((w.alloc (.cells #[.int .i64 ck, .int .i64 cn, .slice a2 l2 p2, .slice a3 l3 p3, .slice a4 l4 p4] 26)).alloc (.cells #[.int .i64 ek, .int .i64 en, .slice b2 m2 q2, .slice b3 m3 q3, .slice b4 m4 q4] 26)) w')) := by
        intro wx h
        have hB := Below.on (Hb2.out _ _) h
        refine (toValue_any d w.heap.size (.int .i64 ck, .int .i64 cn, .slice a2 l2 p2, .slice a3 l3 p3, .slice a4 l4 p4) a wx (HV.out wx hB).1 hB.size HZ.out).mono ?_
        rintro e w' ⟨u0, u1, u2, u3, u4, rfl, B, hO, _, hb⟩
        have hb' := Below.on h hb
        obtain ⟨r1, r2⟩ := Hr.out _ _ _ hb'
        obtain ⟨f0, f1, f2, f3, f4, _⟩ := row5 r1
        obtain ⟨g0, g1, g2, g3, g4, _⟩ := row5 r2
        exact ⟨u0, u1, u2, u3, u4, rfl, ⟨f0, f1, f2, f3, f4, g0, g1, g2, g3, g4⟩, ⟨B, hO⟩, hb, hb'⟩
      have HTb : Hid (∀ wx, Below ((w.alloc (.cells #[.int .i64 ck, .int .i64 cn, .slice a2 l2 p2, .slice a3 l3 p3, .slice a4 l4 p4] 26)).alloc (.cells #[.int .i64 ek, .int .i64 en, .slice b2 m2 q2, .slice b3 m3 q3, .slice b4 m4 q4] 26)).heap.size ((w.alloc (.cells #[.int .i64 ck, .int .i64 cn, .slice a2 l2 p2, .slice a3 l3 p3, .slice a4 l4 p4] 26)).alloc (.cells #[.int .i64 ek, .int .i64 en, .slice b2 m2 q2, .slice b3 m3 q3, .slice b4 m4 q4] 26)) wx → Calls Try.prog 6 #[.agg #[.int .i64 ek, .int .i64 en, .slice b2 m2 q2, .slice b3 m3 q3, .slice b4 m4 q4]] wx fun e w' => ∃ u0 u1 u2 u3 u4, e = .returned (.agg #[u0, u1, u2, u3, u4]) ∧ (w'.cell? ⟨w.heap.size, 0, none⟩ = some (.int .i64 ck) ∧ w'.cell? ⟨w.heap.size, 1, none⟩ = some (.int .i64 cn) ∧ w'.cell? ⟨w.heap.size, 2, none⟩ = some (.slice a2 l2 p2) ∧ w'.cell? ⟨w.heap.size, 3, none⟩ = some (.slice a3 l3 p3) ∧ w'.cell? ⟨w.heap.size, 4, none⟩ = some (.slice a4 l4 p4) ∧ w'.cell? ⟨w.heap.size + 1, 0, none⟩ = some (.int .i64 ek) ∧ w'.cell? ⟨w.heap.size + 1, 1, none⟩ = some (.int .i64 en) ∧ w'.cell? ⟨w.heap.size + 1, 2, none⟩ = some (.slice b2 m2 q2) ∧ w'.cell? ⟨w.heap.size + 1, 3, none⟩ = some (.slice b3 m3 q3) ∧ w'.cell? ⟨w.heap.size + 1, 4, none⟩ = some (.slice b4 m4 q4)) ∧ Hid (∃ B, VOwn w' d (u0, u1, u2, u3, u4) b B) ∧ Hid (Below wx.heap.size wx w') ∧ Hid (Below ((w.alloc (.cells #[.int .i64 ck, .int .i64 cn, .slice a2 l2 p2, .slice a3 l3 p3, .slice a4 l4 p4] 26)).alloc (.cells #[.int .i64 ek, .int .i64 en, .slice b2 m2 q2, .slice b3 m3 q3, .slice b4 m4 q4] 26)).heap.size ((w.alloc (.cells #[.int .i64 ck, .int .i64 cn, .slice a2 l2 p2, .slice a3 l3 p3, .slice a4 l4 p4] 26)).alloc (.cells #[.int .i64 ek, .int .i64 en, .slice b2 m2 q2, .slice b3 m3 q3, .slice b4 m4 q4] 26)) w')) := by
        intro wx h
        have hB := Below.on (Hb2.out _ _) h
        refine (toValue_any d w.heap.size (.int .i64 ek, .int .i64 en, .slice b2 m2 q2, .slice b3 m3 q3, .slice b4 m4 q4) b wx (HV.out wx hB).2 hB.size HZ2.out).mono ?_
        rintro e w' ⟨u0, u1, u2, u3, u4, rfl, B, hO, _, hb⟩
        have hb' := Below.on h hb
        obtain ⟨r1, r2⟩ := Hr.out _ _ _ hb'
        obtain ⟨f0, f1, f2, f3, f4, _⟩ := row5 r1
        obtain ⟨g0, g1, g2, g3, g4, _⟩ := row5 r2
        exact ⟨u0, u1, u2, u3, u4, rfl, ⟨f0, f1, f2, f3, f4, g0, g1, g2, g3, g4⟩, ⟨B, hO⟩, hb, hb'⟩
      have HEa : Hid (∀ (N : Nat) (c c' : Value × Value × Value × Value × Value) (wx : World), VSeg (fun b => b < N) wx d c a → VSeg (fun b => b < N) wx d c' a → N ≤ wx.heap.size → Calls Try.prog 8 #[.agg #[c.1, c.2.1, c.2.2.1, c.2.2.2.1, c.2.2.2.2], .agg #[c'.1, c'.2.1, c'.2.2.1, c'.2.2.2.1, c'.2.2.2.2]] wx fun e w' => e = .returned (.bool true) ∧ Below wx.heap.size wx w') := fun N c c' wx h1 h2 h3 => eqValue_any d N c c' a wx h1 h2 h3 HZ.out
      have HEb : Hid (∀ (N : Nat) (c c' : Value × Value × Value × Value × Value) (wx : World), VSeg (fun b => b < N) wx d c b → VSeg (fun b => b < N) wx d c' b → N ≤ wx.heap.size → Calls Try.prog 8 #[.agg #[c.1, c.2.1, c.2.2.1, c.2.2.2.1, c.2.2.2.2], .agg #[c'.1, c'.2.1, c'.2.2.1, c'.2.2.2.1, c'.2.2.2.2]] wx fun e w' => e = .returned (.bool true) ∧ Below wx.heap.size wx w') := fun N c c' wx h1 h2 h3 => eqValue_any d N c c' b wx h1 h2 h3 HZ2.out
      have HSp : Hid (∀ (w3 w4 : World) (u v : Value × Value × Value × Value × Value), Hid (∃ B, VOwn w3 d (u.1, u.2.1, u.2.2.1, u.2.2.2.1, u.2.2.2.2) a B) → Hid (Below w3.heap.size w3 w4) → Hid (∃ B, VOwn w4 d (v.1, v.2.1, v.2.2.1, v.2.2.2.1, v.2.2.2.2) b B) → Hid (Below ((w.alloc (.cells #[.int .i64 ck, .int .i64 cn, .slice a2 l2 p2, .slice a3 l3 p3, .slice a4 l4 p4] 26)).alloc (.cells #[.int .i64 ek, .int .i64 en, .slice b2 m2 q2, .slice b3 m3 q3, .slice b4 m4 q4] 26)).heap.size ((w.alloc (.cells #[.int .i64 ck, .int .i64 cn, .slice a2 l2 p2, .slice a3 l3 p3, .slice a4 l4 p4] 26)).alloc (.cells #[.int .i64 ek, .int .i64 en, .slice b2 m2 q2, .slice b3 m3 q3, .slice b4 m4 q4] 26)) w4) → Calls Try.prog 5 #[.agg #[u.1, u.2.1, u.2.2.1, u.2.2.2.1, u.2.2.2.2], .agg #[v.1, v.2.1, v.2.2.1, v.2.2.2.1, v.2.2.2.2]] w4 fun e w' => e = .returned (.int .i64 (vcI d a b)) ∧ (w'.cell? ⟨w.heap.size, 0, none⟩ = some (.int .i64 ck) ∧ w'.cell? ⟨w.heap.size, 1, none⟩ = some (.int .i64 cn) ∧ w'.cell? ⟨w.heap.size, 2, none⟩ = some (.slice a2 l2 p2) ∧ w'.cell? ⟨w.heap.size, 3, none⟩ = some (.slice a3 l3 p3) ∧ w'.cell? ⟨w.heap.size, 4, none⟩ = some (.slice a4 l4 p4) ∧ w'.cell? ⟨w.heap.size + 1, 0, none⟩ = some (.int .i64 ek) ∧ w'.cell? ⟨w.heap.size + 1, 1, none⟩ = some (.int .i64 en) ∧ w'.cell? ⟨w.heap.size + 1, 2, none⟩ = some (.slice b2 m2 q2) ∧ w'.cell? ⟨w.heap.size + 1, 3, none⟩ = some (.slice b3 m3 q3) ∧ w'.cell? ⟨w.heap.size + 1, 4, none⟩ = some (.slice b4 m4 q4)) ∧ Hid (Below ((w.alloc (.cells #[.int .i64 ck, .int .i64 cn, .slice a2 l2 p2, .slice a3 l3 p3, .slice a4 l4 p4] 26)).alloc (.cells #[.int .i64 ek, .int .i64 en, .slice b2 m2 q2, .slice b3 m3 q3, .slice b4 m4 q4] 26)).heap.size ((w.alloc (.cells #[.int .i64 ck, .int .i64 cn, .slice a2 l2 p2, .slice a3 l3 p3, .slice a4 l4 p4] 26)).alloc (.cells #[.int .i64 ek, .int .i64 en, .slice b2 m2 q2, .slice b3 m3 q3, .slice b4 m4 q4] 26)) w')) := by
        intro w3 w4 u v h1 h2 h3 h4
        obtain ⟨B1, h1⟩ := h1.out
        obtain ⟨B2, h3⟩ := h3.out
        refine (spec_ValCmp_any d w4.heap.size _ _ _ _ _ _ _ _ _ _ a b w4 (VSeg.mono (fun b hb => Nat.lt_of_lt_of_le hb h2.out.size) d (h1.at h2.out)) (h3.at (Below.refl _ _)) (Nat.le_refl _)).mono ?_
        rintro e w' ⟨rfl, hb⟩
        have hb' := Below.on h4.out hb
        obtain ⟨r1, r2⟩ := Hr.out _ _ _ hb'
        obtain ⟨f0, f1, f2, f3, f4, _⟩ := row5 r1
        obtain ⟨g0, g1, g2, g3, g4, _⟩ := row5 r2
        exact ⟨rfl, ⟨f0, f1, f2, f3, f4, g0, g1, g2, g3, g4⟩, hb'⟩
      have HIm : Hid (∀ (N : Nat) (u v : Value × Value × Value × Value × Value) (wx : World), VSeg (fun b => b < N) wx d u a → VSeg (fun b => b < N) wx d v b → N ≤ wx.heap.size → Calls Try.prog 7 #[.agg #[u.1, u.2.1, u.2.2.1, u.2.2.2.1, u.2.2.2.2], .agg #[v.1, v.2.1, v.2.2.1, v.2.2.2.1, v.2.2.2.2]] wx fun e w' => e = .returned (.int .i64 (vcI d a b)) ∧ Below wx.heap.size wx w') := fun N u v wx h1 h2 h3 => impl_ValCmp_any d N _ _ _ _ _ _ _ _ _ _ a b wx h1 h2 h3
      generalize szV d a = sz at *
      generalize szV d b = sz2 at *
      clear hl hl2 hz hz2 HV
      go_enter Try.func3, Try.ntmps3
      go_wp2_with fail
      refine (HS1.out _ (Hb2.out _ _)).mono ?_
      rintro e w1 ⟨rfl, b1⟩
      have HB1 := hide' (Below.on (Hb2.out _ _) b1)
      have Hb1 := hide' b1
      obtain ⟨r1, r2⟩ := Hr.out _ _ _ b1
      obtain ⟨g0, g1, g2, g3, g4, _⟩ := row5 r2
      clear b1 r1 r2
      go_wp2_with fail
      refine (HS3.out _ HB1.out).mono ?_
      rintro e w2 ⟨rfl, b2⟩
      have Hb12 := hide' (Below.on Hb1.out b2)
      clear g0 g1 g2 g3 g4
      obtain ⟨r1, r2⟩ := Hr.out _ _ _ Hb12.out
      obtain ⟨f0, f1, f2, f3, f4, _⟩ := row5 r1
      obtain ⟨g0, g1, g2, g3, g4, _⟩ := row5 r2
      clear b2 r1 r2 HB1 Hb1 HS1 HS3
      go_wp2_with fail
      go_region_held3 (fun wx => wx.cell? ⟨w.heap.size, 0, none⟩ = some (.int .i64 ck) ∧ wx.cell? ⟨w.heap.size, 1, none⟩ = some (.int .i64 cn) ∧ wx.cell? ⟨w.heap.size, 2, none⟩ = some (.slice a2 l2 p2) ∧ wx.cell? ⟨w.heap.size, 3, none⟩ = some (.slice a3 l3 p3) ∧ wx.cell? ⟨w.heap.size, 4, none⟩ = some (.slice a4 l4 p4) ∧ wx.cell? ⟨w.heap.size + 1, 0, none⟩ = some (.int .i64 ek) ∧ wx.cell? ⟨w.heap.size + 1, 1, none⟩ = some (.int .i64 en) ∧ wx.cell? ⟨w.heap.size + 1, 2, none⟩ = some (.slice b2 m2 q2) ∧ wx.cell? ⟨w.heap.size + 1, 3, none⟩ = some (.slice b3 m3 q3) ∧ wx.cell? ⟨w.heap.size + 1, 4, none⟩ = some (.slice b4 m4 q4)) (go_keep) (first
        | (go_at_call_of 6 ck; refine (HTa.out _ Hb12.out.drew).mono ?_; rintro e w3 ⟨u0, u1, u2, u3, u4, rfl, ⟨i0, i1, i2, i3, i4, i5, i6, i7, i8, i9⟩, hO3, hb3, hB3⟩)
        | (go_at_call_of 6 ek; refine (HTb.out _ hB3.out).mono ?_; rintro e w4 ⟨v0, v1, v2, v3, v4, rfl, ⟨j0, j1, j2, j3, j4, j5, j6, j7, j8, j9⟩, hO4, hb4, hB4⟩)
        | (go_at_call 5; refine (HSp.out w3 w4 (u0, u1, u2, u3, u4) (v0, v1, v2, v3, v4) hO3 hb4 hO4 hB4).mono ?_; rintro e w5 ⟨rfl, ⟨k0, k1, k2, k3, k4, k5, k6, k7, k8, k9⟩, hB5⟩))
      clear f0 f1 f2 f3 f4 g0 g1 g2 g3 g4 i0 i1 i2 i3 i4 i5 i6 i7 i8 i9 j0 j1 j2 j3 j4 j5 j6 j7 j8 j9 hO3 hO4 hb3 hb4 hB3 hB4 HSp Hb12
      go_wp2_with fail
      refine (HTa.out _ hB5.out).mono ?_
      rintro e w6 ⟨x0, x1, x2, x3, x4, rfl, ⟨i0, i1, i2, i3, i4, i5, i6, i7, i8, i9⟩, hO6, hb6, hB6⟩
      have hform := hO6.out
      obtain ⟨Bx, hOx⟩ := hform
      obtain ⟨xk, xn, s2, n2, r2, s3, n3, r3, s4, n4, r4, rfl, rfl, rfl, rfl, rfl⟩ := VOwn.form d hOx
      have HOx := hide' hOx
      have hal : ∀ o : Obj, Below w6.heap.size w6 (w6.alloc o) := fun o => (Below.refl _ _).alloc (Nat.le_refl _) o
      have g5 : ∀ o : Obj, (w6.alloc o).cell? ⟨w.heap.size + 1, 0, none⟩ = some (.int .i64 ek) := fun o => keep_cell (hal o) i5
      have g6 : ∀ o : Obj, (w6.alloc o).cell? ⟨w.heap.size + 1, 1, none⟩ = some (.int .i64 en) := fun o => keep_cell (hal o) i6
      have g7 : ∀ o : Obj, (w6.alloc o).cell? ⟨w.heap.size + 1, 2, none⟩ = some (.slice b2 m2 q2) := fun o => keep_cell (hal o) i7
      have g8 : ∀ o : Obj, (w6.alloc o).cell? ⟨w.heap.size + 1, 3, none⟩ = some (.slice b3 m3 q3) := fun o => keep_cell (hal o) i8
      have g9 : ∀ o : Obj, (w6.alloc o).cell? ⟨w.heap.size + 1, 4, none⟩ = some (.slice b4 m4 q4) := fun o => keep_cell (hal o) i9
      have HBx : Hid (∀ o : Obj, Below ((w.alloc (.cells #[.int .i64 ck, .int .i64 cn, .slice a2 l2 p2, .slice a3 l3 p3, .slice a4 l4 p4] 26)).alloc (.cells #[.int .i64 ek, .int .i64 en, .slice b2 m2 q2, .slice b3 m3 q3, .slice b4 m4 q4] 26)).heap.size ((w.alloc (.cells #[.int .i64 ck, .int .i64 cn, .slice a2 l2 p2, .slice a3 l3 p3, .slice a4 l4 p4] 26)).alloc (.cells #[.int .i64 ek, .int .i64 en, .slice b2 m2 q2, .slice b3 m3 q3, .slice b4 m4 q4] 26)) (w6.alloc o)) := fun o => Below.on hB6.out (hal o)
      have Hal := hide' hal
      clear hOx hO6 hB6 hal i0 i1 i2 i3 i4 i5 i6 i7 i8 i9 k0 k1 k2 k3 k4 k5 k6 k7 k8 k9
      go_wp2_with fail
      refine (HTb.out _ (HBx.out _)).mono ?_
      rintro e w7 ⟨y0, y1, y2, y3, y4, rfl, ⟨i0, i1, i2, i3, i4, i5, i6, i7, i8, i9⟩, hO7, hb7, hB7⟩
      have hform := hO7.out
      obtain ⟨By, hOy⟩ := hform
      obtain ⟨yk, yn, t2, o2, v2, t3, o3, v3, t4, o4, v4, rfl, rfl, rfl, rfl, rfl⟩ := VOwn.form d hOy
      have HOy := hide' hOy
      have hxr : w7.heap[w6.heap.size]? = some (.cells #[.int .i64 xk, .int .i64 xn, .slice s2 n2 r2, .slice s3 n3 r3, .slice s4 n4 r4] 31) := box_row hb7.out
      have HXr := hide' hxr
      obtain ⟨qa0, qa1, qa2, qa3, qa4, _⟩ := row5 hxr
      have hal : ∀ o : Obj, Below w7.heap.size w7 (w7.alloc o) := fun o => (Below.refl _ _).alloc (Nat.le_refl _) o
      have k0 : ∀ o : Obj, (w7.alloc o).cell? ⟨w6.heap.size, 0, none⟩ = some (.int .i64 xk) := fun o => keep_cell (hal o) qa0
      have k1 : ∀ o : Obj, (w7.alloc o).cell? ⟨w6.heap.size, 1, none⟩ = some (.int .i64 xn) := fun o => keep_cell (hal o) qa1
      have k2 : ∀ o : Obj, (w7.alloc o).cell? ⟨w6.heap.size, 2, none⟩ = some (.slice s2 n2 r2) := fun o => keep_cell (hal o) qa2
      have k3 : ∀ o : Obj, (w7.alloc o).cell? ⟨w6.heap.size, 3, none⟩ = some (.slice s3 n3 r3) := fun o => keep_cell (hal o) qa3
      have k4 : ∀ o : Obj, (w7.alloc o).cell? ⟨w6.heap.size, 4, none⟩ = some (.slice s4 n4 r4) := fun o => keep_cell (hal o) qa4
      have HI : Hid (∀ o : Obj, Calls Try.prog 7 #[.agg #[.int .i64 xk, .int .i64 xn, .slice s2 n2 r2, .slice s3 n3 r3, .slice s4 n4 r4], .agg #[.int .i64 yk, .int .i64 yn, .slice t2 o2 v2, .slice t3 o3 v3, .slice t4 o4 v4]] (w7.alloc o) fun e w' => e = .returned (.int .i64 (vcI d a b)) ∧ Below (w7.alloc o).heap.size (w7.alloc o) w') := fun o =>
        HIm.out (w7.alloc o).heap.size (.int .i64 xk, .int .i64 xn, .slice s2 n2 r2, .slice s3 n3 r3, .slice s4 n4 r4) (.int .i64 yk, .int .i64 yn, .slice t2 o2 v2, .slice t3 o3 v3, .slice t4 o4 v4) (w7.alloc o) (VSeg.mono (fun b hb => Nat.lt_of_lt_of_le hb (Nat.le_trans (Hal.out (.cells #[.int .i64 xk, .int .i64 xn, .slice s2 n2 r2, .slice s3 n3 r3, .slice s4 n4 r4] 31)).size (Nat.le_trans hb7.out.size (hal o).size))) d (HOx.out.at (Below.on (Below.on (Hal.out (.cells #[.int .i64 xk, .int .i64 xn, .slice s2 n2 r2, .slice s3 n3 r3, .slice s4 n4 r4] 31)) hb7.out) (hal o)))) (VSeg.mono (fun b hb => Nat.lt_of_lt_of_le hb (hal o).size) d (HOy.out.at (hal o))) (Nat.le_refl _)
      have Hal7 := hide' hal
      have HBy : Hid (∀ o : Obj, Below ((w.alloc (.cells #[.int .i64 ck, .int .i64 cn, .slice a2 l2 p2, .slice a3 l3 p3, .slice a4 l4 p4] 26)).alloc (.cells #[.int .i64 ek, .int .i64 en, .slice b2 m2 q2, .slice b3 m3 q3, .slice b4 m4 q4] 26)).heap.size ((w.alloc (.cells #[.int .i64 ck, .int .i64 cn, .slice a2 l2 p2, .slice a3 l3 p3, .slice a4 l4 p4] 26)).alloc (.cells #[.int .i64 ek, .int .i64 en, .slice b2 m2 q2, .slice b3 m3 q3, .slice b4 m4 q4] 26)) (w7.alloc o)) := fun o => Below.on hB7.out (hal o)
      have Hb67 : Hid (Below w6.heap.size w6 w7) := Below.on (Hal.out (.cells #[.int .i64 xk, .int .i64 xn, .slice s2 n2 r2, .slice s3 n3 r3, .slice s4 n4 r4] 31)) hb7.out
      clear hOy hO7 hB7 hal hxr qa0 qa1 qa2 qa3 qa4 i0 i1 i2 i3 i4 i5 i6 i7 i8 i9 g5 g6 g7 g8 g9 HIm hb6 hb7
      go_wp2_with fail
      refine (HI.out _).mono ?_
      rintro e w8 ⟨rfl, b8⟩
      have hyr : w8.heap[w7.heap.size]? = some (.cells #[.int .i64 yk, .int .i64 yn, .slice t2 o2 v2, .slice t3 o3 v3, .slice t4 o4 v4] 31) := box_row b8
      have hz7 : w6.heap.size < w7.heap.size := (Array.getElem?_eq_some_iff.1 HXr.out).1
      have hz8 : w7.heap.size < w8.heap.size := (Array.getElem?_eq_some_iff.1 hyr).1
      have b78 : Below w7.heap.size w7 w8 := Below.on (Hal7.out _) b8
      have hxr8 := (b78.block _ hz7).trans HXr.out
      have hB8 := Below.on (HBy.out _) b8
      have HX : Hid (∀ wx, Below w8.heap.size w8 wx → wx.cell? ⟨w6.heap.size, 0, none⟩ = some (.int .i64 xk) ∧ wx.cell? ⟨w6.heap.size, 1, none⟩ = some (.int .i64 xn) ∧ wx.cell? ⟨w6.heap.size, 2, none⟩ = some (.slice s2 n2 r2) ∧ wx.cell? ⟨w6.heap.size, 3, none⟩ = some (.slice s3 n3 r3) ∧ wx.cell? ⟨w6.heap.size, 4, none⟩ = some (.slice s4 n4 r4)) := by
        intro wx h
        obtain ⟨qa0, qa1, qa2, qa3, qa4, _⟩ := row5 ((h.block _ (by omega)).trans hxr8)
        exact ⟨qa0, qa1, qa2, qa3, qa4⟩
      have HY : Hid (∀ wx, Below w8.heap.size w8 wx → wx.cell? ⟨w7.heap.size, 0, none⟩ = some (.int .i64 yk) ∧ wx.cell? ⟨w7.heap.size, 1, none⟩ = some (.int .i64 yn) ∧ wx.cell? ⟨w7.heap.size, 2, none⟩ = some (.slice t2 o2 v2) ∧ wx.cell? ⟨w7.heap.size, 3, none⟩ = some (.slice t3 o3 v3) ∧ wx.cell? ⟨w7.heap.size, 4, none⟩ = some (.slice t4 o4 v4)) := by
        intro wx h
        obtain ⟨qa0, qa1, qa2, qa3, qa4, _⟩ := row5 ((h.block _ hz8).trans hyr)
        exact ⟨qa0, qa1, qa2, qa3, qa4⟩
      have HB8 := hide' hB8
      have HEx : Hid (∀ wx (z0 z1 z2 z3 z4 : Value), Below w8.heap.size w8 wx → Hid (∃ B, VOwn wx d (z0, z1, z2, z3, z4) a B) → Calls Try.prog 8 #[.agg #[.int .i64 xk, .int .i64 xn, .slice s2 n2 r2, .slice s3 n3 r3, .slice s4 n4 r4], .agg #[z0, z1, z2, z3, z4]] wx fun e w' => e = .returned (.bool true) ∧ Below wx.heap.size wx w') := by
        intro wx z0 z1 z2 z3 z4 h hO
        obtain ⟨B, hO⟩ := hO.out
        have h6x := Below.on (Below.on Hb67.out b78) h
        exact HEa.out wx.heap.size (.int .i64 xk, .int .i64 xn, .slice s2 n2 r2, .slice s3 n3 r3, .slice s4 n4 r4) (z0, z1, z2, z3, z4) wx (VSeg.mono (fun b hb => Nat.lt_of_lt_of_le hb h6x.size) d (HOx.out.at h6x)) (hO.at (Below.refl _ _)) (Nat.le_refl _)
      have HEy : Hid (∀ wx (z0 z1 z2 z3 z4 : Value), Below w8.heap.size w8 wx → Hid (∃ B, VOwn wx d (z0, z1, z2, z3, z4) b B) → Calls Try.prog 8 #[.agg #[.int .i64 yk, .int .i64 yn, .slice t2 o2 v2, .slice t3 o3 v3, .slice t4 o4 v4], .agg #[z0, z1, z2, z3, z4]] wx fun e w' => e = .returned (.bool true) ∧ Below wx.heap.size wx w') := by
        intro wx z0 z1 z2 z3 z4 h hO
        obtain ⟨B, hO⟩ := hO.out
        have h7x := Below.on b78 h
        exact HEb.out wx.heap.size (.int .i64 yk, .int .i64 yn, .slice t2 o2 v2, .slice t3 o3 v3, .slice t4 o4 v4) (z0, z1, z2, z3, z4) wx (VSeg.mono (fun b hb => Nat.lt_of_lt_of_le hb h7x.size) d (HOy.out.at h7x)) (hO.at (Below.refl _ _)) (Nat.le_refl _)
      obtain ⟨r1, r2⟩ := Hr.out _ _ _ hB8
      obtain ⟨f0, f1, f2, f3, f4, _⟩ := row5 r1
      obtain ⟨qa0, qa1, qa2, qa3, qa4⟩ := HX.out w8 (Below.refl _ _)
      clear k0 k1 k2 k3 k4 b8 b78 hxr8 hyr hB8 hz7 hz8 r1 r2 HI HEa HEb HOx HOy HXr HBx HBy Hal Hal7 Hb67
      generalize vcI d a b = vc at *
      go_wp2_with fail
      go_region_held3 (fun wx => wx.cell? ⟨w6.heap.size, 0, none⟩ = some (.int .i64 xk) ∧ wx.cell? ⟨w6.heap.size, 1, none⟩ = some (.int .i64 xn) ∧ wx.cell? ⟨w6.heap.size, 2, none⟩ = some (.slice s2 n2 r2) ∧ wx.cell? ⟨w6.heap.size, 3, none⟩ = some (.slice s3 n3 r3) ∧ wx.cell? ⟨w6.heap.size, 4, none⟩ = some (.slice s4 n4 r4) ∧ wx.cell? ⟨w.heap.size, 0, none⟩ = some (.int .i64 ck) ∧ wx.cell? ⟨w.heap.size, 1, none⟩ = some (.int .i64 cn) ∧ wx.cell? ⟨w.heap.size, 2, none⟩ = some (.slice a2 l2 p2) ∧ wx.cell? ⟨w.heap.size, 3, none⟩ = some (.slice a3 l3 p3) ∧ wx.cell? ⟨w.heap.size, 4, none⟩ = some (.slice a4 l4 p4)) (go_keep) (first
        | (go_at_call_of 6 ck; refine (HTa.out _ HB8.out.drew).mono ?_; rintro e w9 ⟨z0, z1, z2, z3, z4, rfl, ⟨i0, i1, i2, i3, i4, i5, i6, i7, i8, i9⟩, hO9, hb9, hB9⟩; have h89 := hide' (Below.on (Below.refl w8.heap.size w8).drew hb9.out); obtain ⟨j0, j1, j2, j3, j4⟩ := HX.out w9 h89.out)
        | (go_at_call 8; refine (HEx.out _ _ _ _ _ _ h89.out hO9).mono ?_; rintro e w10 ⟨rfl, b10⟩; have h810 := hide' (Below.on h89.out b10); have hB10 := hide' (Below.on hB9.out b10); obtain ⟨ma0, ma1, ma2, ma3, ma4⟩ := HX.out w10 h810.out; obtain ⟨rA, _⟩ := Hr.out _ _ _ hB10.out; obtain ⟨na0, na1, na2, na3, na4, _⟩ := row5 rA; clear rA b10))
      clear f0 f1 f2 f3 f4 qa0 qa1 qa2 qa3 qa4 i0 i1 i2 i3 i4 i5 i6 i7 i8 i9 j0 j1 j2 j3 j4 ma0 ma1 ma2 ma3 ma4 na0 na1 na2 na3 na4
      obtain ⟨_, r2⟩ := Hr.out _ _ _ hB10.out
      obtain ⟨g0, g1, g2, g3, g4, _⟩ := row5 r2
      obtain ⟨qa0, qa1, qa2, qa3, qa4⟩ := HY.out w10 h810.out
      clear r2 hO9 hb9 hB9 h89 HEx HX HTa
      go_wp2_with fail
      go_region_held3 (fun wx => wx.cell? ⟨w7.heap.size, 0, none⟩ = some (.int .i64 yk) ∧ wx.cell? ⟨w7.heap.size, 1, none⟩ = some (.int .i64 yn) ∧ wx.cell? ⟨w7.heap.size, 2, none⟩ = some (.slice t2 o2 v2) ∧ wx.cell? ⟨w7.heap.size, 3, none⟩ = some (.slice t3 o3 v3) ∧ wx.cell? ⟨w7.heap.size, 4, none⟩ = some (.slice t4 o4 v4) ∧ wx.cell? ⟨w.heap.size + 1, 0, none⟩ = some (.int .i64 ek) ∧ wx.cell? ⟨w.heap.size + 1, 1, none⟩ = some (.int .i64 en) ∧ wx.cell? ⟨w.heap.size + 1, 2, none⟩ = some (.slice b2 m2 q2) ∧ wx.cell? ⟨w.heap.size + 1, 3, none⟩ = some (.slice b3 m3 q3) ∧ wx.cell? ⟨w.heap.size + 1, 4, none⟩ = some (.slice b4 m4 q4)) (go_keep) (first
        | (go_at_call_of 6 ek; refine (HTb.out _ hB10.out.drew).mono ?_; rintro e w11 ⟨z0, z1, z2, z3, z4, rfl, ⟨i0, i1, i2, i3, i4, i5, i6, i7, i8, i9⟩, hO11, hb11, hB11⟩; have h811 := hide' (Below.on (Below.on h810.out (Below.refl w10.heap.size w10).drew) hb11.out); obtain ⟨j0, j1, j2, j3, j4⟩ := HY.out w11 h811.out)
        | (go_at_call 8; refine (HEy.out _ _ _ _ _ _ h811.out hO11).mono ?_; rintro e w12 ⟨rfl, b12⟩; have h812 := hide' (Below.on h811.out b12); have hB12 := hide' (Below.on hB11.out b12); obtain ⟨ma0, ma1, ma2, ma3, ma4⟩ := HY.out w12 h812.out; obtain ⟨_, rA⟩ := Hr.out _ _ _ hB12.out; obtain ⟨na0, na1, na2, na3, na4, _⟩ := row5 rA; clear rA b12))
      have B12 := Below.on (Hb2.out _ _) hB12.out
      clear ma0 ma1 ma2 ma3 ma4 na0 na1 na2 na3 na4 g0 g1 g2 g3 g4 qa0 qa1 qa2 qa3 qa4 i0 i1 i2 i3 i4 i5 i6 i7 i8 i9 j0 j1 j2 j3 j4
      go_wp2
      go_ret
      exact ⟨rfl, B12⟩
end Go.Proofs.Ythidmlfmcjdcnaa
/-
  A value that came in, as its reading has it, can be read: 'VSeg'.
-/
namespace Go.Proofs.Ythidmlfmcjdcnaa
open Go.ChangeShapes Go.WideShapes Go.ChangeAt Go.RowKit
set_option linter.unusedVariables false
set_option linter.unusedSimpArgs false
set_option maxRecDepth 100000

theorem cellsK : Try.prog.cellsOf 23 = 1 := by kernel_rfl
theorem cellsL : Try.prog.cellsOf 24 = 1 := by kernel_rfl
theorem cellsV : Try.prog.cellsOf 26 = 5 := by kernel_rfl
variable {H : Type} {enc : TypeId × Value → H} {w : World}

theorem read_keys {fuel : Nat} {cs : List Value} {x : DataW H × List MemPlace} (h : DataW.trod enc Try.prog w 0 (fun _ => true) true fuel 23 cs = some x) : ∃ u ks, cs = [u] ∧ KSeg (fun b => b < w.heap.size) w u ks := by
  rcases DataW.trod_slice Try.underlying23 h with ⟨rfl, _⟩ | ⟨a, len, cap, elems, rest, n, _, rfl, _, hb, hl, hm, hlen, hel, hsp, hns⟩
  · exact ⟨_, [], rfl, none, 0, rfl, Nat.le_refl _, Nat.zero_le _, fun _ => rfl, .inl rfl⟩
  · have hq : ∀ i, i < len → ∃ xs : List Int, ∃ u, w.cell? (a.add i) = some u ∧ TSeg (fun b => b < w.heap.size) w u xs := by
      intro i hi
      have h1 := hel i hi
      rw [cellsT, Nat.mul_one, List.getElem?_eq_getElem (by omega)] at h1
      obtain ⟨cs', hc, ht⟩ := Option.bind_eq_some_iff.1 h1
      obtain ⟨u, xs, rfl, hT⟩ := read_text ht
      exact ⟨xs, u, cell_of_cells?_one hc, hT⟩
    obtain ⟨ks, hkl, hks⟩ := list_of len hq
    subst hkl
    refine ⟨_, ks, rfl, some a, cap, rfl, hl, hm, by simp, ?_⟩
    by_cases he : ks = []
    · exact .inl he
    · have hp : 0 < ks.length := List.length_pos_iff.2 he
      obtain ⟨b, off, spot⟩ := a
      obtain ⟨u0, hu0, _⟩ := hks 0 hp
      have hspot : spot = none := by simpa [Addr.add] using World.cell?_spot hu0
      subst hspot
      refine .inr ⟨b, off, rfl, ?_, fun i hi => ?_⟩
      · have := World.block_lt_of_cell? w _ hu0
        simpa [Addr.add] using this
      · obtain ⟨u, hu, hT⟩ := hks i hi
        rw [Addr.add_lit] at hu
        exact ⟨u, hu, by simpa [List.getD_eq_getElem?_getD, hi] using hT⟩

theorem read_five {fuel : Nat} {cs : List Value} {x : DataW H × List MemPlace} (h : DataW.trod enc Try.prog w 0 (fun _ => true) true (fuel + 1) 26 cs = some x) :
    ∃ c0 c1 c2 c3 c4 y0 y1 y2 y3 y4, cs = [c0, c1, c2, c3, c4] ∧ DataW.trod enc Try.prog w 0 (fun _ => true) true fuel 3 [c0] = some y0 ∧ DataW.trod enc Try.prog w 0 (fun _ => true) true fuel 3 [c1] = some y1 ∧
      DataW.trod enc Try.prog w 0 (fun _ => true) true fuel 22 [c2] = some y2 ∧ DataW.trod enc Try.prog w 0 (fun _ => true) true fuel 23 [c3] = some y3 ∧ DataW.trod enc Try.prog w 0 (fun _ => true) true fuel 24 [c4] = some y4 := by
  unfold DataW.trod at h
  rw [Try.underlying26] at h
  simp only [cellsV] at h
  split at h
  · next hlen =>
    match cs, hlen with
    | [c0, c1, c2, c3, c4], _ =>
      simp [cellsT, cellsK, cellsL, cellsI, List.mapM_cons, Option.bind_eq_some_iff] at h
      obtain ⟨a0, b0, h0, _, ⟨a1, b1, h1, _, ⟨a2, b2, h2, _, ⟨a3, b3, h3, _, ⟨a4, b4, h4, _⟩, _⟩, _⟩, _⟩, _⟩ := h
      exact ⟨c0, c1, c2, c3, c4, _, _, _, _, _, rfl, h0, h1, h2, h3, h4⟩
  · simp at h

/-- How deep what is read with that fuel is at most. -/
def dep : Nat → Nat
  | 0 => 0
  | 1 => 0
  | f + 2 => dep f + 1

def ReadAt (enc : TypeId × Value → H) (w : World) (f : Nat) : Prop := ∀ (cs : List Value) (x : DataW H × List MemPlace), DataW.trod enc Try.prog w 0 (fun _ => true) true f 26 cs = some x →
  ∃ (c0 c1 c2 c3 c4 : Value) (v : Vl (dep f)), cs = [c0, c1, c2, c3, c4] ∧ VSeg (fun b => b < w.heap.size) w (dep f) (c0, c1, c2, c3, c4) v

theorem read_step (f : Nat) (ih : ReadAt enc w f) : ReadAt enc w (f + 2) := by
  intro cs x h
  obtain ⟨c0, c1, c2, c3, c4, y0, y1, y2, y3, y4, rfl, h0, h1, h2, h3, h4⟩ := read_five h
  obtain ⟨n0, e0, _, _⟩ := DataW.trod_int Try.underlying3 h0
  obtain ⟨n1, e1, _, _⟩ := DataW.trod_int Try.underlying3 h1
  obtain ⟨u2, xs, e2, hT⟩ := read_text h2
  obtain ⟨u3, ks, e3, hK⟩ := read_keys h3
  simp at e0 e1 e2 e3
  subst e0 e1 e2 e3
  have hL : ∃ l : List (Vl (dep f)), LSeg (fun b => b < w.heap.size) w (dep f) c4 l := by
    rcases DataW.trod_slice Try.underlying24 h4 with ⟨e, _⟩ | ⟨a, len, cap, elems, rest, n, hn, e, _, hb, hl, hm, hlen, hel, hsp, hns⟩
    · simp at e
      subst e
      exact ⟨[], none, 0, rfl, Nat.le_refl _, Nat.zero_le _, fun _ => rfl, .inl rfl⟩
    · simp at e
      subst e
      obtain rfl : n = f := by omega
      have hq : ∀ i, i < len → ∃ v : Vl (dep n), ∃ c0 c1 c2 c3 c4, (∀ j, j < 5 → w.cell? ((a.add (i * 5)).add j) = [c0, c1, c2, c3, c4][j]?) ∧ VSeg (fun b => b < w.heap.size) w (dep n) (c0, c1, c2, c3, c4) v := by
        intro i hi
        have h1 := hel i hi
        rw [cellsV, List.getElem?_eq_getElem (by omega)] at h1
        obtain ⟨cs', hc, ht⟩ := Option.bind_eq_some_iff.1 h1
        obtain ⟨d0, d1, d2, d3, d4, v, rfl, hv⟩ := ih cs' _ ht
        exact ⟨v, d0, d1, d2, d3, d4, (World.cells?_some hc).2.2, hv⟩
      obtain ⟨l, hll, hls⟩ := list_of len hq
      subst hll
      refine ⟨l, some a, cap, rfl, hl, hm, by simp, ?_⟩
      by_cases he : l = []
      · exact .inl he
      · have hp : 0 < l.length := List.length_pos_iff.2 he
        obtain ⟨b, off, spot⟩ := a
        obtain ⟨d0, d1, d2, d3, d4, hu0, _⟩ := hls 0 hp
        have hu := hu0 0 (by omega)
        simp [Addr.add] at hu
        have hspot : spot = none := by simpa using World.cell?_spot hu
        subst hspot
        refine .inr ⟨b, off, rfl, World.block_lt_of_cell? w _ hu, fun i hi => ?_⟩
        obtain ⟨d0, d1, d2, d3, d4, hu, hv⟩ := hls i hi
        have e : ∀ j, j < 5 → w.cell? ⟨b, off + i * 5 + j, none⟩ = [d0, d1, d2, d3, d4][j]? := by
          intro j hj
          have := hu j hj
          rw [Addr.add_lit, Addr.add_lit] at this
          exact this
        exact ⟨(d0, d1, d2, d3, d4), ⟨e 0 (by omega), e 1 (by omega), e 2 (by omega), e 3 (by omega), e 4 (by omega)⟩, hv⟩
  obtain ⟨l, hL⟩ := hL
  exact ⟨_, _, _, _, _, (n0, n1, xs, ks, l), rfl, (VSeg_succ _ _ _ _ _).2 ⟨rfl, rfl, hT, hK, hL⟩⟩

theorem read_both (f : Nat) : ReadAt enc w f ∧ ReadAt enc w (f + 1) := by
  induction f with
  | zero =>
    refine ⟨fun cs x h => by simp [DataW.trod] at h, fun cs x h => ?_⟩
    obtain ⟨_, _, _, _, _, _, _, _, _, _, _, h0, _⟩ := read_five h
    simp [DataW.trod] at h0
  | succ f ih => exact ⟨ih.2, read_step f ih.1⟩

/-- A value that came in. -/
theorem read_value {v : Value} {d : DataW H} {ps : List MemPlace} (h : DataW.Trod enc Try.prog w 0 (fun _ => true) true 26 v d ps) :
    ∃ c0 c1 c2 c3 c4 n, v = .agg #[c0, c1, c2, c3, c4] ∧ ∃ x : Vl n, VSeg (fun b => b < w.heap.size) w n (c0, c1, c2, c3, c4) x := by
  obtain ⟨fuel, hf⟩ := h
  obtain ⟨c0, c1, c2, c3, c4, x, e, hx⟩ := (read_both fuel).1 _ _ hf
  refine ⟨c0, c1, c2, c3, c4, dep fuel, ?_, x, hx⟩
  cases v <;> simp [Value.cells] at e
  rename_i cs
  cases cs
  simp at e
  simp [e]
end Go.Proofs.Ythidmlfmcjdcnaa
