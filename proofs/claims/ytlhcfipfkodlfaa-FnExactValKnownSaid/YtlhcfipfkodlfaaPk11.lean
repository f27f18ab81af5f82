/-
  Texts that a law leans on, one behind the other; no statement is proved here.
-/
import Derived.Test.YtlhcfipfkodlfaaPk9
/-
  FnExactValKnown answers true, whatever value it is handed; it makes new memory and turns nothing old.
-/
namespace Go.Proofs.Ytlhcfipfkodlfaa
open Go.RowKit
set_option linter.unusedVariables false
set_option linter.unusedSimpArgs false

set_option maxHeartbeats 1600000 in
theorem impl_ValKnown_any (d N : Nat) (c0 c1 c2 c3 c4 : Value) (v : Vl d) (w : World) (hv : VSeg (fun b => b < N) w d (c0, c1, c2, c3, c4) v) (hN : N ≤ w.heap.size) :
    Calls Try.prog 14 #[.agg #[c0, c1, c2, c3, c4]] w fun e w' => e = .returned (.bool (ansValKnown d v)) ∧ Below w.heap.size w w' := by
  have b0 : ∀ o : Obj, Below w.heap.size w (w.alloc o) := fun o => (Below.refl _ _).alloc (Nat.le_refl _) o
  have HC : Hid (∀ o : Obj, Calls Try.prog 23 #[.agg #[c0, c1, c2, c3, c4]] (w.alloc o) (PartEnd d v (w.alloc o))) := fun o =>
    partOf_any d N c0 c1 c2 c3 c4 v (w.alloc o) (VSeg.agree (agree_below ((b0 o).mono hN)) d hv) (by have := (b0 o).size; omega)
  have Hb := hide' b0
  clear b0
  go_enter Try.func14, Try.ntmps14
  go_wp2_with fail
  refine (HC.out _).mono ?_
  rintro e w1 ⟨b1, hcase⟩
  have B1 := hide' (Below.on (Hb.out _) b1)
  rcases hcase with ⟨p, rfl, h1, h2⟩ | ⟨rfl, h1⟩
  · have hok := okB_parts h1
    have HF : Hid (Calls Try.prog 31 #[p] w1 fun e w' => e = .returned (.bool (knownV d v)) ∧ Below w1.heap.size w1 w') := known_any d w1.heap.size p v 1 w1 (PSeg.carry (fun b hb => hb.2) (fun b _ => rfl) d h2) (Nat.le_refl _) hok.1 hok.2
    have H1 : Hid (ansValKnown d v = knownV d v) := by show ansValKnown d v = knownV d v; simp [ansValKnown, h1]
    clear b1 h1 h2 hok
    go_wp2_with fail
    refine HF.out.mono ?_
    rintro e w2 ⟨rfl, b2⟩
    have B2 := Below.on B1.out b2
    go_wp2
    go_ret
    exact ⟨by rw [H1.out]; rfl, B2⟩
  · have H1 : Hid (ansValKnown d v = false) := by show ansValKnown d v = false; simp [ansValKnown, h1]
    clear b1 h1
    go_wp2
    go_ret
    exact ⟨by rw [H1.out]; rfl, B1.out⟩

set_option maxHeartbeats 1600000 in
theorem walk_FnExactValKnown (d : Nat) (c0 c1 c2 c3 c4 : Value) (v : Vl d) (w : World) (hv : VSeg (fun b => b < w.heap.size) w d (c0, c1, c2, c3, c4) v) :
    Calls Try.prog 5 #[.agg #[c0, c1, c2, c3, c4]] w fun e w' => e = .returned (.bool true) ∧ Below w.heap.size w w' := by
  have b0 : ∀ o : Obj, Below w.heap.size w (w.alloc o) := fun o => (Below.refl _ _).alloc (Nat.le_refl _) o
  have HV : Hid (∀ wx, Below w.heap.size w wx → VSeg (fun b => b < w.heap.size) wx d (c0, c1, c2, c3, c4) v) := fun wx hb => VSeg.agree (agree_below hb) d hv
  have HS : Hid (∀ wx, Below w.heap.size w wx → Calls Try.prog 6 #[.agg #[c0, c1, c2, c3, c4], .int .i64 1048576] wx fun e w' => e = .returned (.int .i64 (less 1048576 (szV d v))) ∧ Below wx.heap.size wx w') := fun wx hb =>
    szValue_any d w.heap.size (c0, c1, c2, c3, c4) v 1048576 wx (HV.out wx hb) hb.size (by omega) (by omega)
  have hbox : ∀ o wx, Below (w.alloc o).heap.size (w.alloc o) wx → wx.heap[w.heap.size]? = some o := fun o wx h => box_row h
  have Hbox := hide' hbox
  have Hb := hide' b0
  obtain ⟨ck, cn, a2, l2, p2, a3, l3, p3, a4, l4, p4, rfl, rfl, rfl, rfl, rfl⟩ := VSeg.form d hv
  clear b0 hbox hv
  by_cases hz : (1048576 : Int) < szV d v
  · have hl : less 1048576 (szV d v) = -1 := less_no _ _ hz
    rw [hl] at HS
    clear hl
    go_enter Try.func5, Try.ntmps5
    go_wp2_with fail
    refine (HS.out _ (Hb.out _)).mono ?_
    rintro e w1 ⟨rfl, b1⟩
    have B1 := Below.on (Hb.out _) b1
    clear b1
    go_wp2
    go_ret
    exact ⟨rfl, B1⟩
  · have hl : less 1048576 (szV d v) = 1048576 - szV d v := less_yes _ _ hz
    rw [hl] at HS
    have hz0 : 0 ≤ (1048576 : Int) - szV d v := by omega
    have hz1 : (1048576 : Int) - szV d v ≤ 1048576 := by omega
    have HZ : Hid (szV d v ≤ 1048576) := by show szV d v ≤ 1048576; omega
    have HT : Hid (∀ wx, Below w.heap.size w wx → Calls Try.prog 8 #[.agg #[.int .i64 ck, .int .i64 cn, .slice a2 l2 p2, .slice a3 l3 p3, .slice a4 l4 p4]] wx fun e w' => ∃ c0 c1 c2 c3 c4, e = .returned (.agg #[c0, c1, c2, c3, c4]) ∧ ∃ B, VOwn w' d (c0, c1, c2, c3, c4) v B ∧ (∀ b ∈ B, wx.heap.size ≤ b ∧ b < w'.heap.size) ∧ Below wx.heap.size wx w') := fun wx hb =>
      toValue_any d w.heap.size (.int .i64 ck, .int .i64 cn, .slice a2 l2 p2, .slice a3 l3 p3, .slice a4 l4 p4) v wx (HV.out wx hb) hb.size HZ.out
    have HEq : Hid (∀ (N : Nat) (c c' : Value × Value × Value × Value × Value) (wx : World), VSeg (fun b => b < N) wx d c v → VSeg (fun b => b < N) wx d c' v → N ≤ wx.heap.size → Calls Try.prog 10 #[.agg #[c.1, c.2.1, c.2.2.1, c.2.2.2.1, c.2.2.2.2], .agg #[c'.1, c'.2.1, c'.2.2.1, c'.2.2.2.1, c'.2.2.2.2]] wx fun e w' => e = .returned (.bool true) ∧ Below wx.heap.size wx w') := fun N c c' wx h1 h2 h3 => eqValue_any d N c c' v wx h1 h2 h3 HZ.out
    generalize szV d v = sz at *
    clear hl hz HV
    go_enter Try.func5, Try.ntmps5
    go_wp2_with fail
    refine (HS.out _ (Hb.out _)).mono ?_
    rintro e w1 ⟨rfl, b1⟩
    have B1 := Below.on (Hb.out _) b1
    have hr1 := Hbox.out _ _ b1
    obtain ⟨y0, y1, y2, y3, y4, _⟩ := row5 hr1
    have HT1 := hide' (HT.out w1 B1)
    have Hb1 := hide' b1
    have HB1 := hide' B1
    clear b1 B1 hr1 HS
    go_wp2_with fail
    refine HT1.out.mono ?_
    rintro e w2 ⟨u0, u1, u2, u3, u4, rfl, B, hO2, hB2, b2⟩
    have hS2 := hide' (spec_ValKnown_any d w2.heap.size u0 u1 u2 u3 u4 v w2 (hO2.below (Below.refl _ _)) (Nat.le_refl _))
    have b12 := Below.on Hb1.out b2
    have B2 := hide' (Below.on HB1.out b2)
    clear HT1 Hb1 HB1 hO2 hB2 b2 y0 y1 y2 y3 y4
    go_wp2_with fail
    refine hS2.out.mono ?_
    rintro e w3 ⟨rfl, b3⟩
    have b13 := Below.on b12 b3
    have B3 := hide' (Below.on B2.out b3)
    obtain ⟨y0, y1, y2, y3, y4, _⟩ := row5 (Hbox.out _ _ b13)
    have HT3 := hide' (HT.out w3 B3.out)
    have Hb3 := hide' b13
    clear b12 b3 b13 B2 hS2
    go_wp2_with fail
    refine HT3.out.mono ?_
    rintro e w4 ⟨x0, x1, x2, x3, x4, rfl, B', hO4, hB4, b4⟩
    obtain ⟨xk, xn, s2, m2, q2, s3, m3, q3, s4, m4, q4, rfl, rfl, rfl, rfl, rfl⟩ := VOwn.form d hO4
    have b14 := Below.on Hb3.out b4
    have B4 := Below.on B3.out b4
    have bal : Below w4.heap.size w4 (w4.alloc (.cells #[.int .i64 xk, .int .i64 xn, .slice s2 m2 q2, .slice s3 m3 q3, .slice s4 m4 q4] 31)) := (Below.refl _ _).alloc (Nat.le_refl _) _
    have hI4 := hide' (impl_ValKnown_any d w4.heap.size _ _ _ _ _ v _ (hO4.below bal) bal.size)
    have HO4 := hide' hO4
    have HB4 := hide' B4
    have Hb4 := hide' b14
    have Hbal := hide' bal
    clear hO4 hB4 b4 b14 B4 bal HT3 B3 Hb3 y0 y1 y2 y3 y4
    go_wp2_with fail
    refine hI4.out.mono ?_
    rintro e w5 ⟨rfl, b5⟩
    have hx5 : w5.heap[w4.heap.size]? = some (.cells #[.int .i64 xk, .int .i64 xn, .slice s2 m2 q2, .slice s3 m3 q3, .slice s4 m4 q4] 31) := box_row b5
    have b15 := Below.on (Below.on Hb4.out Hbal.out) b5
    have b45 := Below.on Hbal.out b5
    have B5 := Below.on HB4.out b45
    have hz5 : w4.heap.size < w5.heap.size := (Array.getElem?_eq_some_iff.1 hx5).1
    obtain ⟨y0, y1, y2, y3, y4, _⟩ := row5 (Hbox.out _ _ b15)
    obtain ⟨v0, v1, v2, v3, v4, _⟩ := row5 hx5
    have HTd : Hid (Calls Try.prog 8 #[.agg #[.int .i64 ck, .int .i64 cn, .slice a2 l2 p2, .slice a3 l3 p3, .slice a4 l4 p4]] w5.drew fun e w6 => ∃ z0 z1 z2 z3 z4, e = .returned (.agg #[z0, z1, z2, z3, z4]) ∧
        (w6.cell? ⟨w4.heap.size, 0, none⟩ = some (.int .i64 xk) ∧ w6.cell? ⟨w4.heap.size, 1, none⟩ = some (.int .i64 xn) ∧ w6.cell? ⟨w4.heap.size, 2, none⟩ = some (.slice s2 m2 q2) ∧ w6.cell? ⟨w4.heap.size, 3, none⟩ = some (.slice s3 m3 q3) ∧ w6.cell? ⟨w4.heap.size, 4, none⟩ = some (.slice s4 m4 q4)) ∧
        Hid (Calls Try.prog 10 #[.agg #[.int .i64 xk, .int .i64 xn, .slice s2 m2 q2, .slice s3 m3 q3, .slice s4 m4 q4], .agg #[z0, z1, z2, z3, z4]] w6 fun e w7 => e = .returned (.bool true) ∧ Below w.heap.size w w7)) := by
      refine (HT.out w5.drew B5.drew).mono ?_
      rintro e w6 ⟨z0, z1, z2, z3, z4, rfl, B6, hO6, hB6, b6⟩
      have hx6 := (b6.block w4.heap.size hz5).trans hx5
      obtain ⟨f0, f1, f2, f3, f4, _⟩ := row5 hx6
      have b46 : Below w4.heap.size w4 w6 := Below.on b45.drew b6
      have B6' : Below w.heap.size w w6 := Below.on B5.drew b6
      refine ⟨z0, z1, z2, z3, z4, rfl, ⟨f0, f1, f2, f3, f4⟩, ?_⟩
      exact (HEq.out w6.heap.size (.int .i64 xk, .int .i64 xn, .slice s2 m2 q2, .slice s3 m3 q3, .slice s4 m4 q4) (z0, z1, z2, z3, z4) w6 (VSeg.mono (fun b hb => Nat.lt_of_lt_of_le hb b46.size) d (HO4.out.below b46)) (hO6.below (Below.refl _ _)) (Nat.le_refl _)).mono fun e w7 h => ⟨h.1, Below.on B6' h.2⟩
    have Hx5 := hide' hx5
    have Hb45 := hide' b45
    have HB5 := hide' B5
    clear hI4 hx5 b5 b15 b45 B5 Hbal HB4 Hb4
    generalize ansValKnown d v = ok at *
    go_wp2_with fail
    go_region_with (first
      | (go_at_call 8; refine HTd.out.mono ?_; rintro e w6 ⟨z0, z1, z2, z3, z4, rfl, ⟨f0, f1, f2, f3, f4⟩, hE6⟩)
      | (go_at_call 10; refine hE6.out.mono ?_; rintro e w7 ⟨rfl, B7⟩))
    all_goals
      go_wp2
      go_ret
      exact ⟨rfl, B7⟩
end Go.Proofs.Ytlhcfipfkodlfaa
