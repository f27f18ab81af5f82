/-
  Texts that a law leans on, one behind the other; no statement is proved here.
-/
import Derived.Test.YtenfnbnhdmkhkaaPk26
import Derived.Test.YtenfnbnhdmkhkaaPk18
import Derived.Deep.RegionHeld3
/-
  FnExactValCmp answers true, whatever two values it is handed; it makes new memory and turns nothing old.
-/
namespace Go.Proofs.Ytenfnbnhdmkhkaa
open Go.RowKit
set_option linter.unusedVariables false
set_option linter.unusedSimpArgs false

theorem okB_both {d : Nat} {v : Vl d} (h : okB d v = true) : goodB d v 1 = true ∧ partsV d v ≤ 40 := by
  unfold okB at h
  simp only [Bool.and_eq_true, decide_eq_true_eq] at h
  exact h

/-- What ValCmp answers. -/
def vcI (d : Nat) (a b : Vl d) : Int := if okB d a = true ∧ okB d b = true then cmpV d a b else 0
theorem vcI_no1 {d : Nat} {a b : Vl d} (h : okB d a = false) : vcI d a b = 0 := by simp [vcI, h]
theorem vcI_no2 {d : Nat} {a b : Vl d} (h : okB d b = false) : vcI d a b = 0 := by simp [vcI, h]
theorem vcI_yes {d : Nat} {a b : Vl d} (h : okB d a = true) (h' : okB d b = true) : vcI d a b = cmpV d a b := by simp [vcI, h, h']

theorem rows2 {w wx : World} {o o' : Obj} (h : Below ((w.alloc o).alloc o').heap.size ((w.alloc o).alloc o') wx) : wx.heap[w.heap.size]? = some o ∧ wx.heap[w.heap.size + 1]? = some o' := by
  obtain ⟨h1, h2⟩ := two_boxes w o o'
  have hz := size2 w o o'
  exact ⟨(h.block _ (by omega)).trans h1, (h.block _ (by omega)).trans h2⟩

theorem VOwn.at {w w' : World} {d : Nat} {c : Value × Value × Value × Value × Value} {v : Vl d} {B : List Nat} (h : VOwn w d c v B) (hb : Below w.heap.size w w') : VSeg (fun b => b < w.heap.size) w' d c v :=
  VSeg.agree (agree_below hb) d (VSeg.mono (fun b hb => VOwn.lt d h b hb) d (VOwn.seg d h))

set_option maxHeartbeats 3200000 in
theorem impl_ValCmp_any (d N : Nat) (c0 c1 c2 c3 c4 e0 e1 e2 e3 e4 : Value) (a b : Vl d) (w : World) (ha : VSeg (fun b => b < N) w d (c0, c1, c2, c3, c4) a) (hb : VSeg (fun b => b < N) w d (e0, e1, e2, e3, e4) b) (hN : N ≤ w.heap.size) :
    Calls Try.prog 8 #[.agg #[c0, c1, c2, c3, c4], .agg #[e0, e1, e2, e3, e4]] w fun e w' => e = .returned (.int .i64 (vcI d a b)) ∧ Below w.heap.size w w' := by
  have Hag : Hid (∀ wx, Below w.heap.size w wx → VSeg (fun b => b < N) wx d (c0, c1, c2, c3, c4) a ∧ VSeg (fun b => b < N) wx d (e0, e1, e2, e3, e4) b ∧ N ≤ wx.heap.size) := fun wx h => ⟨VSeg.agree (agree_below (h.mono hN)) d ha, VSeg.agree (agree_below (h.mono hN)) d hb, by have := h.size; omega⟩
  have Hb2 : Hid (∀ o o' : Obj, Below w.heap.size w ((w.alloc o).alloc o')) := fun o o' => ((Below.refl _ _).alloc (Nat.le_refl _) o).alloc (by simp) o'
  have Hr : Hid (∀ (o o' : Obj) (wx : World), Below ((w.alloc o).alloc o').heap.size ((w.alloc o).alloc o') wx → wx.heap[w.heap.size]? = some o ∧ wx.heap[w.heap.size + 1]? = some o') := fun o o' wx h => rows2 h
  have H1 : Hid (∀ wx, Below w.heap.size w wx → Calls Try.prog 26 #[.agg #[c0, c1, c2, c3, c4]] wx (PartEnd d a wx)) := fun wx h => partOf_any d N _ _ _ _ _ a wx (Hag.out wx h).1 (Hag.out wx h).2.2
  have H2 : Hid (∀ wx, Below w.heap.size w wx → Calls Try.prog 26 #[.agg #[e0, e1, e2, e3, e4]] wx (PartEnd d b wx)) := fun wx h => partOf_any d N _ _ _ _ _ b wx (Hag.out wx h).2.1 (Hag.out wx h).2.2
  clear ha hb Hag
  go_enter Try.func8, Try.ntmps8
  go_wp2_with fail
  refine (H1.out _ (Hb2.out _ _)).mono ?_
  rintro e w1 ⟨b1, hcase⟩
  have HB1 := hide' (Below.on (Hb2.out _ _) b1)
  obtain ⟨r1, r2⟩ := Hr.out _ _ _ b1
  obtain ⟨y0, y1, y2, y3, y4, _⟩ := row5 r2
  clear b1 r1 r2
  rcases hcase with ⟨p, rfl, h1, h2⟩ | ⟨rfl, h1⟩
  · have G1 := hide' h1
    have G2 := hide' h2
    clear h1 h2
    go_wp2_with fail
    refine (H2.out _ HB1.out).mono ?_
    rintro e w2 ⟨b2, hcase⟩
    have HB2 := hide' (Below.on HB1.out b2)
    rcases hcase with ⟨q, rfl, h1, h2⟩ | ⟨rfl, h1⟩
    · have HO := hide' (vcI_yes G1.out h1)
      have HF : Hid (Calls Try.prog 27 #[p, q] w2 fun e w' => e = .returned (.int .i64 (cmpV d a b)) ∧ Below w2.heap.size w2 w') :=
        cmpParts_any d w2.heap.size p q a b 1 1 w2 (PSeg.carry (fun b hb => Nat.lt_of_lt_of_le hb.2 b2.size) (fun b hb => b2.block b hb.2) d G2.out) (PSeg.carry (fun b hb => hb.2) (fun b _ => rfl) d h2) (Nat.le_refl _) (okB_both G1.out).1 (okB_both h1).1 (okB_both G1.out).2 (okB_both h1).2
      clear h1 h2 b2 y0 y1 y2 y3 y4
      go_wp2_with fail
      refine HF.out.mono ?_
      rintro e w3 ⟨rfl, b3⟩
      have B3 := Below.on HB2.out b3
      go_wp2
      go_ret
      exact ⟨ret_i64 (by rw [HO.out]), B3⟩
    · have HO := hide' (vcI_no2 (a := a) h1)
      clear h1 b2
      go_wp2
      go_ret
      exact ⟨ret_i64 (by rw [HO.out]), HB2.out⟩
  · have HO := hide' (vcI_no1 (b := b) h1)
    clear h1
    go_wp2_with fail
    refine (H2.out _ HB1.out).mono ?_
    rintro e w2 ⟨b2, hcase⟩
    have HB2 := hide' (Below.on HB1.out b2)
    rcases hcase with ⟨q, rfl, h1, h2⟩ | ⟨rfl, h1⟩
    · clear h1 h2 b2
      go_wp2
      go_ret
      exact ⟨ret_i64 (by rw [HO.out]), HB2.out⟩
    · clear h1 b2
      go_wp2
      go_ret
      exact ⟨ret_i64 (by rw [HO.out]), HB2.out⟩
end Go.Proofs.Ytenfnbnhdmkhkaa
