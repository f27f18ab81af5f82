/-
  Texts that a law leans on, one behind the other; no statement is proved here.
-/
import Derived.Test.YteafpgaefphkfaaGreatDoorPk27
import Derived.Test.YteafpgaefphkfaaGreatDoorPk24
import Derived.Test.YteafpgaefphkfaaGreatDoorPk25
/-
  ValBytes of the specification: l2put of whatever value, ValBytes.
-/
namespace Go.Proofs.YteafpgaefphkfaaGreatDoor
open Go.RowKit
set_option linter.unusedVariables false
set_option linter.unusedSimpArgs false

theorem shape_kinds {vk vn : Int} {vs : List Int} {vK : List (List Int)} {n : Nat} (h : shapeB vk vn vs vK n = true) :
    vs.length ≤ 20 ∧ ((vk = 0 ∨ vk = 6 ∨ vk = 1 ∨ vk = 3) ∨ (vk = 2 ∧ -1000000000000 ≤ vn ∧ vn ≤ 1000000000000) ∨ (vk = 4 ∧ vK.length = 0) ∨ (vk = 5 ∧ vK.length = n ∧ ascB vK = true)) := by
  unfold shapeB bareB intB at h
  simp only [Bool.and_eq_true, Bool.or_eq_true, decide_eq_true_eq] at h
  obtain ⟨⟨⟨⟨h1, h2⟩, h3⟩, h4⟩, h5⟩ := h
  have htx : textB vs = true → vs.length ≤ 20 := fun ht => by
    unfold textB at ht
    simp only [Bool.and_eq_true, decide_eq_true_eq] at ht
    exact ht.1
  rcases h5 with (((((h5 | h5) | h5) | h5) | h5) | h5) | h5
  · exact ⟨by omega, .inl (.inl h5)⟩
  · exact ⟨by omega, .inl (.inr (.inl h5))⟩
  · exact ⟨by omega, .inl (.inr (.inr (.inl h5.1)))⟩
  · exact ⟨by omega, .inr (.inl ⟨h5.1, h5.2.1, h5.2.2⟩)⟩
  · exact ⟨htx h5.2, .inl (.inr (.inr (.inr h5.1)))⟩
  · exact ⟨by omega, .inr (.inr (.inl ⟨h5, by omega⟩))⟩
  · exact ⟨by omega, .inr (.inr (.inr ⟨h5.1, h5.2.1, h5.2.2⟩))⟩

theorem asc_short {vK : List (List Int)} (h : ascB vK = true) (j : Nat) (hj : j < vK.length) : (vK.getD j []).length ≤ 8 := by
  have h1 := ascB_at h hj
  unfold stepB nameB at h1
  simp only [Bool.and_eq_true, decide_eq_true_eq] at h1
  exact h1.1.1.2

theorem l2put_succ (d : Nat) (ih : SByAt d) : SByAt (d + 1) := by
  intro N a cap xs c v deep w hv hN hs ka hg hlen
  obtain ⟨c0, c1, c2, c3, c4⟩ := c
  obtain ⟨vk, vn, vs, vK, vL⟩ := v
  obtain ⟨_, hsh, hkids⟩ := (good_succ _ _ _ _ _ _ _).1 hg
  obtain ⟨hvs, hk⟩ := shape_kinds hsh
  obtain ⟨e0, e1, ht, hK, hl⟩ := (VSeg_succ _ _ _ _ _).1 hv
  simp only at e0 e1 ht hK hl
  subst e0
  subst e1
  have hp := parts_succ d vk vn vs vK vL
  rw [hp] at hlen
  have hl' := hl
  have hK' := hK
  obtain ⟨a2, p2, rfl, s2, l2, m2, k2, r2⟩ := ht
  obtain ⟨a3, p3, rfl, _⟩ := hK
  obtain ⟨a4, p4, rfl, hlc4, hcm4, _⟩ := hl
  unfold maxLen at hcm4
  rcases hk with hk | ⟨rfl, hlo, hhi⟩ | ⟨rfl, h0⟩ | ⟨rfl, h1, h2⟩
  · exact l2put_leaf d N a cap xs vk vn vs vK vL a2 p2 _ _ w hs ka (by omega) s2 k2 (by omega) ⟨_, _, _, rfl⟩ ⟨_, _, _, rfl⟩ hk
  · exact l2put_int d N a cap xs vn vs vK vL a2 p2 _ _ w hs ka (by omega) s2 k2 (by omega) ⟨_, _, _, rfl⟩ ⟨_, _, _, rfl⟩ hlo hhi
  · exact l2put_list d ih N a cap xs vn vs vK vL a2 _ p2 a3 p3 a4 p4 (deep + 1) w hN hs ka hl' hK' trivial (fun j hj => by omega) hkids (by omega) hlen
  · exact l2put_map d ih N a cap xs vn vs vK vL a2 _ p2 a3 p3 a4 p4 (deep + 1) w hN hs ka hl' hK' h1 (fun j hj => by have := asc_short h2 j hj; omega) hkids (by omega) hlen

theorem l2put_any (d : Nat) : SByAt d := by
  induction d with
  | zero => intro N a cap xs c v deep w hv; exact hv.elim
  | succ d ih => exact l2put_succ d ih

theorem okB_parts {d : Nat} {v : Vl d} (h : okB d v = true) : goodB d v 1 = true ∧ partsV d v ≤ 40 := by
  unfold okB at h
  simp only [Bool.and_eq_true, decide_eq_true_eq] at h
  exact h

/-- What ValBytes has answered. -/
def ByEnd (d : Nat) (v : Vl d) (w : World) (e : Ending) (w' : World) : Prop := ∃ a n c, e = .returned (.tuple #[.slice a n c, .bool (okB d v)]) ∧ Bts w' w.heap.size (.slice a n c) (valBytes d v) ∧ Below w.heap.size w w'

set_option maxHeartbeats 1600000 in
set_option maxRecDepth 100000 in
theorem spec_ValBytes_any (d N : Nat) (c0 c1 c2 c3 c4 : Value) (v : Vl d) (w : World) (hv : VSeg (fun b => b < N) w d (c0, c1, c2, c3, c4) v) (hN : N ≤ w.heap.size) :
    Calls Tryz.prog 31 #[.agg #[c0, c1, c2, c3, c4]] w (ByEnd d v w) := by
  have b0 : ∀ o : Obj, Below w.heap.size w (w.alloc o) := fun o => (Below.refl _ _).alloc (Nat.le_refl _) o
  have Hb := hide' b0
  have HC : Hid (∀ wx, Below w.heap.size w wx → Calls Tryz.prog 12 #[.agg #[c0, c1, c2, c3, c4]] wx fun e w' => e = .returned (.bool (okB d v)) ∧ Below wx.heap.size wx w') := fun wx hb =>
    spec_ValOk_any d N c0 c1 c2 c3 c4 v wx (VSeg.agree (agree_below (hb.mono hN)) d hv) (by have := hb.size; omega)
  have HP : Hid (okB d v = true → ∀ wx, Below w.heap.size w wx → Calls Tryz.prog 47 #[.slice none 0 0, .agg #[c0, c1, c2, c3, c4]] wx fun e w' => ∃ a n c, e = .returned (.slice a n c) ∧ Bts w' wx.heap.size (.slice a n c) (valBytes d v) ∧ Below wx.heap.size wx w') := fun hok wx hb => by
    obtain ⟨h1, h2⟩ := okB_parts hok
    refine (l2put_any d N none 0 [] (c0, c1, c2, c3, c4) v 1 wx (VSeg.agree (agree_below (hb.mono hN)) d hv) (by have := hb.size; omega) ⟨by simp, .inl rfl⟩ (fun _ => rfl) h1 (by simp; omega)).mono ?_
    rintro e w' ⟨u, rfl, hB, hbw⟩
    obtain ⟨a, c, rfl, _⟩ := hB.shape
    exact ⟨a, _, c, rfl, by rw [valBytes, if_pos hok]; exact hB, hbw⟩
  obtain ⟨vk, vn, a2, l2, p2, a3, l3, p3, a4, l4, p4, rfl, rfl, rfl, rfl, rfl⟩ := VSeg.form d hv
  clear hv b0
  cases hok : okB d v with
  | true =>
    have HP2 := hide' (HP.out hok)
    rw [hok] at HC
    go_enter Tryz.func31, Tryz.ntmps31
    go_wp2_with fail
    refine (HC.out _ (Hb.out _)).mono ?_
    rintro e w1 ⟨rfl, b1⟩
    obtain ⟨y0, y1, y2, y3, y4, _⟩ := row5 (box_row b1)
    have B1 := Below.on (Hb.out _) b1
    clear b1
    go_wp2_with fail
    refine (HP2.out _ B1).mono ?_
    rintro e w2 ⟨a, n, c, rfl, hB, b2⟩
    have B2 := Below.on B1 b2
    have HB := hide' (hB.mono (base' := w.heap.size) B1.size)
    clear b2 hB
    go_wp2
    go_ret2
    exact ⟨a, n, c, by rw [hok]; rfl, HB.out, B2⟩
  | false =>
    rw [hok] at HC
    go_enter Tryz.func31, Tryz.ntmps31
    go_wp2_with fail
    refine (HC.out _ (Hb.out _)).mono ?_
    rintro e w1 ⟨rfl, b1⟩
    have B1 := Below.on (Hb.out _) b1
    clear b1
    go_wp2
    go_ret2
    exact ⟨none, 0, 0, by rw [hok]; rfl, by rw [valBytes, hok]; exact bts_nil _ _, B1⟩
end Go.Proofs.YteafpgaefphkfaaGreatDoor
/-
  The look-up of a key in a map of parts, as the program runs it; no statement is proved here.
-/
namespace Go.Proofs.YteafpgaefphkfaaGreatDoor
open Go.RowKit
set_option linter.unusedVariables false
set_option linter.unusedSimpArgs false

theorem zero_part (w : World) : (zeroValue 55).run Tryz.prog w = .ok .nilIface w := by kernel_rfl

end Go.Proofs.YteafpgaefphkfaaGreatDoor
