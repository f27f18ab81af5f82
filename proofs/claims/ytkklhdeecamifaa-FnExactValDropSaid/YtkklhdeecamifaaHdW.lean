/-
  heldValue: what markValue has written is found.
-/
import Derived.Test.YtkklhdeecamifaaMkW
import Derived.Test.YtkklhdeecamifaaHdV
namespace Go.Proofs.Ytkklhdeecamifaa
open Go.RowKit
set_option linter.unusedVariables false
set_option linter.unusedSimpArgs false

set_option maxHeartbeats 3200000 in
theorem heldValue_any (d N : Nat) (c0 c1 c2 c3 c4 : Value) (v : Vl (d + 1)) (m : Nat) (w : World) (h : VSeg (fun b => b < N) w (d + 1) (c0, c1, c2, c3, c4) (mkV d v m)) (hN : N ≤ w.heap.size) (hs : szV (d + 1) v ≤ 1048576) (hm : m + cV d v ≤ 16777216) :
    Calls Try.prog 16 #[.agg #[c0, c1, c2, c3, c4], .int .i64 m] w fun e w' => e = .returned (.int .i64 ((m + cV d v : Nat) : Int)) ∧ Below w.heap.size w w' := by
  obtain ⟨vk, vn, vS, vK, vL⟩ := v
  have hz' : szV (d + 1) (vk, vn, vS, vK, vL) = szT vS + szK vK + szL d vL := rfl
  have hT' : szT vS = vS.length := rfl
  have hc' : cV d (vk, vn, vS, vK, vL) = vS.length + (vK.map List.length).sum + (vL.map (cE d)).sum := rfl
  obtain ⟨e0, e1, hT, hK, hL⟩ := h
  simp only [mkV] at e0 e1 hT hK hL
  have hL' : LSeg (fun b => b < N) w d c4 (mkLs (mkE d) (cE d) vL (m + vS.length + (vK.map List.length).sum)) := hL
  obtain ⟨sa, sc, e2, hSg, _, _, _, hR⟩ := hT
  rw [length_marks] at e2
  subst e2
  have hkf : ∃ ka kn kc, c3 = .slice ka kn kc := by obtain ⟨a, c, e, _⟩ := hK; exact ⟨_, _, _, e⟩
  obtain ⟨ka, kn, kc, rfl⟩ := hkf
  have hlf : ∃ la ln lc, c4 = .slice la ln lc := by obtain ⟨a, c, e, _⟩ := hL; exact ⟨_, _, _, e⟩
  obtain ⟨la, ln, lc, rfl⟩ := hlf
  have hal : ∀ o : Obj, Below w.heap.size w (w.alloc o) := fun o => (Below.refl _ _).alloc (Nat.le_refl _) o
  have Hal := hide' hal
  have Hbox : Hid (∀ o wx, Below (w.alloc o).heap.size (w.alloc o) wx → wx.heap[w.heap.size]? = some o) := fun o wx h => (h.block w.heap.size (by simp)).trans (MapKept.heap_alloc w o).1
  have H1 : Hid (∀ wx, Below w.heap.size w wx → Calls Try.prog 37 #[.slice sa vS.length sc, .int .i64 m] wx fun e w' => e = .returned (.int .i64 ((m : Int) + vS.length)) ∧ Below wx.heap.size wx w') := by
    intro wx hb
    refine (heldByteS_any sa sc m vS.length wx (hSg.below hb fun x hx hne => Nat.lt_of_lt_of_le (hR x hx hne) hN) (by omega) (by omega)).mono ?_
    rintro e w' ⟨rfl, h⟩
    exact ⟨ret_i64 (by push_cast; rfl), h⟩
  have H2 : Hid (∀ wx, Below w.heap.size w wx → Calls Try.prog 38 #[.slice ka kn kc, .int .i64 ((m : Int) + vS.length)] wx fun e w' => e = .returned (.int .i64 ((m : Int) + vS.length + (vK.map List.length).sum)) ∧ Below wx.heap.size wx w') := by
    intro wx hb
    refine arg_eq (x := ((m + vS.length : Nat) : Int)) (by push_cast; rfl) ((heldByteSS_any N _ vK (m + vS.length) wx (hK.agree (agree_below (hb.mono hN))) (by have := hb.size; omega) (by omega) (by omega)).mono ?_)
    rintro e w' ⟨rfl, h⟩
    exact ⟨ret_i64 (by push_cast; rfl), h⟩
  have H3 : Hid (∀ wx, Below w.heap.size w wx → Calls Try.prog 39 #[.slice la ln lc, .int .i64 ((m : Int) + vS.length + (vK.map List.length).sum)] wx fun e w' => e = .returned (.int .i64 ((m : Int) + vS.length + (vK.map List.length).sum + (vL.map (cE d)).sum)) ∧ Below wx.heap.size wx w') := by
    intro wx hb
    refine arg_eq (x := ((m + vS.length + (vK.map List.length).sum : Nat) : Int)) (by push_cast; rfl) ((heldValueS_any d N _ vL (m + vS.length + (vK.map List.length).sum) wx (hL'.agree (agree_below (hb.mono hN))) (by have := hb.size; omega) (by omega) (by omega)).mono ?_)
    rintro e w' ⟨rfl, h⟩
    exact ⟨ret_i64 (by push_cast; rfl), h⟩
  have HO : Hid (m + cV d (vk, vn, vS, vK, vL) = m + vS.length + (vK.map List.length).sum + (vL.map (cE d)).sum) := by show m + cV d (vk, vn, vS, vK, vL) = _; omega
  generalize cV d (vk, vn, vS, vK, vL) = tot at *
  clear hSg hR hK hL hL' hal hz' hT' hc' hs
  generalize (vK.map List.length).sum = nK at *
  generalize (vL.map (cE d)).sum = nL at *
  generalize vS.length = nS at *
  have hbig : m + nS + nK + nL ≤ 16777216 := by have := HO.out; omega
  go_enter Try.func16, Try.ntmps16
  go_wp2_with fail
  refine (H1.out _ (Hal.out _)).mono ?_
  rintro e w1 ⟨rfl, b1⟩
  obtain ⟨_, _, _, y3, y4, _⟩ := row5 (Hbox.out _ _ b1)
  have h2 := hide' (H2.out _ (Below.on (Hal.out _) b1))
  have Hb1 := hide' b1
  clear b1 H1
  go_wp2_with fail
  refine h2.out.mono ?_
  rintro e w2 ⟨rfl, b2⟩
  have b12 := Below.on Hb1.out b2
  clear y3 y4
  obtain ⟨_, _, _, y3, y4, _⟩ := row5 (Hbox.out _ _ b12)
  have h3 := hide' (H3.out _ (Below.on (Hal.out _) b12))
  have Hb2 := hide' b12
  clear b12 b2 H2 h2 Hb1
  go_wp2_with fail
  refine h3.out.mono ?_
  rintro e w3 ⟨rfl, b3⟩
  have B3 := hide' (Below.on (Hal.out _) (Below.on Hb2.out b3))
  clear b3
  go_wp2
  go_ret
  exact ⟨by rw [HO.out]; push_cast; rfl, B3.out⟩
end Go.Proofs.Ytkklhdeecamifaa
