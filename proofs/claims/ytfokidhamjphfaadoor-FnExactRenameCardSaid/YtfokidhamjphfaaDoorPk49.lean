/-
  Texts that a law leans on, one behind the other; no statement is proved here.
-/
import Derived.Test.YtfokidhamjphfaaDoorPk32
import Derived.Test.YtfokidhamjphfaaDoorPk48
import Derived.Test.YtfokidhamjphfaaDoorRows
import Derived.Test.YtfokidhamjphfaaDoorPk46
import Derived.Lib.LaidTab
import Derived.MakeChecks
import Derived.Test.YtfokidhamjphfaaDoorPk47
/-
  heldValue: what markValue has written is found.
-/
namespace Go.Proofs.YtfokidhamjphfaaDoor
open Go.RowKit
set_option linter.unusedVariables false
set_option linter.unusedSimpArgs false

set_option maxHeartbeats 3200000 in
theorem heldValue_any (d N : Nat) (c0 c1 c2 c3 c4 : Value) (v : Vl (d + 1)) (m : Nat) (w : World) (h : VSeg (fun b => b < N) w (d + 1) (c0, c1, c2, c3, c4) (mkV d v m)) (hN : N ≤ w.heap.size) (hs : szV (d + 1) v ≤ 1048576) (hm : m + cV d v ≤ 1125899906842624) :
    Calls Tryd.prog 21 #[.agg #[c0, c1, c2, c3, c4], .int .i64 m] w fun e w' => e = .returned (.int .i64 ((m + cV d v : Nat) : Int)) ∧ Below w.heap.size w w' := by
  obtain ⟨vk, vn, vS, vK, vL⟩ := v
  have hz' : szV (d + 1) (vk, vn, vS, vK, vL) = szT vS + szK vK + szL d vL := rfl
  have hT' : szT vS = vS.length := rfl
  have hc' : cV d (vk, vn, vS, vK, vL) = vS.length + (vK.map List.length).sum + (vL.map (cE d)).sum := rfl
  obtain ⟨e0, e1, hT, hK, hL⟩ := h
  simp only [mkV] at e0 e1 hT hK hL
  have hL' : LSeg (fun b => b < N) w d c4 (mkLs (mkE d) (cE d) vL (m + vS.length + (vK.map List.length).sum)) := hL
  obtain ⟨sa, sc, e2, hSg, _, _, _, hR⟩ := hT
  rw [length_marks] at e2
  subst e2
  have hkf : ∃ ka kn kc, c3 = .slice ka kn kc := by obtain ⟨a, c, e, _⟩ := hK; exact ⟨_, _, _, e⟩
  obtain ⟨ka, kn, kc, rfl⟩ := hkf
  have hlf : ∃ la ln lc, c4 = .slice la ln lc := by obtain ⟨a, c, e, _⟩ := hL; exact ⟨_, _, _, e⟩
  obtain ⟨la, ln, lc, rfl⟩ := hlf
  have hal : ∀ o : Obj, Below w.heap.size w (w.alloc o) := fun o => (Below.refl _ _).alloc (Nat.le_refl _) o
  have Hal := hide' hal
  have Hbox : Hid (∀ o wx, Below (w.alloc o).heap.size (w.alloc o) wx → wx.heap[w.heap.size]? = some o) := fun o wx h => (h.block w.heap.size (by simp)).trans (MapKept.heap_alloc w o).1
  have H1 : Hid (∀ wx, Below w.heap.size w wx → Calls Tryd.prog 44 #[.slice sa vS.length sc, .int .i64 m] wx fun e w' => e = .returned (.int .i64 ((m : Int) + vS.length)) ∧ Below wx.heap.size wx w') := by
    intro wx hb
    refine (heldByteS_any sa sc m vS.length wx (hSg.below hb fun x hx hne => Nat.lt_of_lt_of_le (hR x hx hne) hN) (by omega) (by omega)).mono ?_
    rintro e w' ⟨rfl, h⟩
    exact ⟨ret_i64 (by push_cast; rfl), h⟩
  have H2 : Hid (∀ wx, Below w.heap.size w wx → Calls Tryd.prog 45 #[.slice ka kn kc, .int .i64 ((m : Int) + vS.length)] wx fun e w' => e = .returned (.int .i64 ((m : Int) + vS.length + (vK.map List.length).sum)) ∧ Below wx.heap.size wx w') := by
    intro wx hb
    refine arg_eq (x := ((m + vS.length : Nat) : Int)) (by push_cast; rfl) ((heldByteSS_any N _ vK (m + vS.length) wx (hK.agree (agree_below (hb.mono hN))) (by have := hb.size; omega) (by omega) (by omega)).mono ?_)
    rintro e w' ⟨rfl, h⟩
    exact ⟨ret_i64 (by push_cast; rfl), h⟩
  have H3 : Hid (∀ wx, Below w.heap.size w wx → Calls Tryd.prog 46 #[.slice la ln lc, .int .i64 ((m : Int) + vS.length + (vK.map List.length).sum)] wx fun e w' => e = .returned (.int .i64 ((m : Int) + vS.length + (vK.map List.length).sum + (vL.map (cE d)).sum)) ∧ Below wx.heap.size wx w') := by
    intro wx hb
    refine arg_eq (x := ((m + vS.length + (vK.map List.length).sum : Nat) : Int)) (by push_cast; rfl) ((heldValueS_any d N _ vL (m + vS.length + (vK.map List.length).sum) wx (hL'.agree (agree_below (hb.mono hN))) (by have := hb.size; omega) (by omega) (by omega)).mono ?_)
    rintro e w' ⟨rfl, h⟩
    exact ⟨ret_i64 (by push_cast; rfl), h⟩
  have HO : Hid (m + cV d (vk, vn, vS, vK, vL) = m + vS.length + (vK.map List.length).sum + (vL.map (cE d)).sum) := by show m + cV d (vk, vn, vS, vK, vL) = _; omega
  generalize cV d (vk, vn, vS, vK, vL) = tot at *
  clear hSg hR hK hL hL' hal hz' hT' hc' hs
  generalize (vK.map List.length).sum = nK at *
  generalize (vL.map (cE d)).sum = nL at *
  generalize vS.length = nS at *
  have hbig : m + nS + nK + nL ≤ 1125899906842624 := by have := HO.out; omega
  go_enter Tryd.func21, Tryd.ntmps21
  go_wp2_with fail
  refine (H1.out _ (Hal.out _)).mono ?_
  rintro e w1 ⟨rfl, b1⟩
  obtain ⟨_, _, _, y3, y4, _⟩ := row5 (Hbox.out _ _ b1)
  have h2 := hide' (H2.out _ (Below.on (Hal.out _) b1))
  have Hb1 := hide' b1
  clear b1 H1
  go_wp2_with fail
  refine h2.out.mono ?_
  rintro e w2 ⟨rfl, b2⟩
  have b12 := Below.on Hb1.out b2
  clear y3 y4
  obtain ⟨_, _, _, y3, y4, _⟩ := row5 (Hbox.out _ _ b12)
  have h3 := hide' (H3.out _ (Below.on (Hal.out _) b12))
  have Hb2 := hide' b12
  clear b12 b2 H2 h2 Hb1
  go_wp2_with fail
  refine h3.out.mono ?_
  rintro e w3 ⟨rfl, b3⟩
  have B3 := hide' (Below.on (Hal.out _) (Below.on Hb2.out b3))
  clear b3
  go_wp2
  go_ret
  exact ⟨by rw [HO.out]; push_cast; rfl, B3.out⟩
end Go.Proofs.YtfokidhamjphfaaDoor
/-
  What the row lists of the table of shapes: its cells.
-/
namespace Go.Proofs.YtfokidhamjphfaaDoor
open Go.RowKit
set_option linter.unusedVariables false
set_option linter.unusedSimpArgs false
set_option maxRecDepth 100000

/-- A shape as the row lists it. -/
def shpF {H : Type} (i : Nat) : DataW H := .agg [.lit (.int .i64 (mostI i)), .lit (.int .i64 (saysI i)), .lit (.bool (decide (i = 5))), .lit (.int .i64 (arI i))]

theorem shapes_eq : (Rows.laid_loop_example_g00407_impl_shapes : DataW Unit) = .agg ((List.range 24).map shpF) := by kernel_rfl

theorem cellsShp : Tryd.prog.cellsOf 85 = 4 := by kernel_rfl
theorem cellsShps : Tryd.prog.cellsOf 86 = 96 := by kernel_rfl
theorem cells3 : Tryd.prog.cellsOf 3 = 1 := by kernel_rfl
theorem cells4 : Tryd.prog.cellsOf 4 = 1 := by kernel_rfl

theorem shp_row {H : Type} {enc : TypeId × Value → H} {w : World} {base : Nat} {sp : Nat → Bool} {held : Bool} {fuel : Nat} {cs : List Value} {i : Nat} {p : List MemPlace} (h : DataW.trod enc Tryd.prog w base sp held fuel 85 cs = some (shpF i, p)) :
    cs = [.int .i64 (mostI i), .int .i64 (saysI i), .bool (decide (i = 5)), .int .i64 (arI i)] := by
  cases fuel with
  | zero => simp [DataW.trod] at h
  | succ fuel =>
    unfold DataW.trod at h
    rw [Tryd.underlying85] at h
    simp only [cellsShp] at h
    split at h
    · next hlen =>
      match cs, hlen with
      | [c0, c1, c2, c3], _ =>
        simp [cells3, cells4, List.mapM_cons, Option.bind_eq_some_iff] at h
        obtain ⟨a0, b0, h0, _, ⟨a1, b1, h1, _, ⟨a2, b2, h2, _, ⟨a3, b3, h3, rfl⟩, rfl⟩, rfl⟩, hE, _⟩ := h
        obtain ⟨n0, e0, x0, _⟩ := DataW.trod_int Tryd.underlying3 h0
        obtain ⟨n1, e1, x1, _⟩ := DataW.trod_int Tryd.underlying3 h1
        obtain ⟨n2, e2, x2⟩ := DataW.trod_bool Tryd.underlying4 h2
        obtain ⟨n3, e3, x3, _⟩ := DataW.trod_int Tryd.underlying3 h3
        simp at e0 e1 e2 e3 x0 x1 x2 x3
        obtain ⟨rfl, _⟩ := x0
        obtain ⟨rfl, _⟩ := x1
        obtain ⟨rfl, _⟩ := x2
        obtain ⟨rfl, _⟩ := x3
        simp [shpF] at hE
        obtain ⟨f0, f1, f2, f3⟩ := hE
        rw [e0, e1, e2, e3, f0, f1, f2, f3]
    · simp at h

theorem shpT_of_laid {r : List (String × DataW Unit)} {w : World} (h : laidMet Tryd.prog (("loop.example/g00407/impl.shapes", Rows.laid_loop_example_g00407_impl_shapes) :: r) w) : ShpT w := by
  obtain ⟨ps, ⟨g', t', cs, fuel, p, q, hg', ht', hvar, hd, _, _⟩, _⟩ := h
  have hg : Tryd.prog.globalNamed "loop.example/g00407/impl.shapes" = some 0 := by kernel_rfl
  have hty : (Tryd.prog.globals[0]?).map (·.type) = some 86 := by kernel_rfl
  obtain rfl := Option.some.inj (hg.symm.trans hg')
  obtain rfl := Option.some.inj (hty.symm.trans ht')
  rw [shapes_eq] at hd
  cases fuel with
  | zero => simp [DataW.trod] at hd
  | succ fuel =>
    unfold DataW.trod at hd
    rw [Tryd.underlying86] at hd
    simp only [cellsShp, cellsShps] at hd
    split at hd
    · rename_i hl
      obtain ⟨xs, hm, hx⟩ := Option.map_eq_some_iff.1 hd
      have hxs : xs.map (·.1) = (List.range 24).map shpF := by
        have := congrArg Prod.fst hx
        simpa using this
      intro k hk
      obtain ⟨b, hb, hf⟩ := Lib.mapM_at hm k k (by simp [hk])
      have h2 : (xs.map (·.1))[k]? = some (shpF k : DataW Unit) := by rw [hxs]; simp [hk]
      have h3 : b.1 = shpF k := by simpa [hb] using h2
      obtain ⟨b1, b2⟩ := b
      simp only at h3
      subst h3
      have hrow := shp_row hf
      have hc : ∀ j, j < 4 → w.cell? ⟨0, k * 4 + j, none⟩ = [.int .i64 (mostI k), .int .i64 (saysI k), .bool (decide (k = 5)), .int .i64 (arI k)][j]? := by
        intro j hj
        rw [World.var?_cell hg hvar, ← hrow]
        simp [List.getElem?_take, List.getElem?_drop, hj]
      exact ⟨hc 0 (by omega), hc 1 (by omega), hc 2 (by omega), hc 3 (by omega)⟩
    · simp at hd
end Go.Proofs.YtfokidhamjphfaaDoor
/-
  ExprOk of the program, at every expression.
-/
namespace Go.Proofs.YtfokidhamjphfaaDoor
open Go.RowKit
set_option linter.unusedVariables false
set_option linter.unusedSimpArgs false

set_option maxHeartbeats 1600000 in
theorem impl_ExprOk_any (d N : Nat) (c0 c1 c2 c3 c4 : Value) (v : Vl d) (w : World) (hv : VSeg (fun b => b < N) w d (c0, c1, c2, c3, c4) v) (hN : N ≤ w.heap.size) (hT : ShpT w) (hgN : 0 < N) :
    Calls Tryd.prog 26 #[.agg #[c0, c1, c2, c3, c4]] w fun e w' => e = .returned (.bool (exprB d v)) ∧ Below w.heap.size w w' := by
  have b0 : ∀ o o' : Obj, Below w.heap.size w ((w.alloc o).alloc o') := fun o o' => ((Below.refl _ _).alloc (Nat.le_refl _) o).alloc (by simp) o'
  have HC : Hid (∀ o : Obj, Calls Tryd.prog 29 #[.pointer (some ⟨w.heap.size + 1, 0, none⟩), .agg #[c0, c1, c2, c3, c4], .int .i64 1] ((w.alloc o).alloc (.cells #[.int .i64 0] 55)) fun e w' =>
      ((w.alloc o).alloc (.cells #[.int .i64 0] 55)).grownBy w' (some (w.heap.size + 1)) ∧ ((e = .returned (.bool true) ∧ goodE d v 1 = true ∧ 0 + partsE d v ≤ 150 ∧ ECnt w' (w.heap.size + 1) (0 + partsE d v)) ∨ (e = .returned (.bool false) ∧ ¬ (goodE d v 1 = true ∧ 0 + partsE d v ≤ 150)))) := fun o =>
    takes_any d N (w.heap.size + 1) 0 (c0, c1, c2, c3, c4) v 1 ((w.alloc o).alloc (.cells #[.int .i64 0] 55)) (VSeg.agree (agree_below ((b0 o _).mono hN)) d hv) (by omega) (by rw [size2]; omega) (two_boxes w o _).2 (hT.below (b0 o _)) hgN (by omega) (by omega)
  have Hb := hide' b0
  have hsz := fun o o' => size2 w o o'
  have Hsz := hide' hsz
  clear b0 hsz hT
  go_enter Tryd.func26, Tryd.ntmps26
  go_wp2_with fail
  refine (HC.out _).mono ?_
  rintro e w1 ⟨hg1, hcase⟩
  have hB1 := (Hb.out _ _).grown hg1 (by rw [Hsz.out]; omega) (by intro j hj; simp at hj; omega)
  rcases hcase with ⟨rfl, h1, h2, h3⟩ | ⟨rfl, hno⟩
  · have hE : Hid (exprB d v = true) := by
      show exprB d v = true
      simp [exprB, h1]
      omega
    clear h1 h2 h3 hg1
    go_wp2
    go_ret
    exact ⟨ret_bool hE.out.symm, hB1⟩
  · have hE : Hid (exprB d v = false) := by
      show exprB d v = false
      cases h : exprB d v with
      | false => rfl
      | true => simp [exprB] at h; exact absurd ⟨h.1, by omega⟩ hno
    clear hno hg1
    go_wp2
    go_ret
    exact ⟨ret_bool hE.out.symm, hB1⟩
end Go.Proofs.YtfokidhamjphfaaDoor
