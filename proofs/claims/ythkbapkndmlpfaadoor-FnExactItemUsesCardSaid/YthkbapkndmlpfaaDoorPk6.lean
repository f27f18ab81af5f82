/-
  Texts that a law leans on, one behind the other; no statement is proved here.
-/
import Derived.Test.YthkbapkndmlpfaaDoorPk5
import Derived.Test.YthkbapkndmlpfaaDoorPk3
import Derived.Deep.Light
/-
  l6item of the specification, where the head of an item is wrong.
-/
namespace Go.Proofs.YthkbapkndmlpfaaDoor
open Go.RowKit
set_option linter.unusedVariables false
set_option linter.unusedSimpArgs false

set_option maxHeartbeats 6400000 in
set_option maxRecDepth 100000 in
theorem l6item_head (d N : Nat) (cs : List Value) (it : Itm d) (left : Int) (w : World) (h : ISeg (fun b => b < N) w d cs it) (hN : N ≤ w.heap.size) (hno : headB d it = false ∨ (it.2.2.1 = 0 ∧ zeroE d it.2.2.2.1 = false)) :
    Calls Tryd.prog 19 #[.agg cs.toArray, .int .i64 left] w fun e w' => e = .returned (.int .i64 (-1)) ∧ Below w.heap.size w w' := by
  obtain ⟨na, np, bk, bn, a2, l2, p2, a3, l3, p3, a4, l4, p4, xa, xp, ea, ep, rfl, ht, hv, hk, hl⟩ := h.form
  obtain ⟨k, nm, mn, by', ks, es⟩ := it
  simp only [headB] at ht hv hk hl hno ⊢
  have Hb : Hid (∀ o : Obj, Below w.heap.size w (w.alloc o)) := fun o => (Below.refl _ _).alloc (Nat.le_refl _) o
  have HW : Hid (∀ o : Obj, Calls Tryd.prog 42 #[.slice na nm.length np] (w.alloc o) fun e w' => e = .returned (.bool (wordB nm)) ∧ Below (w.alloc o).heap.size (w.alloc o) w') := fun o => by
    have ht' := ht.agree (w' := w.alloc o) (agree_below ((Hb.out o).mono hN))
    obtain ⟨_, _, e1, s1, _, m1, _⟩ := ht'
    simp at e1
    obtain ⟨rfl, _⟩ := e1
    exact spec_l6free_any na np nm (w.alloc o) s1 (by omega)
  have HZ : Hid (∀ wx, Below w.heap.size w wx → Calls Tryd.prog 43 #[.agg #[.int .i64 bk, .int .i64 bn, .slice a2 l2 p2, .slice a3 l3 p3, .slice a4 l4 p4]] wx fun e w' => e = .returned (.bool (zeroE d by')) ∧ Below wx.heap.size wx w') := fun wx hb =>
    l6zero_any d N _ _ _ _ _ by' wx (VSeg.agree (agree_below (hb.mono hN)) d hv)
  have Hbox : Hid (∀ o wx, Below (w.alloc o).heap.size (w.alloc o) wx → wx.heap[w.heap.size]? = some o) := fun o wx h => box_row h
  have mk : ks.length ≤ 9223372036854775807 := by obtain ⟨_, _, e, q, m, _⟩ := hk; unfold maxLen at m; omega
  have me : es.length ≤ 9223372036854775807 := by obtain ⟨_, _, e, q, m, _⟩ := hl; unfold maxLen at m; omega
  clear ht hv hk hl h
  generalize wordB nm = wd at *
  generalize zeroE d by' = zr at *
  generalize nm.length = s0 at *
  generalize ks.length = kl at *
  generalize es.length = el at *
  by_cases c0 : k < 0
  · go_enter Tryd.func19, Tryd.ntmps19
    go_wp2
    go_ret
    exact ⟨rfl, Hb.out _⟩
  by_cases c1 : 2 < k
  · go_enter Tryd.func19, Tryd.ntmps19
    go_wp2
    go_ret
    exact ⟨rfl, Hb.out _⟩
  by_cases c2 : wd = false
  · subst c2
    go_enter Tryd.func19, Tryd.ntmps19
    go_wp2_with fail
    refine (HW.out _).mono ?_
    rintro e w1 ⟨rfl, b1⟩
    have B1 := hide' b1
    have hrow := Hbox.out _ _ B1.out
    have y10 := cell_of_row _ _ 0 _ _ _ hrow
    have y11 := cell_of_row _ _ 1 _ _ _ hrow
    have y12 := cell_of_row _ _ 2 _ _ _ hrow
    have y13 := cell_of_row _ _ 3 _ _ _ hrow
    have y14 := cell_of_row _ _ 4 _ _ _ hrow
    have y15 := cell_of_row _ _ 5 _ _ _ hrow
    have y16 := cell_of_row _ _ 6 _ _ _ hrow
    have y17 := cell_of_row _ _ 7 _ _ _ hrow
    have y18 := cell_of_row _ _ 8 _ _ _ hrow
    have y19 := cell_of_row _ _ 9 _ _ _ hrow
    simp at y10 y11 y12 y13 y14 y15 y16 y17 y18 y19
    clear hrow b1
    go_wp2
    go_ret
    exact ⟨rfl, Below.on (Hb.out _) B1.out⟩
  replace c2 : wd = true := by simpa using c2
  subst c2
  by_cases c3 : 6 < el
  · have c3' : (6 : Int) < (el : Int) := by omega
    go_enter Tryd.func19, Tryd.ntmps19
    go_wp2_with fail
    refine (HW.out _).mono ?_
    rintro e w1 ⟨rfl, b1⟩
    have B1 := hide' b1
    have hrow := Hbox.out _ _ B1.out
    have y10 := cell_of_row _ _ 0 _ _ _ hrow
    have y11 := cell_of_row _ _ 1 _ _ _ hrow
    have y12 := cell_of_row _ _ 2 _ _ _ hrow
    have y13 := cell_of_row _ _ 3 _ _ _ hrow
    have y14 := cell_of_row _ _ 4 _ _ _ hrow
    have y15 := cell_of_row _ _ 5 _ _ _ hrow
    have y16 := cell_of_row _ _ 6 _ _ _ hrow
    have y17 := cell_of_row _ _ 7 _ _ _ hrow
    have y18 := cell_of_row _ _ 8 _ _ _ hrow
    have y19 := cell_of_row _ _ 9 _ _ _ hrow
    simp at y10 y11 y12 y13 y14 y15 y16 y17 y18 y19
    clear hrow b1
    go_wp2
    go_ret
    exact ⟨rfl, Below.on (Hb.out _) B1.out⟩
  have c3' : ¬ (6 : Int) < (el : Int) := by omega
  have hk3 : k = 0 ∨ k = 1 ∨ k = 2 := by omega
  clear c0 c1
  rcases hk3 with rfl | rfl | rfl
  · by_cases d2 : mn = 0
    · subst d2
      by_cases d3 : zr = false
      · subst d3
        go_enter Tryd.func19, Tryd.ntmps19
        go_wp2_with fail
        refine (HW.out _).mono ?_
        rintro e w1 ⟨rfl, b1⟩
        have B1 := hide' b1
        have hrow := Hbox.out _ _ B1.out
        have y10 := cell_of_row _ _ 0 _ _ _ hrow
        have y11 := cell_of_row _ _ 1 _ _ _ hrow
        have y12 := cell_of_row _ _ 2 _ _ _ hrow
        have y13 := cell_of_row _ _ 3 _ _ _ hrow
        have y14 := cell_of_row _ _ 4 _ _ _ hrow
        have y15 := cell_of_row _ _ 5 _ _ _ hrow
        have y16 := cell_of_row _ _ 6 _ _ _ hrow
        have y17 := cell_of_row _ _ 7 _ _ _ hrow
        have y18 := cell_of_row _ _ 8 _ _ _ hrow
        have y19 := cell_of_row _ _ 9 _ _ _ hrow
        simp at y10 y11 y12 y13 y14 y15 y16 y17 y18 y19
        clear hrow b1
        go_wp2_with fail
        refine (HZ.out _ (Below.on (Hb.out _) B1.out)).mono ?_
        rintro e w2 ⟨rfl, b2⟩
        have B2 := hide' (Below.on B1.out b2)
        have hrow := Hbox.out _ _ B2.out
        have y20 := cell_of_row _ _ 0 _ _ _ hrow
        have y21 := cell_of_row _ _ 1 _ _ _ hrow
        have y22 := cell_of_row _ _ 2 _ _ _ hrow
        have y23 := cell_of_row _ _ 3 _ _ _ hrow
        have y24 := cell_of_row _ _ 4 _ _ _ hrow
        have y25 := cell_of_row _ _ 5 _ _ _ hrow
        have y26 := cell_of_row _ _ 6 _ _ _ hrow
        have y27 := cell_of_row _ _ 7 _ _ _ hrow
        have y28 := cell_of_row _ _ 8 _ _ _ hrow
        have y29 := cell_of_row _ _ 9 _ _ _ hrow
        simp at y20 y21 y22 y23 y24 y25 y26 y27 y28 y29
        clear hrow b2
        go_wp2
        go_ret
        exact ⟨rfl, Below.on (Hb.out _) B2.out⟩
      replace d3 : zr = true := by simpa using d3
      subst d3
      by_cases d4 : 0 < kl
      · have d4' : (0 : Int) < (kl : Int) := by omega
        go_enter Tryd.func19, Tryd.ntmps19
        go_wp2_with fail
        refine (HW.out _).mono ?_
        rintro e w1 ⟨rfl, b1⟩
        have B1 := hide' b1
        have hrow := Hbox.out _ _ B1.out
        have y10 := cell_of_row _ _ 0 _ _ _ hrow
        have y11 := cell_of_row _ _ 1 _ _ _ hrow
        have y12 := cell_of_row _ _ 2 _ _ _ hrow
        have y13 := cell_of_row _ _ 3 _ _ _ hrow
        have y14 := cell_of_row _ _ 4 _ _ _ hrow
        have y15 := cell_of_row _ _ 5 _ _ _ hrow
        have y16 := cell_of_row _ _ 6 _ _ _ hrow
        have y17 := cell_of_row _ _ 7 _ _ _ hrow
        have y18 := cell_of_row _ _ 8 _ _ _ hrow
        have y19 := cell_of_row _ _ 9 _ _ _ hrow
        simp at y10 y11 y12 y13 y14 y15 y16 y17 y18 y19
        clear hrow b1
        go_wp2_with fail
        refine (HZ.out _ (Below.on (Hb.out _) B1.out)).mono ?_
        rintro e w2 ⟨rfl, b2⟩
        have B2 := hide' (Below.on B1.out b2)
        have hrow := Hbox.out _ _ B2.out
        have y20 := cell_of_row _ _ 0 _ _ _ hrow
        have y21 := cell_of_row _ _ 1 _ _ _ hrow
        have y22 := cell_of_row _ _ 2 _ _ _ hrow
        have y23 := cell_of_row _ _ 3 _ _ _ hrow
        have y24 := cell_of_row _ _ 4 _ _ _ hrow
        have y25 := cell_of_row _ _ 5 _ _ _ hrow
        have y26 := cell_of_row _ _ 6 _ _ _ hrow
        have y27 := cell_of_row _ _ 7 _ _ _ hrow
        have y28 := cell_of_row _ _ 8 _ _ _ hrow
        have y29 := cell_of_row _ _ 9 _ _ _ hrow
        simp at y20 y21 y22 y23 y24 y25 y26 y27 y28 y29
        clear hrow b2
        go_wp2
        go_ret
        exact ⟨rfl, Below.on (Hb.out _) B2.out⟩
      have d4' : ¬ (0 : Int) < (kl : Int) := by omega
      have d5 : ¬ el = 1 := by
        intro e
        subst e
        have : kl = 0 := by omega
        subst this
        simp at hno
      have d5' : ¬ (el : Int) = 1 := by omega
      go_enter Tryd.func19, Tryd.ntmps19
      go_wp2_with fail
      refine (HW.out _).mono ?_
      rintro e w1 ⟨rfl, b1⟩
      have B1 := hide' b1
      have hrow := Hbox.out _ _ B1.out
      have y10 := cell_of_row _ _ 0 _ _ _ hrow
      have y11 := cell_of_row _ _ 1 _ _ _ hrow
      have y12 := cell_of_row _ _ 2 _ _ _ hrow
      have y13 := cell_of_row _ _ 3 _ _ _ hrow
      have y14 := cell_of_row _ _ 4 _ _ _ hrow
      have y15 := cell_of_row _ _ 5 _ _ _ hrow
      have y16 := cell_of_row _ _ 6 _ _ _ hrow
      have y17 := cell_of_row _ _ 7 _ _ _ hrow
      have y18 := cell_of_row _ _ 8 _ _ _ hrow
      have y19 := cell_of_row _ _ 9 _ _ _ hrow
      simp at y10 y11 y12 y13 y14 y15 y16 y17 y18 y19
      clear hrow b1
      go_wp2_with fail
      refine (HZ.out _ (Below.on (Hb.out _) B1.out)).mono ?_
      rintro e w2 ⟨rfl, b2⟩
      have B2 := hide' (Below.on B1.out b2)
      have hrow := Hbox.out _ _ B2.out
      have y20 := cell_of_row _ _ 0 _ _ _ hrow
      have y21 := cell_of_row _ _ 1 _ _ _ hrow
      have y22 := cell_of_row _ _ 2 _ _ _ hrow
      have y23 := cell_of_row _ _ 3 _ _ _ hrow
      have y24 := cell_of_row _ _ 4 _ _ _ hrow
      have y25 := cell_of_row _ _ 5 _ _ _ hrow
      have y26 := cell_of_row _ _ 6 _ _ _ hrow
      have y27 := cell_of_row _ _ 7 _ _ _ hrow
      have y28 := cell_of_row _ _ 8 _ _ _ hrow
      have y29 := cell_of_row _ _ 9 _ _ _ hrow
      simp at y20 y21 y22 y23 y24 y25 y26 y27 y28 y29
      clear hrow b2
      go_wp2
      go_ret
      exact ⟨rfl, Below.on (Hb.out _) B2.out⟩
    have d2b : (mn != 0) = true := by simpa using d2
    go_enter Tryd.func19, Tryd.ntmps19
    go_wp2_with fail
    refine (HW.out _).mono ?_
    rintro e w1 ⟨rfl, b1⟩
    have B1 := hide' b1
    have hrow := Hbox.out _ _ B1.out
    have y10 := cell_of_row _ _ 0 _ _ _ hrow
    have y11 := cell_of_row _ _ 1 _ _ _ hrow
    have y12 := cell_of_row _ _ 2 _ _ _ hrow
    have y13 := cell_of_row _ _ 3 _ _ _ hrow
    have y14 := cell_of_row _ _ 4 _ _ _ hrow
    have y15 := cell_of_row _ _ 5 _ _ _ hrow
    have y16 := cell_of_row _ _ 6 _ _ _ hrow
    have y17 := cell_of_row _ _ 7 _ _ _ hrow
    have y18 := cell_of_row _ _ 8 _ _ _ hrow
    have y19 := cell_of_row _ _ 9 _ _ _ hrow
    simp at y10 y11 y12 y13 y14 y15 y16 y17 y18 y19
    clear hrow b1
    go_wp2
    go_ret
    exact ⟨rfl, Below.on (Hb.out _) B1.out⟩
  · by_cases d0 : mn < 0
    · go_enter Tryd.func19, Tryd.ntmps19
      go_wp2_with fail
      refine (HW.out _).mono ?_
      rintro e w1 ⟨rfl, b1⟩
      have B1 := hide' b1
      have hrow := Hbox.out _ _ B1.out
      have y10 := cell_of_row _ _ 0 _ _ _ hrow
      have y11 := cell_of_row _ _ 1 _ _ _ hrow
      have y12 := cell_of_row _ _ 2 _ _ _ hrow
      have y13 := cell_of_row _ _ 3 _ _ _ hrow
      have y14 := cell_of_row _ _ 4 _ _ _ hrow
      have y15 := cell_of_row _ _ 5 _ _ _ hrow
      have y16 := cell_of_row _ _ 6 _ _ _ hrow
      have y17 := cell_of_row _ _ 7 _ _ _ hrow
      have y18 := cell_of_row _ _ 8 _ _ _ hrow
      have y19 := cell_of_row _ _ 9 _ _ _ hrow
      simp at y10 y11 y12 y13 y14 y15 y16 y17 y18 y19
      clear hrow b1
      go_wp2
      go_ret
      exact ⟨rfl, Below.on (Hb.out _) B1.out⟩
    by_cases d1 : 2 < mn
    · go_enter Tryd.func19, Tryd.ntmps19
      go_wp2_with fail
      refine (HW.out _).mono ?_
      rintro e w1 ⟨rfl, b1⟩
      have B1 := hide' b1
      have hrow := Hbox.out _ _ B1.out
      have y10 := cell_of_row _ _ 0 _ _ _ hrow
      have y11 := cell_of_row _ _ 1 _ _ _ hrow
      have y12 := cell_of_row _ _ 2 _ _ _ hrow
      have y13 := cell_of_row _ _ 3 _ _ _ hrow
      have y14 := cell_of_row _ _ 4 _ _ _ hrow
      have y15 := cell_of_row _ _ 5 _ _ _ hrow
      have y16 := cell_of_row _ _ 6 _ _ _ hrow
      have y17 := cell_of_row _ _ 7 _ _ _ hrow
      have y18 := cell_of_row _ _ 8 _ _ _ hrow
      have y19 := cell_of_row _ _ 9 _ _ _ hrow
      simp at y10 y11 y12 y13 y14 y15 y16 y17 y18 y19
      clear hrow b1
      go_wp2
      go_ret
      exact ⟨rfl, Below.on (Hb.out _) B1.out⟩
    have d2 : mn = 0 ∨ mn = 1 ∨ mn = 2 := by omega
    clear d0 d1
    rcases d2 with rfl | rfl | rfl
    · by_cases d3 : zr = false
      · subst d3
        go_enter Tryd.func19, Tryd.ntmps19
        go_wp2_with fail
        refine (HW.out _).mono ?_
        rintro e w1 ⟨rfl, b1⟩
        have B1 := hide' b1
        have hrow := Hbox.out _ _ B1.out
        have y10 := cell_of_row _ _ 0 _ _ _ hrow
        have y11 := cell_of_row _ _ 1 _ _ _ hrow
        have y12 := cell_of_row _ _ 2 _ _ _ hrow
        have y13 := cell_of_row _ _ 3 _ _ _ hrow
        have y14 := cell_of_row _ _ 4 _ _ _ hrow
        have y15 := cell_of_row _ _ 5 _ _ _ hrow
        have y16 := cell_of_row _ _ 6 _ _ _ hrow
        have y17 := cell_of_row _ _ 7 _ _ _ hrow
        have y18 := cell_of_row _ _ 8 _ _ _ hrow
        have y19 := cell_of_row _ _ 9 _ _ _ hrow
        simp at y10 y11 y12 y13 y14 y15 y16 y17 y18 y19
        clear hrow b1
        go_wp2_with fail
        refine (HZ.out _ (Below.on (Hb.out _) B1.out)).mono ?_
        rintro e w2 ⟨rfl, b2⟩
        have B2 := hide' (Below.on B1.out b2)
        have hrow := Hbox.out _ _ B2.out
        have y20 := cell_of_row _ _ 0 _ _ _ hrow
        have y21 := cell_of_row _ _ 1 _ _ _ hrow
        have y22 := cell_of_row _ _ 2 _ _ _ hrow
        have y23 := cell_of_row _ _ 3 _ _ _ hrow
        have y24 := cell_of_row _ _ 4 _ _ _ hrow
        have y25 := cell_of_row _ _ 5 _ _ _ hrow
        have y26 := cell_of_row _ _ 6 _ _ _ hrow
        have y27 := cell_of_row _ _ 7 _ _ _ hrow
        have y28 := cell_of_row _ _ 8 _ _ _ hrow
        have y29 := cell_of_row _ _ 9 _ _ _ hrow
        simp at y20 y21 y22 y23 y24 y25 y26 y27 y28 y29
        clear hrow b2
        go_wp2
        go_ret
        exact ⟨rfl, Below.on (Hb.out _) B2.out⟩
      replace d3 : zr = true := by simpa using d3
      subst d3
      have d4 : ¬ kl = el := by
        intro e
        subst e
        simp at hno
        omega
      have d4' : ¬ (kl : Int) = (el : Int) := by omega
      go_enter Tryd.func19, Tryd.ntmps19
      go_wp2_with fail
      refine (HW.out _).mono ?_
      rintro e w1 ⟨rfl, b1⟩
      have B1 := hide' b1
      have hrow := Hbox.out _ _ B1.out
      have y10 := cell_of_row _ _ 0 _ _ _ hrow
      have y11 := cell_of_row _ _ 1 _ _ _ hrow
      have y12 := cell_of_row _ _ 2 _ _ _ hrow
      have y13 := cell_of_row _ _ 3 _ _ _ hrow
      have y14 := cell_of_row _ _ 4 _ _ _ hrow
      have y15 := cell_of_row _ _ 5 _ _ _ hrow
      have y16 := cell_of_row _ _ 6 _ _ _ hrow
      have y17 := cell_of_row _ _ 7 _ _ _ hrow
      have y18 := cell_of_row _ _ 8 _ _ _ hrow
      have y19 := cell_of_row _ _ 9 _ _ _ hrow
      simp at y10 y11 y12 y13 y14 y15 y16 y17 y18 y19
      clear hrow b1
      go_wp2_with fail
      refine (HZ.out _ (Below.on (Hb.out _) B1.out)).mono ?_
      rintro e w2 ⟨rfl, b2⟩
      have B2 := hide' (Below.on B1.out b2)
      have hrow := Hbox.out _ _ B2.out
      have y20 := cell_of_row _ _ 0 _ _ _ hrow
      have y21 := cell_of_row _ _ 1 _ _ _ hrow
      have y22 := cell_of_row _ _ 2 _ _ _ hrow
      have y23 := cell_of_row _ _ 3 _ _ _ hrow
      have y24 := cell_of_row _ _ 4 _ _ _ hrow
      have y25 := cell_of_row _ _ 5 _ _ _ hrow
      have y26 := cell_of_row _ _ 6 _ _ _ hrow
      have y27 := cell_of_row _ _ 7 _ _ _ hrow
      have y28 := cell_of_row _ _ 8 _ _ _ hrow
      have y29 := cell_of_row _ _ 9 _ _ _ hrow
      simp at y20 y21 y22 y23 y24 y25 y26 y27 y28 y29
      clear hrow b2
      go_wp2
      go_ret
      exact ⟨rfl, Below.on (Hb.out _) B2.out⟩
    · have d4 : ¬ kl = el := by
        intro e
        subst e
        simp at hno
        omega
      have d4' : ¬ (kl : Int) = (el : Int) := by omega
      go_enter Tryd.func19, Tryd.ntmps19
      go_wp2_with fail
      refine (HW.out _).mono ?_
      rintro e w1 ⟨rfl, b1⟩
      have B1 := hide' b1
      have hrow := Hbox.out _ _ B1.out
      have y10 := cell_of_row _ _ 0 _ _ _ hrow
      have y11 := cell_of_row _ _ 1 _ _ _ hrow
      have y12 := cell_of_row _ _ 2 _ _ _ hrow
      have y13 := cell_of_row _ _ 3 _ _ _ hrow
      have y14 := cell_of_row _ _ 4 _ _ _ hrow
      have y15 := cell_of_row _ _ 5 _ _ _ hrow
      have y16 := cell_of_row _ _ 6 _ _ _ hrow
      have y17 := cell_of_row _ _ 7 _ _ _ hrow
      have y18 := cell_of_row _ _ 8 _ _ _ hrow
      have y19 := cell_of_row _ _ 9 _ _ _ hrow
      simp at y10 y11 y12 y13 y14 y15 y16 y17 y18 y19
      clear hrow b1
      go_wp2
      go_ret
      exact ⟨rfl, Below.on (Hb.out _) B1.out⟩
    · have d4 : ¬ kl = el := by
        intro e
        subst e
        simp at hno
        omega
      have d4' : ¬ (kl : Int) = (el : Int) := by omega
      go_enter Tryd.func19, Tryd.ntmps19
      go_wp2_with fail
      refine (HW.out _).mono ?_
      rintro e w1 ⟨rfl, b1⟩
      have B1 := hide' b1
      have hrow := Hbox.out _ _ B1.out
      have y10 := cell_of_row _ _ 0 _ _ _ hrow
      have y11 := cell_of_row _ _ 1 _ _ _ hrow
      have y12 := cell_of_row _ _ 2 _ _ _ hrow
      have y13 := cell_of_row _ _ 3 _ _ _ hrow
      have y14 := cell_of_row _ _ 4 _ _ _ hrow
      have y15 := cell_of_row _ _ 5 _ _ _ hrow
      have y16 := cell_of_row _ _ 6 _ _ _ hrow
      have y17 := cell_of_row _ _ 7 _ _ _ hrow
      have y18 := cell_of_row _ _ 8 _ _ _ hrow
      have y19 := cell_of_row _ _ 9 _ _ _ hrow
      simp at y10 y11 y12 y13 y14 y15 y16 y17 y18 y19
      clear hrow b1
      go_wp2
      go_ret
      exact ⟨rfl, Below.on (Hb.out _) B1.out⟩
  · by_cases d2 : mn = 0
    · subst d2
      by_cases d3 : zr = false
      · subst d3
        go_enter Tryd.func19, Tryd.ntmps19
        go_wp2_with fail
        refine (HW.out _).mono ?_
        rintro e w1 ⟨rfl, b1⟩
        have B1 := hide' b1
        have hrow := Hbox.out _ _ B1.out
        have y10 := cell_of_row _ _ 0 _ _ _ hrow
        have y11 := cell_of_row _ _ 1 _ _ _ hrow
        have y12 := cell_of_row _ _ 2 _ _ _ hrow
        have y13 := cell_of_row _ _ 3 _ _ _ hrow
        have y14 := cell_of_row _ _ 4 _ _ _ hrow
        have y15 := cell_of_row _ _ 5 _ _ _ hrow
        have y16 := cell_of_row _ _ 6 _ _ _ hrow
        have y17 := cell_of_row _ _ 7 _ _ _ hrow
        have y18 := cell_of_row _ _ 8 _ _ _ hrow
        have y19 := cell_of_row _ _ 9 _ _ _ hrow
        simp at y10 y11 y12 y13 y14 y15 y16 y17 y18 y19
        clear hrow b1
        go_wp2_with fail
        refine (HZ.out _ (Below.on (Hb.out _) B1.out)).mono ?_
        rintro e w2 ⟨rfl, b2⟩
        have B2 := hide' (Below.on B1.out b2)
        have hrow := Hbox.out _ _ B2.out
        have y20 := cell_of_row _ _ 0 _ _ _ hrow
        have y21 := cell_of_row _ _ 1 _ _ _ hrow
        have y22 := cell_of_row _ _ 2 _ _ _ hrow
        have y23 := cell_of_row _ _ 3 _ _ _ hrow
        have y24 := cell_of_row _ _ 4 _ _ _ hrow
        have y25 := cell_of_row _ _ 5 _ _ _ hrow
        have y26 := cell_of_row _ _ 6 _ _ _ hrow
        have y27 := cell_of_row _ _ 7 _ _ _ hrow
        have y28 := cell_of_row _ _ 8 _ _ _ hrow
        have y29 := cell_of_row _ _ 9 _ _ _ hrow
        simp at y20 y21 y22 y23 y24 y25 y26 y27 y28 y29
        clear hrow b2
        go_wp2
        go_ret
        exact ⟨rfl, Below.on (Hb.out _) B2.out⟩
      replace d3 : zr = true := by simpa using d3
      subst d3
      by_cases d4 : 0 < kl
      · have d4' : (0 : Int) < (kl : Int) := by omega
        go_enter Tryd.func19, Tryd.ntmps19
        go_wp2_with fail
        refine (HW.out _).mono ?_
        rintro e w1 ⟨rfl, b1⟩
        have B1 := hide' b1
        have hrow := Hbox.out _ _ B1.out
        have y10 := cell_of_row _ _ 0 _ _ _ hrow
        have y11 := cell_of_row _ _ 1 _ _ _ hrow
        have y12 := cell_of_row _ _ 2 _ _ _ hrow
        have y13 := cell_of_row _ _ 3 _ _ _ hrow
        have y14 := cell_of_row _ _ 4 _ _ _ hrow
        have y15 := cell_of_row _ _ 5 _ _ _ hrow
        have y16 := cell_of_row _ _ 6 _ _ _ hrow
        have y17 := cell_of_row _ _ 7 _ _ _ hrow
        have y18 := cell_of_row _ _ 8 _ _ _ hrow
        have y19 := cell_of_row _ _ 9 _ _ _ hrow
        simp at y10 y11 y12 y13 y14 y15 y16 y17 y18 y19
        clear hrow b1
        go_wp2_with fail
        refine (HZ.out _ (Below.on (Hb.out _) B1.out)).mono ?_
        rintro e w2 ⟨rfl, b2⟩
        have B2 := hide' (Below.on B1.out b2)
        have hrow := Hbox.out _ _ B2.out
        have y20 := cell_of_row _ _ 0 _ _ _ hrow
        have y21 := cell_of_row _ _ 1 _ _ _ hrow
        have y22 := cell_of_row _ _ 2 _ _ _ hrow
        have y23 := cell_of_row _ _ 3 _ _ _ hrow
        have y24 := cell_of_row _ _ 4 _ _ _ hrow
        have y25 := cell_of_row _ _ 5 _ _ _ hrow
        have y26 := cell_of_row _ _ 6 _ _ _ hrow
        have y27 := cell_of_row _ _ 7 _ _ _ hrow
        have y28 := cell_of_row _ _ 8 _ _ _ hrow
        have y29 := cell_of_row _ _ 9 _ _ _ hrow
        simp at y20 y21 y22 y23 y24 y25 y26 y27 y28 y29
        clear hrow b2
        go_wp2
        go_ret
        exact ⟨rfl, Below.on (Hb.out _) B2.out⟩
      have d4' : ¬ (0 : Int) < (kl : Int) := by omega
      have d5 : ¬ el = 1 := by
        intro e
        subst e
        have : kl = 0 := by omega
        subst this
        simp at hno
      have d5' : ¬ (el : Int) = 1 := by omega
      go_enter Tryd.func19, Tryd.ntmps19
      go_wp2_with fail
      refine (HW.out _).mono ?_
      rintro e w1 ⟨rfl, b1⟩
      have B1 := hide' b1
      have hrow := Hbox.out _ _ B1.out
      have y10 := cell_of_row _ _ 0 _ _ _ hrow
      have y11 := cell_of_row _ _ 1 _ _ _ hrow
      have y12 := cell_of_row _ _ 2 _ _ _ hrow
      have y13 := cell_of_row _ _ 3 _ _ _ hrow
      have y14 := cell_of_row _ _ 4 _ _ _ hrow
      have y15 := cell_of_row _ _ 5 _ _ _ hrow
      have y16 := cell_of_row _ _ 6 _ _ _ hrow
      have y17 := cell_of_row _ _ 7 _ _ _ hrow
      have y18 := cell_of_row _ _ 8 _ _ _ hrow
      have y19 := cell_of_row _ _ 9 _ _ _ hrow
      simp at y10 y11 y12 y13 y14 y15 y16 y17 y18 y19
      clear hrow b1
      go_wp2_with fail
      refine (HZ.out _ (Below.on (Hb.out _) B1.out)).mono ?_
      rintro e w2 ⟨rfl, b2⟩
      have B2 := hide' (Below.on B1.out b2)
      have hrow := Hbox.out _ _ B2.out
      have y20 := cell_of_row _ _ 0 _ _ _ hrow
      have y21 := cell_of_row _ _ 1 _ _ _ hrow
      have y22 := cell_of_row _ _ 2 _ _ _ hrow
      have y23 := cell_of_row _ _ 3 _ _ _ hrow
      have y24 := cell_of_row _ _ 4 _ _ _ hrow
      have y25 := cell_of_row _ _ 5 _ _ _ hrow
      have y26 := cell_of_row _ _ 6 _ _ _ hrow
      have y27 := cell_of_row _ _ 7 _ _ _ hrow
      have y28 := cell_of_row _ _ 8 _ _ _ hrow
      have y29 := cell_of_row _ _ 9 _ _ _ hrow
      simp at y20 y21 y22 y23 y24 y25 y26 y27 y28 y29
      clear hrow b2
      go_wp2
      go_ret
      exact ⟨rfl, Below.on (Hb.out _) B2.out⟩
    have d2b : (mn != 0) = true := by simpa using d2
    go_enter Tryd.func19, Tryd.ntmps19
    go_wp2_with fail
    refine (HW.out _).mono ?_
    rintro e w1 ⟨rfl, b1⟩
    have B1 := hide' b1
    have hrow := Hbox.out _ _ B1.out
    have y10 := cell_of_row _ _ 0 _ _ _ hrow
    have y11 := cell_of_row _ _ 1 _ _ _ hrow
    have y12 := cell_of_row _ _ 2 _ _ _ hrow
    have y13 := cell_of_row _ _ 3 _ _ _ hrow
    have y14 := cell_of_row _ _ 4 _ _ _ hrow
    have y15 := cell_of_row _ _ 5 _ _ _ hrow
    have y16 := cell_of_row _ _ 6 _ _ _ hrow
    have y17 := cell_of_row _ _ 7 _ _ _ hrow
    have y18 := cell_of_row _ _ 8 _ _ _ hrow
    have y19 := cell_of_row _ _ 9 _ _ _ hrow
    simp at y10 y11 y12 y13 y14 y15 y16 y17 y18 y19
    clear hrow b1
    go_wp2
    go_ret
    exact ⟨rfl, Below.on (Hb.out _) B1.out⟩
end Go.Proofs.YthkbapkndmlpfaaDoor
/-
  l6arity of the specification; l6expr where something is wrong ahead of the kids.
-/
namespace Go.Proofs.YthkbapkndmlpfaaDoor
open Go.RowKit
set_option linter.unusedVariables false
set_option linter.unusedSimpArgs false

set_option maxHeartbeats 1600000 in
theorem l6arity_any (k : Int) (w : World) :
    Calls Tryd.prog 57 #[.int .i64 k] w fun e w' => e = .returned (.int .i64 (arI k)) ∧ w = w' := by
  go_enter Tryd.func57, Tryd.ntmps57
  go_wp2
  all_goals first
    | (exfalso; simp_all; done)
    | (go_ret; refine ⟨ret_i64 ?_, rfl⟩; simp_all [arI]; done)
    | (go_ret; refine ⟨ret_i64 ?_, rfl⟩; simp_all [arI]; omega)

/-- What is asked of one part ahead of its kids and of its keys' order. -/
def hdR (kb : Bool) (q m n : Int) (l3 l4 : Nat) (sb : Bool) : Bool :=
  (if kb then decide (l3 = l4) else decide (l3 = 0)) && (decide (q = -1) || decide (q = l4)) && decide (0 ≤ n) && decide (n ≤ m) && sb

set_option maxHeartbeats 4000000 in
set_option maxRecDepth 100000 in
theorem l6bad_other (k : Int) (k0 : 0 ≤ k) (k24 : k ≤ 23) (k1 : ¬ k = 1) (k2 : ¬ k = 2) (k3 : ¬ k = 3) (k4 : ¬ k = 4) (k5 : ¬ k = 5) (k6 : ¬ k = 6) (k7 : ¬ k = 7) (k8 : ¬ k = 8) (k23 : ¬ k = 23) (n : Int) (a2 a3 a4 : Option Addr) (p2 p3 p4 l2 l3 l4 : Nat) (deep : Nat) (left : Int) (w : World)
    (h1 : 1 ≤ left) (h2 : left ≤ 150) (h3 : deep ≤ 10) (hl2 : l2 ≤ maxLen) (hl3 : l3 ≤ maxLen) (hl4 : l4 ≤ maxLen) (hq : -1 ≤ arI k ∧ arI k ≤ 3) (hbad : hdR false (arI k) 0 n l3 l4 (decide (l2 = 0)) = false) :
    Calls Tryd.prog 44 #[.agg #[.int .i64 k, .int .i64 n, .slice a2 l2 p2, .slice a3 l3 p3, .slice a4 l4 p4], .int .i64 deep, .int .i64 left] w fun e w' => e = .returned (.int .i64 (-1)) ∧ Below w.heap.size w w' := by
  have b0 : ∀ o : Obj, Below w.heap.size w (w.alloc o) := fun o => (Below.refl _ _).alloc (Nat.le_refl _) o
  have Hb := hide' b0
  have HAr : Hid (∀ wx, Calls Tryd.prog 57 #[.int .i64 k] wx fun e w' => e = .returned (.int .i64 (arI k)) ∧ wx = w') := fun wx => l6arity_any k wx
  have Hbad := hide' hbad
  generalize arI k = q at *
  have d1 : ¬ left - 1 < 0 := by omega
  have d2 : ¬ (10 : Int) < (deep : Int) := by omega
  have d3 : ¬ k < 0 := by omega
  have d4 : ¬ (23 : Int) < k := by omega
  have e5 : (k == 5) = false := by simpa using k5
  have e5' : (k != 5) = true := by simpa using k5
  obtain ⟨q1, q2⟩ := hq
  unfold maxLen at hl2 hl3 hl4
  clear b0 hbad
  go_enter Tryd.func44, Tryd.ntmps44
  go_wp2_with (go_at_call 57; refine (HAr.out _).mono ?_; rintro e w1 ⟨rfl, e1⟩; obtain rfl := e1)
  all_goals first
    | (go_ret; exact ⟨rfl, Hb.out _⟩)
    | (exfalso; have hbad := Hbad.out; clear Hbad HAr Hb; go_light; simp [hdR] at hbad; simp_all <;> omega)
end Go.Proofs.YthkbapkndmlpfaaDoor
/-
  l6expr of the specification where something is wrong ahead of the kids: -1.
-/
namespace Go.Proofs.YthkbapkndmlpfaaDoor
open Go.RowKit
set_option linter.unusedVariables false
set_option linter.unusedSimpArgs false

set_option maxHeartbeats 4000000 in
set_option maxRecDepth 100000 in
theorem l6bad_c1 (n : Int) (a2 a3 a4 : Option Addr) (p2 p3 p4 l3 l4 : Nat) (vs : List Int) (deep : Nat) (left : Int) (w : World)
    (h1 : 1 ≤ left) (h2 : left ≤ 150) (h3 : deep ≤ 10) (s2 : Seg w a2 vs) (hl2 : vs.length ≤ maxLen) (hl3 : l3 ≤ maxLen) (hl4 : l4 ≤ maxLen) (hbad : hdR false (0) 1 n l3 l4 (decide (vs.length = 0)) = false) :
    Calls Tryd.prog 44 #[.agg #[.int .i64 1, .int .i64 n, .slice a2 vs.length p2, .slice a3 l3 p3, .slice a4 l4 p4], .int .i64 deep, .int .i64 left] w fun e w' => e = .returned (.int .i64 (-1)) ∧ Below w.heap.size w w' := by
  have b0 : ∀ o : Obj, Below w.heap.size w (w.alloc o) := fun o => (Below.refl _ _).alloc (Nat.le_refl _) o
  have Hb := hide' b0
  have HAr : Hid (∀ wx, Calls Tryd.prog 57 #[.int .i64 1] wx fun e w' => e = .returned (.int .i64 (0)) ∧ wx = w') := fun wx => l6arity_any 1 wx
  have Hbad := hide' hbad
  have d1 : ¬ left - 1 < 0 := by omega
  have d2 : ¬ (10 : Int) < (deep : Int) := by omega
  unfold maxLen at hl2 hl3 hl4
  clear b0 hbad s2
  go_enter Tryd.func44, Tryd.ntmps44
  go_wp2_with (first | (go_at_call 57; refine (HAr.out _).mono ?_; rintro e w1 ⟨rfl, e1⟩; obtain rfl := e1))
  all_goals first
    | (go_ret; exact ⟨rfl, Hb.out _⟩)
    | (exfalso; have hbad := Hbad.out; clear Hbad HAr Hb; go_light; simp [hdR] at hbad; simp_all <;> omega)

set_option maxHeartbeats 4000000 in
set_option maxRecDepth 100000 in
theorem l6bad_c2 (n : Int) (a2 a3 a4 : Option Addr) (p2 p3 p4 l3 l4 : Nat) (vs : List Int) (deep : Nat) (left : Int) (w : World)
    (h1 : 1 ≤ left) (h2 : left ≤ 150) (h3 : deep ≤ 10) (s2 : Seg w a2 vs) (hl2 : vs.length ≤ maxLen) (hl3 : l3 ≤ maxLen) (hl4 : l4 ≤ maxLen) (hbad : hdR false (0) 1000000000000 n l3 l4 (decide (vs.length = 0)) = false) :
    Calls Tryd.prog 44 #[.agg #[.int .i64 2, .int .i64 n, .slice a2 vs.length p2, .slice a3 l3 p3, .slice a4 l4 p4], .int .i64 deep, .int .i64 left] w fun e w' => e = .returned (.int .i64 (-1)) ∧ Below w.heap.size w w' := by
  have b0 : ∀ o : Obj, Below w.heap.size w (w.alloc o) := fun o => (Below.refl _ _).alloc (Nat.le_refl _) o
  have Hb := hide' b0
  have HAr : Hid (∀ wx, Calls Tryd.prog 57 #[.int .i64 2] wx fun e w' => e = .returned (.int .i64 (0)) ∧ wx = w') := fun wx => l6arity_any 2 wx
  have Hbad := hide' hbad
  have d1 : ¬ left - 1 < 0 := by omega
  have d2 : ¬ (10 : Int) < (deep : Int) := by omega
  unfold maxLen at hl2 hl3 hl4
  clear b0 hbad s2
  go_enter Tryd.func44, Tryd.ntmps44
  go_wp2_with (first | (go_at_call 57; refine (HAr.out _).mono ?_; rintro e w1 ⟨rfl, e1⟩; obtain rfl := e1))
  all_goals first
    | (go_ret; exact ⟨rfl, Hb.out _⟩)
    | (exfalso; have hbad := Hbad.out; clear Hbad HAr Hb; go_light; simp [hdR] at hbad; simp_all <;> omega)

set_option maxHeartbeats 4000000 in
set_option maxRecDepth 100000 in
theorem l6bad_c3 (n : Int) (a2 a3 a4 : Option Addr) (p2 p3 p4 l3 l4 : Nat) (vs : List Int) (deep : Nat) (left : Int) (w : World)
    (h1 : 1 ≤ left) (h2 : left ≤ 150) (h3 : deep ≤ 10) (s2 : Seg w a2 vs) (hl2 : vs.length ≤ maxLen) (hl3 : l3 ≤ maxLen) (hl4 : l4 ≤ maxLen) (hbad : hdR false (0) 0 n l3 l4 (textB vs) = false) :
    Calls Tryd.prog 44 #[.agg #[.int .i64 3, .int .i64 n, .slice a2 vs.length p2, .slice a3 l3 p3, .slice a4 l4 p4], .int .i64 deep, .int .i64 left] w fun e w' => e = .returned (.int .i64 (-1)) ∧ Below w.heap.size w w' := by
  have b0 : ∀ o : Obj, Below w.heap.size w (w.alloc o) := fun o => (Below.refl _ _).alloc (Nat.le_refl _) o
  have Hb := hide' b0
  have HAr : Hid (∀ wx, Calls Tryd.prog 57 #[.int .i64 3] wx fun e w' => e = .returned (.int .i64 (0)) ∧ wx = w') := fun wx => l6arity_any 3 wx
  have HS : Hid (∀ wx, Below w.heap.size w wx → Calls Tryd.prog 58 #[.slice a2 vs.length p2] wx fun e w' => e = .returned (.bool (textB vs)) ∧ wx = w') := fun wx hb => spec_l2text_any a2 p2 vs wx (s2.grow hb) hl2
  generalize textB vs = sb at *
  have Hbad := hide' hbad
  have d1 : ¬ left - 1 < 0 := by omega
  have d2 : ¬ (10 : Int) < (deep : Int) := by omega
  unfold maxLen at hl2 hl3 hl4
  clear b0 hbad s2
  cases sb
  all_goals
    go_enter Tryd.func44, Tryd.ntmps44
    go_wp2_with (first | (go_at_call 57; refine (HAr.out _).mono ?_; rintro e w1 ⟨rfl, e1⟩; obtain rfl := e1) | (go_at_call 58; refine (HS.out _ (Hb.out _)).mono ?_; rintro e w1 ⟨rfl, e1⟩; obtain rfl := e1))
    all_goals first
      | (go_ret; exact ⟨rfl, Hb.out _⟩)
      | (exfalso; have hbad := Hbad.out; clear Hbad HAr Hb; go_light; simp [hdR] at hbad; simp_all <;> omega)

set_option maxHeartbeats 4000000 in
set_option maxRecDepth 100000 in
theorem l6bad_c4 (n : Int) (a2 a3 a4 : Option Addr) (p2 p3 p4 l3 l4 : Nat) (vs : List Int) (deep : Nat) (left : Int) (w : World)
    (h1 : 1 ≤ left) (h2 : left ≤ 150) (h3 : deep ≤ 10) (s2 : Seg w a2 vs) (hl2 : vs.length ≤ maxLen) (hl3 : l3 ≤ maxLen) (hl4 : l4 ≤ maxLen) (hbad : hdR false (-1) 0 n l3 l4 (decide (vs.length = 0)) = false) :
    Calls Tryd.prog 44 #[.agg #[.int .i64 4, .int .i64 n, .slice a2 vs.length p2, .slice a3 l3 p3, .slice a4 l4 p4], .int .i64 deep, .int .i64 left] w fun e w' => e = .returned (.int .i64 (-1)) ∧ Below w.heap.size w w' := by
  have b0 : ∀ o : Obj, Below w.heap.size w (w.alloc o) := fun o => (Below.refl _ _).alloc (Nat.le_refl _) o
  have Hb := hide' b0
  have HAr : Hid (∀ wx, Calls Tryd.prog 57 #[.int .i64 4] wx fun e w' => e = .returned (.int .i64 (-1)) ∧ wx = w') := fun wx => l6arity_any 4 wx
  have Hbad := hide' hbad
  have d1 : ¬ left - 1 < 0 := by omega
  have d2 : ¬ (10 : Int) < (deep : Int) := by omega
  unfold maxLen at hl2 hl3 hl4
  clear b0 hbad s2
  go_enter Tryd.func44, Tryd.ntmps44
  go_wp2_with (first | (go_at_call 57; refine (HAr.out _).mono ?_; rintro e w1 ⟨rfl, e1⟩; obtain rfl := e1))
  all_goals first
    | (go_ret; exact ⟨rfl, Hb.out _⟩)
    | (exfalso; have hbad := Hbad.out; clear Hbad HAr Hb; go_light; simp [hdR] at hbad; simp_all <;> omega)

set_option maxHeartbeats 4000000 in
set_option maxRecDepth 100000 in
theorem l6bad_c5 (n : Int) (a2 a3 a4 : Option Addr) (p2 p3 p4 l3 l4 : Nat) (vs : List Int) (deep : Nat) (left : Int) (w : World)
    (h1 : 1 ≤ left) (h2 : left ≤ 150) (h3 : deep ≤ 10) (s2 : Seg w a2 vs) (hl2 : vs.length ≤ maxLen) (hl3 : l3 ≤ maxLen) (hl4 : l4 ≤ maxLen) (hbad : hdR true (-1) 0 n l3 l4 (decide (vs.length = 0)) = false) :
    Calls Tryd.prog 44 #[.agg #[.int .i64 5, .int .i64 n, .slice a2 vs.length p2, .slice a3 l3 p3, .slice a4 l4 p4], .int .i64 deep, .int .i64 left] w fun e w' => e = .returned (.int .i64 (-1)) ∧ Below w.heap.size w w' := by
  have b0 : ∀ o : Obj, Below w.heap.size w (w.alloc o) := fun o => (Below.refl _ _).alloc (Nat.le_refl _) o
  have Hb := hide' b0
  have HAr : Hid (∀ wx, Calls Tryd.prog 57 #[.int .i64 5] wx fun e w' => e = .returned (.int .i64 (-1)) ∧ wx = w') := fun wx => l6arity_any 5 wx
  have Hbad := hide' hbad
  have d1 : ¬ left - 1 < 0 := by omega
  have d2 : ¬ (10 : Int) < (deep : Int) := by omega
  unfold maxLen at hl2 hl3 hl4
  clear b0 hbad s2
  go_enter Tryd.func44, Tryd.ntmps44
  go_wp2_with (first | (go_at_call 57; refine (HAr.out _).mono ?_; rintro e w1 ⟨rfl, e1⟩; obtain rfl := e1))
  all_goals first
    | (go_ret; exact ⟨rfl, Hb.out _⟩)
    | (exfalso; have hbad := Hbad.out; clear Hbad HAr Hb; go_light; simp [hdR] at hbad; simp_all <;> omega)

set_option maxHeartbeats 4000000 in
set_option maxRecDepth 100000 in
theorem l6bad_c6 (n : Int) (a2 a3 a4 : Option Addr) (p2 p3 p4 l3 l4 : Nat) (vs : List Int) (deep : Nat) (left : Int) (w : World)
    (h1 : 1 ≤ left) (h2 : left ≤ 150) (h3 : deep ≤ 10) (s2 : Seg w a2 vs) (hl2 : vs.length ≤ maxLen) (hl3 : l3 ≤ maxLen) (hl4 : l4 ≤ maxLen) (hbad : hdR false (0) 0 n l3 l4 (nameB vs) = false) :
    Calls Tryd.prog 44 #[.agg #[.int .i64 6, .int .i64 n, .slice a2 vs.length p2, .slice a3 l3 p3, .slice a4 l4 p4], .int .i64 deep, .int .i64 left] w fun e w' => e = .returned (.int .i64 (-1)) ∧ Below w.heap.size w w' := by
  have b0 : ∀ o : Obj, Below w.heap.size w (w.alloc o) := fun o => (Below.refl _ _).alloc (Nat.le_refl _) o
  have Hb := hide' b0
  have HAr : Hid (∀ wx, Calls Tryd.prog 57 #[.int .i64 6] wx fun e w' => e = .returned (.int .i64 (0)) ∧ wx = w') := fun wx => l6arity_any 6 wx
  have HS : Hid (∀ wx, Below w.heap.size w wx → Calls Tryd.prog 45 #[.slice a2 vs.length p2] wx fun e w' => e = .returned (.bool (nameB vs)) ∧ wx = w') := fun wx hb => spec_NameOk_any a2 p2 vs wx (s2.grow hb) hl2
  generalize nameB vs = sb at *
  have Hbad := hide' hbad
  have d1 : ¬ left - 1 < 0 := by omega
  have d2 : ¬ (10 : Int) < (deep : Int) := by omega
  unfold maxLen at hl2 hl3 hl4
  clear b0 hbad s2
  cases sb
  all_goals
    go_enter Tryd.func44, Tryd.ntmps44
    go_wp2_with (first | (go_at_call 57; refine (HAr.out _).mono ?_; rintro e w1 ⟨rfl, e1⟩; obtain rfl := e1) | (go_at_call 45; refine (HS.out _ (Hb.out _)).mono ?_; rintro e w1 ⟨rfl, e1⟩; obtain rfl := e1))
    all_goals first
      | (go_ret; exact ⟨rfl, Hb.out _⟩)
      | (exfalso; have hbad := Hbad.out; clear Hbad HAr Hb; go_light; simp [hdR] at hbad; simp_all <;> omega)

set_option maxHeartbeats 4000000 in
set_option maxRecDepth 100000 in
theorem l6bad_c7 (n : Int) (a2 a3 a4 : Option Addr) (p2 p3 p4 l3 l4 : Nat) (vs : List Int) (deep : Nat) (left : Int) (w : World)
    (h1 : 1 ≤ left) (h2 : left ≤ 150) (h3 : deep ≤ 10) (s2 : Seg w a2 vs) (hl2 : vs.length ≤ maxLen) (hl3 : l3 ≤ maxLen) (hl4 : l4 ≤ maxLen) (hbad : hdR false (0) 0 n l3 l4 (wordB vs) = false) :
    Calls Tryd.prog 44 #[.agg #[.int .i64 7, .int .i64 n, .slice a2 vs.length p2, .slice a3 l3 p3, .slice a4 l4 p4], .int .i64 deep, .int .i64 left] w fun e w' => e = .returned (.int .i64 (-1)) ∧ Below w.heap.size w w' := by
  have b0 : ∀ o : Obj, Below w.heap.size w (w.alloc o) := fun o => (Below.refl _ _).alloc (Nat.le_refl _) o
  have Hb := hide' b0
  have HAr : Hid (∀ wx, Calls Tryd.prog 57 #[.int .i64 7] wx fun e w' => e = .returned (.int .i64 (0)) ∧ wx = w') := fun wx => l6arity_any 7 wx
  have HS : Hid (∀ wx, Below w.heap.size w wx → Calls Tryd.prog 42 #[.slice a2 vs.length p2] wx fun e w' => e = .returned (.bool (wordB vs)) ∧ Below wx.heap.size wx w') := fun wx hb => spec_l6free_any a2 p2 vs wx (s2.grow hb) hl2
  generalize wordB vs = sb at *
  have Hbad := hide' hbad
  have d1 : ¬ left - 1 < 0 := by omega
  have d2 : ¬ (10 : Int) < (deep : Int) := by omega
  unfold maxLen at hl2 hl3 hl4
  clear b0 hbad s2
  cases sb
  all_goals
    go_enter Tryd.func44, Tryd.ntmps44
    go_wp2_with (first | (go_at_call 57; refine (HAr.out _).mono ?_; rintro e w1 ⟨rfl, e1⟩; obtain rfl := e1) | (go_at_call 42; refine (HS.out _ (Hb.out _)).mono ?_; rintro e w1 ⟨rfl, bw⟩))
    all_goals first
      | (go_ret; exact ⟨rfl, Hb.out _⟩)
      | (go_ret; exact ⟨rfl, Below.on (Hb.out _) bw⟩)
      | (exfalso; have hbad := Hbad.out; clear Hbad HAr Hb; go_light; simp [hdR] at hbad; simp_all <;> omega)

set_option maxHeartbeats 4000000 in
set_option maxRecDepth 100000 in
theorem l6bad_c8 (n : Int) (a2 a3 a4 : Option Addr) (p2 p3 p4 l3 l4 : Nat) (vs : List Int) (deep : Nat) (left : Int) (w : World)
    (h1 : 1 ≤ left) (h2 : left ≤ 150) (h3 : deep ≤ 10) (s2 : Seg w a2 vs) (hl2 : vs.length ≤ maxLen) (hl3 : l3 ≤ maxLen) (hl4 : l4 ≤ maxLen) (hbad : hdR false (1) 0 n l3 l4 (nameB vs) = false) :
    Calls Tryd.prog 44 #[.agg #[.int .i64 8, .int .i64 n, .slice a2 vs.length p2, .slice a3 l3 p3, .slice a4 l4 p4], .int .i64 deep, .int .i64 left] w fun e w' => e = .returned (.int .i64 (-1)) ∧ Below w.heap.size w w' := by
  have b0 : ∀ o : Obj, Below w.heap.size w (w.alloc o) := fun o => (Below.refl _ _).alloc (Nat.le_refl _) o
  have Hb := hide' b0
  have HAr : Hid (∀ wx, Calls Tryd.prog 57 #[.int .i64 8] wx fun e w' => e = .returned (.int .i64 (1)) ∧ wx = w') := fun wx => l6arity_any 8 wx
  have HS : Hid (∀ wx, Below w.heap.size w wx → Calls Tryd.prog 45 #[.slice a2 vs.length p2] wx fun e w' => e = .returned (.bool (nameB vs)) ∧ wx = w') := fun wx hb => spec_NameOk_any a2 p2 vs wx (s2.grow hb) hl2
  generalize nameB vs = sb at *
  have Hbad := hide' hbad
  have d1 : ¬ left - 1 < 0 := by omega
  have d2 : ¬ (10 : Int) < (deep : Int) := by omega
  unfold maxLen at hl2 hl3 hl4
  clear b0 hbad s2
  cases sb
  all_goals
    go_enter Tryd.func44, Tryd.ntmps44
    go_wp2_with (first | (go_at_call 57; refine (HAr.out _).mono ?_; rintro e w1 ⟨rfl, e1⟩; obtain rfl := e1) | (go_at_call 45; refine (HS.out _ (Hb.out _)).mono ?_; rintro e w1 ⟨rfl, e1⟩; obtain rfl := e1))
    all_goals first
      | (go_ret; exact ⟨rfl, Hb.out _⟩)
      | (exfalso; have hbad := Hbad.out; clear Hbad HAr Hb; go_light; simp [hdR] at hbad; simp_all <;> omega)

set_option maxHeartbeats 4000000 in
set_option maxRecDepth 100000 in
theorem l6bad_c23 (n : Int) (a2 a3 a4 : Option Addr) (p2 p3 p4 l3 l4 : Nat) (vs : List Int) (deep : Nat) (left : Int) (w : World)
    (h1 : 1 ≤ left) (h2 : left ≤ 150) (h3 : deep ≤ 10) (s2 : Seg w a2 vs) (hl2 : vs.length ≤ maxLen) (hl3 : l3 ≤ maxLen) (hl4 : l4 ≤ maxLen) (hbad : hdR false (-1) 0 n l3 l4 (wordB vs) = false) :
    Calls Tryd.prog 44 #[.agg #[.int .i64 23, .int .i64 n, .slice a2 vs.length p2, .slice a3 l3 p3, .slice a4 l4 p4], .int .i64 deep, .int .i64 left] w fun e w' => e = .returned (.int .i64 (-1)) ∧ Below w.heap.size w w' := by
  have b0 : ∀ o : Obj, Below w.heap.size w (w.alloc o) := fun o => (Below.refl _ _).alloc (Nat.le_refl _) o
  have Hb := hide' b0
  have HAr : Hid (∀ wx, Calls Tryd.prog 57 #[.int .i64 23] wx fun e w' => e = .returned (.int .i64 (-1)) ∧ wx = w') := fun wx => l6arity_any 23 wx
  have HS : Hid (∀ wx, Below w.heap.size w wx → Calls Tryd.prog 45 #[.slice a2 vs.length p2] wx fun e w' => e = .returned (.bool (nameB vs)) ∧ wx = w') := fun wx hb => spec_NameOk_any a2 p2 vs wx (s2.grow hb) hl2
  have HS2 : Hid (∀ wx, Below w.heap.size w wx → Calls Tryd.prog 56 #[.slice a2 vs.length p2] wx fun e w' => e = .returned (.bool (keptB vs)) ∧ Below wx.heap.size wx w') := fun wx hb => spec_l6kept_any a2 p2 vs wx (s2.grow hb)
  have hw : wordB vs = (nameB vs && !keptB vs) := rfl
  rw [hw] at hbad
  clear hw
  generalize nameB vs = sb at *
  generalize keptB vs = kp at *
  have Hbad := hide' hbad
  have d1 : ¬ left - 1 < 0 := by omega
  have d2 : ¬ (10 : Int) < (deep : Int) := by omega
  unfold maxLen at hl2 hl3 hl4
  clear b0 hbad s2
  cases sb <;> cases kp
  all_goals
    go_enter Tryd.func44, Tryd.ntmps44
    go_wp2_with (first | (go_at_call 57; refine (HAr.out _).mono ?_; rintro e w1 ⟨rfl, e1⟩; obtain rfl := e1) | (go_at_call 45; refine (HS.out _ (Hb.out _)).mono ?_; rintro e w1 ⟨rfl, e1⟩; obtain rfl := e1) | (go_at_call 56; refine (HS2.out _ (Hb.out _)).mono ?_; rintro e w1 ⟨rfl, bw⟩))
    all_goals first
      | (go_ret; exact ⟨rfl, Hb.out _⟩)
      | (go_ret; exact ⟨rfl, Below.on (Hb.out _) bw⟩)
      | (exfalso; have hbad := Hbad.out; clear Hbad HAr Hb; go_light; simp [hdR] at hbad; simp_all <;> omega)
end Go.Proofs.YthkbapkndmlpfaaDoor
