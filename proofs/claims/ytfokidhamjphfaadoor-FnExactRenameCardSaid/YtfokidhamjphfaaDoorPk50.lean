/-
  Texts that a law leans on, one behind the other; no statement is proved here.
-/
import Derived.Test.YtfokidhamjphfaaDoorPk45
import Derived.Test.YtfokidhamjphfaaDoorPk49
/-
  Rename of the program. No statement is proved here.
-/
namespace Go.Proofs.YtfokidhamjphfaaDoor
open Go.RowKit
set_option linter.unusedVariables false
set_option linter.unusedSimpArgs false

set_option maxHeartbeats 3200000 in
set_option maxRecDepth 100000 in
theorem impl_Rename_any (fr tz : List Int) (d N : Nat) (ck cn : Int) (a2 : Option Addr) (l2 p2 : Nat) (a3 : Option Addr) (l3 p3 : Nat) (a4 : Option Addr) (l4 p4 : Nat) (v : Vl (d + 1)) (fa : Option Addr) (fc : Nat) (ta : Option Addr) (tc : Nat) (w : World) (hv : VSeg (fun b => b < N) w (d + 1) (.int .i64 ck, .int .i64 cn, .slice a2 l2 p2, .slice a3 l3 p3, .slice a4 l4 p4) v) (hN : N ≤ w.heap.size) (hF : TSeg (fun b => b < N) w (.slice fa fr.length fc) fr) (hT : TSeg (fun b => b < N) w (.slice ta tz.length tc) tz) (hb : bndV (d + 1) v) (htl : tz.length ≤ 1048576) (hSh : ShpT w) (hgN : 0 < N) :
    Calls Tryd.prog 6 #[.agg #[.int .i64 ck, .int .i64 cn, .slice a2 l2 p2, .slice a3 l3 p3, .slice a4 l4 p4], .slice fa fr.length fc, .slice ta tz.length tc] w (Ans d (rnA fr tz d v) (rnB fr tz d v) w) := by
  have HA : Hid (∀ o o' : Obj, Below w.heap.size w ((w.alloc o).alloc o') ∧ ((w.alloc o).alloc o').heap[w.heap.size]? = some o ∧ ((w.alloc o).alloc o').heap[w.heap.size + 1]? = some o') := fun o o' => ⟨((Below.refl _ _).alloc (Nat.le_refl _) o).alloc (by simp) o', (Below.heap_alloc _ _ _ (by simp)).trans (heap_alloc_new w o), by have := heap_alloc_new (w.alloc o) o'; simpa using this⟩
  have HFw : Hid (∀ wx, Below w.heap.size w wx → TSeg (fun b => b < N) wx (.slice fa fr.length fc) fr) := hide' (fun wx h => hF.agree fun b (hb' : b < N) => h.block b (by omega))
  have HTw : Hid (∀ wx, Below w.heap.size w wx → TSeg (fun b => b < N) wx (.slice ta tz.length tc) tz) := hide' (fun wx h => hT.agree fun b (hb' : b < N) => h.block b (by omega))
  have HV : Hid (∀ wx, Below w.heap.size w wx → VSeg (fun b => b < N) wx (d + 1) (.int .i64 ck, .int .i64 cn, .slice a2 l2 p2, .slice a3 l3 p3, .slice a4 l4 p4) v) := hide' (fun wx h => VSeg.agree (fun b (hb' : b < N) => h.block b (by omega)) (d + 1) hv)
  have hlf : fr.length ≤ maxLen := by obtain ⟨_, _, e, _, h1, h2, _⟩ := hF; simp only [Value.slice.injEq] at e; omega
  have hlt : tz.length ≤ maxLen := by unfold maxLen; omega
  have HOk : Hid (∀ wx, Below w.heap.size w wx → Calls Tryd.prog 26 #[.agg #[.int .i64 ck, .int .i64 cn, .slice a2 l2 p2, .slice a3 l3 p3, .slice a4 l4 p4]] wx fun e w' => e = .returned (.bool (exprB (d + 1) v)) ∧ Below wx.heap.size wx w') := hide' (fun wx h => impl_ExprOk_any (d + 1) N _ _ _ _ _ v wx (HV.out wx h) (by have := h.size; omega) (hSh.below h) hgN)
  have HN1 : Hid (∀ wx, Below w.heap.size w wx → Calls Tryd.prog 8 #[.slice fa fr.length fc] wx fun e w' => e = .returned (.bool (nameB fr)) ∧ wx = w') := hide' (fun wx h => impl_NameOk_any fa fc fr wx (seg_in (HFw.out wx h) (Below.refl _ _)) hlf)
  have HN2 : Hid (∀ wx, Below w.heap.size w wx → Calls Tryd.prog 8 #[.slice ta tz.length tc] wx fun e w' => e = .returned (.bool (nameB tz)) ∧ wx = w') := hide' (fun wx h => impl_NameOk_any ta tc tz wx (seg_in (HTw.out wx h) (Below.refl _ _)) hlt)
  have HR : Hid (∀ wx, Below w.heap.size w wx → Calls Tryd.prog 27 #[.agg #[.int .i64 ck, .int .i64 cn, .slice a2 l2 p2, .slice a3 l3 p3, .slice a4 l4 p4], .slice fa fr.length fc, .slice ta tz.length tc] wx (ValEnd (d + 1) (rnV fr tz (d + 1) v) wx)) := hide' (fun wx h => renamed_any fr tz (d + 1) N _ _ _ _ _ v fa fc ta tc wx (HV.out wx h) (by have := h.size; omega) (HFw.out wx h) (HTw.out wx h) hb htl)
  have HNo : Hid (rnB fr tz d v = false → rnA fr tz d v = vNil d) := hide' (fun h => by unfold rnA; rw [h]; rfl)
  have HYes : Hid (rnB fr tz d v = true → rnA fr tz d v = rnV fr tz (d + 1) v) := hide' (fun h => by unfold rnA; rw [if_pos h])
  have Hb0 : Hid (rnB fr tz d v = (exprB (d + 1) v && (nameB fr && nameB tz))) := hide' rfl
  clear hF hT hv hb hSh
  generalize fr.length = fn at *
  generalize tz.length = tn at *
  go_enter Tryd.func6, Tryd.ntmps6
  go_upto_region 1 with fail
  obtain ⟨hb1, hP, hR⟩ := HA.out (.cells #[.int .i64 ck, .int .i64 cn, .slice a2 l2 p2, .slice a3 l3 p3, .slice a4 l4 p4] 26) (.cells #[.int .i64 0, .int .i64 0, .slice none 0 0, .slice none 0 0, .slice none 0 0] 26)
  generalize (w.alloc (.cells #[.int .i64 ck, .int .i64 cn, .slice a2 l2 p2, .slice a3 l3 p3, .slice a4 l4 p4] 26)).alloc (.cells #[.int .i64 0, .int .i64 0, .slice none 0 0, .slice none 0 0, .slice none 0 0] 26) = w1 at *
  have hRl : w.heap.size + 1 < w1.heap.size := (Array.getElem?_eq_some_iff.1 hR).1
  have HBx : Hid (∀ wx, Below w1.heap.size w1 wx → Below w.heap.size w wx ∧ wx.heap[w.heap.size]? = some (.cells #[.int .i64 ck, .int .i64 cn, .slice a2 l2 p2, .slice a3 l3 p3, .slice a4 l4 p4] 26 (0, 0)) ∧ wx.heap[w.heap.size + 1]? = some (.cells #[.int .i64 0, .int .i64 0, .slice none 0 0, .slice none 0 0, .slice none 0 0] 26 (0, 0))) := hide' (fun wx h => ⟨Below.on hb1 h, (h.block _ (by omega)).trans hP, (h.block _ hRl).trans hR⟩)
  obtain ⟨P0, P1, P2, P3, P4, _⟩ := row5 hP
  have HB1 := hide' hb1
  clear HA hb1 hP hR
  go_wp2_with fail
  refine (HOk.out w1 HB1.out).mono ?_
  rintro e w2 ⟨rfl, hb2⟩
  obtain ⟨hbw, hP, hR⟩ := HBx.out w2 hb2
  have HB2 := hide' hb2
  clear P0 P1 P2 P3 P4 HB1 HOk
  by_cases hok : exprB (d + 1) v = true
  · rw [hok] at Hb0 ⊢
    clear hok
    go_wp2_with fail
    refine (HN1.out w2 hbw).mono ?_
    rintro e w2' ⟨rfl, rfl⟩
    by_cases hn1 : nameB fr = true
    · rw [hn1] at Hb0 ⊢
      clear hn1
      go_wp2_with fail
      refine (HN2.out w2 hbw).mono ?_
      rintro e w2' ⟨rfl, rfl⟩
      by_cases hn2 : nameB tz = true
      · rw [hn2] at Hb0 ⊢
        have hyes : rnB fr tz d v = true := Hb0.out
        clear hn2
        have HR2 := hide' (HR.out w2 hbw)
        have HA2 := hide' (HYes.out hyes)
        have Hy := hide' hyes
        clear HR HYes HNo Hb0 hyes
        obtain ⟨P0, P1, P2, P3, P4, _⟩ := row5 hP
        clear hP hR
        have Hbw := hide' hbw
        clear hbw
        go_wp2_with fail
        refine HR2.out.mono ?_
        rintro e w4 ⟨t0, t1, t2, t3, t4, rfl, B, hO, hBb, hb4⟩
        obtain ⟨tk, tm, y2, m2, q2, y3, m3, q3, y4, m4, q4, rfl, rfl, rfl, rfl, rfl⟩ := VOwn.form _ hO
        obtain ⟨hbw4, _, hR4⟩ := HBx.out w4 (Below.on HB2.out hb4)
        have HO := hide' hO
        have HBb : Hid (∀ b ∈ B, w.heap.size ≤ b ∧ b < w4.heap.size ∧ b ≠ w.heap.size + 1) := hide' (fun b hb => by have := hBb b hb; have := HB2.out.size; omega)
        have Hbw4 := hide' hbw4
        have HR4 := hide' hR4
        obtain ⟨r0, r1, r2', r3', r4', rf⟩ := row5 hR4
        have f0 := rf 0
        have f1 := rf 1
        have f2 := rf 2
        have f3 := rf 3
        have f4 := rf 4
        clear rf hO hBb hb4 hbw4 hR4 HR2 P0 P1 P2 P3 P4
        go_wp2_with fail
        have hfin := row5 (set5_heap (j := 0) (.int .i64 tk) (.int .i64 tm) (.slice y2 m2 q2) (.slice y3 m3 q3) (.slice y4 m4 q4) HR4.out)
        simp only [set5, Nat.zero_add] at hfin
        obtain ⟨o0, o1, o2, o3, o4, _⟩ := hfin
        refine bodyPost_ret (v := .tuple #[.agg #[.int .i64 tk, .int .i64 tm, .slice y2 m2 q2, .slice y3 m3 q3, .slice y4 m4 q4], .bool true]) (by simp [results, Tryd.results6, go_sem, o0, o1, o2, o3, o4]) rfl ?_
        have hE := ans_set5 (D := d) (bb := true) HO.out HBb.out Hbw4.out (by omega : w.heap.size ≤ w.heap.size + 1)
        simp only [set5, Nat.zero_add] at hE
        rw [Hy.out, HA2.out]
        exact hE
      · have hn2' : nameB tz = false := by simpa using hn2
        rw [hn2'] at Hb0 ⊢
        have hno : rnB fr tz d v = false := Hb0.out
        clear hn2 hn2'
        have HA2 := hide' (HNo.out hno)
        have Hy := hide' hno
        clear HNo HYes Hb0 hno HR
        have Hbw := hide' hbw
        have HR2 := hide' hR
        obtain ⟨r0, r1, r2', r3', r4', rf⟩ := row5 hR
        have f0 := rf 0
        have f1 := rf 1
        have f2 := rf 2
        have f3 := rf 3
        have f4 := rf 4
        clear rf hbw hR hP
        go_wp2_with fail
        have hfin := row5 (set5_heap (j := 0) (.int .i64 0) (.int .i64 0) (.slice none 0 0) (.slice none 0 0) (.slice none 0 0) HR2.out)
        simp only [set5, Nat.zero_add] at hfin
        obtain ⟨o0, o1, o2, o3, o4, _⟩ := hfin
        refine bodyPost_ret (v := .tuple #[.agg #[.int .i64 0, .int .i64 0, .slice none 0 0, .slice none 0 0, .slice none 0 0], .bool false]) (by simp [results, Tryd.results6, go_sem, o0, o1, o2, o3, o4]) rfl ?_
        have hE := ans_no5 (D := d) (bb := false) rfl Hbw.out (by omega : w.heap.size ≤ w.heap.size + 1)
        simp only [set5, Nat.zero_add] at hE
        rw [Hy.out, HA2.out]
        exact hE
    · have hn1' : nameB fr = false := by simpa using hn1
      rw [hn1'] at Hb0 ⊢
      have hno : rnB fr tz d v = false := Hb0.out
      clear hn1 hn1'
      have HA2 := hide' (HNo.out hno)
      have Hy := hide' hno
      clear HNo HYes Hb0 hno HR
      have Hbw := hide' hbw
      have HR2 := hide' hR
      obtain ⟨r0, r1, r2', r3', r4', rf⟩ := row5 hR
      have f0 := rf 0
      have f1 := rf 1
      have f2 := rf 2
      have f3 := rf 3
      have f4 := rf 4
      clear rf hbw hR hP
      go_wp2_with fail
      have hfin := row5 (set5_heap (j := 0) (.int .i64 0) (.int .i64 0) (.slice none 0 0) (.slice none 0 0) (.slice none 0 0) HR2.out)
      simp only [set5, Nat.zero_add] at hfin
      obtain ⟨o0, o1, o2, o3, o4, _⟩ := hfin
      refine bodyPost_ret (v := .tuple #[.agg #[.int .i64 0, .int .i64 0, .slice none 0 0, .slice none 0 0, .slice none 0 0], .bool false]) (by simp [results, Tryd.results6, go_sem, o0, o1, o2, o3, o4]) rfl ?_
      have hE := ans_no5 (D := d) (bb := false) rfl Hbw.out (by omega : w.heap.size ≤ w.heap.size + 1)
      simp only [set5, Nat.zero_add] at hE
      rw [Hy.out, HA2.out]
      exact hE
  · have hok' : exprB (d + 1) v = false := by simpa using hok
    rw [hok'] at Hb0 ⊢
    have hno : rnB fr tz d v = false := Hb0.out
    clear hok hok'
    have HA2 := hide' (HNo.out hno)
    have Hy := hide' hno
    clear HNo HYes Hb0 hno HR
    have Hbw := hide' hbw
    have HR2 := hide' hR
    obtain ⟨r0, r1, r2', r3', r4', rf⟩ := row5 hR
    have f0 := rf 0
    have f1 := rf 1
    have f2 := rf 2
    have f3 := rf 3
    have f4 := rf 4
    clear rf hbw hR hP
    go_wp2_with fail
    have hfin := row5 (set5_heap (j := 0) (.int .i64 0) (.int .i64 0) (.slice none 0 0) (.slice none 0 0) (.slice none 0 0) HR2.out)
    simp only [set5, Nat.zero_add] at hfin
    obtain ⟨o0, o1, o2, o3, o4, _⟩ := hfin
    refine bodyPost_ret (v := .tuple #[.agg #[.int .i64 0, .int .i64 0, .slice none 0 0, .slice none 0 0, .slice none 0 0], .bool false]) (by simp [results, Tryd.results6, go_sem, o0, o1, o2, o3, o4]) rfl ?_
    have hE := ans_no5 (D := d) (bb := false) rfl Hbw.out (by omega : w.heap.size ≤ w.heap.size + 1)
    simp only [set5, Nat.zero_add] at hE
    rw [Hy.out, HA2.out]
    exact hE
end Go.Proofs.YtfokidhamjphfaaDoor
