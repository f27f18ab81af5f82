/-
  Texts that a law leans on, one behind the other; no statement is proved here.
-/
import Derived.Test.YteafpgaefphkfaaGreatDoorPk40
import Derived.Deep.RegionLaw
import Derived.Deep.CutRange
/-
  l2draw of the specification, with parts, on a heap on which values are drawn. No statement is proved here.
-/
namespace Go.Proofs.YteafpgaefphkfaaGreatDoor
open Go.RowKit
set_option linter.unusedVariables false
set_option linter.unusedSimpArgs false

set_option maxHeartbeats 12800000 in
set_option maxRecDepth 100000 in
theorem l2draw_deep_hs (n : Nat) (ih : DrAt n) (ρ B M : Nat) (hρ : ρ = n + 1) (rk : Nat → Nat) (g : Nat) (a : Option Addr) (cap : Nat) (cs : List Int) (deep : Int) (w : World) (h : Hs B M rk w g a cap cs) (hdp : 0 < deep) (hdn : deep ≤ n + 1) (hn : n ≤ 999) (hM1 : 64 ≤ M) (hM2 : M ≤ 1000000) : Calls Tryz.prog 36 #[.pointer (some ⟨g, 0, none⟩), .int .i64 deep] w (DrwEnd B M rk ρ g a cap cs w) := by
  have hgl := h.lt
  have hB := h.base
  have HA : Hid (∀ o : Obj, Below w.heap.size w (w.alloc o) ∧ (w.alloc o).heap[w.heap.size]? = some o) := fun o => ⟨(Below.refl _ _).alloc (Nat.le_refl _) o, heap_alloc_new w o⟩
  have HL : Hid (∀ (n : Int) (rkx : Nat → Nat) (wx : World), n ≤ 9223372036854775807 → Hs B M rkx wx g a cap cs → _) := fun n rkx wx hn hd => l1Below_hs hd n hn
  have hH0 : Hw B M (rkUp rk w.heap.size ρ) (w.alloc (.cells #[.int .i64 0, .int .i64 0, .slice none 0 0, .slice none 0 0, .slice none 0 0] 29)) := h.1.alloc_v ρ _ _ _ _ _ (grp_leaf _ _ _ _ _ _ _)
  have HS0 : Hid (Hs B M (rkUp rk w.heap.size ρ) (w.alloc (.cells #[.int .i64 0, .int .i64 0, .slice none 0 0, .slice none 0 0, .slice none 0 0] 29)) g a cap cs) := h.below hH0 (HA.out _).1
  have HT0 : Hid (Hst rk w (rkUp rk w.heap.size ρ) (w.alloc (.cells #[.int .i64 0, .int .i64 0, .slice none 0 0, .slice none 0 0, .slice none 0 0] 29)) g) := Hst.below (HA.out _).1 (rkUp_old _ _ _)
  have HkR : Hid (rkUp rk w.heap.size ρ w.heap.size = ρ) := rkUp_at _ _ _
  generalize rkUp rk w.heap.size ρ = rk0 at *
  clear h hH0
  go_enter Tryz.func36, Tryz.ntmps36
  go_wp2_with fail
  refine (HL.out 9 rk0 _ (by omega) HS0.out).mono ?_
  rintro e w1 ⟨k, rfl, hk0, hk9, _, hd1, hg1, hsh1⟩
  have hk9' : k < 9 := hk9 (by omega)
  have HT1 : Hid (Hst rk w rk0 w1 g) := HT0.out.trans (Hst.cus hg1 hsh1)
  have hr1 := (hg1.1.block w.heap.size (by simp) (by simp; omega)).trans (HA.out _).2
  have hz1 : w.heap.size < w1.heap.size := (Array.getElem?_eq_some_iff.1 hr1).1
  have HR1 := hide' hr1
  have HS1 := hide' hd1
  clear hd1 hg1 hr1 hk9 HS0 hsh1 HT0
  subst hρ
  have HWr : Hid (IntKind.i64.wrap (deep - 1) = deep - 1) := hide' (by simp only [IntKind.wrap, IntKind.bits, IntKind.signed]; simp; omega)
  have hdp' : ¬ deep ≤ (0 : Int) := by omega
  obtain rfl | rfl | rfl | rfl | rfl | rfl | rfl | rfl | rfl : k = 0 ∨ k = 1 ∨ k = 2 ∨ k = 3 ∨ k = 4 ∨ k = 5 ∨ k = 6 ∨ k = 7 ∨ k = 8 := by omega
  · obtain ⟨r0, r1, r2, r3, r4, rf⟩ := row5 HR1.out
    have f0 := rf 0
    have f1 := rf 1
    have f2 := rf 2
    have f3 := rf 3
    have f4 := rf 4
    clear rf
    go_wp2_with fail
    have hfin := row5 (set5_heap (j := 0) (.int .i64 0) (.int .i64 0) (.slice none 0 0) (.slice none 0 0) (.slice none 0 0) HR1.out)
    simp only [set5, Nat.zero_add] at hfin
    obtain ⟨o0, o1, o2, o3, o4, _⟩ := hfin
    refine bodyPost_ret (v := .agg #[.int .i64 0, .int .i64 0, .slice none 0 0, .slice none 0 0, .slice none 0 0]) (by simp [results, Tryz.results36, go_sem, o0, o1, o2, o3, o4]) rfl ?_
    exact drw_end HS1.out HT1.out HR1.out (Nat.le_refl _) hB (grp_leaf _ _ _ _ _ _ _) (by rw [HkR.out]; exact Nat.le_refl _)
  · have HL1 := hide' (HL.out 2 rk0 w1 (by omega) HS1.out)
    go_wp2_with fail
    refine HL1.out.mono ?_
    rintro e w2 ⟨n2, rfl, hn0, hn2, _, hd2, hg2, hsh2⟩
    have HS2 := hide' hd2
    have HT2 := hide' (HT1.out.trans (Hst.cus hg2 hsh2))
    have HR2 := hide' ((hg2.1.block w.heap.size hz1 (by simp; omega)).trans HR1.out)
    have hz2 := Nat.le_of_eq hg2.2.symm
    clear hd2 hg2 hsh2 HL1
    clear hn2
    obtain ⟨r0, r1, r2, r3, r4, rf⟩ := row5 HR2.out
    have f0 := rf 0
    have f1 := rf 1
    have f2 := rf 2
    have f3 := rf 3
    have f4 := rf 4
    clear rf
    go_wp2_with fail
    have hfin := row5 (set5_heap (j := 0) (.int .i64 1) (.int .i64 n2) (.slice none 0 0) (.slice none 0 0) (.slice none 0 0) HR2.out)
    simp only [set5, Nat.zero_add] at hfin
    obtain ⟨o0, o1, o2, o3, o4, _⟩ := hfin
    refine bodyPost_ret (v := .agg #[.int .i64 1, .int .i64 n2, .slice none 0 0, .slice none 0 0, .slice none 0 0]) (by simp [results, Tryz.results36, go_sem, o0, o1, o2, o3, o4]) rfl ?_
    exact drw_end HS2.out HT2.out HR2.out (Nat.le_refl _) hB (grp_leaf _ _ _ _ _ _ _) (by rw [HkR.out]; exact Nat.le_refl _)
  · have HL1 := hide' (HL.out 5000 rk0 w1 (by omega) HS1.out)
    go_wp2_with fail
    refine HL1.out.mono ?_
    rintro e w2 ⟨z, rfl, hz0, hzn, _, hd2, hg2, hsh2⟩
    have HS2 := hide' hd2
    have HT2 := hide' (HT1.out.trans (Hst.cus hg2 hsh2))
    have HR2 := hide' ((hg2.1.block w.heap.size hz1 (by simp; omega)).trans HR1.out)
    have hz2 := Nat.le_of_eq hg2.2.symm
    clear hd2 hg2 hsh2 HL1
    clear hzn
    have HA2 : Hid (∀ o : Obj, Below w2.heap.size w2 (w2.alloc o) ∧ (w2.alloc o).heap[w2.heap.size]? = some o) := fun o => ⟨(Below.refl _ _).alloc (Nat.le_refl _) o, heap_alloc_new w2 o⟩
    have HC : Hid (∀ k, k < 8 → ∃ y : Int, (w2.alloc (.cells #[.int .i64 0, .int .i64 1, .int .i64 (-1), .int .i64 7, .int .i64 42, .int .i64 1000000000000, .int .i64 (-1000000000000), .int .i64 z] 3)).cell? ⟨w2.heap.size, k, none⟩ = some (.int .i64 y)) := by
      intro k hk
      rw [cell_of_row _ w2.heap.size k _ 3 (0, 0) (HA2.out _).2]
      obtain rfl | rfl | rfl | rfl | rfl | rfl | rfl | rfl : k = 0 ∨ k = 1 ∨ k = 2 ∨ k = 3 ∨ k = 4 ∨ k = 5 ∨ k = 6 ∨ k = 7 := by omega
      all_goals exact ⟨_, rfl⟩
    have hHx := HS2.out.below (HS2.out.1.alloc_other #[.int .i64 0, .int .i64 1, .int .i64 (-1), .int .i64 7, .int .i64 42, .int .i64 1000000000000, .int .i64 (-1000000000000), .int .i64 z] 3 (0, 0) (by decide)) (HA2.out _).1
    have hgl2 := HS2.out.lt
    have HPk := hide' (l1PickInt_hs hHx w2.heap.size 8 8 (by omega) (by omega) (by omega) (by simp) HC.out)
    clear HC hHx
    go_wp2_with fail
    refine HPk.out.mono ?_
    rintro e w3 ⟨n3, rfl, hd3, hg3, hsh3⟩
    have HS3 := hide' hd3
    have HT3 := hide' (HT2.out.trans ((Hst.below (HA2.out _).1 (Rks.refl _ _)).trans (Hst.cus hg3 hsh3)))
    have HR3 := hide' ((hg3.1.block w.heap.size (by simp; omega) (by simp; omega)).trans (((HA2.out _).1.block w.heap.size (by omega)).trans HR2.out))
    clear hd3 hg3 HPk hsh3
    obtain ⟨r0, r1, r2, r3, r4, rf⟩ := row5 HR3.out
    have f0 := rf 0
    have f1 := rf 1
    have f2 := rf 2
    have f3 := rf 3
    have f4 := rf 4
    clear rf
    go_wp2_with fail
    have hfin := row5 (set5_heap (j := 0) (.int .i64 2) (.int .i64 n3) (.slice none 0 0) (.slice none 0 0) (.slice none 0 0) HR3.out)
    simp only [set5, Nat.zero_add] at hfin
    obtain ⟨o0, o1, o2, o3, o4, _⟩ := hfin
    refine bodyPost_ret (v := .agg #[.int .i64 2, .int .i64 n3, .slice none 0 0, .slice none 0 0, .slice none 0 0]) (by simp [results, Tryz.results36, go_sem, o0, o1, o2, o3, o4]) rfl ?_
    exact drw_end HS3.out HT3.out HR3.out (Nat.le_refl _) hB (grp_leaf _ _ _ _ _ _ _) (by rw [HkR.out]; exact Nat.le_refl _)
  · have HL1 := hide' (HL.out 5000 rk0 w1 (by omega) HS1.out)
    go_wp2_with fail
    refine HL1.out.mono ?_
    rintro e w2 ⟨z, rfl, hz0, hzn, _, hd2, hg2, hsh2⟩
    have HS2 := hide' hd2
    have HT2 := hide' (HT1.out.trans (Hst.cus hg2 hsh2))
    have HR2 := hide' ((hg2.1.block w.heap.size hz1 (by simp; omega)).trans HR1.out)
    have hz2 := Nat.le_of_eq hg2.2.symm
    clear hd2 hg2 hsh2 HL1
    clear hzn
    have HA2 : Hid (∀ o : Obj, Below w2.heap.size w2 (w2.alloc o) ∧ (w2.alloc o).heap[w2.heap.size]? = some o) := fun o => ⟨(Below.refl _ _).alloc (Nat.le_refl _) o, heap_alloc_new w2 o⟩
    have HC : Hid (∀ k, k < 8 → ∃ y : Int, (w2.alloc (.cells #[.int .i64 0, .int .i64 1, .int .i64 (-1), .int .i64 7, .int .i64 42, .int .i64 1000000000000, .int .i64 (-1000000000000), .int .i64 z] 3)).cell? ⟨w2.heap.size, k, none⟩ = some (.int .i64 y)) := by
      intro k hk
      rw [cell_of_row _ w2.heap.size k _ 3 (0, 0) (HA2.out _).2]
      obtain rfl | rfl | rfl | rfl | rfl | rfl | rfl | rfl : k = 0 ∨ k = 1 ∨ k = 2 ∨ k = 3 ∨ k = 4 ∨ k = 5 ∨ k = 6 ∨ k = 7 := by omega
      all_goals exact ⟨_, rfl⟩
    have hHx := HS2.out.below (HS2.out.1.alloc_other #[.int .i64 0, .int .i64 1, .int .i64 (-1), .int .i64 7, .int .i64 42, .int .i64 1000000000000, .int .i64 (-1000000000000), .int .i64 z] 3 (0, 0) (by decide)) (HA2.out _).1
    have hgl2 := HS2.out.lt
    have HPk := hide' (l1PickInt_hs hHx w2.heap.size 8 8 (by omega) (by omega) (by omega) (by simp) HC.out)
    clear HC hHx
    go_wp2_with fail
    refine HPk.out.mono ?_
    rintro e w3 ⟨n3, rfl, hd3, hg3, hsh3⟩
    have HS3 := hide' hd3
    have HT3 := hide' (HT2.out.trans ((Hst.below (HA2.out _).1 (Rks.refl _ _)).trans (Hst.cus hg3 hsh3)))
    have HR3 := hide' ((hg3.1.block w.heap.size (by simp; omega) (by simp; omega)).trans (((HA2.out _).1.block w.heap.size (by omega)).trans HR2.out))
    clear hd3 hg3 HPk hsh3
    obtain ⟨r0, r1, r2, r3, r4, rf⟩ := row5 HR3.out
    have f0 := rf 0
    have f1 := rf 1
    have f2 := rf 2
    have f3 := rf 3
    have f4 := rf 4
    clear rf
    go_wp2_with fail
    have hfin := row5 (set5_heap (j := 0) (.int .i64 2) (.int .i64 n3) (.slice none 0 0) (.slice none 0 0) (.slice none 0 0) HR3.out)
    simp only [set5, Nat.zero_add] at hfin
    obtain ⟨o0, o1, o2, o3, o4, _⟩ := hfin
    refine bodyPost_ret (v := .agg #[.int .i64 2, .int .i64 n3, .slice none 0 0, .slice none 0 0, .slice none 0 0]) (by simp [results, Tryz.results36, go_sem, o0, o1, o2, o3, o4]) rfl ?_
    exact drw_end HS3.out HT3.out HR3.out (Nat.le_refl _) hB (grp_leaf _ _ _ _ _ _ _) (by rw [HkR.out]; exact Nat.le_refl _)
  · have HA1 : Hid (∀ o : Obj, Below w1.heap.size w1 (w1.alloc o) ∧ (w1.alloc o).heap[w1.heap.size]? = some o) := fun o => ⟨(Below.refl _ _).alloc (Nat.le_refl _) o, heap_alloc_new w1 o⟩
    have HLt : Hid (∀ cur : Array Value, Calls Tryz.prog 18 #[.pointer (some ⟨g, 0, none⟩), .int .i64 6] (w1.alloc (.cells cur 9)) fun e w' => ∃ x : Int, e = .returned (.int .i64 x) ∧ 0 ≤ x ∧ (0 < (6 : Int) → x < 6) ∧ ((6 : Int) ≤ 0 → x = 0) ∧ Hs B M rk0 w' g a cap cs ∧ Cus g (w1.alloc (.cells cur 9)) w' ∧ Shp (w1.alloc (.cells cur 9)) w') := fun cur => l1Below_hs (HS1.out.below (HS1.out.1.alloc_other cur 9 (0, 0) (by decide)) (HA1.out _).1) 6 (by omega)
    have hgl1 := HS1.out.lt
    go_wp2_with fail
    refine (HLt.out _).mono ?_
    rintro e w2 ⟨x, rfl, hx0, hx6, _, hd2, hg2, hsh2⟩
    obtain ⟨q, rfl⟩ : ∃ q : Nat, x = q := ⟨x.toNat, by omega⟩
    have hq : q < 6 := by have := hx6 (by omega); omega
    have HT2 := hide' (HT1.out.trans ((Hst.below (HA1.out _).1 (Rks.refl _ _)).trans (Hst.cus hg2 hsh2)))
    have hblk := (hg2.1.block w1.heap.size (by simp) (by simp; omega)).trans (HA1.out _).2
    have hRx2 := (hg2.1.block w.heap.size (by simp; omega) (by simp; omega)).trans (((HA1.out _).1.block w.heap.size (by omega)).trans HR1.out)
    have hcell : w2.cell? ⟨w1.heap.size, q, none⟩ = some (.string (strOf (texts6.getD q []))) := by
      rw [cell_of_row w2 w1.heap.size q _ 9 (0, 0) hblk]
      obtain rfl | rfl | rfl | rfl | rfl | rfl : q = 0 ∨ q = 1 ∨ q = 2 ∨ q = 3 ∨ q = 4 ∨ q = 5 := by omega
      all_goals rfl
    obtain ⟨hnl, hnb⟩ := texts6_ok q hq
    obtain ⟨ck, wB, hconv, hT, hHB, hBB⟩ := conv_hw (texts6.getD q []) hnb (by omega) w2 hd2.1 hd2.base (by omega)
    have hzB := (Array.getElem?_eq_some_iff.1 hRx2).1
    have HSB := hide' (hd2.below hHB hBB)
    have HTB := hide' (HT2.out.trans (Hst.below hBB (Rks.refl _ _)))
    have HRB := hide' ((hBB.block w.heap.size hzB).trans hRx2)
    have HTx := hide' hT
    have hq' : (q : Int) < 6 := by omega
    have hq0 : (0 : Int) ≤ (q : Int) := by omega
    generalize (texts6.getD q []).length = nl at HTx hconv
    generalize strOf (texts6.getD q []) = sx at hcell hconv
    clear hT hHB hBB hd2 hg2 hsh2 hblk hRx2 HA1 HLt hnl hnb hx6 hx0
    obtain ⟨r0, r1, r2, r3, r4, rf⟩ := row5 HRB.out
    have f0 := rf 0
    have f1 := rf 1
    have f2 := rf 2
    have f3 := rf 3
    have f4 := rf 4
    clear rf
    go_wp2_with fail
    have hfin := row5 (set5_heap (j := 0) (.int .i64 3) (.int .i64 0) (.slice (some ⟨w2.heap.size, 0, none⟩) nl ck) (.slice none 0 0) (.slice none 0 0) HRB.out)
    simp only [set5, Nat.zero_add] at hfin
    obtain ⟨o0, o1, o2, o3, o4, _⟩ := hfin
    refine bodyPost_ret (v := .agg #[.int .i64 3, .int .i64 0, .slice (some ⟨w2.heap.size, 0, none⟩) nl ck, .slice none 0 0, .slice none 0 0]) (by simp [results, Tryz.results36, go_sem, o0, o1, o2, o3, o4]) rfl ?_
    exact drw_end HSB.out HTB.out HRB.out (Nat.le_refl _) hB ⟨⟨3, rfl⟩, ⟨0, rfl⟩, HTx.out, sli_nil _ _ _ _ _ _, sli_nil _ _ _ _ _ _⟩ (by rw [HkR.out]; exact Nat.le_refl _)
  · have HA1 : Hid (∀ o : Obj, Below w1.heap.size w1 (w1.alloc o) ∧ (w1.alloc o).heap[w1.heap.size]? = some o) := fun o => ⟨(Below.refl _ _).alloc (Nat.le_refl _) o, heap_alloc_new w1 o⟩
    have HLt : Hid (∀ cur : Array Value, Calls Tryz.prog 18 #[.pointer (some ⟨g, 0, none⟩), .int .i64 6] (w1.alloc (.cells cur 9)) fun e w' => ∃ x : Int, e = .returned (.int .i64 x) ∧ 0 ≤ x ∧ (0 < (6 : Int) → x < 6) ∧ ((6 : Int) ≤ 0 → x = 0) ∧ Hs B M rk0 w' g a cap cs ∧ Cus g (w1.alloc (.cells cur 9)) w' ∧ Shp (w1.alloc (.cells cur 9)) w') := fun cur => l1Below_hs (HS1.out.below (HS1.out.1.alloc_other cur 9 (0, 0) (by decide)) (HA1.out _).1) 6 (by omega)
    have hgl1 := HS1.out.lt
    go_wp2_with fail
    refine (HLt.out _).mono ?_
    rintro e w2 ⟨x, rfl, hx0, hx6, _, hd2, hg2, hsh2⟩
    obtain ⟨q, rfl⟩ : ∃ q : Nat, x = q := ⟨x.toNat, by omega⟩
    have hq : q < 6 := by have := hx6 (by omega); omega
    have HT2 := hide' (HT1.out.trans ((Hst.below (HA1.out _).1 (Rks.refl _ _)).trans (Hst.cus hg2 hsh2)))
    have hblk := (hg2.1.block w1.heap.size (by simp) (by simp; omega)).trans (HA1.out _).2
    have hRx2 := (hg2.1.block w.heap.size (by simp; omega) (by simp; omega)).trans (((HA1.out _).1.block w.heap.size (by omega)).trans HR1.out)
    have hcell : w2.cell? ⟨w1.heap.size, q, none⟩ = some (.string (strOf (texts6.getD q []))) := by
      rw [cell_of_row w2 w1.heap.size q _ 9 (0, 0) hblk]
      obtain rfl | rfl | rfl | rfl | rfl | rfl : q = 0 ∨ q = 1 ∨ q = 2 ∨ q = 3 ∨ q = 4 ∨ q = 5 := by omega
      all_goals rfl
    obtain ⟨hnl, hnb⟩ := texts6_ok q hq
    obtain ⟨ck, wB, hconv, hT, hHB, hBB⟩ := conv_hw (texts6.getD q []) hnb (by omega) w2 hd2.1 hd2.base (by omega)
    have hzB := (Array.getElem?_eq_some_iff.1 hRx2).1
    have HSB := hide' (hd2.below hHB hBB)
    have HTB := hide' (HT2.out.trans (Hst.below hBB (Rks.refl _ _)))
    have HRB := hide' ((hBB.block w.heap.size hzB).trans hRx2)
    have HTx := hide' hT
    have hq' : (q : Int) < 6 := by omega
    have hq0 : (0 : Int) ≤ (q : Int) := by omega
    generalize (texts6.getD q []).length = nl at HTx hconv
    generalize strOf (texts6.getD q []) = sx at hcell hconv
    clear hT hHB hBB hd2 hg2 hsh2 hblk hRx2 HA1 HLt hnl hnb hx6 hx0
    obtain ⟨r0, r1, r2, r3, r4, rf⟩ := row5 HRB.out
    have f0 := rf 0
    have f1 := rf 1
    have f2 := rf 2
    have f3 := rf 3
    have f4 := rf 4
    clear rf
    go_wp2_with fail
    have hfin := row5 (set5_heap (j := 0) (.int .i64 3) (.int .i64 0) (.slice (some ⟨w2.heap.size, 0, none⟩) nl ck) (.slice none 0 0) (.slice none 0 0) HRB.out)
    simp only [set5, Nat.zero_add] at hfin
    obtain ⟨o0, o1, o2, o3, o4, _⟩ := hfin
    refine bodyPost_ret (v := .agg #[.int .i64 3, .int .i64 0, .slice (some ⟨w2.heap.size, 0, none⟩) nl ck, .slice none 0 0, .slice none 0 0]) (by simp [results, Tryz.results36, go_sem, o0, o1, o2, o3, o4]) rfl ?_
    exact drw_end HSB.out HTB.out HRB.out (Nat.le_refl _) hB ⟨⟨3, rfl⟩, ⟨0, rfl⟩, HTx.out, sli_nil _ _ _ _ _ _, sli_nil _ _ _ _ _ _⟩ (by rw [HkR.out]; exact Nat.le_refl _)
  · have HA1 : Hid (∀ o : Obj, Below w1.heap.size w1 (w1.alloc o) ∧ (w1.alloc o).heap[w1.heap.size]? = some o) := fun o => ⟨(Below.refl _ _).alloc (Nat.le_refl _) o, heap_alloc_new w1 o⟩
    have hHO : Hw B M (rkUp rk0 w1.heap.size (n + 1)) (w1.alloc (.cells #[.int .i64 4, .int .i64 0, .slice none 0 0, .slice none 0 0, .slice none 0 0] 29)) := HS1.out.1.alloc_v (n + 1) _ _ _ _ _ (grp_leaf _ _ _ _ _ _ _)
    have hRk : Rks rk0 (rkUp rk0 w1.heap.size (n + 1)) w1.heap.size := rkUp_old _ _ _
    have hkO : rkUp rk0 w1.heap.size (n + 1) w1.heap.size = n + 1 := rkUp_at _ _ _
    generalize rkUp rk0 w1.heap.size (n + 1) = rk1 at *
    have hSO := HS1.out.below hHO (HA1.out (.cells #[.int .i64 4, .int .i64 0, .slice none 0 0, .slice none 0 0, .slice none 0 0] 29)).1
    have HLO := hide' (l1Below_hs hSO 4 (by omega))
    have hgl1 := HS1.out.lt
    go_wp2_with fail
    refine HLO.out.mono ?_
    rintro e w2 ⟨x, rfl, hx0, hx4, _, hd2, hg2, hsh2⟩
    obtain ⟨N, rfl⟩ : ∃ N : Nat, x = N := ⟨x.toNat, by omega⟩
    have hN : N < 4 := by have := hx4 (by omega); omega
    have hT2 := HT1.out.trans ((Hst.below (HA1.out (.cells #[.int .i64 4, .int .i64 0, .slice none 0 0, .slice none 0 0, .slice none 0 0] 29)).1 hRk).trans (Hst.cus hg2 hsh2))
    have hO2 := (hg2.1.block w1.heap.size (by simp) (by simp; omega)).trans (HA1.out _).2
    have hR2 := (hg2.1.block w.heap.size (by simp; omega) (by simp; omega)).trans (((HA1.out _).1.block w.heap.size (by omega)).trans HR1.out)
    have hOl : w1.heap.size < w2.heap.size := (Array.getElem?_eq_some_iff.1 hO2).1
    have hkR1 : rk1 w.heap.size = n + 1 := (hRk _ (by omega)).trans HkR.out
    have hgl2 : g < w2.heap.size := hd2.lt
    have HS0 : Hid (LSt B M rk n w g a cap cs w.heap.size w1.heap.size w2 rk1 0 rk1 w2 none 0) := hide' ⟨⟨hd2.1, Rks.refl _ _, sli_nil _ _ _ _ _ _, sli_nil _ _ _ _ _ _, hO2, Nat.le_refl _⟩, hd2, hT2, hR2, hkR1⟩
    have HrO : Hid (n < rk1 w1.heap.size) := hide' (by omega)
    have HBO : Hid (B ≤ w1.heap.size) := hide' (by omega)
    have HOz : Hid (w1.heap.size < w2.heap.size) := hide' hOl
    have HMl := hide' hM2
    clear hd2 hg2 hsh2 hT2 hO2 hR2 hkR1 HLO hSO hHO hRk hkO HA1 HL hx4 hx0
    go_wp2_with fail
    go_loopw [8] (fun i wr => ∃ k : Nat, k ≤ N ∧ i = .int .i64 k ∧ ∃ (rkr : Nat → Nat) (pL : Option Addr) (cL : Nat), Hid (LSt B M rk n w g a cap cs w.heap.size w1.heap.size w2 rk1 k rkr wr pL cL)) (fun i _ => N - (intOf i).toNat)
    case atStart => exact ⟨0, Nat.zero_le _, rfl, _, _, _, HS0⟩
    case round =>
      obtain ⟨k, hk, rfl, rkr, pL, cL, hI⟩ := hrel
      obtain ⟨o0, o1, o2, o3, o4, of⟩ := row5 hI.out.1.2.2.2.2.1
      by_cases hlt : k < N
      · have hlt' : (k : Int) < (N : Int) := by omega
        have HE : Hid (∀ (dd : Int) (wy : World), dd = deep - 1 → (wy.heap = wr.heap ∧ wy.os = wr.os ∧ wy.tape = wr.tape ∧ wy.output = wr.output) → Calls Tryz.prog 36 #[.pointer (some ⟨g, 0, none⟩), .int .i64 dd] wy (LCallD B M rk n w g a cap cs w.heap.size w1.heap.size w2 rk1 k pL cL)) := fun dd wy hd hy => by
          subst hd
          exact (ih B M rkr g a cap cs (deep - 1) wy (hI.out.2.1.heap hy.1) (by omega) (by omega) (by omega) hM1 HMl.out).mono fun e w5 he => lst_drawn hI.out hy.1 hy.2.1 hy.2.2.1 hy.2.2.2 he
        have HI := hide' hI.out
        clear hI
        go_wp2_with fail
        go_region_law (first | (go_simp; go_at_call 36; refine (HE.out _ _ (by first | rfl | exact HWr.out | omega) (by exact ⟨rfl, rfl, rfl, rfl⟩)).mono ?_; rintro e w5 ⟨xk, xn, b2, m2, q2, b3, m3, q3, b4, m4, q4, rk5, rfl, hG5, hL5, hc5, hca5⟩; replace hL5 := hide' hL5; replace hG5 := hide' hG5) | (refine step_set_v (by rfl) _ _ (by rfl) hL5.out.1 (by rfl) (by rfl) HBO.out HOz.out HrO.out (by omega) HMl.out hG5.out ⟨rfl, rfl, rfl, rfl⟩ ?_; intro g8 cp8 w8 rk8 hV8 hS8 hR8 hO8; obtain ⟨_, _, _, _, cl8, _⟩ := row5 hV8; have hf8 := frozen_of_row w8 w1.heap.size 4 _ _ hV8; replace hS8 := hide' (lst_app hL5.out hS8 hR8 hO8 hgl2 hz1 HOz.out (Nat.le_refl _) hB); clear hV8 hO8 hR8) | fail)
        all_goals (clear HI HE o0 o1 o2 o3 o4 of)
        all_goals go_wp2
        all_goals go_roundw
        all_goals first | exact ⟨k + 1, by omega, by go_num, _, _, _, hS8⟩ | (simp [intOf]; omega)
      · have hltn : ¬ (k : Int) < (N : Int) := by omega
        have HR3 := hide' hI.out.2.2.2.1
        have HS3 := hide' hI.out.2.1
        have HT3 := hide' hI.out.2.2.1
        have HK3 := hide' hI.out.2.2.2.2
        have hGz := HBO.out
        have HG3 : Hid (Grp B M rkr (n + 1) wr (.int .i64 4, .int .i64 0, .slice none 0 0, .slice none 0 0, .slice pL k cL)) := hide' ⟨⟨4, rfl⟩, ⟨0, rfl⟩, sli_nil _ _ _ _ _ _, sli_nil _ _ _ _ _ _, hI.out.1.2.2.2.1.base (by omega) fun _ h => h.2⟩
        clear hI
        obtain ⟨r0, r1, r2, r3, r4, rf⟩ := row5 HR3.out
        have f0 := rf 0
        have f1 := rf 1
        have f2 := rf 2
        have f3 := rf 3
        have f4 := rf 4
        clear rf
        go_wp2_with fail
        have hfin := row5 (set5_heap (j := 0) (.int .i64 4) (.int .i64 0) (.slice none 0 0) (.slice none 0 0) (.slice pL k cL) HR3.out)
        simp only [set5, Nat.zero_add] at hfin
        obtain ⟨o0, o1, o2, o3, o4, _⟩ := hfin
        refine bodyPost_ret (v := .agg #[.int .i64 4, .int .i64 0, .slice none 0 0, .slice none 0 0, .slice pL k cL]) (by simp [results, Tryz.results36, go_sem, o0, o1, o2, o3, o4]) rfl ?_
        exact drw_end HS3.out HT3.out HR3.out (Nat.le_refl _) hB HG3.out (by rw [HK3.out]; exact Nat.le_refl _)
  · have HO1 := hide' (l1Once_hs HS1.out 3 (by omega))
    go_wp2_with fail
    refine HO1.out.mono ?_
    rintro e wo ⟨bo, rfl, hdo, hgo, hsho⟩
    have HTo := hide' (HT1.out.trans (Hst.cus hgo hsho))
    have HSo := hide' hdo
    have HRo := hide' ((hgo.1.block w.heap.size hz1 (by simp; omega)).trans HR1.out)
    have hzo : w.heap.size < wo.heap.size := by have := hgo.2; omega
    clear hdo hgo hsho HO1 HR1 HS1 HT1 hz1
    cases bo
    · have HR1 := HRo
      have HS1 := HSo
      have HT1 := HTo
      have hz1 := hzo
      clear HRo HSo HTo hzo
      have HA1 : Hid (∀ o : Obj, Below wo.heap.size wo (wo.alloc o) ∧ (wo.alloc o).heap[wo.heap.size]? = some o) := fun o => ⟨(Below.refl _ _).alloc (Nat.le_refl _) o, heap_alloc_new wo o⟩
      have hHO : Hw B M (rkUp rk0 wo.heap.size (n + 1)) (wo.alloc (.cells #[.int .i64 5, .int .i64 0, .slice none 0 0, .slice none 0 0, .slice none 0 0] 29)) := HS1.out.1.alloc_v (n + 1) _ _ _ _ _ (grp_leaf _ _ _ _ _ _ _)
      have hRk : Rks rk0 (rkUp rk0 wo.heap.size (n + 1)) wo.heap.size := rkUp_old _ _ _
      have hkO : rkUp rk0 wo.heap.size (n + 1) wo.heap.size = n + 1 := rkUp_at _ _ _
      generalize rkUp rk0 wo.heap.size (n + 1) = rk1 at *
      have hSO := HS1.out.below hHO (HA1.out (.cells #[.int .i64 5, .int .i64 0, .slice none 0 0, .slice none 0 0, .slice none 0 0] 29)).1
      have HLO := hide' (l1Below_hs hSO 4 (by omega))
      have hgl1 := HS1.out.lt
      go_wp2_with fail
      refine HLO.out.mono ?_
      rintro e w2 ⟨x, rfl, hx0, hx4, _, hd2, hg2, hsh2⟩
      obtain ⟨N, rfl⟩ : ∃ N : Nat, x = N := ⟨x.toNat, by omega⟩
      have hN : N < 4 := by have := hx4 (by omega); omega
      have hT2 := HT1.out.trans ((Hst.below (HA1.out (.cells #[.int .i64 5, .int .i64 0, .slice none 0 0, .slice none 0 0, .slice none 0 0] 29)).1 hRk).trans (Hst.cus hg2 hsh2))
      have hO2 := (hg2.1.block wo.heap.size (by simp) (by simp; omega)).trans (HA1.out _).2
      have hR2 := (hg2.1.block w.heap.size (by simp; omega) (by simp; omega)).trans (((HA1.out _).1.block w.heap.size (by omega)).trans HR1.out)
      have hOl : wo.heap.size < w2.heap.size := (Array.getElem?_eq_some_iff.1 hO2).1
      have hkR1 : rk1 w.heap.size = n + 1 := (hRk _ (by omega)).trans HkR.out
      have hgl2 : g < w2.heap.size := hd2.lt
      have HM0 : Hid (MSt B M rk n w g a cap cs w.heap.size wo.heap.size 0 rk1 w2 none 0 none 0) := hide' ⟨hd2, hT2, hR2, hkR1, hkO, hO2, grp_leaf _ _ _ _ _ _ _⟩
      have HMl := hide' hM2
      have HRO : Hid (w.heap.size < wo.heap.size) := hide' hz1
      clear hd2 hg2 hsh2 hT2 hO2 hR2 hkR1 HLO hSO hHO hRk hkO HA1 HL hx4 hx0
      go_wp2_with fail
      go_loopw [11] (fun i wr => ∃ k m : Nat, k ≤ N ∧ m ≤ k ∧ i = .int .i64 k ∧ ∃ (rkr : Nat → Nat) (a3 : Option Addr) (c3 : Nat) (a4 : Option Addr) (c4 : Nat), Hid (MSt B M rk n w g a cap cs w.heap.size wo.heap.size m rkr wr a3 c3 a4 c4)) (fun i _ => N - (intOf i).toNat)
      case atStart => exact ⟨0, 0, Nat.zero_le _, Nat.le_refl _, rfl, _, _, _, _, _, HM0⟩
      case round =>
        obtain ⟨k, m, hk, hmk, rfl, rkr, a3, c3, a4, c4, hI⟩ := hrel
        obtain ⟨o0, o1, o2, o3, o4, of⟩ := row5 hI.out.2.2.2.2.2.1
        by_cases hlt : k < N
        · have hlt' : (k : Int) < (N : Int) := by omega
          have HE : Hid (∀ (rkx : Nat → Nat) (dd : Int) (wy : World), dd = deep - 1 → Hs B M rkx wy g a cap cs → Calls Tryz.prog 36 #[.pointer (some ⟨g, 0, none⟩), .int .i64 dd] wy (DrwEnd B M rkx n g a cap cs wy)) := fun rkx dd wy hd hy => by
            subst hd
            exact ih B M rkx g a cap cs (deep - 1) wy hy (by omega) (by omega) (by omega) hM1 HMl.out
          have HOl : Hid (wo.heap.size < wr.heap.size) := hide' (Array.getElem?_eq_some_iff.1 hI.out.2.2.2.2.2.1).1
          have HOg : Hid (wo.heap.size ≠ g) := hide' (hI.out.1.ne_row hI.out.2.2.2.2.2.1 row3_v)
          have HI := hide' hI.out
          clear hI
          go_wp2_with fail
          go_region_law (first | (go_simp; go_at_call 32; (first | (refine (l2drawName_hs B M rkD g a cap cs _ (by exact hSD.out.heap rfl) (by omega)).mono ?_; rintro e wN ⟨nk, nl, nc, rfl, hN1, hN2, hN3⟩; have hTN := hide' (hTD.out.trans (hN3.heap (w := wD) rfl rfl rfl rfl)); replace hGD := hide' (hGD.out.shp (hN3.heap (w := wD) rfl rfl rfl rfl).2.2 (hN3.heap (w := wD) rfl rfl rfl rfl).1 (Nat.le_refl _)); have hS9 := hide' hN2; have hT9 := hTN) | (refine (l2drawName_hs B M rkr g a cap cs _ (by exact HI.out.1.heap rfl) (by omega)).mono ?_; rintro e wN ⟨nk, nl, nc, rfl, hN1, hN2, hN3⟩; have hTN := hide' (hN3.heap (w := wr) rfl rfl rfl rfl))); replace hN1 := hide' hN1; replace hN2 := hide' hN2; obtain ⟨n0, n1, n2, n3, n4, _⟩ := row5 ((hTN.out.block HOl.out HOg.out).trans HI.out.2.2.2.2.2.1); clear hN3) | (go_simp; go_at_call 36; (first | (refine (HE.out rkr _ _ (by first | rfl | exact HWr.out | omega) (by exact hN2.out.heap rfl)).mono ?_; rintro e wD ⟨xk, xn, b2, m2, q2, b3, m3, q3, b4, m4, q4, rkD, rfl, hG5, hS5, hT5⟩; have hTD := hide' (hTN.out.trans (hT5.heap (w := wN) rfl rfl rfl rfl)); replace hN1 := hide' (hN1.out.shp row3_b (hT5.heap (w := wN) rfl rfl rfl rfl).2.2 fun _ _ h => h); have hS9 := hide' hS5; have hT9 := hTD) | (refine (HE.out rkr _ _ (by first | rfl | exact HWr.out | omega) (by exact HI.out.1.heap rfl)).mono ?_; rintro e wD ⟨xk, xn, b2, m2, q2, b3, m3, q3, b4, m4, q4, rkD, rfl, hG5, hS5, hT5⟩; have hTD := hide' (hT5.heap (w := wr) rfl rfl rfl rfl))); have hGD := hide' hG5; have hSD := hide' hS5; obtain ⟨d0, d1, d2, d3, d4, _⟩ := row5 ((hTD.out.block HOl.out HOg.out).trans HI.out.2.2.2.2.2.1); clear hG5 hS5 hT5) | (go_simp; go_at_call 35; refine (l2set_hw B M rkD n 5 0 none 0 0 a3 m c3 a4 c4 xk xn b2 m2 q2 b3 m3 q3 b4 m4 q4 nk nl nc _ (by exact hS9.out.1.heap rfl) (by have := hS9.out.base; exact this) (by exact (HI.out.2.2.2.2.2.2.shp hT9.out.2.2 hT9.out.1 (Nat.le_refl _)).shp (Shp.heap rfl) (Rks.refl _ _) (Nat.le_refl _)) (by exact hN1.out.shp row3_b (Shp.heap rfl) fun _ _ h => h) (by exact hGD.out.shp (Shp.heap rfl) (Rks.refl _ _) (Nat.le_refl _)) (by omega) HMl.out).mono ?_; rintro e w4 ⟨s3, t3, s4, t4, m', rk4, rfl, hm', hG4, hH4, hR4, hB4⟩; obtain ⟨hO4, hM4⟩ := mst_next HI.out HRO.out (Nat.le_refl _) hB hT9.out hS9.out hG4 hH4 hR4 (below_heap hB4 rfl rfl rfl rfl); obtain ⟨q0, q1, q2', q3', q4', qf⟩ := row5 hO4; have qf0 := qf 0; have qf1 := qf 1; have qf2 := qf 2; have qf3 := qf 3; have qf4 := qf 4; replace hM4 := hide' hM4; clear hG4 hH4 hR4 hB4 hO4 qf) | fail)
          all_goals (clear HI HE o0 o1 o2 o3 o4 of)
          all_goals go_wp2
          all_goals go_roundw
          all_goals first | exact ⟨k + 1, m', by omega, by omega, by go_num, _, _, _, _, _, hM4⟩ | (simp [intOf]; omega)
        · have hltn : ¬ (k : Int) < (N : Int) := by omega
          have HR3 := hide' hI.out.2.2.1
          have HS3 := hide' hI.out.1
          have HT3 := hide' hI.out.2.1
          have HK3 := hide' hI.out.2.2.2.1
          have HG3 := hide' hI.out.2.2.2.2.2.2
          clear hI
          obtain ⟨r0, r1, r2, r3, r4, rf⟩ := row5 HR3.out
          have f0 := rf 0
          have f1 := rf 1
          have f2 := rf 2
          have f3 := rf 3
          have f4 := rf 4
          clear rf
          go_wp2_with fail
          have hfin := row5 (set5_heap (j := 0) (.int .i64 5) (.int .i64 0) (.slice none 0 0) (.slice a3 m c3) (.slice a4 m c4) HR3.out)
          simp only [set5, Nat.zero_add] at hfin
          obtain ⟨o0, o1, o2, o3, o4, _⟩ := hfin
          refine bodyPost_ret (v := .agg #[.int .i64 5, .int .i64 0, .slice none 0 0, .slice a3 m c3, .slice a4 m c4]) (by simp [results, Tryz.results36, go_sem, o0, o1, o2, o3, o4]) rfl ?_
          exact drw_end HS3.out HT3.out HR3.out (Nat.le_refl _) hB HG3.out (by rw [HK3.out]; exact Nat.le_refl _)
    · obtain ⟨r0, r1, r2, r3, r4, rf⟩ := row5 HRo.out
      have f0 := rf 0
      have f1 := rf 1
      have f2 := rf 2
      have f3 := rf 3
      have f4 := rf 4
      clear rf
      go_wp2_with fail
      have hfin := row5 (set5_heap (j := 0) (.int .i64 6) (.int .i64 0) (.slice none 0 0) (.slice none 0 0) (.slice none 0 0) HRo.out)
      simp only [set5, Nat.zero_add] at hfin
      obtain ⟨o0, o1, o2, o3, o4, _⟩ := hfin
      refine bodyPost_ret (v := .agg #[.int .i64 6, .int .i64 0, .slice none 0 0, .slice none 0 0, .slice none 0 0]) (by simp [results, Tryz.results36, go_sem, o0, o1, o2, o3, o4]) rfl ?_
      exact drw_end HSo.out HTo.out HRo.out (Nat.le_refl _) hB (grp_leaf _ _ _ _ _ _ _) (by rw [HkR.out]; exact Nat.le_refl _)
  · have HA1 : Hid (∀ o : Obj, Below w1.heap.size w1 (w1.alloc o) ∧ (w1.alloc o).heap[w1.heap.size]? = some o) := fun o => ⟨(Below.refl _ _).alloc (Nat.le_refl _) o, heap_alloc_new w1 o⟩
    have hHO : Hw B M (rkUp rk0 w1.heap.size (n + 1)) (w1.alloc (.cells #[.int .i64 5, .int .i64 0, .slice none 0 0, .slice none 0 0, .slice none 0 0] 29)) := HS1.out.1.alloc_v (n + 1) _ _ _ _ _ (grp_leaf _ _ _ _ _ _ _)
    have hRk : Rks rk0 (rkUp rk0 w1.heap.size (n + 1)) w1.heap.size := rkUp_old _ _ _
    have hkO : rkUp rk0 w1.heap.size (n + 1) w1.heap.size = n + 1 := rkUp_at _ _ _
    generalize rkUp rk0 w1.heap.size (n + 1) = rk1 at *
    have hSO := HS1.out.below hHO (HA1.out (.cells #[.int .i64 5, .int .i64 0, .slice none 0 0, .slice none 0 0, .slice none 0 0] 29)).1
    have HLO := hide' (l1Below_hs hSO 4 (by omega))
    have hgl1 := HS1.out.lt
    go_wp2_with fail
    refine HLO.out.mono ?_
    rintro e w2 ⟨x, rfl, hx0, hx4, _, hd2, hg2, hsh2⟩
    obtain ⟨N, rfl⟩ : ∃ N : Nat, x = N := ⟨x.toNat, by omega⟩
    have hN : N < 4 := by have := hx4 (by omega); omega
    have hT2 := HT1.out.trans ((Hst.below (HA1.out (.cells #[.int .i64 5, .int .i64 0, .slice none 0 0, .slice none 0 0, .slice none 0 0] 29)).1 hRk).trans (Hst.cus hg2 hsh2))
    have hO2 := (hg2.1.block w1.heap.size (by simp) (by simp; omega)).trans (HA1.out _).2
    have hR2 := (hg2.1.block w.heap.size (by simp; omega) (by simp; omega)).trans (((HA1.out _).1.block w.heap.size (by omega)).trans HR1.out)
    have hOl : w1.heap.size < w2.heap.size := (Array.getElem?_eq_some_iff.1 hO2).1
    have hkR1 : rk1 w.heap.size = n + 1 := (hRk _ (by omega)).trans HkR.out
    have hgl2 : g < w2.heap.size := hd2.lt
    have HM0 : Hid (MSt B M rk n w g a cap cs w.heap.size w1.heap.size 0 rk1 w2 none 0 none 0) := hide' ⟨hd2, hT2, hR2, hkR1, hkO, hO2, grp_leaf _ _ _ _ _ _ _⟩
    have HMl := hide' hM2
    have HRO : Hid (w.heap.size < w1.heap.size) := hide' hz1
    clear hd2 hg2 hsh2 hT2 hO2 hR2 hkR1 HLO hSO hHO hRk hkO HA1 HL hx4 hx0
    go_wp2_with fail
    go_loopw [11] (fun i wr => ∃ k m : Nat, k ≤ N ∧ m ≤ k ∧ i = .int .i64 k ∧ ∃ (rkr : Nat → Nat) (a3 : Option Addr) (c3 : Nat) (a4 : Option Addr) (c4 : Nat), Hid (MSt B M rk n w g a cap cs w.heap.size w1.heap.size m rkr wr a3 c3 a4 c4)) (fun i _ => N - (intOf i).toNat)
    case atStart => exact ⟨0, 0, Nat.zero_le _, Nat.le_refl _, rfl, _, _, _, _, _, HM0⟩
    case round =>
      obtain ⟨k, m, hk, hmk, rfl, rkr, a3, c3, a4, c4, hI⟩ := hrel
      obtain ⟨o0, o1, o2, o3, o4, of⟩ := row5 hI.out.2.2.2.2.2.1
      by_cases hlt : k < N
      · have hlt' : (k : Int) < (N : Int) := by omega
        have HE : Hid (∀ (rkx : Nat → Nat) (dd : Int) (wy : World), dd = deep - 1 → Hs B M rkx wy g a cap cs → Calls Tryz.prog 36 #[.pointer (some ⟨g, 0, none⟩), .int .i64 dd] wy (DrwEnd B M rkx n g a cap cs wy)) := fun rkx dd wy hd hy => by
          subst hd
          exact ih B M rkx g a cap cs (deep - 1) wy hy (by omega) (by omega) (by omega) hM1 HMl.out
        have HOl : Hid (w1.heap.size < wr.heap.size) := hide' (Array.getElem?_eq_some_iff.1 hI.out.2.2.2.2.2.1).1
        have HOg : Hid (w1.heap.size ≠ g) := hide' (hI.out.1.ne_row hI.out.2.2.2.2.2.1 row3_v)
        have HI := hide' hI.out
        clear hI
        go_wp2_with fail
        go_region_law (first | (go_simp; go_at_call 32; (first | (refine (l2drawName_hs B M rkD g a cap cs _ (by exact hSD.out.heap rfl) (by omega)).mono ?_; rintro e wN ⟨nk, nl, nc, rfl, hN1, hN2, hN3⟩; have hTN := hide' (hTD.out.trans (hN3.heap (w := wD) rfl rfl rfl rfl)); replace hGD := hide' (hGD.out.shp (hN3.heap (w := wD) rfl rfl rfl rfl).2.2 (hN3.heap (w := wD) rfl rfl rfl rfl).1 (Nat.le_refl _)); have hS9 := hide' hN2; have hT9 := hTN) | (refine (l2drawName_hs B M rkr g a cap cs _ (by exact HI.out.1.heap rfl) (by omega)).mono ?_; rintro e wN ⟨nk, nl, nc, rfl, hN1, hN2, hN3⟩; have hTN := hide' (hN3.heap (w := wr) rfl rfl rfl rfl))); replace hN1 := hide' hN1; replace hN2 := hide' hN2; obtain ⟨n0, n1, n2, n3, n4, _⟩ := row5 ((hTN.out.block HOl.out HOg.out).trans HI.out.2.2.2.2.2.1); clear hN3) | (go_simp; go_at_call 36; (first | (refine (HE.out rkr _ _ (by first | rfl | exact HWr.out | omega) (by exact hN2.out.heap rfl)).mono ?_; rintro e wD ⟨xk, xn, b2, m2, q2, b3, m3, q3, b4, m4, q4, rkD, rfl, hG5, hS5, hT5⟩; have hTD := hide' (hTN.out.trans (hT5.heap (w := wN) rfl rfl rfl rfl)); replace hN1 := hide' (hN1.out.shp row3_b (hT5.heap (w := wN) rfl rfl rfl rfl).2.2 fun _ _ h => h); have hS9 := hide' hS5; have hT9 := hTD) | (refine (HE.out rkr _ _ (by first | rfl | exact HWr.out | omega) (by exact HI.out.1.heap rfl)).mono ?_; rintro e wD ⟨xk, xn, b2, m2, q2, b3, m3, q3, b4, m4, q4, rkD, rfl, hG5, hS5, hT5⟩; have hTD := hide' (hT5.heap (w := wr) rfl rfl rfl rfl))); have hGD := hide' hG5; have hSD := hide' hS5; obtain ⟨d0, d1, d2, d3, d4, _⟩ := row5 ((hTD.out.block HOl.out HOg.out).trans HI.out.2.2.2.2.2.1); clear hG5 hS5 hT5) | (go_simp; go_at_call 35; refine (l2set_hw B M rkD n 5 0 none 0 0 a3 m c3 a4 c4 xk xn b2 m2 q2 b3 m3 q3 b4 m4 q4 nk nl nc _ (by exact hS9.out.1.heap rfl) (by have := hS9.out.base; exact this) (by exact (HI.out.2.2.2.2.2.2.shp hT9.out.2.2 hT9.out.1 (Nat.le_refl _)).shp (Shp.heap rfl) (Rks.refl _ _) (Nat.le_refl _)) (by exact hN1.out.shp row3_b (Shp.heap rfl) fun _ _ h => h) (by exact hGD.out.shp (Shp.heap rfl) (Rks.refl _ _) (Nat.le_refl _)) (by omega) HMl.out).mono ?_; rintro e w4 ⟨s3, t3, s4, t4, m', rk4, rfl, hm', hG4, hH4, hR4, hB4⟩; obtain ⟨hO4, hM4⟩ := mst_next HI.out HRO.out (Nat.le_refl _) hB hT9.out hS9.out hG4 hH4 hR4 (below_heap hB4 rfl rfl rfl rfl); obtain ⟨q0, q1, q2', q3', q4', qf⟩ := row5 hO4; have qf0 := qf 0; have qf1 := qf 1; have qf2 := qf 2; have qf3 := qf 3; have qf4 := qf 4; replace hM4 := hide' hM4; clear hG4 hH4 hR4 hB4 hO4 qf) | fail)
        all_goals (clear HI HE o0 o1 o2 o3 o4 of)
        all_goals go_wp2
        all_goals go_roundw
        all_goals first | exact ⟨k + 1, m', by omega, by omega, by go_num, _, _, _, _, _, hM4⟩ | (simp [intOf]; omega)
      · have hltn : ¬ (k : Int) < (N : Int) := by omega
        have HR3 := hide' hI.out.2.2.1
        have HS3 := hide' hI.out.1
        have HT3 := hide' hI.out.2.1
        have HK3 := hide' hI.out.2.2.2.1
        have HG3 := hide' hI.out.2.2.2.2.2.2
        clear hI
        obtain ⟨r0, r1, r2, r3, r4, rf⟩ := row5 HR3.out
        have f0 := rf 0
        have f1 := rf 1
        have f2 := rf 2
        have f3 := rf 3
        have f4 := rf 4
        clear rf
        go_wp2_with fail
        have hfin := row5 (set5_heap (j := 0) (.int .i64 5) (.int .i64 0) (.slice none 0 0) (.slice a3 m c3) (.slice a4 m c4) HR3.out)
        simp only [set5, Nat.zero_add] at hfin
        obtain ⟨o0, o1, o2, o3, o4, _⟩ := hfin
        refine bodyPost_ret (v := .agg #[.int .i64 5, .int .i64 0, .slice none 0 0, .slice a3 m c3, .slice a4 m c4]) (by simp [results, Tryz.results36, go_sem, o0, o1, o2, o3, o4]) rfl ?_
        exact drw_end HS3.out HT3.out HR3.out (Nat.le_refl _) hB HG3.out (by rw [HK3.out]; exact Nat.le_refl _)

theorem l2draw_hs (n : Nat) : DrAt n := by
  induction n with
  | zero => exact fun B M rk g a cap cs deep w h hd _ _ h1 h2 => l2draw_flat_hs 0 B M rk g a cap cs deep w h (by simpa using hd) h1 h2
  | succ n ih =>
    intro B M rk g a cap cs deep w h hd hm hn h1 h2
    by_cases hp : 0 < deep
    · exact l2draw_deep_hs n ih (n + 1) B M rfl rk g a cap cs deep w h hp (by omega) (by omega) h1 h2
    · exact l2draw_flat_hs (n + 1) B M rk g a cap cs deep w h (by omega) h1 h2
end Go.Proofs.YteafpgaefphkfaaGreatDoor
