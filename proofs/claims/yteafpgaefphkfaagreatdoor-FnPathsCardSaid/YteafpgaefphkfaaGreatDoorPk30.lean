/-
  Texts that a law leans on, one behind the other; no statement is proved here.
-/
import Derived.Test.YteafpgaefphkfaaGreatDoorPk23
import Derived.Test.YteafpgaefphkfaaGreatDoorPk1
import Derived.Test.YteafpgaefphkfaaGreatDoorPk24
import Derived.Test.YteafpgaefphkfaaGreatDoorPk9
/-
  valueOf of the program: parts without parts.
-/
namespace Go.Proofs.YteafpgaefphkfaaGreatDoor
open Go.RowKit Go.Shelf
set_option linter.unusedVariables false
set_option linter.unusedSimpArgs false

set_option maxHeartbeats 3200000 in
set_option maxRecDepth 100000 in
theorem valueOf_nullPart  (w : World) : Calls Tryz.prog 28 #[.iface 103 (.agg #[])] w fun e w' => e = .returned (.agg #[.int .i64 0, .int .i64 0, .slice none 0 0, .slice none 0 0, .slice none 0 0]) ∧ Below w.heap.size w w' := by
  have m1 := meth_nullPart (.agg #[])
  have t1 := nobool_nullPart (.agg #[])
  have t2 := noint_nullPart (.agg #[])
  have t3 := notext_nullPart (.agg #[])
  have t4 := nolist_nullPart (.agg #[])
  have t5 := nomap_nullPart (.agg #[])
  have HK := hide' (kind_nullPart)
  have HA : Hid (∀ o : Obj, Below w.heap.size w (w.alloc o)) := fun o => (Below.refl _ _).alloc (Nat.le_refl _) o
  go_enter Tryz.func28, Tryz.ntmps28
  go_wp2_with fail
  refine (HK.out _).mono ?_
  rintro e w1 ⟨rfl, b1⟩
  have hr : w1.heap[w.heap.size]? = some (.cells #[.int .i64 0, .int .i64 0, .slice none 0 0, .slice none 0 0, .slice none 0 0] 29 (0, 0)) := box_row b1
  obtain ⟨r0, r1, r2, r3, r4, rf⟩ := row5 hr
  have f0 := rf 0
  have f1 := rf 1
  have f2 := rf 2
  have f3 := rf 3
  have f4 := rf 4
  obtain ⟨s0, s1, s2, s3, s4, sf⟩ := box_later hr
  have B1 := hide' (Below.on (HA.out _) b1)
  have hlt : w.heap.size < w1.heap.size := (Array.getElem?_eq_some_iff.1 hr).1
  have Hr := hide' hr
  clear b1 rf hr
  go_wp2_with fail
  have hfin := box_later (set5_heap (j := 0) (.int .i64 0) (.int .i64 0) (.slice none 0 0) (.slice none 0 0) (.slice none 0 0) Hr.out)
  simp only [set5, Nat.zero_add] at hfin
  obtain ⟨y0, y1, y2, y3, y4, _⟩ := hfin
  refine bodyPost_ret (v := .agg #[.int .i64 0, .int .i64 0, .slice none 0 0, .slice none 0 0, .slice none 0 0]) (by simp [results, Tryz.results28, go_sem, y0, y1, y2, y3, y4]) rfl ?_
  refine ⟨rfl, ?_⟩
  have hz := B1.out.size
  have hg := set5_grown w1 w.heap.size 0 (.int .i64 0) (.int .i64 0) (.slice none 0 0) (.slice none 0 0) (.slice none 0 0)
  have hB := B1.out.grown hg hz (by intro j hj; simp at hj; omega)
  have hs5 := set5_size w1 w.heap.size 0 (.int .i64 0) (.int .i64 0) (.slice none 0 0) (.slice none 0 0) (.slice none 0 0)
  exact hB.alloc (by omega) _

set_option maxHeartbeats 3200000 in
set_option maxRecDepth 100000 in
theorem valueOf_unknownPart  (w : World) : Calls Tryz.prog 28 #[.iface 104 (.agg #[])] w fun e w' => e = .returned (.agg #[.int .i64 6, .int .i64 0, .slice none 0 0, .slice none 0 0, .slice none 0 0]) ∧ Below w.heap.size w w' := by
  have m1 := meth_unknownPart (.agg #[])
  have t1 := nobool_unknownPart (.agg #[])
  have t2 := noint_unknownPart (.agg #[])
  have t3 := notext_unknownPart (.agg #[])
  have t4 := nolist_unknownPart (.agg #[])
  have t5 := nomap_unknownPart (.agg #[])
  have HK := hide' (kind_unknownPart)
  have HA : Hid (∀ o : Obj, Below w.heap.size w (w.alloc o)) := fun o => (Below.refl _ _).alloc (Nat.le_refl _) o
  go_enter Tryz.func28, Tryz.ntmps28
  go_wp2_with fail
  refine (HK.out _).mono ?_
  rintro e w1 ⟨rfl, b1⟩
  have hr : w1.heap[w.heap.size]? = some (.cells #[.int .i64 0, .int .i64 0, .slice none 0 0, .slice none 0 0, .slice none 0 0] 29 (0, 0)) := box_row b1
  obtain ⟨r0, r1, r2, r3, r4, rf⟩ := row5 hr
  have f0 := rf 0
  have f1 := rf 1
  have f2 := rf 2
  have f3 := rf 3
  have f4 := rf 4
  obtain ⟨s0, s1, s2, s3, s4, sf⟩ := box_later hr
  have B1 := hide' (Below.on (HA.out _) b1)
  have hlt : w.heap.size < w1.heap.size := (Array.getElem?_eq_some_iff.1 hr).1
  have Hr := hide' hr
  clear b1 rf hr
  go_wp2_with fail
  have hfin := box_later (set5_heap (j := 0) (.int .i64 6) (.int .i64 0) (.slice none 0 0) (.slice none 0 0) (.slice none 0 0) Hr.out)
  simp only [set5, Nat.zero_add] at hfin
  obtain ⟨y0, y1, y2, y3, y4, _⟩ := hfin
  refine bodyPost_ret (v := .agg #[.int .i64 6, .int .i64 0, .slice none 0 0, .slice none 0 0, .slice none 0 0]) (by simp [results, Tryz.results28, go_sem, y0, y1, y2, y3, y4]) rfl ?_
  refine ⟨rfl, ?_⟩
  have hz := B1.out.size
  have hg := set5_grown w1 w.heap.size 0 (.int .i64 6) (.int .i64 0) (.slice none 0 0) (.slice none 0 0) (.slice none 0 0)
  have hB := B1.out.grown hg hz (by intro j hj; simp at hj; omega)
  have hs5 := set5_size w1 w.heap.size 0 (.int .i64 6) (.int .i64 0) (.slice none 0 0) (.slice none 0 0) (.slice none 0 0)
  exact hB.alloc (by omega) _

set_option maxHeartbeats 3200000 in
set_option maxRecDepth 100000 in
theorem valueOf_boolPart (n : Int) (w : World) : Calls Tryz.prog 28 #[.iface 84 (.agg #[.int .i64 n])] w fun e w' => e = .returned (.agg #[.int .i64 1, .int .i64 n, .slice none 0 0, .slice none 0 0, .slice none 0 0]) ∧ Below w.heap.size w w' := by
  have m1 := meth_boolPart (.agg #[.int .i64 n])
  have t1 := is_boolPart (.agg #[.int .i64 n])
  have HK := hide' (kind_boolPart n)
  have HA : Hid (∀ o : Obj, Below w.heap.size w (w.alloc o)) := fun o => (Below.refl _ _).alloc (Nat.le_refl _) o
  go_enter Tryz.func28, Tryz.ntmps28
  go_wp2_with fail
  refine (HK.out _).mono ?_
  rintro e w1 ⟨rfl, b1⟩
  have hr : w1.heap[w.heap.size]? = some (.cells #[.int .i64 0, .int .i64 0, .slice none 0 0, .slice none 0 0, .slice none 0 0] 29 (0, 0)) := box_row b1
  obtain ⟨r0, r1, r2, r3, r4, rf⟩ := row5 hr
  have f0 := rf 0
  have f1 := rf 1
  have f2 := rf 2
  have f3 := rf 3
  have f4 := rf 4
  obtain ⟨s0, s1, s2, s3, s4, sf⟩ := box_later2 hr
  have B1 := hide' (Below.on (HA.out _) b1)
  have hlt : w.heap.size < w1.heap.size := (Array.getElem?_eq_some_iff.1 hr).1
  have Hr := hide' hr
  clear b1 rf hr
  go_wp2_with fail
  have hfin := box_later2 (set5_heap (j := 0) (.int .i64 1) (.int .i64 n) (.slice none 0 0) (.slice none 0 0) (.slice none 0 0) Hr.out)
  simp only [set5, Nat.zero_add] at hfin
  obtain ⟨y0, y1, y2, y3, y4, _⟩ := hfin
  refine bodyPost_ret (v := .agg #[.int .i64 1, .int .i64 n, .slice none 0 0, .slice none 0 0, .slice none 0 0]) (by simp [results, Tryz.results28, go_sem, y0, y1, y2, y3, y4]) rfl ?_
  refine ⟨rfl, ?_⟩
  have hz := B1.out.size
  have hg := set5_grown w1 w.heap.size 0 (.int .i64 1) (.int .i64 n) (.slice none 0 0) (.slice none 0 0) (.slice none 0 0)
  have hB := B1.out.grown hg hz (by intro j hj; simp at hj; omega)
  have hs5 := set5_size w1 w.heap.size 0 (.int .i64 1) (.int .i64 n) (.slice none 0 0) (.slice none 0 0) (.slice none 0 0)
  exact (hB.alloc (by omega) _).alloc (by simp; omega) _

set_option maxHeartbeats 3200000 in
set_option maxRecDepth 100000 in
theorem valueOf_intPart (n : Int) (w : World) : Calls Tryz.prog 28 #[.iface 85 (.agg #[.int .i64 n])] w fun e w' => e = .returned (.agg #[.int .i64 2, .int .i64 n, .slice none 0 0, .slice none 0 0, .slice none 0 0]) ∧ Below w.heap.size w w' := by
  have m1 := meth_intPart (.agg #[.int .i64 n])
  have t1 := nobool_intPart (.agg #[.int .i64 n])
  have t2 := is_intPart (.agg #[.int .i64 n])
  have HK := hide' (kind_intPart n)
  have HA : Hid (∀ o : Obj, Below w.heap.size w (w.alloc o)) := fun o => (Below.refl _ _).alloc (Nat.le_refl _) o
  go_enter Tryz.func28, Tryz.ntmps28
  go_wp2_with fail
  refine (HK.out _).mono ?_
  rintro e w1 ⟨rfl, b1⟩
  have hr : w1.heap[w.heap.size]? = some (.cells #[.int .i64 0, .int .i64 0, .slice none 0 0, .slice none 0 0, .slice none 0 0] 29 (0, 0)) := box_row b1
  obtain ⟨r0, r1, r2, r3, r4, rf⟩ := row5 hr
  have f0 := rf 0
  have f1 := rf 1
  have f2 := rf 2
  have f3 := rf 3
  have f4 := rf 4
  obtain ⟨s0, s1, s2, s3, s4, sf⟩ := box_later2 hr
  have B1 := hide' (Below.on (HA.out _) b1)
  have hlt : w.heap.size < w1.heap.size := (Array.getElem?_eq_some_iff.1 hr).1
  have Hr := hide' hr
  clear b1 rf hr
  go_wp2_with fail
  have hfin := box_later2 (set5_heap (j := 0) (.int .i64 2) (.int .i64 n) (.slice none 0 0) (.slice none 0 0) (.slice none 0 0) Hr.out)
  simp only [set5, Nat.zero_add] at hfin
  obtain ⟨y0, y1, y2, y3, y4, _⟩ := hfin
  refine bodyPost_ret (v := .agg #[.int .i64 2, .int .i64 n, .slice none 0 0, .slice none 0 0, .slice none 0 0]) (by simp [results, Tryz.results28, go_sem, y0, y1, y2, y3, y4]) rfl ?_
  refine ⟨rfl, ?_⟩
  have hz := B1.out.size
  have hg := set5_grown w1 w.heap.size 0 (.int .i64 2) (.int .i64 n) (.slice none 0 0) (.slice none 0 0) (.slice none 0 0)
  have hB := B1.out.grown hg hz (by intro j hj; simp at hj; omega)
  have hs5 := set5_size w1 w.heap.size 0 (.int .i64 2) (.int .i64 n) (.slice none 0 0) (.slice none 0 0) (.slice none 0 0)
  exact (hB.alloc (by omega) _).alloc (by simp; omega) _

end Go.Proofs.YteafpgaefphkfaaGreatDoor
