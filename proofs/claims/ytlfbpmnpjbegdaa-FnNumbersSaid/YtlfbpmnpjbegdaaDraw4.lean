/-
  The draws for PutNum, PutText and GetNum.
-/
import Derived.Test.YtlfbpmnpjbegdaaSpoil
namespace Go.Proofs.Ytlfbpmnpjbegdaa
open Go.RowKit
set_option linter.unusedVariables false

set_option maxHeartbeats 1600000 in
theorem DrawPutNum_any (a : Option Addr) (cap : Nat) (xs : List Int) (w : World) (ha : Seg w a xs) (hl : xs.length ≤ maxLen) :
    Calls Try.prog 12 #[.slice a xs.length cap] w fun e w' => ∃ v ys z, e = .returned (.tuple #[v, .int .i64 z]) ∧ Bts w' w.heap.size v ys ∧ ys.length ≤ 100 ∧ z ≤ 9223372036854775807 ∧ Below w.heap.size w w' := by
  go_enter Try.func12, Try.ntmps12
  go_wp2_with fail
  refine (l1New_drw a cap xs _ ha hl).mono ?_
  rintro e w1 ⟨rfl, hd1, b1⟩
  have z1 := hd1.lt
  go_wp2_with fail
  refine (l1some_drw _ a cap xs 4 _ hd1 (by omega)).mono ?_
  rintro e w2 ⟨v, ys, rfl, hv2, hyl, hd2, hg2⟩
  have B2 := Below.of_grown b1 hg2 (by intro j hj; simp at hj; omega)
  go_wp2_with fail
  refine (l1num_drw _ a cap xs _ hd2).mono ?_
  rintro e w3 ⟨z, rfl, hz, hd3, hg3⟩
  have B3 := Below.of_grown B2 hg3 (by intro j hj; simp at hj; omega)
  have hv3 := hv2.keptg hg3 z1
  go_wp2
  go_ret2
  exact ⟨_, ys, z, rfl, hv3.mono (by omega), by omega, hz, B3⟩

set_option maxHeartbeats 1600000 in
theorem DrawPutText_any (a : Option Addr) (cap : Nat) (xs : List Int) (w : World) (ha : Seg w a xs) (hl : xs.length ≤ maxLen) :
    Calls Try.prog 15 #[.slice a xs.length cap] w fun e w' => ∃ v1 v2 ys zs, e = .returned (.tuple #[v1, v2]) ∧ Bts w' w.heap.size v1 ys ∧ Bts w' w.heap.size v2 zs ∧ ys.length ≤ 100 ∧ zs.length ≤ 100 ∧ Below w.heap.size w w' := by
  obtain ⟨i0, hi, hz0, hz1, hz2⟩ := info_parts info5
  go_enter Try.func15, Try.ntmps15
  go_wp2_with fail
  refine (l1New_drw a cap xs _ ha hl).mono ?_
  rintro e w1 ⟨rfl, hd1, b1⟩
  have z1 := hd1.lt
  go_wp2_with fail
  refine (l1some_drw _ a cap xs 3 _ hd1 (by omega)).mono ?_
  rintro e w2 ⟨v, ys, rfl, hv2, hyl, hd2, hg2⟩
  have B2 := Below.of_grown b1 hg2 (by intro j hj; simp at hj; omega)
  have z2 := hg2.size
  clear hd1 hg2 b1
  go_wp2_with fail
  refine (l1some_drw _ a cap xs 6 _ hd2 (by omega)).mono ?_
  rintro e w3 ⟨v3, zs, rfl, hv3, hzl, hd3, hg3⟩
  have B3 := Below.of_grown B2 hg3 (by intro j hj; simp at hj; omega)
  have hy3 := hv2.keptg hg3 z1
  have z3 := hg3.size
  clear hd2 hg3 B2 hv2
  go_wp2_with fail
  refine (l1Once_drw _ a cap xs _ _ hd3 (by omega)).mono ?_
  rintro e w4 ⟨bb, rfl, hd4, hg4⟩
  have B4 := Below.of_grown B3 hg4 (by intro j hj; simp at hj; omega)
  have hy4 := hy3.keptg hg4 z1
  have hv4 := hv3.keptg hg4 (by omega)
  have z4 := hg4.size
  clear hd3 hg4 B3 hv3 hy3
  cases bb with
  | false =>
    go_wp2
    go_ret2
    exact ⟨_, _, ys, zs, rfl, hy4.mono (by omega), hv4.mono (by omega), by omega, by omega, B4⟩
  | true =>
    clear hv4
    go_wp2_with fail
    refine (l1Below_drw _ a cap xs _ _ hd4 (by omega)).mono ?_
    rintro e w5 ⟨x, rfl, hx0, hx1, _, hd5, hg5⟩
    have hx2 : x < 2 := hx1 (by omega)
    obtain ⟨m, rfl⟩ := Int.eq_ofNat_of_zero_le hx0
    clear hx0 hx1
    have B5 := Below.of_grown B4 hg5 (by intro j hj; simp at hj; omega)
    have hy5 := hy4.keptg hg5 z1
    have z5 := B5.size
    clear hd4 hg5 B4 hy4 hd5
    go_wp2_with (refine wpList_make_full _ rfl _ _ 22 rfl w5.heap.size 5 i0 (.int .u8 0) 1 Try.underlying22 hi hz0 hz1 .i64 .i64 _ _ (20 + m) rfl rfl (by omega) (by omega) (by rw [hz2]; omega) (by unfold maxLen; omega) (Nat.le_refl _) ?_; intro w6 hown hgrow)
    have hB6 : Bts w6 w5.heap.size (.slice (some ⟨w5.heap.size, 0, none⟩) (20 + m) (20 + m)) (List.replicate (20 + m) 0) := by
      refine ⟨by intro x hx; rw [List.eq_of_mem_replicate hx]; unfold Byt; omega, ?_⟩
      rw [List.length_replicate]
      have e : cellsOf (List.replicate (20 + m) 0) = List.replicate (20 + m) (.int .u8 0) := by simp [cellsOf]
      rw [e]
      simpa [toList_madeCells_one, Value.cells] using hown
    have B6 := Below.of_grown B5 hgrow (by simp)
    have hy6 := hy5.grow ((Below.refl _ _).grown hgrow (Nat.le_refl _) (by simp))
    go_ret2
    exact ⟨_, _, ys, _, rfl, hy6.mono (by omega), hB6.mono (by omega), by omega, by simp; omega, B6⟩

set_option maxHeartbeats 1600000 in
theorem DrawGetNum_any (a : Option Addr) (cap : Nat) (xs : List Int) (w : World) (ha : Seg w a xs) (hl : xs.length ≤ maxLen) :
    Calls Try.prog 19 #[.slice a xs.length cap] w fun e w' => ∃ v ys z, e = .returned (.tuple #[v, .int .i64 z]) ∧ Bts w' w.heap.size v ys ∧ ys.length ≤ 100 ∧ z ≤ 9223372036854775807 ∧ Below w.heap.size w w' := by
  have hal := ha.lt
  go_enter Try.func19, Try.ntmps19
  go_wp2_with fail
  refine (l1New_drw a cap xs _ ha hl).mono ?_
  rintro e w1 ⟨rfl, hd1, b1⟩
  have z1 := hd1.lt
  go_wp2_with fail
  refine (l1some_drw _ a cap xs 3 _ hd1 (by omega)).mono ?_
  rintro e w2 ⟨v, ys, rfl, hv2, hyl, hd2, hg2⟩
  have B2 := Below.of_grown b1 hg2 (by intro j hj; simp at hj; omega)
  have z2 := hg2.size
  obtain ⟨a2, c2, rfl, _, _, _, k2⟩ := hv2.seg_len
  clear hd1 hg2 b1
  go_wp2_with fail
  refine (l1num_drw _ a cap xs _ hd2).mono ?_
  rintro e w3 ⟨z, rfl, hz, hd3, hg3⟩
  have B3 := Below.of_grown B2 hg3 (by intro j hj; simp at hj; omega)
  have hv3 := hv2.keptg hg3 z1
  have z3 := hg3.size
  clear hd2 hg3 B2 hv2
  go_wp2_with fail
  refine (spec_PutNum_any _ _ ys z _ hv3.seg k2 (by omega)).mono ?_
  rintro e w4 ⟨v4, rfl, hv4, b4⟩
  have B4 := Below.on B3 b4
  have hd4 := hd3.grow b4
  have hpl := putNum_len ys z
  have z4 := b4.size
  clear hd3 B3 b4 hv3
  go_wp2_with fail
  refine (l1some_drw _ a cap xs 3 _ hd4 (by omega)).mono ?_
  rintro e w5 ⟨v5, zs, rfl, hz5, hzl, hd5, hg5⟩
  obtain ⟨a5, c5, rfl, hS5, _, _, k5⟩ := hz5.seg_len
  have B5 := Below.of_grown B4 hg5 (by intro j hj; simp at hj; omega)
  have hv5 := hv4.keptg hg5 (by omega)
  have z5 := hg5.size
  have hvo := hide hv5.own
  clear hd4 hg5 B4 hv4
  go_wp2_with (at_builtin; refine wpList_append_seg rfl (.tmp 17) (.tmp 19) rfl w3.heap.size _ (putNum ys z) zs rfl hv5 a5 zs.length c5 rfl rfl hS5 k5 (by omega) (by omega) ?_; intro v6 w6 hv6 hg6)
  have hd6 := hd5.away hg6 (by intro e; have h1 := unhide hvo _ e; omega) (by intro x hx he e; have h1 := unhide hvo _ e; have h2 := hal x hx he; omega)
  have B6 : Below w.heap.size w w6 := B5.grown hg6 B5.size (by intro j e; have h1 := unhide hvo _ e; omega)
  have z6 := hg6.size
  have hlen6 : (putNum ys z ++ zs).length ≤ 50 := by simp; omega
  generalize hbb : putNum ys z ++ zs = bs at *
  clear hbb hd5 hg6 B5 hv5 hvo hz5 hS5
  refine (l1Once_drw _ a cap xs _ _ hd6 (by omega)).mono ?_
  rintro e w7 ⟨b7, rfl, hd7, hg7⟩
  have B7 := Below.of_grown B6 hg7 (by intro j hj; simp at hj; omega)
  have hv7 := hv6.keptg hg7 (by omega)
  have z7 := hg7.size
  clear hd6 hg7 B6 hv6
  cases b7 with
  | false =>
    obtain ⟨cs, hcs, hcl, hv8⟩ : ∃ cs : List Int, cs = bs ∧ cs.length ≤ 60 ∧ Bts w7 w1.heap.size v6 cs := ⟨bs, rfl, by omega, hv7.mono (by omega)⟩
    have hd8 := hd7
    have B8 := B7
    clear hcs hv7 hd7 B7
    obtain ⟨a9, c9, rfl, _, _, _, _⟩ := hv8.seg_len
    go_wp2_with fail
    refine (l1Once_drw _ a cap xs _ _ hd8 (by omega)).mono ?_
    rintro e w9 ⟨b9, rfl, hd9, hg9⟩
    have B9 := Below.of_grown B8 hg9 (by intro j hj; simp at hj; omega)
    have hv9 := hv8.keptg hg9 z1
    have z9 := B9.size
    clear hd8 hg9 B8 hv8
    cases b9 with
    | false =>
      go_wp2
      go_ret2
      exact ⟨_, cs, _, rfl, hv9.mono (by omega), by omega, by omega, B9⟩
    | true =>
      have b10 : ∀ o : Obj, Below w9.heap.size w9 (w9.alloc o) := fun o => (Below.refl _ _).alloc (Nat.le_refl _) o
      have hp : Calls Try.prog 46 #[.pointer (some ⟨w.heap.size, 0, none⟩), .slice (some ⟨w9.heap.size, 0, none⟩) 6 6] (w9.alloc (.cells #[.int .i64 (-1), .int .i64 0, .int .i64 (cs.length : Int), .int .i64 ((cs.length : Int) + 1), .int .i64 9223372036854775807, .int .i64 (-9223372036854775808)] 3)) fun e w' => ∃ z, e = .returned (.int .i64 z) ∧ z ≤ 9223372036854775807 ∧ Drw w' w.heap.size a cap xs ∧ (w9.alloc (.cells #[.int .i64 (-1), .int .i64 0, .int .i64 (cs.length : Int), .int .i64 ((cs.length : Int) + 1), .int .i64 9223372036854775807, .int .i64 (-9223372036854775808)] 3)).grownBy w' (some w.heap.size) :=
        l1PickInt_drw w.heap.size a cap xs w9.heap.size 6 [-1, 0, (cs.length : Int), (cs.length : Int) + 1, 9223372036854775807, -9223372036854775808] _ (hd9.grow (b10 _)) (ints_lit w9 _ _ rfl) (by have := hd9.lt; omega) (by simp) (by simp) (by intro q hq; simp at hq; omega)
      have HP := hide hp
      have HB := hide (b10 (.cells #[.int .i64 (-1), .int .i64 0, .int .i64 (cs.length : Int), .int .i64 ((cs.length : Int) + 1), .int .i64 9223372036854775807, .int .i64 (-9223372036854775808)] 3))
      clear hp b10
      go_wp2_with fail
      refine (unhide HP).mono ?_
      rintro e w11 ⟨q, rfl, hq, hd11, hg11⟩
      have B11 := Below.of_grown (Below.on B9 (unhide HB)) hg11 (by intro j hj; simp at hj; omega)
      have hv11 := (hv9.grow (unhide HB)).keptg hg11 z1
      go_wp2
      go_ret2
      exact ⟨_, cs, q, rfl, hv11.mono (by omega), by omega, hq, B11⟩
  | true =>
    obtain ⟨a7, c7, rfl, hS7, _, _, k7⟩ := hv7.seg_len
    go_wp2_with fail
    refine (l1spoil_drw _ a cap xs a7 c7 bs _ hd7 hS7 k7 (by omega)).mono ?_
    rintro e w8 ⟨v8, cs, rfl, hv8', hcl', hd8, hg8⟩
    have B8 := Below.of_grown B7 hg8 (by intro j hj; simp at hj; omega)
    have hv8 : Bts w8 w1.heap.size v8 cs := hv8'.mono (by omega)
    have hcl : cs.length ≤ 60 := by omega
    have z8 := hg8.size
    clear hv8' hcl' hd7 hg8 B7 hv7 hS7
    obtain ⟨a9, c9, rfl, _, _, _, _⟩ := hv8.seg_len
    go_wp2_with fail
    refine (l1Once_drw _ a cap xs _ _ hd8 (by omega)).mono ?_
    rintro e w9 ⟨b9, rfl, hd9, hg9⟩
    have B9 := Below.of_grown B8 hg9 (by intro j hj; simp at hj; omega)
    have hv9 := hv8.keptg hg9 z1
    have z9 := B9.size
    clear hd8 hg9 B8 hv8
    cases b9 with
    | false =>
      go_wp2
      go_ret2
      exact ⟨_, cs, _, rfl, hv9.mono (by omega), by omega, by omega, B9⟩
    | true =>
      have b10 : ∀ o : Obj, Below w9.heap.size w9 (w9.alloc o) := fun o => (Below.refl _ _).alloc (Nat.le_refl _) o
      have hp : Calls Try.prog 46 #[.pointer (some ⟨w.heap.size, 0, none⟩), .slice (some ⟨w9.heap.size, 0, none⟩) 6 6] (w9.alloc (.cells #[.int .i64 (-1), .int .i64 0, .int .i64 (cs.length : Int), .int .i64 ((cs.length : Int) + 1), .int .i64 9223372036854775807, .int .i64 (-9223372036854775808)] 3)) fun e w' => ∃ z, e = .returned (.int .i64 z) ∧ z ≤ 9223372036854775807 ∧ Drw w' w.heap.size a cap xs ∧ (w9.alloc (.cells #[.int .i64 (-1), .int .i64 0, .int .i64 (cs.length : Int), .int .i64 ((cs.length : Int) + 1), .int .i64 9223372036854775807, .int .i64 (-9223372036854775808)] 3)).grownBy w' (some w.heap.size) :=
        l1PickInt_drw w.heap.size a cap xs w9.heap.size 6 [-1, 0, (cs.length : Int), (cs.length : Int) + 1, 9223372036854775807, -9223372036854775808] _ (hd9.grow (b10 _)) (ints_lit w9 _ _ rfl) (by have := hd9.lt; omega) (by simp) (by simp) (by intro q hq; simp at hq; omega)
      have HP := hide hp
      have HB := hide (b10 (.cells #[.int .i64 (-1), .int .i64 0, .int .i64 (cs.length : Int), .int .i64 ((cs.length : Int) + 1), .int .i64 9223372036854775807, .int .i64 (-9223372036854775808)] 3))
      clear hp b10
      go_wp2_with fail
      refine (unhide HP).mono ?_
      rintro e w11 ⟨q, rfl, hq, hd11, hg11⟩
      have B11 := Below.of_grown (Below.on B9 (unhide HB)) hg11 (by intro j hj; simp at hj; omega)
      have hv11 := (hv9.grow (unhide HB)).keptg hg11 z1
      go_wp2
      go_ret2
      exact ⟨_, cs, q, rfl, hv11.mono (by omega), by omega, hq, B11⟩
end Go.Proofs.Ytlfbpmnpjbegdaa
