/-
  The draws for Common and HasPrefix: two slices of bytes, each short, in memory of their own.
-/
import Derived.Test.YtlfbpmnpjbegdaaDraw2
namespace Go.Proofs.Ytlfbpmnpjbegdaa
open Go.RowKit
set_option linter.unusedVariables false

theorem Bts.seg_len {w : World} {base : Nat} {v : Value} {xs : List Int} (h : Bts w base v xs) : ∃ a cap, v = .slice a xs.length cap ∧ Seg w a xs ∧ xs.length ≤ cap ∧ cap ≤ maxLen ∧ (a = none → cap = 0) := by
  obtain ⟨a, cap, h1, h2, h3, h4, _, h6⟩ := h.shape
  exact ⟨a, cap, h1, h2, h3, h4, h6⟩

set_option maxHeartbeats 1600000 in
theorem DrawCommon_any (a : Option Addr) (cap : Nat) (xs : List Int) (w : World) (ha : Seg w a xs) (hl : xs.length ≤ maxLen) :
    Calls Try.prog 20 #[.slice a xs.length cap] w fun e w' => ∃ v1 v2 ys zs, e = .returned (.tuple #[v1, v2]) ∧ Bts w' w.heap.size v1 ys ∧ Bts w' w.heap.size v2 zs ∧ ys.length ≤ 100 ∧ zs.length ≤ 100 ∧ Below w.heap.size w w' := by
  go_enter Try.func20, Try.ntmps20
  go_wp2_with fail
  refine (l1New_drw a cap xs _ ha hl).mono ?_
  rintro e w1 ⟨rfl, hd1, b1⟩
  go_wp2_with fail
  refine (l1some_drw _ a cap xs 6 _ hd1 (by omega)).mono ?_
  rintro e w2 ⟨v, ys, rfl, hv2, hyl, hd2, hg2⟩
  have B2 := Below.of_grown b1 hg2 (by intro j hj; simp at hj; omega)
  have z1 := hd1.lt
  have z2 := hg2.size
  obtain ⟨a1, c1, rfl, _, hyc, hcm, hka⟩ := hv2.seg_len
  unfold maxLen at hcm
  clear hd1 hg2 b1
  have hE3 := bts_empty w2
  have b3 : Below w2.heap.size w2 (w2.alloc (.cells #[] 5)) := (Below.refl _ _).alloc (Nat.le_refl _) _
  have hd3 := hd2.grow b3
  have hv3 := hv2.grow b3
  have B3 := Below.on B2 b3
  clear hd2
  go_wp2_with fail
  refine (l1Below_drw _ a cap xs _ _ hd3 (by omega)).mono ?_
  rintro e w4 ⟨x, rfl, hx0, hx1, _, hd4, hg4⟩
  have hx2 : x < (ys.length : Int) + 1 := hx1 (by omega)
  obtain ⟨m, rfl⟩ := Int.eq_ofNat_of_zero_le hx0
  clear hx0 hx1
  have hml : m ≤ ys.length := by omega
  have hv4 := hv3.away hg4 (by intro x hx e; have := hv2.lt x hx; simp at e; omega)
  have hE4 := hE3.away hg4 (by intro x hx e; simp at hx; subst hx; simp at e; omega)
  have B4 := Below.of_grown B3 hg4 (by intro j hj; simp at hj; omega)
  have z4 := B4.size
  have z42 := hg4.size
  simp at z42
  have hsl := fun wx => slice_to wx a1 ys.length c1 m (by omega)
  have hS4 : Seg w4 a1 (ys.take m) := seg_take hv4.seg m
  have Hm : Hid (m = (ys.take m).length) := by show m = _; simp; omega
  have hsm : Hid (([] : List Int).length + (ys.take m).length ≤ 1099511627776) := by show _ ≤ _; simp; omega
  have hltE := hE4.own
  clear hE3 hv3 hd3 B3 hg4
  go_wp2_with (at_builtin; refine wpList_append_seg rfl (.tmp 11) (.tmp 18) rfl w2.heap.size _ [] (ys.take m) rfl hE4 a1 m c1 Hm.out rfl hS4 hka hsm.out (by omega) ?_; intro v5 w5 hv5 hg5)
  have B5 : Below w.heap.size w w5 := B4.grown hg5 z4 (by intro j hj; have := hltE j hj; omega)
  have hv5b := hv4.away hg5 (by intro x hx e; have h1 := hltE _ e; have h2 := hv2.lt x hx; omega)
  have hd5 := hd4.away hg5 (by intro e; have := hltE _ e; omega) (by intro x hx he e; have h1 := hltE _ e; have h2 := ha.lt x hx he; omega)
  have z5 := hg5.size
  simp only [List.nil_append] at hv5
  clear hE4 hv4 hS4 hsl hg5 B4 hd4
  go_wp2_with fail
  refine (l1some_drw _ a cap xs 3 _ hd5 (by omega)).mono ?_
  rintro e w6 ⟨v6, zs, rfl, hz6, hzl, hd6, hg6⟩
  obtain ⟨a6, c6, rfl, hS6, _, _, hk6⟩ := hz6.seg_len
  have B6 := Below.of_grown B5 hg6 (by intro j hj; simp at hj; omega)
  have hv6 := hv5.keptg hg6 (by omega)
  have hv6b := hv5b.away hg6 (by intro x hx e; have h2 := hv2.lt x hx; simp at e; omega)
  have z6 := hg6.size
  have hsm6 : Hid ((ys.take m).length + zs.length ≤ 1099511627776) := by show _ ≤ _; simp; omega
  have hlt6 := hv6.own
  generalize hzz : zs.length = zl at *
  have Hzz : Hid (zl = zs.length) := hzz.symm
  clear hzz hv5 hv5b hd5 hg6 B5 hd6
  go_wp2_with (at_builtin; refine wpList_append_seg rfl (.tmp 19) (.tmp 21) rfl w2.heap.size _ (ys.take m) zs rfl hv6 a6 zl c6 Hzz.out rfl hS6 hk6 (by have := hsm6.out; have := Hzz.out; omega) (by omega) ?_; intro v7 w7 hv7 hg7)
  have B7 : Below w.heap.size w w7 := B6.grown hg7 B6.size (by intro j hj; have := hlt6 j hj; omega)
  have hv7b := hv6b.away hg7 (by intro x hx e; have h1 := hlt6 _ e; have h2 := hv2.lt x hx; omega)
  go_ret2
  exact ⟨_, _, ys, ys.take m ++ zs, rfl, hv7b.mono (by omega), hv7.mono (by omega), by omega, by have := Hzz.out; simp; omega, B7⟩

set_option maxHeartbeats 1600000 in
theorem DrawHasPrefix_any (a : Option Addr) (cap : Nat) (xs : List Int) (w : World) (ha : Seg w a xs) (hl : xs.length ≤ maxLen) :
    Calls Try.prog 22 #[.slice a xs.length cap] w fun e w' => ∃ v1 v2 ys zs, e = .returned (.tuple #[v1, v2]) ∧ Bts w' w.heap.size v1 ys ∧ Bts w' w.heap.size v2 zs ∧ ys.length ≤ 100 ∧ zs.length ≤ 100 ∧ Below w.heap.size w w' := by
  go_enter Try.func22, Try.ntmps22
  go_wp2_with fail
  refine (l1New_drw a cap xs _ ha hl).mono ?_
  rintro e w1 ⟨rfl, hd1, b1⟩
  go_wp2_with fail
  refine (l1some_drw _ a cap xs 6 _ hd1 (by omega)).mono ?_
  rintro e w2 ⟨v, ys, rfl, hv2, hyl, hd2, hg2⟩
  have B2 := Below.of_grown b1 hg2 (by intro j hj; simp at hj; omega)
  have z1 := hd1.lt
  have z2 := hg2.size
  obtain ⟨a1, c1, rfl, _, hyc, hcm, hka⟩ := hv2.seg_len
  unfold maxLen at hcm
  have hltv := hv2.lt
  clear hd1 hg2 b1
  go_wp2_with fail
  refine (l1Once_drw _ a cap xs _ _ hd2 (by omega)).mono ?_
  rintro e w3 ⟨bb, rfl, hd3, hg3⟩
  have B3 := Below.of_grown B2 hg3 (by intro j hj; simp at hj; omega)
  have hv3 := hv2.away hg3 (by intro x hx e; have := hltv x hx; simp at e; omega)
  have z3 := hg3.size
  clear hd2 hg3 hv2 B2
  cases bb with
  | false =>
    go_wp2_with fail
    refine (l1some_drw _ a cap xs 4 _ hd3 (by omega)).mono ?_
    rintro e w4 ⟨v4, zs, rfl, hz4, hzl, hd4, hg4⟩
    have B4 := Below.of_grown B3 hg4 (by intro j hj; simp at hj; omega)
    have hv4 := hv3.away hg4 (by intro x hx e; have := hltv x hx; simp at e; omega)
    go_wp2
    go_ret2
    exact ⟨_, _, ys, zs, rfl, hv4.mono (by omega), hz4.mono (by omega), by omega, by omega, B4⟩
  | true =>
    have hE4 := bts_empty w3
    have b4 : Below w3.heap.size w3 (w3.alloc (.cells #[] 5)) := (Below.refl _ _).alloc (Nat.le_refl _) _
    have hd4 := hd3.grow b4
    have hv4 := hv3.grow b4
    have B4 := Below.on B3 b4
    clear hd3 hv3 B3
    go_wp2_with fail
    refine (l1Below_drw _ a cap xs _ _ hd4 (by omega)).mono ?_
    rintro e w5 ⟨x, rfl, hx0, hx1, _, hd5, hg5⟩
    have hx2 : x < (ys.length : Int) + 1 := hx1 (by omega)
    obtain ⟨m, rfl⟩ := Int.eq_ofNat_of_zero_le hx0
    clear hx0 hx1
    have hml : m ≤ ys.length := by omega
    have hv5 := hv4.away hg5 (by intro x hx e; have := hltv x hx; simp at e; omega)
    have hE5 := hE4.away hg5 (by intro x hx e; simp at hx; subst hx; simp at e; omega)
    have B5 := Below.of_grown B4 hg5 (by intro j hj; simp at hj; omega)
    have z5 := hg5.size
    simp at z5
    have hsl := fun wx => slice_to wx a1 ys.length c1 m (by omega)
    have hS5 : Seg w5 a1 (ys.take m) := seg_take hv5.seg m
    have Hm : Hid (m = (ys.take m).length) := by show m = _; simp; omega
    have hsm : Hid (([] : List Int).length + (ys.take m).length ≤ 1099511627776) := by show _ ≤ _; simp; omega
    have hltE := hE5.own
    clear hE4 hv4 hd4 B4 hg5
    go_wp2_with (at_builtin; refine wpList_append_seg rfl (.tmp 13) (.tmp 20) rfl w3.heap.size _ [] (ys.take m) rfl hE5 a1 m c1 Hm.out rfl hS5 hka hsm.out (by omega) ?_; intro v6 w6 hv6 hg6)
    have B6 : Below w.heap.size w w6 := B5.grown hg6 B5.size (by intro j hj; have := hltE j hj; omega)
    have hv6b := hv5.away hg6 (by intro x hx e; have h1 := hltE _ e; have h2 := hltv x hx; omega)
    simp only [List.nil_append] at hv6
    go_ret2
    exact ⟨_, _, ys, ys.take m, rfl, hv6b.mono (by omega), hv6.mono (by omega), by omega, by simp; omega, B6⟩
end Go.Proofs.Ytlfbpmnpjbegdaa
