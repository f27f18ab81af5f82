/-
  What the specification draws: some bytes, a number, one of a list; and the draws for Common, HasPrefix and NumLen.
-/
import Derived.Test.YtlfbpmnpjbegdaaDraw1
namespace Go.Proofs.Ytlfbpmnpjbegdaa
open Go.RowKit
set_option linter.unusedVariables false

theorem hide {p : Prop} (h : p) : Hid p := h
theorem unhide {p : Prop} (h : Hid p) : p := h

theorem grownBy_own {w w1 w2 : World} {row row2 : Option Nat} (h : w.grownBy w1 row) (k : w1.grownBy w2 row2) (hr : ∀ j, row2 = some j → w.heap.size ≤ j) : w.grownBy w2 row :=
  ⟨k.os.trans h.os, k.tape.trans h.tape, k.output.trans h.output, Nat.le_trans h.size k.size, fun i hi hne => (k.block i (Nat.lt_of_lt_of_le hi h.size) (fun e => by have := hr i e.symm; omega)).trans (h.block i hi hne)⟩

theorem grownBy_below {w w1 : World} (row : Option Nat) (h : Below w.heap.size w w1) : w.grownBy w1 row := ⟨h.os, h.tape, h.output, h.size, fun k hk _ => h.block k hk⟩

theorem Below.of_grown {w w1 w2 : World} {row : Option Nat} (h : Below w.heap.size w w1) (k : w1.grownBy w2 row) (hr : ∀ j, row = some j → w.heap.size ≤ j) : Below w.heap.size w w2 := h.grown k h.size hr

theorem Bts.keptg {w w' : World} {base g : Nat} {v : Value} {xs : List Int} (h : Bts w base v xs) (hg : w.grownBy w' (some g)) (hb : g < base) : Bts w' base v xs := by
  refine h.kept hg ?_
  by_cases hh : v.ownBlock = none
  · exact .inl hh
  · exact .inr fun e => by have := h.own g e; omega

theorem bts_nil (w : World) (base : Nat) : Bts w base (.slice none 0 0) [] := ⟨by simp, World.ownsRow_nil _ _ _ _⟩

set_option maxHeartbeats 1600000 in
theorem l1some_drw (g : Nat) (a : Option Addr) (cap : Nat) (xs : List Int) (most : Nat) (w : World) (h : Drw w g a cap xs) (hm : most ≤ 1000) :
    Calls Try.prog 38 #[.pointer (some ⟨g, 0, none⟩), .int .i64 most] w fun e w' => ∃ v ys, e = .returned v ∧ Bts w' w.heap.size v ys ∧ ys.length ≤ most ∧ Drw w' g a cap xs ∧ w.grownBy w' (some g) := by
  go_enter Try.func38, Try.ntmps38
  go_wp2_with fail
  refine (l1Below_drw g a cap xs _ _ h (by omega)).mono ?_
  rintro e w1 ⟨x, rfl, hx0, hx1, _, hd1, hg1⟩
  have hx2 : x < (most : Int) + 1 := hx1 (by omega)
  obtain ⟨m, rfl⟩ := Int.eq_ofNat_of_zero_le hx0
  clear hx0 hx1
  go_wp2
  go_loopw [5, 7] (fun v i wr => ∃ (k : Nat) (ys : List Int), k ≤ m ∧ i = .int .i64 k ∧ ys.length = k ∧ Bts wr w.heap.size v ys ∧ Drw wr g a cap xs ∧ w.grownBy wr (some g)) (fun _ i _ => m - (intOf i).toNat)
  case atStart => exact ⟨0, [], Nat.zero_le _, rfl, rfl, bts_nil _ _, hd1, hg1⟩
  case round =>
    obtain ⟨k, ys, hk, rfl, hyl, hv, hd, hg⟩ := hrel
    have Hyl : Hid (ys.length = k) := hyl
    clear hyl hd1 hg1
    by_cases hlt : k < m
    · have hlt' : (k : Int) < (m : Int) := by omega
      go_wp2_with fail
      refine (l1Byte_drw g a cap xs _ hd).mono ?_
      rintro e w2 ⟨c, rfl, hc0, hc1, hd2, hg2⟩
      have hgl : g < w.heap.size := h.lt
      have hv2 := hv.keptg hg2 hgl
      have hG2 := grownBy_trans hg hg2
      have hz2 := hG2.size
      have hcb : Byt c := ⟨hc0, hc1⟩
      have hS3 := seg_one w2 c hcb
      have hv3 := hv2.alloc (.cells #[.int .u8 c] 5)
      have hd3 : Drw (w2.alloc (.cells #[.int .u8 c] 5)) g a cap xs := hd2.grow ((Below.refl _ _).alloc (Nat.le_refl _) _)
      have hG3 : w.grownBy (w2.alloc (.cells #[.int .u8 c] 5)) (some g) := grownBy_own hG2 (World.grownBy_alloc w2 _ none) (by simp)
      clear hv2 hd2 hG2 hv hd hg hg2
      go_wp2_with (at_builtin; refine wpList_append_seg rfl _ _ rfl w.heap.size _ ys [c] rfl hv3 (some ⟨w2.heap.size, 0, none⟩) 1 1 rfl rfl hS3 (by simp) (by have := Hyl.out; simp; omega) (by simp; omega) ?_; intro v4 w4 hv4 hg4)
      have hown := hv3.own
      have ha' := h.1.lt
      have hd4 := hd3.away hg4 (by intro e; have := hown g e; omega) (by intro x hx he e; have h1 := hown _ e; have h2 := ha' x hx he; omega)
      have hG4 := grownBy_own hG3 hg4 hown
      go_roundw
      case rel => exact ⟨k + 1, ys ++ [c], by omega, by go_num, by have := Hyl.out; simp; omega, hv4, hd4, hG4⟩
      case measure => simp [intOf]; omega
    · go_wp2
      go_ret
      exact ⟨_, ys, rfl, hv, by have := Hyl.out; omega, hd, hg⟩

/-- One of a list of numbers. -/
def Ints (w : World) (b : Nat) (zs : List Int) : Prop := ∀ i, i < zs.length → w.cell? ⟨b, i, none⟩ = some (.int .i64 (zs.getD i 0))

theorem ints_lit (w : World) (zs : List Int) (arr : Array Value) (h : arr.toList = zs.map (Value.int .i64)) : Ints (w.alloc (.cells arr 3)) w.heap.size zs := by
  intro i hi
  rw [World.cell?_alloc_mark, ← Array.getElem?_toList, h]
  simp [hi]

set_option maxHeartbeats 800000 in
theorem l1PickInt_drw (g : Nat) (a : Option Addr) (cap : Nat) (xs : List Int) (b c : Nat) (zs : List Int) (w : World) (h : Drw w g a cap xs) (hz : Ints w b zs) (hb : b ≠ g) (h0 : 0 < zs.length) (h1 : zs.length ≤ 1000) (hw : ∀ z ∈ zs, z ≤ 9223372036854775807) :
    Calls Try.prog 46 #[.pointer (some ⟨g, 0, none⟩), .slice (some ⟨b, 0, none⟩) zs.length c] w fun e w' => ∃ z, e = .returned (.int .i64 z) ∧ z ≤ 9223372036854775807 ∧ Drw w' g a cap xs ∧ w.grownBy w' (some g) := by
  go_enter Try.func46, Try.ntmps46
  go_wp2_with fail
  refine (l1Below_drw g a cap xs _ _ h (by omega)).mono ?_
  rintro e w1 ⟨x, rfl, hx0, hx1, _, hd1, hg1⟩
  have hx2 : x < (zs.length : Int) := hx1 (by omega)
  obtain ⟨m, rfl⟩ := Int.eq_ofNat_of_zero_le hx0
  clear hx0 hx1
  have hc := hg1.cell (hz m (by omega)) (by simpa using hb)
  have hmem : zs.getD m 0 ≤ 9223372036854775807 := by
    have hm : m < zs.length := by omega
    have := hw (zs[m]) (List.getElem_mem hm)
    simpa [List.getD_eq_getElem?_getD, hm] using this
  generalize zs.getD m 0 = z at *
  go_wp2
  go_ret
  exact ⟨z, rfl, hmem, hd1, hg1⟩

set_option maxHeartbeats 800000 in
theorem l1Once_drw (g : Nat) (a : Option Addr) (cap : Nat) (xs : List Int) (n : Int) (w : World) (h : Drw w g a cap xs) (hn : n ≤ 9223372036854775807) :
    Calls Try.prog 43 #[.pointer (some ⟨g, 0, none⟩), .int .i64 n] w fun e w' => ∃ b : Bool, e = .returned (.bool b) ∧ Drw w' g a cap xs ∧ w.grownBy w' (some g) := by
  go_enter Try.func43, Try.ntmps43
  go_wp2_with fail
  refine (l1Below_drw g a cap xs _ _ h hn).mono ?_
  rintro e w1 ⟨x, rfl, hx0, hx1, _, hd1, hg1⟩
  go_wp2
  go_ret
  exact ⟨_, rfl, hd1, hg1⟩

set_option maxHeartbeats 1600000 in
theorem l1num_drw (g : Nat) (a : Option Addr) (cap : Nat) (xs : List Int) (w : World) (h : Drw w g a cap xs) :
    Calls Try.prog 39 #[.pointer (some ⟨g, 0, none⟩)] w fun e w' => ∃ z, e = .returned (.int .i64 z) ∧ z ≤ 9223372036854775807 ∧ Drw w' g a cap xs ∧ w.grownBy w' (some g) := by
  go_enter Try.func39, Try.ntmps39
  go_wp2_with fail
  refine (l1Below_drw g a cap xs _ _ h (by omega)).mono ?_
  rintro e w1 ⟨x, rfl, hx0, hx1, _, hd1, hg1⟩
  have hgl : g < w1.heap.size := hd1.lt
  by_cases h0 : x = 0
  · subst h0
    have b2 : Below w1.heap.size w1 (w1.alloc (.cells #[.int .i64 0, .int .i64 1, .int .i64 127, .int .i64 128, .int .i64 16383, .int .i64 16384, .int .i64 2147483647, .int .i64 2147483646] 3)) := (Below.refl _ _).alloc (Nat.le_refl _) _
    have hp : Calls Try.prog 46 #[.pointer (some ⟨g, 0, none⟩), .slice (some ⟨w1.heap.size, 0, none⟩) 8 8] (w1.alloc (.cells #[.int .i64 0, .int .i64 1, .int .i64 127, .int .i64 128, .int .i64 16383, .int .i64 16384, .int .i64 2147483647, .int .i64 2147483646] 3)) fun e w' => ∃ z, e = .returned (.int .i64 z) ∧ z ≤ 9223372036854775807 ∧ Drw w' g a cap xs ∧ (w1.alloc (.cells #[.int .i64 0, .int .i64 1, .int .i64 127, .int .i64 128, .int .i64 16383, .int .i64 16384, .int .i64 2147483647, .int .i64 2147483646] 3)).grownBy w' (some g) :=
      l1PickInt_drw g a cap xs w1.heap.size 8 [0, 1, 127, 128, 16383, 16384, 2147483647, 2147483646] _ (hd1.grow b2) (ints_lit w1 _ _ rfl) (by omega) (by decide) (by decide) (by decide)
    have HP := hide hp
    have HB := hide b2
    clear hp b2
    go_wp2_with fail
    refine (unhide HP).mono ?_
    rintro e w3 ⟨z, rfl, hz, hd3, hg3⟩
    have hG := grownBy_trans (grownBy_trans hg1 (grownBy_below (some g) (unhide HB))) hg3
    go_wp2
    go_ret
    exact ⟨z, rfl, hz, hd3, hG⟩
  · have h0' : (x == 0) = false := by simpa using h0
    by_cases h1 : x = 1
    · subst h1
      have b2 : Below w1.heap.size w1 (w1.alloc (.cells #[.int .i64 (-1), .int .i64 2147483648, .int .i64 4611686018427387904, .int .i64 (-9223372036854775808), .int .i64 9223372036854775807] 3)) := (Below.refl _ _).alloc (Nat.le_refl _) _
      have hp : Calls Try.prog 46 #[.pointer (some ⟨g, 0, none⟩), .slice (some ⟨w1.heap.size, 0, none⟩) 5 5] (w1.alloc (.cells #[.int .i64 (-1), .int .i64 2147483648, .int .i64 4611686018427387904, .int .i64 (-9223372036854775808), .int .i64 9223372036854775807] 3)) fun e w' => ∃ z, e = .returned (.int .i64 z) ∧ z ≤ 9223372036854775807 ∧ Drw w' g a cap xs ∧ (w1.alloc (.cells #[.int .i64 (-1), .int .i64 2147483648, .int .i64 4611686018427387904, .int .i64 (-9223372036854775808), .int .i64 9223372036854775807] 3)).grownBy w' (some g) :=
        l1PickInt_drw g a cap xs w1.heap.size 5 [(-1), 2147483648, 4611686018427387904, (-9223372036854775808), 9223372036854775807] _ (hd1.grow b2) (ints_lit w1 _ _ rfl) (by omega) (by decide) (by decide) (by decide)
      have HP := hide hp
      have HB := hide b2
      clear hp b2
      go_wp2_with fail
      refine (unhide HP).mono ?_
      rintro e w3 ⟨z, rfl, hz, hd3, hg3⟩
      have hG := grownBy_trans (grownBy_trans hg1 (grownBy_below (some g) (unhide HB))) hg3
      go_wp2
      go_ret
      exact ⟨z, rfl, hz, hd3, hG⟩
    · have h1' : (x == 1) = false := by simpa using h1
      go_wp2_with fail
      refine (l1Below_drw g a cap xs _ _ hd1 (by omega)).mono ?_
      rintro e w2 ⟨z, rfl, hz0, hz1, _, hd2, hg2⟩
      have hz2 : z < 40000 := hz1 (by omega)
      have hG := grownBy_trans hg1 hg2
      go_wp2
      go_ret
      exact ⟨z, rfl, by omega, hd2, hG⟩

set_option maxHeartbeats 800000 in
theorem DrawNumLen_any (a : Option Addr) (cap : Nat) (xs : List Int) (w : World) (ha : Seg w a xs) (hl : xs.length ≤ maxLen) :
    Calls Try.prog 23 #[.slice a xs.length cap] w fun e w' => ∃ z, e = .returned (.int .i64 z) ∧ z ≤ 9223372036854775807 ∧ Below w.heap.size w w' := by
  go_enter Try.func23, Try.ntmps23
  go_wp2_with fail
  refine (l1New_drw a cap xs _ ha hl).mono ?_
  rintro e w1 ⟨rfl, hd1, b1⟩
  go_wp2_with fail
  refine (l1num_drw _ a cap xs _ hd1).mono ?_
  rintro e w2 ⟨z, rfl, hz, hd2, hg2⟩
  have B := Below.of_grown b1 hg2 (by intro j hj; simp at hj; omega)
  go_wp2
  go_ret
  exact ⟨z, rfl, hz, B⟩
end Go.Proofs.Ytlfbpmnpjbegdaa
