/-
  Texts that a law leans on, one behind the other; no statement is proved here.
-/
import Derived.Test.YtlhcfipfkodlfaaPk0
import Derived.Test.YtlhcfipfkodlfaaPk2
import Derived.Maps.Own
import Derived.Shelf.Small.Bits
import Derived.Shelf.Strconv.Itoa0
import Derived.Ground.GgsProg
import Derived.Shelf.GgSortFunc.Insertion
import Derived.Shelf.GgSortFunc.Small
import Derived.Shelf.GgSortFunc.InsertionK
import Derived.Shelf.GgSortFunc.SmallK
import Derived.Shelf.GgSortFunc.Tiny
import Derived.Shelf.GgSortFunc.Compose
import Derived.Shelf.GgSortFunc.LotD
import Derived.Shelf.SlSortFunc.Xorshift
import Derived.Shelf.SlSortFuncK.ComposeK
import Derived.Shelf.SlSortFuncK.SiftDownK
import Derived.Shelf.SlSortFuncK.HeapSortK
import Derived.Shelf.SlSortFuncK.PartialInsertionK
import Derived.Shelf.SlSortFuncK.LotDK
import Derived.Shelf.SlSortFuncK.PivotK
import Derived.Shelf.SlSortFuncK.PartitionK
import Derived.Shelf.SlSortFuncK.PdqK
import Derived.Shelf.SlSortFuncK.WholeK
import Derived.Test.YtlhcfipfkodlfaaProg
import Derived.Sort.KeysCollected
/-
  A text, a number of a value, names that ascend: textOk, ascendingNames of the program, l2text, l2int of the specification; they only read.
-/
namespace Go.Proofs.Ytlhcfipfkodlfaa
open Go.RowKit
set_option linter.unusedVariables false

/-- A byte of a text. -/
def chrB (c : Int) : Bool := decide (32 ≤ c) && decide (c ≤ 126)
/-- A text. -/
def textB (xs : List Int) : Bool := decide (xs.length ≤ 20) && xs.all chrB
theorem textB_long (xs : List Int) (h : 20 < xs.length) : textB xs = false := by simp [textB]; omega
theorem textB_all (xs : List Int) (h2 : xs.length ≤ 20) : textB xs = xs.all chrB := by simp [textB, h2]

set_option maxHeartbeats 800000 in
theorem impl_textOk_any (a : Option Addr) (c1 : Nat) (xs : List Int) (w : World) (ha : Seg w a xs) (hl : xs.length ≤ maxLen) :
    Calls Try.prog 39 #[.slice a xs.length c1] w fun e w' => e = .returned (.bool (textB xs)) ∧ w = w' := by
  unfold maxLen at hl
  by_cases h2 : 20 < xs.length
  · have HO : Hid (textB xs = false) := textB_long xs h2
    have h2' : (20 : Int) < (xs.length : Int) := by omega
    go_enter Try.func39, Try.ntmps39
    go_wp2
    go_ret
    exact ⟨ret_bool HO.out.symm, rfl⟩
  have HO : Hid (textB xs = xs.all chrB) := textB_all xs (by omega)
  have hb := getD_byt ha.1
  generalize hn : xs.length = n at *
  have Hn : Hid (xs.length = n) := hn
  have h2' : ¬ (20 : Int) < (n : Int) := by omega
  clear hn
  go_enter Try.func39, Try.ntmps39
  go_wp2
  go_loopw [10] (fun i wr => ∃ k : Nat, k ≤ n ∧ i = .int .i64 k ∧ fstAll chrB xs k ∧ wr = w) (fun i _ => n - (intOf i).toNat)
  case atStart => exact ⟨0, Nat.zero_le _, rfl, fstAll_zero _ _, rfl⟩
  case round =>
    obtain ⟨k, hk, rfl, hall, rfl⟩ := hrel
    by_cases hlt : k < n
    · obtain ⟨b1, o1, rfl, hc1⟩ := ha.at (k := k) (by have := Hn.out; omega)
      have hbk := hb k
      have HS : Hid (chrB (xs.getD k 0) = true → fstAll chrB xs (k + 1)) := fun h => fstAll_succ hall h
      have HN : Hid (chrB (xs.getD k 0) = false → xs.all chrB = false) := fun h => not_all_of (by have := Hn.out; omega) h
      generalize xs.getD k 0 = c at hc1 hbk HS HN
      have hlt' : (k : Int) < (n : Int) := by omega
      obtain ⟨hb1, hb2⟩ := hbk
      by_cases hc : c < 32
      · have HF : Hid (xs.all chrB = false) := HN.out (by simp [chrB]; omega)
        go_wp2
        go_ret
        exact ⟨ret_bool (by rw [HO.out, HF.out]), rfl⟩
      · by_cases hd : 126 < c
        · have HF : Hid (xs.all chrB = false) := HN.out (by simp [chrB]; omega)
          go_wp2
          go_ret
          exact ⟨ret_bool (by rw [HO.out, HF.out]), rfl⟩
        · have HF : Hid (fstAll chrB xs (k + 1)) := HS.out (by simp [chrB]; omega)
          go_wp2
          go_roundw
          case rel => exact ⟨k + 1, by omega, by go_num, HF.out, by first | rfl | trivial⟩
          case measure => simp [intOf]; omega
    · have HF : Hid (xs.all chrB = true) := all_of_fstAll (by rw [Hn.out]; have e : k = n := by omega
                                                              rw [← e]; exact hall)
      have hlt' : ¬ (k : Int) < (n : Int) := by omega
      go_wp2
      go_ret
      exact ⟨ret_bool (by rw [HO.out, HF.out]), rfl⟩

set_option maxHeartbeats 800000 in
theorem spec_l2text_any (a : Option Addr) (c1 : Nat) (xs : List Int) (w : World) (ha : Seg w a xs) (hl : xs.length ≤ maxLen) :
    Calls Try.prog 36 #[.slice a xs.length c1] w fun e w' => e = .returned (.bool (textB xs)) ∧ w = w' := by
  unfold maxLen at hl
  by_cases h2 : 20 < xs.length
  · have HO : Hid (textB xs = false) := textB_long xs h2
    have h2' : (20 : Int) < (xs.length : Int) := by omega
    go_enter Try.func36, Try.ntmps36
    go_wp2
    go_ret
    exact ⟨ret_bool HO.out.symm, rfl⟩
  have HO : Hid (textB xs = xs.all chrB) := textB_all xs (by omega)
  have hb := getD_byt ha.1
  generalize hn : xs.length = n at *
  have Hn : Hid (xs.length = n) := hn
  have h2' : ¬ (20 : Int) < (n : Int) := by omega
  clear hn
  go_enter Try.func36, Try.ntmps36
  go_wp2
  go_loopw [3] (fun i wr => ∃ k : Nat, k ≤ n ∧ i = .int .i64 k ∧ fstAll chrB xs k ∧ wr = w) (fun i _ => n - (intOf i).toNat)
  case atStart => exact ⟨0, Nat.zero_le _, rfl, fstAll_zero _ _, rfl⟩
  case round =>
    obtain ⟨k, hk, rfl, hall, rfl⟩ := hrel
    by_cases hlt : k < n
    · obtain ⟨b1, o1, rfl, hc1⟩ := ha.at (k := k) (by have := Hn.out; omega)
      have hbk := hb k
      have HS : Hid (chrB (xs.getD k 0) = true → fstAll chrB xs (k + 1)) := fun h => fstAll_succ hall h
      have HN : Hid (chrB (xs.getD k 0) = false → xs.all chrB = false) := fun h => not_all_of (by have := Hn.out; omega) h
      generalize xs.getD k 0 = c at hc1 hbk HS HN
      have hlt' : (k : Int) < (n : Int) := by omega
      obtain ⟨hb1, hb2⟩ := hbk
      by_cases hc : c < 32
      · have HF : Hid (xs.all chrB = false) := HN.out (by simp [chrB]; omega)
        go_wp2
        go_ret
        exact ⟨ret_bool (by rw [HO.out, HF.out]), rfl⟩
      · by_cases hd : 126 < c
        · have HF : Hid (xs.all chrB = false) := HN.out (by simp [chrB]; omega)
          go_wp2
          go_ret
          exact ⟨ret_bool (by rw [HO.out, HF.out]), rfl⟩
        · have HF : Hid (fstAll chrB xs (k + 1)) := HS.out (by simp [chrB]; omega)
          go_wp2
          go_roundw
          case rel => exact ⟨k + 1, by omega, by go_num, HF.out, by first | rfl | trivial⟩
          case measure => simp [intOf]; omega
    · have HF : Hid (xs.all chrB = true) := all_of_fstAll (by rw [Hn.out]; have e : k = n := by omega
                                                              rw [← e]; exact hall)
      have hlt' : ¬ (k : Int) < (n : Int) := by omega
      go_wp2
      go_ret
      exact ⟨ret_bool (by rw [HO.out, HF.out]), rfl⟩

/-- The name at place i is one, and behind the one ahead of it. -/
def stepB (ks : List (List Int)) (i : Nat) : Bool := nameB (ks.getD i []) && (i == 0 || ltS (ks.getD (i - 1) []) (ks.getD i []))
/-- Names that ascend. -/
def ascB (ks : List (List Int)) : Bool := (List.range ks.length).all (stepB ks)
theorem ascB_yes {ks : List (List Int)} (h : ∀ i, i < ks.length → stepB ks i = true) : ascB ks = true := by
  rw [ascB, List.all_eq_true]
  intro i hi
  exact h i (List.mem_range.1 hi)
theorem ascB_no {ks : List (List Int)} {i : Nat} (hi : i < ks.length) (h : stepB ks i = false) : ascB ks = false := by
  rw [ascB, List.all_eq_false]
  exact ⟨i, List.mem_range.2 hi, by simp [h]⟩
theorem ascB_at {ks : List (List Int)} (h : ascB ks = true) {i : Nat} (hi : i < ks.length) : stepB ks i = true := by
  rw [ascB, List.all_eq_true] at h
  exact h i (List.mem_range.2 hi)

theorem KSeg.at {R : Nat → Prop} {w : World} {a : Option Addr} {n cap : Nat} {ks : List (List Int)} (h : KSeg R w (.slice a n cap) ks) {k : Nat} (hk : k < ks.length) :
    ∃ b off, a = some ⟨b, off, none⟩ ∧ ∀ i, i < ks.length → ∃ a2 c2, w.cell? ⟨b, off + i, none⟩ = some (.slice a2 (ks.getD i []).length c2) ∧ Seg w a2 (ks.getD i []) ∧ (ks.getD i []).length ≤ maxLen := by
  obtain ⟨a', cap', h1, h2, h3, h4, h5⟩ := h
  simp only [Value.slice.injEq] at h1
  obtain ⟨rfl, _, _⟩ := h1
  rcases h5 with h0 | ⟨b, off, rfl, _, hc⟩
  · subst h0; simp at hk
  · refine ⟨b, off, rfl, fun i hi => ?_⟩
    obtain ⟨u, hu, a2, c2, rfl, s2, l2, m2, _⟩ := hc i hi
    exact ⟨a2, c2, hu, s2, by omega⟩

set_option maxHeartbeats 1600000 in
theorem ascendingNames_any (R : Nat → Prop) (x : Value) (ks : List (List Int)) (w : World) (hx : KSeg R w x ks) :
    Calls Try.prog 43 #[x] w fun e w' => e = .returned (.bool (ascB ks)) ∧ w = w' := by
  have HX : Hid (KSeg R w x ks) := hx
  obtain ⟨a, cap, rfl, hlc, hcm, ka, hc⟩ := hx
  unfold maxLen at hcm
  clear hc
  have HY : Hid ((∀ i, i < ks.length → stepB ks i = true) → ascB ks = true) := ascB_yes
  have HNo : Hid (∀ i, i < ks.length → stepB ks i = false → ascB ks = false) := fun i hi h => ascB_no hi h
  go_enter Try.func43, Try.ntmps43
  go_wp2
  go_loopw [7] (fun i wr => ∃ k : Nat, k ≤ ks.length ∧ i = .int .i64 k ∧ (∀ j, j < k → stepB ks j = true) ∧ wr = w) (fun i _ => ks.length - (intOf i).toNat)
  case atStart => exact ⟨0, Nat.zero_le _, rfl, fun j h => by omega, rfl⟩
  case round =>
    obtain ⟨k, hk, rfl, hall, rfl⟩ := hrel
    by_cases hlt : k < ks.length
    · obtain ⟨b, off, rfl, hat⟩ := HX.out.at hlt
      have hlt' : (k : Int) < (ks.length : Int) := by omega
      obtain ⟨a2, c2, hu, s2, m2⟩ := hat k hlt
      by_cases hn : nameB (ks.getD k []) = true
      · cases k with
        | zero =>
          have HS : Hid (stepB ks 0 = true) := by simp [Hid, stepB]; simpa using hn
          have HN := hide' (impl_NameOk_any a2 c2 (ks.getD 0 []) wr s2 m2)
          rw [hn] at HN
          generalize (ks.getD 0 []) = ys at *
          simp only [Nat.add_zero] at hu
          clear hat
          go_wp2_with fail
          refine HN.out.mono ?_
          rintro e w1 ⟨rfl, e1⟩
          obtain rfl := e1
          go_wp2
          go_roundw
          case rel => exact ⟨1, by omega, by go_num, fun j hj => by obtain rfl : j = 0 := by omega
                                                                    exact HS.out, by first | rfl | trivial⟩
          case measure => simp [intOf]; omega
        | succ j =>
          obtain ⟨a3, c3, hu3, s3, m3⟩ := hat j (by omega)
          have hst : stepB ks (j + 1) = ltS (ks.getD j []) (ks.getD (j + 1) []) := by simp only [stepB, hn]; simp
          have HN := hide' (impl_NameOk_any a2 c2 (ks.getD (j + 1) []) wr s2 m2)
          rw [hn] at HN
          have HC := hide' (bytes_Compare_any a3 a2 c3 c2 (ks.getD j []) (ks.getD (j + 1) []) wr s3 s2)
          have hlc : ltS (ks.getD j []) (ks.getD (j + 1) []) = decide (Lib.compareBytes (u8s (ks.getD j [])) (u8s (ks.getD (j + 1) [])) < 0) := less_cmp _ _
          rw [hlc] at hst
          have hcr := cmp_range (u8s (ks.getD j [])) (u8s (ks.getD (j + 1) []))
          have HS := hide' hst
          generalize Lib.compareBytes (u8s (ks.getD j [])) (u8s (ks.getD (j + 1) [])) = q at *
          generalize (ks.getD (j + 1) []) = ys at *
          generalize (ks.getD j []) = zs at *
          clear hat hst hlc hn s2 s3
          go_wp2_with fail
          refine HN.out.mono ?_
          rintro e w1 ⟨rfl, e1⟩
          obtain rfl := e1
          go_wp2_with fail
          refine HC.out.mono ?_
          rintro e w1 ⟨rfl, e1⟩
          obtain rfl := e1
          by_cases hq : 0 ≤ q
          · have HF : Hid (ascB ks = false) := HNo.out (j + 1) (by omega) (by rw [HS.out]; simpa using hq)
            go_wp2
            go_ret
            exact ⟨ret_bool HF.out.symm, rfl⟩
          · have HF : Hid (stepB ks (j + 1) = true) := by show stepB ks (j + 1) = true; rw [HS.out]; simpa using hq
            go_wp2
            go_roundw
            case rel => exact ⟨j + 2, by omega, by go_num, fun i hi => by
                                by_cases e : i = j + 1
                                · rw [e]; exact HF.out
                                · exact hall i (by omega), by first | rfl | trivial⟩
            case measure => simp [intOf]; omega
      · have hn' : nameB (ks.getD k []) = false := by simpa using hn
        have HF : Hid (ascB ks = false) := HNo.out k hlt (by unfold stepB; rw [hn']; rfl)
        have HN := hide' (impl_NameOk_any a2 c2 (ks.getD k []) wr s2 m2)
        rw [hn'] at HN
        generalize (ks.getD k []) = ys at *
        clear hat hn hn'
        go_wp2_with fail
        refine HN.out.mono ?_
        rintro e w1 ⟨rfl, e1⟩
        obtain rfl := e1
        go_wp2
        go_ret
        exact ⟨ret_bool HF.out.symm, rfl⟩
    · have HF : Hid (ascB ks = true) := HY.out (fun i hi => hall i (by omega))
      have hlt' : ¬ (k : Int) < (ks.length : Int) := by omega
      go_wp2
      go_ret
      exact ⟨ret_bool HF.out.symm, rfl⟩
end Go.Proofs.Ytlhcfipfkodlfaa
/-
  What l2int of the specification answers.
-/
namespace Go.Proofs.Ytlhcfipfkodlfaa
open Go.RowKit
set_option linter.unusedVariables false

/-- A number of a value. -/
def intB (n : Int) : Bool := decide (-1000000000000 ≤ n) && decide (n ≤ 1000000000000)

set_option maxHeartbeats 800000 in
theorem spec_l2int_any (n : Int) (w : World) :
    Calls Try.prog 35 #[.int .i64 n] w fun e w' => e = .returned (.bool (intB n)) ∧ w = w' := by
  by_cases h1 : -1000000000000 ≤ n
  · by_cases h2 : n ≤ 1000000000000
    · have HO : Hid (intB n = true) := by simp [Hid, intB, h1, h2]
      go_enter Try.func35, Try.ntmps35
      go_wp2
      go_ret
      exact ⟨ret_bool HO.out.symm, rfl⟩
    · have HO : Hid (intB n = false) := by simp [Hid, intB, h2]
      go_enter Try.func35, Try.ntmps35
      go_wp2
      go_ret
      exact ⟨ret_bool HO.out.symm, rfl⟩
  · have HO : Hid (intB n = false) := by simp [Hid, intB, h1]
    go_enter Try.func35, Try.ntmps35
    go_wp2
    go_ret
    exact ⟨ret_bool HO.out.symm, rfl⟩
end Go.Proofs.Ytlhcfipfkodlfaa
/-
  The datum of a map of parts while its keys are put; no statement is proved here.
-/
namespace Go.Proofs.Ytlhcfipfkodlfaa
open Go.RowKit
set_option linter.unusedVariables false

/-- How an element of a map of parts reads: as itself. -/
def tokR (v : Value) : Option (DataW Value × List MemPlace) := some (.held v, [])

/-- The map's datum after the first k of its keys were put. -/
def mapD (vK : List (List Int)) (ps : List Value) : Nat → DataW Value
  | 0 => .map []
  | k + 1 => (mapD vK ps k).put (.string (u8s (vK.getD k []))) (.held (ps.getD k .nilIface))

theorem below_grows {w w' : World} (h : Below w.heap.size w w') (r : Option Nat) : w.grownBy w' r := ⟨h.os, h.tape, h.output, h.size, fun k hk _ => h.block k hk⟩
end Go.Proofs.Ytlhcfipfkodlfaa
/-
  DERIVED: THE SHELF's CONTRACTS AT THIS DUMP, IN PLAIN WORDS (tools/lay-plain.mjs out of 'TryShelf.lean', which tools/lay-shelf.mjs wrote): THE SAME DECLARATIONS UNDER THE SAME NAMES: 'import', 'namespace', 'open', 'def', 'theorem' AND NOTHING ELSE: no command of the shelf's: FOR A HAND-IN. Each laying: the table of numbers ('.._ren') and one theorem, a field a fact of the dump's own or the kernel's comparison; each contract: ONE APPLICATION.
-/
namespace Go.Proofs
open Go.Shelf
def Try.laysGg6_ren : Go.Shelf.Ren := ⟨fun | 6 => 45 | 10 => 49 | 11 => 50 | 12 => 51 | 13 => 52 | 14 => 53 | 24 => 64 | 25 => 65 | 26 => 66 | 27 => 67 | 28 => 68 | 29 => 69 | 30 => 70 | 31 => 71 | 32 => 72 | 33 => 73 | 34 => 74 | 35 => 75 | 36 => 76 | 37 => 77 | 38 => 78 | 39 => 79 | n => n, fun | 20 => 20 | 26 => 83 | 35 => 88 | 0 => 0 | 37 => 90 | 3 => 3 | 41 => 93 | 44 => 96 | 49 => 101 | 51 => 103 | 4 => 4 | 54 => 106 | 53 => 105 | 58 => 110 | 5 => 5 | 9 => 9 | 60 => 112 | 64 => 116 | 66 => 118 | 67 => 119 | 17 => 17 | 32 => 85 | 33 => 86 | 82 => 134 | 12 => 12 | 75 => 127 | 76 => 128 | 77 => 129 | 78 => 130 | 79 => 131 | 80 => 132 | n => n, fun | n => n⟩
theorem Try.laysGg6 : Go.Proofs.LaysGg.n6 Try.prog Try.laysGg6_ren := {
  mixed := by kernel_rfl
  f6 := Try.func45.trans (congrArg some (by kernel_rfl))
  f10 := Try.func49.trans (congrArg some (by kernel_rfl))
  f11 := Try.func50.trans (congrArg some (by kernel_rfl))
  f12 := Try.func51.trans (congrArg some (by kernel_rfl))
  f13 := Try.func52.trans (congrArg some (by kernel_rfl))
  f14 := Try.func53.trans (congrArg some (by kernel_rfl))
  f24 := Try.func64.trans (congrArg some (by kernel_rfl))
  f25 := Try.func65.trans (congrArg some (by kernel_rfl))
  f26 := Try.func66.trans (congrArg some (by kernel_rfl))
  f27 := Try.func67.trans (congrArg some (by kernel_rfl))
  f28 := Try.func68.trans (congrArg some (by kernel_rfl))
  f29 := Try.func69.trans (congrArg some (by kernel_rfl))
  f30 := Try.func70.trans (congrArg some (by kernel_rfl))
  f31 := Try.func71.trans (congrArg some (by kernel_rfl))
  f32 := Try.func72.trans (congrArg some (by kernel_rfl))
  f33 := Try.func73.trans (congrArg some (by kernel_rfl))
  f34 := Try.func74.trans (congrArg some (by kernel_rfl))
  f35 := Try.func75.trans (congrArg some (by kernel_rfl))
  f36 := Try.func76.trans (congrArg some (by kernel_rfl))
  f37 := Try.func77.trans (congrArg some (by kernel_rfl))
  f38 := Try.func78.trans (congrArg some (by kernel_rfl))
  f39 := Try.func79.trans (congrArg some (by kernel_rfl))
  t0 := Try.underlying0
  a0 := Try.isAgg0
  z0 := Try.sizeOf0
  v0 := Try.zeroValue0
  i0 := by kernel_rfl
  t3 := Try.underlying3
  a3 := Try.isAgg3
  z3 := Try.sizeOf3
  v3 := Try.zeroValue3
  i3 := by kernel_rfl
  t4 := Try.underlying4
  a4 := Try.isAgg4
  z4 := Try.sizeOf4
  v4 := Try.zeroValue4
  i4 := by kernel_rfl
  t5 := Try.underlying5
  a5 := Try.isAgg5
  z5 := Try.sizeOf5
  v5 := Try.zeroValue5
  i5 := by kernel_rfl
  t9 := Try.underlying9
  a9 := Try.isAgg9
  z9 := Try.sizeOf9
  v9 := Try.zeroValue9
  i9 := by kernel_rfl
  t12 := Try.underlying12
  a12 := Try.isAgg12
  z12 := Try.sizeOf12
  v12 := Try.zeroValue12
  i12 := by kernel_rfl
  t17 := Try.underlying17
  a17 := Try.isAgg17
  z17 := Try.sizeOf17
  v17 := Try.zeroValue17
  i17 := by kernel_rfl
  t20 := Try.underlying20
  a20 := Try.isAgg20
  z20 := Try.sizeOf20
  v20 := Try.zeroValue20
  i20 := by kernel_rfl
  t26 := Try.underlying83
  a26 := Try.isAgg83
  z26 := Try.sizeOf83
  v26 := Try.zeroValue83
  i26 := by kernel_rfl
  t32 := Try.underlying85
  a32 := Try.isAgg85
  z32 := Try.sizeOf85
  v32 := Try.zeroValue85
  i32 := by kernel_rfl
  t33 := Try.underlying86
  a33 := Try.isAgg86
  z33 := Try.sizeOf86
  v33 := Try.zeroValue86
  i33 := by kernel_rfl
  t35 := Try.underlying88
  a35 := Try.isAgg88
  z35 := Try.sizeOf88
  v35 := Try.zeroValue88
  i35 := by kernel_rfl
  t37 := Try.underlying90
  a37 := Try.isAgg90
  z37 := Try.sizeOf90
  v37 := Try.zeroValue90
  i37 := by kernel_rfl
  t41 := Try.underlying93
  a41 := Try.isAgg93
  z41 := Try.sizeOf93
  v41 := Try.zeroValue93
  i41 := by kernel_rfl
  t44 := Try.underlying96
  a44 := Try.isAgg96
  z44 := Try.sizeOf96
  v44 := Try.zeroValue96
  i44 := by kernel_rfl
  t49 := Try.underlying101
  a49 := Try.isAgg101
  z49 := Try.sizeOf101
  v49 := Try.zeroValue101
  i49 := by kernel_rfl
  t51 := Try.underlying103
  a51 := Try.isAgg103
  z51 := Try.sizeOf103
  v51 := Try.zeroValue103
  i51 := by kernel_rfl
  t53 := Try.underlying105
  a53 := Try.isAgg105
  z53 := Try.sizeOf105
  v53 := Try.zeroValue105
  i53 := by kernel_rfl
  t54 := Try.underlying106
  a54 := Try.isAgg106
  z54 := Try.sizeOf106
  v54 := Try.zeroValue106
  i54 := by kernel_rfl
  t58 := Try.underlying110
  a58 := Try.isAgg110
  z58 := Try.sizeOf110
  v58 := Try.zeroValue110
  i58 := by kernel_rfl
  t60 := Try.underlying112
  a60 := Try.isAgg112
  z60 := Try.sizeOf112
  v60 := Try.zeroValue112
  i60 := by kernel_rfl
  t64 := Try.underlying116
  a64 := Try.isAgg116
  z64 := Try.sizeOf116
  v64 := Try.zeroValue116
  i64 := by kernel_rfl
  t66 := Try.underlying118
  a66 := Try.isAgg118
  z66 := Try.sizeOf118
  v66 := Try.zeroValue118
  i66 := by kernel_rfl
  t67 := Try.underlying119
  a67 := Try.isAgg119
  z67 := Try.sizeOf119
  v67 := Try.zeroValue119
  i67 := by kernel_rfl
  t75 := Try.underlying127
  a75 := Try.isAgg127
  z75 := Try.sizeOf127
  v75 := Try.zeroValue127
  i75 := by kernel_rfl
  t76 := Try.underlying128
  a76 := Try.isAgg128
  z76 := Try.sizeOf128
  v76 := Try.zeroValue128
  i76 := by kernel_rfl
  t77 := Try.underlying129
  a77 := Try.isAgg129
  z77 := Try.sizeOf129
  v77 := Try.zeroValue129
  i77 := by kernel_rfl
  t78 := Try.underlying130
  a78 := Try.isAgg130
  z78 := Try.sizeOf130
  v78 := Try.zeroValue130
  i78 := by kernel_rfl
  t79 := Try.underlying131
  a79 := Try.isAgg131
  z79 := Try.sizeOf131
  v79 := Try.zeroValue131
  i79 := by kernel_rfl
  t80 := Try.underlying132
  a80 := Try.isAgg132
  z80 := Try.sizeOf132
  v80 := Try.zeroValue132
  i80 := by kernel_rfl
  t82 := Try.underlying134
  a82 := Try.isAgg134
  z82 := Try.sizeOf134
  v82 := Try.zeroValue134
  i82 := by kernel_rfl }
end Go.Proofs
/-
  sort.Slice as the program's fields calls it: at fields (a key, a part), by the keys.
-/
namespace Go.Proofs.Ytlhcfipfkodlfaa
open Go.Shelf Go.RowKit Go.Lib Go.Sort
set_option linter.unusedVariables false
set_option linter.unusedSimpArgs false

/-- A field: its key's bytes, its part's type and what that holds. -/
def encF (x : List UInt8 × (TypeId × Value)) : List Value := [.string ⟨x.1.toArray⟩, .iface x.2.1 x.2.2]
/-- One field is ahead of another one. -/
def ltF (x y : List UInt8 × (TypeId × Value)) : Bool := Op.bytesLess x.1 y.1

theorem less_irrefl : ∀ a : List UInt8, Op.bytesLess a a = false
  | [] => rfl
  | x :: a => by
    have ih := less_irrefl a
    have h : ¬ x < x := UInt8.lt_irrefl x
    simp [Op.bytesLess, ih, h]

theorem less_trans : ∀ a b c : List UInt8, Op.bytesLess a b = true → Op.bytesLess b c = true → Op.bytesLess a c = true
  | [], b, [], _, h2 => by cases b <;> simp [Op.bytesLess] at h2
  | [], _, _ :: _, _, _ => rfl
  | _ :: _, [], _, h1, _ => by simp [Op.bytesLess] at h1
  | _ :: _, _ :: _, [], _, h2 => by simp [Op.bytesLess] at h2
  | x :: a, y :: b, z :: c, h1, h2 => by
    have ih := less_trans a b c
    simp only [Op.bytesLess, Bool.or_eq_true, decide_eq_true_eq, Bool.and_eq_true, beq_iff_eq] at h1 h2 ⊢
    rcases h1 with h1 | ⟨rfl, h1⟩
    · rcases h2 with h2 | ⟨rfl, h2⟩
      · exact .inl (UInt8.lt_trans h1 h2)
      · exact .inl h1
    · rcases h2 with h2 | ⟨rfl, h2⟩
      · exact .inl h2
      · exact .inr ⟨rfl, ih h1 h2⟩

theorem less_total : ∀ a b : List UInt8, Op.bytesLess a b = false → Op.bytesLess b a = false → a = b
  | [], [], _, _ => rfl
  | [], _ :: _, h, _ => by simp [Op.bytesLess] at h
  | _ :: _, [], _, h => by simp [Op.bytesLess] at h
  | x :: a, y :: b, h1, h2 => by
    have ih := less_total a b
    simp only [Op.bytesLess, Bool.or_eq_false_iff, decide_eq_false_iff_not, Bool.and_eq_false_iff, beq_eq_false_iff_ne] at h1 h2
    have e : x = y := UInt8.le_antisymm (UInt8.not_lt.1 h2.1) (UInt8.not_lt.1 h1.1)
    subst e
    rw [ih (h1.2.resolve_left (fun h => h rfl)) (h2.2.resolve_left (fun h => h rfl))]

theorem swo_ltF : SWO ltF where
  irrefl x := less_irrefl x.1
  trans x y z h1 h2 := less_trans x.1 y.1 z.1 h1 h2
  ntrans x y z h1 h2 := by
    show Op.bytesLess x.1 z.1 = false
    cases h : Op.bytesLess x.1 z.1 with
    | false => rfl
    | true =>
      have h1' : Op.bytesLess x.1 y.1 = false := h1
      have h2' : Op.bytesLess y.1 z.1 = false := h2
      cases h3 : Op.bytesLess y.1 x.1 with
      | true => rw [less_trans _ _ _ h3 h] at h2'; simp at h2'
      | false =>
        have e := less_total _ _ h1' h3
        rw [e] at h
        rw [h] at h2'
        simp at h2'

set_option maxHeartbeats 2000000 in
/-- The closure of fields. -/
theorem fields_less (blk off c Bs size : Nat) (W : World) (G : Nat → List UInt8) (hs : W.cell? ⟨Bs, 0, none⟩ = some (.slice (some ⟨blk, off, none⟩) size c))
    (hc : ∀ t, t < size → W.cell? ⟨blk, off + t * 2, none⟩ = some (.string ⟨(G t).toArray⟩)) (i j : Nat) (hi : i < size) (hj : j < size) (_hsz : size < 4611686018427387904) :
    Calls Try.prog 46 #[.int .i64 i, .int .i64 j, .pointer (some ⟨Bs, 0, none⟩)] W fun e w' => e = .returned (.bool (Op.bytesLess (G i) (G j))) ∧ ∃ q, w' = W.drewN q := by
  have ci := hc i hi
  have cj := hc j hj
  have hi' : (i : Int) < (size : Int) := by omega
  have hj' : (j : Int) < (size : Int) := by omega
  go_enter Try.func46, Try.ntmps46
  go_wp2
  go_quiet (fail)
  go_wp2
  go_ret
  exact ⟨ret_bool (by simp [ByteArray.toList_mk]), nq, rfl⟩
end Go.Proofs.Ytlhcfipfkodlfaa
/-
  A map of parts as its datum: the entries in the order of the keys.
-/
namespace Go.Proofs.Ytlhcfipfkodlfaa
open Go.RowKit
set_option linter.unusedVariables false
set_option linter.unusedSimpArgs false

theorem before_eq : ∀ a b : List UInt8, bytesBefore a b = Op.bytesLess a b
  | [], [] => rfl
  | [], _ :: _ => rfl
  | _ :: _, [] => rfl
  | x :: a, y :: b => by
    have ih := before_eq a b
    unfold bytesBefore Op.bytesLess
    rw [ih]

/-- The key at place i is behind the one ahead of it. -/
def upB (ks : List (List Int)) (i : Nat) : Bool := i == 0 || ltS (ks.getD (i - 1) []) (ks.getD i [])
theorem step_up {ks : List (List Int)} {n : Nat} (h : ∀ i, i < n → stepB ks i = true) : ∀ i, i < n → upB ks i = true := by
  intro i hi
  have h1 := h i hi
  simp only [stepB, Bool.and_eq_true] at h1
  exact h1.2

/-- Keys that ascend one by one ascend. -/
theorem asc_ltU {vK : List (List Int)} {k : Nat} (h : ∀ i, i < k → upB vK i = true) : ∀ j, j < k → ∀ i, i < j → Op.bytesLess (u8s (vK.getD i [])) (u8s (vK.getD j [])) = true := by
  intro j
  induction j with
  | zero => intro _ i hi; omega
  | succ j ih =>
    intro hj i hi
    have hs := h (j + 1) hj
    have h1 : Op.bytesLess (u8s (vK.getD j [])) (u8s (vK.getD (j + 1) [])) = true := by
      unfold upB at hs
      have h2 := hs
      rw [Nat.add_sub_cancel] at h2
      have e : (j + 1 == 0) = false := by simp
      rw [e, Bool.false_or] at h2
      exact h2
    by_cases e : i = j
    · rw [e]; exact h1
    · exact less_trans _ _ _ (ih (by omega) i (by omega)) h1

theorem asc_lt {vK : List (List Int)} {k : Nat} (h : ∀ i, i < k → stepB vK i = true) : ∀ j, j < k → ∀ i, i < j → Op.bytesLess (u8s (vK.getD i [])) (u8s (vK.getD j [])) = true := asc_ltU (step_up h)

theorem less_ne {a b : List UInt8} (h : Op.bytesLess a b = true) : (a == b) = false := by
  rw [beq_eq_false_iff_ne]
  intro e
  rw [e, less_irrefl] at h
  simp at h

theorem less_asymm {a b : List UInt8} (h : Op.bytesLess a b = true) : Op.bytesLess b a = false := by
  cases h2 : Op.bytesLess b a with
  | false => rfl
  | true =>
    have := less_trans _ _ _ h h2
    rw [less_irrefl] at this
    simp at this

theorem insert_last {H : Type} (x : Go.Lit × DataW H) : ∀ l : List (Go.Lit × DataW H), (∀ y ∈ l, x.1.before y.1 = false) → DataW.insert x l = l ++ [x]
  | [], _ => rfl
  | y :: r, h => by
    have h1 := h y (by simp)
    have ih := insert_last x r (fun z hz => h z (by simp [hz]))
    unfold DataW.insert
    rw [h1, ih]
    rfl

/-- The first k entries. -/
def entF (vK : List (List Int)) (ps : List Value) (k : Nat) : List (Go.Lit × DataW Value) := (List.range k).map fun i => (.string (u8s (vK.getD i [])), .held (ps.getD i .nilIface))

theorem mapD_listU (vK : List (List Int)) (ps : List Value) : ∀ k, (∀ i, i < k → upB vK i = true) → mapD vK ps k = .map (entF vK ps k)
  | 0, _ => rfl
  | k + 1, h => by
    have ih := mapD_listU vK ps k (fun i hi => h i (by omega))
    show (mapD vK ps k).put _ _ = _
    rw [ih]
    have hl : ∀ y ∈ entF vK ps k, Op.bytesLess (match y.1 with | .string s => s | _ => []) (u8s (vK.getD k [])) = true ∧ ∃ s, y.1 = .string s := by
      intro y hy
      simp only [entF, List.mem_map, List.mem_range] at hy
      obtain ⟨i, hi, rfl⟩ := hy
      exact ⟨asc_ltU h k (by omega) i hi, _, rfl⟩
    have hf : (entF vK ps k).filter (fun p => !p.1.sameKey (.string (u8s (vK.getD k [])))) = entF vK ps k := by
      rw [List.filter_eq_self]
      intro y hy
      obtain ⟨h1, s, hs⟩ := hl y hy
      rw [hs] at h1 ⊢
      show (!(s == u8s (vK.getD k []))) = true
      rw [less_ne h1]
      rfl
    show DataW.map (DataW.insert _ ((entF vK ps k).filter _)) = _
    rw [hf, insert_last _ _ (fun y hy => by
      obtain ⟨h1, s, hs⟩ := hl y hy
      rw [hs] at h1 ⊢
      show bytesBefore _ _ = false
      rw [before_eq]
      exact less_asymm h1)]
    simp [entF, List.range_succ]
theorem mapD_list (vK : List (List Int)) (ps : List Value) (k : Nat) (h : ∀ i, i < k → stepB vK i = true) : mapD vK ps k = .map (entF vK ps k) := mapD_listU vK ps k (step_up h)
end Go.Proofs.Ytlhcfipfkodlfaa
/-
  Entries of a map, in whatever order they were met: put in order by their keys they are the one list of the map's entries.
-/
namespace Go.Proofs.Ytlhcfipfkodlfaa
open Go.RowKit Go.Sort
set_option linter.unusedVariables false
set_option linter.unusedSimpArgs false

/-- What an interface holds. -/
def unI : Value → TypeId × Value
  | .iface t v => (t, v)
  | _ => (0, .nilIface)

abbrev Fd : Type := List UInt8 × (TypeId × Value)

/-- The entries, in the order of the keys. -/
def fieldL (vK : List (List Int)) (ps : List Value) (n : Nat) : List Fd := (List.range n).map fun i => (u8s (vK.getD i []), unI (ps.getD i .nilIface))

theorem length_fieldL (vK : List (List Int)) (ps : List Value) (n : Nat) : (fieldL vK ps n).length = n := by simp [fieldL]
theorem fieldL_at (vK : List (List Int)) (ps : List Value) (n i : Nat) (h : i < n) : (fieldL vK ps n)[i]'(by rw [length_fieldL]; exact h) = (u8s (vK.getD i []), unI (ps.getD i .nilIface)) := by simp [fieldL]

theorem key_inj {vK : List (List Int)} {n : Nat} (h : ∀ i, i < n → upB vK i = true) {i j : Nat} (hi : i < n) (hj : j < n) (e : u8s (vK.getD i []) = u8s (vK.getD j [])) : i = j := by
  rcases Nat.lt_trichotomy i j with hlt | heq | hgt
  · have := asc_ltU h j hj i hlt
    rw [e, less_irrefl] at this
    simp at this
  · exact heq
  · have := asc_ltU h i hi j hgt
    rw [e, less_irrefl] at this
    simp at this

theorem find_ent (vK : List (List Int)) (ps : List Value) (k : List UInt8) : ∀ (l : List Nat) (i : Nat), i ∈ l → u8s (vK.getD i []) = k → (∀ j ∈ l, u8s (vK.getD j []) = k → j = i) →
    (l.map fun i => ((.string (u8s (vK.getD i [])), .held (ps.getD i .nilIface)) : Go.Lit × DataW Value)).find? (fun p => p.1.sameKey (.string k)) = some (.string k, .held (ps.getD i .nilIface))
  | [], i, h, _, _ => by simp at h
  | j :: l, i, h, e, hu => by
    simp only [List.map_cons, List.find?_cons]
    by_cases hj : u8s (vK.getD j []) = k
    · have := hu j (by simp) hj
      subst this
      rw [hj]
      simp [Lit.sameKey]
    · have hf : (Lit.string (u8s (vK.getD j []))).sameKey (.string k) = false := by simpa [Lit.sameKey] using hj
      rw [hf]
      have hi : i ∈ l := by
        rcases List.mem_cons.1 h with rfl | h
        · exact absurd e hj
        · exact h
      exact find_ent vK ps k l i hi e (fun q hq => hu q (by simp [hq]))

theorem at_ent {vK : List (List Int)} {ps : List Value} {n : Nat} (h : ∀ i, i < n → upB vK i = true) {i : Nat} (hi : i < n) (zd : DataW Value) : (DataW.map (entF vK ps n)).atKey (.string (u8s (vK.getD i []))) zd = .held (ps.getD i .nilIface) := by
  have := find_ent vK ps (u8s (vK.getD i [])) (List.range n) i (by simpa using hi) rfl (fun j hj e => key_inj h (by simpa using hj) hi e)
  unfold entF DataW.atKey
  simp only
  rw [this]

/-- Met in whatever order. -/
def Met (D : DataW Value) (es : List Fd) : Prop := ∀ x ∈ es, ∀ zd, D.atKey (.string x.1) zd = .held (.iface x.2.1 x.2.2)

theorem strKeys_ent (vK : List (List Int)) (ps : List Value) (n : Nat) : Go.strKeys (DataW.map (entF vK ps n)) = (fieldL vK ps n).map (·.1) := by
  simp [Go.strKeys, entF, fieldL, Go.strOf, Function.comp_def]

theorem met_eq {vK : List (List Int)} {ps : List Value} {n : Nat} (h : ∀ i, i < n → upB vK i = true) {es : List Fd} (hm : Met (DataW.map (entF vK ps n)) es) {x : Fd} (hx : x ∈ es) {i : Nat} (hi : i < n) (e : x.1 = u8s (vK.getD i [])) : x = (u8s (vK.getD i []), unI (ps.getD i .nilIface)) := by
  have h1 := hm x hx .nil
  rw [e, at_ent h hi] at h1
  simp only [DataW.held.injEq] at h1
  obtain ⟨x1, x2, x3⟩ := x
  simp only at e h1
  rw [h1, e]
  rfl

theorem nodup_of_map {α β : Type} (f : α → β) {l : List α} (h : (l.map f).Nodup) : l.Nodup := (List.pairwise_map.1 h).imp fun hne e => hne (congrArg f e)

theorem met_perm {vK : List (List Int)} {ps : List Value} {n : Nat} (h : ∀ i, i < n → upB vK i = true) {es : List Fd} (hm : Met (DataW.map (entF vK ps n)) es) (hp : (es.map (·.1)).Perm (Go.strKeys (DataW.map (entF vK ps n)))) : es.Perm (fieldL vK ps n) := by
  rw [strKeys_ent] at hp
  have hnd : ((fieldL vK ps n).map (·.1)).Nodup := by
    rw [List.nodup_iff_pairwise_ne, List.pairwise_map, fieldL, List.pairwise_map]
    refine List.Pairwise.imp_of_mem ?_ (List.nodup_range (n := n))
    intro a b ha hb hne e
    exact hne (key_inj h (by simpa using ha) (by simpa using hb) e)
  have hn1 : (fieldL vK ps n).Nodup := nodup_of_map _ hnd
  have hn2 : es.Nodup := nodup_of_map _ (hp.nodup_iff.2 hnd)
  refine (List.perm_ext_iff_of_nodup hn2 hn1).2 fun x => ⟨fun hx => ?_, fun hx => ?_⟩
  · have h1 : x.1 ∈ (fieldL vK ps n).map (·.1) := hp.mem_iff.1 (List.mem_map.2 ⟨x, hx, rfl⟩)
    obtain ⟨y, hy, e⟩ := List.mem_map.1 h1
    simp only [fieldL, List.mem_map, List.mem_range] at hy
    obtain ⟨i, hi, rfl⟩ := hy
    rw [met_eq h hm hx hi e.symm]
    simp only [fieldL, List.mem_map, List.mem_range]
    exact ⟨i, hi, rfl⟩
  · have h1 : x.1 ∈ es.map (·.1) := hp.mem_iff.2 (List.mem_map.2 ⟨x, hx, rfl⟩)
    obtain ⟨y, hy, e⟩ := List.mem_map.1 h1
    simp only [fieldL, List.mem_map, List.mem_range] at hx
    obtain ⟨i, hi, rfl⟩ := hx
    rw [← met_eq h hm hy hi e]
    exact hy

/-- What is in order and a permutation of the entries is the list of the entries. -/
theorem sorted_eq {vK : List (List Int)} {ps : List Value} {n : Nat} (h : ∀ i, i < n → upB vK i = true) (d d' : Array Fd) (hd : d.toList.Perm (fieldL vK ps n)) (hp : PermIn 0 d.size d d') (hs : SortedIn ltF 0 d.size d') : d'.toList = fieldL vK ps n := by
  have hsz : d'.size = d.size := hp.1
  have hp2 : d'.toList.Perm d.toList := by
    have := hp.2.2
    rw [Array.extract_eq_self_of_le (by omega), Array.extract_eq_self_of_le (by omega)] at this
    exact this
  have hP := hp2.trans hd
  refine List.Perm.eq_of_pairwise (le := fun x y => ltF y x = false) ?_ ?_ ?_ hP
  · intro a b ha hb h1 h2
    have ha' : a ∈ fieldL vK ps n := hP.mem_iff.1 ha
    simp only [fieldL, List.mem_map, List.mem_range] at ha' hb
    obtain ⟨i, hi, rfl⟩ := ha'
    obtain ⟨j, hj, rfl⟩ := hb
    have e := less_total _ _ h2 h1
    have := key_inj h hi hj e
    rw [this]
  · rw [List.pairwise_iff_getElem]
    intro i j hi hj hij
    have := hs i j (Nat.zero_le _) hij (by rw [← hsz]; simpa using hj)
    rw [getElem!_pos d' i (by simpa using hi), getElem!_pos d' j (by simpa using hj)] at this
    simpa using this
  · rw [fieldL, List.pairwise_map]
    refine List.Pairwise.imp_of_mem ?_ (List.pairwise_lt_range (n := n))
    intro a b ha hb hlt
    exact less_asymm (asc_ltU h b (by simpa using hb) a hlt)
end Go.Proofs.Ytlhcfipfkodlfaa
/-
  sort.Slice as the program's fields calls it, walked by the shelf's contract: what it leaves is a permutation, ascending by the keys.
-/
namespace Go.Proofs.Ytlhcfipfkodlfaa
open Go.Shelf Go.RowKit Go.Lib Go.Sort
set_option linter.unusedVariables false
set_option linter.unusedSimpArgs false
set_option maxRecDepth 100000

theorem infoFT : (Try.prog.info? 76).isSome = true := by kernel_rfl
theorem infoFE : (Try.prog.info? 79).isSome = true := by kernel_rfl

theorem sort_fields (blk off c Bs : Nat) (d : Array (List UInt8 × (TypeId × Value))) (h2 : 2 ≤ d.size) (hsz : d.size < 4611686018427387904) (w : World) (hH : HoldsK encF 2 w blk off d) (hblk : blk < w.heap.size)
    (hBs : w.cell? ⟨Bs, 0, none⟩ = some (.slice (some ⟨blk, off, none⟩) d.size c)) (hB1 : Bs < w.heap.size) (hB2 : Bs ≠ blk) :
    Calls Try.prog 45 #[.iface 76 (.slice (some ⟨blk, off, none⟩) d.size c), .func (.func 46) #[] #[.pointer (some ⟨Bs, 0, none⟩)]] w fun e w' =>
      e = .returned (.tuple #[]) ∧ ∃ d' n os, PermIn 0 d.size d d' ∧ SortedIn ltF 0 d.size d' ∧ w' = grow (putRowK encF 2 (Sort.ahead w n) blk off d') os := by
  have hless : LessReadsK Try.prog 46 #[.pointer (some ⟨Bs, 0, none⟩)] encF 2 ltF blk off d.size w := by
    intro m os dk hs i j hi hj
    have e : sortWorldK encF 2 w blk off m dk os = putRowK encF 2 (grow (Sort.ahead w m) os) blk off dk := by
      unfold sortWorldK; rw [putRowK_grow _ _ (Sort.ahead w m) _ blk off _ hblk]
    have hHg : HoldsK encF 2 (grow (Sort.ahead w m) os) blk off d := holdsK_grow _ _ _ _ blk off d hblk (holdsK_ahead _ _ _ _ _ _ _ hH)
    refine fields_less blk off c Bs d.size _ (fun t => dk[t]!.1) ?_ (fun t ht => ?_) i j hi hj (by omega)
    · rw [e, cell?_putRowK_other _ _ _ blk off dk _ (by exact hB2), cell?_grow _ _ _ (by exact hB1)]; exact hBs
    · rw [e]; exact ((holdsK_putRowK _ _ _ blk off d dk hHg hs).cell (i := t) (c := 0) (by omega) (by omega)).1
  have hk9 : ∀ ie, Try.prog.info? 79 = some ie → Lib.swapperK d.size ie 25 = 9 := by
    intro ie hie
    have a : ((Try.prog.info? 79).map fun i => (i.hasPointers, i.bytes)) = some (true, 32) := by kernel_rfl
    rw [hie] at a
    simp at a
    have c : (d.size == 0) = false := by rw [beq_eq_false_iff_ne]; omega
    have d' : (d.size == 1) = false := by rw [beq_eq_false_iff_ne]; omega
    simp [Lib.swapperK, a.1, a.2, c, d']
  obtain ⟨iT, hiT⟩ := Option.isSome_iff_exists.1 infoFT
  obtain ⟨iE, hiE⟩ := Option.isSome_iff_exists.1 infoFE
  have hdT : iT.desc = .slice 79 := by
    have a : ((Try.prog.info? 76).map fun i => i.desc) = some (.slice 79) := by kernel_rfl
    rw [hiT] at a
    simpa using a
  have hsE : iE.size = 2 := by
    have a : ((Try.prog.info? 79).map fun i => i.size) = some 2 := by kernel_rfl
    rw [hiE] at a
    simpa using a
  exact Any.sort_Slice_cells_sorted Try.laysGg6 76 79 iT iE hiT hdT (by kernel_rfl) hiE 25 (fun _ => by kernel_rfl) encF 2 (fun _ => rfl) hsE (fun _ => by kernel_rfl)
    (fun x v hv => by simp [encF] at hv; rcases hv with rfl | rfl <;> rfl) ltF swo_ltF 46 _
    (enters_of Try.func46 (by kernel_rfl) rfl) blk off c d h2 hsz 63 (by rw [hk9 _ hiE]; kernel_rfl) false
    (fun args W => run_callFunc_extern Try.func63 (by kernel_rfl) (by kernel_rfl) (by kernel_rfl) (e := Extern.ReflectliteSwapper.swap false) (by kernel_rfl) args W) w hless hH hblk

theorem swap_none (ie : TypeInfo) : Lib.swapperK 0 ie 25 = 1 := rfl
theorem swap_one (ie : TypeInfo) : Lib.swapperK 1 ie 25 = 2 := rfl
/-- .. at no field or one: nothing that lay turns. -/
theorem sort_tiny (p : Option Addr) (n c Bs : Nat) (h1 : n ≤ 1) (w : World) :
    Calls Try.prog 45 #[.iface 76 (.slice p n c), .func (.func 46) #[] #[.pointer (some ⟨Bs, 0, none⟩)]] w fun e w' => e = .returned (.tuple #[]) ∧ ∃ os, w' = grow w os := by
  obtain ⟨iT, hiT⟩ := Option.isSome_iff_exists.1 infoFT
  obtain ⟨iE, hiE⟩ := Option.isSome_iff_exists.1 infoFE
  have hdT : iT.desc = .slice 79 := by
    have a : ((Try.prog.info? 76).map fun i => i.desc) = some (.slice 79) := by kernel_rfl
    rw [hiT] at a
    simpa using a
  have h01 : n = 0 ∨ n = 1 := by omega
  rcases h01 with rfl | rfl
  · exact Any.sort_Slice_tiny Try.laysGg6 76 79 iT iE hiT hdT (by kernel_rfl) hiE 25 (fun _ => by kernel_rfl) p 0 c h1 55 (by rw [swap_none]; kernel_rfl) _ _ _ w
  · exact Any.sort_Slice_tiny Try.laysGg6 76 79 iT iE hiT hdT (by kernel_rfl) hiE 25 (fun _ => by kernel_rfl) p 1 c h1 56 (by rw [swap_one]; kernel_rfl) _ _ _ w
end Go.Proofs.Ytlhcfipfkodlfaa
