/-
  Texts that a law leans on, one behind the other; no statement is proved here.
-/
import Derived.Test.YtdhlmcgbgdljmaaGreatDoorPk5
import Derived.Test.YtdhlmcgbgdljmaaGreatDoorPk2
import Derived.Test.YtdhlmcgbgdljmaaGreatDoorPk4
import Derived.Test.YtdhlmcgbgdljmaaGreatDoorPk3
import Derived.Deep.RegionWith
/-
  NameOk, of the program and of the specification: of a slice of bytes it tells whether it is a name, and turns nothing; the law FnExactNameOk.
-/
namespace Go.Proofs.YtdhlmcgbgdljmaaGreatDoor
open Go.RowKit
set_option linter.unusedVariables false

/-- A letter of a name. -/
def letB (c : Int) : Bool := decide (97 ≤ c) && decide (c ≤ 122)
/-- A name. -/
def nameB (xs : List Int) : Bool := decide (1 ≤ xs.length) && decide (xs.length ≤ 8) && xs.all letB

theorem nameB_short (xs : List Int) (h : xs.length < 1) : nameB xs = false := by simp [nameB]; omega
theorem nameB_long (xs : List Int) (h : 8 < xs.length) : nameB xs = false := by simp [nameB]; omega
theorem nameB_all (xs : List Int) (h1 : 1 ≤ xs.length) (h2 : xs.length ≤ 8) : nameB xs = xs.all letB := by simp [nameB, h1, h2]

/-- The first k all fulfil p. -/
def fstAll (p : Int → Bool) (xs : List Int) (k : Nat) : Prop := ∀ i, i < k → p (xs.getD i 0) = true
theorem fstAll_zero (p : Int → Bool) (xs : List Int) : fstAll p xs 0 := fun i h => by omega
theorem fstAll_succ {p : Int → Bool} {xs : List Int} {k : Nat} (h : fstAll p xs k) (hk : p (xs.getD k 0) = true) : fstAll p xs (k + 1) := by
  intro i hi
  by_cases e : i = k
  · rw [e]; exact hk
  · exact h i (by omega)
theorem all_of_fstAll {p : Int → Bool} {xs : List Int} (h : fstAll p xs xs.length) : xs.all p = true := by
  rw [List.all_eq_true]
  intro x hx
  obtain ⟨i, hi, rfl⟩ := List.getElem_of_mem hx
  have := h i hi
  simpa [List.getD_eq_getElem?_getD, hi] using this
theorem not_all_of {p : Int → Bool} {xs : List Int} {k : Nat} (hk : k < xs.length) (h : p (xs.getD k 0) = false) : xs.all p = false := by
  rw [List.all_eq_false]
  refine ⟨xs[k], List.getElem_mem hk, ?_⟩
  simpa [List.getD_eq_getElem?_getD, hk] using h

set_option maxHeartbeats 800000 in
theorem impl_NameOk_any (a : Option Addr) (c1 : Nat) (xs : List Int) (w : World) (ha : Seg w a xs) (hl : xs.length ≤ maxLen) :
    Calls Tryz.prog 73 #[.slice a xs.length c1] w fun e w' => e = .returned (.bool (nameB xs)) ∧ w = w' := by
  unfold maxLen at hl
  by_cases h1 : xs.length < 1
  · have HO : Hid (nameB xs = false) := nameB_short xs h1
    have h1' : (xs.length : Int) < 1 := by omega
    go_enter Tryz.func73, Tryz.ntmps73
    go_wp2
    go_ret
    exact ⟨ret_bool HO.out.symm, rfl⟩
  by_cases h2 : 8 < xs.length
  · have HO : Hid (nameB xs = false) := nameB_long xs h2
    have h1' : ¬ (xs.length : Int) < 1 := by omega
    have h2' : (8 : Int) < (xs.length : Int) := by omega
    go_enter Tryz.func73, Tryz.ntmps73
    go_wp2
    go_ret
    exact ⟨ret_bool HO.out.symm, rfl⟩
  have HO : Hid (nameB xs = xs.all letB) := nameB_all xs (by omega) (by omega)
  have hb := getD_byt ha.1
  generalize hn : xs.length = n at *
  have Hn : Hid (xs.length = n) := hn
  have h1' : ¬ (n : Int) < 1 := by omega
  have h2' : ¬ (8 : Int) < (n : Int) := by omega
  clear hn
  go_enter Tryz.func73, Tryz.ntmps73
  go_wp2
  go_loopw [15] (fun i wr => ∃ k : Nat, k ≤ n ∧ i = .int .i64 k ∧ fstAll letB xs k ∧ wr = w) (fun i _ => n - (intOf i).toNat)
  case atStart => exact ⟨0, Nat.zero_le _, rfl, fstAll_zero _ _, rfl⟩
  case round =>
    obtain ⟨k, hk, rfl, hall, rfl⟩ := hrel
    by_cases hlt : k < n
    · obtain ⟨b1, o1, rfl, hc1⟩ := ha.at (k := k) (by have := Hn.out; omega)
      have hbk := hb k
      have HS : Hid (letB (xs.getD k 0) = true → fstAll letB xs (k + 1)) := fun h => fstAll_succ hall h
      have HN : Hid (letB (xs.getD k 0) = false → xs.all letB = false) := fun h => not_all_of (by have := Hn.out; omega) h
      generalize xs.getD k 0 = c at hc1 hbk HS HN
      have hlt' : (k : Int) < (n : Int) := by omega
      obtain ⟨hb1, hb2⟩ := hbk
      by_cases hc : c < 97
      · have HF : Hid (xs.all letB = false) := HN.out (by simp [letB]; omega)
        go_wp2
        go_ret
        exact ⟨ret_bool (by rw [HO.out, HF.out]), rfl⟩
      · by_cases hd : 122 < c
        · have HF : Hid (xs.all letB = false) := HN.out (by simp [letB]; omega)
          go_wp2
          go_ret
          exact ⟨ret_bool (by rw [HO.out, HF.out]), rfl⟩
        · have HF : Hid (fstAll letB xs (k + 1)) := HS.out (by simp [letB]; omega)
          go_wp2
          go_roundw
          case rel => exact ⟨k + 1, by omega, by go_num, HF.out, by first | rfl | trivial⟩
          case measure => simp [intOf]; omega
    · have HF : Hid (xs.all letB = true) := all_of_fstAll (by rw [Hn.out]; have e : k = n := by omega
                                                              rw [← e]; exact hall)
      have hlt' : ¬ (k : Int) < (n : Int) := by omega
      go_wp2
      go_ret
      exact ⟨ret_bool (by rw [HO.out, HF.out]), rfl⟩

set_option maxHeartbeats 800000 in
theorem spec_NameOk_any (a : Option Addr) (c1 : Nat) (xs : List Int) (w : World) (ha : Seg w a xs) (hl : xs.length ≤ maxLen) :
    Calls Tryz.prog 57 #[.slice a xs.length c1] w fun e w' => e = .returned (.bool (nameB xs)) ∧ w = w' := by
  unfold maxLen at hl
  by_cases h1 : xs.length < 1
  · have HO : Hid (nameB xs = false) := nameB_short xs h1
    have h1' : (xs.length : Int) < 1 := by omega
    go_enter Tryz.func57, Tryz.ntmps57
    go_wp2
    go_ret
    exact ⟨ret_bool HO.out.symm, rfl⟩
  by_cases h2 : 8 < xs.length
  · have HO : Hid (nameB xs = false) := nameB_long xs h2
    have h1' : ¬ (xs.length : Int) < 1 := by omega
    have h2' : (8 : Int) < (xs.length : Int) := by omega
    go_enter Tryz.func57, Tryz.ntmps57
    go_wp2
    go_ret
    exact ⟨ret_bool HO.out.symm, rfl⟩
  have HO : Hid (nameB xs = xs.all letB) := nameB_all xs (by omega) (by omega)
  have hb := getD_byt ha.1
  generalize hn : xs.length = n at *
  have Hn : Hid (xs.length = n) := hn
  have h1' : ¬ (n : Int) < 1 := by omega
  have h2' : ¬ (8 : Int) < (n : Int) := by omega
  clear hn
  go_enter Tryz.func57, Tryz.ntmps57
  go_wp2
  go_loopw [3] (fun i wr => ∃ k : Nat, k ≤ n ∧ i = .int .i64 k ∧ fstAll letB xs k ∧ wr = w) (fun i _ => n - (intOf i).toNat)
  case atStart => exact ⟨0, Nat.zero_le _, rfl, fstAll_zero _ _, rfl⟩
  case round =>
    obtain ⟨k, hk, rfl, hall, rfl⟩ := hrel
    by_cases hlt : k < n
    · obtain ⟨b1, o1, rfl, hc1⟩ := ha.at (k := k) (by have := Hn.out; omega)
      have hbk := hb k
      have HS : Hid (letB (xs.getD k 0) = true → fstAll letB xs (k + 1)) := fun h => fstAll_succ hall h
      have HN : Hid (letB (xs.getD k 0) = false → xs.all letB = false) := fun h => not_all_of (by have := Hn.out; omega) h
      generalize xs.getD k 0 = c at hc1 hbk HS HN
      have hlt' : (k : Int) < (n : Int) := by omega
      obtain ⟨hb1, hb2⟩ := hbk
      by_cases hc : c < 97
      · have HF : Hid (xs.all letB = false) := HN.out (by simp [letB]; omega)
        go_wp2
        go_ret
        exact ⟨ret_bool (by rw [HO.out, HF.out]), rfl⟩
      · by_cases hd : 122 < c
        · have HF : Hid (xs.all letB = false) := HN.out (by simp [letB]; omega)
          go_wp2
          go_ret
          exact ⟨ret_bool (by rw [HO.out, HF.out]), rfl⟩
        · have HF : Hid (fstAll letB xs (k + 1)) := HS.out (by simp [letB]; omega)
          go_wp2
          go_roundw
          case rel => exact ⟨k + 1, by omega, by go_num, HF.out, by first | rfl | trivial⟩
          case measure => simp [intOf]; omega
    · have HF : Hid (xs.all letB = true) := all_of_fstAll (by rw [Hn.out]; have e : k = n := by omega
                                                              rw [← e]; exact hall)
      have hlt' : ¬ (k : Int) < (n : Int) := by omega
      go_wp2
      go_ret
      exact ⟨ret_bool (by rw [HO.out, HF.out]), rfl⟩
end Go.Proofs.YtdhlmcgbgdljmaaGreatDoor
/-
  bytes.Compare of two slices of bytes.
-/
namespace Go.Proofs.YtdhlmcgbgdljmaaGreatDoor
open Go.RowKit
set_option linter.unusedVariables false

set_option maxHeartbeats 800000 in
set_option maxRecDepth 100000 in
theorem bytes_Compare_any (a b : Option Addr) (c1 c2 : Nat) (xs ys : List Int) (w : World) (ha : Seg w a xs) (hb : Seg w b ys) :
    Calls Tryz.prog 119 #[.slice a xs.length c1, .slice b ys.length c2] w fun e w' => e = .returned (.int .i64 (Lib.compareBytes (u8s xs) (u8s ys))) ∧ w = w' := by
  go_enter Tryz.func119, Tryz.ntmps119
  go_wp2
  rw [run_callFunc_extern Tryz.func123 (by kernel_rfl) (by kernel_rfl) (by kernel_rfl) (e := Extern.BytealgCompare.compare) (by kernel_rfl), run_compare_seg c1 c2 ha hb]
  simp only [Result.andThen]
  rw [Oper.upon_value]
  go_wp2
  go_ret
  exact ⟨rfl, rfl⟩

end Go.Proofs.YtdhlmcgbgdljmaaGreatDoor
/-
  A text, a number of a value, names that ascend: textOk, ascendingNames of the program, l2text, l2int of the specification; they only read.
-/
namespace Go.Proofs.YtdhlmcgbgdljmaaGreatDoor
open Go.RowKit
set_option linter.unusedVariables false

/-- A byte of a text. -/
def chrB (c : Int) : Bool := decide (32 ≤ c) && decide (c ≤ 126)
/-- A text. -/
def textB (xs : List Int) : Bool := decide (xs.length ≤ 20) && xs.all chrB
theorem textB_long (xs : List Int) (h : 20 < xs.length) : textB xs = false := by simp [textB]; omega
theorem textB_all (xs : List Int) (h2 : xs.length ≤ 20) : textB xs = xs.all chrB := by simp [textB, h2]

set_option maxHeartbeats 800000 in
theorem impl_textOk_any (a : Option Addr) (c1 : Nat) (xs : List Int) (w : World) (ha : Seg w a xs) (hl : xs.length ≤ maxLen) :
    Calls Tryz.prog 82 #[.slice a xs.length c1] w fun e w' => e = .returned (.bool (textB xs)) ∧ w = w' := by
  unfold maxLen at hl
  by_cases h2 : 20 < xs.length
  · have HO : Hid (textB xs = false) := textB_long xs h2
    have h2' : (20 : Int) < (xs.length : Int) := by omega
    go_enter Tryz.func82, Tryz.ntmps82
    go_wp2
    go_ret
    exact ⟨ret_bool HO.out.symm, rfl⟩
  have HO : Hid (textB xs = xs.all chrB) := textB_all xs (by omega)
  have hb := getD_byt ha.1
  generalize hn : xs.length = n at *
  have Hn : Hid (xs.length = n) := hn
  have h2' : ¬ (20 : Int) < (n : Int) := by omega
  clear hn
  go_enter Tryz.func82, Tryz.ntmps82
  go_wp2
  go_loopw [10] (fun i wr => ∃ k : Nat, k ≤ n ∧ i = .int .i64 k ∧ fstAll chrB xs k ∧ wr = w) (fun i _ => n - (intOf i).toNat)
  case atStart => exact ⟨0, Nat.zero_le _, rfl, fstAll_zero _ _, rfl⟩
  case round =>
    obtain ⟨k, hk, rfl, hall, rfl⟩ := hrel
    by_cases hlt : k < n
    · obtain ⟨b1, o1, rfl, hc1⟩ := ha.at (k := k) (by have := Hn.out; omega)
      have hbk := hb k
      have HS : Hid (chrB (xs.getD k 0) = true → fstAll chrB xs (k + 1)) := fun h => fstAll_succ hall h
      have HN : Hid (chrB (xs.getD k 0) = false → xs.all chrB = false) := fun h => not_all_of (by have := Hn.out; omega) h
      generalize xs.getD k 0 = c at hc1 hbk HS HN
      have hlt' : (k : Int) < (n : Int) := by omega
      obtain ⟨hb1, hb2⟩ := hbk
      by_cases hc : c < 32
      · have HF : Hid (xs.all chrB = false) := HN.out (by simp [chrB]; omega)
        go_wp2
        go_ret
        exact ⟨ret_bool (by rw [HO.out, HF.out]), rfl⟩
      · by_cases hd : 126 < c
        · have HF : Hid (xs.all chrB = false) := HN.out (by simp [chrB]; omega)
          go_wp2
          go_ret
          exact ⟨ret_bool (by rw [HO.out, HF.out]), rfl⟩
        · have HF : Hid (fstAll chrB xs (k + 1)) := HS.out (by simp [chrB]; omega)
          go_wp2
          go_roundw
          case rel => exact ⟨k + 1, by omega, by go_num, HF.out, by first | rfl | trivial⟩
          case measure => simp [intOf]; omega
    · have HF : Hid (xs.all chrB = true) := all_of_fstAll (by rw [Hn.out]; have e : k = n := by omega
                                                              rw [← e]; exact hall)
      have hlt' : ¬ (k : Int) < (n : Int) := by omega
      go_wp2
      go_ret
      exact ⟨ret_bool (by rw [HO.out, HF.out]), rfl⟩

set_option maxHeartbeats 800000 in
theorem spec_l2text_any (a : Option Addr) (c1 : Nat) (xs : List Int) (w : World) (ha : Seg w a xs) (hl : xs.length ≤ maxLen) :
    Calls Tryz.prog 70 #[.slice a xs.length c1] w fun e w' => e = .returned (.bool (textB xs)) ∧ w = w' := by
  unfold maxLen at hl
  by_cases h2 : 20 < xs.length
  · have HO : Hid (textB xs = false) := textB_long xs h2
    have h2' : (20 : Int) < (xs.length : Int) := by omega
    go_enter Tryz.func70, Tryz.ntmps70
    go_wp2
    go_ret
    exact ⟨ret_bool HO.out.symm, rfl⟩
  have HO : Hid (textB xs = xs.all chrB) := textB_all xs (by omega)
  have hb := getD_byt ha.1
  generalize hn : xs.length = n at *
  have Hn : Hid (xs.length = n) := hn
  have h2' : ¬ (20 : Int) < (n : Int) := by omega
  clear hn
  go_enter Tryz.func70, Tryz.ntmps70
  go_wp2
  go_loopw [3] (fun i wr => ∃ k : Nat, k ≤ n ∧ i = .int .i64 k ∧ fstAll chrB xs k ∧ wr = w) (fun i _ => n - (intOf i).toNat)
  case atStart => exact ⟨0, Nat.zero_le _, rfl, fstAll_zero _ _, rfl⟩
  case round =>
    obtain ⟨k, hk, rfl, hall, rfl⟩ := hrel
    by_cases hlt : k < n
    · obtain ⟨b1, o1, rfl, hc1⟩ := ha.at (k := k) (by have := Hn.out; omega)
      have hbk := hb k
      have HS : Hid (chrB (xs.getD k 0) = true → fstAll chrB xs (k + 1)) := fun h => fstAll_succ hall h
      have HN : Hid (chrB (xs.getD k 0) = false → xs.all chrB = false) := fun h => not_all_of (by have := Hn.out; omega) h
      generalize xs.getD k 0 = c at hc1 hbk HS HN
      have hlt' : (k : Int) < (n : Int) := by omega
      obtain ⟨hb1, hb2⟩ := hbk
      by_cases hc : c < 32
      · have HF : Hid (xs.all chrB = false) := HN.out (by simp [chrB]; omega)
        go_wp2
        go_ret
        exact ⟨ret_bool (by rw [HO.out, HF.out]), rfl⟩
      · by_cases hd : 126 < c
        · have HF : Hid (xs.all chrB = false) := HN.out (by simp [chrB]; omega)
          go_wp2
          go_ret
          exact ⟨ret_bool (by rw [HO.out, HF.out]), rfl⟩
        · have HF : Hid (fstAll chrB xs (k + 1)) := HS.out (by simp [chrB]; omega)
          go_wp2
          go_roundw
          case rel => exact ⟨k + 1, by omega, by go_num, HF.out, by first | rfl | trivial⟩
          case measure => simp [intOf]; omega
    · have HF : Hid (xs.all chrB = true) := all_of_fstAll (by rw [Hn.out]; have e : k = n := by omega
                                                              rw [← e]; exact hall)
      have hlt' : ¬ (k : Int) < (n : Int) := by omega
      go_wp2
      go_ret
      exact ⟨ret_bool (by rw [HO.out, HF.out]), rfl⟩

/-- The name at place i is one, and behind the one ahead of it. -/
def stepB (ks : List (List Int)) (i : Nat) : Bool := nameB (ks.getD i []) && (i == 0 || ltS (ks.getD (i - 1) []) (ks.getD i []))
/-- Names that ascend. -/
def ascB (ks : List (List Int)) : Bool := (List.range ks.length).all (stepB ks)
theorem ascB_yes {ks : List (List Int)} (h : ∀ i, i < ks.length → stepB ks i = true) : ascB ks = true := by
  rw [ascB, List.all_eq_true]
  intro i hi
  exact h i (List.mem_range.1 hi)
theorem ascB_no {ks : List (List Int)} {i : Nat} (hi : i < ks.length) (h : stepB ks i = false) : ascB ks = false := by
  rw [ascB, List.all_eq_false]
  exact ⟨i, List.mem_range.2 hi, by simp [h]⟩
theorem ascB_at {ks : List (List Int)} (h : ascB ks = true) {i : Nat} (hi : i < ks.length) : stepB ks i = true := by
  rw [ascB, List.all_eq_true] at h
  exact h i (List.mem_range.2 hi)

theorem KSeg.at {R : Nat → Prop} {w : World} {a : Option Addr} {n cap : Nat} {ks : List (List Int)} (h : KSeg R w (.slice a n cap) ks) {k : Nat} (hk : k < ks.length) :
    ∃ b off, a = some ⟨b, off, none⟩ ∧ ∀ i, i < ks.length → ∃ a2 c2, w.cell? ⟨b, off + i, none⟩ = some (.slice a2 (ks.getD i []).length c2) ∧ Seg w a2 (ks.getD i []) ∧ (ks.getD i []).length ≤ maxLen := by
  obtain ⟨a', cap', h1, h2, h3, h4, h5⟩ := h
  simp only [Value.slice.injEq] at h1
  obtain ⟨rfl, _, _⟩ := h1
  rcases h5 with h0 | ⟨b, off, rfl, _, hc⟩
  · subst h0; simp at hk
  · refine ⟨b, off, rfl, fun i hi => ?_⟩
    obtain ⟨u, hu, a2, c2, rfl, s2, l2, m2, _⟩ := hc i hi
    exact ⟨a2, c2, hu, s2, by omega⟩

set_option maxHeartbeats 1600000 in
theorem ascendingNames_any (R : Nat → Prop) (x : Value) (ks : List (List Int)) (w : World) (hx : KSeg R w x ks) :
    Calls Tryz.prog 108 #[x] w fun e w' => e = .returned (.bool (ascB ks)) ∧ w = w' := by
  have HX : Hid (KSeg R w x ks) := hx
  obtain ⟨a, cap, rfl, hlc, hcm, ka, hc⟩ := hx
  unfold maxLen at hcm
  clear hc
  have HY : Hid ((∀ i, i < ks.length → stepB ks i = true) → ascB ks = true) := ascB_yes
  have HNo : Hid (∀ i, i < ks.length → stepB ks i = false → ascB ks = false) := fun i hi h => ascB_no hi h
  go_enter Tryz.func108, Tryz.ntmps108
  go_wp2
  go_loopw [7] (fun i wr => ∃ k : Nat, k ≤ ks.length ∧ i = .int .i64 k ∧ (∀ j, j < k → stepB ks j = true) ∧ wr = w) (fun i _ => ks.length - (intOf i).toNat)
  case atStart => exact ⟨0, Nat.zero_le _, rfl, fun j h => by omega, rfl⟩
  case round =>
    obtain ⟨k, hk, rfl, hall, rfl⟩ := hrel
    by_cases hlt : k < ks.length
    · obtain ⟨b, off, rfl, hat⟩ := HX.out.at hlt
      have hlt' : (k : Int) < (ks.length : Int) := by omega
      obtain ⟨a2, c2, hu, s2, m2⟩ := hat k hlt
      by_cases hn : nameB (ks.getD k []) = true
      · cases k with
        | zero =>
          have HS : Hid (stepB ks 0 = true) := by simp [Hid, stepB]; simpa using hn
          have HN := hide' (impl_NameOk_any a2 c2 (ks.getD 0 []) wr s2 m2)
          rw [hn] at HN
          generalize (ks.getD 0 []) = ys at *
          simp only [Nat.add_zero] at hu
          clear hat
          go_wp2_with fail
          refine HN.out.mono ?_
          rintro e w1 ⟨rfl, e1⟩
          obtain rfl := e1
          go_wp2
          go_roundw
          case rel => exact ⟨1, by omega, by go_num, fun j hj => by obtain rfl : j = 0 := by omega
                                                                    exact HS.out, by first | rfl | trivial⟩
          case measure => simp [intOf]; omega
        | succ j =>
          obtain ⟨a3, c3, hu3, s3, m3⟩ := hat j (by omega)
          have hst : stepB ks (j + 1) = ltS (ks.getD j []) (ks.getD (j + 1) []) := by simp only [stepB, hn]; simp
          have HN := hide' (impl_NameOk_any a2 c2 (ks.getD (j + 1) []) wr s2 m2)
          rw [hn] at HN
          have HC := hide' (bytes_Compare_any a3 a2 c3 c2 (ks.getD j []) (ks.getD (j + 1) []) wr s3 s2)
          have hlc : ltS (ks.getD j []) (ks.getD (j + 1) []) = decide (Lib.compareBytes (u8s (ks.getD j [])) (u8s (ks.getD (j + 1) [])) < 0) := less_cmp _ _
          rw [hlc] at hst
          have hcr := cmp_range (u8s (ks.getD j [])) (u8s (ks.getD (j + 1) []))
          have HS := hide' hst
          generalize Lib.compareBytes (u8s (ks.getD j [])) (u8s (ks.getD (j + 1) [])) = q at *
          generalize (ks.getD (j + 1) []) = ys at *
          generalize (ks.getD j []) = zs at *
          clear hat hst hlc hn s2 s3
          go_wp2_with fail
          refine HN.out.mono ?_
          rintro e w1 ⟨rfl, e1⟩
          obtain rfl := e1
          go_wp2_with fail
          refine HC.out.mono ?_
          rintro e w1 ⟨rfl, e1⟩
          obtain rfl := e1
          by_cases hq : 0 ≤ q
          · have HF : Hid (ascB ks = false) := HNo.out (j + 1) (by omega) (by rw [HS.out]; simpa using hq)
            go_wp2
            go_ret
            exact ⟨ret_bool HF.out.symm, rfl⟩
          · have HF : Hid (stepB ks (j + 1) = true) := by show stepB ks (j + 1) = true; rw [HS.out]; simpa using hq
            go_wp2
            go_roundw
            case rel => exact ⟨j + 2, by omega, by go_num, fun i hi => by
                                by_cases e : i = j + 1
                                · rw [e]; exact HF.out
                                · exact hall i (by omega), by first | rfl | trivial⟩
            case measure => simp [intOf]; omega
      · have hn' : nameB (ks.getD k []) = false := by simpa using hn
        have HF : Hid (ascB ks = false) := HNo.out k hlt (by unfold stepB; rw [hn']; rfl)
        have HN := hide' (impl_NameOk_any a2 c2 (ks.getD k []) wr s2 m2)
        rw [hn'] at HN
        generalize (ks.getD k []) = ys at *
        clear hat hn hn'
        go_wp2_with fail
        refine HN.out.mono ?_
        rintro e w1 ⟨rfl, e1⟩
        obtain rfl := e1
        go_wp2
        go_ret
        exact ⟨ret_bool HF.out.symm, rfl⟩
    · have HF : Hid (ascB ks = true) := HY.out (fun i hi => hall i (by omega))
      have hlt' : ¬ (k : Int) < (ks.length : Int) := by omega
      go_wp2
      go_ret
      exact ⟨ret_bool HF.out.symm, rfl⟩
end Go.Proofs.YtdhlmcgbgdljmaaGreatDoor
/-
  markValue of the laws over a value of the call's own; heldValueS and heldValue find the running numbers there.
-/
namespace Go.Proofs.YtdhlmcgbgdljmaaGreatDoor
open Go.RowKit
set_option linter.unusedVariables false
set_option linter.unusedSimpArgs false

set_option maxHeartbeats 3200000 in
theorem markValue_any (d : Nat) (c0 c1 c2 c3 c4 : Value) (v : Vl (d + 1)) (B : List Nat) (m : Nat) (w : World) (h : VOwn w (d + 1) (c0, c1, c2, c3, c4) v B) (hs : szV (d + 1) v ≤ 1048576) (hm : m + cV d v ≤ 1125899906842624) :
    Calls Tryz.prog 26 #[.agg #[c0, c1, c2, c3, c4], .int .i64 m] w fun e w' => e = .returned (.int .i64 ((m + cV d v : Nat) : Int)) ∧ VOwn w' (d + 1) (c0, c1, c2, c3, c4) (mkV d v m) B ∧ Turned B w w' := by
  obtain ⟨vk, vn, vS, vK, vL⟩ := v
  obtain ⟨e0, e1, Bs, Bk, Bl, ht, hkk, hll, hB, hnd0⟩ := (VOwn_succ _ _ _ _ _).1 h
  simp only at e0 e1 ht hkk hll
  subst hB
  have hz' : szV (d + 1) (vk, vn, vS, vK, vL) = vS.length + szK vK + szL d vL := rfl
  have hc' : cV d (vk, vn, vS, vK, vL) = vS.length + (vK.map List.length).sum + (vL.map (cE d)).sum := rfl
  have hkz : szK vK = vK.length + (vK.map List.length).sum := rfl
  have hlt : ∀ b ∈ Bs ++ (Bk ++ Bl), b < w.heap.size := VOwn.lt (d + 1) h
  have hnd : (w.heap.size :: (Bs ++ (Bk ++ Bl))).Nodup := by
    rw [List.nodup_cons]
    exact ⟨fun hm => by have := hlt _ hm; omega, hnd0⟩
  have hal : Below w.heap.size w (w.alloc (.cells #[c0, c1, c2, c3, c4] 35)) := (Below.refl _ _).alloc (Nat.le_refl _) _
  have hst : MkSt (w.alloc (.cells #[c0, c1, c2, c3, c4] 35)) w.heap.size #[c0, c1, c2, c3, c4] d c2 c3 c4 vS vK vL Bs Bk Bl (w.alloc (.cells #[c0, c1, c2, c3, c4] 35)) :=
    ⟨ht.agree fun b hb => hal.block b (ht.lt b hb), hkk.agree fun b hb => hal.block b (hkk.lt b hb), LOwn.agree hll fun b hb => hal.block b (hll.lt b hb), (MapKept.heap_alloc w _).1, Turned.refl _ _⟩
  obtain ⟨sa, sc, rfl, _⟩ := ht.1.shape
  have hkf : ∃ ka kc, c3 = .slice ka vK.length kc := by
    rcases hkk with ⟨e, e', _⟩ | ⟨_, _, _, _, e, _⟩
    · exact ⟨none, 0, by rw [e, e']; rfl⟩
    · exact ⟨_, _, e⟩
  obtain ⟨ka, kc, rfl⟩ := hkf
  have hlf : ∃ la lc, c4 = .slice la vL.length lc := by
    rcases hll with ⟨e, e', _⟩ | ⟨_, _, _, _, e, _⟩
    · exact ⟨none, 0, by rw [e, e']; rfl⟩
    · exact ⟨_, _, e⟩
  obtain ⟨la, lc, rfl⟩ := hlf
  have HM1 : Hid (Calls Tryz.prog 11 #[.slice sa vS.length sc, .int .i64 m] (w.alloc (.cells #[c0, c1, .slice sa vS.length sc, .slice ka vK.length kc, .slice la vL.length lc] 35)) fun e w' => e = .returned (.int .i64 ((m : Int) + vS.length)) ∧ w'.cell? ⟨w.heap.size, 3, none⟩ = some (.slice ka vK.length kc) ∧ Hid (MkSt (w.alloc (.cells #[c0, c1, .slice sa vS.length sc, .slice ka vK.length kc, .slice la vL.length lc] 35)) w.heap.size #[c0, c1, .slice sa vS.length sc, .slice ka vK.length kc, .slice la vL.length lc] d (.slice sa vS.length sc) (.slice ka vK.length kc) (.slice la vL.length lc) (marks m vS.length) vK vL Bs Bk Bl w')) := by
    refine (markByteS_F sa sc vS m _ hst.1.1 (by omega) (by omega)).mono ?_
    rintro e w' ⟨rfl, hb, hg⟩
    have h' := hst.text hnd (hst.1.marked hb) (hst.1.turned hg)
    exact ⟨ret_i64 (by push_cast; rfl), by rw [cell_of_row w' _ _ _ _ (0, 0) h'.2.2.2.1]; rfl, h'⟩
  have HM2 : Hid (∀ w1, Hid (MkSt (w.alloc (.cells #[c0, c1, .slice sa vS.length sc, .slice ka vK.length kc, .slice la vL.length lc] 35)) w.heap.size #[c0, c1, .slice sa vS.length sc, .slice ka vK.length kc, .slice la vL.length lc] d (.slice sa vS.length sc) (.slice ka vK.length kc) (.slice la vL.length lc) (marks m vS.length) vK vL Bs Bk Bl w1) → Calls Tryz.prog 55 #[.slice ka vK.length kc, .int .i64 ((m : Int) + vS.length)] w1 fun e w' => e = .returned (.int .i64 ((m : Int) + vS.length + ((vK.map List.length).sum : Nat))) ∧ w'.cell? ⟨w.heap.size, 4, none⟩ = some (.slice la vL.length lc) ∧ Hid (MkSt (w.alloc (.cells #[c0, c1, .slice sa vS.length sc, .slice ka vK.length kc, .slice la vL.length lc] 35)) w.heap.size #[c0, c1, .slice sa vS.length sc, .slice ka vK.length kc, .slice la vL.length lc] d (.slice sa vS.length sc) (.slice ka vK.length kc) (.slice la vL.length lc) (marks m vS.length) (mkKs vK (m + vS.length)) vL Bs Bk Bl w')) := by
    intro w1 h1
    refine arg_eq (x := ((m + vS.length : Nat) : Int)) (by push_cast; rfl) ((markByteSS_any _ vK Bk (m + vS.length) w1 h1.out.2.1 (by omega) (by omega)).mono ?_)
    rintro e w' ⟨rfl, hb, hg⟩
    have h' := h1.out.keys hnd hb hg
    exact ⟨ret_i64 (by push_cast; rfl), by rw [cell_of_row w' _ _ _ _ (0, 0) h'.2.2.2.1]; rfl, h'⟩
  have HM3 : Hid (∀ w1, Hid (MkSt (w.alloc (.cells #[c0, c1, .slice sa vS.length sc, .slice ka vK.length kc, .slice la vL.length lc] 35)) w.heap.size #[c0, c1, .slice sa vS.length sc, .slice ka vK.length kc, .slice la vL.length lc] d (.slice sa vS.length sc) (.slice ka vK.length kc) (.slice la vL.length lc) (marks m vS.length) (mkKs vK (m + vS.length)) vL Bs Bk Bl w1) → Calls Tryz.prog 56 #[.slice la vL.length lc, .int .i64 ((m : Int) + vS.length + ((vK.map List.length).sum : Nat))] w1 fun e w' => e = .returned (.int .i64 ((m : Int) + vS.length + ((vK.map List.length).sum : Nat) + ((vL.map (cE d)).sum : Nat))) ∧ Hid (VOwn w' (d + 1) (c0, c1, .slice sa vS.length sc, .slice ka vK.length kc, .slice la vL.length lc) (mkV d (vk, vn, vS, vK, vL) m) (Bs ++ (Bk ++ Bl))) ∧ Hid (Turned (Bs ++ (Bk ++ Bl)) w w')) := by
    intro w1 h1
    refine arg_eq (x := ((m + vS.length + (vK.map List.length).sum : Nat) : Int)) (by push_cast; rfl) ((markValueS_any d _ vL Bl (m + vS.length + (vK.map List.length).sum) w1 h1.out.2.2.1 (by omega) (by omega)).mono ?_)
    rintro e w' ⟨rfl, hb, hg⟩
    obtain ⟨g1, g2, g3, g4, g5⟩ := h1.out.list hnd hb hg
    refine ⟨ret_i64 (by push_cast; rfl), ?_, ?_⟩
    · exact (VOwn_succ _ _ _ _ _).2 ⟨e0, e1, Bs, Bk, Bl, g1, g2, g3, rfl, hnd0⟩
    · refine ⟨g5.os.trans hal.os, g5.tape.trans hal.tape, g5.output.trans hal.output, Nat.le_trans hal.size g5.size, fun b hb hn => ?_⟩
      refine (g5.block b (Nat.lt_of_lt_of_le hb hal.size) fun hm => ?_).trans (hal.block b hb)
      rcases List.mem_cons.1 hm with rfl | hm
      · omega
      · exact hn hm
  have HO : Hid (m + cV d (vk, vn, vS, vK, vL) = m + vS.length + (vK.map List.length).sum + (vL.map (cE d)).sum) := by show m + cV d (vk, vn, vS, vK, vL) = _; omega
  generalize cV d (vk, vn, vS, vK, vL) = tot at *
  clear hst ht hkk hll h hnd hnd0 hal hlt hz' hc' hkz hs e0 e1
  generalize (vK.map List.length).sum = nK at *
  generalize (vL.map (cE d)).sum = nL at *
  generalize vS.length = nS at *
  generalize vK.length = kK at *
  generalize vL.length = kL at *
  have hbig : m + nS + nK + nL ≤ 1125899906842624 := by have := HO.out; omega
  go_enter Tryz.func26, Tryz.ntmps26
  go_wp2_with fail
  refine HM1.out.mono ?_
  rintro e w1 ⟨rfl, z3, hS1⟩
  have HM2' := hide' (HM2.out w1 hS1)
  clear HM1 HM2
  go_wp2_with fail
  refine HM2'.out.mono ?_
  rintro e w2 ⟨rfl, z4, hS2⟩
  have HM3' := hide' (HM3.out w2 hS2)
  clear z3 hS1 HM2' HM3
  go_wp2_with fail
  refine HM3'.out.mono ?_
  rintro e w3 ⟨rfl, hK', hT'⟩
  clear z4 hS2 HM3'
  go_wp2
  go_ret
  exact ⟨ret_i64 (by rw [HO.out]; push_cast; rfl), hK'.out, hT'.out⟩
end Go.Proofs.YtdhlmcgbgdljmaaGreatDoor
/-
  What is owned, behind later calls; how many marks a value takes.
-/
namespace Go.Proofs.YtdhlmcgbgdljmaaGreatDoor
open Go.RowKit
set_option linter.unusedVariables false
set_option linter.unusedSimpArgs false

theorem KOwn.on {w w' : World} {v : Value} {ks : List (List Int)} {B : List Nat} (h : KOwn w v ks B) (hb : Below w.heap.size w w') : KOwn w' v ks B := h.agree fun b hb' => hb.block b (h.lt b hb')
theorem VOwn.on {w w' : World} {d : Nat} {c : Value × Value × Value × Value × Value} {v : Vl d} {B : List Nat} (h : VOwn w d c v B) (hb : Below w.heap.size w w') : VOwn w' d c v B := VOwn.agree d h fun b hb' => hb.block b (VOwn.lt d h b hb')
theorem KOwn.far {w w' : World} {v : Value} {ks : List (List Int)} {B B' : List Nat} (h : KOwn w v ks B) (hT : Turned B' w w') (hd : ∀ b ∈ B, b ∉ B') : KOwn w' v ks B := h.agree fun b hb' => hT.block b (h.lt b hb') (hd b hb')
theorem KOwn.read {w : World} {v : Value} {ks : List (List Int)} {B : List Nat} (h : KOwn w v ks B) : KSeg (fun b => b < w.heap.size) w v ks := h.seg.mono fun b hb => h.lt b hb

theorem sum_cE {d : Nat} (h : ∀ v : Vl d, cE d v ≤ 2 + 2 * szV d v) : ∀ l : List (Vl d), (l.map (cE d)).sum ≤ 2 * l.length + 2 * (l.map (szV d)).sum
  | [] => by simp
  | x :: r => by
    have h1 := h x
    have h2 := sum_cE h r
    simp only [List.map_cons, List.sum_cons, List.length_cons]
    omega

theorem cE_sz : ∀ (d : Nat) (v : Vl d), cE d v ≤ 2 + 2 * szV d v
  | 0, _ => by simp [cE]
  | d + 1, (vk, vn, vs, vK, vL) => by
    have h2 := sum_cE (cE_sz d) vL
    have h3 : szV (d + 1) (vk, vn, vs, vK, vL) = szT vs + szK vK + (vL.length + (vL.map (szV d)).sum) := rfl
    have h4 : cE (d + 1) (vk, vn, vs, vK, vL) = 2 + (vs.length + ((vK.map List.length).sum + (vL.map (cE d)).sum)) := rfl
    have h5 : szK vK = vK.length + (vK.map List.length).sum := rfl
    have h6 : vs.length ≤ szT vs := by unfold szT; omega
    omega

theorem cV_le (d : Nat) (v : Vl (d + 1)) : cV d v ≤ 2 * szV (d + 1) v := by
  obtain ⟨vk, vn, vs, vK, vL⟩ := v
  have h2 := sum_cE (cE_sz d) vL
  have h3 : szV (d + 1) (vk, vn, vs, vK, vL) = szT vs + szK vK + (vL.length + (vL.map (szV d)).sum) := rfl
  have h4 : cV d (vk, vn, vs, vK, vL) = vs.length + (vK.map List.length).sum + (vL.map (cE d)).sum := rfl
  have h5 : szK vK = vK.length + (vK.map List.length).sum := rfl
  have h6 : vs.length ≤ szT vs := by unfold szT; omega
  omega

theorem VOwn.far {w w' : World} {d : Nat} {c : Value × Value × Value × Value × Value} {v : Vl d} {B B' : List Nat} (h : VOwn w d c v B) (hT : Turned B' w w') (hd : ∀ b ∈ B, b ∉ B') : VOwn w' d c v B := VOwn.agree d h fun b hb' => hT.block b (VOwn.lt d h b hb') (hd b hb')
theorem VOwn.read {w : World} {d : Nat} {c : Value × Value × Value × Value × Value} {v : Vl d} {B : List Nat} (h : VOwn w d c v B) : VSeg (fun b => b < w.heap.size) w d c v := h.below (Below.refl _ _)
theorem row_on {w w' : World} {b : Nat} {o : Obj} (h : w.heap[b]? = some o) (hb : Below w.heap.size w w') : w'.heap[b]? = some o := (hb.block b (Array.getElem?_eq_some_iff.1 h).1).trans h
theorem row_far {w w' : World} {b : Nat} {o : Obj} {B : List Nat} (h : w.heap[b]? = some o) (hT : Turned B w w') (hn : b ∉ B) : w'.heap[b]? = some o := (hT.block b (Array.getElem?_eq_some_iff.1 h).1 hn).trans h
theorem row_mark {w w' : World} {b : Nat} {o : Obj} {r : Option Nat} (h : w.heap[b]? = some o) (hg : w.grownBy w' r) (hn : some b ≠ r) : w'.heap[b]? = some o := (hg.block b (Array.getElem?_eq_some_iff.1 h).1 hn).trans h
theorem VOwn.mark {w w' : World} {d : Nat} {c : Value × Value × Value × Value × Value} {v : Vl d} {B : List Nat} {r : Option Nat} (h : VOwn w d c v B) (hg : w.grownBy w' r) (hn : ∀ b ∈ B, some b ≠ r) : VOwn w' d c v B := VOwn.agree d h fun b hb => hg.block b (VOwn.lt d h b hb) (hn b hb)

/-- What a call that hands out a value and a word leaves: a value of the call's own, and the word. -/
def Ans (D : Nat) (a : Vl (D + 1)) (bb : Bool) (w : World) (e : Ending) (w' : World) : Prop := ∃ u0 u1 u2 u3 u4, e = .returned (.tuple #[.agg #[u0, u1, u2, u3, u4], .bool bb]) ∧ ∃ B, VOwn w' (D + 1) (u0, u1, u2, u3, u4) a B ∧ (∀ b ∈ B, w.heap.size ≤ b ∧ b < w'.heap.size) ∧ Below w.heap.size w w'

/-- The value that holds nothing. -/
def vNil (d : Nat) : Vl (d + 1) := ((0 : Int), (0 : Int), ([] : List Int), ([] : List (List Int)), ([] : List (Vl d)))

theorem sz_vNil (d : Nat) : szV (d + 1) (vNil d) = 0 := rfl

theorem tOwn_nil (w : World) : TOwn w (.slice none 0 0) [] [] := ⟨⟨by simp, rfl, .inl ⟨rfl, rfl⟩⟩, .inl ⟨rfl, rfl⟩⟩

theorem own_vNil (d : Nat) (w : World) : VOwn w (d + 1) (.int .i64 0, .int .i64 0, .slice none 0 0, .slice none 0 0, .slice none 0 0) (vNil d) [] :=
  (VOwn_succ _ _ _ _ _).2 ⟨rfl, rfl, [], [], [], tOwn_nil w, .inl ⟨rfl, rfl, rfl⟩, .inl ⟨rfl, rfl, rfl⟩, rfl, by simp⟩
end Go.Proofs.YtdhlmcgbgdljmaaGreatDoor
/-
  markChange: all that a change of the call's own holds is marked, and nothing else is turned.
-/
namespace Go.Proofs.YtdhlmcgbgdljmaaGreatDoor
open Go.RowKit
set_option linter.unusedVariables false
set_option linter.unusedSimpArgs false

theorem own_atC {w wx : World} {o : Obj} {C D : List Nat} (hT : Turned C (w.alloc o) wx) (hl : ∀ b ∈ D, b < w.heap.size) (hd : ∀ b ∈ D, b ∉ C) : Agree (fun b => b ∈ D) w wx := fun b hb => by
  have h1 := hl b hb
  exact (hT.block b (by simp; omega) (hd b hb)).trans (Below.heap_alloc w o b h1)
set_option maxHeartbeats 2000000 in
set_option maxRecDepth 100000 in
theorem markChange_any (d : Nat) (cs : List Value) (x : Chg (d + 1)) (B : List Nat) (w : World) (h : COwn w (d + 1) cs x B) (hz : CSz (d + 1) x) :
    Calls Tryz.prog 10 #[.agg cs.toArray, .int .i64 1] w fun e w' => (∃ n : Nat, e = .returned (.int .i64 (n : Int)) ∧ n ≤ 1125899906842624) ∧ Turned B w w' := by
  have hlt := h.lt
  obtain ⟨c0, c2, c3, c4, c5, c6, c8, c9, c10, c11, c12, B1, B2, B3, rfl, h1, h2, h3, rfl, s1, s2, d1, d2, d3, s12⟩ := h
  obtain ⟨pth, had, old, has, new⟩ := x
  obtain ⟨z0, z1, z2⟩ := hz
  simp only at h1 h2 h3 z0 z1 z2 ⊢
  have hcv := cV_le d old
  have hcu := cV_le d new
  have hcp := cStp_le pth
  obtain ⟨m1, hm1⟩ : ∃ m : Nat, m = 1 + (pth.map cStp).sum := ⟨_, rfl⟩
  obtain ⟨m2, hm2⟩ : ∃ m : Nat, m = m1 + cV d old := ⟨_, rfl⟩
  obtain ⟨m3, hm3⟩ : ∃ m : Nat, m = m2 + cV d new := ⟨_, rfl⟩
  have l1 : ∀ b ∈ B1, b < w.heap.size := fun b hb => hlt b (by simp [hb])
  have l2 : ∀ b ∈ B2, b < w.heap.size := fun b hb => hlt b (by simp [hb])
  have l3 : ∀ b ∈ B3, b < w.heap.size := fun b hb => hlt b (by simp [hb])
  have H1 : Hid (∀ o : Obj, Calls Tryz.prog 25 #[c0, .int .i64 1] (w.alloc o) fun e w' => e = .returned (.int .i64 (m1 : Int)) ∧ Turned B1 (w.alloc o) w') := fun o => by
    refine (markStepS_any c0 pth B1 1 (w.alloc o) (h1.agree fun b hb => Below.heap_alloc w o b (l1 b hb)) z0 (by omega)).mono ?_
    rintro e w' ⟨rfl, _, hg⟩
    exact ⟨by rw [hm1], hg⟩
  have H2 : Hid (∀ (o : Obj) wx, Turned B1 (w.alloc o) wx → Calls Tryz.prog 26 #[.agg #[c2, c3, c4, c5, c6], .int .i64 (m1 : Int)] wx fun e w' => e = .returned (.int .i64 (m2 : Int)) ∧ Turned (B1 ++ B2) (w.alloc o) w') := fun o wx hT => by
    have h2' : VOwn wx (d + 1) (c2, c3, c4, c5, c6) old B2 := VOwn.agree (d + 1) h2 (own_atC hT l2 fun b hb hb' => by have e1 := d2 b hb; have e2 := d1 b hb'; omega)
    refine (markValue_any d c2 c3 c4 c5 c6 old B2 m1 wx h2' z1 (by omega)).mono ?_
    rintro e w' ⟨rfl, _, hg⟩
    exact ⟨by rw [hm2], (hT.mono fun b hb => by simp [hb]).trans (hg.mono fun b hb => by simp [hb])⟩
  have H3 : Hid (∀ (o : Obj) wx, Turned (B1 ++ B2) (w.alloc o) wx → Calls Tryz.prog 26 #[.agg #[c8, c9, c10, c11, c12], .int .i64 (m2 : Int)] wx fun e w' => e = .returned (.int .i64 (m3 : Int)) ∧ Turned (B1 ++ (B2 ++ B3)) (w.alloc o) w') := fun o wx hT => by
    have h3' : VOwn wx (d + 1) (c8, c9, c10, c11, c12) new B3 := VOwn.agree (d + 1) h3 (own_atC hT l3 fun b hb hb' => by
      have e1 := d3 b hb
      rcases List.mem_append.1 hb' with hb' | hb'
      · have e2 := d1 b hb'; omega
      · have e2 := d2 b hb'; omega)
    refine (markValue_any d c8 c9 c10 c11 c12 new B3 m2 wx h3' z2 (by omega)).mono ?_
    rintro e w' ⟨rfl, _, hg⟩
    exact ⟨by rw [hm3], (hT.mono fun b hb => by simp at hb ⊢; rcases hb with hb | hb <;> simp [hb]).trans (hg.mono fun b hb => by simp [hb])⟩
  have Hrow : Hid (∀ (o : Obj) wx C, Turned C (w.alloc o) wx → (∀ b ∈ C, b ∈ B1 ++ (B2 ++ B3)) → wx.heap[w.heap.size]? = some o) := fun o wx C hT hC => (hT.block w.heap.size (by simp) (fun hb => by have := hlt _ (hC _ hb); omega)).trans (MapKept.heap_alloc w o).1
  have HEnd : Hid (∀ (o : Obj) wx, Turned (B1 ++ (B2 ++ B3)) (w.alloc o) wx → Turned (B1 ++ (B2 ++ B3)) w wx) := fun o wx hT => (Turned.of_grown (World.grownBy_alloc w o none) (by simp)).trans hT
  have S1 : Hid (∀ b ∈ B1, b ∈ B1 ++ (B2 ++ B3)) := fun b hb => by simp [hb]
  have S2 : Hid (∀ b ∈ B1 ++ B2, b ∈ B1 ++ (B2 ++ B3)) := fun b hb => by simp at hb ⊢; rcases hb with hb | hb <;> simp [hb]
  obtain ⟨a1, p1, rfl⟩ := h1.seg.sl
  obtain ⟨bk, bn, a2, l2', p2, a3, l3', p3, a4, l4', p4, rfl, rfl, rfl, rfl, rfl⟩ := VOwn.form (d + 1) h2
  obtain ⟨ek, en, b2, k2', q2, b3, k3', q3, b4, k4', q4, rfl, rfl, rfl, rfl, rfl⟩ := VOwn.form (d + 1) h3
  have hb1 : m1 ≤ 1125899906842624 := by omega
  have hb2 : m2 ≤ 1125899906842624 := by omega
  have hb3 : m3 ≤ 1125899906842624 := by omega
  clear h1 h2 h3 hlt d1 d2 d3 s12 z0 z1 z2 hcv hcu hcp hm1 hm2 hm3 l1 l2 l3
  generalize pth.length = n1 at *
  generalize B1 ++ (B2 ++ B3) = B at *
  generalize B1 ++ B2 = B12 at *
  go_enter Tryz.func10, Tryz.ntmps10
  go_wp2_with fail
  refine (H1.out _).mono ?_
  rintro e w1 ⟨rfl, T1⟩
  have hrow := Hrow.out _ _ _ T1 S1.out
  have y2 := cell_of_row _ _ 2 _ _ _ hrow
  have y3 := cell_of_row _ _ 3 _ _ _ hrow
  have y4 := cell_of_row _ _ 4 _ _ _ hrow
  have y5 := cell_of_row _ _ 5 _ _ _ hrow
  have y6 := cell_of_row _ _ 6 _ _ _ hrow
  simp at y2 y3 y4 y5 y6
  have HC := hide' (H2.out _ _ T1)
  clear hrow T1 H1 H2
  go_wp2_with fail
  refine HC.out.mono ?_
  rintro e w2 ⟨rfl, T2⟩
  have hrow := Hrow.out _ _ _ T2 S2.out
  have y8 := cell_of_row _ _ 8 _ _ _ hrow
  have y9 := cell_of_row _ _ 9 _ _ _ hrow
  have y10 := cell_of_row _ _ 10 _ _ _ hrow
  have y11 := cell_of_row _ _ 11 _ _ _ hrow
  have y12 := cell_of_row _ _ 12 _ _ _ hrow
  simp at y8 y9 y10 y11 y12
  have HC2 := hide' (H3.out _ _ T2)
  clear hrow T2 H3 HC y2 y3 y4 y5 y6
  go_wp2_with fail
  refine HC2.out.mono ?_
  rintro e w3 ⟨rfl, T3⟩
  have HE := hide' (HEnd.out _ _ T3)
  clear T3 HC2 y8 y9 y10 y11 y12
  go_wp2
  go_ret
  exact ⟨⟨m3, rfl, hb3⟩, HE.out⟩
end Go.Proofs.YtdhlmcgbgdljmaaGreatDoor
/-
  eqStep, eqStepS of the laws: of two readings of the same path they answer true, and turn nothing old.
-/
namespace Go.Proofs.YtdhlmcgbgdljmaaGreatDoor
open Go.RowKit
set_option linter.unusedVariables false

set_option maxHeartbeats 1600000 in
theorem eqStep_same (N : Nat) (c0 c1 c2 e0 e1 e2 : Value) (s : Stp) (w : World) (h : StSeg (fun b => b < N) w (c0, c1, c2) s) (h' : StSeg (fun b => b < N) w (e0, e1, e2) s) (hN : N ≤ w.heap.size) (hz : s.2.1.length ≤ 1048576) :
    Calls Tryz.prog 52 #[.agg #[c0, c1, c2], .agg #[e0, e1, e2]] w fun e w' => e = .returned (.bool true) ∧ Below w.heap.size w w' := by
  obtain ⟨sk, ss, si⟩ := s
  obtain ⟨g0, ht, g2⟩ := h
  obtain ⟨f0, ht', f2⟩ := h'
  simp only at g0 ht g2 f0 ht' f2 hz
  subst g0
  subst g2
  subst f0
  subst f2
  have Ht : Hid (∀ wx, Below w.heap.size w wx → TSeg (fun b => b < N) wx c1 ss ∧ TSeg (fun b => b < N) wx e1 ss) := fun wx hb => ⟨ht.agree (agree_below (hb.mono hN)), ht'.agree (agree_below (hb.mono hN))⟩
  have Hb : Hid (∀ o o' : Obj, Below w.heap.size w ((w.alloc o).alloc o')) := fun o o' => ((Below.refl _ _).alloc (Nat.le_refl _) o).alloc (by simp) o'
  obtain ⟨a2, cp2, rfl, s2, hl2, hm2, _, _⟩ := ht
  obtain ⟨a2', cp2', rfl, s2', hl2', hm2', _, _⟩ := ht'
  have Hs : Hid (∀ wx, Below w.heap.size w wx → Seg wx a2 ss ∧ Seg wx a2' ss) := by
    intro wx hb
    obtain ⟨x1, x2⟩ := Ht.out wx hb
    obtain ⟨_, _, y1, y2, _⟩ := x1
    obtain ⟨_, _, z1, z2, _⟩ := x2
    simp at y1 z1
    exact ⟨y1.1 ▸ y2, z1.1 ▸ z2⟩
  clear Ht s2 s2'
  have R1 := hide' (two_boxes w (.cells #[.int .i64 sk, .slice a2 ss.length cp2, .int .i64 si] 70) (.cells #[.int .i64 sk, .slice a2' ss.length cp2', .int .i64 si] 70))
  go_enter Tryz.func52, Tryz.ntmps52
  go_wp2_with fail
  have q1 := Hb.out (.cells #[.int .i64 sk, .slice a2 ss.length cp2, .int .i64 si] 70) (.cells #[.int .i64 sk, .slice a2' ss.length cp2', .int .i64 si] 70)
  refine (eqByteS_same _ _ _ _ ss _ (Hs.out _ q1).1 (Hs.out _ q1).2 (by omega)).mono ?_
  rintro e w1 ⟨rfl, b1⟩
  have B1 := Below.on q1 b1
  obtain ⟨_, _, x2, _⟩ := row3 ((b1.block _ (by rw [size2]; omega)).trans R1.out.1)
  obtain ⟨_, _, y2, _⟩ := row3 ((b1.block _ (by rw [size2]; omega)).trans R1.out.2)
  clear q1 b1 Hs
  go_wp2
  go_ret
  exact ⟨rfl, B1⟩

set_option maxHeartbeats 1600000 in
theorem eqStepS_same (N : Nat) (x y : Value) (l : List Stp) (w : World) (hx : PthSeg (fun b => b < N) w x l) (hy : PthSeg (fun b => b < N) w y l) (hN : N ≤ w.heap.size) (hz : szP l ≤ 1048576) :
    Calls Tryz.prog 23 #[x, y] w fun e w' => e = .returned (.bool true) ∧ Below w.heap.size w w' := by
  have HC := hide' hx
  have HC' := hide' hy
  obtain ⟨a, cap, rfl, hlc, hcm, ka, hc⟩ := hx
  obtain ⟨a', cap', rfl, hlc', hcm', ka', hc'⟩ := hy
  have hn : l.length ≤ 1048576 := by unfold szP at hz; omega
  have HZ := hide' hz
  clear hc hc' hz
  unfold maxLen at hcm hcm'
  go_enter Tryz.func23, Tryz.ntmps23
  go_wp2
  go_loopw [5] (fun i wr => ∃ k : Nat, k ≤ l.length ∧ i = .int .i64 k ∧ Below w.heap.size w wr) (fun i _ => l.length - (intOf i).toNat)
  case atStart => exact ⟨0, Nat.zero_le _, rfl, Below.refl _ _⟩
  case round =>
    obtain ⟨k, hk, rfl, hbel⟩ := hrel
    have hsz2 := hbel.size
    by_cases hlt : k < l.length
    · obtain ⟨b, off, c0, c1, c2, rfl, _, h3, hv⟩ := (HC.out.agree (agree_below (hbel.mono hN))).at hlt
      obtain ⟨b', off', e0, e1, e2, rfl, _, h3', hv'⟩ := (HC'.out.agree (agree_below (hbel.mono hN))).at hlt
      obtain ⟨q0, q1, q2⟩ := h3
      obtain ⟨r0, r1, r2⟩ := h3'
      simp only at q0 q1 q2 r0 r1 r2
      have hlt' : (k : Int) < (l.length : Int) := by omega
      have hzk := Nat.le_trans (szP_elem hlt) HZ.out
      have hE := hide' (eqStep_same N c0 c1 c2 e0 e1 e2 l[k] wr.drew (hv.agree (w' := wr.drew) (fun b _ => rfl)) (hv'.agree (w' := wr.drew) (fun b _ => rfl)) (by show N ≤ wr.heap.size; omega) hzk)
      clear hv hv' hzk
      go_wp2_with fail
      go_region_with (go_at_call 52; refine hE.out.mono ?_; rintro e w1 ⟨rfl, b1⟩)
      all_goals
        have B1 : Below w.heap.size w w1 := Below.on hbel.drew b1
        clear q0 q1 q2 r0 r1 r2
        go_wp2
        go_roundw
        case rel => exact ⟨k + 1, by omega, by go_num, B1⟩
        case measure => simp [intOf]; omega
    · have hlt' : ¬ (k : Int) < (l.length : Int) := by omega
      go_wp2
      go_ret
      exact ⟨rfl, hbel⟩
end Go.Proofs.YtdhlmcgbgdljmaaGreatDoor
