/-
  Texts that a law leans on, one behind the other; no statement is proved here.
-/
import Derived.Test.YtfokidhamjphfaaDoorPk6
/-
  NameOk, of the program and of the specification: of a slice of bytes it tells whether it is a name, and turns nothing; the law FnExactNameOk.
-/
namespace Go.Proofs.YtfokidhamjphfaaDoor
open Go.RowKit
set_option linter.unusedVariables false

/-- A letter of a name. -/
def letB (c : Int) : Bool := decide (97 ≤ c) && decide (c ≤ 122)
/-- A name. -/
def nameB (xs : List Int) : Bool := decide (1 ≤ xs.length) && decide (xs.length ≤ 8) && xs.all letB

theorem nameB_short (xs : List Int) (h : xs.length < 1) : nameB xs = false := by simp [nameB]; omega
theorem nameB_long (xs : List Int) (h : 8 < xs.length) : nameB xs = false := by simp [nameB]; omega
theorem nameB_all (xs : List Int) (h1 : 1 ≤ xs.length) (h2 : xs.length ≤ 8) : nameB xs = xs.all letB := by simp [nameB, h1, h2]

/-- The first k all fulfil p. -/
def fstAll (p : Int → Bool) (xs : List Int) (k : Nat) : Prop := ∀ i, i < k → p (xs.getD i 0) = true
theorem fstAll_zero (p : Int → Bool) (xs : List Int) : fstAll p xs 0 := fun i h => by omega
theorem fstAll_succ {p : Int → Bool} {xs : List Int} {k : Nat} (h : fstAll p xs k) (hk : p (xs.getD k 0) = true) : fstAll p xs (k + 1) := by
  intro i hi
  by_cases e : i = k
  · rw [e]; exact hk
  · exact h i (by omega)
theorem all_of_fstAll {p : Int → Bool} {xs : List Int} (h : fstAll p xs xs.length) : xs.all p = true := by
  rw [List.all_eq_true]
  intro x hx
  obtain ⟨i, hi, rfl⟩ := List.getElem_of_mem hx
  have := h i hi
  simpa [List.getD_eq_getElem?_getD, hi] using this
theorem not_all_of {p : Int → Bool} {xs : List Int} {k : Nat} (hk : k < xs.length) (h : p (xs.getD k 0) = false) : xs.all p = false := by
  rw [List.all_eq_false]
  refine ⟨xs[k], List.getElem_mem hk, ?_⟩
  simpa [List.getD_eq_getElem?_getD, hk] using h

set_option maxHeartbeats 800000 in
theorem impl_NameOk_any (a : Option Addr) (c1 : Nat) (xs : List Int) (w : World) (ha : Seg w a xs) (hl : xs.length ≤ maxLen) :
    Calls Tryd.prog 8 #[.slice a xs.length c1] w fun e w' => e = .returned (.bool (nameB xs)) ∧ w = w' := by
  unfold maxLen at hl
  by_cases h1 : xs.length < 1
  · have HO : Hid (nameB xs = false) := nameB_short xs h1
    have h1' : (xs.length : Int) < 1 := by omega
    go_enter Tryd.func8, Tryd.ntmps8
    go_wp2
    go_ret
    exact ⟨ret_bool HO.out.symm, rfl⟩
  by_cases h2 : 8 < xs.length
  · have HO : Hid (nameB xs = false) := nameB_long xs h2
    have h1' : ¬ (xs.length : Int) < 1 := by omega
    have h2' : (8 : Int) < (xs.length : Int) := by omega
    go_enter Tryd.func8, Tryd.ntmps8
    go_wp2
    go_ret
    exact ⟨ret_bool HO.out.symm, rfl⟩
  have HO : Hid (nameB xs = xs.all letB) := nameB_all xs (by omega) (by omega)
  have hb := getD_byt ha.1
  generalize hn : xs.length = n at *
  have Hn : Hid (xs.length = n) := hn
  have h1' : ¬ (n : Int) < 1 := by omega
  have h2' : ¬ (8 : Int) < (n : Int) := by omega
  clear hn
  go_enter Tryd.func8, Tryd.ntmps8
  go_wp2
  go_loopw [15] (fun i wr => ∃ k : Nat, k ≤ n ∧ i = .int .i64 k ∧ fstAll letB xs k ∧ wr = w) (fun i _ => n - (intOf i).toNat)
  case atStart => exact ⟨0, Nat.zero_le _, rfl, fstAll_zero _ _, rfl⟩
  case round =>
    obtain ⟨k, hk, rfl, hall, rfl⟩ := hrel
    by_cases hlt : k < n
    · obtain ⟨b1, o1, rfl, hc1⟩ := ha.at (k := k) (by have := Hn.out; omega)
      have hbk := hb k
      have HS : Hid (letB (xs.getD k 0) = true → fstAll letB xs (k + 1)) := fun h => fstAll_succ hall h
      have HN : Hid (letB (xs.getD k 0) = false → xs.all letB = false) := fun h => not_all_of (by have := Hn.out; omega) h
      generalize xs.getD k 0 = c at hc1 hbk HS HN
      have hlt' : (k : Int) < (n : Int) := by omega
      obtain ⟨hb1, hb2⟩ := hbk
      by_cases hc : c < 97
      · have HF : Hid (xs.all letB = false) := HN.out (by simp [letB]; omega)
        go_wp2
        go_ret
        exact ⟨ret_bool (by rw [HO.out, HF.out]), rfl⟩
      · by_cases hd : 122 < c
        · have HF : Hid (xs.all letB = false) := HN.out (by simp [letB]; omega)
          go_wp2
          go_ret
          exact ⟨ret_bool (by rw [HO.out, HF.out]), rfl⟩
        · have HF : Hid (fstAll letB xs (k + 1)) := HS.out (by simp [letB]; omega)
          go_wp2
          go_roundw
          case rel => exact ⟨k + 1, by omega, by go_num, HF.out, by first | rfl | trivial⟩
          case measure => simp [intOf]; omega
    · have HF : Hid (xs.all letB = true) := all_of_fstAll (by rw [Hn.out]; have e : k = n := by omega
                                                              rw [← e]; exact hall)
      have hlt' : ¬ (k : Int) < (n : Int) := by omega
      go_wp2
      go_ret
      exact ⟨ret_bool (by rw [HO.out, HF.out]), rfl⟩

set_option maxHeartbeats 800000 in
theorem spec_NameOk_any (a : Option Addr) (c1 : Nat) (xs : List Int) (w : World) (ha : Seg w a xs) (hl : xs.length ≤ maxLen) :
    Calls Tryd.prog 35 #[.slice a xs.length c1] w fun e w' => e = .returned (.bool (nameB xs)) ∧ w = w' := by
  unfold maxLen at hl
  by_cases h1 : xs.length < 1
  · have HO : Hid (nameB xs = false) := nameB_short xs h1
    have h1' : (xs.length : Int) < 1 := by omega
    go_enter Tryd.func35, Tryd.ntmps35
    go_wp2
    go_ret
    exact ⟨ret_bool HO.out.symm, rfl⟩
  by_cases h2 : 8 < xs.length
  · have HO : Hid (nameB xs = false) := nameB_long xs h2
    have h1' : ¬ (xs.length : Int) < 1 := by omega
    have h2' : (8 : Int) < (xs.length : Int) := by omega
    go_enter Tryd.func35, Tryd.ntmps35
    go_wp2
    go_ret
    exact ⟨ret_bool HO.out.symm, rfl⟩
  have HO : Hid (nameB xs = xs.all letB) := nameB_all xs (by omega) (by omega)
  have hb := getD_byt ha.1
  generalize hn : xs.length = n at *
  have Hn : Hid (xs.length = n) := hn
  have h1' : ¬ (n : Int) < 1 := by omega
  have h2' : ¬ (8 : Int) < (n : Int) := by omega
  clear hn
  go_enter Tryd.func35, Tryd.ntmps35
  go_wp2
  go_loopw [3] (fun i wr => ∃ k : Nat, k ≤ n ∧ i = .int .i64 k ∧ fstAll letB xs k ∧ wr = w) (fun i _ => n - (intOf i).toNat)
  case atStart => exact ⟨0, Nat.zero_le _, rfl, fstAll_zero _ _, rfl⟩
  case round =>
    obtain ⟨k, hk, rfl, hall, rfl⟩ := hrel
    by_cases hlt : k < n
    · obtain ⟨b1, o1, rfl, hc1⟩ := ha.at (k := k) (by have := Hn.out; omega)
      have hbk := hb k
      have HS : Hid (letB (xs.getD k 0) = true → fstAll letB xs (k + 1)) := fun h => fstAll_succ hall h
      have HN : Hid (letB (xs.getD k 0) = false → xs.all letB = false) := fun h => not_all_of (by have := Hn.out; omega) h
      generalize xs.getD k 0 = c at hc1 hbk HS HN
      have hlt' : (k : Int) < (n : Int) := by omega
      obtain ⟨hb1, hb2⟩ := hbk
      by_cases hc : c < 97
      · have HF : Hid (xs.all letB = false) := HN.out (by simp [letB]; omega)
        go_wp2
        go_ret
        exact ⟨ret_bool (by rw [HO.out, HF.out]), rfl⟩
      · by_cases hd : 122 < c
        · have HF : Hid (xs.all letB = false) := HN.out (by simp [letB]; omega)
          go_wp2
          go_ret
          exact ⟨ret_bool (by rw [HO.out, HF.out]), rfl⟩
        · have HF : Hid (fstAll letB xs (k + 1)) := HS.out (by simp [letB]; omega)
          go_wp2
          go_roundw
          case rel => exact ⟨k + 1, by omega, by go_num, HF.out, by first | rfl | trivial⟩
          case measure => simp [intOf]; omega
    · have HF : Hid (xs.all letB = true) := all_of_fstAll (by rw [Hn.out]; have e : k = n := by omega
                                                              rw [← e]; exact hall)
      have hlt' : ¬ (k : Int) < (n : Int) := by omega
      go_wp2
      go_ret
      exact ⟨ret_bool (by rw [HO.out, HF.out]), rfl⟩
end Go.Proofs.YtfokidhamjphfaaDoor
